/- What both JoinFlow tell. -/
import Derived.Test.YtbibcjhfiopgdaaDoorJoinS
import Derived.Test.YtbibcjhfiopgdaaDoorPreds7
namespace Go.Proofs.YtbibcjhfiopgdaaDoor
set_option linter.unusedVariables false

theorem exists_joins : ∀ (n : Nat) (f : List Blk) (l : List Nat), goodFlow f = true → IsRch f l → l.length ≤ n → ∃ g, Joins f g ∧ goodFlow g = true
  | n, f, l, hg, hl, hn => by
    obtain ⟨P, hP, _⟩ := exists_preds hg
    rcases exists_first (f := f) (P := P) l with h | ⟨k, hk⟩
    · exact ⟨f, .done hl hP h, hg⟩
    · obtain ⟨i, h1, ⟨t, b, o, hc⟩, h3⟩ := id hk
      have hkr := (hl.2 k).1 (List.mem_of_getElem? h1)
      obtain ⟨l', hl', _⟩ := exists_rch (hc.good hg)
      have hlt := rch_less hl hl' (hc.fewer hP hkr).1 (hc.fewer hP hkr).2
      match n, hn with
      | 0, hn => omega
      | n + 1, hn =>
        obtain ⟨g, hj, hgg⟩ := exists_joins n _ l' (hc.good hg) hl' (by omega)
        exact ⟨g, .step hl hP hk hc hj, hgg⟩
/-- what JoinFlow tells -/
def JoinY (f T : List Blk) : Prop := (goodFlow f = true → ∃ g l, Joins f g ∧ IsRch g l ∧ T = trimB g l) ∧ (goodFlow f = false → T = [])
theorem exists_joinY (f : List Blk) : ∃ T, JoinY f T ∧ T.length ≤ 64 ∧ sumB T ≤ 4224 := by
  cases hg : goodFlow f with
  | true =>
    obtain ⟨l0, hl0, _⟩ := exists_rch hg
    obtain ⟨g, hj, hgg⟩ := exists_joins _ f l0 hg hl0 (Nat.le_refl _)
    obtain ⟨l, hl, h64⟩ := exists_rch hgg
    have h1 := trimB_len hgg h64
    exact ⟨_, ⟨fun _ => ⟨g, l, hj, hl, rfl⟩, fun h => (by rw [hg] at h; cases h)⟩, h1.1, h1.2⟩
  | false => exact ⟨[], ⟨fun h => (by rw [hg] at h; cases h), fun _ => rfl⟩, by simp, by simp [sumB]⟩
end Go.Proofs.YtbibcjhfiopgdaaDoor
