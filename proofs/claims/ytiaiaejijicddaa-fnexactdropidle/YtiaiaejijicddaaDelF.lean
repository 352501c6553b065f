/- The library's Delete, of one flat step out of a row. -/
import Derived.Test.YtiaiaejijicddaaSLow
import Derived.Test.YtiaiaejijicddaaUseS
import Derived.Test.YtiaiaejijicddaaKitC
import Derived.Deep.RegionLaw
import Derived.Lib.SliceRun
namespace Go.Proofs.Ytiaiaejijicddaa
open Go Go.RowKit
set_option linter.unusedVariables false
set_option linter.unusedSimpArgs false
set_option maxRecDepth 100000

theorem own_setCellsG {B e size g c n : Nat} (vs : List Value) : ∀ (w : World) (o : Nat) (xs : List Value), w.ownsRow B e size (.slice (some ⟨g, 0, none⟩) n c) n xs → o + vs.length ≤ xs.length → (w.setCells g o vs).ownsRow B e size (.slice (some ⟨g, 0, none⟩) n c) n (xs.take o ++ vs ++ xs.drop (o + vs.length)) ∧ w.grownBy (w.setCells g o vs) (some g) := by
  induction vs with
  | nil => intro w o xs h ho; exact ⟨by simpa [World.setCells] using h, World.grownBy.refl _ _⟩
  | cons v r ih =>
    intro w o xs h ho
    simp at ho
    have h1 := World.ownsRow.stored h o v
    obtain ⟨h2, h3⟩ := ih (w.setCell ⟨g, o, none⟩ v) (o + 1) _ h1.1 (by rw [List.length_set]; omega)
    refine ⟨?_, h1.2.trans h3⟩
    have e : (xs.set o v).take (o + 1) ++ r ++ (xs.set o v).drop (o + 1 + r.length) = xs.take o ++ v :: r ++ xs.drop (o + (v :: r).length) := by
      rw [take_set_succ _ _ _ (by omega), List.drop_set_of_lt (by omega), show o + (v :: r).length = o + 1 + r.length by simp; omega]
      simp
    rw [e] at h2
    exact h2
def zero6 : List Value := [.int .i64 0, .int .i64 0, .int .i64 0, .int .i64 0, .int .i64 0, .int .i64 0]
theorem run_clear6 (w : World) (ty : TypeId) (b o c : Nat) (hc : ∀ j, j < 6 → (w.cell? ⟨b, o + j, none⟩).isSome = true) (hf : ∀ j, j < 6 → w.frozen? ⟨b, o + j, none⟩ = false) :
    (Builtin.clear_ #[27] ty #[.slice (some ⟨b, o, none⟩) 1 c]).run Try.prog w = .ok (.tuple #[]) (w.setCells b o zero6) := by
  have hv : ∀ w, (zeroValue 49).run Try.prog w = .ok (.agg #[.int .i64 0, .int .i64 0, .int .i64 0, .int .i64 0, .int .i64 0, .int .i64 0]) w := fun w => by kernel_rfl
  have hzc : (Builtin.zeroCells (Value.agg #[.int .i64 0, .int .i64 0, .int .i64 0, .int .i64 0, .int .i64 0, .int .i64 0]).cells 1).toList = zero6 := by kernel_rfl
  have hst := run_storeCells_cells (P := Try.prog) b o zero6 0 w (by simpa [zero6] using hc) (by simpa [zero6] using hf) (by intro v hv'; simp [zero6] at hv'; subst hv'; rfl)
  simp only [Nat.add_zero] at hst
  simp [Builtin.clear_, run_underlying Try.underlying27, hv, hzc, hst]
theorem flatF_nth (xs : List Flt) (j : Nat) : (flatF xs).drop (j * 6) = flatF (xs.drop j) ∧ (flatF xs).take (j * 6) = flatF (xs.take j) := by
  induction xs generalizing j with
  | nil => simp [flatF]
  | cons x r ih =>
    cases j with
    | zero => simp [flatF]
    | succ j =>
      obtain ⟨h1, h2⟩ := ih j
      rw [flatF_cons, show (j + 1) * 6 = j * 6 + 6 by omega]
      refine ⟨by simpa using h1, ?_⟩
      simp [h2, flatF_cons]
set_option maxHeartbeats 2000000 in
/-- one flat step goes from a row -/
theorem deleteF_any (B : Nat) (v : Value) (xs : List Flt) (p : Nat) (w : World) (hp : p < xs.length) (hl : xs.length ≤ 60) (h : w.ownsRow B 49 6 v xs.length (flatF xs)) :
    Calls Try.prog 54 #[v, .int .i64 (p : Int), .int .i64 ((p : Int) + 1)] w fun e w' => ∃ va vc, e = .returned (.slice va (xs.length - 1) vc) ∧ w'.ownsRow B 49 6 (.slice va (xs.length - 1) vc) (xs.length - 1) (flatF (xs.take p ++ xs.drop (p + 1))) ∧ w.grownBy w' v.ownBlock ∧ (Value.slice va (xs.length - 1) vc).ownBlock = v.ownBlock := by
  obtain ⟨i0, hi0, hz0, hz1, hz2⟩ := info_parts info86
  rcases h.2 with ⟨rfl, h0⟩ | ⟨g, cap, cur, rfl, hBg, hg, hn, hm, hsz, htk⟩
  · omega
  obtain ⟨m, hm1⟩ : ∃ m, xs.length = p + 1 + m := ⟨xs.length - (p + 1), by omega⟩
  have hml : xs.length - 1 = p + m := by omega
  rw [hml]
  have hcell : ∀ j u, (flatF xs)[j]? = some u → w.cell? ⟨g, j, none⟩ = some u := fun j u hu => rowT_at h rfl hu
  have hfl := flatF_length xs
  obtain ⟨news, hnews⟩ : ∃ news, news = flatF (xs.drop (p + 1)) := ⟨_, rfl⟩
  have hnl : news.length = m * 6 := by rw [hnews, flatF_length, List.length_drop]; omega
  have hnget : ∀ t u, news[t]? = some u → (flatF xs)[(p + 1) * 6 + t]? = some u := fun t u hu => by
    rw [hnews, ← (flatF_nth xs (p + 1)).1, List.getElem?_drop] at hu
    exact hu
  obtain ⟨o, ho, hs2⟩ := slice27 g 0 xs.length cap (p + 1) (by omega) hn
  rw [show xs.length - (p + 1) = m by omega] at hs2
  rw [show ((p + 1 : Nat) : Int) = (p : Int) + 1 by omega] at hs2
  have s1 : Hid (news.length = m * 6) := hnl
  have s2 : Hid (∀ u ∈ news, u.oneCell' = true) := by
    intro u hu
    rw [hnews] at hu
    obtain ⟨x, _, hx⟩ := List.mem_flatMap.1 hu
    simp [cellsF] at hx
    rcases hx with rfl | rfl | rfl | rfl | rfl | rfl <;> rfl
  have hsrc : Hid (∀ t u, news[t]? = some u → w.drew.cell? ((⟨g, o, none⟩ : Addr).add t) = some u) := by
    intro t u hu
    rw [addr_add]
    by_cases hlt : p + 1 < xs.length
    · rw [ho hlt, show 0 + (p + 1) * 6 + t = (p + 1) * 6 + t by omega]
      exact hcell _ _ (hnget t u hu)
    · have : news.length = 0 := by rw [hnl]; omega
      rw [List.length_eq_zero_iff.1 this] at hu
      simp at hu
  have some6 : ∀ t, t < xs.length * 6 → (w.cell? ⟨g, t, none⟩).isSome = true := fun t ht => by
    obtain ⟨u, hu⟩ : ∃ u, (flatF xs)[t]? = some u := ⟨_, List.getElem?_eq_getElem (by omega)⟩
    rw [hcell t u hu]; rfl
  have s3 : Hid (∀ t, t < news.length → (w.drew.cell? ⟨g, 0 + p * 6 + t, none⟩).isSome = true ∧ w.drew.frozen? ⟨g, 0 + p * 6 + t, none⟩ = false) := by
    intro t ht
    exact ⟨some6 _ (by omega), h.frozenAt _⟩
  have hpc : p ≤ cap := by omega
  have hs1 : ∀ W, (Instr.slice 27 (.slice (some ⟨g, 0, none⟩) (p + 1 + m) cap) none (some (.int .i64 (p : Int))) none).run Try.prog W = .ok (.slice (some ⟨g, 0, none⟩) p cap) W := fun W => by
    rw [run_slice_h W 27 _ (p + 1 + m) cap (by kernel_rfl) .i64 _ (by omega) (by omega)]
    simp [go_sem, sliced, addr_add]
  have hs3' : ∀ W, (Instr.slice 27 (.slice (some ⟨g, 0, none⟩) (p + m) cap) (some (.int .i64 ((p : Int) + (m : Int)))) (some (.int .i64 ((p : Int) + 1 + (m : Int)))) none).run Try.prog W = .ok (.slice (some ⟨g, (p + m) * 6, none⟩) 1 (cap - (p + m))) W := fun W => by
    rw [show (p : Int) + (m : Int) = ((p + m : Nat) : Int) by omega, show (p : Int) + 1 + (m : Int) = ((p + m + 1 : Nat) : Int) by omega, run_slice_lh W 27 _ (p + m) cap (by kernel_rfl) .i64 .i64 _ _ (by omega) (by omega) (by omega)]
    have h1 : ¬ cap = p + m := by omega
    rw [Int.toNat_natCast, Int.toNat_natCast]
    simp [go_sem, sliced, addr_add, h1]
  rw [hm1] at hs2
  obtain ⟨W1, hW1⟩ : ∃ W1, W1 = w.drew.setCells g (0 + p * 6) news := ⟨_, rfl⟩
  obtain ⟨ho1, hg1⟩ := own_setCellsG news w.drew (0 + p * 6) (flatF xs) h (by omega)
  rw [← hW1] at ho1 hg1
  have hL1 : (flatF xs).take (0 + p * 6) ++ news ++ (flatF xs).drop (0 + p * 6 + news.length) = flatF (xs.take p ++ xs.drop (p + 1)) ++ (flatF xs).drop ((p + m) * 6) := by
    rw [Nat.zero_add, (flatF_nth xs p).2, hnews, flatF_append, flatF_length (xs.drop (p + 1)), List.length_drop, show p * 6 + (xs.length - (p + 1)) * 6 = (p + m) * 6 by omega]
  rw [hL1] at ho1
  have hkl : (flatF (xs.take p ++ xs.drop (p + 1))).length = (p + m) * 6 := by rw [flatF_length, List.length_append, List.length_take, List.length_drop]; omega
  have hl2 : ((flatF xs).drop ((p + m) * 6)).length = 6 := by rw [List.length_drop, hfl]; omega
  have hcl : ∀ ty, (Builtin.clear_ #[27] ty #[.slice (some ⟨g, (p + m) * 6, none⟩) 1 (cap - (p + m))]).run Try.prog W1 = .ok (.tuple #[]) (W1.setCells g ((p + m) * 6) zero6) := fun ty =>
    run_clear6 W1 ty g ((p + m) * 6) _ (fun j hj => by
      obtain ⟨u, hu⟩ : ∃ u, (flatF (xs.take p ++ xs.drop (p + 1)) ++ (flatF xs).drop ((p + m) * 6))[(p + m) * 6 + j]? = some u := ⟨_, List.getElem?_eq_getElem (by rw [List.length_append, hkl, hl2]; omega)⟩
      rw [rowT_at ho1 rfl hu]; rfl) (fun j hj => ho1.frozenAt _)
  obtain ⟨ho2, hg2⟩ := own_setCellsG zero6 W1 ((p + m) * 6) _ ho1 (by rw [List.length_append, hkl, hl2]; simp [zero6])
  have ho3 := own_cut ho2 (m := p + m) (by omega)
  rw [show ((flatF (xs.take p ++ xs.drop (p + 1)) ++ (flatF xs).drop ((p + m) * 6)).take ((p + m) * 6) ++ zero6 ++ (flatF (xs.take p ++ xs.drop (p + 1)) ++ (flatF xs).drop ((p + m) * 6)).drop ((p + m) * 6 + zero6.length)).take ((p + m) * 6) = flatF (xs.take p ++ xs.drop (p + 1)) by
    rw [List.append_assoc, List.take_append_of_le_length (by rw [List.length_take, List.length_append, hkl]; omega), List.take_take, Nat.min_self, List.take_append_of_le_length (by omega), List.take_of_length_le (by omega)]] at ho3
  have HO := hid ho3
  have HG : Hid (w.grownBy (W1.setCells g ((p + m) * 6) zero6) (some g)) := (show w.grownBy w.drew (some g) from grownBy_of_below ((Below.refl _ w).drew) _).trans (hg1.trans hg2)
  have hW : Hid (W1 = w.drew.setCells g (0 + p * 6) news) := hW1
  have hpq : ¬ (p : Int) = (p : Int) + 1 := by omega
  have hpq2 : ((p : Int) == (p : Int) + 1) = false := by simp; omega
  clear h hcell hnews hnget some6 ho1 hg1 ho2 hg2 ho3 hW1 hL1 hkl hl2 htk hg ho hml
  go_enter Try.func54, Try.ntmps54
  go_wp2_with fail
  go_region_held_law (fun W => True) (trivial) ((first | (refine step_append_room (by rfl) (.tmp 22) (.tmp 25) 27 rfl 49 i0 6 Try.underlying27 hi0 hz1 g 0 p cap (by simp [Act.eval, Act.put]) ⟨g, o, none⟩ m (cap - (p + 1)) news (by simp [Act.eval, Act.put]) s1.out hsrc.out s2.out (by omega) s3.out ?_; rw [← hW.out])))
  all_goals
    go_wp2
    go_ret
    exact ⟨_, _, rfl, HO.out, HG.out, rfl⟩
end Go.Proofs.Ytiaiaejijicddaa
