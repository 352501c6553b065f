/- What the model's PutSection answers, at every list of sections, nil or not, good or not. -/
import Derived.Test.YtjbmkkoggocemaaPut3
namespace Go.Proofs.Ytjbmkkoggocemaa
open Go.RowKit
set_option linter.unusedVariables false
set_option linter.unusedSimpArgs false

set_option maxHeartbeats 4000000 in
set_option maxRecDepth 100000 in
theorem sPut_none (id : Int) (s : ByteArray) (w : World) (hs : s.size ≤ 9223372036854775807) (hin : inB 1 11 id = true) (h2 : s.size ≤ 200) :
    Calls Try.prog 35 #[.slice none 0 0, .int .i64 id, .string s] w fun e w' => ∃ v, e = .returned (.tuple #[v, .bool (putG [] id s)]) ∧ Owns w' w.heap.size v (putP [] id s) ∧ Below w.heap.size w w' := by
  obtain ⟨i0, hi, hz0, hz1, hz2⟩ := info_parts info31
  have hg : goodB [] = true := rfl
  have hgd := fun w => sGood_any none 0 [] w (by simp) (.inl rfl)
  rw [hg] at hgd
  have HGD : Hid (∀ w, Calls Try.prog 24 #[.slice none 0 0] w fun e w' => e = .returned (.bool true) ∧ Below w.heap.size w w') := hgd
  clear hgd hg
  go_enter Try.func35, Try.ntmps35
  go_wp2_with fail
  refine (HGD.out _).mono ?_
  rintro e w1 ⟨rfl, B1⟩
  go_wp2_with (go_at_call 51; refine (l1In_any _ _ _ _).mono ?_; rintro e w' ⟨rfl, hw⟩; subst w')
  go_loopw [8] (fun t wr => t = .int .i64 0 ∧ wr = w1) (fun t _ => 0)
  case atStart => exact ⟨rfl, rfl⟩
  case round =>
    obtain ⟨rfl, rfl⟩ := hrel
    have Ba : Below w.heap.size w (wr.alloc (.cells #[.int .i64 id, .string s] 31)) := B1.alloc B1.size _
    go_wp2_with (at_builtin; refine wpList_append_own _ rfl _ _ 23 rfl w.heap.size 31 i0 (.agg #[.int .i64 0, .string ⟨#[]⟩]) 2 24 Try.underlying23 hi hz0 hz1 hz2 rfl (by decide) _ _ _ rfl (World.ownsRow_nil _ _ _ _) ⟨wr.heap.size, 0, none⟩ 1 1 [.int .i64 id, .string s] rfl rfl ?c1 ?c2 ?c3 ?c4 ?c5 ?_)
    case c1 =>
      intro j u hj
      match j, hj with
      | 0, hj => simp at hj; subst hj; simp [Addr.add]
      | 1, hj => simp at hj; subst hj; simp [Addr.add]
    case c2 => intro u hu; simp at hu; rcases hu with rfl | rfl <;> rfl
    case c3 => unfold maxLen; omega
    case c4 => omega
    case c5 => have := B1.size; simp; omega
    intro v3 w3 O3 g3 _
    have B3 : Below w.heap.size w w3 := below_grown Ba (Nat.le_refl _) g3 (fun k hk => by cases hk)
    have O3' : Owns w3 w.heap.size v3 (putL [] id s) := by rw [put_nil]; exact O3
    have hln : (putL [] id s).length = 1 := by rw [put_nil]; rfl
    have hsz : ∀ x ∈ putL [] id s, x.2.size ≤ 9223372036854775807 := by rw [put_nil]; intro x hx; simp at hx; subst hx; exact hs
    obtain ⟨a3, c3, rfl⟩ := O3'.slice
    rw [hln] at O3 ⊢
    have hrow := (O3'.row hsz).2
    have hg4 := fun w h => sGood_any a3 c3 (putL [] id s) w (by omega) h
    rw [hln] at hg4
    go_wp2_with (at_builtin; refine wpList_append_own_none rfl _ _ 23 rfl w.heap.size 31 i0 2 Try.underlying23 hi _ _ _ rfl O3 rfl ?_)
    cases hgp : goodB (putL [] id s) with
    | false =>
      rw [hgp] at hg4
      have hG : putG [] id s = false := by unfold putG; rw [hgp, Bool.and_false]
      have hY : putP [] id s = [] := by unfold putP; rw [hG]; rfl
      clear hgp
      go_wp2_with (go_at_call 24; refine (hg4 _ hrow).mono ?_; rintro e w5 ⟨rfl, hb5⟩)
      go_ret2
      refine ⟨_, by rw [hG]; rfl, ?_, bstep B3 (Nat.le_refl _) hb5⟩
      rw [hY]
      exact World.ownsRow_nil _ _ _ _
    | true =>
      rw [hgp] at hg4
      have hG : putG [] id s = true := by unfold putG; rw [hgp, hin]; rfl
      have hY : putP [] id s = putL [] id s := by unfold putP; rw [hG]; rfl
      clear hgp
      go_wp2_with (go_at_call 24; refine (hg4 _ hrow).mono ?_; rintro e w5 ⟨rfl, hb5⟩)
      go_ret2
      refine ⟨_, by rw [hG]; rfl, ?_, bstep B3 (Nat.le_refl _) hb5⟩
      rw [hY]
      have := O3'.below hb5
      rw [hln] at this
      exact this

set_option maxRecDepth 100000 in
theorem sPut_any (a : Option Addr) (c : Nat) (xs : List Sec) (id : Int) (s : ByteArray) (w : World) (hl : xs.length ≤ 9223372036854775807) (hs : s.size ≤ 9223372036854775807) (h : PRow w a c xs) :
    Calls Try.prog 35 #[.slice a xs.length c, .int .i64 id, .string s] w fun e w' => ∃ v, e = .returned (.tuple #[v, .bool (putG xs id s)]) ∧ Owns w' w.heap.size v (putP xs id s) ∧ Below w.heap.size w w' := by
  have hgd := fun w h => sGood_any a c xs w hl h
  have hr := h.row
  cases hg : goodB xs with
  | false =>
    rw [hg] at hgd
    have hG : putG xs id s = false := by unfold putG; rw [hg]; rfl
    have hY : putP xs id s = [] := by unfold putP; rw [hG]; rfl
    rw [hG, hY]
    clear h
    go_enter Try.func35, Try.ntmps35
    go_wp2_with (go_at_call 24; refine (hgd _ hr).mono ?_; rintro e w1 ⟨rfl, hb1⟩)
    go_ret2
    exact ⟨_, rfl, World.ownsRow_nil _ _ _ _, hb1⟩
  | true =>
    rw [hg] at hgd
    cases hin : inB 1 11 id with
    | false =>
      have hG : putG xs id s = false := by unfold putG; rw [hin, Bool.and_false]; rfl
      have hY : putP xs id s = [] := by unfold putP; rw [hG]; rfl
      rw [hG, hY]
      clear h
      go_enter Try.func35, Try.ntmps35
      go_wp2_with (first | (go_at_call 24; refine (hgd _ hr).mono ?_; rintro e w1 ⟨rfl, hb1⟩) | (go_at_call 51; refine (l1In_any _ _ _ _).mono ?_; rintro e w' ⟨rfl, hw⟩; subst w'))
      go_ret2
      exact ⟨_, rfl, World.ownsRow_nil _ _ _ _, hb1⟩
    | true =>
      by_cases h2 : s.size ≤ 200
      · rcases h with ⟨rfl, rfl, rfl⟩ | ⟨b, off, rfl, h, hcap, hc⟩
        · exact sPut_none id s w hs hin h2
        · exact sPut_some b off c xs id s w hs hcap hc h hg hin h2
      · have hG : putG xs id s = false := by unfold putG; rw [put_long h2, Bool.and_false]
        have hY : putP xs id s = [] := by unfold putP; rw [hG]; rfl
        rw [hG, hY]
        clear h
        go_enter Try.func35, Try.ntmps35
        go_wp2_with (first | (go_at_call 24; refine (hgd _ hr).mono ?_; rintro e w1 ⟨rfl, hb1⟩) | (go_at_call 51; refine (l1In_any _ _ _ _).mono ?_; rintro e w' ⟨rfl, hw⟩; subst w'))
        go_ret2
        exact ⟨_, rfl, World.ownsRow_nil _ _ _ _, hb1⟩
end Go.Proofs.Ytjbmkkoggocemaa
