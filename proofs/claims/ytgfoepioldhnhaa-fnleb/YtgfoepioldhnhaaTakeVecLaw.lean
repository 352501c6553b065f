/- The law on TakeVec is true at every text and place. -/
import Derived.Test.YtgfoepioldhnhaaRowy
namespace Go.Proofs.Ytgfoepioldhnhaa
open Go.RowKit
set_option linter.unusedVariables false

theorem vecOf_length (s : ByteArray) (a : Int) (xs : List Int) (p : Nat) (h : vecOf s a = some (xs, p)) : xs.length ≤ 50 := by
  unfold vecOf at h
  cases hr : resU s a with
  | none => simp [hr] at h
  | some me =>
    obtain ⟨m, e⟩ := me
    have hp := resU_pos s a m e hr
    by_cases h50 : m ≤ 50
    · simp [hr, h50] at h
      have := rd_length s _ _ _ _ _ h
      simp at this
      omega
    · simp [hr, h50] at h

theorem Row.block_lt {w : World} {a : Option Addr} {xs : List Int} (h : Row w a xs) {b off : Nat} (ha : a = some ⟨b, off, none⟩) (hne : xs ≠ []) : b < w.heap.size := by
  rcases h with h | ⟨b', off', rfl, hc⟩
  · exact absurd h hne
  · cases ha
    exact World.block_lt_of_cell? w _ (hc 0 (by cases xs with | nil => exact absurd rfl hne | cons x xs => simp))

theorem Row.grown {w w' : World} {row : Option Nat} {a : Option Addr} {xs : List Int} (h : Row w a xs) (hg : w.grownBy w' row) (hne : ∀ b off, a = some ⟨b, off, none⟩ → xs ≠ [] → some b ≠ row) : Row w' a xs := by
  by_cases hx : xs = []
  · exact .inl hx
  · rcases h with h | ⟨b, off, rfl, hc⟩
    · exact absurd h hx
    · exact .inr ⟨b, off, rfl, fun i hi => hg.cell (hc i hi) (hne b off rfl hx)⟩

theorem row_marks {w : World} {B : Nat} {a : Option Addr} {n c : Nat} (h : w.ownsRow B 3 1 (.slice a n c) n (ints (marks 1 n))) : Row w a (marks 1 n) := by
  have h2 : w.ownsRow B 3 1 (.slice a n c) (marks 1 n).length (ints (marks 1 n)) := by rw [marks_length]; exact h
  obtain ⟨a', c', e, r⟩ := Row.of_owned h2
  rw [marks_length] at e
  cases e
  exact r

set_option maxHeartbeats 1000000 in
theorem lawTakeVec_some (s : ByteArray) (a : Int) (w : World) (hm : s.size ≤ 9223372036854775807) (hl : ¬ (1048576 : Int) < s.size) (xs : List Int) (p : Nat) (HV : Hid (vecOf s a = some (xs, p))) :
    Calls Try.prog 14 #[.string s, .int .i64 a] w fun e w' => e = .returned (.bool true) ∧ Below w.heap.size w w' := by
  have hx := vecOf_length s a xs p HV.out
  go_enter Try.func14, Try.ntmps14
  go_wp2_with fail
  refine (sTakeVec_any s a _ hm).mono ?_
  rintro e w1 ⟨hv, hb1⟩
  rw [HV.out] at hv
  obtain ⟨v0, rfl, ho0⟩ := hv
  obtain ⟨a0, c0, rfl, r0⟩ := Row.of_owned ho0
  go_wp2_with fail
  refine (iTakeVec_any s a _ hm).mono ?_
  rintro e w2 ⟨hv, hb2⟩
  rw [HV.out] at hv
  obtain ⟨v1, rfl, ho1⟩ := hv
  obtain ⟨a1, c1, rfl, r1⟩ := Row.of_owned ho1
  go_wp2_with fail
  refine (eqIntS_same a1 a0 c1 c0 xs _ (by omega) r1 (r0.below hb2)).mono ?_
  rintro e w3 ⟨rfl, q3, rfl⟩
  go_wp2_with fail
  refine (mark_any w1.heap.size _ xs (w2.drewN q3) (by omega) ho1).mono ?_
  rintro e w4 ⟨rfl, ho4, hg4⟩
  have r4 : Row w4 a1 (marks 1 xs.length) := row_marks ho4
  have r04 : Row w4 a0 xs := ((r0.below hb2).kept (w' := w2.drewN q3) fun _ _ => rfl).grown hg4 (fun b off ha hne e => by
    have h1 := r0.block_lt ha hne
    have h2 := (ho1.lt b e.symm).1
    omega)
  have hB4 : Below w.heap.size w w4 := (below_drewN (hb1.trans (hb2.mono hb1.size)) q3).grown hg4 (by have := hb1.size; have := hb2.size; simp; omega) (fun k hk => by have := (ho1.lt k hk).1; have := hb1.size; omega)
  clear ho0 ho1 ho4 hg4 r1 hb1 hb2 r0
  go_wp2_with fail
  refine (held_any a1 c1 xs.length _ (by omega) r4).mono ?_
  rintro e w5 ⟨rfl, hw5⟩
  subst w5
  go_wp2_with fail
  refine (iTakeVec_any s a _ hm).mono ?_
  rintro e w6 ⟨hv, hb6⟩
  rw [HV.out] at hv
  obtain ⟨v2, rfl, ho6⟩ := hv
  obtain ⟨a2, c2, rfl, r2⟩ := Row.of_owned ho6
  clear ho6
  go_wp2_with fail
  refine (eqIntS_same a2 a0 c2 c0 xs _ (by omega) r2 (r04.below hb6)).mono ?_
  rintro e w7 ⟨rfl, q7, rfl⟩
  go_wp2_with fail
  refine (held_any a1 c1 xs.length (w6.drewN q7) (by omega) ((r4.below hb6).kept fun _ _ => rfl)).mono ?_
  rintro e w8 ⟨rfl, hw8⟩
  subst w8
  go_wp2
  go_ret
  exact ⟨rfl, below_drewN (hB4.trans (hb6.mono hB4.size)) q7⟩

set_option maxHeartbeats 1000000 in
theorem lawTakeVec_none (s : ByteArray) (a : Int) (w : World) (hm : s.size ≤ 9223372036854775807) (hl : ¬ (1048576 : Int) < s.size) (HV : Hid (vecOf s a = none)) :
    Calls Try.prog 14 #[.string s, .int .i64 a] w fun e w' => e = .returned (.bool true) ∧ Below w.heap.size w w' := by
  go_enter Try.func14, Try.ntmps14
  go_wp2_with fail
  refine (sTakeVec_any s a _ hm).mono ?_
  rintro e w1 ⟨hv, hb1⟩
  rw [HV.out] at hv
  obtain rfl := hv
  go_wp2_with fail
  refine (iTakeVec_any s a _ hm).mono ?_
  rintro e w2 ⟨hv, hb2⟩
  rw [HV.out] at hv
  obtain rfl := hv
  go_wp2_with fail
  refine (eqIntS_same none none 0 0 [] _ (by simp) (.inl rfl) (.inl rfl)).mono ?_
  rintro e w3 ⟨rfl, q3, rfl⟩
  go_wp2_with fail
  refine (mark_any w.heap.size _ [] (w2.drewN q3) (by simp) (World.ownsRow_nil _ _ _ _)).mono ?_
  rintro e w4 ⟨rfl, ho4, hg4⟩
  have hB4 : Below w.heap.size w w4 := (below_drewN (hb1.trans (hb2.mono hb1.size)) q3).grown hg4 (by have := hb1.size; have := hb2.size; simp; omega) (fun k hk => by simp [Value.ownBlock] at hk)
  clear ho4 hg4 hb1 hb2
  go_wp2_with fail
  refine (held_any none 0 0 _ (by simp) (.inl rfl)).mono ?_
  rintro e w5 ⟨rfl, hw5⟩
  subst w5
  go_wp2_with fail
  refine (iTakeVec_any s a _ hm).mono ?_
  rintro e w6 ⟨hv, hb6⟩
  rw [HV.out] at hv
  obtain rfl := hv
  go_wp2_with fail
  refine (eqIntS_same none none 0 0 [] _ (by simp) (.inl rfl) (.inl rfl)).mono ?_
  rintro e w7 ⟨rfl, q7, rfl⟩
  go_wp2_with fail
  refine (held_any none 0 0 _ (by simp) (.inl rfl)).mono ?_
  rintro e w8 ⟨rfl, hw8⟩
  subst w8
  go_wp2
  go_ret
  exact ⟨rfl, below_drewN (hB4.trans (hb6.mono hB4.size)) q7⟩

/-- the law on TakeVec: true at every text and place -/
theorem lawTakeVec (s : ByteArray) (a : Int) (w : World) (hm : s.size ≤ 9223372036854775807) :
    Calls Try.prog 14 #[.string s, .int .i64 a] w fun e w' => e = .returned (.bool true) ∧ Below w.heap.size w w' := by
  by_cases hl : (1048576 : Int) < s.size
  · go_enter Try.func14, Try.ntmps14
    go_wp2
    go_ret
    exact ⟨rfl, Below.refl _ _⟩
  · cases hv : vecOf s a with
    | none => exact lawTakeVec_none s a w hm hl hv
    | some xp => obtain ⟨xs, p⟩ := xp; exact lawTakeVec_some s a w hm hl xs p hv
end Go.Proofs.Ytgfoepioldhnhaa
