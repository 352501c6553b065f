/- What is needed ahead of one flat step, as the program tells it. -/
import Derived.Test.YtiaiaejijicddaaNeedMath
import Derived.Test.YtiaiaejijicddaaLibD
import Derived.Test.YtiaiaejijicddaaIuse
import Derived.Test.YtiaiaejijicddaaKitC
import Derived.Test.YtiaiaejijicddaaUseI
namespace Go.Proofs.Ytiaiaejijicddaa
open Go Go.RowKit
set_option linter.unusedVariables false
set_option linter.unusedSimpArgs false
set_option maxRecDepth 100000

theorem row_only {P : Nat → Prop} {w w' : World} {a : Option Addr} {xs : List Int} (h : Row w a xs) (ho : Only P w w') (hn : ∀ b off, a = some ⟨b, off, none⟩ → ¬ P b) : Row w' a xs := by
  rcases h with h | ⟨b, off, rfl, hc⟩
  · exact .inl h
  · refine .inr ⟨b, off, rfl, fun i hi => ?_⟩
    have h1 := hc i hi
    have h2 := ho.block b (World.block_lt_of_cell? w _ h1) (hn b off rfl)
    rw [← h1]
    simp only [World.cell?, h2]
/-- the names that come to be by a flat step -/
def bornF (x : Flt) : List Nat := if setsB x.op then [dstN x] else []
set_option maxHeartbeats 1000000 in
theorem bornBy_any (x : Flt) (w : World) (hg : goodFm 8 x = true) :
    Calls Try.prog 68 #[.agg #[.int .i64 x.op, .int .i64 x.d, .int .i64 x.dst, .int .i64 x.a, .int .i64 x.b, .int .i64 x.n]] w fun e w' => ∃ a c, e = .returned (.slice a (bornF x).length c) ∧ w'.ownsRow w.heap.size 3 1 (.slice a (bornF x).length c) (bornF x).length (ints (nats (bornF x))) ∧ Below w.heap.size w w' := by
  obtain ⟨dv, hd1, hd2, -⟩ := deed_of x
  have b1 := below1 w (.cells #[.int .i64 x.op, .int .i64 x.d, .int .i64 x.dst, .int .i64 x.a, .int .i64 x.b, .int .i64 x.n] 49)
  have HD1 := hid hd1
  cases hs : setsB x.op with
  | false =>
    rw [makeF_none hs] at hd2
    have HD2 := hid hd2
    have HE : Hid (bornF x = []) := by show _ = _; simp [bornF, hs]
    rw [HE.out]
    clear hd1 hd2 hs
    go_enter Try.func68, Try.ntmps68
    go_wp2_with (first | (go_at_call 42; refine (HD1.out _).mono ?_; rintro e w1 ⟨rfl, hb1⟩) | (go_at_call 41; refine (HD2.out _).mono ?_; rintro e w2 ⟨rfl, hb2⟩))
    go_ret
    exact ⟨none, 0, rfl, World.ownsRow_nil _ _ _ _, bstep' (bstep' b1 hb1) hb2⟩
  | true =>
    have hdn := dstN_nat hg
    rw [makeF_sets hs] at hd2
    have HD2 := hid hd2
    have HE : Hid (bornF x = [dstN x]) := by show _ = _; simp [bornF, hs]
    rw [HE.out]
    have h0 := (dst_low hg).1
    obtain ⟨t, ht⟩ : ∃ t, x.dst = t := ⟨_, rfl⟩
    have HN : Hid (ints (nats [dstN x]) = [.int .i64 t]) := by show _ = _; rw [← ht, ← hdn]; rfl
    rw [HN.out]
    rw [ht] at HD1 HD2 b1 h0 ⊢
    have h1 : (t != -1) = true := by simp; omega
    have h2 : ¬ t = -1 := by omega
    clear hd1 hd2 hs ht hdn
    go_enter Try.func68, Try.ntmps68
    go_wp2_with (first | (go_at_call 42; refine (HD1.out _).mono ?_; rintro e w1 ⟨rfl, hb1⟩) | (go_at_call 41; refine (HD2.out _).mono ?_; rintro e w2 ⟨rfl, hb2⟩))
    have HO := own_alloc w2 #[.int .i64 t] 1 1 rfl (by omega) (by unfold maxLen; omega)
    have HB := bstep' (bstep' b1 hb1) hb2
    go_ret
    exact ⟨_, _, rfl, owns_mono (by simpa using HO) HB.size, bstep' HB (below1 _ _)⟩
theorem usedByB_any (x : Flt) (w : World) :
    Calls Try.prog 70 #[deedV x] w fun e w' => ∃ a, e = .returned (.slice a (useD x).length (useD x).length) ∧ Row w' a (useD x) ∧ Below w.heap.size w w' ∧ ∀ b off, a = some ⟨b, off, none⟩ → w.heap.size ≤ b := by
  obtain ⟨p, d, t, a, b, n⟩ := x
  by_cases h1 : p = 1
  · subst h1; exact (usedBy_1 t n w).mono fun e w' ⟨h, hb⟩ => ⟨none, h, .inl rfl, hb, fun _ _ h => by cases h⟩
  by_cases h2 : p = 2
  · subst h2; rw [show useD ⟨2, d, t, a, b, n⟩ = [a] by simp [useD, usesF, inB]]; exact (usedBy_2 t a w).mono fun e w' ⟨h, c0, hb⟩ => ⟨_, h, row_one c0, hb, fun _ _ h => by injection h with h; injection h with h; omega⟩
  by_cases h3 : p = 3
  · subst h3; rw [show useD ⟨3, d, t, a, b, n⟩ = [a, b] by simp [useD, usesF, inB]]; exact (usedBy_3 d t a b w).mono fun e w' ⟨h, c0, c1, hb⟩ => ⟨_, h, row_two c0 c1, hb, fun _ _ h => by injection h with h; injection h with h; omega⟩
  by_cases h4 : p = 4
  · subst h4; rw [show useD ⟨4, d, t, a, b, n⟩ = [a] by simp [useD, usesF, inB]]; exact (usedBy_4 t a w).mono fun e w' ⟨h, c0, hb⟩ => ⟨_, h, row_one c0, hb, fun _ _ h => by injection h with h; injection h with h; omega⟩
  by_cases h5 : p = 5
  · subst h5; rw [show useD ⟨5, d, t, a, b, n⟩ = [a, b] by simp [useD, usesF, inB]]; exact (usedBy_5 a b w).mono fun e w' ⟨h, c0, c1, hb⟩ => ⟨_, h, row_two c0 c1, hb, fun _ _ h => by injection h with h; injection h with h; omega⟩
  by_cases h6 : p = 6
  · subst h6; rw [show useD ⟨6, d, t, a, b, n⟩ = [a] by simp [useD, usesF, inB]]; exact (usedBy_6 a w).mono fun e w' ⟨h, c0, hb⟩ => ⟨_, h, row_one c0, hb, fun _ _ h => by injection h with h; injection h with h; omega⟩
  simp only [deedV, h1, h2, h3, h4, h5, h6, if_false]; rw [show useD ⟨p, d, t, a, b, n⟩ = [] by simp only [useD, inB, Bool.and_eq_true, decide_eq_true_eq]; rw [if_neg]; omega]; exact (usedBy_0 w).mono fun e w' ⟨h, hw⟩ => ⟨none, h, .inl rfl, hw ▸ Below.refl _ _, fun _ _ h => by cases h⟩
end Go.Proofs.Ytiaiaejijicddaa
