/- The program's NeedsAhead. -/
import Derived.Test.YtiaiaejijicddaaINeed2
import Derived.Test.YtiaiaejijicddaaBackW
import Derived.Test.YtiaiaejijicddaaLibS
import Derived.Test.YtiaiaejijicddaaOnceL
namespace Go.Proofs.Ytiaiaejijicddaa
open Go Go.RowKit Go.Shelf
attribute [local go_sem] Oper.semAt_some
set_option linter.unusedVariables false
set_option linter.unusedSimpArgs false
set_option maxRecDepth 100000

theorem backL_next {xs : List Flt} {pre : List (Nat × Flt)} {x : Nat × Flt} (h : (pre ++ [x]) <+: backL xs) (hlen : pre.length < xs.length) : xs[xs.length - 1 - pre.length]? = some x.2 ∧ x.1 = xs.length - 1 - pre.length := by
  obtain ⟨y, hy, hb⟩ := backL_at xs hlen
  obtain ⟨t, ht⟩ := h
  have h1 : (backL xs)[pre.length]? = some x := by rw [← ht]; simp
  rw [hb] at h1
  cases h1
  exact ⟨hy, rfl⟩
theorem need_low {ks : List Nat} {xs : List Flt} (hk : ∀ k ∈ ks, k < 8) (hx : ∀ y ∈ xs, goodFm 8 y = true) {k : Nat} (h : k ∈ needP ks xs) : k < 8 := by
  rw [needP_mem] at h
  induction xs with
  | nil => exact hk k h
  | cons y r ih =>
    rcases h with h | h
    · exact usesN_low (hx y (by simp)) k h
    · exact ih (fun z hz => hx z (List.mem_cons_of_mem _ hz)) h.1
set_option maxHeartbeats 2000000 in
theorem iNeeds_good (a ka : Option Addr) (c kc : Nat) (xs : List Flt) (ks : List Int) (w : World) (hlow : lowL xs = true) (hkeep : keepL ks = true) (h : FRow w a xs) (hK : Row w ka ks) :
    Calls Try.prog 21 #[.slice a xs.length c, .slice ka ks.length kc] w fun e w' => (∃ va vc, e = .returned (.tuple #[.slice va (needL xs ks).length vc, .bool true]) ∧ w'.ownsRow w.heap.size 3 1 (.slice va (needL xs ks).length vc) (needL xs ks).length (ints (nats (needL xs ks)))) ∧ Below w.heap.size w w' := by
  obtain ⟨hkn, hkl, hk8⟩ := keepN_low hkeep
  have hl60 := low_few hlow
  have HA := hid (areToStack_any a ka c kc xs ks w (by omega) (by omega) h hK)
  rw [hlow, hkeep] at HA
  have HA : Hid (Calls Try.prog 39 #[.slice a xs.length c, .slice ka ks.length kc] w fun e w' => e = .returned (.bool true) ∧ Below w.heap.size w w') := HA.out
  obtain ⟨kn, hkn2⟩ : ∃ kn, ks.map Int.toNat = kn := ⟨_, rfl⟩
  have hkl2 : ks.length = kn.length := by rw [← hkn2, List.length_map]
  have hR : needL xs ks = needP kn xs := by rw [needL, hlow, hkeep, hkn2]; rfl
  have HST : Hid (∀ W, Below w.heap.size w W → Calls Try.prog 47 #[.slice ka ks.length kc] W fun e w' => ∃ va vc, e = .returned (.agg #[.slice va (setL kn).length vc]) ∧ w'.ownsRow W.heap.size 3 1 (.slice va (setL kn).length vc) (setL kn).length (ints (nats (setL kn))) ∧ Below W.heap.size W w') := fun W hb => by
    have h9 := setOf_any ka kc kn W (by omega) (by rw [← hkn2, hkn]; exact hK.below hb)
    rw [← hkl2] at h9
    exact h9
  rw [hR]
  have HKL := hid hkl2
  have HX := hid h
  have HLOW := hid hlow
  rw [hkn2] at hkl
  have HKL8 := hid hkl
  clear hkl2 hkn hkl hkn2 hR h hK hlow hkeep
  refine (callsIn_wide (n := 8)).1 ?_
  refine callsIn_of_wp_marks Try.func21 rfl trivial ?_ rfl
  simp only [Try.ntmps21, List.size_toArray, List.length_cons, List.length_nil, Nat.reduceAdd, Nat.reduceSub, Array.replicate_succ, Array.replicate_zero, List.push_toArray, List.append_toArray, List.nil_append, List.cons_append]
  gi_wp2_with (first | (refine ⟨trivial, ?_⟩; gi_at_call 39; refine (callsIn_wide.2 HA.out).mono ?_; rintro e w1 ⟨rfl, hb1⟩) | (refine ⟨trivial, ?_⟩; gi_at_call 47; refine (callsIn_wide.2 (HST.out _ hb1)).mono ?_; rintro e w2 ⟨sa, sc, rfl, ho2, hb2⟩) | (refine ⟨trivial, ?_⟩; gi_at_call 48; refine (callsIn_wide.2 (backward_any _ _ _ _)).mono ?_; rintro e w' ⟨rfl, rfl⟩))
  obtain ⟨X, hX⟩ : ∃ X, ((w2.alloc (Obj.cells #[Value.slice sa (setL kn).length sc] 74)).alloc (Obj.cells #[Value.slice a xs.length c] 27)) = X := ⟨_, rfl⟩
  have hz : X.heap.size = w2.heap.size + 2 := by rw [← hX]; simp
  have HB2 := bstep' hb1 hb2
  have hw2 : w.heap.size ≤ w2.heap.size := HB2.size
  have BX : Below w.heap.size w X := by rw [← hX]; exact bstep' HB2 (below2 _ _ _)
  have hSX : Sep X w.heap.size [cellOR 74 1 w2.heap.size [.slice sa (setL kn).length sc], ⟨3, 1, .slice sa (setL kn).length sc, (setL kn).length, ints (nats (setL kn))⟩] := by
    rw [← hX]
    exact Sep.below (Sep.box (sep_one (owns_mono ho2 hb1.size)) hw2 74 1 #[.slice sa (setL kn).length sc] rfl) (below1 _ _)
  have hcB : X.cell? ⟨w2.heap.size + 1, 0, none⟩ = some (.slice a xs.length c) := by
    rw [← hX]
    have := Boxed.new (w2.alloc (Obj.cells #[Value.slice sa (setL kn).length sc] 74)) 27 (.slice a xs.length c)
    rw [World.size_alloc] at this
    exact this.cell
  rw [hX]
  have HSX := hid hSX
  clear ho2 hb1 hb2 hSX hX HB2
  refine range_own3 rfl (by omega) (gf := 67) (lb := #[.pointer (some ⟨w2.heap.size + 1, 0, none⟩)]) rfl trivial (enters_of Try.func67 (by kernel_rfl) rfl)
    (backward_own _ (by omega) (w2.heap.size + 1) a c xs (by omega) (fun k => k < w.heap.size ∨ k = w2.heap.size + 1) (fun hne b off hb => by obtain ⟨b', off', e, hlt, _⟩ := HX.out.at hne; rw [hb] at e; cases e; exact .inl hlt) (.inr rfl) X (HX.out.below BX) (by omega) hcB) (fun k hk => by have := BX.size; omega) (Below.refl _ _) (fun _ => rfl)
    (fun T pre V => (∃ sv, Sep V w.heap.size [cellOR 74 1 w2.heap.size [sv], ⟨3, 1, sv, (needP kn (xs.drop (xs.length - pre.length))).length, ints (nats (needP kn (xs.drop (xs.length - pre.length))))⟩]) ∧ Below w.heap.size w V ∧ T ≤ V.heap.size)
    (fun _ _ _ => False)
    (fun T s A B row hs hg hr => by
      obtain ⟨⟨sv, h1⟩, h5, h6⟩ := hs
      exact ⟨⟨sv, Sep.calm h1 hg (fun r e => (hr r e).2)⟩, h5.grown hg h5.size (fun k e => by have := (hr _ e).1; have := BX.size; omega), Nat.le_trans h6 hg.size⟩)
    (fun _ _ _ _ _ hs _ _ => hs)
    (fun W' hg => ⟨⟨_, by
      have h9 := Sep.calm HSX.out hg (fun r e => by cases e)
      rw [show xs.drop (xs.length - ([] : List (Nat × Flt)).length) = [] by simp]
      exact h9⟩, BX.grown hg BX.size (fun k e => by cases e), Nat.le_refl _⟩)
    (fun x => #[.int .i64 x.2.op, .int .i64 x.2.d, .int .i64 x.2.dst, .int .i64 x.2.a, .int .i64 x.2.b, .int .i64 x.2.n]) 49
    (fun x b => { tmps := #[Value.slice a xs.length c, Value.slice ka ks.length kc, undef, undef, Value.slice none 0 0, Value.bool false, Value.pointer (some { block := w2.heap.size, off := 0 }), undef, Value.pointer (some { block := b, off := 0 }), Value.slice a xs.length c, Value.slice ka ks.length kc, Value.bool true, Value.bool false, Value.slice ka ks.length kc, Value.agg #[Value.slice sa (setL kn).length sc], Value.slice a xs.length c, Value.func (Fn.func 67) #[] #[Value.pointer (some { block := w2.heap.size + 1, off := 0 })], .int .i64 (x.1 : Int), .agg #[.int .i64 x.2.op, .int .i64 x.2.d, .int .i64 x.2.dst, .int .i64 x.2.a, .int .i64 x.2.b, .int .i64 x.2.n], undef, undef, undef, undef, undef], defers := [] }) ?assign ?ti ?body ?done ?stop
  case assign =>
    intro l x W K hK
    simp only [encB]
    gi_wp2
    exact hK
  case ti => exact fun T pre W h => h.2.2
  case body =>
    rintro l T b pre x V hT ⟨⟨sv, hS⟩, hB, hTV⟩ hb hTb hlen hsp
    obtain ⟨hx1, hx2⟩ := backL_next hsp hlen
    have hgd : goodFm 8 x.2 = true := all_at (low_all HLOW.out) hx1
    have hdrop : xs.drop (xs.length - (pre ++ [x]).length) = x.2 :: xs.drop (xs.length - pre.length) := by
      obtain ⟨hj, he⟩ := List.getElem?_eq_some_iff.1 hx1
      rw [List.length_append, List.length_singleton, show xs.length - (pre.length + 1) = xs.length - 1 - pre.length by omega, List.drop_eq_getElem_cons hj, he, show xs.length - 1 - pre.length + 1 = xs.length - pre.length by omega]
    have hnp : needP kn (xs.drop (xs.length - (pre ++ [x]).length)) = aheadF x.2 (needP kn (xs.drop (xs.length - pre.length))) := by rw [hdrop, needP_cons]
    have hNr := needP_rising kn (xs.drop (xs.length - pre.length))
    have hNl : (needP kn (xs.drop (xs.length - pre.length))).length ≤ 900 := by
      have h9 := nodup_le (n := 8) (rising_nodup hNr) (fun k hk => need_low HKL8.out (fun y hy => all_at (low_all HLOW.out) (List.mem_iff_getElem?.1 (List.mem_of_mem_drop hy)).choose_spec) hk)
      omega
    obtain ⟨N, hN⟩ : ∃ N, needP kn (xs.drop (xs.length - pre.length)) = N := ⟨_, rfl⟩
    rw [hN] at hS hnp hNr hNl
    have hown : V.ownsRow w.heap.size 3 1 sv N.length (ints (nats N)) := hS.1 ⟨3, 1, sv, N.length, ints (nats N)⟩ (by simp)
    obtain ⟨va, vc, e⟩ := slice_of_owned hown
    subst e
    have hrow : Row V va (nats N) := own_row (by rw [nats_length]; exact hown)
    have c6 : V.cell? ⟨w2.heap.size, 0, none⟩ = some (.slice va N.length vc) := hS.cell (x := cellOR 74 1 w2.heap.size [.slice va N.length vc]) (by simp) rfl rfl
    have f0 : V.cell? ⟨b, 0, none⟩ = some (.int .i64 x.2.op) := by simp [World.cell?, hb]
    have f1 : V.cell? ⟨b, 1, none⟩ = some (.int .i64 x.2.d) := by simp [World.cell?, hb]
    have f2 : V.cell? ⟨b, 2, none⟩ = some (.int .i64 x.2.dst) := by simp [World.cell?, hb]
    have f3 : V.cell? ⟨b, 3, none⟩ = some (.int .i64 x.2.a) := by simp [World.cell?, hb]
    have f4 : V.cell? ⟨b, 4, none⟩ = some (.int .i64 x.2.b) := by simp [World.cell?, hb]
    have f5 : V.cell? ⟨b, 5, none⟩ = some (.int .i64 x.2.n) := by simp [World.cell?, hb]
    have H49 := hid (neededFor_any x.2 va vc N V hgd hNr hNl hrow)
    have hVz : X.heap.size ≤ V.heap.size := by omega
    have hSc : Sep V w.heap.size [cellOR 74 1 w2.heap.size [.slice va N.length vc]] := ⟨fun z hz => hS.1 z (by simp at hz ⊢; exact .inl hz), by simp⟩
    have HSC := hid hSc
    have HVB := hid hB
    have HNP := hid hnp
    obtain ⟨A, hA⟩ : ∃ A, aheadF x.2 N = A := ⟨_, rfl⟩
    rw [hA] at H49 HNP
    clear hS hN hown hrow hgd hx1 hx2 hdrop hnp hNr hNl hb hsp hB hSc hA
    gi_wp2_with (refine ⟨trivial, ?_⟩; gi_at_call 49; refine (CallsIn.inRound l (callsIn_wide.2 H49.out)).mono ?_; rintro e w5 ⟨va5, vc5, rfl, ho5, hb5⟩; have hs5 := Sep.append HSC.out hb5 HVB.out.size (sep_one ho5); have c6 := cell_below c6 hb5; have f6 : w5.frozen? ⟨w2.heap.size, 0, none⟩ = false := hs5.frozen (x := cellOR 74 1 w2.heap.size [.slice va N.length vc]) (by simp) rfl 0)
    have hp5 := Sep.put [] (t := 74) (size := 1) (b := w2.heap.size) (xs := [.slice va N.length vc]) (l2 := [⟨3, 1, .slice va5 A.length vc5, A.length, ints (nats A)⟩]) hs5 0 (.slice va5 A.length vc5)
    have hz5 := hb5.size
    refine ⟨(keeps_below hb5).trans (KeepsOthers.setCell _ _ _), ⟨(hb5.mono (Nat.zero_le _)).setCell (Nat.zero_le _) _, fun k hk => ?_⟩, ⟨_, by rw [HNP.out]; exact hp5.1⟩, (HVB.out.trans (hb5.mono HVB.out.size)).trans hp5.2, by simp [World.setCell]; omega⟩
    rw [Below.heap_setCell _ _ _ _ (show k ≠ w2.heap.size by omega)]
    exact hb5.block k (by have := HVB.out.size; omega)
  case done =>
    rintro D T ys V hD rfl ⟨⟨sv, hS⟩, hB, hTV⟩ hK
    rw [show xs.drop (xs.length - (backL xs).length) = xs by rw [backL_len]; simp] at hS
    have hNr := needP_rising kn xs
    have hNl : (needP kn xs).length ≤ 900 := by
      have h9 := nodup_le (n := 8) (rising_nodup hNr) (fun k hk => need_low HKL8.out (fun y hy => all_at (low_all HLOW.out) (List.mem_iff_getElem?.1 hy).choose_spec) hk)
      omega
    obtain ⟨N, hN⟩ : ∃ N, needP kn xs = N := ⟨_, rfl⟩
    rw [hN] at hS hNr hNl
    have HN := hid hN
    have hown : V.ownsRow w.heap.size 3 1 sv N.length (ints (nats N)) := hS.1 ⟨3, 1, sv, N.length, ints (nats N)⟩ (by simp)
    obtain ⟨va, vc, e⟩ := slice_of_owned hown
    subst e
    have hrow : Row V va (nats N) := own_row (by rw [nats_length]; exact hown)
    have c6 : V.cell? ⟨w2.heap.size, 0, none⟩ = some (.slice va N.length vc) := hS.cell (x := cellOR 74 1 w2.heap.size [.slice va N.length vc]) (by simp) rfl rfl
    have H50 := hid (list_any va vc N V (by omega) hrow)
    have HVB := hid hB
    have HKD := hid hK
    clear hS hN hown hrow hB
    gi_wp2_with (refine ⟨trivial, ?_⟩; gi_at_call 50; refine (callsIn_wide.2 H50.out).mono ?_; rintro e w8 ⟨va8, vc8, rfl, ho8, hb8⟩)
    have hK' : w8.heap[D]? = some (.deferred (some [])) := (hb8.block D (Array.getElem?_eq_some_iff.1 HKD.out).1).trans HKD.out
    have qB : Below w.heap.size w w8 := HVB.out.trans (hb8.mono HVB.out.size)
    refine ⟨by simp, .inl ⟨_, _, rfl, run_takeDeferred hK', ?_⟩⟩
    rw [HN.out]
    exact ⟨.tuple #[.slice va8 N.length vc8, .bool true], by simp [results, Try.results21, go_sem], ⟨va8, vc8, rfl, ownsRow_putObj (owns_mono ho8 HVB.out.size) _ hK' rfl⟩, qB.trans (belowK_b (w := w) (Nat.le_refl _) _ D _ _ (by have := BX.size; omega) hK' rfl rfl)⟩
  case stop =>
    rintro D c pre W _ _ h _
    exact h.elim
end Go.Proofs.Ytiaiaejijicddaa
