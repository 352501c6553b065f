/- The law on lists is true at every two lists of bytes. -/
import Derived.Test.YtgfoepioldhnhaaDrawn
import Derived.Test.YtgfoepioldhnhaaBackMath
namespace Go.Proofs.Ytgfoepioldhnhaa
open Go.RowKit
set_option linter.unusedVariables false

theorem sameInts_same (a a' : Option Addr) (c c' : Nat) (xs : List Int) (w : World) (hl : xs.length ≤ 9223372036854775807) (h : Row w a xs) (h' : Row w a' xs) :
    Calls Try.prog 36 #[.slice a xs.length c, .slice a' xs.length c'] w fun e w' => e = .returned (.bool true) ∧ ∃ q, w' = w.drewN q := by
  by_cases hx : xs = []
  · subst hx
    clear h h'
    go_enter Try.func36, Try.ntmps36
    go_wp2
    go_loopw [13] (fun t wr => t = .int .i64 0 ∧ wr = w) (fun t _ => 0)
    case atStart => exact ⟨rfl, rfl⟩
    case round =>
      obtain ⟨rfl, rfl⟩ := hrel
      go_wp2
      go_ret
      exact ⟨rfl, 0, rfl⟩
  · rcases h with h | ⟨b, off, rfl, hc⟩
    · exact absurd h hx
    rcases h' with h' | ⟨b', off', rfl, hc'⟩
    · exact absurd h' hx
    have HC : Hid (∀ i, i < xs.length → w.cell? ⟨b, off + i, none⟩ = some (.int .i64 (xs[i]?.getD 0))) := hc
    have HC' : Hid (∀ i, i < xs.length → w.cell? ⟨b', off' + i, none⟩ = some (.int .i64 (xs[i]?.getD 0))) := hc'
    clear hc hc' hx
    go_enter Try.func36, Try.ntmps36
    go_wp2
    go_loopw [13] (fun t wr => ∃ (k q : Nat), t = .int .i64 k ∧ k ≤ xs.length ∧ wr = w.drewN q) (fun t _ => xs.length - (intOf t).toNat)
    case atStart => exact ⟨0, 0, rfl, by omega, rfl⟩
    case round =>
      obtain ⟨k, q, rfl, hk, rfl⟩ := hrel
      by_cases hlt : k < xs.length
      · have c1 : w.cell? ⟨b, off + k, none⟩ = some (.int .i64 (xs[k]?.getD 0)) := HC.out k hlt
        have c2 : w.cell? ⟨b', off' + k, none⟩ = some (.int .i64 (xs[k]?.getD 0)) := HC'.out k hlt
        go_wp2
        go_quiet (fail)
        go_wp2
        go_roundw
        case rel => exact ⟨k + 1, q + nq, by go_num, by omega, by simp⟩
        case measure => simp [intOf]; omega
      · go_wp2
        go_ret
        exact ⟨rfl, q, rfl⟩

theorem Code.drewN {w : World} {a : Option Addr} {zs : List Int} (h : Code w a zs) (q : Nat) : Code (w.drewN q) a zs := h

set_option maxHeartbeats 4000000 in
theorem lawVecs_go (a0 a1 : Option Addr) (z0 z1 : List Int) (c0 c1 : Nat) (w : World) (h0 : Code w a0 z0) (h1 : Code w a1 z1) (hg : ¬ 1048576 < wrap64 ((z0.length : Int) + z1.length)) :
    Calls Try.prog 4 #[.slice a0 z0.length c0, .slice a1 z1.length c1] w fun e w' => e = .returned (.bool true) ∧ Below w.heap.size w w' := by
  have hl0 := h0.1
  have hl1 := h1.1
  go_enter Try.func4, Try.ntmps4
  go_wp2_with fail
  refine (drawPutVec_any a0 z0 c0 _ h0).mono ?_
  rintro e w1 ⟨v, xs, rfl, hx, ho, hb1⟩
  obtain ⟨a, c, rfl, r1⟩ := Row.of_owned ho
  clear ho
  obtain ⟨pa, hpa⟩ : ∃ pa, putV xs = pa := ⟨_, rfl⟩
  have HP : Hid (putV xs = pa) := hpa
  clear hpa
  go_wp2_with fail
  refine (iPutVec_any a c xs _ (by omega) r1).mono ?_
  rintro e w2 ⟨rfl, hb2⟩
  rw [HP.out]
  have r2 := r1.below hb2
  have hB2 := hb1.trans (hb2.mono hb1.size)
  clear hb1 hb2 r1
  cases pa with
  | none =>
    unfold putAns
    go_wp2_with fail
    refine (sPutVec_any a c xs _ (by omega) r2).mono ?_
    rintro e w3 ⟨rfl, hb3⟩
    rw [HP.out]
    unfold putAns
    have hB := hB2.trans (hb3.mono hB2.size)
    clear hb3 hB2 r2
    go_wp2_with fail
    refine (drawPad_any a0 z0 c0 _ (h0.later hB)).mono ?_
    rintro e wP ⟨n, m, rfl, hbP⟩
    have hBP := hB.trans (hbP.mono hB.size)
    clear hbP hB
    cases hu : inB 0 4294967295 n with
    | false =>
      go_wp2_with fail
      refine (iPad_no n m _ hu).mono ?_
      rintro e wQ ⟨rfl, hw⟩
      subst wQ
      go_wp2_with fail
      refine (sPad_no n m _ hu).mono ?_
      rintro e wQ ⟨rfl, hw⟩
      subst wQ
      have hB := hBP
      clear hBP hu
      go_wp2_with fail
      refine (drawTakeVec_any a1 z1 c1 _ (h1.later hB)).mono ?_
      rintro e wA ⟨s, x, rfl, hs, hbA⟩
      have hBA := hB.trans (hbA.mono hB.size)
      clear hbA hB
      obtain ⟨r, hr⟩ : ∃ r, vecOf s x = r := ⟨_, rfl⟩
      have HV : Hid (vecOf s x = r) := hr
      clear hr
      go_wp2_with fail
      refine (iTakeVec_any s x _ (by omega)).mono ?_
      rintro e wB ⟨hv, hbB⟩
      rw [HV.out] at hv
      cases r with
      | none =>
        obtain rfl := hv
        go_wp2_with fail
        refine (sTakeVec_any s x _ (by omega)).mono ?_
        rintro e wC ⟨hv, hbC⟩
        rw [HV.out] at hv
        obtain rfl := hv
        go_wp2_with fail
        refine (sameInts_same none none 0 0 [] _ (by simp) (.inl rfl) (.inl rfl)).mono ?_
        rintro e wD ⟨rfl, qD, rfl⟩
        have hBB := hBA.trans (hbB.mono hBA.size)
        have hBC := hBB.trans (hbC.mono hBB.size)
        go_wp2
        go_ret
        exact ⟨rfl, below_drewN hBC qD⟩
      | some yp =>
        obtain ⟨ys, p⟩ := yp
        have hyl := vecOf_length s x ys p HV.out
        obtain ⟨vB, rfl, hoB⟩ := hv
        obtain ⟨aB, cB, rfl, rB⟩ := Row.of_owned hoB
        go_wp2_with fail
        refine (sTakeVec_any s x _ (by omega)).mono ?_
        rintro e wC ⟨hv, hbC⟩
        rw [HV.out] at hv
        obtain ⟨vC, rfl, hoC⟩ := hv
        obtain ⟨aC, cC, rfl, rC⟩ := Row.of_owned hoC
        clear hoB hoC
        go_wp2_with fail
        refine (sameInts_same aB aC cB cC ys _ (by omega) (rB.below hbC) rC).mono ?_
        rintro e wD ⟨rfl, qD, rfl⟩
        have hBB := hBA.trans (hbB.mono hBA.size)
        have hBC := hBB.trans (hbC.mono hBB.size)
        go_wp2
        go_ret
        exact ⟨rfl, below_drewN hBC qD⟩
    | true =>
      cases hm : inB (encU 4 n).length 5 m with
      | false =>
        go_wp2_with fail
        refine (iPad_out n m _ hu hm).mono ?_
        rintro e wQ ⟨rfl, hw⟩
        subst wQ
        go_wp2_with fail
        refine (sPad_out n m _ hu hm).mono ?_
        rintro e wQ ⟨rfl, hbQ⟩
        have hB := hBP.trans (hbQ.mono hBP.size)
        clear hBP hu hm hbQ
        go_wp2_with fail
        refine (drawTakeVec_any a1 z1 c1 _ (h1.later hB)).mono ?_
        rintro e wA ⟨s, x, rfl, hs, hbA⟩
        have hBA := hB.trans (hbA.mono hB.size)
        clear hbA hB
        obtain ⟨r, hr⟩ : ∃ r, vecOf s x = r := ⟨_, rfl⟩
        have HV : Hid (vecOf s x = r) := hr
        clear hr
        go_wp2_with fail
        refine (iTakeVec_any s x _ (by omega)).mono ?_
        rintro e wB ⟨hv, hbB⟩
        rw [HV.out] at hv
        cases r with
        | none =>
          obtain rfl := hv
          go_wp2_with fail
          refine (sTakeVec_any s x _ (by omega)).mono ?_
          rintro e wC ⟨hv, hbC⟩
          rw [HV.out] at hv
          obtain rfl := hv
          go_wp2_with fail
          refine (sameInts_same none none 0 0 [] _ (by simp) (.inl rfl) (.inl rfl)).mono ?_
          rintro e wD ⟨rfl, qD, rfl⟩
          have hBB := hBA.trans (hbB.mono hBA.size)
          have hBC := hBB.trans (hbC.mono hBB.size)
          go_wp2
          go_ret
          exact ⟨rfl, below_drewN hBC qD⟩
        | some yp =>
          obtain ⟨ys, p⟩ := yp
          have hyl := vecOf_length s x ys p HV.out
          obtain ⟨vB, rfl, hoB⟩ := hv
          obtain ⟨aB, cB, rfl, rB⟩ := Row.of_owned hoB
          go_wp2_with fail
          refine (sTakeVec_any s x _ (by omega)).mono ?_
          rintro e wC ⟨hv, hbC⟩
          rw [HV.out] at hv
          obtain ⟨vC, rfl, hoC⟩ := hv
          obtain ⟨aC, cC, rfl, rC⟩ := Row.of_owned hoC
          clear hoB hoC
          go_wp2_with fail
          refine (sameInts_same aB aC cB cC ys _ (by omega) (rB.below hbC) rC).mono ?_
          rintro e wD ⟨rfl, qD, rfl⟩
          have hBB := hBA.trans (hbB.mono hBA.size)
          have hBC := hBB.trans (hbC.mono hBB.size)
          go_wp2
          go_ret
          exact ⟨rfl, below_drewN hBC qD⟩
      | true =>
        obtain ⟨k, rfl⟩ := Int.eq_ofNat_of_zero_le (show 0 ≤ m by have := inB_yes hm; omega)
        have hk5 : k ≤ 5 := by have := inB_yes hm; omega
        have HP : Hid (resU ⟨(sev k n).toArray⟩ 0 = some (n, k)) := pad_back n k hu hm
        have HL : Hid ((sev k n).length = k) := sev_length k n
        go_wp2_with fail
        refine (iPad_yes n k _ hu hm).mono ?_
        rintro e wQ ⟨rfl, hbQ⟩
        have hBQ := hBP.trans (hbQ.mono hBP.size)
        go_wp2_with fail
        refine (sPad_yes n k _ hu hm).mono ?_
        rintro e wR ⟨rfl, hbR⟩
        have hB := hBQ.trans (hbR.mono hBQ.size)
        clear hBP hBQ hbQ hbR hu hm
        obtain ⟨sl, hsl, hlen⟩ : ∃ sl, sev k n = sl ∧ sl.length = k := ⟨_, rfl, HL.out⟩
        have HSL : Hid (sev k n = sl) := hsl
        rw [hsl]
        clear hsl
        go_wp2_with fail
        refine (iTakeU_any ⟨sl.toArray⟩ 0 _ (by rw [ByteArray.size_mk']; simp; omega)).mono ?_
        rintro e wS ⟨rfl, hw⟩
        subst wS
        have hres : takeV (resU ⟨sl.toArray⟩ 0) = .tuple #[.int .i64 n, .int .i64 k, .bool true] := by rw [← HSL.out, HP.out]; rfl
        rw [hres]
        clear hres
        go_wp2_with fail
        refine (drawTakeVec_any a1 z1 c1 _ (h1.later hB)).mono ?_
        rintro e wA ⟨s, x, rfl, hs, hbA⟩
        have hBA := hB.trans (hbA.mono hB.size)
        clear hbA hB
        obtain ⟨r, hr⟩ : ∃ r, vecOf s x = r := ⟨_, rfl⟩
        have HV : Hid (vecOf s x = r) := hr
        clear hr
        go_wp2_with fail
        refine (iTakeVec_any s x _ (by omega)).mono ?_
        rintro e wB ⟨hv, hbB⟩
        rw [HV.out] at hv
        cases r with
        | none =>
          obtain rfl := hv
          go_wp2_with fail
          refine (sTakeVec_any s x _ (by omega)).mono ?_
          rintro e wC ⟨hv, hbC⟩
          rw [HV.out] at hv
          obtain rfl := hv
          go_wp2_with fail
          refine (sameInts_same none none 0 0 [] _ (by simp) (.inl rfl) (.inl rfl)).mono ?_
          rintro e wD ⟨rfl, qD, rfl⟩
          have hBB := hBA.trans (hbB.mono hBA.size)
          have hBC := hBB.trans (hbC.mono hBB.size)
          go_wp2
          go_ret
          exact ⟨rfl, below_drewN hBC qD⟩
        | some yp =>
          obtain ⟨ys, p⟩ := yp
          have hyl := vecOf_length s x ys p HV.out
          obtain ⟨vB, rfl, hoB⟩ := hv
          obtain ⟨aB, cB, rfl, rB⟩ := Row.of_owned hoB
          go_wp2_with fail
          refine (sTakeVec_any s x _ (by omega)).mono ?_
          rintro e wC ⟨hv, hbC⟩
          rw [HV.out] at hv
          obtain ⟨vC, rfl, hoC⟩ := hv
          obtain ⟨aC, cC, rfl, rC⟩ := Row.of_owned hoC
          clear hoB hoC
          go_wp2_with fail
          refine (sameInts_same aB aC cB cC ys _ (by omega) (rB.below hbC) rC).mono ?_
          rintro e wD ⟨rfl, qD, rfl⟩
          have hBB := hBA.trans (hbB.mono hBA.size)
          have hBC := hBB.trans (hbC.mono hBB.size)
          go_wp2
          go_ret
          exact ⟨rfl, below_drewN hBC qD⟩
  | some l =>
    have hall : allU xs = true ∧ xs.length ≤ 50 := by
      have := HP.out
      unfold putV at this
      by_cases hc : allU xs = true ∧ xs.length ≤ 50
      · exact hc
      · rw [if_neg hc] at this; cases this
    have HLl : Hid (bytesTo xs xs.length = l) := by have := HP.out; rw [putV_yes hall.1 hall.2] at this; exact Option.some.inj this
    have hvb : vecOf ⟨l.toArray⟩ 0 = some (xs, l.length) := by rw [← HLl.out]; exact vec_back xs hall.1 hall.2
    have HVB : Hid (vecOf ⟨l.toArray⟩ 0 = some (xs, l.length)) := hvb
    have hll : l.length ≤ 300 := by rw [← HLl.out]; have := bytesTo_length xs xs.length (Nat.le_refl _); omega
    clear hall hvb
    unfold putAns
    go_wp2_with fail
    refine (sPutVec_any a c xs _ (by omega) r2).mono ?_
    rintro e w3 ⟨rfl, hb3⟩
    rw [HP.out]
    unfold putAns
    have hB3 := hB2.trans (hb3.mono hB2.size)
    have r3 := r2.below hb3
    clear hb3 hB2 r2
    go_wp2_with fail
    refine (iTakeVec_any ⟨l.toArray⟩ 0 _ (by rw [ByteArray.size_mk']; simp; omega)).mono ?_
    rintro e w4 ⟨hv, hb4⟩
    rw [HVB.out] at hv
    obtain ⟨v4, rfl, ho4⟩ := hv
    obtain ⟨a4, c4, rfl, r4⟩ := Row.of_owned ho4
    clear ho4
    have hB4 := hB3.trans (hb4.mono hB3.size)
    have r34 := r3.below hb4
    clear hb4 hB3 r3
    go_wp2_with fail
    refine (sameInts_same a4 a c4 c xs _ (by omega) r4 r34).mono ?_
    rintro e w5 ⟨rfl, q5, rfl⟩
    have hB := below_drewN hB4 q5
    clear hB4 r34 r4
    go_wp2_with fail
    refine (drawPad_any a0 z0 c0 _ (h0.later hB)).mono ?_
    rintro e wP ⟨n, m, rfl, hbP⟩
    have hBP := hB.trans (hbP.mono hB.size)
    clear hbP hB
    cases hu : inB 0 4294967295 n with
    | false =>
      go_wp2_with fail
      refine (iPad_no n m _ hu).mono ?_
      rintro e wQ ⟨rfl, hw⟩
      subst wQ
      go_wp2_with fail
      refine (sPad_no n m _ hu).mono ?_
      rintro e wQ ⟨rfl, hw⟩
      subst wQ
      have hB := hBP
      clear hBP hu
      go_wp2_with fail
      refine (drawTakeVec_any a1 z1 c1 _ (h1.later hB)).mono ?_
      rintro e wA ⟨s, x, rfl, hs, hbA⟩
      have hBA := hB.trans (hbA.mono hB.size)
      clear hbA hB
      obtain ⟨r, hr⟩ : ∃ r, vecOf s x = r := ⟨_, rfl⟩
      have HV : Hid (vecOf s x = r) := hr
      clear hr
      go_wp2_with fail
      refine (iTakeVec_any s x _ (by omega)).mono ?_
      rintro e wB ⟨hv, hbB⟩
      rw [HV.out] at hv
      cases r with
      | none =>
        obtain rfl := hv
        go_wp2_with fail
        refine (sTakeVec_any s x _ (by omega)).mono ?_
        rintro e wC ⟨hv, hbC⟩
        rw [HV.out] at hv
        obtain rfl := hv
        go_wp2_with fail
        refine (sameInts_same none none 0 0 [] _ (by simp) (.inl rfl) (.inl rfl)).mono ?_
        rintro e wD ⟨rfl, qD, rfl⟩
        have hBB := hBA.trans (hbB.mono hBA.size)
        have hBC := hBB.trans (hbC.mono hBB.size)
        go_wp2
        go_ret
        exact ⟨rfl, below_drewN hBC qD⟩
      | some yp =>
        obtain ⟨ys, p⟩ := yp
        have hyl := vecOf_length s x ys p HV.out
        obtain ⟨vB, rfl, hoB⟩ := hv
        obtain ⟨aB, cB, rfl, rB⟩ := Row.of_owned hoB
        go_wp2_with fail
        refine (sTakeVec_any s x _ (by omega)).mono ?_
        rintro e wC ⟨hv, hbC⟩
        rw [HV.out] at hv
        obtain ⟨vC, rfl, hoC⟩ := hv
        obtain ⟨aC, cC, rfl, rC⟩ := Row.of_owned hoC
        clear hoB hoC
        go_wp2_with fail
        refine (sameInts_same aB aC cB cC ys _ (by omega) (rB.below hbC) rC).mono ?_
        rintro e wD ⟨rfl, qD, rfl⟩
        have hBB := hBA.trans (hbB.mono hBA.size)
        have hBC := hBB.trans (hbC.mono hBB.size)
        go_wp2
        go_ret
        exact ⟨rfl, below_drewN hBC qD⟩
    | true =>
      cases hm : inB (encU 4 n).length 5 m with
      | false =>
        go_wp2_with fail
        refine (iPad_out n m _ hu hm).mono ?_
        rintro e wQ ⟨rfl, hw⟩
        subst wQ
        go_wp2_with fail
        refine (sPad_out n m _ hu hm).mono ?_
        rintro e wQ ⟨rfl, hbQ⟩
        have hB := hBP.trans (hbQ.mono hBP.size)
        clear hBP hu hm hbQ
        go_wp2_with fail
        refine (drawTakeVec_any a1 z1 c1 _ (h1.later hB)).mono ?_
        rintro e wA ⟨s, x, rfl, hs, hbA⟩
        have hBA := hB.trans (hbA.mono hB.size)
        clear hbA hB
        obtain ⟨r, hr⟩ : ∃ r, vecOf s x = r := ⟨_, rfl⟩
        have HV : Hid (vecOf s x = r) := hr
        clear hr
        go_wp2_with fail
        refine (iTakeVec_any s x _ (by omega)).mono ?_
        rintro e wB ⟨hv, hbB⟩
        rw [HV.out] at hv
        cases r with
        | none =>
          obtain rfl := hv
          go_wp2_with fail
          refine (sTakeVec_any s x _ (by omega)).mono ?_
          rintro e wC ⟨hv, hbC⟩
          rw [HV.out] at hv
          obtain rfl := hv
          go_wp2_with fail
          refine (sameInts_same none none 0 0 [] _ (by simp) (.inl rfl) (.inl rfl)).mono ?_
          rintro e wD ⟨rfl, qD, rfl⟩
          have hBB := hBA.trans (hbB.mono hBA.size)
          have hBC := hBB.trans (hbC.mono hBB.size)
          go_wp2
          go_ret
          exact ⟨rfl, below_drewN hBC qD⟩
        | some yp =>
          obtain ⟨ys, p⟩ := yp
          have hyl := vecOf_length s x ys p HV.out
          obtain ⟨vB, rfl, hoB⟩ := hv
          obtain ⟨aB, cB, rfl, rB⟩ := Row.of_owned hoB
          go_wp2_with fail
          refine (sTakeVec_any s x _ (by omega)).mono ?_
          rintro e wC ⟨hv, hbC⟩
          rw [HV.out] at hv
          obtain ⟨vC, rfl, hoC⟩ := hv
          obtain ⟨aC, cC, rfl, rC⟩ := Row.of_owned hoC
          clear hoB hoC
          go_wp2_with fail
          refine (sameInts_same aB aC cB cC ys _ (by omega) (rB.below hbC) rC).mono ?_
          rintro e wD ⟨rfl, qD, rfl⟩
          have hBB := hBA.trans (hbB.mono hBA.size)
          have hBC := hBB.trans (hbC.mono hBB.size)
          go_wp2
          go_ret
          exact ⟨rfl, below_drewN hBC qD⟩
      | true =>
        obtain ⟨k, rfl⟩ := Int.eq_ofNat_of_zero_le (show 0 ≤ m by have := inB_yes hm; omega)
        have hk5 : k ≤ 5 := by have := inB_yes hm; omega
        have HP : Hid (resU ⟨(sev k n).toArray⟩ 0 = some (n, k)) := pad_back n k hu hm
        have HL : Hid ((sev k n).length = k) := sev_length k n
        go_wp2_with fail
        refine (iPad_yes n k _ hu hm).mono ?_
        rintro e wQ ⟨rfl, hbQ⟩
        have hBQ := hBP.trans (hbQ.mono hBP.size)
        go_wp2_with fail
        refine (sPad_yes n k _ hu hm).mono ?_
        rintro e wR ⟨rfl, hbR⟩
        have hB := hBQ.trans (hbR.mono hBQ.size)
        clear hBP hBQ hbQ hbR hu hm
        obtain ⟨sl, hsl, hlen⟩ : ∃ sl, sev k n = sl ∧ sl.length = k := ⟨_, rfl, HL.out⟩
        have HSL : Hid (sev k n = sl) := hsl
        rw [hsl]
        clear hsl
        go_wp2_with fail
        refine (iTakeU_any ⟨sl.toArray⟩ 0 _ (by rw [ByteArray.size_mk']; simp; omega)).mono ?_
        rintro e wS ⟨rfl, hw⟩
        subst wS
        have hres : takeV (resU ⟨sl.toArray⟩ 0) = .tuple #[.int .i64 n, .int .i64 k, .bool true] := by rw [← HSL.out, HP.out]; rfl
        rw [hres]
        clear hres
        go_wp2_with fail
        refine (drawTakeVec_any a1 z1 c1 _ (h1.later hB)).mono ?_
        rintro e wA ⟨s, x, rfl, hs, hbA⟩
        have hBA := hB.trans (hbA.mono hB.size)
        clear hbA hB
        obtain ⟨r, hr⟩ : ∃ r, vecOf s x = r := ⟨_, rfl⟩
        have HV : Hid (vecOf s x = r) := hr
        clear hr
        go_wp2_with fail
        refine (iTakeVec_any s x _ (by omega)).mono ?_
        rintro e wB ⟨hv, hbB⟩
        rw [HV.out] at hv
        cases r with
        | none =>
          obtain rfl := hv
          go_wp2_with fail
          refine (sTakeVec_any s x _ (by omega)).mono ?_
          rintro e wC ⟨hv, hbC⟩
          rw [HV.out] at hv
          obtain rfl := hv
          go_wp2_with fail
          refine (sameInts_same none none 0 0 [] _ (by simp) (.inl rfl) (.inl rfl)).mono ?_
          rintro e wD ⟨rfl, qD, rfl⟩
          have hBB := hBA.trans (hbB.mono hBA.size)
          have hBC := hBB.trans (hbC.mono hBB.size)
          go_wp2
          go_ret
          exact ⟨rfl, below_drewN hBC qD⟩
        | some yp =>
          obtain ⟨ys, p⟩ := yp
          have hyl := vecOf_length s x ys p HV.out
          obtain ⟨vB, rfl, hoB⟩ := hv
          obtain ⟨aB, cB, rfl, rB⟩ := Row.of_owned hoB
          go_wp2_with fail
          refine (sTakeVec_any s x _ (by omega)).mono ?_
          rintro e wC ⟨hv, hbC⟩
          rw [HV.out] at hv
          obtain ⟨vC, rfl, hoC⟩ := hv
          obtain ⟨aC, cC, rfl, rC⟩ := Row.of_owned hoC
          clear hoB hoC
          go_wp2_with fail
          refine (sameInts_same aB aC cB cC ys _ (by omega) (rB.below hbC) rC).mono ?_
          rintro e wD ⟨rfl, qD, rfl⟩
          have hBB := hBA.trans (hbB.mono hBA.size)
          have hBC := hBB.trans (hbC.mono hBB.size)
          go_wp2
          go_ret
          exact ⟨rfl, below_drewN hBC qD⟩

end Go.Proofs.Ytgfoepioldhnhaa
