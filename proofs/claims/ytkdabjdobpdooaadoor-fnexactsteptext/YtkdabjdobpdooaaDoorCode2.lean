/- What StepsBytes of the model and of the program answers, at every code, and that the law on it is true. -/
import Derived.Test.YtkdabjdobpdooaaDoorCode1
namespace Go.Proofs.YtkdabjdobpdooaaDoor
open Go.RowKit
set_option linter.unusedVariables false
set_option linter.unusedSimpArgs false
set_option maxRecDepth 100000

/-- the model's StepsBytes -/
theorem sCode_any (a : Option Addr) (c : Nat) (xs : List Stp) (w : World) (hl : xs.length ≤ 1048576) (h : TRow w a xs) :
    Calls Tryd.prog 14 #[.slice a xs.length c] w fun e w' => e = .returned (codeV xs) ∧ Below w.heap.size w w' := by
  have hgd := fun w h => sGoodS_any a c xs w hl h
  have H : Hid (TRow w a xs) := h
  clear h
  cases hg : goodS xs with
  | false =>
    rw [hg] at hgd
    rw [codeV_no hg]
    have HG : Hid (_) := hgd
    clear hgd hg
    go_enter Tryd.func14, Tryd.ntmps14
    go_wp2_with fail
    refine (HG.out _ H.out).mono ?_
    rintro e w1 ⟨rfl, hb1⟩
    go_wp2
    go_ret2
    exact ⟨rfl, hb1⟩
  | true =>
    rw [hg] at hgd
    rw [codeV_yes hg]
    have HG : Hid (_) := hgd
    have HGD : Hid (goodS xs = true) := hg
    clear hgd hg
    go_enter Tryd.func14, Tryd.ntmps14
    go_wp2_with fail
    refine (HG.out _ H.out).mono ?_
    rintro e w1 ⟨rfl, hb1⟩
    go_wp2_with fail
    refine (l3Bytes_any a c xs _ HGD.out (H.out.below hb1)).mono ?_
    rintro e w2 ⟨rfl, hb2⟩
    go_wp2
    go_ret2
    exact ⟨rfl, bstep' hb1 hb2⟩

theorem strCells_l (s : ByteArray) : Lib.strCells s = Lib.byteCells s.data.toList := rfl
theorem strCells_mk (l : List UInt8) : Lib.strCells ⟨l.toArray⟩ = Lib.byteCells l := rfl
theorem byteCells_app (a b : List UInt8) : Lib.byteCells (a ++ b) = Lib.byteCells a ++ Lib.byteCells b := by simp [Lib.byteCells]
theorem byteCells_one (i : Int) (h0 : 0 ≤ i) (h1 : i ≤ 255) : Lib.byteCells [by8 i] = [.int .u8 i] := by simp [Lib.byteCells, by8_toNat i (by omega) (by omega)]
theorem builder_below {B b : Nat} {bs : List UInt8} {w w' : World} (h : Lib.IsBuilderF 60 5 B b (Lib.byteCells bs) w) (hb : Below w.heap.size w w') : Lib.IsBuilderF 60 5 B b (Lib.byteCells bs) w' :=
  builder_own B b bs w w' none h (grownBy_of_below hb none) (fun r e => by cases e)

set_option maxHeartbeats 4000000 in
/-- the program's StepsBytes -/
theorem iCode_any (a : Option Addr) (c : Nat) (xs : List Stp) (w : World) (hl : xs.length ≤ 1048576) (h : TRow w a xs) (hT : Tab w) :
    Calls Tryd.prog 13 #[.slice a xs.length c] w fun e w' => e = .returned (codeV xs) ∧ Below w.heap.size w w' := by
  have hgd := fun w h hT => iGoodS_any a c xs w hl h hT
  have H : Hid (TRow w a xs ∧ Tab w) := ⟨h, hT⟩
  clear hT
  cases hg : goodS xs with
  | false =>
    rw [hg] at hgd
    rw [codeV_no hg]
    have HG : Hid (_) := hgd
    clear hgd hg
    go_enter Tryd.func13, Tryd.ntmps13
    go_wp2_with fail
    refine (HG.out _ H.out.1 H.out.2).mono ?_
    rintro e w1 ⟨rfl, hb1⟩
    go_wp2
    go_ret2
    exact ⟨rfl, hb1⟩
  | true =>
    rw [hg] at hgd
    rw [codeV_yes hg]
    have HGD : Hid (∀ w, TRow w a xs → Tab w → Calls Tryd.prog 20 #[.slice a xs.length c] w fun e w' => e = .returned (.bool true) ∧ Below w.heap.size w w') := hgd
    have HG : Hid (goodS xs = true) := hg
    have hl60 := good_len hg
    clear hgd hg
    by_cases hx : xs = []
    · subst hx
      clear h
      go_enter Tryd.func13, Tryd.ntmps13
      go_wp2_with fail
      refine (HGD.out _ H.out.1 H.out.2).mono ?_
      rintro e w1 ⟨rfl, B1⟩
      have I1 := Lib.IsBuilderF.of (Lib.fresh_isBuilder 60 5 w1)
      have HI1 : Hid (Lib.IsBuilderF 60 5 w1.heap.size w1.heap.size (Lib.byteCells []) (w1.alloc (.cells #[.pointer none, .slice none 0 0] 60))) := I1
      have Ba : Below w.heap.size w (w1.alloc (.cells #[.pointer none, .slice none 0 0] 60)) := B1.alloc B1.size _
      clear I1
      go_wp2
      go_loopw [16] (fun t wr => t = .int .i64 0 ∧ wr = w1.alloc (.cells #[.pointer none, .slice none 0 0] 60)) (fun _ _ => 0)
      case atStart => exact ⟨rfl, rfl⟩
      case round =>
        obtain ⟨rfl, rfl⟩ := hrel
        go_wp2_with fail
        refine (string_any w1.heap.size w1.heap.size [] _ HI1.out (by simp)).mono ?_
        rintro e w3 ⟨rfl, I3, b3, k3⟩
        go_wp2
        go_ret2
        exact ⟨rfl, Ba.trans (b3.mono B1.size)⟩
    · obtain ⟨b, off, rfl, hat⟩ := h.at hx
      have HA : Hid (_) := hat
      clear hx hat h
      go_enter Tryd.func13, Tryd.ntmps13
      go_wp2_with fail
      refine (HGD.out _ H.out.1 H.out.2).mono ?_
      rintro e w1 ⟨rfl, B1⟩
      have I1 := Lib.IsBuilderF.of (Lib.fresh_isBuilder 60 5 w1)
      have HI1 : Hid (Lib.IsBuilderF 60 5 w1.heap.size w1.heap.size (Lib.byteCells (codeTo xs 0)) (w1.alloc (.cells #[.pointer none, .slice none 0 0] 60))) := I1
      have Ba : Below w.heap.size w (w1.alloc (.cells #[.pointer none, .slice none 0 0] 60)) := B1.alloc B1.size _
      clear I1
      go_wp2
      go_loopw [16] (fun t wr => ∃ k : Nat, t = .int .i64 k ∧ k ≤ xs.length ∧ Lib.IsBuilderF 60 5 w1.heap.size w1.heap.size (Lib.byteCells (codeTo xs k)) wr ∧ Below w.heap.size w wr ∧ w1.heap.size + 1 ≤ wr.heap.size) (fun t _ => xs.length - (intOf t).toNat)
      case atStart => exact ⟨0, rfl, by omega, HI1.out, Ba, by simp⟩
      case round =>
        obtain ⟨k, rfl, hk, hI, hB, hsz⟩ := hrel
        have HI : Hid (Lib.IsBuilderF 60 5 w1.heap.size w1.heap.size (Lib.byteCells (codeTo xs k)) wr) := hI
        clear hI Ba
        by_cases hlt : k < xs.length
        · obtain ⟨p, n, t, ta, tc, c1, c2, c3, hbw, hs, HR, HX⟩ := HA.out wr hB k hlt
          have hbr : b < wr.heap.size := Nat.lt_of_lt_of_le hbw hB.size
          obtain ⟨hop, hn0, hn1, ht4, hu⟩ := code_one HG.out HX.out
          have hb : 1 ≤ p ∧ p ≤ 22 := by simpa [isOpB] using hop
          have hmod : p % 256 = p := by omega
          have HS : Hid (codeTo xs (k + 1) = codeTo xs k ++ stpB (p, n, t)) := codeTo_succ HX.out
          have hal := codeTo_len HG.out k hk
          have hal2 : (codeTo xs k).length ≤ 1860 := by omega
          clear hal
          have HAL : Hid ((codeTo xs k).length ≤ 1860) := hal2
          clear hal2
          generalize codeTo xs k = acc at HS HAL HI
          have htl := Nat.le_trans (bytesTo_length t t.length (Nat.le_refl _)) (show 5 + 5 * t.length ≤ 25 by omega)
          have hnl := Nat.le_trans (encU_len_le 4 n) (show 4 + 1 ≤ 5 by omega)
          have HTN : Hid ((bytesTo t t.length).length ≤ 25 ∧ (encU 4 n).length ≤ 5) := ⟨htl, hnl⟩
          have hpv := fun w h => iPutVec_any ta tc t w (by omega) h
          have hpu := fun w => iPutU_yes n w (allU_in (t := t) hn0 hn1)
          rw [putV_yes hu (by omega)] at hpv
          have HPV : Hid (∀ w, Row w ta t → Calls Tryd.prog 46 #[.slice ta t.length tc] w fun e w' => e = .returned (.tuple #[.string ⟨(bytesTo t t.length).toArray⟩, .bool true]) ∧ Below w.heap.size w w') := hpv
          have HPU : Hid (∀ w, Calls Tryd.prog 49 #[.int .i64 n] w fun e w' => e = .returned (.tuple #[.string ⟨(encU 4 n).toArray⟩, .bool true]) ∧ Below w.heap.size w w') := hpu
          have htn := fun w hT => tellsN_any p w hop hT
          clear hpv hpu htl hnl hu hop
          have hBa : Below w.heap.size w (wr.alloc (.cells #[.int .i64 p, .int .i64 n, .slice ta t.length tc] 36)) := hB.alloc hB.size _
          have HI2 : Hid (Lib.IsBuilderF 60 5 w1.heap.size w1.heap.size (Lib.byteCells acc) (wr.alloc (.cells #[.int .i64 p, .int .i64 n, .slice ta t.length tc] 36))) := HI.out.alloc _
          have HO2 : Hid ((wr.alloc (.cells #[.int .i64 p, .int .i64 n, .slice ta t.length tc] 36)).heap[wr.heap.size]? = some (.cells #[.int .i64 p, .int .i64 n, .slice ta t.length tc] 36)) := heap_alloc_new wr _
          have hcl : (Lib.byteCells acc).length ≤ 1860 := by rw [Lib.byteCells_length]; exact HAL.out
          have HCL : Hid ((Lib.byteCells acc).length ≤ 1860) := hcl
          clear hcl
          go_wp2_with fail
          refine (writeByte_any w1.heap.size w1.heap.size (Lib.byteCells acc) _ _ HI2.out (by have := HCL.out; omega) (by simp; omega)).mono ?_
          rintro e w4 ⟨rfl, I4, b4, k4⟩
          have O4 := k4 _ _ HO2.out (by intro e; injection e; omega) (by intro c fz e; cases e)
          have B4 : Below w.heap.size w w4 := hBa.trans (b4.mono B1.size)
          have HO4 : Hid (w4.heap[wr.heap.size]? = some (.cells #[.int .i64 p, .int .i64 n, .slice ta t.length tc] 36)) := O4
          have x0 : w4.cell? ⟨wr.heap.size, 0, none⟩ = some (.int .i64 p) := by rw [Lib.cell_of_heap O4]; rfl
          have x1 : w4.cell? ⟨wr.heap.size, 1, none⟩ = some (.int .i64 n) := by rw [Lib.cell_of_heap O4]; rfl
          have x2 : w4.cell? ⟨wr.heap.size, 2, none⟩ = some (.slice ta t.length tc) := by rw [Lib.cell_of_heap O4]; rfl
          have hs4 : wr.heap.size + 1 ≤ w4.heap.size := by have := b4.size; simpa using this
          have HI4 : Hid (Lib.IsBuilderF 60 5 w1.heap.size w1.heap.size (Lib.byteCells (acc ++ [by8 p])) w4) := by
            show _
            rw [byteCells_app, byteCells_one p (by omega) (by omega)]
            exact .inr I4
          have hT4 : Tab w4 := H.out.2.below B4
          have HT4 : Hid (Tab w4) := hT4
          clear I4 O4 k4 b4 HI2 HO2 HI hBa hT4
          by_cases h22 : p = 22
          · subst h22
            have HSB : Hid (stpB (22, n, t) = [by8 22] ++ (bytesTo t t.length ++ encU 4 n)) := by show _ = _; unfold stpB; simp [hasN, mostN]
            have hh : hasN 22 = true := by decide
            rw [hh] at htn
            clear hh
            go_wp2_with fail
            refine (HPV.out _ (HR.out.below B4)).mono ?_
            rintro e w5 ⟨rfl, hb5⟩
            have HI5 : Hid (_) := builder_below HI4.out hb5
            have B5 := bstep' B4 hb5
            have HO5 : Hid (w5.heap[wr.heap.size]? = some (.cells #[.int .i64 22, .int .i64 n, .slice ta t.length tc] 36)) := by
              show _
              rw [hb5.block _ (by omega)]; exact HO4.out
            have hs5 : wr.heap.size + 1 ≤ w5.heap.size := by have := hb5.size; omega
            clear hb5 x0 x1 x2 HI4 HO4
            go_wp2_with fail
            refine (writeString_any w1.heap.size w1.heap.size (Lib.byteCells (acc ++ [by8 22])) ⟨(bytesTo t t.length).toArray⟩ _ HI5.out (by have h1 := HTN.out; have h2 := HAL.out; have h3 : (ByteArray.mk (bytesTo t t.length).toArray).size = (bytesTo t t.length).length := (by show (bytesTo t t.length).toArray.size = _; simp); rw [Lib.byteCells_length, h3]; simp only [List.length_append, List.length_cons, List.length_nil]; omega) (by omega)).mono ?_
            rintro e w6 ⟨rfl, I6, b6, k6⟩
            have O6 := k6 _ _ HO5.out (by intro e; injection e; omega) (by intro c fz e; cases e)
            have B6 : Below w.heap.size w w6 := B5.trans (b6.mono B1.size)
            have hs6 : wr.heap.size + 1 ≤ w6.heap.size := by have := b6.size; omega
            have x0 : w6.cell? ⟨wr.heap.size, 0, none⟩ = some (.int .i64 22) := by rw [Lib.cell_of_heap O6]; rfl
            have x1 : w6.cell? ⟨wr.heap.size, 1, none⟩ = some (.int .i64 n) := by rw [Lib.cell_of_heap O6]; rfl
            have HI6 : Hid (Lib.IsBuilderF 60 5 w1.heap.size w1.heap.size (Lib.byteCells ((acc ++ [by8 22]) ++ bytesTo t t.length)) w6) := by
              show _
              rw [byteCells_app (acc ++ [by8 22])]
              exact .inr I6
            clear I6 b6 k6 O6 HI5 HO5 B5 B4
            have hTt : Tab w6 := H.out.2.below B6
            have HTt : Hid (Tab w6) := hTt
            clear hTt
            have hss := hs6
            go_wp2_with (go_at_call 48; refine (htn _ HTt.out).mono ?_; rintro e' w' ⟨rfl, hw'⟩; subst w')
            refine (HPU.out _).mono ?_
            rintro e w7 ⟨rfl, hb7⟩
            have HI7 : Hid (_) := builder_below HI6.out hb7
            have B7 := bstep' B6 hb7
            have hs7 : wr.heap.size + 1 ≤ w7.heap.size := by have := hb7.size; omega
            clear hb7
            go_wp2_with fail
            refine (writeString_any w1.heap.size w1.heap.size (Lib.byteCells ((acc ++ [by8 22]) ++ bytesTo t t.length)) ⟨(encU 4 n).toArray⟩ _ HI7.out (by have h1 := HTN.out; have h2 := HAL.out; have h3 : (ByteArray.mk (encU 4 n).toArray).size = (encU 4 n).length := (by show (encU 4 n).toArray.size = _ ; simp); rw [Lib.byteCells_length, h3]; simp only [List.length_append, List.length_cons, List.length_nil]; omega) (by omega)).mono ?_
            rintro e w8 ⟨rfl, I8, b8, k8⟩
            have B8 : Below w.heap.size w w8 := B7.trans (b8.mono B1.size)
            have hs8 := b8.size
            have HI8 : Hid (Lib.IsBuilderF 60 5 w1.heap.size w1.heap.size (Lib.byteCells (((acc ++ [by8 22]) ++ bytesTo t t.length) ++ encU 4 n)) w8) := by
              show _
              rw [byteCells_app ((acc ++ [by8 22]) ++ bytesTo t t.length) (encU 4 n)]
              exact .inr I8
            clear I8 b8 k8
            go_wp2
            go_roundw
            case rel =>
              refine ⟨k + 1, by go_num, by omega, ?_, B8, by omega⟩
              rw [HS.out, HSB.out]
              have := HI8.out
              simp only [List.append_assoc] at this ⊢
              exact this
            case measure => simp [intOf]; omega
          · cases hN : hasN p with
            | true =>
              rw [hN] at htn
              have HSB : Hid (stpB (p, n, t) = [by8 p] ++ encU 4 n) := by show _ = _; unfold stpB; simp [h22, hN]
              clear hN
              have hTt : Tab w4 := H.out.2.below B4
              have HTt : Hid (Tab w4) := hTt
              clear hTt
              have hss := hs4
              go_wp2_with (go_at_call 48; refine (htn _ HTt.out).mono ?_; rintro e' w' ⟨rfl, hw'⟩; subst w')
              refine (HPU.out _).mono ?_
              rintro e w7 ⟨rfl, hb7⟩
              have HI7 : Hid (_) := builder_below HI4.out hb7
              have B7 := bstep' B4 hb7
              have hs7 : wr.heap.size + 1 ≤ w7.heap.size := by have := hb7.size; omega
              clear hb7
              go_wp2_with fail
              refine (writeString_any w1.heap.size w1.heap.size (Lib.byteCells (acc ++ [by8 p])) ⟨(encU 4 n).toArray⟩ _ HI7.out (by have h1 := HTN.out; have h2 := HAL.out; have h3 : (ByteArray.mk (encU 4 n).toArray).size = (encU 4 n).length := (by show (encU 4 n).toArray.size = _ ; simp); rw [Lib.byteCells_length, h3]; simp only [List.length_append, List.length_cons, List.length_nil]; omega) (by omega)).mono ?_
              rintro e w8 ⟨rfl, I8, b8, k8⟩
              have B8 : Below w.heap.size w w8 := B7.trans (b8.mono B1.size)
              have hs8 := b8.size
              have HI8 : Hid (Lib.IsBuilderF 60 5 w1.heap.size w1.heap.size (Lib.byteCells ((acc ++ [by8 p]) ++ encU 4 n)) w8) := by
                show _
                rw [byteCells_app (acc ++ [by8 p]) (encU 4 n)]
                exact .inr I8
              clear I8 b8 k8
              go_wp2
              go_roundw
              case rel =>
                refine ⟨k + 1, by go_num, by omega, ?_, B8, by omega⟩
                rw [HS.out, HSB.out]
                have := HI8.out
                simp only [List.append_assoc] at this ⊢
                exact this
              case measure => simp [intOf]; omega
            | false =>
              rw [hN] at htn
              have HSB : Hid (stpB (p, n, t) = [by8 p]) := by show _ = _; unfold stpB; simp [h22, hN]
              clear hN
              go_wp2_with (go_at_call 48; refine (htn _ HT4.out).mono ?_; rintro e' w' ⟨rfl, hw'⟩; subst w')
              go_roundw
              case rel =>
                refine ⟨k + 1, by go_num, by omega, ?_, B4, by omega⟩
                rw [HS.out, HSB.out]
                exact HI4.out
              case measure => simp [intOf]; omega
        · obtain rfl : k = xs.length := by omega
          go_wp2_with fail
          refine (string_any w1.heap.size w1.heap.size (codeTo xs xs.length) _ HI.out (by omega)).mono ?_
          rintro e w3 ⟨rfl, I3, b3, k3⟩
          go_wp2
          go_ret2
          exact ⟨rfl, hB.trans (b3.mono B1.size)⟩
end Go.Proofs.YtkdabjdobpdooaaDoor
