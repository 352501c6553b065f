/- The bytes of code, and that the model's StepsBytes tells them. -/
import Derived.Test.YtkdabjdobpdooaaDoorRead3
import Derived.Test.YtkdabjdobpdooaaDoorEnds2
import Derived.Test.YtkdabjdobpdooaaDoorPutVec
namespace Go.Proofs.YtkdabjdobpdooaaDoor
open Go.RowKit
set_option linter.unusedVariables false
set_option linter.unusedSimpArgs false
set_option maxRecDepth 100000

/-- the bytes of a step -/
def stpB (x : Stp) : List UInt8 := [by8 x.1] ++ ((if x.1 = 22 then bytesTo x.2.2 x.2.2.length else []) ++ (if hasN x.1 = true then encU 4 x.2.1 else []))
/-- the bytes of the first steps -/
def codeTo (xs : List Stp) (k : Nat) : List UInt8 := (xs.take k).flatMap stpB
def codeV (xs : List Stp) : Value := if goodS xs = true then .tuple #[.string ⟨(codeTo xs xs.length).toArray⟩, .bool true] else .tuple #[.string ⟨#[]⟩, .bool false]
theorem codeTo_succ {xs : List Stp} {k : Nat} {x : Stp} (h : xs[k]? = some x) : codeTo xs (k + 1) = codeTo xs k ++ stpB x := by
  unfold codeTo
  rw [List.take_add_one, h, List.flatMap_append]
  simp
theorem stp_is1 {x : Stp} {o o' : List Spn} {e e' : List Int} (h : stp x o e = some (o', e')) : oneS x = true := by
  unfold stp at h
  split at h
  · rename_i h1; simp at h1; exact h1.1
  · cases h
theorem runN_one : ∀ (xs : List Stp) (o : List Spn) (e d : List Int) (z : List Spn × List Int × List Int), runN xs o e d = some z → ∀ x ∈ xs, oneS x = true := by
  intro xs
  induction xs with
  | nil => intro o e d z _ x hx; cases hx
  | cons y r ih =>
    intro o e d z h x hx
    unfold runN at h
    split at h
    · cases h
    · rename_i o' e' hs
      rcases List.mem_cons.1 hx with rfl | hx
      · exact stp_is1 hs
      · exact ih _ _ _ _ h x hx
theorem good_len {xs : List Stp} (hg : goodS xs = true) : xs.length ≤ 60 := by
  cases h : nestO xs with
  | none => rw [goodS_none h] at hg; cases hg
  | some p => obtain ⟨e, d⟩ := p; exact (nestO_length h).2.2
theorem mostN_le (p : Int) : mostN p ≤ 65535 := by unfold mostN; split <;> (try split) <;> (try split) <;> omega
theorem oneS_parts {p n : Int} {t : List Int} (h1 : oneS (p, n, t) = true) : isOpB p = true ∧ 0 ≤ n ∧ n ≤ 65535 ∧ t.length ≤ 4 ∧ allU t = true := by
  unfold oneS at h1
  simp only [Bool.and_eq_true] at h1
  obtain ⟨⟨h2, h3⟩, h4⟩ := h1
  have hm := mostN_le p
  simp [fitsB] at h3
  refine ⟨h2, by omega, by omega, ?_⟩
  split at h4
  · simp at h4
    refine ⟨h4.1.2, ?_⟩
    have h5 := h4.2
    unfold allFit at h5
    rw [List.all_eq_true] at h5
    unfold allU
    rw [List.all_eq_true]
    intro x hx
    have h6 := h5 x hx
    have hm2 := mostN_le 22
    simp [fitsB] at h6
    unfold inB
    simp
    omega
  · simp at h4
    subst h4
    exact ⟨by simp, rfl⟩
theorem code_one {xs : List Stp} {k : Nat} {p n : Int} {t : List Int} (hg : goodS xs = true) (h : xs[k]? = some (p, n, t)) : isOpB p = true ∧ 0 ≤ n ∧ n ≤ 65535 ∧ t.length ≤ 4 ∧ allU t = true := by
  cases hn : nestO xs with
  | none => rw [goodS_none hn] at hg; cases hg
  | some q => obtain ⟨e, d⟩ := q; exact oneS_parts (runN_one xs _ _ _ _ (nestO_run hn) _ (List.mem_of_getElem? h))
theorem stpB_len {x : Stp} (h : x.2.2.length ≤ 4) : (stpB x).length ≤ 31 := by
  unfold stpB
  have h1 := bytesTo_length x.2.2 x.2.2.length (Nat.le_refl _)
  have h2 := encU_len_le 4 x.2.1
  rw [List.length_append, List.length_append]
  split <;> split <;> simp <;> omega
theorem codeTo_len {xs : List Stp} (hg : goodS xs = true) (k : Nat) (hk : k ≤ xs.length) : (codeTo xs k).length ≤ 31 * k := by
  induction k with
  | zero => simp [codeTo]
  | succ k ih =>
    obtain ⟨⟨p, n, t⟩, hx⟩ : ∃ x, xs[k]? = some x := ⟨xs[k]'(by omega), by simp⟩
    rw [codeTo_succ hx, List.length_append]
    have := ih (by omega)
    have := stpB_len (x := (p, n, t)) (code_one hg hx).2.2.2.1
    omega
theorem codeV_yes {xs : List Stp} (h : goodS xs = true) : codeV xs = .tuple #[.string ⟨(codeTo xs xs.length).toArray⟩, .bool true] := by unfold codeV; rw [if_pos h]
theorem codeV_no {xs : List Stp} (h : goodS xs = false) : codeV xs = .tuple #[.string ⟨#[]⟩, .bool false] := by unfold codeV; rw [h]; rfl
theorem conv2 (W : World) (o : Obj) (x : Int) : (convert 22 9 (.slice (some ⟨W.heap.size + 1, 0, none⟩) 1 1)).run Tryd.prog ((W.alloc o).alloc (.cells #[.int .u8 x] 5)) = .ok (.string ⟨#[by8 x]⟩) ((W.alloc o).alloc (.cells #[.int .u8 x] 5)) := by
  have := conv1 (W.alloc o) x
  rwa [size_alloc1] at this
theorem allU_in {t : List Int} {n : Int} (h0 : 0 ≤ n) (h1 : n ≤ 65535) : inB 0 4294967295 n = true := by unfold inB; simp; omega

set_option maxHeartbeats 4000000 in
/-- the model's bytes of good code -/
theorem l3Bytes_any (a : Option Addr) (c : Nat) (xs : List Stp) (w : World) (hg : goodS xs = true) (h : TRow w a xs) :
    Calls Tryd.prog 51 #[.slice a xs.length c] w fun e w' => e = .returned (.string ⟨(codeTo xs xs.length).toArray⟩) ∧ Below w.heap.size w w' := by
  have hl60 := good_len hg
  by_cases hx : xs = []
  · subst hx
    clear h hg
    go_enter Tryd.func51, Tryd.ntmps51
    go_wp2
    go_loopw [3, 8] (fun t3 t8 wr => t3 = .string ⟨#[]⟩ ∧ t8 = .int .i64 0 ∧ wr = w) (fun _ _ _ => 0)
    case atStart => exact ⟨rfl, rfl, rfl⟩
    case round =>
      obtain ⟨rfl, rfl, rfl⟩ := hrel
      go_wp2
      go_ret
      exact ⟨rfl, Below.refl _ _⟩
  · obtain ⟨b, off, rfl, hat⟩ := h.at hx
    have HA : Hid (_) := hat
    have HG : Hid (goodS xs = true) := hg
    clear hat hx h hg
    go_enter Tryd.func51, Tryd.ntmps51
    go_wp2
    go_loopw [3, 8] (fun t3 t8 wr => ∃ (k : Nat), t3 = .string ⟨(codeTo xs k).toArray⟩ ∧ t8 = .int .i64 k ∧ k ≤ xs.length ∧ Below w.heap.size w wr) (fun _ t8 _ => xs.length - (intOf t8).toNat)
    case atStart => exact ⟨0, rfl, rfl, by omega, Below.refl _ _⟩
    case round =>
      obtain ⟨k, rfl, rfl, hk, hB⟩ := hrel
      by_cases hlt : k < xs.length
      · obtain ⟨p, n, t, ta, tc, c1, c2, c3, hbw, hs, HR, HX⟩ := HA.out wr hB k hlt
        have hbr : b < wr.heap.size := Nat.lt_of_lt_of_le hbw hB.size
        obtain ⟨hop, hn0, hn1, ht4, hu⟩ := code_one HG.out HX.out
        have hb : 1 ≤ p ∧ p ≤ 22 := by simpa [isOpB] using hop
        have hmod : p % 256 = p := by omega
        have HS : Hid (codeTo xs (k + 1) = codeTo xs k ++ stpB (p, n, t)) := codeTo_succ HX.out
        have hal := codeTo_len HG.out k hk
        have hal2 : (codeTo xs k).length ≤ 1860 := by omega
        clear hal
        generalize codeTo xs k = acc at HS hal2 ⊢
        have HU : Hid (allU t = true) := hu
        have htl := Nat.le_trans (bytesTo_length t t.length (Nat.le_refl _)) (show 5 + 5 * t.length ≤ 25 by omega)
        have hnl := Nat.le_trans (encU_len_le 4 n) (show 4 + 1 ≤ 5 by omega)
        have hcv := fun o => conv2 wr o p
        have hR2 : ∀ o1 o2, Row ((wr.alloc o1).alloc o2) ta t := fun o1 o2 => HR.out.below (bstep' hB (below2 wr o1 o2))
        have HR2 : Hid (∀ o1 o2, Row ((wr.alloc o1).alloc o2) ta t) := hR2
        have HB2 : Hid (∀ o1 o2, Below w.heap.size w ((wr.alloc o1).alloc o2)) := fun o1 o2 => bstep' hB (below2 wr o1 o2)
        have hhn := fun w => l3HasN_any p w
        clear hu hR2 hop
        have hpv := fun w h => l1PutVec_any ta tc t w (by omega) HU.out h
        have HPU : Hid (∀ w, Calls Tryd.prog 79 #[.int .i64 n] w fun e w' => e = .returned (.string ⟨(encU 4 n).toArray⟩) ∧ Below w.heap.size w w') := fun w => l1PutU_any n w hn0 (by omega)
        by_cases h22 : p = 22
        · subst h22
          have HSB : Hid (stpB (22, n, t) = [by8 22] ++ (bytesTo t t.length ++ encU 4 n)) := by show _ = _; unfold stpB; simp [hasN, mostN]
          have hh : hasN 22 = true := by decide
          rw [hh] at hhn
          generalize bytesTo t t.length = tb at htl HSB hpv
          generalize encU 4 n = nb at hnl HSB HPU
          have HPV : Hid (∀ w, Row w ta t → Calls Tryd.prog 78 #[.slice ta t.length tc] w fun e w' => e = .returned (.string ⟨tb.toArray⟩) ∧ Below w.heap.size w w') := hpv
          clear hpv hh
          go_wp2_with fail
          refine (HPV.out _ (HR2.out _ _)).mono ?_
          rintro e w2 ⟨rfl, hb2⟩
          obtain ⟨hc, _⟩ := bcell hb2
          have x0 : w2.cell? ⟨wr.heap.size, 0, none⟩ = some (.int .i64 22) := by rw [hc _ _ (by simp; omega)]; simp [go_sem]
          have x1 : w2.cell? ⟨wr.heap.size, 1, none⟩ = some (.int .i64 n) := by rw [hc _ _ (by simp; omega)]; simp [go_sem]
          have B2 := bstep' (HB2.out _ _) hb2
          clear hc hb2
          go_wp2_with (first | (go_at_call 61; refine (hhn _).mono ?_; rintro e' w' ⟨rfl, hw'⟩; subst w') | (go_at_call 79; refine (HPU.out _).mono ?_; rintro e' w3 ⟨rfl, hb3⟩))
          go_roundw
          case rel => exact ⟨k + 1, by rw [HS.out, HSB.out, app1, ByteArray.mk_append_mk, ByteArray.mk_append_mk]; simp, by go_num, by omega, bstep' B2 hb3⟩
          case measure => simp [intOf]; omega
        · clear hpv
          cases hN : hasN p with
          | true =>
            rw [hN] at hhn
            have HSB : Hid (stpB (p, n, t) = [by8 p] ++ encU 4 n) := by show _ = _; unfold stpB; simp [h22, hN]
            generalize encU 4 n = nb at hnl HSB HPU
            clear hN
            go_wp2_with (first | (go_at_call 61; refine (hhn _).mono ?_; rintro e' w' ⟨rfl, hw'⟩; subst w') | (go_at_call 79; refine (HPU.out _).mono ?_; rintro e' w3 ⟨rfl, hb3⟩))
            go_roundw
            case rel => exact ⟨k + 1, by rw [HS.out, HSB.out, app1, ByteArray.mk_append_mk]; simp, by go_num, by omega, bstep' (HB2.out _ _) hb3⟩
            case measure => simp [intOf]; omega
          | false =>
            rw [hN] at hhn
            have HSB : Hid (stpB (p, n, t) = [by8 p]) := by show _ = _; unfold stpB; simp [h22, hN]
            clear hN
            go_wp2_with (go_at_call 61; refine (hhn _).mono ?_; rintro e' w' ⟨rfl, hw'⟩; subst w')
            go_roundw
            case rel => exact ⟨k + 1, by rw [HS.out, HSB.out, app1], by go_num, by omega, HB2.out _ _⟩
            case measure => simp [intOf]; omega
      · obtain rfl : k = xs.length := by omega
        go_wp2
        go_ret
        exact ⟨rfl, hB⟩
end Go.Proofs.YtkdabjdobpdooaaDoor
