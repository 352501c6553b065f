/- What the program's StepText answers, at every step. -/
import Derived.Test.YtkdabjdobpdooaaDoorText2
namespace Go.Proofs.YtkdabjdobpdooaaDoor
open Go.RowKit
set_option linter.unusedVariables false
set_option linter.unusedSimpArgs false
set_option maxRecDepth 100000

theorem info9 : (Tryd.prog.info? 9).map (fun i => (i.zero, i.size, i.bytes)) = some (some (.string ⟨#[]⟩), 1, 16) := by kernel_rfl
def strs (l : List (List UInt8)) : List Value := l.map (fun x => .string ⟨x.toArray⟩)
theorem strs_snoc (l : List (List UInt8)) (x : List UInt8) : strs (l ++ [x]) = strs l ++ [.string ⟨x.toArray⟩] := by simp [strs]
theorem strs_length (l : List (List UInt8)) : (strs l).length = l.length := by simp [strs]
theorem own_words {w : World} {B g cap n : Nat} {l : List (List UInt8)} (h : w.ownsRow B 9 1 (.slice (some ⟨g, 0, none⟩) n cap) n (strs l)) : n = l.length ∧ n ≤ cap ∧ WRow w g 0 l := by
  have h1 : n = l.length := by have := h.1; rw [strs_length] at this; omega
  refine ⟨h1, ?_, ?_⟩
  · rcases h.2 with ⟨e, _⟩ | ⟨g', cap', cur, e, _, _, hn, _⟩
    · cases e
    · injection e with e1 e2 e3; omega
  · intro i hi
    have := h.cellAt i (by omega)
    rw [Nat.zero_add, this]
    simp [strs, hi]
theorem own_first (w : World) (x : List UInt8) : (w.alloc (.cells #[.string ⟨x.toArray⟩] 9)).ownsRow w.heap.size 9 1 (.slice (some ⟨w.heap.size, 0, none⟩) 1 1) 1 (strs [x]) := by
  refine ⟨rfl, .inr ⟨w.heap.size, 1, #[.string ⟨x.toArray⟩], rfl, Nat.le_refl _, ?_, Nat.le_refl _, by decide, rfl, rfl⟩⟩
  exact heap_alloc_new w _
theorem news_one (w : World) (x : Value) (t : TypeId) : ∀ j u, [x][j]? = some u → (w.alloc (.cells #[x] t)).cell? ((⟨w.heap.size, 0, none⟩ : Addr).add j) = some u := news_at0 w #[x] t
theorem joinJ_cons (x : List UInt8) (l : List (List UInt8)) : joinJ (x :: l) = x ++ tailJ l := rfl
theorem TenTab.below {w w' : World} (h : TenTab w) (hb : Below w.heap.size w w') : TenTab w' := Lib.tabBelow_of_tabIs h w' hb

set_option maxHeartbeats 4000000 in
/-- the program's StepText -/
theorem iText_any (p n : Int) (t : List Int) (ta : Option Addr) (tc : Nat) (w : World) (hl : t.length ≤ 9223372036854775807) (hR : Row w ta t) (hT : Tab w) (hTen : TenTab w) :
    Calls Tryd.prog 29 #[.agg #[.int .i64 p, .int .i64 n, .slice ta t.length tc]] w fun e w' => e = .returned (textV (p, n, t)) ∧ Below w.heap.size w w' := by
  obtain ⟨i0, hi, hz0, hz1, hz2⟩ := info_parts info9
  have HR : Hid (Row w ta t) := hR
  have HT : Hid (∀ w', Below w.heap.size w w' → Tab w') := fun w' hb => hT.below hb
  have HTen : Hid (∀ w', Below w.heap.size w w' → TenTab w') := fun w' hb => hTen.below hb
  have hon := fun w h hT => mayStand_any p n t ta tc w hl h hT
  have Ba := below1 w (.cells #[.int .i64 p, .int .i64 n, .slice ta t.length tc] 36)
  have HBa : Hid (_) := Ba
  clear Ba hR hT hTen
  cases hO : oneS (p, n, t) with
  | false =>
    rw [hO] at hon
    rw [textV_no hO]
    have HO : Hid (_) := hon
    clear hon hO
    go_enter Tryd.func29, Tryd.ntmps29
    go_wp2_with fail
    refine (HO.out _ (HR.out.below HBa.out) (HT.out _ HBa.out)).mono ?_
    rintro e w1 ⟨rfl, hb1⟩
    go_wp2
    go_ret2
    exact ⟨rfl, bstep' HBa.out hb1⟩
  | true =>
    rw [hO] at hon
    rw [textV_yes hO]
    have HO : Hid (∀ w, Row w ta t → Tab w → Calls Tryd.prog 67 #[.agg #[.int .i64 p, .int .i64 n, .slice ta t.length tc]] w fun e w' => e = .returned (.bool true) ∧ Below w.heap.size w w') := hon
    obtain ⟨hop, hn0, hn1, ht4, hu⟩ := oneS_parts hO
    have hpb : 1 ≤ p ∧ p ≤ 22 := by simpa [isOpB] using hop
    have htl := fun w hT => tellsN_any p w hop hT
    obtain ⟨k, rfl⟩ := Int.eq_ofNat_of_zero_le (show 0 ≤ p by omega)
    have HTB := oneS_table hO
    have HNM : Hid (∀ w, TenTab w → Calls Tryd.prog 68 #[.int .i64 n] w fun e w' => e = .returned (.string ⟨(numJ n).toArray⟩) ∧ Below w.heap.size w w') := fun w h => itoa_any n hn0 hn1 w h
    have hnl := numJ_len hn0 hn1
    have HNL : Hid ((numJ n).length ≤ 20) := by show (numJ n).length ≤ 20; omega
    have HWL : Hid ((wordL k).length ≤ 20) := by show (wordL k).length ≤ 20; have := wordL_len k; omega
    have hk23 : k < 23 := by omega
    clear hon hO hop hu hnl
    rcases HTB with ⟨h22, ht1, htn⟩ | ⟨h22, rfl⟩
    · obtain rfl : k = 22 := by omega
      have HTX : Hid (textL (((22 : Nat) : Int), n, t) = joinJ (wordL 22 :: (t.map numJ ++ [numJ n]))) := by
        show _ = _
        have : hasN ((22 : Nat) : Int) = true := by decide
        rw [joinJ_cons]; unfold textL numsL; rw [if_pos this]; rfl
      rw [HTX.out]
      have hN : hasN ((22 : Nat) : Int) = true := by decide
      rw [hN] at htl
      have hwdd : ∀ w', Below w.heap.size w w' → w'.cell? ⟨0, 22 * 2, none⟩ = some (.string ⟨(wordL 22).toArray⟩) := fun w' hb => ((HT.out _ hb) 22 hk23).1
      obtain ⟨b, off, rfl, hcell⟩ : ∃ b off, ta = some ⟨b, off, none⟩ ∧ ∀ i, i < t.length → w.cell? ⟨b, off + i, none⟩ = some (.int .i64 (t[i]?.getD 0)) := by
        rcases HR.out with h | ⟨b, off, h, hc⟩
        · rw [h] at ht1; simp at ht1
        · exact ⟨b, off, h, hc⟩
      have HC : Hid (_) := hcell
      have HTN : Hid (∀ x ∈ t, 0 ≤ x ∧ x ≤ 65535) := htn
      have HNS : Hid (∀ x ∈ t.map numJ, x.length ≤ 20) := by
        intro x hx
        obtain ⟨y, hy, rfl⟩ := List.mem_map.1 hx
        have := htn y hy
        have := numJ_len this.1 this.2
        omega
      generalize numJ n = nb at HNM HNL ⊢
      generalize wordL 22 = wk at HWL hwdd ⊢
      have HWDD : Hid (∀ w', Below w.heap.size w w' → w'.cell? ⟨0, 22 * 2, none⟩ = some (.string ⟨wk.toArray⟩)) := hwdd
      clear HTX hwdd hcell htn hN
      go_enter Tryd.func29, Tryd.ntmps29
      go_wp2_with fail
      refine (HO.out _ (HR.out.below HBa.out) (HT.out _ HBa.out)).mono ?_
      rintro e w1 ⟨rfl, hb1⟩
      have B1 := bstep' HBa.out hb1
      obtain ⟨hc, -⟩ := bcell hb1
      have x0 : w1.cell? ⟨w.heap.size, 0, none⟩ = some (.int .i64 22) := by rw [hc _ _ (by simp)]; simp [go_sem]
      have x1 : w1.cell? ⟨w.heap.size, 1, none⟩ = some (.int .i64 n) := by rw [hc _ _ (by simp)]; simp [go_sem]
      have x2 : w1.cell? ⟨w.heap.size, 2, none⟩ = some (.slice (some ⟨b, off, none⟩) t.length tc) := by rw [hc _ _ (by simp)]; simp [go_sem]
      have hlt : w.heap.size < w1.heap.size := by have := hb1.size; simp at this; omega
      have hwd : w1.cell? ⟨0, 44, none⟩ = some (.string ⟨wk.toArray⟩) := HWDD.out _ B1
      clear hc hb1
      have HOW : Hid (_) := own_first w1 wk
      have HY : Hid (∀ w3, Below w1.heap.size w1 w3 → w3.cell? ⟨w.heap.size, 0, none⟩ = some (.int .i64 22) ∧ w3.cell? ⟨w.heap.size, 1, none⟩ = some (.int .i64 n)) := by
        intro w3 hb
        refine ⟨?_, ?_⟩ <;> rw [hb.cell (by assumption)] <;> assumption
      go_wp2
      go_loopw [4, 19] (fun t4 t19 wr => ∃ (j g cap : Nat), t4 = .slice (some ⟨g, 0, none⟩) (j + 1) cap ∧ t19 = .int .i64 (j : Int) ∧ j ≤ t.length ∧ wr.ownsRow w1.heap.size 9 1 (.slice (some ⟨g, 0, none⟩) (j + 1) cap) (j + 1) (strs (wk :: (t.take j).map numJ)) ∧ Below w1.heap.size w1 wr) (fun _ t19 _ => t.length - (intOf t19).toNat)
      case atStart => exact ⟨0, w1.heap.size, 1, rfl, rfl, by omega, HOW.out, below1 _ _⟩
      case round =>
        obtain ⟨j, g, cap, rfl, rfl, hj, hown, hB⟩ := hrel
        clear x0 x1 x2 hwd
        have hBs := hB.size
        have HBW : Hid (Below w.heap.size w wr) := bstep' B1 hB
        by_cases hlt3 : j < t.length
        · obtain ⟨x, hx⟩ : ∃ x, t[j]? = some x := ⟨t[j], by simp [hlt3]⟩
          have hcx := HC.out j hlt3
          rw [hx] at hcx
          simp only [Option.getD_some] at hcx
          have hcx2 : wr.cell? ⟨b, off + j, none⟩ = some (.int .i64 x) := by rw [HBW.out.cell (World.block_lt_of_cell? w _ hcx)]; exact hcx
          have hxb := HTN.out x (List.mem_of_getElem? hx)
          have HNX : Hid (∀ w, TenTab w → Calls Tryd.prog 68 #[.int .i64 x] w fun e w' => e = .returned (.string ⟨(numJ x).toArray⟩) ∧ Below w.heap.size w w') := fun w h => itoa_any x hxb.1 hxb.2 w h
          have HXS : Hid (wk :: (t.take (j + 1)).map numJ = (wk :: (t.take j).map numJ) ++ [numJ x]) := by
            show _ = _
            rw [List.take_add_one, hx, List.map_append]; simp
          generalize numJ x = xb at HNX HXS
          generalize wk :: (t.take j).map numJ = pre at hown HXS
          clear hx hcx
          go_wp2_with (first | (go_at_call 68; refine (HNX.out _ (HTen.out _ HBW.out)).mono ?_; rintro e' w3 ⟨rfl, hb3⟩; have hown3 := owns_below hown hb3; have hs3 := hb3.size) | (at_builtin; refine wpList_append_lies _ rfl _ _ 98 rfl w1.heap.size 9 i0 (.string ⟨#[]⟩) 1 16 Tryd.underlying98 hi hz0 hz1 hz2 rfl (by decide) _ _ _ rfl (hown3.alloc _) ⟨w3.heap.size, 0, none⟩ 1 1 [.string ⟨xb.toArray⟩] rfl rfl (news_one w3 _ 9) (by simp [Value.oneCell']) (by decide) (by unfold maxLen; omega) (by omega) (by simp; omega) (w3.heap.size + 1) (by simp) ?_))
          intro g2 cap2 w4 hown4 hgrow4 hat4 hlt4
          have HB4 : Hid (Below w1.heap.size w1 w4) := ((bstep' hB hb3).alloc (by omega) _).grown hgrow4 (by simp; omega) (fun j hj => (hown3.lt j hj).1)
          have HO4 : Hid (w4.ownsRow w1.heap.size 9 1 (.slice (some ⟨g2, 0, none⟩) (j + 1 + 1) cap2) (j + 1 + 1) (strs (pre ++ [xb]))) := by rw [strs_snoc]; exact hown4
          clear hown4 hgrow4 hat4 hlt4 hown3 hown
          go_wp2
          go_roundw
          case rel => exact ⟨j + 1, g2, cap2, rfl, by go_num, by omega, by rw [HXS.out]; exact HO4.out, HB4.out⟩
          case measure => simp [intOf]; omega
        · obtain rfl : j = t.length := by omega
          obtain ⟨z0, z1⟩ := HY.out wr hB
          have hown' : wr.ownsRow w1.heap.size 9 1 (.slice (some ⟨g, 0, none⟩) (t.length + 1) cap) (t.length + 1) (strs (wk :: t.map numJ)) := by rw [List.take_length] at hown; exact hown
          have HOW2 : Hid (_) := hown'
          clear hown hown'
          go_wp2_with (first | (go_at_call 48; refine (htl _ (HT.out _ HBW.out)).mono ?_; rintro e' w' ⟨rfl, hw'⟩; subst w') | (go_at_call 68; refine (HNM.out _ (HTen.out _ HBW.out)).mono ?_; rintro e' w3 ⟨rfl, hb3⟩; have hown3 := owns_below HOW2.out hb3; have hs3 := hb3.size) | (at_builtin; refine wpList_append_lies _ rfl _ _ 98 rfl w1.heap.size 9 i0 (.string ⟨#[]⟩) 1 16 Tryd.underlying98 hi hz0 hz1 hz2 rfl (by decide) _ _ _ rfl (hown3.alloc _) ⟨w3.heap.size, 0, none⟩ 1 1 [.string ⟨nb.toArray⟩] rfl rfl (news_one w3 _ 9) (by simp [Value.oneCell']) (by decide) (by unfold maxLen; omega) (by omega) (by simp; omega) (w3.heap.size + 1) (by simp) ?_))
          intro g2 cap2 w4 hown4 hgrow4 hat4 hlt4
          have HB4 : Hid (Below w.heap.size w w4) := ((bstep' HBW.out hb3).alloc (by omega) _).grown hgrow4 (by simp; omega) (fun j hj => by have := (hown3.lt j hj).1; omega)
          have HO4 : Hid (w4.ownsRow w1.heap.size 9 1 (.slice (some ⟨g2, 0, none⟩) (t.length + 1 + 1) cap2) (t.length + 1 + 1) (strs ((wk :: t.map numJ) ++ [nb]))) := by rw [strs_snoc]; exact hown4
          have HW4 : Hid (_) := own_words HO4.out
          have HLE : Hid (((wk :: t.map numJ) ++ [nb]).length = t.length + 1 + 1) := by show _ = _; simp
          clear hown4 hgrow4 hat4 hlt4 hown3
          have hj := join_any g2 0 cap2 ((wk :: t.map numJ) ++ [nb]) w4 (by rw [HLE.out]; omega) (by rw [HLE.out]; omega) (by rw [HLE.out]; exact HW4.out.2.1) (by
            intro x hx
            simp only [List.mem_append, List.mem_cons, List.mem_singleton, List.not_mem_nil, or_false] at hx
            rcases hx with (rfl | hx) | rfl
            · exact HWL.out
            · exact HNS.out x hx
            · exact HNL.out) HW4.out.2.2
          rw [HLE.out] at hj
          have HJ : Hid (Calls Tryd.prog 69 #[.slice (some ⟨g2, 0, none⟩) (t.length + 1 + 1) cap2, .string ⟨#[32]⟩] w4 fun e w' => e = .returned (.string ⟨(joinJ ((wk :: t.map numJ) ++ [nb])).toArray⟩) ∧ Below w4.heap.size w4 w') := hj
          clear hj
          go_wp2_with fail
          refine Calls.mono HJ.out ?_
          rintro e w5 ⟨rfl, hb5⟩
          have HB5 : Hid (Below w.heap.size w w5) := bstep' HB4.out hb5
          clear hb5
          go_wp2
          go_ret2
          exact ⟨rfl, HB5.out⟩
    · have HTX : Hid (textL ((k : Int), n, []) = joinJ (wordL k :: (if hasN (k : Int) = true then [numJ n] else []))) := by
        show _ = _
        rw [joinJ_cons]; unfold textL numsL; simp
      rw [HTX.out]
      have hwdd : ∀ w', Below w.heap.size w w' → w'.cell? ⟨0, k * 2, none⟩ = some (.string ⟨(wordL k).toArray⟩) := fun w' hb => ((HT.out _ hb) k hk23).1
      generalize numJ n = nb at HNM HNL ⊢
      generalize wordL k = wk at HWL hwdd ⊢
      have HWDD : Hid (∀ w', Below w.heap.size w w' → w'.cell? ⟨0, k * 2, none⟩ = some (.string ⟨wk.toArray⟩)) := hwdd
      clear HTX hwdd
      cases hN : hasN (k : Int) with
      | true =>
        rw [hN] at htl
        simp only [if_true]
        clear hN
        go_enter Tryd.func29, Tryd.ntmps29
        go_wp2_with fail
        refine (HO.out _ (HR.out.below HBa.out) (HT.out _ HBa.out)).mono ?_
        rintro e w1 ⟨rfl, hb1⟩
        have B1 := bstep' HBa.out hb1
        obtain ⟨hc, -⟩ := bcell hb1
        have x0 : w1.cell? ⟨w.heap.size, 0, none⟩ = some (.int .i64 (k : Int)) := by rw [hc _ _ (by simp)]; simp [go_sem]
        have x1 : w1.cell? ⟨w.heap.size, 1, none⟩ = some (.int .i64 n) := by rw [hc _ _ (by simp)]; simp [go_sem]
        have x2 : w1.cell? ⟨w.heap.size, 2, none⟩ = some (.slice ta 0 tc) := by rw [hc _ _ (by simp)]; simp [go_sem]
        have hlt : w.heap.size < w1.heap.size := by have := hb1.size; simp at this; omega
        have hwd := HWDD.out _ B1
        clear hc hb1
        have hown := own_first w1 wk
        have HB2 : Hid (Below w.heap.size w (w1.alloc (.cells #[.string ⟨wk.toArray⟩] 9))) := B1.alloc B1.size _
        have HOW : Hid (_) := hown
        clear hown
        go_wp2
        go_loopw [4, 19] (fun t4 t19 wr => t4 = .slice (some ⟨w1.heap.size, 0, none⟩) 1 1 ∧ t19 = .int .i64 0 ∧ wr = w1.alloc (.cells #[.string ⟨wk.toArray⟩] 9)) (fun _ _ _ => 0)
        case atStart => exact ⟨rfl, rfl, rfl⟩
        case round =>
          obtain ⟨rfl, rfl, rfl⟩ := hrel
          go_wp2_with (first | (go_at_call 48; refine (htl _ (HT.out _ HB2.out)).mono ?_; rintro e' w' ⟨rfl, hw'⟩; subst w') | (go_at_call 68; refine (HNM.out _ (HTen.out _ HB2.out)).mono ?_; rintro e' w3 ⟨rfl, hb3⟩; have hown3 := owns_below HOW.out hb3; have hs3 := hb3.size; simp at hs3) | (at_builtin; refine wpList_append_lies _ rfl _ _ 98 rfl w1.heap.size 9 i0 (.string ⟨#[]⟩) 1 16 Tryd.underlying98 hi hz0 hz1 hz2 rfl (by decide) _ _ _ rfl (hown3.alloc _) ⟨w3.heap.size, 0, none⟩ 1 1 [.string ⟨nb.toArray⟩] rfl rfl (news_one w3 _ 9) (by simp [Value.oneCell']) (by decide) (by decide) (by decide) (by simp; omega) (w3.heap.size + 1) (by simp) ?_))
          intro g cap w4 hown4 hgrow4 hat4 hlt4
          have B4 : Below w.heap.size w w4 := ((bstep' HB2.out hb3).alloc (by have := HB2.out.size; simp at this; omega) _).grown hgrow4 (by have := HB2.out.size; simp at this ⊢; omega) (fun j hj => by have := (hown3.lt j hj).1; omega)
          have hw4 := own_words (l := [wk, nb]) hown4
          have HW4 : Hid (_) := hw4
          clear hown4 hgrow4 hat4 hlt4 hown3 hw4
          go_wp2_with fail
          refine (join_any g 0 cap [wk, nb] _ (by simp) (by simp) HW4.out.2.1 (by simp; exact ⟨HWL.out, HNL.out⟩) HW4.out.2.2).mono ?_
          rintro e w5 ⟨rfl, hb5⟩
          go_wp2
          go_ret2
          exact ⟨rfl, bstep' B4 hb5⟩
      | false =>
        rw [hN] at htl
        have hite : (if false = true then [nb] else ([] : List (List UInt8))) = [] := rfl
        rw [hite]
        clear hN hite
        go_enter Tryd.func29, Tryd.ntmps29
        go_wp2_with fail
        refine (HO.out _ (HR.out.below HBa.out) (HT.out _ HBa.out)).mono ?_
        rintro e w1 ⟨rfl, hb1⟩
        have B1 := bstep' HBa.out hb1
        obtain ⟨hc, -⟩ := bcell hb1
        have x0 : w1.cell? ⟨w.heap.size, 0, none⟩ = some (.int .i64 (k : Int)) := by rw [hc _ _ (by simp)]; simp [go_sem]
        have x1 : w1.cell? ⟨w.heap.size, 1, none⟩ = some (.int .i64 n) := by rw [hc _ _ (by simp)]; simp [go_sem]
        have x2 : w1.cell? ⟨w.heap.size, 2, none⟩ = some (.slice ta 0 tc) := by rw [hc _ _ (by simp)]; simp [go_sem]
        have hlt : w.heap.size < w1.heap.size := by have := hb1.size; simp at this; omega
        have hwd := HWDD.out _ B1
        clear hc hb1
        have hown := own_first w1 wk
        have HB2 : Hid (Below w.heap.size w (w1.alloc (.cells #[.string ⟨wk.toArray⟩] 9))) := B1.alloc B1.size _
        have HOW : Hid (_) := hown
        clear hown
        go_wp2
        go_loopw [4, 19] (fun t4 t19 wr => t4 = .slice (some ⟨w1.heap.size, 0, none⟩) 1 1 ∧ t19 = .int .i64 0 ∧ wr = w1.alloc (.cells #[.string ⟨wk.toArray⟩] 9)) (fun _ _ _ => 0)
        case atStart => exact ⟨rfl, rfl, rfl⟩
        case round =>
          obtain ⟨rfl, rfl, rfl⟩ := hrel
          go_wp2_with (go_at_call 48; refine (htl _ (HT.out _ HB2.out)).mono ?_; rintro e' w' ⟨rfl, hw'⟩; subst w')
          have HW4 : Hid (_) := own_words (l := [wk]) HOW.out
          refine (join_any w1.heap.size 0 1 [wk] _ (by simp) (by simp) HW4.out.2.1 (by simp; exact HWL.out) HW4.out.2.2).mono ?_
          rintro e w5 ⟨rfl, hb5⟩
          have HB5 : Hid (Below w.heap.size w w5) := bstep' HB2.out hb5
          clear hb5 hwd
          go_wp2
          go_ret2
          exact ⟨rfl, HB5.out⟩
end Go.Proofs.YtkdabjdobpdooaaDoor
