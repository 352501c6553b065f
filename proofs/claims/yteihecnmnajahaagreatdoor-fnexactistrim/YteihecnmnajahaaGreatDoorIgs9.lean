/- The program's GoodSsa. -/
import Derived.Test.YteihecnmnajahaaGreatDoorIgood9
import Derived.Test.YteihecnmnajahaaGreatDoorIdefs9
namespace Go.Proofs.YteihecnmnajahaaGreatDoor
open Go Go.RowKit
set_option linter.unusedVariables false
set_option linter.unusedSimpArgs false
set_option maxRecDepth 100000

theorem shapeB_is {xs : List Prt} (h1 : 1 ≤ xs.length) (h2 : xs.length ≤ 11) (hN : NextOk xs) : shapeB xs = true ↔ (∀ p ∈ xs, (0 : Int) ∉ p.next) ∧ ∀ k, k < xs.length → Come (shapeL xs) k := by
  have hG := hN.gr h1 h2
  have hb : backB xs = false ↔ ∀ p ∈ xs, (0 : Int) ∉ p.next := by
    unfold backB
    rw [List.any_eq_false]
    simp [hasB]
  have ho := order_full hG
  rw [shapeL_len] at ho
  unfold shapeB
  rw [Bool.and_eq_true, Bool.not_eq_true', hb, decide_eq_true_eq, ho]
theorem len_sumP : ∀ (xs : List Prt) (p : Prt), p ∈ xs → p.params.length ≤ sumP xs := by
  intro xs p hp
  obtain ⟨k, hk⟩ := List.mem_iff_getElem?.1 hp
  have := size_le_sumP hk
  simp only [sizeP] at this
  omega
set_option maxHeartbeats 8000000 in
theorem iGoodSsa_any (V : Int) (xs : List Prt) (a : Option Addr) (c : Nat) (w : World) (hl : xs.length ≤ 9223372036854775807) (hs : sumP xs ≤ 1048576) (hT : Tab w) (hX : PRow w a xs) :
    Calls Tryz.prog 15 #[.agg #[.slice a xs.length c, .int .i64 V]] w fun e w' => SsaAns w w' V xs e := by
  have b1 := below1 w (.cells #[.slice a xs.length c, .int .i64 V] 30)
  have k0 : (w.alloc (.cells #[.slice a xs.length c, .int .i64 V] 30)).cell? ⟨w.heap.size, 0, none⟩ = some (.slice a xs.length c) := by simp [go_sem]
  have k1 : (w.alloc (.cells #[.slice a xs.length c, .int .i64 V] 30)).cell? ⟨w.heap.size, 1, none⟩ = some (.int .i64 V) := by simp [go_sem]
  obtain ⟨W0, hW0⟩ : ∃ W, W = w.alloc (.cells #[.slice a xs.length c, .int .i64 V] 30) := ⟨_, rfl⟩
  rw [← hW0] at b1 k0 k1
  have HW0 := hid hW0.symm
  have HB0 := hid b1
  have HX := hid (hX.below b1)
  have HT := hid (hT.below b1)
  have HS := hid hs
  clear hX hT hs hW0
  go_enter Tryz.func15, Tryz.ntmps15
  go_upto_region 1 with fail
  try rw [HW0.out]
  clear HW0
  by_cases v1 : V < 12
  · have HBAD : Hid (¬ GoodS V xs) := fun h => by have := h.low; omega
    go_wp2
    go_ret
    exact ⟨false, rfl, by simp [HBAD.out], HB0.out⟩
  by_cases v2 : 250 < V
  · have HBAD : Hid (¬ GoodS V xs) := fun h => by have := h.high; omega
    go_wp2
    go_ret
    exact ⟨false, rfl, by simp [HBAD.out], HB0.out⟩
  by_cases v3 : xs.length = 0
  · have HBAD : Hid (¬ GoodS V xs) := fun h => by have := h.pos; omega
    have v3' : (xs.length : Int) = 0 := by omega
    go_wp2
    go_ret
    exact ⟨false, rfl, by simp [HBAD.out], HB0.out⟩
  have v3' : ¬ (xs.length : Int) = 0 := by omega
  by_cases v4 : (11 : Int) < xs.length
  · have HBAD : Hid (¬ GoodS V xs) := fun h => by have := h.most; omega
    go_wp2
    go_ret
    exact ⟨false, rfl, by simp [HBAD.out], HB0.out⟩
  obtain ⟨N, hNV⟩ : ∃ N : Nat, V = N := ⟨V.toNat, by omega⟩
  subst hNV
  have HPI := hid (piecesOf_any (N : Int) xs a c W0 (by omega) HX.out)
  go_wp2_with (go_at_call 35; refine HPI.out.mono ?_; rintro e w1 ⟨va, vc, rfl, hc1, hb1⟩)
  have HK := hid (fun (W : World) (h : Below w1.heap.size w1 W) => cell_below (cell_below k1 hb1) h)
  have HC := hid hc1
  have HB1 := hid (bstep' HB0.out hb1)
  have HT1 := hid (HT.out.below hb1)
  clear hc1 hb1 k0 HPI HX HT b1
  have kk := HK.out w1 (Below.refl _ _)
  go_wp2
  go_loopw [31] (fun t31 wr => ∃ (k : Nat), t31 = .int .i64 k ∧ k ≤ xs.length ∧ Hid (∀ j p, j < k → xs[j]? = some p → goodPrt N xs p = true) ∧ Hid (Below w1.heap.size w1 wr)) (fun t31 _ => xs.length - (intOf t31).toNat)
  case atStart => exact ⟨0, rfl, by omega, (by intro j p hj; omega), Below.refl _ _⟩
  case round =>
    obtain ⟨k, rfl, hk, HF, HB⟩ := hrel
    have kr := HK.out wr HB.out
    clear kk
    by_cases hkx : k < xs.length
    · obtain ⟨b, off, rfl, hbw, hat⟩ := HC.out.at (by intro e; subst e; simp at hkx)
      obtain ⟨ps, cs, go, test, ns, rs, pa, pc, ca, cc, na, nc, ra, rc, c0, c1, c2, c3, c4, c5, l1, l2, l3, l4, HI, HXK⟩ := hat wr HB.out k hkx
      have H46 := hid (goodPiece_any N xs (some ⟨b, off, none⟩) vc b (off + k * 6) go test ps cs ns rs pa ca na ra pc cc nc rc wr.drew (by omega) l1 l2 l3 l4 ((HC.out.below HB.out).below (Below.refl _ _).drew) (HI.out.below (Below.refl _ _).drew) ((HT1.out.below HB.out).below (Below.refl _ _).drew) c0 c1 c2 c3 c4 c5)
      obtain ⟨g, hg⟩ : ∃ g, goodPrt N xs ⟨ps, cs, go, test, ns, rs⟩ = g := ⟨_, rfl⟩
      rw [hg] at H46
      have HG := hid hg
      have HK2 := hid (fun (W : World) (h : Below wr.heap.size wr W) => cell_below kr h)
      clear hat hg c0 c1 c2 c3 c4 c5 HI
      go_wp2
      go_region_held (fun W => W.cell? ⟨w.heap.size, 1, none⟩ = some (.int .i64 (N : Int))) ((first | exact HK2.out _ hb5 | go_keep)) ((go_at_call 46; refine H46.out.mono ?_; rintro e w5 ⟨rfl, hb5'⟩; have hb5 := below_of_drew hb5'))
      have HB5 := hid (HB.out.trans (hb5.mono HB.out.size))
      clear hb5 hb5' H46 HK2 kr
      cases g with
      | false =>
        have HBAD : Hid (¬ GoodS N xs) := fun h => by
          have := h.parts _ (List.mem_of_getElem? HXK.out)
          rw [HG.out] at this
          cases this
        go_wp2
        go_ret
        exact ⟨false, rfl, by simp [HBAD.out], bstep' HB1.out HB5.out⟩
      | true =>
        have HF2 : Hid (∀ j p, j < k + 1 → xs[j]? = some p → goodPrt N xs p = true) := by
          intro j p hj hp
          by_cases e : j = k
          · subst e; rw [HXK.out] at hp; cases hp; exact HG.out
          · exact HF.out j p (by omega) hp
        go_wp2
        go_roundw
        case rel => exact ⟨k + 1, by go_num, by omega, HF2, HB5⟩
        case measure => simp [intOf]; omega
    · obtain rfl : k = xs.length := by omega
      have HALL : Hid (∀ p ∈ xs, goodPrt N xs p = true) := fun p hp => by
        obtain ⟨j, hj⟩ := List.mem_iff_getElem?.1 hp
        exact HF.out j p (List.getElem?_eq_some_iff.1 hj).1 hj
      have HNX : Hid (NextOk xs) := fun p hp => (prtOk_of (HALL.out p hp)).next
      have HCR := hid (HC.out.below HB.out)
      have HBR := hid (bstep' HB1.out HB.out)
      have HTR := hid (HT1.out.below HB.out)
      obtain ⟨b, off, rfl, hbw, hat⟩ := HC.out.at (by intro e; subst e; simp at v3)
      obtain ⟨ps, cs, go, test, ns, rs, pa, pc, ca, cc, na, nc, ra, rc, c0, c1, c2, c3, c4, c5, l1, l2, l3, l4, HI, HX0⟩ := hat wr HB.out 0 (by omega)
      have c4' : wr.cell? ⟨b, off + 4, none⟩ = some (.slice pa ps.length pc) := by simpa using c4
      clear hat HF HB HI c0 c1 c2 c3 c4 c5 HC HB1 HT1
      by_cases hp0 : ps = []
      case neg =>
        have hp1 : 0 < ps.length := List.length_pos_iff.2 hp0
        have hp2 : (0 : Int) < ps.length := by omega
        have HBAD : Hid (¬ GoodS N xs) := fun h => hp0 (h.first _ HX0.out)
        go_wp2
        go_ret
        exact ⟨false, rfl, by simp [HBAD.out], HBR.out⟩
      subst hp0
      have HFIRST : Hid (∀ p, xs[0]? = some p → p.params = []) := by
        intro p hp
        rw [HX0.out] at hp
        cases hp
        rfl
      have H47 := hid (goodShape_any xs (some ⟨b, off, none⟩) vc wr (by omega) (by omega) HNX.out HCR.out)
      have HSB := hid (shapeB_is (by omega) (by omega) HNX.out)
      obtain ⟨g, hg⟩ : ∃ g, shapeB xs = g := ⟨_, rfl⟩
      rw [hg] at H47 HSB
      clear hg
      cases g with
      | false =>
        go_wp2_with (go_at_call 47; refine H47.out.mono ?_; rintro e w3 ⟨rfl, hb3⟩)
        have HBAD : Hid (¬ GoodS N xs) := fun h => by
          have := HSB.out.2 ⟨h.back, h.come⟩
          cases this
        have HB3 := hid (bstep' HBR.out hb3)
        clear hb3
        go_ret
        exact ⟨false, rfl, by simp [HBAD.out], HB3.out⟩
      | true =>
        have HOK := hid (HSB.out.1 rfl)
        go_upto_region 12 with (go_at_call 47; refine H47.out.mono ?_; rintro e w3 ⟨rfl, hb3⟩)
        have k3 := cell_below kr hb3
        have HB3 := hid (bstep' HBR.out hb3)
        have HC3 := hid (HCR.out.below hb3)
        have HT3 := hid (HTR.out.below hb3)
        have H48 := hid (defsIn_any N (by omega) (by omega) xs (some ⟨b, off, none⟩) vc w3 (by omega) (fun p hp => ⟨(prtOk_of (HALL.out p hp)).few, Nat.le_trans (len_sumP xs p hp) HS.out, (prtOk_of (HALL.out p hp)).comes⟩) HC3.out)
        clear hb3 c4' kr HBR HCR HTR H47
        cases hdl : defsL N xs with
        | none =>
          have HBAD : Hid (¬ GoodS N xs) := fun h => by
            obtain ⟨D, h1, _⟩ := h.defs
            rw [Int.toNat_natCast, hdl] at h1
            cases h1
          have H48n : Hid (Calls Tryz.prog 48 #[.slice (some ⟨b, off, none⟩) xs.length vc, .int .i64 (N : Int)] w3 fun e w' => e = .returned (.tuple #[.slice none 0 0, .bool false]) ∧ Below w3.heap.size w3 w') := H48.out.mono fun e w' h => by
            rcases h with ⟨⟨_, he⟩ | ⟨D, _, _, hD, _⟩, hb⟩
            · exact ⟨he, hb⟩
            · rw [hdl] at hD; cases hD
          clear H48 hdl
          go_wp2_with (go_at_call 48; refine H48n.out.mono ?_; rintro e w4 ⟨rfl, hb4⟩)
          have HB4 := hid (bstep' HB3.out hb4)
          clear hb4
          go_ret
          exact ⟨false, rfl, by simp [HBAD.out], HB4.out⟩
        | some D =>
          have HD := hid hdl
          have HDl : Hid (D.length = N) := (defsFrom_len hdl).trans (defs0_len N)
          have H48s : Hid (Calls Tryz.prog 48 #[.slice (some ⟨b, off, none⟩) xs.length vc, .int .i64 (N : Int)] w3 fun e w' => ∃ da dc, e = .returned (.tuple #[.slice da D.length dc, .bool true]) ∧ Row w' da D ∧ Below w3.heap.size w3 w') := H48.out.mono fun e w' h => by
            rcases h with ⟨⟨hn, _⟩ | ⟨D', da, dc, hD, he, ho⟩, hb⟩
            · rw [hdl] at hn; cases hn
            · rw [hdl] at hD; cases hD; exact ⟨da, dc, he, own_row ho, hb⟩
          have HFIN : Hid (GoodS N xs ↔ UsesOk N D xs) := by
            constructor
            · intro h k p hk
              obtain ⟨D2, h1, h2⟩ := h.defs
              rw [Int.toNat_natCast] at h1 h2
              rw [HD.out] at h1
              cases h1
              exact h2 k p hk
            · intro h
              exact ⟨by omega, by omega, by omega, by omega, HALL.out, HFIRST.out, HOK.out.1, HOK.out.2, D, by rw [Int.toNat_natCast]; exact HD.out, by rw [Int.toNat_natCast]; exact h⟩
          have HF49 := hid (fun (W : World) da dc (hb : Below w3.heap.size w3 W) (hr : Row W da D) => goodUses_any N xs D (some ⟨b, off, none⟩) da vc dc W (by omega) (by omega) (by omega) (by omega) HALL.out (fun p hp => params_few HD.out hp) HDl.out (HT3.out.below hb) (HC3.out.below hb) hr)
          clear H48 hdl
          go_wp2_with (first | (go_at_call 48; refine H48s.out.mono ?_; rintro e w4 ⟨da, dc, rfl, hr4, hb4⟩) | (go_at_call 49; refine (HF49.out _ _ _ hb4 hr4).mono ?_; rintro e w5 ⟨r, rfl, hr, hb5⟩))
          have HR := hid hr
          have HB5 := hid (bstep' (bstep' HB3.out hb4) hb5)
          clear hb4 hr4 hb5 hr
          go_ret
          exact ⟨r, rfl, HR.out.trans HFIN.out.symm, HB5.out⟩
end Go.Proofs.YteihecnmnajahaaGreatDoor
