/- Needless params: the program. -/
import Derived.Test.YteihecnmnajahaaGreatDoorTrim12
import Derived.Test.YteihecnmnajahaaGreatDoorSplit13c
namespace Go.Proofs.YteihecnmnajahaaGreatDoor
open Go Go.RowKit
set_option linter.unusedVariables false
set_option linter.unusedSimpArgs false
set_option maxRecDepth 100000

theorem argsNN {V : Int} {xs : List Prt} (h : GoodS V xs) : ∀ p ∈ xs, ∀ l ∈ p.args, ∀ a ∈ l, 0 ≤ a := by
  intro p hp l hl a ha
  obtain ⟨k, hk⟩ := List.mem_iff_getElem?.1 hp
  obtain ⟨D, _, hD⟩ := h.defs
  exact ((hD k p hk).2 a (by unfold ends; exact List.mem_append_left _ (List.mem_flatten.2 ⟨l, hl, ha⟩))).1
theorem argsAt_ne {xs : List Prt} (hA : ∀ p ∈ xs, ∀ l ∈ p.args, ∀ a ∈ l, 0 ≤ a) (k i : Nat) : ∀ a ∈ argsAt xs k i, a ≠ -1 := by
  intro a ha
  simp only [argsAt, argsP, List.mem_flatMap] at ha
  obtain ⟨p, hp, w, hw, h⟩ := ha
  split at h
  · rw [List.mem_singleton] at h
    subst h
    cases e : p.args[w]? with
    | none => simp
    | some l =>
      simp only [Option.getD_some]
      cases e2 : l[i]? with
      | none => simp
      | some b => have := hA p hp l (List.mem_of_getElem? e) b (List.mem_of_getElem? e2); simp only [Option.getD_some]; omega
  · simp at h
/-- three numbers, the last none where no param is needless -/
def FirstAns (xs : List Prt) (e : Ending) : Prop := ∃ r b d : Int, e = .returned (.tuple #[.int .i64 r, .int .i64 b, .int .i64 d]) ∧ (d = -1 ↔ noNeedless xs)
set_option maxHeartbeats 4000000 in
theorem firstNeedless_any (xs : List Prt) (a : Option Addr) (c : Nat) (w : World) (hxl : xs.length ≤ 11) (hE : ∀ p ∈ xs, ArgIn xs p) (hA : ∀ p ∈ xs, ∀ l ∈ p.args, ∀ a ∈ l, 0 ≤ a) (hX : CRow w a xs) :
    Calls Tryz.prog 51 #[.slice a xs.length c] w fun e w' => FirstAns xs e ∧ Below w.heap.size w w' := by
  have HX := hid hX
  have HE := hid hE
  have HSC := hid (fun (k i : Nat) (v : Int) => scan_is (v := v) (argsAt_ne hA k i))
  have H85 := hid (fun (W : World) (hb : Below w.heap.size w W) (k i : Nat) (v : Int) (p : Prt) (hp : xs[k]? = some p) (hv : p.params[i]? = some v) => standIn_any xs a c k i v p W hxl hE hp hv (hX.below hb))
  clear hX hE hA
  go_enter Tryz.func51, Tryz.ntmps51
  go_wp2
  go_loopw [10] (fun t10 wr => ∃ (k : Nat), t10 = .int .i64 k ∧ k ≤ xs.length ∧ Hid (∀ j p, j < k → xs[j]? = some p → ∀ i v, p.params[i]? = some v → ¬ needless xs j i v) ∧ Hid (Below w.heap.size w wr)) (fun t10 _ => xs.length - (intOf t10).toNat)
  case atStart => exact ⟨0, rfl, by omega, (by intro j p hj; omega), Below.refl _ _⟩
  case round =>
    obtain ⟨k, rfl, hk, HF, HB⟩ := hrel
    by_cases hkx : k < xs.length
    · obtain ⟨b, off, rfl, hbw, hat⟩ := HX.out.at (by intro e; subst e; simp at hkx)
      obtain ⟨ps, cs, go, test, ns, rs, pa, pc, ca, cc, na, nc, ra, rc, c0, c1, c2, c3, c4, c5, l1, l2, l3, l4, HI, HXK⟩ := hat w (Below.refl _ _) k hkx
      have HK := hid (fun (W : World) (h : Below w.heap.size w W) => cell_below c4 h)
      have HPR := hid HI.out.params
      have r4 := HK.out wr HB.out
      clear hat HI c0 c1 c2 c3 c4 c5
      go_wp2
      clear r4
      go_loopw [19] (fun t19 wr => ∃ (i : Nat), t19 = .int .i64 i ∧ i ≤ ps.length ∧ Hid (∀ j v, j < i → ps[j]? = some v → ¬ needless xs k j v) ∧ Hid (Below w.heap.size w wr)) (fun t19 _ => ps.length - (intOf t19).toNat)
      case atStart => exact ⟨0, rfl, by omega, (by intro j v hj; omega), HB⟩
      case round =>
        obtain ⟨i, rfl, hi, HFI, HBI⟩ := hrel
        by_cases hit : i < ps.length
        · obtain ⟨v, hv⟩ : ∃ v, ps[i]? = some v := ⟨_, List.getElem?_eq_getElem hit⟩
          have HV := hid hv
          have HC := hid (H85.out wr HBI.out k i v _ HXK.out hv)
          have HND : Hid (scanP v (-1) (argsAt xs k i) ≠ -1 ↔ needless xs k i v) := HSC.out k i v
          obtain ⟨z, hz⟩ : ∃ z, scanP v (-1) (argsAt xs k i) = z := ⟨_, rfl⟩
          rw [hz] at HC HND
          clear hv hz
          by_cases hzm : z = -1
          · have HF3 : Hid (∀ j v, j < i + 1 → ps[j]? = some v → ¬ needless xs k j v) := fun j u hj hu => by
              by_cases e : j = i
              · subst e
                rw [HV.out] at hu; cases hu
                rw [← HND.out]; exact fun h => h hzm
              · exact HFI.out j u (by omega) hu
            subst hzm
            go_wp2_with (go_at_call 85; refine HC.out.mono ?_; rintro e w1 ⟨rfl, hb1⟩)
            have HB1 := hid (bstep' HBI.out hb1)
            go_roundw
            case rel => exact ⟨i + 1, by go_num, by omega, HF3, HB1⟩
            case measure => simp [intOf]; omega
          · have HBAD : Hid (¬ noNeedless xs) := fun h => h k _ HXK.out i v HV.out (HND.out.1 hzm)
            have hz2 : (z != -1) = true := by simpa using hzm
            go_wp2_with (go_at_call 85; refine HC.out.mono ?_; rintro e w1 ⟨rfl, hb1⟩)
            have HB1 := hid (bstep' HBI.out hb1)
            (try simp only [Exit.inBlock, Exit.then]); refine bodyPost_ret (results_tmp3 rfl _ _ _) rfl ?_
            exact ⟨⟨(k : Int), (i : Int), z, rfl, ⟨fun h => absurd h hzm, fun h => absurd h HBAD.out⟩⟩, HB1.out⟩
        · obtain rfl : i = ps.length := by omega
          have HF2 : Hid (∀ j p, j < k + 1 → xs[j]? = some p → ∀ i v, p.params[i]? = some v → ¬ needless xs j i v) := by
            intro j p hj hp i v hv
            by_cases e : j = k
            · subst e
              rw [HXK.out] at hp; cases hp
              exact HFI.out i v (List.getElem?_eq_some_iff.1 hv).1 hv
            · exact HF.out j p (by omega) hp i v hv
          go_wp2
          go_roundw
          case rel => exact ⟨k + 1, by go_num, by omega, HF2, HBI⟩
          case measure => simp [intOf]; omega
    · obtain rfl : k = xs.length := by omega
      have HFIN : Hid (noNeedless xs) := fun k p hp => HF.out k p (List.getElem?_eq_some_iff.1 hp).1 hp
      go_wp2
      (try simp only [Exit.inBlock, Exit.then]); refine bodyPost_ret (results_tmp3 rfl _ _ _) rfl ?_
      exact ⟨⟨0, 0, -1, rfl, ⟨fun _ => HFIN.out, fun _ => rfl⟩⟩, HB.out⟩
set_option maxHeartbeats 4000000 in
theorem iIsTrim_any (V : Int) (xs : List Prt) (a : Option Addr) (c : Nat) (w : World) (G B : Bool) (hD : TrimIs V xs G B) (hl : xs.length ≤ 9223372036854775807) (hs : sumP xs ≤ 1048576) (hT : Tab w) (hX : PRow w a xs) :
    Calls Tryz.prog 17 #[.agg #[.slice a xs.length c, .int .i64 V]] w fun e w' => e = .returned (.tuple #[.bool B, .bool G]) ∧ Below w.heap.size w w' := by
  have b1 := below1 w (.cells #[.slice a xs.length c, .int .i64 V] 30)
  have k0 : (w.alloc (.cells #[.slice a xs.length c, .int .i64 V] 30)).cell? ⟨w.heap.size, 0, none⟩ = some (.slice a xs.length c) := by simp [go_sem]
  have k1 : (w.alloc (.cells #[.slice a xs.length c, .int .i64 V] 30)).cell? ⟨w.heap.size, 1, none⟩ = some (.int .i64 V) := by simp [go_sem]
  obtain ⟨W0, hW0⟩ : ∃ W, W = w.alloc (.cells #[.slice a xs.length c, .int .i64 V] 30) := ⟨_, rfl⟩
  rw [← hW0] at b1 k0 k1
  have HW0 := hid hW0.symm
  have HB0 := hid b1
  have HX := hid (fun (W : World) (h : Below W0.heap.size W0 W) => hX.below (bstep' b1 h))
  have H15 : Hid (Calls Tryz.prog 15 #[.agg #[.slice a xs.length c, .int .i64 V]] W0 fun e w' => e = .returned (.bool G) ∧ Below W0.heap.size W0 w') := (iGoodSsa_any V xs a c W0 hl hs (hT.below b1) (hX.below b1)).mono fun e w' ⟨b, he, hb, hw⟩ => ⟨by rw [he, show b = G by rw [Bool.eq_iff_iff, hb, hD.good]], hw⟩
  have HD := hid hD
  clear hX hs hT hW0 hD
  cases G with
  | false =>
    have HZ := hid (HD.out.no rfl)
    go_enter Tryz.func17, Tryz.ntmps17
    go_upto_region 1 with fail
    try rw [HW0.out]
    clear HW0
    go_wp2_with (go_at_call 15; refine H15.out.mono ?_; rintro e w1 ⟨rfl, hb1⟩)
    have HB1 := hid (bstep' HB0.out hb1)
    clear hb1
    go_ret2
    exact ⟨by rw [HZ.out] <;> rfl, HB1.out⟩
  | true =>
    have hG := HD.out.good.1 rfl
    have hmo := hG.most
    have hpo := hG.pos
    have HE : Hid (∀ p ∈ xs, ArgIn xs p) := fun p hp => arg_of (V := V.toNat) (by have := hG.parts p hp; rwa [show V = ((V.toNat : Nat) : Int) by have := hG.low; omega] at this)
    have HY := hid (HD.out.yes rfl)
    have H35 := hid (fun (W : World) (h : Below W0.heap.size W0 W) => piecesOf_any V xs a c W (by omega) (HX.out W h))
    have H51 := hid (fun (W : World) pa pc (h : CRow W pa xs) => firstNeedless_any xs pa pc W hmo HE.out (argsNN hG) h)
    clear hG
    go_enter Tryz.func17, Tryz.ntmps17
    go_upto_region 1 with fail
    try rw [HW0.out]
    clear HW0
    go_upto_region 3 with (go_at_call 15; refine H15.out.mono ?_; rintro e w1 ⟨rfl, hb1⟩)
    have q0 := cell_below k0 hb1
    have q1 := cell_below k1 hb1
    have HB1 := hid hb1
    clear hb1 k0 k1
    go_wp2_with (first | (go_at_call 35; refine (H35.out _ HB1.out).mono ?_; rintro e w2 ⟨pa, pc, rfl, hc2, hb2⟩) | (go_at_call 51; refine (H51.out _ _ _ hc2).mono ?_; rintro e w3 ⟨⟨r, bb, z, rfl, hn⟩, hb3⟩))
    have HB3 := hid (bstep' (bstep' HB1.out hb2) hb3)
    have HN : Hid (B = decide (z = -1)) := by
      show _ = _
      rw [Bool.eq_iff_iff, HY.out, decide_eq_true_eq, hn]
    clear hb2 hb3 hc2 hn
    go_ret2
    exact ⟨by rw [HN.out]; by_cases h0 : z = -1 <;> simp [h0], bstep' HB0.out HB3.out⟩
end Go.Proofs.YteihecnmnajahaaGreatDoor
