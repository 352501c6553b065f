/- The model's DropIdle. -/
import Derived.Test.YtiaiaejijicddaaSIdle
import Derived.Test.YtiaiaejijicddaaOnceL
namespace Go.Proofs.Ytiaiaejijicddaa
open Go Go.RowKit
set_option linter.unusedVariables false
set_option linter.unusedSimpArgs false
set_option maxRecDepth 100000

theorem frow_take {w : World} {a : Option Addr} {xs : List Flt} (h : FRow w a xs) (k : Nat) : FRow w a (xs.take k) := by
  rcases h with h | ⟨b, off, rfl, hc⟩
  · left; subst h; simp
  · refine .inr ⟨b, off, rfl, fun j x hx => hc j x ?_⟩
    rw [List.getElem?_take] at hx
    split at hx
    · exact hx
    · cases hx
set_option maxHeartbeats 4000000 in
theorem sIdle_good (a ka : Option Addr) (c kc : Nat) (xs : List Flt) (ks : List Int) (w : World) (hlow : lowL xs = true) (hkeep : keepL ks = true) (hk : ks.length ≤ 9223372036854775807) (h : FRow w a xs) (hK : Row w ka ks) :
    Calls Try.prog 24 #[.slice a xs.length c, .slice ka ks.length kc] w fun e w' => (∃ va vc, e = .returned (.tuple #[.slice va (idleR ks xs).length vc, .int .i64 ((xs.length : Int) - (idleR ks xs).length), .bool true]) ∧ w'.ownsRow w.heap.size 49 6 (.slice va (idleR ks xs).length vc) (idleR ks xs).length (flatF (idleR ks xs))) ∧ Below w.heap.size w w' := by
  have hl60 := low_few hlow
  have hL := l14Low_any a c xs w (by omega) h
  have hP := fun (W : World) (hb : Below w.heap.size w W) => l16Keep_any ka kc ks W hk (hK.below hb)
  rw [hlow] at hL
  rw [hkeep] at hP
  have HL := hid hL
  have HP := hid hP
  have HF := hid h
  have HK := hid hK
  have HG := hid (low_all hlow)
  obtain ⟨R, hR⟩ : ∃ R, idleR ks xs = R := ⟨_, rfl⟩
  have HR := hid hR
  have HRL : Hid (R.length ≤ xs.length) := by show _ ≤ _; rw [← hR]; exact (idleR_sub ks xs).length_le
  rw [hR]
  clear hL hP hlow hkeep h hK hR
  go_enter Try.func24, Try.ntmps24
  go_upto_region 3 with (first | (go_at_call 27; refine HL.out.mono ?_; rintro e w1 ⟨rfl, hb1⟩) | (go_at_call 36; refine (HP.out _ hb1).mono ?_; rintro e w2 ⟨rfl, rfl⟩))
  have HB1 := hid hb1
  have HS1 := hid (sep_one (owns_mono (B' := w.heap.size) (own_new49 w2 _ rfl) hb1.size))
  have HB1' := hid (bstep' hb1 (below1 w2 (.cells #[] 49)))
  have HN1 := hid (News.flats (HF.out.below HB1'.out))
  clear hb1
  go_upto_region 4 with (at_builtin; refine wpList_append_sep eltFlat rfl _ _ rfl w.heap.size [] HS1.out rfl HN1.out rfl (by omega) HB1'.out.size ?_)
  intro va0 vc0 w3 hs3 hb3 hg3
  have HS3 := hid hs3
  have HB3 := hid (HB1'.out.trans hb3)
  clear hs3 hb3 hg3 HS1 HN1 HB1' HB1
  go_wp2
  go_loopw [7, 8, 9] (fun t7 t8 t9 wr => ∃ (out : List Flt) (n : Nat) (ag : Bool) (va : Option Addr) (vc : Nat), t7 = .slice va out.length vc ∧ t8 = .int .i64 n ∧ t9 = .bool ag ∧ n + out.length = xs.length ∧ Hid (Sep wr w.heap.size ([] ++ ⟨49, 6, .slice va out.length vc, out.length, flatF out⟩ :: [])) ∧ Hid (idleR ks out = R) ∧ Hid (allFm 8 out = true) ∧ Hid (ag = false → idleR ks out = out) ∧ Hid (Below w.heap.size w wr)) (fun t7 _ t9 _ => (lenOf t7 + 1) * bitOf t9)
  case atStart => exact ⟨xs, 0, true, va0, vc0, by simp, rfl, rfl, by omega, (by show Sep _ _ _; simpa using HS3.out), HR.out, HG.out, (by intro h; cases h), HB3.out⟩
  case round =>
    obtain ⟨out, n, ag, va, vc, rfl, rfl, rfl, hno, HS, HE, HA, HD, HB⟩ := hrel
    clear HS3 HB3
    cases ag with
    | false =>
      have HO : Hid (R = out) := HE.out.symm.trans (HD.out rfl)
      go_wp2
      go_ret3
      rw [HO.out]
      exact ⟨⟨va, vc, by simp; omega, one_sep HS.out⟩, HB.out⟩
    | true =>
      obtain ⟨V, rfl⟩ : ∃ V, V = wr := ⟨_, rfl⟩
      go_wp2
      go_loopw [7, 8, 9, 10] (fun t7 t8 t9 t10 wr2 => ∃ (q : Nat), t7 = .slice va out.length vc ∧ t8 = .int .i64 n ∧ t9 = .bool false ∧ t10 = .int .i64 ((q : Int) - 1) ∧ q ≤ out.length ∧ Hid (∀ j, q ≤ j → idleAt ks out j = false) ∧ Hid (Below V.heap.size V wr2)) (fun _ _ _ t10 _ => (intOf t10 + 1).toNat)
      case atStart => exact ⟨out.length, rfl, rfl, rfl, rfl, Nat.le_refl _, (fun j hj => by unfold idleAt; rw [List.getElem?_eq_none hj]), Below.refl _ _⟩
      case round =>
        obtain ⟨q, rfl, rfl, rfl, rfl, hq, HQ, HBQ⟩ := hrel
        have HSW := hid (Sep.below HS.out HBQ.out)
        have HBW := hid (bstep' HB.out HBQ.out)
        by_cases hq0 : q = 0
        · subst hq0
          have hneg : ((0 : Nat) : Int) - 1 = -1 := by omega
          have HD2 : Hid (idleR ks out = out) := idleR_none ks out fun j => HQ.out j (Nat.zero_le _)
          rw [hneg]
          go_wp2
          go_roundw
          case rel => exact ⟨out, n, false, va, vc, rfl, rfl, rfl, hno, HSW, HE, HA, fun _ => HD2.out, HBW⟩
          case measure => simp [lenOf, bitOf]
        · obtain ⟨p, hp⟩ : ∃ p : Nat, q = p + 1 := ⟨q - 1, by omega⟩
          subst hp
          have hpo : p < out.length := by omega
          have hpi : ((p + 1 : Nat) : Int) - 1 = (p : Int) := by omega
          rw [hpi]
          have hown := one_sep HSW.out
          have HRW := hid (own_frow hown)
          have hcap := own_cap hown
          obtain ⟨b, off, rfl, hbw, hat⟩ := HRW.out.at (by intro e; subst e; simp at hpo)
          obtain ⟨fp, fd, ft, fx, fy, fn, f0, f1, f2, f3, f4, f5, HX⟩ := hat wr (Below.refl _ _) p hpo
          have HI := hid (idleAt_some (keep := ks) HX.out)
          have hgd := all_at HA.out HX.out
          have HPU := hid (fun W => l12Pure_any fp fd ft fx fy fn W)
          have hpw : IntKind.i64.wrap ((p : Int) - 1) = (p : Int) - 1 := by rw [IntKind.wrap_i64]; omega
          cases hpu : pureF ⟨fp, fd, ft, fx, fy, fn⟩ with
          | false =>
            rw [hpu] at HPU
            have HQ2 : Hid (∀ j, p ≤ j → idleAt ks out j = false) := fun j hj => by
              by_cases e : j = p
              · subst e; rw [HI.out, hpu]; rfl
              · exact HQ.out j (by omega)
            clear hat hpu hown hgd HI
            go_wp2_with (go_at_call 51; refine (HPU.out _).mono ?_; rintro e w5 ⟨rfl, hb5⟩)
            go_roundw
            case rel => exact ⟨p, rfl, rfl, rfl, by go_num, by omega, HQ2, bstep' HBQ.out hb5⟩
            case measure => simp [intOf]
          | true =>
            rw [hpu] at HPU
            have hsets := pureF_sets hpu
            have hmk : makeF ⟨fp, fd, ft, fx, fy, fn⟩ = ft := makeF_sets hsets
            have HU := hid (fun (W : World) (hb : Below wr.heap.size wr W) => l16Uses_any (some ⟨b, off, none⟩) ka vc kc out ks p ⟨fp, fd, ft, fx, fy, fn⟩ W (by omega) hcap HX.out hk (dst_low hgd).1 (HRW.out.below hb) ((HK.out.below HBW.out).below hb))
            rw [hpu, hmk, usedN, Bool.true_and] at HI
            obtain ⟨N, hN⟩ : ∃ N, usesB ft ks (out.drop (p + 1)) 0 = N := ⟨_, rfl⟩
            simp only [hN] at HU
            rw [hN] at HI
            obtain ⟨many, behind⟩ := N
            have hmk2 := hmk
            clear hat hpu hown hgd hN hsets hmk hmk2
            by_cases hm0 : many = 0
            rotate_left
            · have hm1 : ((many : Int) == 0) = false := by simp; omega
              have HQ2 : Hid (∀ j, p ≤ j → idleAt ks out j = false) := fun j hj => by
                by_cases e : j = p
                · subst e; rw [HI.out]; simp [hm0]
                · exact HQ.out j (by omega)
              clear HI
              go_wp2_with (first | (go_at_call 51; refine (HPU.out _).mono ?_; rintro e w5 ⟨rfl, hb5⟩) | (go_at_call 52; refine (HU.out _ hb5).mono ?_; rintro e w6 ⟨rfl, hb6⟩))
              go_roundw
              case rel => exact ⟨p, rfl, rfl, rfl, by go_num, by omega, HQ2, bstep' HBQ.out (bstep' hb5 hb6)⟩
              case measure => simp [intOf]
            subst hm0
            have hm1 : (((0 : Nat) : Int) == 0) = true := rfl
            cases behind with
            | true =>
              have HQ2 : Hid (∀ j, p ≤ j → idleAt ks out j = false) := fun j hj => by
                by_cases e : j = p
                · subst e; rw [HI.out]; rfl
                · exact HQ.out j (by omega)
              clear HI
              go_wp2_with (first | (go_at_call 51; refine (HPU.out _).mono ?_; rintro e w5 ⟨rfl, hb5⟩) | (go_at_call 52; refine (HU.out _ hb5).mono ?_; rintro e w6 ⟨rfl, hb6⟩))
              go_roundw
              case rel => exact ⟨p, rfl, rfl, rfl, by go_num, by omega, HQ2, bstep' HBQ.out (bstep' hb5 hb6)⟩
              case measure => simp [intOf]
            | false =>
              have hidle : idleAt ks out p = true := by rw [HI.out]; rfl
              have HE2 : Hid (idleR ks (out.take p ++ out.drop (p + 1)) = R) := by show _ = _; rw [idleR_go HX.out hidle (fun j hj => HQ.out j (by omega))]; exact HE.out
              have HA2 : Hid (allFm 8 (out.take p ++ out.drop (p + 1)) = true) := allFm_del HA.out p
              obtain ⟨hfd, hfl⟩ := flat_del out p hpo
              have HFD := hid (And.intro hfd hfl)
              obtain ⟨o2, ho2, hs2⟩ := slice27 b off out.length vc (p + 1) (by omega) hcap
              have HN2 := hid (fun (W : World) (hr : FRow W (some ⟨b, off, none⟩) out) => News.flats (frow_drop hr (p + 1) ho2))
              have HN1 := hid (fun (W : World) (hr : FRow W (some ⟨b, off, none⟩) out) => News.flats (frow_take hr p))
              have hs1 : ∀ W, (Instr.slice 27 (.slice (some ⟨b, off, none⟩) out.length vc) none (some (.int .i64 (p : Int))) none).run Try.prog W = .ok (.slice (some ⟨b, off, none⟩) p vc) W := fun W => by
                rw [run_slice_h W 27 _ out.length vc (by kernel_rfl) .i64 _ (by omega) (by omega)]
                simp [go_sem, sliced, addr_add]
              rw [show ((p + 1 : Nat) : Int) = (p : Int) + 1 by omega] at hs2
              have hpw2 : IntKind.i64.wrap ((p : Int) + 1) = (p : Int) + 1 := by rw [IntKind.wrap_i64]; omega
              obtain ⟨m, hm⟩ : ∃ m, out.length = p + 1 + m := ⟨out.length - (p + 1), by omega⟩
              rw [List.length_drop, show out.length - (p + 1) = m by omega] at HN2
              rw [List.length_take, Nat.min_eq_left (by omega)] at HN1
              rw [show out.length - (p + 1) = m by omega] at hs2 HFD
              have HM := hid hm
              have hml : m ≤ 60 := by omega
              have hpl : p ≤ 60 := by omega
              clear HI hfd hfl ho2 hidle hm
              go_upto_region 14 with (first | (go_at_call 51; refine (HPU.out _).mono ?_; rintro e w5 ⟨rfl, hb5⟩) | (go_at_call 52; refine (HU.out _ hb5).mono ?_; rintro e w6 ⟨rfl, hb6⟩))
              have HB6 := hid (bstep' HBW.out (bstep' hb5 hb6))
              have HS6 := hid (Sep.below HSW.out (bstep' hb5 hb6))
              clear hb5 hb6 f0 f1 f2 f3 f4 f5
              have HA1 : Hid (∀ Y0, Below w6.heap.size w6 Y0 → Sep (Y0.alloc (.cells #[] 49)) w.heap.size ([] ++ ⟨49, 6, .slice (some ⟨Y0.heap.size, 0, none⟩) 0 0, 0, []⟩ :: [⟨49, 6, .slice (some ⟨b, off, none⟩) out.length vc, out.length, flatF out⟩]) ∧ News (Y0.alloc (.cells #[] 49)) (some ⟨b, off, none⟩) p 6 (flatF (out.take p)) ∧ w.heap.size ≤ (Y0.alloc (.cells #[] 49)).heap.size ∧ Below w.heap.size w (Y0.alloc (.cells #[] 49))) := fun Y0 hY => by
                have hbY := bstep' HB6.out hY
                have hs0 := Sep.add (HS6.out.below hY) (below1 Y0 (.cells #[] 49)) ⟨49, 6, .slice (some ⟨Y0.heap.size, 0, none⟩) 0 0, 0, []⟩ (owns_mono (own_new49 Y0 _ rfl) hbY.size) (fun k hk => by simp [Value.ownBlock] at hk; omega)
                have hbZ := bstep' hbY (below1 Y0 (.cells #[] 49))
                exact ⟨hs0, HN1.out _ (own_frow (Sep.get hs0 (x := ⟨49, 6, .slice (some ⟨b, off, none⟩) out.length vc, out.length, flatF out⟩) (by simp))), hbZ.size, hbZ⟩
              have HA2' : Hid (∀ Z va8 vc8 ys, Sep Z w.heap.size ([] ++ ⟨49, 6, .slice va8 (0 + p) vc8, 0 + p, ys⟩ :: [⟨49, 6, .slice (some ⟨b, off, none⟩) out.length vc, out.length, flatF out⟩]) → News Z (some ⟨b, o2, none⟩) m 6 (flatF (out.drop (p + 1)))) := fun Z va8 vc8 ys hs => HN2.out _ (own_frow (Sep.get hs (x := ⟨49, 6, .slice (some ⟨b, off, none⟩) out.length vc, out.length, flatF out⟩) (by simp)))
              clear HN1 HN2 HS6 HSW HBW HRW HU HPU
              have HA1d : Hid (Sep (w6.drew.alloc (.cells #[] 49)) w.heap.size ([] ++ ⟨49, 6, .slice (some ⟨w6.heap.size, 0, none⟩) 0 0, 0, []⟩ :: [⟨49, 6, .slice (some ⟨b, off, none⟩) out.length vc, out.length, flatF out⟩])) := (HA1.out w6.drew (Below.refl _ _).drew).1
              have HN1d : Hid (News (w6.drew.alloc (.cells #[] 49)) (some ⟨b, off, none⟩) p 6 (flatF (out.take p))) := (HA1.out w6.drew (Below.refl _ _).drew).2.1
              have HB1d : Hid (Below w.heap.size w (w6.drew.alloc (.cells #[] 49))) := (HA1.out w6.drew (Below.refl _ _).drew).2.2.2
              clear HA1
              go_region_held_law (fun W => True) (trivial) ((first | (refine step_append_sep eltFlat (by rfl) _ _ (by rfl) w.heap.size [] hs8 (by rfl) hn8 (by rfl) (by omega) hB8.size ?_; intro va9 vc9 w9 hs9 hb9 hg9; have HS9 := hid hs9; have HB9 := hid (hB8.trans hb9); clear hs9 hb9 hg9) | (refine step_append_sep eltFlat (by rfl) _ _ (by rfl) w.heap.size [] HA1d.out (by rfl) HN1d.out (by rfl) (by omega) HB1d.out.size ?_; intro va8 vc8 w8 hs8 hb8 hg8; have hn8 := HA2'.out _ _ _ _ hs8; have hB8 := HB1d.out.trans hb8)))
              all_goals
                go_wp2
                go_roundw
                case rel =>
                  refine ⟨out.take p ++ out.drop (p + 1), n + 1, true, va9, vc9, by rw [HFD.out.2], by go_num, rfl, by rw [HFD.out.2]; have := HM.out; omega, ?_, HE2, HA2, (fun h => by cases h), HB9⟩
                  show Sep _ _ _
                  rw [HFD.out.2, HFD.out.1]
                  have h9 := HS9.out
                  refine ⟨fun z hz => ?_, by simp⟩
                  have hz2 := h9.1 z (by simp at hz ⊢; exact .inl hz)
                  exact hz2
                case measure => have := HM.out; simp [lenOf, bitOf]; omega
    
end Go.Proofs.Ytiaiaejijicddaa
