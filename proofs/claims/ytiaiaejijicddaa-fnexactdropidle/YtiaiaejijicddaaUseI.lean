/- How often what a flat step makes is used behind it, as the program tells it. -/
import Derived.Test.YtiaiaejijicddaaUseS
import Derived.Test.YtiaiaejijicddaaLibC
import Derived.Test.YtiaiaejijicddaaLibR
import Derived.Test.YtiaiaejijicddaaIFlat
namespace Go.Proofs.Ytiaiaejijicddaa
open Go.RowKit
set_option linter.unusedVariables false
set_option linter.unusedSimpArgs false
set_option maxRecDepth 100000

theorem oneIf_any (b : Bool) (w : World) : Calls Try.prog 76 #[.bool b] w fun e w' => e = .returned (.int .i64 (if b then 1 else 0)) ∧ w' = w := by
  cases b
  all_goals
    go_enter Try.func76, Try.ntmps76
    go_wp2
    go_ret
    exact ⟨rfl, rfl⟩
theorem deed_of (x : Flt) : ∃ dv, (∀ W, Calls Try.prog 42 #[.agg #[.int .i64 x.op, .int .i64 x.d, .int .i64 x.dst, .int .i64 x.a, .int .i64 x.b, .int .i64 x.n]] W fun e w' => e = .returned dv ∧ Below W.heap.size W w') ∧ (∀ W, Calls Try.prog 41 #[dv] W fun e w' => e = .returned (.int .i64 (makeF x)) ∧ Below W.heap.size W w') ∧ ∀ W, Calls Try.prog 70 #[dv] W fun e w' => ∃ a, e = .returned (.slice a (useD x).length (useD x).length) ∧ Row w' a (useD x) ∧ Below W.heap.size W w' :=
  ⟨deedV x, deed_any x, madeBy_any x, usedBy_any x⟩
set_option maxHeartbeats 2000000 in
theorem usesBehind_any (a ka : Option Addr) (c kc : Nat) (xs : List Flt) (keep : List Int) (i : Nat) (z : Flt) (w : World) (hl : xs.length ≤ 60) (hc : xs.length ≤ c) (hi : xs[i]? = some z) (hg : allFm 8 xs = true) (hk : keep.length ≤ 9223372036854775807) (h : FRow w a xs) (hK : Row w ka keep) :
    Calls Try.prog 64 #[.slice a xs.length c, .int .i64 (i : Int), .slice ka keep.length kc] w fun e w' => e = .returned (.tuple #[.int .i64 ((usesB (makeF z) keep (xs.drop (i + 1)) 0).1 : Int), .bool (usesB (makeF z) keep (xs.drop (i + 1)) 0).2]) ∧ Below w.heap.size w w' := by
  have hin : i < xs.length := (List.getElem?_eq_some_iff.1 hi).1
  obtain ⟨b, off, rfl, hbw, hat⟩ := h.at (by intro e; subst e; simp at hin)
  obtain ⟨p0, d0, t0, x0, y0, n0, f0, f1, f2, f3, f4, f5, HX0⟩ := hat w (Below.refl _ _) i hin
  have hz2 : z = ⟨p0, d0, t0, x0, y0, n0⟩ := by have := HX0.out; rw [hi] at this; cases this; rfl
  subst hz2
  obtain ⟨o, ho, hsl⟩ := slice27 b off xs.length c (i + 1) (by omega) hc
  have HD : Hid (∀ W, Below w.heap.size w W → FRow W (some ⟨b, o, none⟩) (xs.drop (i + 1))) := fun W hW => (frow_drop h (i + 1) ho).below hW
  obtain ⟨dv, hd1, hd2, -⟩ := deed_of ⟨p0, d0, t0, x0, y0, n0⟩
  obtain ⟨v, hv⟩ : ∃ v, makeF ⟨p0, d0, t0, x0, y0, n0⟩ = v := ⟨_, rfl⟩
  rw [hv] at hd2 ⊢
  obtain ⟨rest, hrest⟩ : ∃ r, xs.drop (i + 1) = r := ⟨_, rfl⟩
  have hrl : xs.length - (i + 1) = rest.length := by rw [← hrest, List.length_drop]
  have HGD : Hid (∀ x ∈ rest, useD x = usesF x) := fun x hx => useD_good (m := 8) (List.all_eq_true.1 hg x (List.mem_of_mem_drop (by rw [hrest]; exact hx)))
  rw [hrest] at HD ⊢
  rw [hrl] at hsl
  have hr60 : rest.length ≤ 60 := by omega
  obtain ⟨N, hN⟩ : ∃ N, usesB v keep rest 0 = N := ⟨_, rfl⟩
  rw [hN]
  have HN := hid hN
  have hwr : IntKind.i64.wrap ((i : Int) + 1) = (i : Int) + 1 := by rw [IntKind.wrap_i64]; omega
  have hsl' : ∀ W, (Instr.slice 27 (.slice (some ⟨b, off, none⟩) xs.length c) (some (.int .i64 ((i : Int) + 1))) none none).run Try.prog W = .ok (.slice (some ⟨b, o, none⟩) rest.length (c - (i + 1))) W := fun W => by
    have := hsl W
    rwa [show ((i + 1 : Nat) : Int) = (i : Int) + 1 by omega] at this
  have HK := hid (fun (W : World) (hb : Below w.heap.size w W) => containsE_any ka kc keep v W hk (hK.below hb))
  have HD1 := hid hd1
  have HD2 := hid hd2
  clear hrest hN hsl hat h hK hi HX0 hv hd1 hd2 hg
  go_enter Try.func64, Try.ntmps64
  go_upto_region 2 with (first | (go_at_call 42; refine (HD1.out _).mono ?_; rintro e w1 ⟨rfl, hb1⟩) | (go_at_call 41; refine (HD2.out _).mono ?_; rintro e w2 ⟨rfl, hb2⟩))
  have HB2 := hid (bstep' hb1 hb2)
  clear hb1 hb2 HD1 HD2
  go_wp2
  go_loopw [9, 26] (fun t9 t26 wr => ∃ (j n : Nat), t26 = .int .i64 j ∧ t9 = .int .i64 n ∧ j ≤ rest.length ∧ n ≤ 2 * j ∧ Hid (usesB v keep rest 0 = usesB v keep (rest.drop j) n) ∧ Hid (Below w.heap.size w wr)) (fun _ t26 _ => rest.length - (intOf t26).toNat)
  case atStart => exact ⟨0, 0, rfl, rfl, by omega, by omega, by show _ = _; rw [List.drop_zero], HB2⟩
  case round =>
    obtain ⟨j, n, rfl, rfl, hj, hn, HU, HB⟩ := hrel
    clear HB2
    by_cases hlt : j < rest.length
    · obtain ⟨cb, coff, hco, hcw, hcat⟩ := (HD.out wr HB.out).at (by intro e; subst e; simp at hlt)
      injection hco with hco; injection hco with e1 e2 e3
      subst e1; subst e2
      obtain ⟨fp, fd, ft, fx, fy, fn, g0, g1, g2, g3, g4, g5, HXF⟩ := hcat wr (Below.refl _ _) j hlt
      have hul := usesF_len2 ⟨fp, fd, ft, fx, fy, fn⟩
      obtain ⟨ev, he1, he2, he3⟩ := deed_of ⟨fp, fd, ft, fx, fy, fn⟩
      rw [HGD.out _ (List.mem_of_getElem? HXF.out)] at he3
      have bF := below1 wr (.cells #[.int .i64 fp, .int .i64 fd, .int .i64 ft, .int .i64 fx, .int .i64 fy, .int .i64 fn] 49)
      have HBF := hid (bstep' HB.out bF)
      have HST : Hid (makeF ⟨fp, fd, ft, fx, fy, fn⟩ = v → _) := fun hm => usesB_stop (keep := keep) (n := n) HXF.out hm
      have HON : Hid (¬ makeF ⟨fp, fd, ft, fx, fy, fn⟩ = v → _) := fun hm => usesB_on (keep := keep) (n := n) HXF.out hm
      obtain ⟨U, hUe⟩ : ∃ U, usesF ⟨fp, fd, ft, fx, fy, fn⟩ = U := ⟨_, rfl⟩
      obtain ⟨mk, hmk⟩ : ∃ mk, makeF ⟨fp, fd, ft, fx, fy, fn⟩ = mk := ⟨_, rfl⟩
      rw [hUe] at hul he3 HST HON
      rw [hmk] at he2 HST HON
      have HE1 := hid he1
      have HE2 := hid he2
      have HE3 := hid he3
      clear hcat bF hUe hmk he1 he2 he3
      go_wp2_with (first | (go_at_call 42; refine (HE1.out _).mono ?_; rintro e w5 ⟨rfl, hb5⟩) | (go_at_call 70; refine (HE3.out _).mono ?_; rintro e w6 ⟨ua, rfl, hr6, hb6⟩))
      have HR6 := hid hr6
      have HB6 := hid (bstep' (bstep' HBF.out hb5) hb6)
      clear hr6 hb6 hb5 HBF HE1 HE3 g0 g1 g2 g3 g4 g5
      go_wp2
      go_loopw [9, 35] (fun t9 t35 wr => ∃ (m : Nat), t35 = .int .i64 m ∧ m ≤ U.length ∧ t9 = .int .i64 ((n + (U.take m).count v : Nat) : Int) ∧ wr = w6) (fun _ t35 _ => U.length - (intOf t35).toNat)
      case atStart => exact ⟨0, rfl, by omega, by simp, rfl⟩
      case round =>
        obtain ⟨m, rfl, hm, rfl, rfl⟩ := hrel
        by_cases hmu : m < U.length
        · obtain ⟨ub, uoff, rfl, hub, huat⟩ := HR6.out.at (by intro e; subst e; simp at hmu)
          obtain ⟨u, uc1, HXU⟩ := huat wr (Below.refl _ _) m hmu
          have HCS := hid (count_snoc (v := v) HXU.out)
          have hcm : (U.take m).count v ≤ 2 := by have := List.count_le_length (a := v) (l := U.take m); rw [List.length_take] at this; omega
          obtain ⟨q, hq⟩ : ∃ q, (U.take m).count v = q := ⟨_, rfl⟩
          rw [hq] at HCS hcm ⊢
          clear huat hq
          by_cases huv : u = v
          · have HE : Hid ((U.take (m + 1)).count v = q + 1) := by show _ = _; rw [HCS.out, if_pos huv]
            have HO := hid (fun W => oneIf_any true W)
            subst huv
            go_wp2_with (go_at_call 76; refine (HO.out _).mono ?_; rintro e w' ⟨rfl, rfl⟩)
            go_roundw
            case rel => exact ⟨m + 1, by go_num, by omega, by rw [HE.out]; go_num, by trivial⟩
            case measure => simp [intOf]; omega
          · have HE : Hid ((U.take (m + 1)).count v = q) := by show _ = _; rw [HCS.out, if_neg huv]; rfl
            have HO := hid (fun W => oneIf_any false W)
            have huv2 : (u == v) = false := by simp [huv]
            have huv3 : decide (u = v) = false := by simp [huv]
            go_wp2_with (go_at_call 76; refine (HO.out _).mono ?_; rintro e w' ⟨rfl, rfl⟩)
            go_roundw
            case rel => exact ⟨m + 1, by go_num, by omega, by rw [HE.out]; go_num, by trivial⟩
            case measure => simp [intOf]; omega
        · obtain rfl : m = U.length := by omega
          have hcm : U.count v ≤ 2 := Nat.le_trans List.count_le_length hul
          rw [List.take_of_length_le (Nat.le_refl _)]
          obtain ⟨q, hq⟩ : ∃ q, U.count v = q := ⟨_, rfl⟩
          rw [hq] at HST HON hcm ⊢
          clear hq
          by_cases hmk : mk = v
          · have HE : Hid (N = (n + q, false)) := by show _ = _; rw [← HN.out, HU.out, HST.out hmk]
            subst hmk
            clear HST HON
            go_wp2_with (go_at_call 41; refine (HE2.out _).mono ?_; rintro e w7 ⟨rfl, hb7⟩)
            go_ret2
            exact ⟨by rw [HE.out]; rfl, bstep' HB6.out hb7⟩
          · have HE : Hid (usesB v keep rest 0 = usesB v keep (rest.drop (j + 1)) (n + q)) := by show _ = _; rw [HU.out, HON.out hmk]
            clear HST HON
            go_wp2_with (go_at_call 41; refine (HE2.out _).mono ?_; rintro e w7 ⟨rfl, hb7⟩)
            go_roundw
            case rel => exact ⟨j + 1, n + q, by go_num, rfl, by omega, by omega, HE.out, bstep' HB6.out hb7⟩
            case measure => simp [intOf]; omega
    · obtain rfl : j = rest.length := by omega
      have HE : Hid (N = (n, hasB keep v)) := by show _ = _; rw [← HN.out, HU.out, List.drop_length]; rfl
      go_wp2_with (go_at_call 77; refine (HK.out _ HB.out).mono ?_; rintro e w' ⟨rfl, rfl⟩)
      go_ret2
      exact ⟨by rw [HE.out]; rfl, HB.out⟩
end Go.Proofs.Ytiaiaejijicddaa
