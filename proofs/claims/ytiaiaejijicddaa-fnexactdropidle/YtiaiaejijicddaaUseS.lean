/- How often what a flat step makes is used behind it, as the model tells it; which names may be kept. -/
import Derived.Test.YtiaiaejijicddaaUseMath
import Derived.Test.YtiaiaejijicddaaSUses
import Derived.Test.YtiaiaejijicddaaSLow
import Derived.Deep.Cut
namespace Go.Proofs.Ytiaiaejijicddaa
open Go.RowKit
set_option linter.unusedVariables false
set_option linter.unusedSimpArgs false
set_option maxRecDepth 100000

/-- the rest of a row of flat steps, as a slice -/
theorem slice27 (b off n c k : Nat) (h1 : k ≤ n) (h2 : n ≤ c) : ∃ o, (k < n → o = off + k * 6) ∧ ∀ W, (Instr.slice 27 (.slice (some ⟨b, off, none⟩) n c) (some (.int .i64 (k : Int))) none none).run Try.prog W = .ok (.slice (some ⟨b, o, none⟩) (n - k) (c - k)) W := by
  by_cases h : c = k
  · refine ⟨off, by omega, fun W => ?_⟩
    rw [run_slice_l W 27 _ n c (by kernel_rfl) .i64 _ (by omega) (by omega)]
    simp [go_sem, sliced, h]
  · refine ⟨off + k * 6, fun _ => rfl, fun W => ?_⟩
    rw [run_slice_l W 27 _ n c (by kernel_rfl) .i64 _ (by omega) (by omega)]
    simp [go_sem, sliced, h, addr_add]
theorem frow_drop {w : World} {b off o : Nat} {xs : List Flt} (h : FRow w (some ⟨b, off, none⟩) xs) (k : Nat) (hk : k < xs.length → o = off + k * 6) : FRow w (some ⟨b, o, none⟩) (xs.drop k) := by
  by_cases hlt : k < xs.length
  · rw [hk hlt]
    rcases h with h | ⟨b', off', e, hc⟩
    · subst h; simp at hlt
    · injection e with e; injection e with e1 e2 e3
      subst e1; subst e2
      refine .inr ⟨b, off + k * 6, rfl, fun j x hx => ?_⟩
      rw [List.getElem?_drop] at hx
      have := hc (k + j) x hx
      rw [show off + k * 6 + j * 6 = off + (k + j) * 6 by omega]
      exact this
  · exact .inl (List.drop_of_length_le (by omega))
set_option maxHeartbeats 2000000 in
theorem l16Uses_any (a ka : Option Addr) (c kc : Nat) (xs : List Flt) (keep : List Int) (i : Nat) (z : Flt) (w : World) (hl : xs.length ≤ 60) (hc : xs.length ≤ c) (hi : xs[i]? = some z) (hk : keep.length ≤ 9223372036854775807) (hv : 0 ≤ z.dst) (h : FRow w a xs) (hK : Row w ka keep) :
    Calls Try.prog 52 #[.slice a xs.length c, .int .i64 (i : Int), .slice ka keep.length kc] w fun e w' => e = .returned (.tuple #[.int .i64 ((usesB z.dst keep (xs.drop (i + 1)) 0).1 : Int), .bool (usesB z.dst keep (xs.drop (i + 1)) 0).2]) ∧ Below w.heap.size w w' := by
  have hin : i < xs.length := (List.getElem?_eq_some_iff.1 hi).1
  obtain ⟨b, off, rfl, hbw, hat⟩ := h.at (by intro e; subst e; simp at hin)
  obtain ⟨p0, d0, t0, x0, y0, n0, f0, f1, f2, f3, f4, f5, HX0⟩ := hat w (Below.refl _ _) i hin
  have hz2 : z.dst = t0 := by have := HX0.out; rw [hi] at this; cases this; rfl
  obtain ⟨o, ho, hsl⟩ := slice27 b off xs.length c (i + 1) (by omega) hc
  have HD := hid (frow_drop h (i + 1) ho)
  rw [hz2] at hv ⊢
  obtain ⟨v, hvv⟩ : ∃ v, t0 = v := ⟨_, rfl⟩
  subst hvv
  obtain ⟨rest, hrest⟩ : ∃ r, xs.drop (i + 1) = r := ⟨_, rfl⟩
  have hrl : xs.length - (i + 1) = rest.length := by rw [← hrest, List.length_drop]
  rw [hrest] at HD ⊢
  rw [hrl] at hsl
  have hr60 : rest.length ≤ 60 := by omega
  obtain ⟨N, hN⟩ : ∃ N, usesB t0 keep rest 0 = N := ⟨_, rfl⟩
  rw [hN]
  have HN := hid hN
  have hwr : IntKind.i64.wrap ((i : Int) + 1) = (i : Int) + 1 := by rw [IntKind.wrap_i64]; omega
  have hsl' : ∀ W, (Instr.slice 27 (.slice (some ⟨b, off, none⟩) xs.length c) (some (.int .i64 ((i : Int) + 1))) none none).run Try.prog W = .ok (.slice (some ⟨b, o, none⟩) rest.length (c - (i + 1))) W := fun W => by
    have := hsl W
    rwa [show ((i + 1 : Nat) : Int) = (i : Int) + 1 by omega] at this
  have HK := hid (fun (W : World) (hb : Below w.heap.size w W) => l1Has_any ka kc keep t0 W hk (hK.below hb))
  clear hrest hN hsl hat h hK hi HX0 f0 f1 f3 f4 f5 hz2
  go_enter Try.func52, Try.ntmps52
  go_wp2
  go_loopw [8, 24] (fun t8 t24 wr => ∃ (j n : Nat), t24 = .int .i64 j ∧ t8 = .int .i64 n ∧ j ≤ rest.length ∧ n ≤ 2 * j ∧ Hid (usesB t0 keep rest 0 = usesB t0 keep (rest.drop j) n) ∧ Hid (Below w.heap.size w wr)) (fun _ t24 _ => rest.length - (intOf t24).toNat)
  case atStart => exact ⟨0, 0, rfl, rfl, by omega, by omega, by show _ = _; rw [List.drop_zero], Below.refl _ _⟩
  case round =>
    obtain ⟨j, n, rfl, rfl, hj, hn, HU, HB⟩ := hrel
    by_cases hlt : j < rest.length
    · obtain ⟨cb, coff, hco, hcw, hcat⟩ := HD.out.at (by intro e; subst e; simp at hlt)
      injection hco with hco; injection hco with e1 e2 e3
      subst e1; subst e2
      obtain ⟨fp, fd, ft, fx, fy, fn, g0, g1, g2, g3, g4, g5, HXF⟩ := hcat wr HB.out j hlt
      have hul := usesF_len2 ⟨fp, fd, ft, fx, fy, fn⟩
      have HL9 := hid (l9Uses_any fp fd ft fx fy fn (wr.alloc (.cells #[.int .i64 fp, .int .i64 fd, .int .i64 ft, .int .i64 fx, .int .i64 fy, .int .i64 fn] 49)))
      have bF := below1 wr (.cells #[.int .i64 fp, .int .i64 fd, .int .i64 ft, .int .i64 fx, .int .i64 fy, .int .i64 fn] 49)
      have k0 : (wr.alloc (.cells #[.int .i64 fp, .int .i64 fd, .int .i64 ft, .int .i64 fx, .int .i64 fy, .int .i64 fn] 49)).cell? ⟨wr.heap.size, 0, none⟩ = some (.int .i64 fp) := by simp [go_sem]
      have k2 : (wr.alloc (.cells #[.int .i64 fp, .int .i64 fd, .int .i64 ft, .int .i64 fx, .int .i64 fy, .int .i64 fn] 49)).cell? ⟨wr.heap.size, 2, none⟩ = some (.int .i64 ft) := by simp [go_sem]
      have HBF := hid (bstep' HB.out bF)
      have HMK := hid (makes_iff (x := ⟨fp, fd, ft, fx, fy, fn⟩) hv)
      have HST : Hid (makeF ⟨fp, fd, ft, fx, fy, fn⟩ = t0 → _) := fun hm => usesB_stop (keep := keep) (n := n) HXF.out hm
      have HON : Hid (¬ makeF ⟨fp, fd, ft, fx, fy, fn⟩ = t0 → _) := fun hm => usesB_on (keep := keep) (n := n) HXF.out hm
      obtain ⟨U, hUe⟩ : ∃ U, usesF ⟨fp, fd, ft, fx, fy, fn⟩ = U := ⟨_, rfl⟩
      rw [hUe] at hul HL9 HST HON
      clear hcat bF hUe
      go_wp2_with (go_at_call 44; refine HL9.out.mono ?_; rintro e w5 ⟨ua, uc, rfl, ho5, hb5⟩)
      have HR5 := hid (own_row ho5)
      have HB5 := hid (bstep' HBF.out hb5)
      have k0 := cell_below k0 hb5
      have k2 := cell_below k2 hb5
      clear ho5 hb5 HL9 HBF g0 g1 g2 g3 g4 g5
      go_wp2
      go_loopw [8, 31] (fun t8 t31 wr => ∃ (m : Nat), t31 = .int .i64 m ∧ m ≤ U.length ∧ t8 = .int .i64 ((n + (U.take m).count t0 : Nat) : Int) ∧ wr = w5) (fun _ t31 _ => U.length - (intOf t31).toNat)
      case atStart => exact ⟨0, rfl, by omega, by simp, rfl⟩
      case round =>
        obtain ⟨m, rfl, hm, rfl, rfl⟩ := hrel
        by_cases hmu : m < U.length
        · obtain ⟨ub, uoff, rfl, hub, huat⟩ := HR5.out.at (by intro e; subst e; simp at hmu)
          obtain ⟨u, uc1, HXU⟩ := huat wr (Below.refl _ _) m hmu
          have HCS := hid (count_snoc (v := t0) HXU.out)
          have hcm : (U.take m).count t0 ≤ 2 := by have := List.count_le_length (a := t0) (l := U.take m); rw [List.length_take] at this; omega
          obtain ⟨q, hq⟩ : ∃ q, (U.take m).count t0 = q := ⟨_, rfl⟩
          rw [hq] at HCS hcm ⊢
          clear huat hq
          by_cases huv : u = t0
          · have HE : Hid ((U.take (m + 1)).count t0 = q + 1) := by show _ = _; rw [HCS.out, if_pos huv]
            subst huv
            go_wp2
            go_roundw
            case rel => exact ⟨m + 1, by go_num, by omega, by rw [HE.out]; go_num, by trivial⟩
            case measure => simp [intOf]; omega
          · have HE : Hid ((U.take (m + 1)).count t0 = q) := by show _ = _; rw [HCS.out, if_neg huv]; rfl
            go_wp2
            go_roundw
            case rel => exact ⟨m + 1, by go_num, by omega, by rw [HE.out], by trivial⟩
            case measure => simp [intOf]; omega
        · obtain rfl : m = U.length := by omega
          have hcm : U.count t0 ≤ 2 := Nat.le_trans List.count_le_length hul
          rw [List.take_of_length_le (Nat.le_refl _)]
          obtain ⟨q, hq⟩ : ∃ q, U.count t0 = q := ⟨_, rfl⟩
          rw [hq] at HST HON hcm ⊢
          clear hq
          have HS37 := hid (fun W => l9Sets_any fp W)
          by_cases hmk : makeF ⟨fp, fd, ft, fx, fy, fn⟩ = t0
          · have HE : Hid (N = (n + q, false)) := by show _ = _; rw [← HN.out, HU.out, HST.out hmk]
            have hs9 : setsB fp = true := by have := HMK.out; simp [hmk] at this; exact this.1
            have ht9 : ft = t0 := by have := HMK.out; simp [hmk] at this; exact this.2
            rw [hs9] at HS37
            subst ht9
            clear HMK HST HON hmk
            go_wp2_with (go_at_call 37; refine (HS37.out _).mono ?_; rintro e w' ⟨rfl, rfl⟩)
            go_ret2
            exact ⟨by rw [HE.out]; rfl, HB5.out⟩
          · have HE : Hid (usesB t0 keep rest 0 = usesB t0 keep (rest.drop (j + 1)) (n + q)) := by show _ = _; rw [HU.out, HON.out hmk]
            have hmm : (setsB fp && decide (ft = t0)) = false := by have := HMK.out; simp [hmk] at this; simpa using this
            clear HMK HST HON hmk
            cases hs9 : setsB fp with
            | false =>
              rw [hs9] at HS37
              go_wp2_with (go_at_call 37; refine (HS37.out _).mono ?_; rintro e w' ⟨rfl, rfl⟩)
              go_roundw
              case rel => exact ⟨j + 1, n + q, by go_num, rfl, by omega, by omega, HE.out, HB5.out⟩
              case measure => simp [intOf]; omega
            | true =>
              rw [hs9] at HS37 hmm
              have ht9 : ¬ ft = t0 := by simpa using hmm
              go_wp2_with (go_at_call 37; refine (HS37.out _).mono ?_; rintro e w' ⟨rfl, rfl⟩)
              go_roundw
              case rel => exact ⟨j + 1, n + q, by go_num, rfl, by omega, by omega, HE.out, HB5.out⟩
              case measure => simp [intOf]; omega
    · obtain rfl : j = rest.length := by omega
      have HE : Hid (N = (n, decide (t0 ∈ keep))) := by show _ = _; rw [← HN.out, HU.out, List.drop_length]; rfl
      go_wp2_with (go_at_call 45; refine (HK.out _ HB.out).mono ?_; rintro e w' ⟨rfl, rfl⟩)
      go_ret2
      exact ⟨by rw [HE.out]; rfl, HB.out⟩
/-- it is used just once, and not looked at behind -/
theorem l16Once_any (a ka : Option Addr) (c kc : Nat) (xs : List Flt) (keep : List Int) (i : Nat) (z : Flt) (w : World) (hl : xs.length ≤ 60) (hc : xs.length ≤ c) (hi : xs[i]? = some z) (hk : keep.length ≤ 9223372036854775807) (hv : 0 ≤ z.dst) (h : FRow w a xs) (hK : Row w ka keep) :
    Calls Try.prog 38 #[.slice a xs.length c, .int .i64 (i : Int), .slice ka keep.length kc] w fun e w' => e = .returned (.bool (usedN 1 xs i z.dst keep)) ∧ Below w.heap.size w w' := by
  have HU := hid (l16Uses_any a ka c kc xs keep i z w hl hc hi hk hv h hK)
  have hu : usedN 1 xs i z.dst keep = (decide ((usesB z.dst keep (xs.drop (i + 1)) 0).1 = 1) && !(usesB z.dst keep (xs.drop (i + 1)) 0).2) := rfl
  obtain ⟨N, hN⟩ : ∃ N, usesB z.dst keep (xs.drop (i + 1)) 0 = N := ⟨_, rfl⟩
  rw [hu, hN]
  rw [hN] at HU
  obtain ⟨n, b⟩ := N
  clear hu hN h hK hi
  by_cases h1 : n = 1
  · subst h1
    have h2 : (((1 : Nat) : Int) == 1) = true := rfl
    cases b
    all_goals
      go_enter Try.func38, Try.ntmps38
      go_wp2_with (go_at_call 52; refine HU.out.mono ?_; rintro e w1 ⟨rfl, hb1⟩)
      go_ret
      exact ⟨rfl, hb1⟩
  · have h2 : (((n : Nat) : Int) == 1) = false := by simp; omega
    go_enter Try.func38, Try.ntmps38
    go_wp2_with (go_at_call 52; refine HU.out.mono ?_; rintro e w1 ⟨rfl, hb1⟩)
    go_ret
    exact ⟨ret_bool (by simp [h1]), hb1⟩
theorem keepL_iff (k : List Int) : keepL k = true ↔ GoodNx 8 k := by
  rw [nx_iff, keepL, Bool.and_eq_true, decide_eq_true_eq]
  constructor
  · rintro ⟨h1, h2⟩
    exact ⟨h1, fun i u v hu hv => by
      obtain ⟨hi, rfl⟩ := List.getElem?_eq_some_iff.1 hu
      obtain ⟨hj, rfl⟩ := List.getElem?_eq_some_iff.1 hv
      exact List.pairwise_iff_getElem.1 h2 i (i + 1) hi hj (by omega)⟩
  · rintro ⟨h1, h2⟩
    exact ⟨h1, rising_of_steps k h2⟩
theorem keepL_bad {k : List Int} {i : Nat} {v : Int} (hv : k[i]? = some v) (h : ¬ NxAt 8 k i v) : keepL k = false := by
  rw [Bool.eq_false_iff]
  intro hk
  exact h (goodNx_at ((keepL_iff k).1 hk) i v hv)
set_option maxHeartbeats 1000000 in
theorem l16Keep_any (a : Option Addr) (c : Nat) (xs : List Int) (w : World) (hl : xs.length ≤ 9223372036854775807) (h : Row w a xs) :
    Calls Try.prog 36 #[.slice a xs.length c] w fun e w' => e = .returned (.bool (keepL xs)) ∧ w' = w := by
  have H := hid h
  clear h
  go_enter Try.func36, Try.ntmps36
  go_wp2
  go_loop [7] (fun t7 => ∃ (k : Nat), t7 = .int .i64 k ∧ k ≤ xs.length ∧ Hid (∀ (j : Nat) v, j < k → xs[j]? = some v → NxAt 8 xs j v)) (fun t7 => xs.length - (intOf t7).toNat)
  case atStart => exact ⟨0, rfl, by omega, fun j v hj => by omega⟩
  case round =>
    obtain ⟨k, rfl, hk, HF⟩ := hrel
    by_cases hlt : k < xs.length
    · obtain ⟨b, off, rfl, hbw, hat⟩ := H.out.at (by intro e; subst e; simp at hlt)
      obtain ⟨v, c1, HX⟩ := hat w (Below.refl _ _) k hlt
      have HBAD := hid (fun hn => keepL_bad HX.out hn)
      have HOK : NxAt 8 xs k v → Hid (∀ (j : Nat) u, j < k + 1 → xs[j]? = some u → NxAt 8 xs j u) := fun hn j u hj hu => by
        by_cases e : j = k
        · subst e; rw [HX.out] at hu; cases hu; exact hn
        · exact HF.out j u (by omega) hu
      have hc := fun W => l1In_any v 0 7 W
      by_cases hv : 0 ≤ v ∧ v ≤ 7
      · rw [show inB 0 7 v = true by simp [inB, hv]] at hc
        have HC := hid hc
        clear hc
        by_cases hk0 : k = 0
        · subst hk0
          have HN := HOK ⟨hv.1, by omega, fun j u hj => by omega⟩
          rw [Nat.add_zero] at c1
          clear HBAD HOK
          go_wp2_with (go_at_call 60; refine (HC.out _).mono ?_; rintro e w' ⟨rfl, rfl⟩)
          go_round
          case rel => exact ⟨1, by go_num, by omega, HN⟩
          case measure => simp [intOf]; omega
        · obtain ⟨u, c2, HY⟩ := hat w (Below.refl _ _) (k - 1) (by omega)
          have hk1 : (0 : Int) < (k : Int) := by omega
          have hwr : IntKind.i64.wrap ((k : Int) - 1) = ((k - 1 : Nat) : Int) := by rw [IntKind.wrap_i64]; omega
          by_cases huv : u < v
          · have HN := HOK ⟨hv.1, by omega, fun j u' hj hu' => by
              obtain rfl : j = k - 1 := by omega
              rw [HY.out] at hu'; cases hu'; exact huv⟩
            have huv' : ¬ v ≤ u := by omega
            clear HBAD HOK hat
            go_wp2_with (go_at_call 60; refine (HC.out _).mono ?_; rintro e w' ⟨rfl, rfl⟩)
            go_round
            case rel => exact ⟨k + 1, by go_num, by omega, HN⟩
            case measure => simp [intOf]; omega
          · have HN := hid (HBAD.out fun hn => huv (hn.2.2 (k - 1) u (by omega) HY.out))
            have huv' : v ≤ u := by omega
            clear HBAD HOK hat
            go_wp2_with (go_at_call 60; refine (HC.out _).mono ?_; rintro e w' ⟨rfl, rfl⟩)
            go_ret
            exact ⟨by rw [HN.out]; rfl, rfl⟩
      · rw [show inB 0 7 v = false by simp [inB]; omega] at hc
        have HC := hid hc
        have HN := hid (HBAD.out fun hn => hv ⟨hn.1, by have := hn.2.1; omega⟩)
        clear hc HBAD HOK hat
        go_wp2_with (go_at_call 60; refine (HC.out _).mono ?_; rintro e w' ⟨rfl, rfl⟩)
        go_ret
        exact ⟨by rw [HN.out]; rfl, rfl⟩
    · obtain rfl : k = xs.length := by omega
      have HN : Hid (keepL xs = true) := (keepL_iff xs).2 (goodNx_of fun i v hv => HF.out i v (List.getElem?_eq_some_iff.1 hv).1 hv)
      go_wp2
      go_ret
      exact ⟨ret_bool HN.out.symm, rfl⟩
end Go.Proofs.Ytiaiaejijicddaa
