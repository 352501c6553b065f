/- UsedOnce, both sides; the law on it answers true. -/
import Derived.Test.YtiaiaejijicddaaUsedL
namespace Go.Proofs.Ytiaiaejijicddaa
open Go Go.RowKit
set_option linter.unusedVariables false
set_option linter.unusedSimpArgs false
set_option maxRecDepth 100000

/-- what UsedOnce answers -/
def onceAns (xs : List Flt) (at' : Int) (keep : List Int) : Bool × Bool :=
  if lowL xs && keepL keep then
    match (if 0 ≤ at' then xs[at'.toNat]? else none) with
    | some z => if setsB z.op then (usedN 1 xs at'.toNat z.dst keep, true) else (false, false)
    | none => (false, false)
  else (false, false)
theorem onceAns_bad {xs : List Flt} {i : Int} {keep : List Int} (h : (lowL xs && keepL keep) = false) : onceAns xs i keep = (false, false) := by simp [onceAns, h]
theorem onceAns_out {xs : List Flt} {i : Int} {keep : List Int} (h : i < 0 ∨ (xs.length : Int) ≤ i) : onceAns xs i keep = (false, false) := by
  unfold onceAns
  split
  · by_cases h0 : 0 ≤ i
    · rw [if_pos h0, List.getElem?_eq_none (by omega)]
    · rw [if_neg h0]
  · rfl
theorem onceAns_none {xs : List Flt} {i : Nat} {keep : List Int} {z : Flt} (hz : xs[i]? = some z) (hs : setsB z.op = false) : onceAns xs (i : Int) keep = (false, false) := by
  unfold onceAns
  split
  · rw [if_pos (by omega), Int.toNat_natCast, hz]; simp [hs]
  · rfl
theorem onceAns_yes {xs : List Flt} {i : Nat} {keep : List Int} {z : Flt} (h : (lowL xs && keepL keep) = true) (hz : xs[i]? = some z) (hs : setsB z.op = true) : onceAns xs (i : Int) keep = (usedN 1 xs i z.dst keep, true) := by
  unfold onceAns
  rw [if_pos h, if_pos (by omega), Int.toNat_natCast, hz]
  simp [hs]
theorem low_few {xs : List Flt} (h : lowL xs = true) : xs.length ≤ 60 := by simp [lowL] at h; exact h.2
theorem low_all {xs : List Flt} (h : lowL xs = true) : allFm 8 xs = true := by simp [lowL] at h; exact h.1
set_option maxHeartbeats 1000000 in
theorem sUsedOnce_any (a ka : Option Addr) (c kc : Nat) (xs : List Flt) (keep : List Int) (i : Int) (w : World) (hl : xs.length ≤ 9223372036854775807) (hc : xs.length ≤ c) (hk : keep.length ≤ 9223372036854775807) (h : FRow w a xs) (hK : Row w ka keep) :
    Calls Try.prog 16 #[.slice a xs.length c, .int .i64 i, .slice ka keep.length kc] w fun e w' => e = .returned (.tuple #[.bool (onceAns xs i keep).1, .bool (onceAns xs i keep).2]) ∧ Below w.heap.size w w' := by
  have hL := l14Low_any a c xs w hl h
  have hP := fun (W : World) (hb : Below w.heap.size w W) => l16Keep_any ka kc keep W hk (hK.below hb)
  have HBAD := fun hb => hid (onceAns_bad (xs := xs) (i := i) (keep := keep) hb)
  have HF := hid h
  have HK := hid hK
  cases hlow : lowL xs with
  | false =>
    have HA := HBAD (by rw [hlow]; rfl)
    rw [hlow] at hL
    have HL := hid hL
    clear hL hP HBAD hlow
    go_enter Try.func16, Try.ntmps16
    go_wp2_with (go_at_call 27; refine HL.out.mono ?_; rintro e w1 ⟨rfl, hb1⟩)
    go_ret2
    exact ⟨by rw [HA.out]; rfl, hb1⟩
  | true =>
    rw [hlow] at hL
    have HL := hid hL
    clear hL
    cases hkeep : keepL keep with
    | false =>
      have HA := HBAD (by rw [hlow, hkeep]; rfl)
      rw [hkeep] at hP
      have HP := hid hP
      clear hP HBAD hlow hkeep
      go_enter Try.func16, Try.ntmps16
      go_wp2_with (first | (go_at_call 27; refine HL.out.mono ?_; rintro e w1 ⟨rfl, hb1⟩) | (go_at_call 36; refine (HP.out _ hb1).mono ?_; rintro e w2 ⟨rfl, rfl⟩))
      go_ret2
      exact ⟨by rw [HA.out]; rfl, hb1⟩
    | true =>
      rw [hkeep] at hP
      have HP := hid hP
      have HG := hid (And.intro hlow hkeep)
      clear hP HBAD hlow hkeep
      by_cases h0 : i < 0
      · have HA := hid (onceAns_out (xs := xs) (i := i) (keep := keep) (.inl h0))
        go_enter Try.func16, Try.ntmps16
        go_wp2_with (first | (go_at_call 27; refine HL.out.mono ?_; rintro e w1 ⟨rfl, hb1⟩) | (go_at_call 36; refine (HP.out _ hb1).mono ?_; rintro e w2 ⟨rfl, rfl⟩))
        go_ret2
        exact ⟨by rw [HA.out]; rfl, hb1⟩
      by_cases h1 : (xs.length : Int) ≤ i
      · have HA := hid (onceAns_out (xs := xs) (i := i) (keep := keep) (.inr h1))
        go_enter Try.func16, Try.ntmps16
        go_wp2_with (first | (go_at_call 27; refine HL.out.mono ?_; rintro e w1 ⟨rfl, hb1⟩) | (go_at_call 36; refine (HP.out _ hb1).mono ?_; rintro e w2 ⟨rfl, rfl⟩))
        go_ret2
        exact ⟨by rw [HA.out]; rfl, hb1⟩
      obtain ⟨n, rfl⟩ : ∃ n : Nat, i = n := ⟨i.toNat, by omega⟩
      have hn : n < xs.length := by omega
      obtain ⟨b, off, rfl, hbw, hat⟩ := h.at (by intro e; subst e; simp at hn)
      obtain ⟨p, d, t, x, y, m, f0, f1, f2, f3, f4, f5, HX⟩ := hat w (Below.refl _ _) n hn
      have HC0 := hid f0
      have hs9 := fun W => l9Sets_any p W
      have hz9 : 0 ≤ t := goodFm_dst (all_at (low_all HG.out.1) HX.out)
      clear hat f0 f1 f2 f3 f4 f5
      cases hs : setsB p with
      | false =>
        have HA := hid (onceAns_none (keep := keep) HX.out hs)
        rw [hs] at hs9
        have HS := hid hs9
        clear hs9 hs
        go_enter Try.func16, Try.ntmps16
        go_wp2_with (first | (go_at_call 27; refine HL.out.mono ?_; rintro e w1 ⟨rfl, hb1⟩; have f0 := cell_below HC0.out hb1) | (go_at_call 36; refine (HP.out _ hb1).mono ?_; rintro e w2 ⟨rfl, rfl⟩) | (go_at_call 37; refine (HS.out _).mono ?_; rintro e w3 ⟨rfl, rfl⟩))
        go_ret2
        exact ⟨by rw [HA.out]; rfl, hb1⟩
      | true =>
        have HA := hid (onceAns_yes (by rw [HG.out.1, HG.out.2]; rfl) HX.out hs)
        rw [hs] at hs9
        have HS := hid hs9
        clear hs9 hs
        have HO := hid (fun (W : World) (hb : Below w.heap.size w W) => l16Once_any (some ⟨b, off, none⟩) ka c kc xs keep n ⟨p, d, t, x, y, m⟩ W (low_few HG.out.1) hc HX.out hk hz9 (HF.out.below hb) (HK.out.below hb))
        clear h hK
        go_enter Try.func16, Try.ntmps16
        go_wp2_with (first | (go_at_call 27; refine HL.out.mono ?_; rintro e w1 ⟨rfl, hb1⟩; have f0 := cell_below HC0.out hb1) | (go_at_call 36; refine (HP.out _ hb1).mono ?_; rintro e w2 ⟨rfl, rfl⟩) | (go_at_call 37; refine (HS.out _).mono ?_; rintro e w3 ⟨rfl, rfl⟩) | (go_at_call 38; refine (HO.out _ hb1).mono ?_; rintro e w4 ⟨rfl, hb4⟩))
        go_ret2
        exact ⟨by rw [HA.out]; rfl, bstep' hb1 hb4⟩
set_option maxHeartbeats 1000000 in
theorem iUsedOnce_any (a ka : Option Addr) (c kc : Nat) (xs : List Flt) (keep : List Int) (i : Int) (w : World) (hl : xs.length ≤ 9223372036854775807) (hc : xs.length ≤ c) (hk : keep.length ≤ 9223372036854775807) (h : FRow w a xs) (hK : Row w ka keep) :
    Calls Try.prog 18 #[.slice a xs.length c, .int .i64 i, .slice ka keep.length kc] w fun e w' => e = .returned (.tuple #[.bool (onceAns xs i keep).1, .bool (onceAns xs i keep).2]) ∧ Below w.heap.size w w' := by
  have hL := areToStack_any a ka c kc xs keep w hl hk h hK
  have HF := hid h
  have HK := hid hK
  cases hg : (lowL xs && keepL keep) with
  | false =>
    have HA := hid (onceAns_bad (xs := xs) (i := i) (keep := keep) hg)
    rw [hg] at hL
    have HL := hid hL
    clear hL hg
    go_enter Try.func18, Try.ntmps18
    go_wp2_with (go_at_call 39; refine HL.out.mono ?_; rintro e w1 ⟨rfl, hb1⟩)
    go_ret2
    exact ⟨by rw [HA.out]; rfl, hb1⟩
  | true =>
    rw [hg] at hL
    have HL := hid hL
    have HG : Hid (lowL xs = true ∧ keepL keep = true) := by show _ ∧ _; simpa using hg
    have HGG := hid hg
    clear hL hg
    have h40 : Hid (∀ W, Calls Try.prog 40 #[.int .i64 (xs.length : Int), .slice (some ⟨W.heap.size, 0, none⟩) 1 1] (W.alloc (.cells #[.int .i64 i] 3)) fun e w' => e = .returned (.bool (belB (xs.length : Int) i)) ∧ Below W.heap.size W w') := fun W =>
      (are1 (xs.length : Int) i W 3 _ rfl)
    by_cases hin : 0 ≤ i ∧ i < (xs.length : Int)
    rotate_left
    · have HA := hid (onceAns_out (xs := xs) (i := i) (keep := keep) (by omega))
      rw [show belB (xs.length : Int) i = false by simp [belB, inB]; omega] at h40
      go_enter Try.func18, Try.ntmps18
      go_wp2_with (first | (go_at_call 39; refine HL.out.mono ?_; rintro e w1 ⟨rfl, hb1⟩) | (go_at_call 40; refine (h40.out _).mono ?_; rintro e w2 ⟨rfl, hb2⟩))
      go_ret2
      exact ⟨by rw [HA.out]; rfl, bstep' hb1 hb2⟩
    rw [show belB (xs.length : Int) i = true by simp [belB, inB]; omega] at h40
    obtain ⟨n, rfl⟩ : ∃ n : Nat, i = n := ⟨i.toNat, by omega⟩
    have hn : n < xs.length := by omega
    obtain ⟨b, off, rfl, hbw, hat⟩ := h.at (by intro e; subst e; simp at hn)
    obtain ⟨p, d, t, x, y, m, f0, f1, f2, f3, f4, f5, HX⟩ := hat w (Below.refl _ _) n hn
    have HCS := hid (fun (W : World) (hb : Below w.heap.size w W) => And.intro (cell_below f0 hb) (And.intro (cell_below f1 hb) (And.intro (cell_below f2 hb) (And.intro (cell_below f3 hb) (And.intro (cell_below f4 hb) (cell_below f5 hb))))))
    obtain ⟨dv, hd1, hd2, -⟩ := deed_of ⟨p, d, t, x, y, m⟩
    have hz9 : 0 ≤ t := goodFm_dst (all_at (low_all HG.out.1) HX.out)
    have HU := hid (fun (W : World) (hb : Below w.heap.size w W) => isUsed_any 1 (some ⟨b, off, none⟩) ka c kc xs keep n ⟨p, d, t, x, y, m⟩ W (low_few HG.out.1) hc HX.out (low_all HG.out.1) hk (HF.out.below hb) (HK.out.below hb))
    have HD1 := hid hd1
    clear hat f0 f1 f2 f3 f4 f5 hd1 h hK
    cases hs : setsB p with
    | false =>
      have HA := hid (onceAns_none (keep := keep) HX.out hs)
      rw [makeF_none hs] at hd2
      have HD2 := hid hd2
      clear hd2 hs
      go_enter Try.func18, Try.ntmps18
      go_wp2_with (first | (go_at_call 39; refine HL.out.mono ?_; rintro e w1 ⟨rfl, hb1⟩) | (go_at_call 40; refine (h40.out _).mono ?_; rintro e w2 ⟨rfl, hb2⟩; obtain ⟨f0, f1, f2, f3, f4, f5⟩ := HCS.out _ (bstep' hb1 hb2)) | (go_at_call 42; refine (HD1.out _).mono ?_; rintro e w3 ⟨rfl, hb3⟩) | (go_at_call 41; refine (HD2.out _).mono ?_; rintro e w4 ⟨rfl, hb4⟩))
      go_ret2
      exact ⟨by rw [HA.out]; rfl, bstep' (bstep' (bstep' hb1 hb2) hb3) hb4⟩
    | true =>
      have HA := hid (onceAns_yes HGG.out HX.out hs)
      rw [makeF_sets hs] at hd2 HU
      have HD2 := hid hd2
      have ht1 : (t == -1) = false := by simp; omega
      have ht2 : ¬ t = -1 := by omega
      clear hd2 hs
      go_enter Try.func18, Try.ntmps18
      go_wp2_with (first | (go_at_call 39; refine HL.out.mono ?_; rintro e w1 ⟨rfl, hb1⟩) | (go_at_call 40; refine (h40.out _).mono ?_; rintro e w2 ⟨rfl, hb2⟩; obtain ⟨f0, f1, f2, f3, f4, f5⟩ := HCS.out _ (bstep' hb1 hb2)) | (go_at_call 42; refine (HD1.out _).mono ?_; rintro e w3 ⟨rfl, hb3⟩) | (go_at_call 41; refine (HD2.out _).mono ?_; rintro e w4 ⟨rfl, hb4⟩; have HB4 := bstep' (bstep' (bstep' hb1 hb2) hb3) hb4) | (go_at_call 43; refine (HU.out _ HB4).mono ?_; rintro e w5 ⟨rfl, hb5⟩))
      go_ret2
      exact ⟨by rw [HA.out]; rfl, bstep' HB4 hb5⟩
theorem own_cap {w : World} {B e size n cap : Nat} {a : Option Addr} {xs : List Value} (h : w.ownsRow B e size (.slice a n cap) n xs) : n ≤ cap := by
  rcases h.2 with ⟨hv, h0⟩ | ⟨g, cp, cur, hv, hB, hg, hn, hm, hs, htk⟩
  · omega
  · injection hv with e1 e2 e3
    subst e3
    exact hn
set_option maxHeartbeats 8000000 in
theorem lawUsedOnce (a : Option Addr) (c : Nat) (xs : List Flt) (i : Int) (ka : Option Addr) (kc : Nat) (ks : List Int) (w : World) (hl : xs.length ≤ 9223372036854775807) (hkl : ks.length ≤ 9223372036854775807) (h : FRow w a xs) (hK : Row w ka ks) :
    Calls Try.prog 4 #[.slice a xs.length c, .int .i64 i, .slice ka ks.length kc] w fun e w' => e = .returned (.bool true) ∧ Below w.heap.size w w' := by
  by_cases hkn : (1048576 : Int) < (ks.length : Int)
  · go_enter Try.func4, Try.ntmps4
    go_wp2
    go_ret
    exact ⟨rfl, Below.refl _ _⟩
  have HZ := hid (szFlatS_any a c xs.length 1048576 w hl (by omega) (by omega))
  by_cases hn : (1048576 : Int) < (xs.length : Int)
  · rw [if_pos hn] at HZ
    go_enter Try.func4, Try.ntmps4
    go_wp2_with (go_at_call 7; refine HZ.out.mono ?_; rintro e w1 ⟨rfl, hw⟩; subst w1)
    go_ret
    exact ⟨rfl, Below.refl _ _⟩
  rw [if_neg hn] at HZ
  have hl2 : xs.length ≤ 1048576 := by omega
  have hk2 : ks.length ≤ 1048576 := by omega
  have hn0 : ¬ ((1048576 : Int) - (xs.length : Int) < 0) := by omega
  have HT : Hid (∀ W, Below w.heap.size w W → Calls Try.prog 9 #[.slice a xs.length c] W fun e w' => ∃ va vc, e = .returned (.slice va xs.length vc) ∧ w'.ownsRow W.heap.size 49 6 (.slice va xs.length vc) xs.length (flatF xs) ∧ Below W.heap.size W w') := fun W hb => toFlatS_any a c xs W hl2 (h.below hb)
  have HI : Hid (∀ W, Below w.heap.size w W → Calls Try.prog 17 #[.slice ka ks.length kc] W fun e w' => ∃ va vc, e = .returned (.slice va ks.length vc) ∧ w'.ownsRow W.heap.size 3 1 (.slice va ks.length vc) ks.length (ints ks) ∧ Below W.heap.size W w') := fun W hb => toIntS_sl ka kc ks W hk2 (hK.below hb)
  obtain ⟨⟨u, ok⟩, hA⟩ : ∃ A, onceAns xs i ks = A := ⟨_, rfl⟩
  have HS16 : Hid (∀ W va vc ta tc, w.heap.size ≤ W.heap.size → xs.length ≤ vc → FRow W va xs → Row W ta ks → Calls Try.prog 16 #[.slice va xs.length vc, .int .i64 i, .slice ta ks.length tc] W fun e w' => e = .returned (.tuple #[.bool u, .bool ok]) ∧ Below W.heap.size W w') := fun W va vc ta tc _ hvc hr hr2 => by
    have h9 := sUsedOnce_any va ta vc tc xs ks i W hl hvc hkl hr hr2
    rw [hA] at h9
    exact h9
  have HS18 : Hid (∀ W va vc ta tc, w.heap.size ≤ W.heap.size → xs.length ≤ vc → FRow W va xs → Row W ta ks → Calls Try.prog 18 #[.slice va xs.length vc, .int .i64 i, .slice ta ks.length tc] W fun e w' => e = .returned (.tuple #[.bool u, .bool ok]) ∧ Below W.heap.size W w') := fun W va vc ta tc _ hvc hr hr2 => by
    have h9 := iUsedOnce_any va ta vc tc xs ks i W hl hvc hkl hr hr2
    rw [hA] at h9
    exact h9
  have huu : (u != u) = false := by cases u <;> rfl
  have hoo : (ok != ok) = false := by cases ok <;> rfl
  clear h hK hn hkn hA
  have hkn' : ¬ (1048576 : Int) < (ks.length : Int) := by omega
  go_enter Try.func4, Try.ntmps4
  go_upto_region 5 with (go_at_call 7; refine HZ.out.mono ?_; rintro e w1 ⟨rfl, hw⟩; subst w1)
  go_upto_region 8 with (first | (go_at_call 9; refine (HT.out _ (Below.refl _ _)).mono ?_; rintro e w1 ⟨va, vc, rfl, ho1, hb1⟩) | (go_at_call 17; refine (HI.out _ hb1).mono ?_; rintro e w2 ⟨ta, tc, rfl, ho2, hb2⟩) | (go_at_call 16; refine (HS16.out _ va vc ta tc (Nat.le_trans hb1.size hb2.size) (own_cap ho1) ((own_frow ho1).below hb2) (own_row ho2)).mono ?_; rintro e w3 ⟨rfl, hb3⟩))
  have HB3 := hid (bstep' (bstep' hb1 hb2) hb3)
  clear ho1 ho2 hb1 hb2 hb3
  go_upto_region 9 with (go_at_call 9; refine (HT.out _ HB3.out).mono ?_; rintro e w4 ⟨xa, xc, rfl, ho4, hb4⟩)
  have HB4 := hid (bstep' HB3.out hb4)
  have HXC := hid (own_cap ho4)
  have HX4 := hid (own_frow ho4)
  clear hb4 ho4
  go_upto_region 10 with (go_at_call 17; refine (HI.out _ HB4.out).mono ?_; rintro e w5 ⟨ya, yc, rfl, ho5, hb5⟩)
  have HB5 := hid (bstep' HB4.out hb5)
  have HX5 := hid (HX4.out.below hb5)
  have HY5 := hid (own_row ho5)
  clear hb5 ho5 HX4
  go_upto_region 11 with (go_at_call 18; refine (HS18.out _ xa xc ya yc HB5.out.size HXC.out HX5.out HY5.out).mono ?_; rintro e w6 ⟨rfl, hb6⟩)
  have HB6 := hid (bstep' HB5.out hb6)
  have HX6 := hid (HX5.out.below hb6)
  have HY6 := hid (HY5.out.below hb6)
  clear hb6 HX5 HY5
  go_upto_region 15 with (first | (go_at_call 9; refine (HT.out _ HB6.out).mono ?_; rintro e w7 ⟨za, zc, rfl, ho7, hb7⟩) | (go_at_call 12; refine (eqFlatS_same xa za xc zc xs _ hl (HX6.out.below hb7) (own_frow ho7)).mono ?_; rintro e w8 ⟨rfl, hb8⟩))
  have HB8 := hid (bstep' (bstep' HB6.out hb7) hb8)
  have HY8 := hid ((HY6.out.below hb7).below hb8)
  clear hb7 hb8 ho7
  go_wp2_with (first | (go_at_call 17; refine (HI.out _ HB8.out).mono ?_; rintro e w9 ⟨qa, qc, rfl, ho9, hb9⟩) | (go_at_call 19; refine (eqIntS_same ya qa yc qc ks _ hkl (HY8.out.below hb9) (own_row ho9)).mono ?_; rintro e w10 ⟨rfl, q, hw10⟩; subst w10))
  go_ret
  exact ⟨rfl, below_drewN (bstep' HB8.out hb9) _⟩
end Go.Proofs.Ytiaiaejijicddaa
