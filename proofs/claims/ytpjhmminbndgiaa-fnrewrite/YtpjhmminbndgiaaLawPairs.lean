/- The law on pairs is true at all bytes. -/
import Derived.Test.YtpjhmminbndgiaaDrawS
import Derived.Test.YtpjhmminbndgiaaLawCrit
import Derived.BigQuiet
import Derived.Deep.QuietTactic
namespace Go.Proofs.Ytpjhmminbndgiaa
open Go.RowKit
set_option linter.unusedVariables false
set_option linter.unusedSimpArgs false
set_option maxHeartbeats 8000000
set_option maxRecDepth 100000

theorem once_less {xs : List RB} {s : ByteArray} {u : Tx} (h : u ∈ onceBy xs s) (hs : s.size ≤ 100) : slB u (Bt s) = true ∧ u.length ≤ 100 := by
  unfold onceBy at h
  split at h
  · rename_i hc
    have h1 := once_sl (Bool.and_eq_true _ _ ▸ hc).1 h
    refine ⟨h1, ?_⟩
    rw [Bt_size] at hs
    simp only [slB, Bool.or_eq_true, Bool.and_eq_true, decide_eq_true_eq] at h1
    omega
  · simp at h
theorem less_same {a b : ByteArray} (h1 : slB (Bt a) (Bt b) = false) (h2 : slB (Bt b) (Bt a) = false) : a.toList = b.toList := by
  rw [Bt_toList, Bt_toList]
  by_cases h : Bt a = Bt b
  · exact h
  · rcases sl_total h with h | h
    · rw [h1] at h; cases h
    · rw [h2] at h; cases h
theorem lawPairs_go (a0 a1 : Option Addr) (z0 z1 : List Int) (c0 c1 : Nat) (w : World) (h0 : Code w a0 z0) (h1 : Code w a1 z1) (hg : ¬ 1048576 < wrap64 ((z0.length : Int) + z1.length)) :
    Calls Try.prog 4 #[.slice a0 z0.length c0, .slice a1 z1.length c1] w fun e w' => e = .returned (.bool true) ∧ Below w.heap.size w w' := by
  have hl0 := h0.1
  have hl1 := h1.1
  have HC : Hid (∀ W, Below w.heap.size w W → Code W a0 z0 ∧ Code W a1 z1) := fun W hb => ⟨h0.later hb, h1.later hb⟩
  clear h0 h1
  go_enter Try.func4, Try.ntmps4
  go_wp2_with fail
  refine (drawCrit_any a0 c0 z0 _ (HC.out _ (Below.refl _ _)).1).mono ?_
  rintro e w1 ⟨⟨v, xs, rfl, ⟨a, c, rfl, hr⟩, hsh, hx4⟩, B1⟩
  have HR := hid hr
  have HS := hid hsh
  clear hr hsh
  obtain ⟨g, hgd⟩ : ∃ g, rulesB (Rs xs) = g := ⟨_, rfl⟩
  obtain ⟨ps, hps⟩ : ∃ ps, crit xs = ps := ⟨_, rfl⟩
  have hpl := crit_len xs
  rw [hps] at hpl
  go_wp2_with fail
  refine (iCritical_any a c xs _ (by omega) HS.out HR.out).mono ?_
  rintro e w2 ⟨⟨v2, n2, ys2, rfl, hM2, hP2⟩, hb2⟩
  go_wp2_with fail
  refine (sCritical_any a c xs _ (by omega) HS.out (HR.out.below hb2)).mono ?_
  rintro e w3 ⟨⟨v3, n3, ys3, rfl, hM3, hP3⟩, hb3⟩
  obtain ⟨pa, pc, rfl, hp⟩ := hM2.row
  obtain ⟨qa, qc, rfl, hq⟩ := hM3.row
  have hn2 : n2 = ps.length := by rw [hM2.1, ← hps, ← hP2, pprs_length]
  have hn3 : n3 = ps.length := by rw [hM3.1, ← hps, ← hP3, pprs_length]
  rw [hP2, hps] at hp
  rw [hP3, hps] at hq
  subst hn2; subst hn3
  have HP := hid (hp.below hb3)
  have HQ := hid hq
  have HG := hid (iGood_any a c xs w3 (by omega) HS.out ((HR.out.below hb2).below hb3))
  have HB3 := hid (bstep' (bstep' B1 hb2) hb3)
  clear hM2 hM3 hP2 hP3 hp hq hb2 hb3 B1 HR HS hps
  rw [hgd] at HG ⊢
  clear hgd
  have hsame : (g != g) = false := by cases g <;> rfl
  go_wp2_with fail
  refine HG.out.mono ?_
  rintro e w4 ⟨rfl, hb4⟩
  have HB4 := hid (bstep' HB3.out hb4)
  have HP4 := hid (HP.out.below hb4)
  have HQ4 := hid (HQ.out.below hb4)
  clear hb4 HP HQ HG HB3
  go_wp2
  go_loopw [58] (fun t58 wr => ∃ k : Nat, t58 = .int .i64 (k : Int) ∧ k ≤ ps.length ∧ Below w4.heap.size w4 wr) (fun t58 _ => ps.length - (intOf t58).toNat)
  case atStart => exact ⟨0, rfl, by omega, Below.refl _ _⟩
  case round =>
    obtain ⟨V0, rfl⟩ : ∃ V0, V0 = wr := ⟨_, rfl⟩
    obtain ⟨k, rfl, hk, hB⟩ := hrel
    by_cases hlt : k < ps.length
    · obtain ⟨pb, poff, rfl, hat⟩ := HP4.out.resolve_left (by intro e; subst e; simp at hlt)
      obtain ⟨qb, qoff, rfl, hbt⟩ := HQ4.out.resolve_left (by intro e; subst e; simp at hlt)
      obtain ⟨⟨x, y⟩, hxy⟩ : ∃ p, ps[k]? = some p := ⟨_, List.getElem?_eq_getElem hlt⟩
      obtain ⟨ib, ic, i0, i1, i2⟩ := hat k x y hxy
      obtain ⟨sb, sc, s0, s1, s2⟩ := hbt k x y hxy
      have i0 := cell_below i0 hB
      have i1 := cell_below i1 hB
      have i2 := cell_below i2 hB
      have s0 := cell_below s0 hB
      have s1 := cell_below s1 hB
      have s2 := cell_below s2 hB
      have HBB := hid hB
      clear hat hbt hxy hB
      go_wp2
      go_quiet (fail)
      go_wp2
      go_roundw
      case rel => exact ⟨k + 1, by go_num, by omega, below_drewN HBB.out _⟩
      case measure => simp [intOf]; omega
    · obtain rfl : k = ps.length := by omega
      have HB5 := hid (HB4.out.trans (hB.mono HB4.out.size))
      have hzz := HB5.out.size
      clear hB HP4 HQ4 HB4
      go_wp2_with fail
      refine (drawOnce_any a1 c1 z1 _ (HC.out _ HB5.out).2).mono ?_
      rintro e w5 ⟨⟨v5, zs, s, rfl, ⟨⟨ra, rc, rfl, hr5⟩, hsh5, hz4⟩, hs5⟩, hb5⟩
      have HR5 := hid hr5
      have HS5 := hid hsh5
      clear hr5 hsh5
      obtain ⟨h, hhd⟩ : ∃ h, (rulesB (Rs zs) && okB 40 (Bt s)) = h := ⟨_, rfl⟩
      obtain ⟨os, hos⟩ : ∃ os, onceBy zs s = os := ⟨_, rfl⟩
      have HU := hid (fun (k : Nat) (u : Tx) (hu : os[k]? = some u) => once_less (xs := zs) (s := s) (hos ▸ List.mem_of_getElem? hu) hs5)
      go_wp2_with fail
      refine (iOnceBy_any ra rc zs s _ (by omega) HS5.out (by omega) HR5.out).mono ?_
      rintro e w6 ⟨⟨v6, rfl, ho6⟩, hb6⟩
      go_wp2_with fail
      refine (sOnceBy_any ra rc zs s _ (by omega) HS5.out (by omega) (HR5.out.below hb6)).mono ?_
      rintro e w7 ⟨⟨v7, rfl, ho7⟩, hb7⟩
      have hol := own_len ho6
      rw [hos] at ho6 ho7 hol
      rw [hhd]
      obtain ⟨oa, oc, rfl, ht6⟩ := TRow.of_owned ho6 rfl
      obtain ⟨pa2, pc2, rfl, ht7⟩ := TRow.of_owned ho7 rfl
      have HT6 := hid (ht6.below hb7)
      have HT7 := hid ht7
      have HB7 := hid (bstep' (bstep' (bstep' HB5.out hb5) hb6) hb7)
      clear ho6 ho7 ht6 ht7 hb5 hb6 hb7 HR5 HS5 hos hhd
      have hsame2 : (h != h) = false := by cases h <;> rfl
      go_wp2
      go_loopw [135] (fun t135 wr => ∃ k : Nat, t135 = .int .i64 (k : Int) ∧ k ≤ os.length ∧ Below w7.heap.size w7 wr) (fun t135 _ => os.length - (intOf t135).toNat)
      case atStart => exact ⟨0, rfl, by omega, Below.refl _ _⟩
      case round =>
        obtain ⟨V1, rfl⟩ : ∃ V1, V1 = wr := ⟨_, rfl⟩
        obtain ⟨k, rfl, hk, hB⟩ := hrel
        by_cases hlt : k < os.length
        · obtain ⟨pb, poff, rfl, hat⟩ := HT6.out.resolve_left (by intro e; subst e; simp at hlt)
          obtain ⟨qb, qoff, rfl, hbt⟩ := HT7.out.resolve_left (by intro e; subst e; simp at hlt)
          obtain ⟨u, hu⟩ : ∃ p, os[k]? = some p := ⟨_, List.getElem?_eq_getElem hlt⟩
          have i0 := cell_below (hat k u hu) hB
          have s0 := cell_below (hbt k u hu) hB
          obtain ⟨hul, huz⟩ := HU.out k u hu
          have CS := hid (fun W => iShort_any (Sb u) s W (by rw [Bt_size, Bt_Sb]; omega) (by omega))
          rw [Bt_Sb, hul] at CS
          have HBB := hid hB
          clear hat hbt hu hB
          go_wp2
          go_quiet (first | (go_at_call 21; refine Calls.quiet_of_same (CS.out _)))
          go_wp2
          go_roundw
          case rel => exact ⟨k + 1, by go_num, by omega, below_drewN HBB.out _⟩
          case measure => simp [intOf]; omega
        · obtain rfl : k = os.length := by omega
          have HB8 := hid (HB7.out.trans (hB.mono HB7.out.size))
          clear hB HT6 HT7 HB7 HU
          go_wp2_with fail
          refine (drawShort_any a1 c1 z1 _ (HC.out _ HB8.out).2).mono ?_
          rintro e w8 ⟨⟨A, B, rfl, hA, hBz⟩, hb8⟩
          have HB9 := hid (bstep' HB8.out hb8)
          clear hb8 HB8
          obtain ⟨X, hX⟩ : ∃ X, slB (Bt A) (Bt B) = X := ⟨_, rfl⟩
          obtain ⟨Y, hY⟩ : ∃ Y, slB (Bt B) (Bt A) = Y := ⟨_, rfl⟩
          go_wp2_with fail
          refine (iShort_any A B _ (by omega) (by omega)).mono ?_
          rintro e w9 ⟨rfl, rfl⟩
          rw [hX]
          go_wp2_with fail
          refine (iShort_any B A _ (by omega) (by omega)).mono ?_
          rintro e w10 ⟨rfl, rfl⟩
          rw [hY]
          have CM := hid (fun W => sShort_any A B W (by omega) (by omega))
          rw [hX] at CM
          have HQ1 := hid (fun hx : X = true => show Y = false by subst hY; exact sl_asymm (hX.trans hx))
          have HQ2 := hid (fun (hx : X = false) (hy : Y = false) => show A.toList = B.toList from less_same (hX.trans hx) (hY.trans hy))
          clear hX hY
          cases X with
          | true =>
            have hy := HQ1.out rfl
            subst hy
            go_wp2_with fail
            refine (CM.out _).mono ?_
            rintro e w11 ⟨rfl, rfl⟩
            go_wp2
            go_ret
            exact ⟨rfl, HB9.out⟩
          | false =>
            cases Y with
            | true =>
              go_wp2_with fail
              refine (CM.out _).mono ?_
              rintro e w11 ⟨rfl, rfl⟩
              go_wp2
              go_ret
              exact ⟨rfl, HB9.out⟩
            | false =>
              have hab := HQ2.out rfl rfl
              go_wp2_with fail
              refine (CM.out _).mono ?_
              rintro e w11 ⟨rfl, rfl⟩
              go_wp2
              go_ret
              exact ⟨rfl, HB9.out⟩
theorem lawPairs (a0 a1 : Option Addr) (z0 z1 : List Int) (c0 c1 : Nat) (w : World) (h0 : Code w a0 z0) (h1 : Code w a1 z1) :
    Calls Try.prog 4 #[.slice a0 z0.length c0, .slice a1 z1.length c1] w fun e w' => e = .returned (.bool true) ∧ Below w.heap.size w w' := by
  by_cases hg : 1048576 < wrap64 ((z0.length : Int) + z1.length)
  · have hl0 := h0.1
    have hl1 := h1.1
    clear h0 h1
    go_enter Try.func4, Try.ntmps4
    go_wp2
    go_ret
    exact ⟨rfl, Below.refl _ _⟩
  · exact lawPairs_go a0 a1 z0 z1 c0 c1 w h0 h1 hg
end Go.Proofs.Ytpjhmminbndgiaa
