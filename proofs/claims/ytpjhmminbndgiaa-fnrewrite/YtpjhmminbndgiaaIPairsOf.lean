/- What each two rules make of one text, as the program makes it. -/
import Derived.Test.YtpjhmminbndgiaaIWithin
namespace Go.Proofs.Ytpjhmminbndgiaa
open Go.RowKit
set_option linter.unusedVariables false
set_option linter.unusedSimpArgs false
set_option maxHeartbeats 8000000
set_option maxRecDepth 100000

theorem good_ne {xs : List RB} (hg : rulesB (Rs xs) = true) {k : Nat} {f t : ByteArray} (h : xs[k]? = some (f, t)) : 1 ≤ f.size := by
  have h1 := rule_ne hg _ (List.mem_of_getElem? (rs_at h))
  rw [Bt_size]
  exact List.length_pos_iff.2 h1
theorem MadeP.box {w : World} {B n : Nat} {pre : List OR} {ov : Value} {ys : List PV} (h : MadeP w B pre ov n ys) (hB : B ≤ w.heap.size) (t : TypeId) (u v : Value) : MadeP (w.alloc (.cells #[u, v] t)) B (cellOR t 2 w.heap.size [u, v] :: pre) ov n ys :=
  ⟨h.1, Sep.add h.2 (below1 w _) (cellOR t 2 w.heap.size [u, v]) (cell_own (cs := #[u, v]) (heap_alloc_new _ _) rfl hB) (fun k hk => by simp [Value.ownBlock] at hk; omega)⟩
theorem MadeP.unbox {w : World} {B n : Nat} {x : OR} {pre : List OR} {ov : Value} {ys : List PV} (h : MadeP w B (x :: pre) ov n ys) : MadeP w B pre ov n ys := ⟨h.1, Sep.tail h.2⟩
theorem MadeP.joined2 {w : World} {B n n2 : Nat} {x y : OR} {va : Option Addr} {vc : Nat} {v2 : Value} {ys ys2 : List PV} (hn : n = ys.length) (hn2 : n2 = ys2.length)
    (h : Sep w B ([x, y] ++ ⟨32, 1, .slice va (n + n2) vc, n + n2, pvals ys ++ pvals ys2⟩ :: (ys.map rowP ++ ⟨32, 1, v2, n2, pvals ys2⟩ :: ys2.map rowP))) : MadeP w B [x, y] (.slice va (n + n2) vc) (n + n2) (ys ++ ys2) := MadeP.joined hn hn2 h
theorem iPairsOf_any (a : Option Addr) (c : Nat) (xs : List RB) (w : World) (hg : rulesB (Rs xs) = true) (h : WRow w a xs) :
    Calls Try.prog 51 #[.slice a xs.length c] w fun e w' => (∃ v n ys, e = .returned v ∧ MadeP w' w.heap.size [] v n ys ∧ pprs ys = pairsB (Rs xs)) ∧ Below w.heap.size w w' := by
  have hx8 := good_len hg
  have H := hid h
  have HG := hid hg
  clear h hg
  go_enter Try.func51, Try.ntmps51
  go_wp2
  go_loopw [3, 10] (fun t3 t10 wr => ∃ (i n : Nat) (ys : List PV), t10 = .int .i64 (i : Int) ∧ i ≤ xs.length ∧ n ≤ i * 200 ∧ MadeP wr w.heap.size [] t3 n ys ∧ pprs ys = pairsTo (Rs xs) i ∧ Below w.heap.size w wr) (fun _ t10 _ => xs.length - (intOf t10).toNat)
  case atStart => exact ⟨0, 0, [], rfl, by omega, by omega, MadeP.nil _ _, rfl, Below.refl _ _⟩
  case round =>
    obtain ⟨W0, rfl⟩ : ∃ W0, W0 = wr := ⟨_, rfl⟩
    obtain ⟨i, n, ys, rfl, hi, hn, hM, hP, hB⟩ := hrel
    by_cases hlt : i < xs.length
    · obtain ⟨b, off, rfl, hbw, hat⟩ := H.out.at (by intro e; subst e; simp at hlt)
      obtain ⟨f, t, b1, c1, c2, HR1, hb1, HX⟩ := hat W0 hB i hlt
      obtain ⟨hf6, ht6, _⟩ := good_at HG.out HX.out
      have hf1 := good_ne HG.out HX.out
      have hbr : b < W0.heap.size := Nat.lt_of_lt_of_le hbw hB.size
      clear hat
      have HM1 := hid (hM.box hB.size 92 (.string f) (useV b1))
      have HP0 := hid hP
      have HB1 := hid (bstep' hB (below1 W0 (.cells #[.string f, useV b1] 92)))
      clear hM hP
      go_wp2
      go_loopw [3, 17] (fun t3 t17 wr => ∃ (j n : Nat) (ys : List PV), t17 = .int .i64 (j : Int) ∧ j ≤ xs.length ∧ n ≤ i * 200 + j * 20 ∧ MadeP wr w.heap.size [cellOR 92 2 W0.heap.size [.string f, useV b1]] t3 n ys ∧ pprs ys = pairsTo (Rs xs) i ++ pairsIn (Rs xs) i j ∧ Below w.heap.size w wr) (fun _ t17 _ => xs.length - (intOf t17).toNat)
      case atStart => exact ⟨0, n, ys, rfl, by omega, by omega, HM1.out, by rw [HP0.out]; simp [pairsIn], HB1.out⟩
      case round =>
        clear HM1 HP0 HB1 hn
        obtain ⟨V0, rfl⟩ : ∃ V0, V0 = wr := ⟨_, rfl⟩
        obtain ⟨j, n, ys, rfl, hj, hn, hM, hP, hB2⟩ := hrel
        by_cases hjx : j < xs.length
        · obtain ⟨b', off', hbe, hbw', hat⟩ := H.out.at (by intro e; subst e; simp at hlt)
          obtain ⟨g, u, b2, k1, k2, HR2, hb2, HY⟩ := hat V0 hB2 j hjx
          injection hbe with hbe
          injection hbe with e1 e2
          subst e1; subst e2
          obtain ⟨hg6, hu6, _⟩ := good_at HG.out HY.out
          have hg1 := good_ne HG.out HY.out
          have hbv : b < V0.heap.size := Nat.lt_of_lt_of_le hbw hB2.size
          clear hat
          have hM1 := hM.box hB2.size 92 (.string g) (useV b2)
          have hB3 := bstep' hB2 (below1 V0 (.cells #[.string g, useV b2] 92))
          have d0 : (V0.alloc (.cells #[.string g, useV b2] 92)).cell? ⟨W0.heap.size, 0, none⟩ = some (.string f) := hM1.2.cell (x := cellOR 92 2 W0.heap.size [.string f, useV b1]) (by simp) rfl (j := 0) rfl
          have d1 : (V0.alloc (.cells #[.string g, useV b2] 92)).cell? ⟨W0.heap.size, 1, none⟩ = some (useV b1) := hM1.2.cell (x := cellOR 92 2 W0.heap.size [.string f, useV b1]) (by simp) rfl (j := 1) rfl
          have hin := pairsIn_succ (Rs xs) i j
          rw [getD_rs HX.out, getD_rs HY.out] at hin
          have CA := hid (fun (W : World) (hb : Below w.heap.size w W) => iAcross_any b1 b2 f t g u W (HR1.out.below hb) (HR2.out.below hb) hf6 ht6 hg6 hu6 hf1 hg1)
          have CW := hid (fun (W : World) (hb : Below w.heap.size w W) => iWithin_any b1 b2 f t g u W (HR1.out.below hb) (HR2.out.below hb) hf6 ht6 hg6 hu6)
          have HIN : Hid (pairsTo (Rs xs) i ++ pairsIn (Rs xs) i (j + 1) = pprs ys ++ pairs2 (Bt f, Bt t) (Bt g, Bt u) (decide (i = j))) := by show _ = _; rw [hin, hP, List.append_assoc]
          have HM := hid hM1
          clear hM hM1 hP hin
          go_wp2_with fail
          refine (CA.out _ hB3).mono ?_
          rintro e w3 ⟨⟨v2, n2, ys2, rfl, hM2, hP2, hn2⟩, hb3⟩
          have hM3 := HM.out.join hb3 hB3.size hM2
          obtain ⟨na, nc, rfl, hN⟩ := hM2.news
          have HM3 := hid hM3
          have HN := hid hN
          have HI2 := hid (And.intro hM2.1 hP2)
          have HB3 := hid (bstep' hB3 hb3)
          clear hM3 hN hM2 hP2 hb3 d0 d1 k1 k2 c1 c2
          go_wp2_with (at_builtin; refine wpList_append_sep eltStrs rfl _ _ rfl w.heap.size [cellOR 92 2 V0.heap.size [.string g, useV b2], cellOR 92 2 W0.heap.size [.string f, useV b1]] HM3.out rfl HN.out rfl (by omega) HB3.out.size ?_)
          intro va2 vc2 w5 hs5 hb5 hg5
          have HS5 := hid (MadeP.joined2 HM.out.1 HI2.out.1 hs5)
          have hB5 := HB3.out.trans hb5
          clear hs5 hb5 hg5
          obtain ⟨yA, hA⟩ : ∃ z, ys ++ ys2 = z := ⟨_, rfl⟩
          rw [hA] at HS5
          have HA := hid hA
          clear hA
          by_cases hij : i = j
          · subst hij
            go_wp2
            go_roundw
            case rel =>
              refine ⟨i + 1, n + n2, yA, by go_num, by omega, by omega, HS5.out.unbox, ?_, hB5⟩
              rw [HIN.out, decide_eq_true rfl, ← HA.out]
              simp [pairs2, pprs, ← HI2.out.2]
            case measure => simp [intOf]; omega
          · have hne : ((i : Int) != (j : Int)) = true := by simp; omega
            have hne2 : ¬ (i : Int) = (j : Int) := by omega
            have d0 : w5.cell? ⟨W0.heap.size, 0, none⟩ = some (.string f) := HS5.out.2.cell (x := cellOR 92 2 W0.heap.size [.string f, useV b1]) (by simp) rfl (j := 0) rfl
            have d1 : w5.cell? ⟨W0.heap.size, 1, none⟩ = some (useV b1) := HS5.out.2.cell (x := cellOR 92 2 W0.heap.size [.string f, useV b1]) (by simp) rfl (j := 1) rfl
            have d2 : w5.cell? ⟨V0.heap.size, 0, none⟩ = some (.string g) := HS5.out.2.cell (x := cellOR 92 2 V0.heap.size [.string g, useV b2]) (by simp) rfl (j := 0) rfl
            have d3 : w5.cell? ⟨V0.heap.size, 1, none⟩ = some (useV b2) := HS5.out.2.cell (x := cellOR 92 2 V0.heap.size [.string g, useV b2]) (by simp) rfl (j := 1) rfl
            go_wp2_with fail
            refine (CW.out _ hB5).mono ?_
            rintro e w6 ⟨⟨v4, n4, ys4, rfl, hM4, hP4, hn4⟩, hb6⟩
            have hM6 := HS5.out.join hb6 hB5.size hM4
            obtain ⟨na4, nc4, rfl, hN4⟩ := hM4.news
            have HM6 := hid hM6
            have HN4 := hid hN4
            have HI4 := hid (And.intro hM4.1 hP4)
            have HB6 := hid (bstep' hB5 hb6)
            clear hM6 hN4 hM4 hP4 hb6 d0 d1 d2 d3
            go_wp2_with (at_builtin; refine wpList_append_sep eltStrs rfl _ _ rfl w.heap.size [cellOR 92 2 V0.heap.size [.string g, useV b2], cellOR 92 2 W0.heap.size [.string f, useV b1]] HM6.out rfl HN4.out rfl (by omega) HB6.out.size ?_)
            intro va7 vc7 w7 hs7 hb7 hg7
            have HS7 := hid (MadeP.joined2 HS5.out.1 HI4.out.1 hs7)
            have HB7 := hid (HB6.out.trans hb7)
            clear hs7 hb7 hg7
            go_wp2
            go_roundw
            case rel =>
              refine ⟨j + 1, n + n2 + n4, yA ++ ys4, by go_num, by omega, by omega, HS7.out.unbox, ?_, HB7.out⟩
              rw [HIN.out, decide_eq_false hij, ← HA.out]
              simp [pairs2, pprs, ← HI2.out.2, ← HI4.out.2]
            case measure => simp [intOf]; omega
        · obtain rfl : j = xs.length := by omega
          have HP : Hid (pprs ys = pairsTo (Rs xs) (i + 1)) := by show _ = _; rw [hP, pairsTo_succ, Rs_length]
          have HM := hid hM.unbox
          clear hM hP
          go_wp2
          go_roundw
          case rel => exact ⟨i + 1, n, ys, by go_num, by omega, by omega, HM.out, HP.out, hB2⟩
          case measure => simp [intOf]; omega
    · obtain rfl : i = xs.length := by omega
      have HM := hid hM
      have HP : Hid (pprs ys = pairsB (Rs xs)) := by show _ = _; rw [pairsB_eq, Rs_length]; exact hP
      clear hM hP
      go_wp2
      go_ret
      exact ⟨⟨_, n, ys, rfl, HM.out, HP.out⟩, hB⟩
end Go.Proofs.Ytpjhmminbndgiaa
