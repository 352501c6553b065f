/- Needless params: the program's iterator over what a param is handed. -/
import Derived.Test.YteihecnmnajahaaGreatDoorTrim10
import Derived.Test.YteihecnmnajahaaGreatDoorK9
import Derived.Stop.RegionWithIn
import Derived.Sort.QuietIn
namespace Go.Proofs.YteihecnmnajahaaGreatDoor
open Go Go.RowKit
attribute [local go_sem] Oper.semAt_some
set_option linter.unusedVariables false
set_option linter.unusedSimpArgs false
set_option maxRecDepth 100000

/-- what a round that goes on keeps: what lay ahead, and every cell but those of block y -/
def KpE (n y : Nat) (W W' : World) : Prop := Below n W W' ∧ W.heap.size ≤ W'.heap.size ∧ ∀ (p : Addr) v, p.block ≠ y → W.cell? p = some v → W'.cell? p = some v
theorem KpE.refl (n y : Nat) (W : World) : KpE n y W W := ⟨Below.refl _ _, Nat.le_refl _, fun _ _ _ h => h⟩
theorem KpE.trans {n y : Nat} {A B C : World} (h : KpE n y A B) (k : KpE n y B C) : KpE n y A C := ⟨h.1.trans k.1, Nat.le_trans h.2.1 k.2.1, fun p v hp hv => k.2.2 p v hp (h.2.2 p v hp hv)⟩
theorem KpE.of_below {n y : Nat} {W W' : World} (hn : n ≤ W.heap.size) (h : Below W.heap.size W W') : KpE n y W W' := ⟨h.mono hn, h.size, fun p v _ hv => (h.cell (World.block_lt_of_cell? W _ hv)).trans hv⟩
theorem KpE.b {n y : Nat} {w : World} (hn : n ≤ w.heap.size) (W : World) (l : Nat) (o o' : Obj) (hl : w.heap.size ≤ l) (h : W.heap[l]? = some o) (hc : o.isCells = false) (hw : o.isWalk = false) : KpE n y W (W.putObj l o') :=
  ⟨belowK_b hn W l o o' hl h hc hw, Nat.le_of_eq (by simp [World.putObj]), fun p v _ hv => cell_kept hv (grownBy_putObj' W l o') (fun r e => by cases e; exact ⟨o, h, hc⟩)⟩
theorem grown_drew1 (w : World) : w.grownBy w.drew none := ⟨rfl, rfl, rfl, Nat.le_refl _, fun _ _ _ => rfl⟩
theorem grown_drewN1 (w : World) (n : Nat) : w.grownBy (w.drewN n) none := ⟨rfl, rfl, rfl, Nat.le_refl _, fun _ _ _ => rfl⟩
theorem boolOf {e : Ending} {A B : Prop} (h : (e = .returned (.bool true) ∧ A) ∨ (e = .returned (.bool false) ∧ B)) : ∃ b, e = .returned (.bool b) ∧ Hid ((b = true ∧ A) ∨ (b = false ∧ B)) := by
  rcases h with ⟨rfl, h⟩ | ⟨rfl, h⟩
  · exact ⟨true, rfl, .inl ⟨rfl, h⟩⟩
  · exact ⟨false, rfl, .inr ⟨rfl, h⟩⟩
theorem argsP_prefix (p : Prt) (k i : Nat) {m n : Nat} (h : m ≤ n) : argsP p k i m <+: argsP p k i n := by
  obtain ⟨d, rfl⟩ := Nat.exists_eq_add_of_le h
  clear h
  induction d with
  | zero => exact List.prefix_rfl
  | succ d ih => exact ih.trans (by rw [← Nat.add_assoc, argsP_snoc]; exact List.prefix_append _ _)
theorem argsAt_prefix {xs : List Prt} {q : Nat} {p : Prt} (h : xs[q]? = some p) (k i : Nat) {m : Nat} (hm : m ≤ p.next.length) : argsAt (xs.take q) k i ++ argsP p k i m <+: argsAt xs k i := by
  have h1 : argsAt (xs.take (q + 1)) k i <+: argsAt xs k i := by
    have e : argsAt xs k i = argsAt (xs.take (q + 1)) k i ++ argsAt (xs.drop (q + 1)) k i := by
      unfold argsAt
      rw [← List.flatMap_append, List.take_append_drop]
    rw [e]; exact List.prefix_append _ _
  rw [argsAt_snoc h] at h1
  exact ((List.prefix_append_right_inj _).2 (argsP_prefix p k i hm)).trans h1
set_option maxHeartbeats 8000000 in
theorem argsForF_in (n : Nat) (hn : 1 ≤ n) (l b1 b2 b3 y : Nat) (xs : List Prt) (a : Option Addr) (c k i : Nat) (w0 : World) (hxl : xs.length ≤ 11) (hE : ∀ p ∈ xs, ArgIn xs p) (hX : CRow w0 a xs) (hk : ∃ q, xs[k]? = some q ∧ i < q.params.length) (h1y : b1 ≠ y) (h2y : b2 ≠ y) (h3y : b3 ≠ y)
    (J Jx : List Int → World → Prop) (W : World) (hy : y < W.heap.size) (hbW : Below w0.heap.size w0 W) (hJ : AbidesFrom W.heap.size J)
    (k1 : W.cell? ⟨b1, 0, none⟩ = some (.slice a xs.length c)) (k2 : W.cell? ⟨b2, 0, none⟩ = some (.int .i64 k)) (k3 : W.cell? ⟨b3, 0, none⟩ = some (.int .i64 i))
    (hY : ∀ pre x W, J pre W → pre.length < (argsAt xs k i).length → YieldAt Fence.wide (n - 1) Tryz.prog l #[.int .i64 x] W fun e W' =>
      (e = .returned (.bool true) ∧ J (pre ++ [x]) W' ∧ KpE w0.heap.size y W W') ∨ (e = .returned (.bool false) ∧ Jx (pre ++ [x]) W'))
    (h0 : J [] W) :
    CallsIn Fence.wide n Tryz.prog 138 #[.func (.yield l) #[] #[], .pointer (some ⟨b1, 0, none⟩), .pointer (some ⟨b2, 0, none⟩), .pointer (some ⟨b3, 0, none⟩)] W fun e W' => (∃ v, e = .returned v) ∧
      ((∃ ys, ys = argsAt xs k i ∧ J ys W') ∨ (∃ pre, pre <+: argsAt xs k i ∧ Jx pre W')) := by
  have HX := hid hX
  have HE := hid hE
  have HKK := hid hk
  have HJA := hid hJ
  have HY := hid hY
  have HBW := hid hbW
  have HKC := hid (fun (V : World) (h : KpE w0.heap.size y W V) => And.intro (h.2.2 _ _ h1y k1) (And.intro (h.2.2 _ _ h2y k2) (h.2.2 _ _ h3y k3)))
  clear hX hE hk hJ hY hbW
  refine callsIn_of_wp Tryz.func138 rfl trivial ?_ rfl
  simp only [Tryz.ntmps138, List.size_toArray, List.length_cons, List.length_nil, Nat.reduceAdd, Nat.reduceSub, Array.replicate_succ, Array.replicate_zero, List.push_toArray, List.append_toArray, List.nil_append, List.cons_append]
  gi_wp2
  clear k1 k2 k3
  gi_loopw [11] (fun t11 wr => ∃ q : Nat, q ≤ xs.length ∧ t11 = .int .i64 q ∧ Hid (J (argsAt (xs.take q) k i) wr) ∧ Hid (KpE w0.heap.size y W wr)) (fun t11 _ => xs.length - (intOf t11).toNat)
  case atStart => exact ⟨0, Nat.zero_le _, rfl, h0, KpE.refl _ _ _⟩
  case round =>
    obtain ⟨q, hq, rfl, HJ1, HK1⟩ := hrel
    clear h0
    by_cases hqx : q < xs.length
    · obtain ⟨b, off, rfl, hbw, hat⟩ := HX.out.at (by intro e; subst e; simp at hqx)
      obtain ⟨ps, cs, go, test, ns, rs, pa, pc, ca, cc, na, nc, ra, rc, c0, c1, c2, c3, c4, c5, l1, l2, l3, l4, HI, HXK⟩ := hat w0 (Below.refl _ _) q hqx
      have hB := HBW.out.trans HK1.out.1
      replace c0 := cell_below c0 hB
      replace c1 := cell_below c1 hB
      replace c2 := cell_below c2 hB
      replace c3 := cell_below c3 hB
      replace c4 := cell_below c4 hB
      replace c5 := cell_below c5 hB
      have HAI := hid (HE.out _ (List.mem_of_getElem? HXK.out))
      have hn6 := HAI.out.few
      simp only [] at hn6
      have hsz := HBW.out.size
      have hsz2 := HK1.out.1.size
      have hWr : W.heap.size ≤ wr.heap.size := HK1.out.2.1
      have bF := below1 wr (.cells #[.slice ca cs.length cc, .int .i64 go, .int .i64 test, .slice na ns.length nc, .slice pa ps.length pc, .slice ra rs.length rc] 74)
      obtain ⟨W2, hW2⟩ : ∃ W, W = wr.alloc (.cells #[.slice ca cs.length cc, .int .i64 go, .int .i64 test, .slice na ns.length nc, .slice pa ps.length pc, .slice ra rs.length rc] 74) := ⟨_, rfl⟩
      obtain ⟨bx, hbx⟩ : ∃ bx, wr.heap.size = bx := ⟨_, rfl⟩
      have e3 : W2.cell? ⟨bx, 3, none⟩ = some (.slice na ns.length nc) := by rw [hW2, ← hbx]; simp [go_sem]
      have e5 : W2.cell? ⟨bx, 5, none⟩ = some (.slice ra rs.length rc) := by rw [hW2, ← hbx]; simp [go_sem]
      have hbxy : bx ≠ y := by omega
      have HBOX := hid (fun (V : World) (h : KpE w0.heap.size y W2 V) => h.2.2 ⟨bx, 5, none⟩ _ hbxy e5)
      have HJ2 : Hid (J (argsAt (xs.take q) k i) W2) := by
        show J _ _
        rw [hW2]
        exact HJA.out _ _ _ none HJ1.out (World.grownBy_alloc _ _ _) (fun r e => by cases e)
      have HKW : Hid (KpE w0.heap.size y wr W2) := by
        show KpE _ _ _ _
        rw [hW2]
        exact KpE.of_below (by omega) bF
      have HPX := hid (fun (m : Nat) (hm : m ≤ ns.length) => argsAt_prefix HXK.out k i hm)
      have HSN := hid (argsAt_snoc HXK.out k i)
      obtain ⟨acc, hacc⟩ : ∃ z, argsAt (xs.take q) k i = z := ⟨_, rfl⟩
      rw [hacc] at HJ2 HPX HSN
      gi_upto_region 3 with fail
      rw [← hW2]
      try rw [hbx]
      have HNR := hid HI.out.next
      have HAR := hid HI.out.args
      have h2sz : bx + 1 ≤ W2.heap.size := by rw [hW2]; simp [hbx]
      clear hW2 hbx hat HI c0 c1 c2 c3 c4 c5 e5 bF hacc HJ1
      gi_wp2
      clear e3
      gi_loopw [19] (fun t19 wr => ∃ m : Nat, m ≤ ns.length ∧ t19 = .int .i64 m ∧ Hid (J (acc ++ argsP ⟨ps, cs, go, test, ns, rs⟩ k i m) wr) ∧ Hid (KpE w0.heap.size y W2 wr)) (fun t19 _ => ns.length - (intOf t19).toNat)
      case atStart => exact ⟨0, Nat.zero_le _, rfl, (by show J _ _; simpa [argsP] using HJ2.out), KpE.refl _ _ _⟩
      case round =>
        obtain ⟨m, hm, rfl, HJM, HKM⟩ := hrel
        have HKR := hid (HK1.out.trans (HKW.out.trans HKM.out))
        have hB := HBW.out.trans HKR.out.1
        by_cases hmt : m < ns.length
        · obtain ⟨tb, toff, rfl, htb, htat⟩ := HNR.out.at (by intro e; subst e; simp at hmt)
          obtain ⟨x, cx, HVX⟩ := htat wr hB m hmt
          obtain ⟨r1, r2, r3⟩ := HKC.out wr HKR.out
          have rb5 := HBOX.out wr HKM.out
          have hsn := argsP_snoc ⟨ps, cs, go, test, ns, rs⟩ k i m
          simp only [HVX.out, Option.some.injEq] at hsn
          clear htat
          by_cases hxk : x = (k : Int)
          · subst hxk
            obtain ⟨la, hl, hlf⟩ := HAI.out.fit m _ HVX.out
            simp only [] at hl
            have hnr := (List.getElem?_eq_some_iff.1 hl).1
            obtain ⟨rb, roff, rfl, hrb, rat⟩ := HAR.out.at (by intro e; subst e; simp at hnr)
            obtain ⟨t, ta, tc, rv, tl, HRT, HT⟩ := rat wr hB m hnr
            have htl : la = t := by have := HT.out; rw [hl] at this; exact Option.some.inj this
            subst htl
            obtain ⟨qp, hqp, hip⟩ := HKK.out
            have hli := hlf k qp rfl hqp
            obtain ⟨tb2, toff2, rfl, htb2, htat2⟩ := HRT.out.at (by intro e; subst e; simp at hli; omega)
            obtain ⟨z1, cz, HVZ⟩ := htat2 wr hB i (by omega)
            have HS2 : Hid (argsP ⟨ps, cs, go, test, ns, rs⟩ k i (m + 1) = argsP ⟨ps, cs, go, test, ns, rs⟩ k i m ++ [z1]) := by
              show _ = _
              rw [hsn, if_pos rfl, hl, Option.getD_some, HVZ.out]; rfl
            have hlen : (acc ++ argsP ⟨ps, cs, go, test, ns, rs⟩ k i m).length < (argsAt xs k i).length := by
              have h9 := (HPX.out (m + 1) (by omega)).length_le
              rw [HS2.out] at h9
              simp only [List.length_append, List.length_cons, List.length_nil] at h9 ⊢
              omega
            have HPM : Hid ((acc ++ argsP ⟨ps, cs, go, test, ns, rs⟩ k i m) ++ [z1] <+: argsAt xs k i) := by
              have h9 := HPX.out (m + 1) (by omega)
              rw [HS2.out, ← List.append_assoc] at h9
              exact h9
            have HKD := hid (KpE.of_below (n := w0.heap.size) (y := y) (by have := hB.size; omega) (Below.refl wr.heap.size wr).drew)
            obtain ⟨fn, tm, asg, bd, hyy, hR⟩ := HY.out (acc ++ argsP ⟨ps, cs, go, test, ns, rs⟩ k i m) z1 wr.drew (HJA.out _ _ _ none HJM.out (grown_drew1 _) (fun r e => by cases e)) hlen
            have hil : i < la.length := by rw [hli]; exact hip
            clear rat hlf hli htat2 hsn hl HRT HT hlen hB hqp hip
            gi_upto_region 6 with fail
            gi_region_with (refine hR.mono ?_; rintro e W3 hh; obtain ⟨bb, rfl, HBB⟩ := boolOf hh)
            all_goals (
              clear hyy hR r1 r2 r3 rb5 cx cz rv tl hil hnr
              rcases HBB.out with ⟨rfl, hJ3, hK3⟩ | ⟨rfl, hJx3⟩
              · have HJ3 := hid hJ3
                have HK3 := hid (HKM.out.trans (HKD.out.trans hK3))
                clear hJ3 hK3 HBB
                gi_wp2
                go_roundw
                case rel => exact ⟨m + 1, by omega, by go_num, (by show J _ _; rw [HS2.out, ← List.append_assoc]; exact HJ3.out), HK3⟩
                case measure => simp [intOf]; omega
              · have HJ3 := hid hJx3
                clear hJx3 HBB
                gi_wp2
                refine bodyPost_ret (results_none rfl _ _ _) rfl ?_
                exact ⟨⟨_, rfl⟩, .inr ⟨_, HPM.out, HJ3.out⟩⟩)
          · have HS2 : Hid (argsP ⟨ps, cs, go, test, ns, rs⟩ k i (m + 1) = argsP ⟨ps, cs, go, test, ns, rs⟩ k i m) := by
              show _ = _
              rw [hsn, if_neg hxk, List.append_nil]
            clear hsn
            have hd1 : decide (x = (k : Int)) = false := decide_eq_false hxk
            have hd2 : (x == (k : Int)) = false := by simpa using hxk
            gi_upto_region 6 with fail
            refine wpIn_wide.2 ?_
            go_quiet (fail)
            gi_wp2
            go_roundw
            case rel => exact ⟨m + 1, by omega, by go_num, (by show J _ _; rw [HS2.out]; exact HJA.out _ _ _ none HJM.out (grown_drewN1 _ _) (fun r e => by cases e)), HKM.out.trans (KpE.of_below (by have := hB.size; omega) (below_drewN (Below.refl _ _) _))⟩
            case measure => simp [intOf]; omega
        · obtain rfl : m = ns.length := by omega
          gi_wp2
          go_roundw
          case rel => exact ⟨q + 1, by omega, by go_num, by (show J _ _; rw [HSN.out]; exact HJM.out), HKR⟩
          case measure => simp [intOf]; omega
    · obtain rfl : q = xs.length := by omega
      rw [List.take_of_length_le (Nat.le_refl _)] at HJ1
      gi_wp2
      go_end0
      exact ⟨⟨_, rfl⟩, .inl ⟨_, rfl, HJ1.out⟩⟩
end Go.Proofs.YteihecnmnajahaaGreatDoor
