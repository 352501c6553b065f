/- Marking the parts of an ssa, beside rows that stay. -/
import Derived.Test.YteihecnmnajahaaGreatDoorK7
import Derived.Test.YteihecnmnajahaaGreatDoorMarkF
namespace Go.Proofs.YteihecnmnajahaaGreatDoor
open Go.RowKit
set_option linter.unusedVariables false
set_option linter.unusedSimpArgs false
set_option maxRecDepth 100000

theorem rowsL_set {v : Value} {zs : List LV} {j : Nat} {z : LV} (hz : zs[j]? = some z) (t : List Int) : rowsL v (zs.set j ⟨t, z.v⟩) = (⟨35, 1, v, zs.length, vals zs⟩ :: (zs.take j).map rowL) ++ ⟨3, 1, z.v, t.length, ints t⟩ :: (zs.drop (j + 1)).map rowL := by
  have hj := (List.getElem?_eq_some_iff.1 hz).1
  have e0 : vals (zs.set j ⟨t, z.v⟩) = vals zs := by
    simp only [vals, List.map_set]
    apply List.ext_getElem?
    intro i
    by_cases e : i = j
    · subst e; rw [List.getElem?_set_self (by simpa using hj), List.getElem?_map, hz]; rfl
    · rw [List.getElem?_set_ne (fun h => e h.symm)]
  rw [rowsL, List.length_set, e0, List.set_eq_take_append_cons_drop, if_pos hj]
  simp [rowL]
theorem rowsL_split {v : Value} {zs : List LV} {j : Nat} {z : LV} (hz : zs[j]? = some z) : rowsL v zs = (⟨35, 1, v, zs.length, vals zs⟩ :: (zs.take j).map rowL) ++ ⟨3, 1, z.v, z.r.length, ints z.r⟩ :: (zs.drop (j + 1)).map rowL := by
  have h := rowsL_set (v := v) hz z.r
  have e : zs.set j ⟨z.r, z.v⟩ = zs := by
    apply List.ext_getElem?
    intro i
    by_cases e : j = i
    · subst e; rw [List.getElem?_set_self (List.getElem?_eq_some_iff.1 hz).1, hz]
    · rw [List.getElem?_set_ne e]
  rw [e] at h
  exact h
theorem below_grown {B : Nat} {w w' : World} {v : Value} (hB : B ≤ w.heap.size) (hg : w.grownBy w' v.ownBlock) (hv : ∀ k, v.ownBlock = some k → B ≤ k) : Below B w w' :=
  (Below.refl B w).grown hg hB hv
set_option maxHeartbeats 4000000 in
/-- marking lists that are owned, beside other rows -/
theorem markL_sep (B : Nat) (l1 l2 : List OR) (v : Value) (ys : List LV) (k0 : Int) (w : World) (h : Sep w B (l1 ++ (rowsL v ys ++ l2))) (hk0 : 0 ≤ k0) (hk1 : k0 ≤ 30000000) (hl : ys.length ≤ 1048576) (hs : sumL (lists ys) ≤ 1048576) (hB : B ≤ w.heap.size) :
    Calls Tryz.prog 55 #[v, .int .i64 k0] w fun e w' => e = .returned (.int .i64 (k0 + (sumL (lists ys) : Int))) ∧ Below B w w' ∧ ∃ ys', lists ys' = markLs k0 (lists ys) ∧ Sep w' B (l1 ++ (rowsL v ys' ++ l2)) := by
  have hin : OwnL w B v ys := h.sub ((List.sublist_append_left (rowsL v ys) l2).trans (List.sublist_append_right l1 _))
  rcases hin.outer.2 with ⟨rfl, h0⟩ | ⟨g, cap, cur, rfl, hBg, hg, hn, hm, hsz, htk⟩
  · obtain rfl : ys = [] := List.eq_nil_of_length_eq_zero h0
    have HH := hid h
    clear h h0 hs hin
    go_enter Tryz.func55, Tryz.ntmps55
    go_wp2
    go_loopw [1, 5] (fun t1 t wr => t1 = .int .i64 k0 ∧ t = .int .i64 0 ∧ wr = w) (fun _ t _ => 0)
    case atStart => exact ⟨rfl, rfl, rfl⟩
    case round =>
      obtain ⟨rfl, rfl, rfl⟩ := hrel
      go_wp2
      go_ret
      exact ⟨ret_int (by simp [lists, sumL]), Below.refl _ _, [], rfl, HH.out⟩
  · have HS := hid hs
    clear hg hn hm hsz htk hs hin
    go_enter Tryz.func55, Tryz.ntmps55
    go_wp2
    go_loopw [1, 5] (fun t1 t5 wr => ∃ (j : Nat) (zs : List LV), t1 = .int .i64 (k0 + (sumL ((lists ys).take j) : Int)) ∧ t5 = .int .i64 j ∧ j ≤ ys.length ∧ Hid (zs.length = ys.length) ∧ Hid (Sep wr B (l1 ++ (rowsL (.slice (some ⟨g, 0, none⟩) ys.length cap) zs ++ l2))) ∧ Hid (zs.drop j = ys.drop j) ∧ Hid (Below B w wr) ∧ Hid (lists (zs.take j) = markLs k0 ((lists ys).take j))) (fun _ t5 _ => ys.length - (intOf t5).toNat)
    case atStart => exact ⟨0, ys, by simp [sumL], rfl, by omega, rfl, h, rfl, Below.refl _ _, rfl⟩
    case round =>
      obtain ⟨j, zs, rfl, rfl, hj, HZL, HO, HDR, HB, HTK⟩ := hrel
      clear h
      by_cases hlt : j < ys.length
      · obtain ⟨⟨t, tv⟩, hy⟩ : ∃ y, ys[j]? = some y := ⟨_, List.getElem?_eq_getElem hlt⟩
        have hz : zs[j]? = some ⟨t, tv⟩ := by
          have h1 := congrArg (·[0]?) HDR.out
          simpa [List.getElem?_drop, hy] using h1
        have hxs := lists_at hy
        have hsum := sumL_at hxs
        have hle := sumL_take (lists ys) (j + 1)
        simp only [] at hxs hsum
        have hSb := HS.out
        obtain ⟨S, hS, hS1⟩ : ∃ S : Nat, sumL ((lists ys).take j) = S ∧ S + t.length ≤ 1048576 := ⟨_, rfl, by omega⟩
        rw [hS] at hsum ⊢
        have hsp := HO.out
        rw [rowsL_split hz] at hsp
        have hsp2 : Sep wr B ((l1 ++ ⟨35, 1, .slice (some ⟨g, 0, none⟩) ys.length cap, zs.length, vals zs⟩ :: (zs.take j).map rowL) ++ ⟨3, 1, tv, t.length, ints t⟩ :: ((zs.drop (j + 1)).map rowL ++ l2)) := by
          simpa only [List.append_assoc, List.cons_append] using hsp
        have c0 : wr.cell? ⟨g, j, none⟩ = some tv := Sep.cell hsp2 (x := ⟨35, 1, .slice (some ⟨g, 0, none⟩) ys.length cap, zs.length, vals zs⟩) (by simp) rfl (show (vals zs)[j]? = some tv by simp [vals, hz])
        have i1 : wr.ownsRow B 3 1 tv t.length (ints t) := Sep.get hsp2 (x := ⟨3, 1, tv, t.length, ints t⟩) (by simp)
        obtain ⟨ta, tc, rfl⟩ := slice_of_owned i1
        have HZ := hid (And.intro hz hsum)
        have HYS := hid (And.intro hy hS)
        have HSP := hid hsp2
        have HI := hid i1
        clear i1 hz hy hxs hsum hle hS hSb hsp hsp2
        go_wp2_with fail
        refine (markI_any B _ t (k0 + (S : Int)) _ (by omega) (by omega) (by omega) HI.out).mono ?_
        rintro e w2 ⟨rfl, ho2, hg2⟩
        have hsp3 := HSP.out.turn _ (Below.refl _ _) hg2 ⟨3, 1, .slice ta t.length tc, (marks (k0 + (S : Int)) t.length).length, ints (marks (k0 + (S : Int)) t.length)⟩ (by show World.ownsRow _ _ _ _ _ _ _; rw [marks_length]; exact ho2) (fun k hk => .inl hk)
        have HO2 : Hid (Sep w2 B (l1 ++ (rowsL (.slice (some ⟨g, 0, none⟩) ys.length cap) (zs.set j ⟨marks (k0 + (S : Int)) t.length, .slice ta t.length tc⟩) ++ l2))) := by
          show Sep _ _ _
          rw [rowsL_set (z := ⟨t, .slice ta t.length tc⟩) HZ.out.1]
          simpa only [List.append_assoc, List.cons_append] using hsp3
        have HB2 : Hid (Below B w w2) := HB.out.grown hg2 (Nat.le_trans hB HB.out.size) (fun k hk => (HI.out.lt k hk).1)
        clear ho2 hg2 hsp3 HSP
        go_wp2
        go_roundw
        case rel =>
          have hjz := (List.getElem?_eq_some_iff.1 HZ.out.1).1
          refine ⟨j + 1, zs.set j ⟨marks (k0 + (S : Int)) t.length, .slice ta t.length tc⟩, ?_, by go_num, by omega, (by show _ = _; rw [List.length_set]; exact HZL.out), HO2, ?_, HB2, ?_⟩
          · rw [HZ.out.2]; congr 1; simp; omega
          · show _ = _
            rw [List.drop_set_of_lt (by omega)]
            have := congrArg (List.drop 1) HDR.out
            simpa using this
          · show _ = _
            have e1 : (lists ys).take (j + 1) = (lists ys).take j ++ [t] := by rw [List.take_add_one, lists_at HYS.out.1]; rfl
            rw [List.take_add_one, List.getElem?_set_self hjz, List.take_set_of_le (Nat.le_refl _), e1, markLs_snoc, HYS.out.2, ← HTK.out]
            simp [lists]
        case measure => simp [intOf]; omega
      · obtain rfl : j = ys.length := by omega
        have e1 : (lists ys).take ys.length = lists ys := List.take_of_length_le (by rw [lists_length]; exact Nat.le_refl _)
        have HE := hid e1
        clear e1
        go_wp2
        go_ret
        refine ⟨ret_int (by rw [HE.out]), HB.out, zs, ?_, HO.out⟩
        have h9 := HTK.out
        rw [HE.out, List.take_of_length_le (by have := HZL.out; omega)] at h9
        exact h9
theorem flatQ_turn {zs : List QV} {j : Nat} {z z' : QV} (hz : zs[j]? = some z) (h0 : z'.pv = z.pv) (h1 : z'.cv = z.cv) (h2 : z'.nv = z.nv) (h3 : z'.rv = z.rv) : flatQ (zs.set j z') = ((flatQ zs).set (j * 6 + 2) (.int .i64 z'.p.go)).set (j * 6 + 3) (.int .i64 z'.p.test) := by
  induction zs generalizing j with
  | nil => simp at hz
  | cons y r ih =>
    cases j with
    | zero =>
      simp at hz
      subst hz
      rw [List.set_cons_zero, flatQ_cons, flatQ_cons, h0, h1, h2, h3]
      rfl
    | succ j =>
      simp at hz
      have := ih hz
      rw [List.set_cons_succ, flatQ_cons, flatQ_cons, this, show (j + 1) * 6 + 2 = (j * 6 + 2) + 6 by omega, show (j + 1) * 6 + 3 = (j * 6 + 3) + 6 by omega]
      rfl
theorem rowsQ_set {v : Value} {zs : List QV} {j : Nat} {z' : QV} (hj : j < zs.length) : rowsQ v (zs.set j z') = ⟨51, 6, v, zs.length, flatQ (zs.set j z')⟩ :: ((zs.take j).flatMap rowsQ1 ++ (rowsQ1 z' ++ (zs.drop (j + 1)).flatMap rowsQ1)) := by
  have e : (zs.set j z').flatMap rowsQ1 = (zs.take j).flatMap rowsQ1 ++ (rowsQ1 z' ++ (zs.drop (j + 1)).flatMap rowsQ1) := by
    rw [List.set_eq_take_append_cons_drop, if_pos hj, List.flatMap_append, List.flatMap_cons]
  rw [rowsQ, List.length_set, e]
theorem rowsQ_split {v : Value} {zs : List QV} {j : Nat} {z : QV} (hz : zs[j]? = some z) : rowsQ v zs = ⟨51, 6, v, zs.length, flatQ zs⟩ :: ((zs.take j).flatMap rowsQ1 ++ (rowsQ1 z ++ (zs.drop (j + 1)).flatMap rowsQ1)) := by
  have hj := (List.getElem?_eq_some_iff.1 hz).1
  have e : zs.set j z = zs := by
    apply List.ext_getElem?
    intro i
    by_cases e : j = i
    · subst e; rw [List.getElem?_set_self hj, hz]
    · rw [List.getElem?_set_ne e]
  have h := rowsQ_set (v := v) (z' := z) hj
  rw [e] at h
  exact h
/-- the rows while one part is marked -/
def midQ (l1 L R : List OR) (v : Value) (n : Nat) (oc : List Value) (p c m : OR) (rv : Value) (ls : List LV) : List OR := l1 ++ ⟨51, 6, v, n, oc⟩ :: (L ++ p :: c :: m :: (rowsL rv ls ++ R))
section
variable {W W2 : World} {B : Nat} {l1 L R : List OR} {v : Value} {n : Nat} {oc : List Value} {p c m : OR} {rv : Value} {ls : List LV}
theorem midQ.out (h : Sep W B (midQ l1 L R v n oc p c m rv ls)) : W.ownsRow B 51 6 v n oc := Sep.get h (x := ⟨51, 6, v, n, oc⟩) (by simp [midQ])
theorem midQ.p1 (h : Sep W B (midQ l1 L R v n oc p c m rv ls)) : p.own W B := h.1 p (by simp [midQ])
theorem midQ.c1 (h : Sep W B (midQ l1 L R v n oc p c m rv ls)) : c.own W B := h.1 c (by simp [midQ])
theorem midQ.m1 (h : Sep W B (midQ l1 L R v n oc p c m rv ls)) : m.own W B := h.1 m (by simp [midQ])
theorem midQ.turnP (h : Sep W B (midQ l1 L R v n oc p c m rv ls)) (hg : W.grownBy W2 p.v.ownBlock) {p' : OR} (hv : p'.v = p.v) (ho : p'.own W2 B) : Sep W2 B (midQ l1 L R v n oc p' c m rv ls) := by
  have h2 : Sep W B ((l1 ++ ⟨51, 6, v, n, oc⟩ :: L) ++ p :: (c :: m :: (rowsL rv ls ++ R))) := by simpa only [midQ, List.append_assoc, List.cons_append] using h
  have h3 := h2.turn _ (Below.refl _ _) hg p' ho (fun k hk => .inl (by rw [← hv]; exact hk))
  simpa only [midQ, List.append_assoc, List.cons_append] using h3
theorem midQ.turnC (h : Sep W B (midQ l1 L R v n oc p c m rv ls)) (hg : W.grownBy W2 c.v.ownBlock) {c' : OR} (hv : c'.v = c.v) (ho : c'.own W2 B) : Sep W2 B (midQ l1 L R v n oc p c' m rv ls) := by
  have h2 : Sep W B ((l1 ++ ⟨51, 6, v, n, oc⟩ :: (L ++ [p])) ++ c :: (m :: (rowsL rv ls ++ R))) := by simpa only [midQ, List.append_assoc, List.cons_append, List.nil_append] using h
  have h3 := h2.turn _ (Below.refl _ _) hg c' ho (fun k hk => .inl (by rw [← hv]; exact hk))
  simpa only [midQ, List.append_assoc, List.cons_append, List.nil_append] using h3
theorem midQ.turnM (h : Sep W B (midQ l1 L R v n oc p c m rv ls)) (hg : W.grownBy W2 m.v.ownBlock) {m' : OR} (hv : m'.v = m.v) (ho : m'.own W2 B) : Sep W2 B (midQ l1 L R v n oc p c m' rv ls) := by
  have h2 : Sep W B ((l1 ++ ⟨51, 6, v, n, oc⟩ :: (L ++ [p, c])) ++ m :: (rowsL rv ls ++ R)) := by simpa only [midQ, List.append_assoc, List.cons_append, List.nil_append] using h
  have h3 := h2.turn _ (Below.refl _ _) hg m' ho (fun k hk => .inl (by rw [← hv]; exact hk))
  simpa only [midQ, List.append_assoc, List.cons_append, List.nil_append] using h3
theorem midQ.toL (h : Sep W B (midQ l1 L R v n oc p c m rv ls)) : Sep W B ((l1 ++ ⟨51, 6, v, n, oc⟩ :: (L ++ [p, c, m])) ++ (rowsL rv ls ++ R)) := by simpa only [midQ, List.append_assoc, List.cons_append, List.nil_append] using h
theorem midQ.ofL (h : Sep W B ((l1 ++ ⟨51, 6, v, n, oc⟩ :: (L ++ [p, c, m])) ++ (rowsL rv ls ++ R))) : Sep W B (midQ l1 L R v n oc p c m rv ls) := by simpa only [midQ, List.append_assoc, List.cons_append, List.nil_append] using h
end
theorem sumL_sizeP {xs : List Prt} {k : Nat} {x : Prt} (h : xs[k]? = some x) (hs : sumP xs ≤ 1048576) : x.params.length ≤ 1048576 ∧ x.code.length ≤ 1048576 ∧ x.next.length ≤ 1048576 ∧ x.args.length ≤ 1048576 ∧ sumL x.args ≤ 1048576 := by
  have := size_le_sumP h
  unfold sizeP at this
  omega
set_option maxHeartbeats 8000000 in
/-- marking parts that are owned, beside other rows -/
theorem markParts_sep (B : Nat) (l1 l2 : List OR) (v : Value) (ys : List QV) (w : World) (h : Sep w B (l1 ++ (rowsQ v ys ++ l2))) (hls : ∀ y ∈ ys, lists y.ls = y.p.args) (hl : ys.length ≤ 1048576) (hs : sumP (prts ys) ≤ 1048576) (hB : B ≤ w.heap.size) :
    Calls Tryz.prog 52 #[v, .int .i64 1] w fun e w' => ∃ k1 : Int, e = .returned (.int .i64 k1) ∧ 0 ≤ k1 ∧ Below B w w' ∧ ∃ ys', Sep w' B (l1 ++ (rowsQ v ys' ++ l2)) := by
  have hout : w.ownsRow B 51 6 v ys.length (flatQ ys) := Sep.get h (x := ⟨51, 6, v, ys.length, flatQ ys⟩) (by simp [rowsQ])
  rcases hout.2 with ⟨rfl, h0⟩ | ⟨g, cap, cur, rfl, hBg, hg, hn, hm, hsz, htk⟩
  · obtain rfl : ys = [] := List.eq_nil_of_length_eq_zero h0
    have HH := hid h
    clear h h0 hs hout hls
    go_enter Tryz.func52, Tryz.ntmps52
    go_wp2
    go_loopw [1, 5] (fun t1 t wr => t1 = .int .i64 1 ∧ t = .int .i64 0 ∧ wr = w) (fun _ t _ => 0)
    case atStart => exact ⟨rfl, rfl, rfl⟩
    case round =>
      obtain ⟨rfl, rfl, rfl⟩ := hrel
      go_wp2
      go_ret
      exact ⟨1, rfl, by omega, Below.refl _ _, [], HH.out⟩
  · have HS := hid hs
    have HLS := hid hls
    clear hg hn hm hsz htk hs hout hls
    go_enter Tryz.func52, Tryz.ntmps52
    go_wp2
    go_loopw [1, 5] (fun t1 t5 wr => ∃ (j : Nat) (zs : List QV) (K : Int), t1 = .int .i64 K ∧ t5 = .int .i64 j ∧ j ≤ ys.length ∧ Hid (1 ≤ K ∧ K ≤ 1 + 6 * (sumP ((prts ys).take j) : Int) + 2 * (j : Int)) ∧ Hid (zs.length = ys.length) ∧ Hid (Sep wr B (l1 ++ (rowsQ (.slice (some ⟨g, 0, none⟩) ys.length cap) zs ++ l2))) ∧ Hid (zs.drop j = ys.drop j) ∧ Hid (Below B w wr)) (fun _ t5 _ => ys.length - (intOf t5).toNat)
    case atStart => exact ⟨0, ys, 1, rfl, rfl, by omega, (by show _ ∧ _; simp [sumP]), rfl, h, rfl, Below.refl _ _⟩
    case round =>
      obtain ⟨j, zs, K, rfl, rfl, hj, HKB, HZL, HO, HDR, HB⟩ := hrel
      clear h
      by_cases hlt : j < ys.length
      · obtain ⟨⟨⟨ps, cs, go, test, ns, rs⟩, pv, cv, nv, rv, ls⟩, hy⟩ : ∃ y, ys[j]? = some y := ⟨_, List.getElem?_eq_getElem hlt⟩
        have hz : zs[j]? = some ⟨⟨ps, cs, go, test, ns, rs⟩, pv, cv, nv, rv, ls⟩ := by
          have h1 := congrArg (·[0]?) HDR.out
          simpa [List.getElem?_drop, hy] using h1
        have hzj := (List.getElem?_eq_some_iff.1 hz).1
        have hxs : (prts ys)[j]? = some ⟨ps, cs, go, test, ns, rs⟩ := by simp [prts, hy]
        have hrs : lists ls = rs := HLS.out _ (List.mem_of_getElem? hy)
        have hsum := sumP_at hxs
        have htk := sumP_take (prts ys) (j + 1)
        obtain ⟨b1, b2, b3, b4, b5⟩ := sumL_sizeP hxs HS.out
        simp only [] at b1 b2 b3 b4 b5
        have HSUM : Hid (sumP ((prts ys).take (j + 1)) = sumP ((prts ys).take j) + (ps.length + cs.length + ns.length + rs.length + sumL rs)) := hsum
        have hKb : 1 ≤ K ∧ K ≤ 9000000 := by have h1 := HKB.out; have h2 := HS.out; rw [hsum] at htk; omega
        obtain ⟨L, hL⟩ : ∃ L, (zs.take j).flatMap rowsQ1 = L := ⟨_, rfl⟩
        obtain ⟨R, hR⟩ : ∃ R, (zs.drop (j + 1)).flatMap rowsQ1 ++ l2 = R := ⟨_, rfl⟩
        obtain ⟨oc, hoc⟩ : ∃ oc, flatQ zs = oc := ⟨_, rfl⟩
        obtain ⟨f0, f1, f2, f3, f4, f5⟩ := flatQ_at zs j _ hz
        rw [hoc] at f0 f1 f2 f3 f4 f5
        simp only [] at f0 f1 f2 f3 f4 f5
        have hocl : oc.length = ys.length * 6 := by rw [← hoc, flatQ_length, HZL.out]
        have hsp : Sep wr B (midQ l1 L R (.slice (some ⟨g, 0, none⟩) ys.length cap) ys.length oc ⟨3, 1, pv, ps.length, ints ps⟩ ⟨64, 6, cv, cs.length, flatF cs⟩ ⟨3, 1, nv, ns.length, ints ns⟩ rv ls) := by
          have h1 := HO.out
          rw [rowsQ_split hz, hL, hoc, HZL.out] at h1
          simpa only [midQ, rowsQ1, ← hR, List.append_assoc, List.cons_append] using h1
        have HFIN : Hid (∀ (W : World) a1 a2 a3 a4 a5 ls', Sep W B (midQ l1 L R (.slice (some ⟨g, 0, none⟩) ys.length cap) ys.length ((oc.set (j * 6 + 2) (.int .i64 a3)).set (j * 6 + 3) (.int .i64 a4)) ⟨3, 1, pv, a1.length, ints a1⟩ ⟨64, 6, cv, a2.length, flatF a2⟩ ⟨3, 1, nv, a5.length, ints a5⟩ rv ls') → Sep W B (l1 ++ (rowsQ (.slice (some ⟨g, 0, none⟩) ys.length cap) (zs.set j ⟨⟨a1, a2, a3, a4, a5, rs⟩, pv, cv, nv, rv, ls'⟩) ++ l2))) := fun W a1 a2 a3 a4 a5 ls' h => by
          rw [rowsQ_set hzj, flatQ_turn (z' := ⟨⟨a1, a2, a3, a4, a5, rs⟩, pv, cv, nv, rv, ls'⟩) hz rfl rfl rfl rfl, hL, hoc, HZL.out]
          simpa only [midQ, rowsQ1, ← hR, List.append_assoc, List.cons_append] using h
        have HSP := hid hsp
        have g0 := rowT_at (midQ.out hsp) rfl f0
        obtain ⟨pa, pc, rfl⟩ := slice_of_owned (show wr.ownsRow B 3 1 pv ps.length (ints ps) from midQ.p1 hsp)
        obtain ⟨ca, cc, rfl⟩ := slice_of_owned (show wr.ownsRow B 64 6 cv cs.length (flatF cs) from midQ.c1 hsp)
        obtain ⟨na, nc, rfl⟩ := slice_of_owned (show wr.ownsRow B 3 1 nv ns.length (ints ns) from midQ.m1 hsp)
        obtain ⟨ra, rc, rfl⟩ := slice_of_owned (show wr.ownsRow B 35 1 rv ls.length (vals ls) from Sep.get (midQ.toL hsp) (x := ⟨35, 1, rv, ls.length, vals ls⟩) (by simp [rowsL]))
        have HF := hid (And.intro f1 (And.intro f2 (And.intro f3 (And.intro f4 f5))))
        have HB0 := hid (show B ≤ wr.heap.size from Nat.le_trans hB HB.out.size)
        have HRS := hid hrs
        have HHJ := hid (And.intro hy hzj)
        clear hz hzj hxs hrs hsum htk hL hR hoc hsp f0 f1 f2 f3 f4 f5 HO hy
        go_wp2_with fail
        refine (markI_any B _ ps K _ (by omega) (by omega) b1 (midQ.p1 HSP.out)).mono ?_
        rintro e w2 ⟨rfl, ho2, hg2⟩
        have HB2 := hid (HB.out.grown hg2 HB0.out (fun k hk => ((midQ.p1 HSP.out).lt k hk).1))
        have hz2 := hg2.size
        have HSP2 := hid (midQ.turnP HSP.out hg2 (p' := ⟨3, 1, .slice pa ps.length pc, (marks K ps.length).length, ints (marks K ps.length)⟩) rfl (by show World.ownsRow _ _ _ _ _ _ _; rw [marks_length]; exact ho2))
        have g1 := rowT_at (midQ.out HSP2.out) rfl HF.out.1
        obtain ⟨K1, hK1⟩ : ∃ K1 : Int, K + (ps.length : Int) = K1 := ⟨_, rfl⟩
        rw [hK1]
        have HK1 := hid hK1
        have hK1b : 1 ≤ K1 ∧ K1 ≤ 11000000 := by omega
        clear ho2 hg2 HSP g0 hK1
        go_wp2_with fail
        refine (markFlat_any B _ cs K1 _ (by omega) (by omega) b2 (midQ.c1 HSP2.out)).mono ?_
        rintro e w3 ⟨rfl, ho3, hg3⟩
        have hz3 := hg3.size
        have HB3 := hid (HB2.out.grown hg3 (by have := HB0.out; omega) (fun k hk => ((midQ.c1 HSP2.out).lt k hk).1))
        have HSP3 := hid (midQ.turnC HSP2.out hg3 (c' := ⟨64, 6, .slice ca cs.length cc, (markF K1 cs).length, flatF (markF K1 cs)⟩) rfl (by show World.ownsRow _ _ _ _ _ _ _; rw [markF_length]; exact ho3))
        have g2 := rowT_at (midQ.out HSP3.out) rfl HF.out.2.1
        have g3 := rowT_at (midQ.out HSP3.out) rfl HF.out.2.2.1
        have r2 := rowT_frz (midQ.out HSP3.out) rfl (j * 6 + 2)
        have r3 := rowT_frz (midQ.out HSP3.out) rfl (j * 6 + 3)
        have hgB := ((midQ.out HSP3.out).lt g rfl).1
        obtain ⟨K2, hK2⟩ : ∃ K2 : Int, K1 + 6 * (cs.length : Int) = K2 := ⟨_, rfl⟩
        rw [hK2]
        have HK2 := hid hK2
        have hK2b : 1 ≤ K2 ∧ K2 ≤ 20000000 := by omega
        have hst1 : Sep (w3.setCell ⟨g, j * 6 + 2, none⟩ (.int .i64 K2)) B (midQ l1 L R (.slice (some ⟨g, 0, none⟩) ys.length cap) ys.length (oc.set (j * 6 + 2) (.int .i64 K2)) _ _ _ _ ls) := Sep.store l1 HSP3.out (j * 6 + 2) (.int .i64 K2)
        have hst2 : Sep ((w3.setCell ⟨g, j * 6 + 2, none⟩ (.int .i64 K2)).setCell ⟨g, j * 6 + 3, none⟩ (.int .i64 (K2 + 1))) B (midQ l1 L R (.slice (some ⟨g, 0, none⟩) ys.length cap) ys.length ((oc.set (j * 6 + 2) (.int .i64 K2)).set (j * 6 + 3) (.int .i64 (K2 + 1))) _ _ _ _ ls) := Sep.store l1 hst1 (j * 6 + 3) (.int .i64 (K2 + 1))
        have HSP5 := hid hst2
        have HB5 := hid ((HB3.out.setCell (p := ⟨g, j * 6 + 2, none⟩) hgB (.int .i64 K2)).setCell (p := ⟨g, j * 6 + 3, none⟩) hgB (.int .i64 (K2 + 1)))
        have g4 := rowT_at (midQ.out hst2) rfl (show ((oc.set (j * 6 + 2) (.int .i64 K2)).set (j * 6 + 3) (.int .i64 (K2 + 1)))[j * 6 + 4]? = some (.slice na ns.length nc) by rw [List.getElem?_set_ne (by omega), List.getElem?_set_ne (by omega)]; exact HF.out.2.2.2.1)
        clear ho3 hg3 HSP2 HSP3 g1 hK2 hst1 hst2
        go_wp2_with fail
        refine (markI_any B _ ns (K2 + 1 + 1) _ (by omega) (by omega) b3 (midQ.m1 HSP5.out)).mono ?_
        rintro e w6 ⟨rfl, ho6, hg6⟩
        have hz6 := hg6.size
        have HB6 := hid (HB5.out.grown hg6 (by have := HB5.out.size; omega) (fun k hk => ((midQ.m1 HSP5.out).lt k hk).1))
        have HSP6 := hid (midQ.turnM HSP5.out hg6 (m' := ⟨3, 1, .slice na ns.length nc, (marks (K2 + 1 + 1) ns.length).length, ints (marks (K2 + 1 + 1) ns.length)⟩) rfl (by show World.ownsRow _ _ _ _ _ _ _; rw [marks_length]; exact ho6))
        have g5 := rowT_at (midQ.out HSP6.out) rfl (show ((oc.set (j * 6 + 2) (.int .i64 K2)).set (j * 6 + 3) (.int .i64 (K2 + 1)))[j * 6 + 5]? = some (.slice ra ls.length rc) by rw [List.getElem?_set_ne (by omega), List.getElem?_set_ne (by omega)]; exact HF.out.2.2.2.2)
        obtain ⟨K3, hK3⟩ : ∃ K3 : Int, K2 + 1 + 1 + (ns.length : Int) = K3 := ⟨_, rfl⟩
        rw [hK3]
        have HK3 := hid hK3
        have hK3b : 1 ≤ K3 ∧ K3 ≤ 30000000 := by omega
        clear ho6 hg6 HSP5 g4 g2 g3 r2 r3 hK3
        go_wp2_with fail
        refine (markL_sep B _ R _ ls K3 _ (midQ.toL HSP6.out) (by omega) (by omega) (by have := congrArg List.length HRS.out; rw [lists_length] at this; omega) (by rw [HRS.out]; exact b5) (by have := HB6.out.size; omega)).mono ?_
        rintro e w7 ⟨rfl, hb7, ls', _, hs7⟩
        have HSP7 := hid (HFIN.out _ _ _ _ _ _ _ (midQ.ofL hs7))
        have HB7 := hid (HB6.out.trans hb7)
        have hrsl : sumL (lists ls) = sumL rs := by rw [HRS.out]
        have HK4 : Hid (1 ≤ K3 + (sumL (lists ls) : Int) ∧ K3 + (sumL (lists ls) : Int) ≤ 1 + 6 * (sumP ((prts ys).take (j + 1)) : Int) + 2 * ((j + 1 : Nat) : Int)) := by
          have h1 := HKB.out; have h2 := HK1.out; have h3 := HK2.out; have h4 := HK3.out; have h5 := HSUM.out
          show _ ∧ _
          rw [hrsl]
          omega
        obtain ⟨K4, hK4⟩ : ∃ K4 : Int, K3 + (sumL (lists ls) : Int) = K4 := ⟨_, rfl⟩
        rw [hK4] at HK4 ⊢
        clear hb7 hs7 HSP6 g5 hrsl hK4
        go_wp2
        go_roundw
        case rel =>
          refine ⟨j + 1, _, K4, rfl, by go_num, by omega, HK4, ?_, HSP7, ?_, HB7⟩
          · show _ = _
            rw [List.length_set]; exact HZL.out
          · show _ = _
            rw [List.drop_set_of_lt (by omega)]
            have := congrArg (List.drop 1) HDR.out
            simpa using this
        case measure => simp [intOf]; omega
      · have HKZ := hid (show 0 ≤ K by have := HKB.out; omega)
        go_wp2
        go_ret
        exact ⟨K, rfl, HKZ.out, HB.out, zs, HO.out⟩
theorem markSsa_sep (B : Nat) (l1 l2 : List OR) (v : Value) (V : Int) (ys : List QV) (w : World) (h : Sep w B (l1 ++ (rowsQ v ys ++ l2))) (hls : ∀ y ∈ ys, lists y.ls = y.p.args) (hl : ys.length ≤ 1048576) (hs : sumP (prts ys) ≤ 1048576) (hB : B ≤ w.heap.size) :
    Calls Tryz.prog 21 #[.agg #[v, .int .i64 V], .int .i64 1] w fun e w' => ∃ k1 : Int, e = .returned (.int .i64 k1) ∧ 0 ≤ k1 ∧ Below B w w' ∧ ∃ ys', Sep w' B (l1 ++ (rowsQ v ys' ++ l2)) := by
  have hout : w.ownsRow B 51 6 v ys.length (flatQ ys) := Sep.get h (x := ⟨51, 6, v, ys.length, flatQ ys⟩) (by simp [rowsQ])
  obtain ⟨va, vc, rfl⟩ := slice_of_owned hout
  have b1 := below1 w (.cells #[.slice va ys.length vc, .int .i64 V] 30)
  have HM := hid (markParts_sep B l1 l2 _ ys (w.alloc (.cells #[.slice va ys.length vc, .int .i64 V] 30)) (h.below b1) hls hl hs (Nat.le_trans hB b1.size))
  have HB1 := hid (b1.mono hB)
  clear h hls hs hout b1
  go_enter Tryz.func21, Tryz.ntmps21
  go_wp2_with (go_at_call 52; refine HM.out.mono ?_; rintro e w1 ⟨k1, rfl, hk1, hb1, ys', hs1⟩)
  have HX := hid (And.intro hk1 (And.intro (HB1.out.trans hb1) hs1))
  clear hk1 hb1 hs1
  go_ret
  exact ⟨k1, rfl, HX.out.1, HX.out.2.1, ys', HX.out.2.2⟩
end Go.Proofs.YteihecnmnajahaaGreatDoor
