/- Marks on loops, and that they are found again. -/
import Derived.Test.YthcenlplfcbfjaaGreatLoopQ
import Derived.Test.YthcenlplfcbfjaaGreatSet7
namespace Go.Proofs.YthcenlplfcbfjaaGreat
open Go Go.RowKit
set_option linter.unusedVariables false
set_option linter.unusedSimpArgs false
set_option maxRecDepth 100000

/-- the marked loops -/
def markQ : Int → List Lop → List Lop
  | _, [] => []
  | k, x :: r => (k, k + 1 + x.2.2.length, marks (k + 1) x.2.2.length) :: markQ (k + 2 + x.2.2.length) r
theorem markQ_length (k : Int) (xs : List Lop) : (markQ k xs).length = xs.length := by
  induction xs generalizing k with
  | nil => rfl
  | cons x r ih => simp [markQ, ih]
theorem markQ_snoc (k : Int) (xs : List Lop) (x : Lop) : markQ k (xs ++ [x]) = markQ k xs ++ [(k + 2 * xs.length + sumQ xs, k + 2 * xs.length + sumQ xs + 1 + x.2.2.length, marks (k + 2 * xs.length + sumQ xs + 1) x.2.2.length)] := by
  induction xs generalizing k with
  | nil => simp [markQ, sumQ]
  | cons y r ih =>
    simp only [List.cons_append, markQ, ih]
    have e : k + 2 + (y.2.2.length : Int) + 2 * (r.length : Int) + (sumQ r : Int) = k + 2 * ((y :: r).length : Int) + (sumQ (y :: r) : Int) := by simp [sumQ]; omega
    rw [e]
theorem markQ_at (k : Int) (xs : List Lop) (j : Nat) (x : Lop) (h : xs[j]? = some x) : (markQ k xs)[j]? = some (k + 2 * j + sumQ (xs.take j), k + 2 * j + sumQ (xs.take j) + 1 + x.2.2.length, marks (k + 2 * j + sumQ (xs.take j) + 1) x.2.2.length) := by
  induction xs generalizing k j with
  | nil => simp at h
  | cons y r ih =>
    cases j with
    | zero => simp at h; subst h; simp [markQ, sumQ]
    | succ j =>
      simp at h
      have := ih (k + 2 + y.2.2.length) j h
      have e : k + 2 + (y.2.2.length : Int) + 2 * (j : Int) + (sumQ (r.take j) : Int) = k + 2 * ((j + 1 : Nat) : Int) + (sumQ ((y :: r).take (j + 1)) : Int) := by simp [sumQ]; omega
      rw [e] at this
      simpa [markQ] using this
theorem lops_at {ys : List QV} {j : Nat} {y : QV} (h : ys[j]? = some y) : (lops ys)[j]? = some y.1 := by simp [lops, h]
theorem splitQ {zs : List QV} {j : Nat} {z : QV} (h : zs[j]? = some z) : zs = zs.take j ++ z :: zs.drop (j + 1) := by
  obtain ⟨hj, rfl⟩ := List.getElem?_eq_some_iff.1 h
  rw [← List.drop_eq_getElem_cons hj, List.take_append_drop]
/-- a head is stored -/
def midQ (g n c : Nat) (zs : List QV) (cs : List Value) (j : Nat) (z : OR) : List OR := (⟨55, 3, .slice (some ⟨g, 0, none⟩) n c, n, cs⟩ :: (zs.take j).map rowQ) ++ z :: (zs.drop (j + 1)).map rowQ
theorem OwnQ.mid {w : World} {B g n c : Nat} {zs : List QV} (h : OwnQ w B (.slice (some ⟨g, 0, none⟩) n c) zs) (hn : zs.length = n) {j : Nat} {z : QV} (hz : zs[j]? = some z) (u : Value) : Sep (w.setCell ⟨g, j * 3, none⟩ u) B (midQ g n c zs ((cellsQ zs).set (j * 3) u) j (rowQ z)) := by
  subst hn
  have e : rowsQ (.slice (some ⟨g, 0, none⟩) zs.length c) zs = [] ++ ⟨55, 3, .slice (some ⟨g, 0, none⟩) zs.length c, zs.length, cellsQ zs⟩ :: ((zs.take j).map rowQ ++ rowQ z :: (zs.drop (j + 1)).map rowQ) := by
    conv => lhs; rw [rowsQ]
    conv => lhs; arg 2; rw [splitQ hz]
    simp
  unfold OwnQ at h
  rw [e] at h
  have := Sep.store [] h (j * 3) u
  simpa [midQ] using this
theorem OwnQ.unmid {w : World} {B g n c : Nat} {zs : List QV} {j : Nat} {z : QV} (hz : zs[j]? = some z) (hn : zs.length = n) (p m : Int) (t : List Int) (h : Sep w B (midQ g n c zs ((cellsQ zs).set (j * 3) (.int .i64 p)) j ⟨3, 1, z.2, t.length, ints t⟩)) : OwnQ (w.setCell ⟨g, j * 3 + 2, none⟩ (.int .i64 m)) B (.slice (some ⟨g, 0, none⟩) n c) (zs.set j ((p, m, t), z.2)) := by
  have hj := (List.getElem?_eq_some_iff.1 hz).1
  have h2 := Sep.store [] (l2 := (zs.take j).map rowQ ++ ⟨3, 1, z.2, t.length, ints t⟩ :: (zs.drop (j + 1)).map rowQ) (by simpa [midQ] using h) (j * 3 + 2) (.int .i64 m)
  have e : rowsQ (.slice (some ⟨g, 0, none⟩) n c) (zs.set j ((p, m, t), z.2)) = [] ++ ⟨55, 3, .slice (some ⟨g, 0, none⟩) n c, n, ((cellsQ zs).set (j * 3) (.int .i64 p)).set (j * 3 + 2) (.int .i64 m)⟩ :: ((zs.take j).map rowQ ++ ⟨3, 1, z.2, t.length, ints t⟩ :: (zs.drop (j + 1)).map rowQ) := by
    rw [rowsQ, List.length_set, hn, cellsQ_set (t := t) hz, List.set_eq_take_append_cons_drop (l := zs), if_pos hj]
    simp [rowQ]
  unfold OwnQ
  rw [e]
  exact h2
/-- the blocks of loops -/
def blocksQ (v : Value) (ys : List QV) (k : Nat) : Prop := ∃ x ∈ rowsQ v ys, x.v.ownBlock = some k
set_option maxHeartbeats 4000000 in
/-- marking loops that are owned: only their own blocks turn -/
theorem markLoopS_any (B : Nat) (v : Value) (ys : List QV) (w : World) (h : OwnQ w B v ys) (hl : ys.length ≤ 1000) (hs : sumQ (lops ys) ≤ 1000) :
    Calls Tryz.prog 12 #[v, .int .i64 1] w fun e w' => e = .returned (.int .i64 (1 + 2 * (ys.length : Int) + (sumQ (lops ys) : Int))) ∧ ∃ ys', OwnQ w' B v ys' ∧ lops ys' = markQ 1 (lops ys) ∧ Only (blocksQ v ys) w w' := by
  rcases h.outer.2 with ⟨rfl, h0⟩ | ⟨g, cap, cur, rfl, hB, hg, hn, hm, hsz, htk⟩
  · obtain rfl : ys = [] := List.eq_nil_of_length_eq_zero h0
    have HH := hid h
    clear h h0 hs
    go_enter Tryz.func12, Tryz.ntmps12
    go_wp2
    go_loopw [1, 5] (fun t1 t wr => t1 = .int .i64 1 ∧ t = .int .i64 0 ∧ wr = w) (fun _ t _ => 0)
    case atStart => exact ⟨rfl, rfl, rfl⟩
    case round =>
      obtain ⟨rfl, rfl, rfl⟩ := hrel
      go_wp2
      go_ret
      exact ⟨ret_int (by simp [lops, sumQ]), [], HH.out, rfl, Only.refl _ _⟩
  · have HS := hid hs
    clear hg hn hm hsz htk hs
    go_enter Tryz.func12, Tryz.ntmps12
    go_wp2
    go_loopw [1, 5] (fun t1 t5 wr => ∃ (j : Nat) (zs : List QV), t1 = .int .i64 (1 + 2 * (j : Int) + (sumQ ((lops ys).take j) : Int)) ∧ t5 = .int .i64 j ∧ j ≤ ys.length ∧ zs.length = ys.length ∧ OwnQ wr B (.slice (some ⟨g, 0, none⟩) ys.length cap) zs ∧ zs.map (·.2) = ys.map (·.2) ∧ lops (zs.take j) = markQ 1 ((lops ys).take j) ∧ zs.drop j = ys.drop j ∧ Only (blocksQ (.slice (some ⟨g, 0, none⟩) ys.length cap) ys) w wr) (fun _ t5 _ => ys.length - (intOf t5).toNat)
    case atStart => exact ⟨0, ys, by simp [sumQ], rfl, by omega, rfl, h, rfl, by simp [markQ, lops], rfl, Only.refl _ _⟩
    case round =>
      obtain ⟨j, zs, rfl, rfl, hj, hzl, hown, hsnd, htk, hdr, hon⟩ := hrel
      have HT := hid (And.intro htk (And.intro hdr (And.intro hzl (And.intro hsnd hon))))
      clear htk h hsnd hon
      by_cases hlt : j < ys.length
      · obtain ⟨⟨⟨p, n, t⟩, tv⟩, hy⟩ : ∃ y, ys[j]? = some y := ⟨_, List.getElem?_eq_getElem hlt⟩
        have hz : zs[j]? = some ((p, n, t), tv) := by
          have h1 := congrArg (·[0]?) hdr
          simpa [List.getElem?_drop, hy] using h1
        have hxs := lops_at hy
        have hsum := sumQ_at hxs
        have hle := sumQ_take (lops ys) (j + 1)
        simp only [] at hxs hsum
        have hSb := HS.out
        obtain ⟨S, hS, hS1⟩ : ∃ S : Nat, sumQ ((lops ys).take j) = S ∧ S + t.length ≤ 1000 := ⟨_, rfl, by omega⟩
        rw [hS] at hsum ⊢
        obtain ⟨f0, f1, f2⟩ := cellsQ_at zs j _ hz
        have c0 : wr.cell? ⟨g, j * 3, none⟩ = some (.int .i64 p) := rowT_at hown.outer rfl f0
        have c1 : wr.cell? ⟨g, j * 3 + 1, none⟩ = some tv := rowT_at hown.outer rfl f1
        have r0 := rowT_frz hown.outer rfl (j * 3)
        have hmid := hown.mid hzl hz (.int .i64 (1 + 2 * (j : Int) + S))
        have i1 := hmid.1 (rowQ ((p, n, t), tv)) (by simp [midQ])
        obtain ⟨ta, tc, hte⟩ := slice_of_owned i1
        simp only [rowQ] at hte
        subst hte
        have HZ := hid (And.intro hz (And.intro hy (And.intro hS hsum)))
        have HM := hid hmid
        clear hown i1 hz hy hxs hsum hle hdr hS hSb f0 f1 f2 hmid
        go_wp2_with fail
        refine (markI_any B _ t (1 + 2 * (j : Int) + S + 1) _ (by omega) (by omega) (by omega) (HM.out.1 (rowQ ((p, n, t), .slice ta t.length tc)) (by simp [midQ]))).mono ?_
        rintro e w2 ⟨rfl, ho2, hg2⟩
        have hM2 := HM.out.turn _ (Below.refl _ _) hg2 ⟨3, 1, .slice ta t.length tc, (marks (1 + 2 * (j : Int) + S + 1) t.length).length, ints (marks (1 + 2 * (j : Int) + S + 1) t.length)⟩ (by show World.ownsRow _ _ _ _ _ _ _; rw [marks_length]; exact ho2) (fun k hk => .inl hk)
        have hM3 : Sep w2 B (midQ g ys.length cap zs ((cellsQ zs).set (j * 3) (.int .i64 (1 + 2 * (j : Int) + S))) j ⟨3, 1, .slice ta t.length tc, (marks (1 + 2 * (j : Int) + S + 1) t.length).length, ints (marks (1 + 2 * (j : Int) + S + 1) t.length)⟩) := hM2
        have hcl : j * 3 + 2 < ((cellsQ zs).set (j * 3) (.int .i64 (1 + 2 * (j : Int) + S))).length := by rw [List.length_set, cellsQ_length]; omega
        obtain ⟨u2, c2⟩ : ∃ u, w2.cell? ⟨g, j * 3 + 2, none⟩ = some u := ⟨_, Sep.cell hM3 (x := ⟨55, 3, .slice (some ⟨g, 0, none⟩) ys.length cap, ys.length, (cellsQ zs).set (j * 3) (.int .i64 (1 + 2 * (j : Int) + S))⟩) (by simp [midQ]) rfl (List.getElem?_eq_getElem hcl)⟩
        have r2 := Sep.frozen hM3 (x := ⟨55, 3, .slice (some ⟨g, 0, none⟩) ys.length cap, ys.length, (cellsQ zs).set (j * 3) (.int .i64 (1 + 2 * (j : Int) + S))⟩) (by simp [midQ]) (g := g) rfl (j * 3 + 2)
        have HM3 := hid hM3
        have HG2 := hid hg2
        clear ho2 hg2 HM hM2 hM3 hcl
        go_wp2
        go_roundw
        case rel =>
          have hjz := (List.getElem?_eq_some_iff.1 HZ.out.1).1
          refine ⟨j + 1, zs.set j ((1 + 2 * (j : Int) + S, 1 + 2 * (j : Int) + S + 1 + (t.length : Int), marks (1 + 2 * (j : Int) + S + 1) t.length), .slice ta t.length tc), ?_, by go_num, by omega, by rw [List.length_set]; exact HT.out.2.2.1, ?_, ?_, ?_, ?_, ?_⟩
          · rw [HZ.out.2.2.2]; go_num
          · exact OwnQ.unmid (z := ((p, n, t), .slice ta t.length tc)) HZ.out.1 HT.out.2.2.1 (1 + 2 * (j : Int) + S) (1 + 2 * (j : Int) + S + 1 + (t.length : Int)) (marks (1 + 2 * (j : Int) + S + 1) t.length) HM3.out
          · rw [List.map_set, ← HT.out.2.2.2.1]
            apply List.ext_getElem?
            intro i
            rw [List.getElem?_set]
            split
            · rename_i he
              subst he
              rw [if_pos (by simpa using hjz), List.getElem?_map, HZ.out.1]
              rfl
            · rfl
          · have e1 : (lops ys).take (j + 1) = (lops ys).take j ++ [(p, n, t)] := by rw [List.take_add_one, lops_at HZ.out.2.1]; rfl
            rw [List.take_add_one, List.getElem?_set_self hjz, List.take_set_of_le (Nat.le_refl _), e1, markQ_snoc, HZ.out.2.2.1, ← HT.out.1]
            have : ((List.take j (lops ys)).length : Int) = j := by rw [List.length_take, lops_length]; omega
            rw [this]
            simp [lops]
          · rw [List.drop_set_of_lt (by omega)]
            have := congrArg (List.drop 1) HT.out.2.1
            simpa using this
          · have hon := HT.out.2.2.2.2
            have hb0 : blocksQ (.slice (some ⟨g, 0, none⟩) ys.length cap) ys g := ⟨_, List.mem_cons_self .., rfl⟩
            refine ((hon.trans (Only.setCell _ _ _ _) (fun i _ hi => by subst hi; exact hb0)).trans (Only.of_grown (P := blocksQ (.slice (some ⟨g, 0, none⟩) ys.length cap) ys) HG2.out (fun k hk => ⟨rowQ ((p, n, t), .slice ta t.length tc), List.mem_cons_of_mem _ (List.mem_map.2 ⟨_, List.mem_of_getElem? HZ.out.2.1, rfl⟩), hk⟩)) (fun _ _ hi => hi)).trans (Only.setCell _ _ _ _) (fun i _ hi => by subst hi; exact hb0)
        case measure => simp [intOf]; omega
      · obtain rfl : j = ys.length := by omega
        have e1 : (lops ys).take ys.length = lops ys := List.take_of_length_le (by rw [lops_length]; exact Nat.le_refl _)
        have e2 : zs.take ys.length = zs := List.take_of_length_le (by omega)
        have HE := hid (And.intro e1 e2)
        have HO := hid hown
        clear e1 e2 hown hdr hzl
        go_wp2
        go_ret
        refine ⟨ret_int (by rw [HE.out.1]), zs, HO.out, ?_, HT.out.2.2.2.2⟩
        have := HT.out.1
        rw [HE.out.1, HE.out.2] at this
        exact this
set_option maxHeartbeats 2000000 in
/-- asking for the marks of loops -/
theorem heldLoopS_any (a : Option Addr) (c : Nat) (xs : List Lop) (w : World) (hl : xs.length ≤ 1000) (hs : sumQ xs ≤ 1000) (h : QRow w a (markQ 1 xs)) :
    Calls Tryz.prog 13 #[.slice a xs.length c, .int .i64 1] w fun e w' => e = .returned (.int .i64 (1 + 2 * (xs.length : Int) + (sumQ xs : Int))) ∧ Below w.heap.size w w' := by
  have H := hid h
  have HS := hid hs
  clear h hs
  go_enter Tryz.func13, Tryz.ntmps13
  go_wp2
  go_loopw [1, 5] (fun t1 t5 wr => ∃ (j : Nat), t1 = .int .i64 (1 + 2 * (j : Int) + (sumQ (xs.take j) : Int)) ∧ t5 = .int .i64 j ∧ j ≤ xs.length ∧ Below w.heap.size w wr) (fun _ t5 _ => xs.length - (intOf t5).toNat)
  case atStart => exact ⟨0, by simp [sumQ], rfl, by omega, Below.refl _ _⟩
  case round =>
    obtain ⟨j, rfl, rfl, hj, hB⟩ := hrel
    by_cases hlt : j < xs.length
    · obtain ⟨b, off, rfl, hat⟩ := H.out.at (by intro e; have := congrArg List.length e; rw [markQ_length] at this; simp at this; subst this; simp at hlt)
      obtain ⟨p, n, t, ta, tc, c0, c1, c2, hbw, l1, HR, HX⟩ := hat wr hB j (by rw [markQ_length]; exact hlt)
      obtain ⟨x, hx⟩ : ∃ x, xs[j]? = some x := ⟨_, List.getElem?_eq_getElem hlt⟩
      have hsum := sumQ_at hx
      have hle := sumQ_take xs (j + 1)
      have hSb := HS.out
      obtain ⟨S, hS, hS1⟩ : ∃ S : Nat, sumQ (xs.take j) = S ∧ S + x.2.2.length ≤ 1000 := ⟨_, rfl, by omega⟩
      have he := HX.out
      rw [markQ_at 1 xs j x hx, hS] at he
      obtain ⟨rfl, he2⟩ := Prod.mk.inj (Option.some.inj he)
      obtain ⟨rfl, rfl⟩ := Prod.mk.inj he2
      rw [marks_length] at c1
      rw [hS] at hsum ⊢
      obtain ⟨L, hL, hL1⟩ : ∃ L : Nat, x.2.2.length = L ∧ S + L ≤ 1000 := ⟨_, rfl, hS1⟩
      rw [hL] at c1 c2 hsum HR
      have HR2 := hid (HR.out.below hB)
      have HQ := hid hsum
      clear hat HX hsum hle hSb he he2 l1 hx hS HR hS1 hL
      go_wp2_with fail
      refine (heldI_any ta tc L (1 + 2 * (j : Int) + (S : Int) + 1) _ (by omega) (by omega) (by omega) HR2.out).mono ?_
      rintro e w1 ⟨rfl, hw1⟩
      subst w1
      go_wp2
      go_roundw
      case rel => exact ⟨j + 1, by rw [HQ.out]; go_num, by go_num, by omega, hB⟩
      case measure => simp [intOf]; omega
    · obtain rfl : j = xs.length := by omega
      go_wp2
      go_ret
      exact ⟨ret_int (by simp), hB⟩
end Go.Proofs.YthcenlplfcbfjaaGreat
