/- The laws' marks in blocks: laying them, and asking for them. -/
import Derived.Test.YtjnlhffmahfekaaDoorMarkF
namespace Go.Proofs.YtjnlhffmahfekaaDoor
open Go.RowKit
set_option linter.unusedVariables false
set_option linter.unusedSimpArgs false
set_option maxRecDepth 100000

/-- how many marks the block takes -/
def mk1 (b : Blk) : Int := 6 * (b.code.length : Int) + 2 + (b.next.length : Int)
def mkAll (xs : List Blk) : Int := (xs.map mk1).sum
/-- the marked block -/
def markBlk (k : Int) (b : Blk) : Blk := ⟨markF k b.code, k + 6 * (b.code.length : Int), k + 6 * (b.code.length : Int) + 1, marks (k + 6 * (b.code.length : Int) + 2) b.next.length⟩
def markBl : Int → List Blk → List Blk
  | _, [] => []
  | k, x :: r => markBlk k x :: markBl (k + mk1 x) r
theorem markBl_length (k : Int) (xs : List Blk) : (markBl k xs).length = xs.length := by
  induction xs generalizing k with
  | nil => rfl
  | cons x r ih => simp [markBl, ih]
theorem markBl_snoc (k : Int) (xs : List Blk) (x : Blk) : markBl k (xs ++ [x]) = markBl k xs ++ [markBlk (k + mkAll xs) x] := by
  induction xs generalizing k with
  | nil => simp [markBl, mkAll]
  | cons y r ih =>
    simp only [List.cons_append, markBl, ih]
    have e : k + mk1 y + mkAll r = k + mkAll (y :: r) := by simp [mkAll]; omega
    rw [e]
theorem markBl_at (k : Int) (xs : List Blk) (j : Nat) (x : Blk) (h : xs[j]? = some x) : (markBl k xs)[j]? = some (markBlk (k + mkAll (xs.take j)) x) := by
  induction xs generalizing k j with
  | nil => simp at h
  | cons y r ih =>
    cases j with
    | zero => simp at h; subst h; simp [markBl, mkAll]
    | succ j =>
      simp at h
      have := ih (k + mk1 y) j h
      rw [markBl, List.getElem?_cons_succ, this]
      congr 2
      simp [mkAll]; omega
theorem mkAll_at {xs : List Blk} {k : Nat} {x : Blk} (h : xs[k]? = some x) : mkAll (xs.take (k + 1)) = mkAll (xs.take k) + mk1 x := by
  rw [List.take_add_one, h]; simp [mkAll]
theorem mk1_pos (b : Blk) : 2 ≤ mk1 b := by unfold mk1; omega
theorem mkAll_bound (xs : List Blk) : 0 ≤ mkAll xs ∧ mkAll xs ≤ 2 * (xs.length : Int) + 6 * (sumB xs : Int) := by
  induction xs with
  | nil => simp [mkAll, sumB]
  | cons x r ih => simp [mkAll, sumB, mk1] at ih ⊢; omega
theorem mkAll_take (xs : List Blk) (k : Nat) (h1 : xs.length ≤ 1048576) (h2 : sumB xs ≤ 1048576) : 0 ≤ mkAll (xs.take k) ∧ mkAll (xs.take k) ≤ 10000000 := by
  have h3 := mkAll_bound (xs.take k)
  have h4 := sumB_take xs k
  have h5 : (xs.take k).length ≤ xs.length := by rw [List.length_take]; omega
  omega

theorem flatB_put (zs : List BV) (j : Nat) (y : BV) (h : j < zs.length) : flatB (zs.set j y) = (flatB zs).take (j * 4) ++ cellsB y ++ (flatB zs).drop (j * 4 + 4) := by
  have ht : ∀ (zs : List BV) j, (flatB zs).take (j * 4) = flatB (zs.take j) := by
    intro zs
    induction zs with
    | nil => intro j; simp [flatB]
    | cons x r ih =>
      intro j
      cases j with
      | zero => simp [flatB]
      | succ j => rw [List.take_succ_cons, flatB_cons, flatB_cons, show (j + 1) * 4 = j * 4 + 4 by omega, ← ih j]; simp
  have hd : ∀ (zs : List BV) j, (flatB zs).drop (j * 4) = flatB (zs.drop j) := by
    intro zs
    induction zs with
    | nil => intro j; simp [flatB]
    | cons x r ih =>
      intro j
      cases j with
      | zero => simp
      | succ j => rw [List.drop_succ_cons, flatB_cons, show (j + 1) * 4 = j * 4 + 4 by omega, ← ih j]; simp
  rw [ht, show j * 4 + 4 = (j + 1) * 4 by omega, hd, List.set_eq_take_append_cons_drop, if_pos h, flatB_append]
  simp [flatB]
theorem flatB_same (zs : List BV) (j : Nat) (z y : BV) (hz : zs[j]? = some z) (hc : cellsB y = cellsB z) : flatB (zs.set j y) = flatB zs := by
  have hj := (List.getElem?_eq_some_iff.1 hz).1
  have h1 : zs.set j z = zs := by
    apply List.ext_getElem?
    intro i
    by_cases e : i = j
    · subst e; rw [List.getElem?_set_self hj, hz]
    · rw [List.getElem?_set_ne (fun h => e h.symm)]
  rw [flatB_put zs j y hj, hc, ← flatB_put zs j z hj, h1]
theorem split_at {zs : List BV} {j : Nat} {z : BV} (h : zs[j]? = some z) : zs = zs.take j ++ z :: zs.drop (j + 1) := by
  obtain ⟨hj, rfl⟩ := List.getElem?_eq_some_iff.1 h
  rw [← List.drop_eq_getElem_cons hj, List.take_append_drop]
/-- the flat steps of one block turn, all else stays -/
theorem OwnB.turnC {w w' : World} {B : Nat} {v : Value} {zs : List BV} (h : OwnB w B v zs) {j : Nat} {z : BV} (hz : zs[j]? = some z) (cs : List Flt) (hl : cs.length = z.b.code.length) (hg : w.grownBy w' z.c.ownBlock) (ho : w'.ownsRow B 73 6 z.c cs.length (flatF cs)) :
    OwnB w' B v (zs.set j ⟨⟨cs, z.b.go, z.b.test, z.b.next⟩, z.c, z.n⟩) := by
  have hj := (List.getElem?_eq_some_iff.1 hz).1
  have e0 : rowsB v zs = (⟨45, 4, v, zs.length, flatB zs⟩ :: (zs.take j).flatMap rowsOf) ++ ⟨73, 6, z.c, z.b.code.length, flatF z.b.code⟩ :: (⟨3, 1, z.n, z.b.next.length, ints z.b.next⟩ :: (zs.drop (j + 1)).flatMap rowsOf) := by
    conv => lhs; rw [rowsB]
    conv => lhs; arg 2; rw [split_at hz]
    simp [rowsOf]
  unfold OwnB at h ⊢
  rw [e0] at h
  have h2 := h.turn _ (Below.refl _ _) hg ⟨73, 6, z.c, cs.length, flatF cs⟩ ho (fun k hk => .inl hk)
  have e1 : rowsB v (zs.set j ⟨⟨cs, z.b.go, z.b.test, z.b.next⟩, z.c, z.n⟩) = (⟨45, 4, v, zs.length, flatB zs⟩ :: (zs.take j).flatMap rowsOf) ++ ⟨73, 6, z.c, cs.length, flatF cs⟩ :: (⟨3, 1, z.n, z.b.next.length, ints z.b.next⟩ :: (zs.drop (j + 1)).flatMap rowsOf) := by
    rw [rowsB, flatB_same zs j z ⟨⟨cs, z.b.go, z.b.test, z.b.next⟩, z.c, z.n⟩ hz rfl, List.length_set, List.set_eq_take_append_cons_drop, if_pos hj]
    simp [rowsOf]
  rw [e1]
  exact h2
/-- the Next of one block turn, all else stays -/
theorem OwnB.turnN {w w' : World} {B : Nat} {v : Value} {zs : List BV} (h : OwnB w B v zs) {j : Nat} {z : BV} (hz : zs[j]? = some z) (ns : List Int) (hl : ns.length = z.b.next.length) (hg : w.grownBy w' z.n.ownBlock) (ho : w'.ownsRow B 3 1 z.n ns.length (ints ns)) :
    OwnB w' B v (zs.set j ⟨⟨z.b.code, z.b.go, z.b.test, ns⟩, z.c, z.n⟩) := by
  have hj := (List.getElem?_eq_some_iff.1 hz).1
  have e0 : rowsB v zs = (⟨45, 4, v, zs.length, flatB zs⟩ :: ((zs.take j).flatMap rowsOf ++ [⟨73, 6, z.c, z.b.code.length, flatF z.b.code⟩])) ++ ⟨3, 1, z.n, z.b.next.length, ints z.b.next⟩ :: (zs.drop (j + 1)).flatMap rowsOf := by
    conv => lhs; rw [rowsB]
    conv => lhs; arg 2; rw [split_at hz]
    simp [rowsOf]
  unfold OwnB at h ⊢
  rw [e0] at h
  have h2 := h.turn _ (Below.refl _ _) hg ⟨3, 1, z.n, ns.length, ints ns⟩ ho (fun k hk => .inl hk)
  have e1 : rowsB v (zs.set j ⟨⟨z.b.code, z.b.go, z.b.test, ns⟩, z.c, z.n⟩) = (⟨45, 4, v, zs.length, flatB zs⟩ :: ((zs.take j).flatMap rowsOf ++ [⟨73, 6, z.c, z.b.code.length, flatF z.b.code⟩])) ++ ⟨3, 1, z.n, ns.length, ints ns⟩ :: (zs.drop (j + 1)).flatMap rowsOf := by
    rw [rowsB, flatB_same zs j z ⟨⟨z.b.code, z.b.go, z.b.test, ns⟩, z.c, z.n⟩ hz rfl, List.length_set, List.set_eq_take_append_cons_drop, if_pos hj]
    simp [rowsOf]
  rw [e1]
  exact h2
/-- Go and Test of one block turn, all else stays -/
theorem OwnB.turnG {w : World} {B g cap : Nat} {zs : List BV} (h : OwnB w B (.slice (some ⟨g, 0, none⟩) zs.length cap) zs) {j : Nat} {z : BV} (hz : zs[j]? = some z) (go test : Int) :
    OwnB ((w.setCell ⟨g, j * 4 + 1, none⟩ (.int .i64 go)).setCell ⟨g, j * 4 + 2, none⟩ (.int .i64 test)) B (.slice (some ⟨g, 0, none⟩) zs.length cap) (zs.set j ⟨⟨z.b.code, go, test, z.b.next⟩, z.c, z.n⟩) := by
  have hj := (List.getElem?_eq_some_iff.1 hz).1
  have hs : Sep w B ([] ++ ⟨45, 4, .slice (some ⟨g, 0, none⟩) zs.length cap, zs.length, flatB zs⟩ :: zs.flatMap rowsOf) := h
  have h1 := Sep.store [] hs (j * 4 + 1) (.int .i64 go)
  have h2 := Sep.store [] h1 (j * 4 + 2) (.int .i64 test)
  have e1 : flatB (zs.set j ⟨⟨z.b.code, go, test, z.b.next⟩, z.c, z.n⟩) = ((flatB zs).set (j * 4 + 1) (.int .i64 go)).set (j * 4 + 2) (.int .i64 test) := by
    have hlen := flatB_length zs
    obtain ⟨f0, f1, f2, f3⟩ := flatB_at zs j z hz
    rw [flatB_put zs j _ hj]
    apply List.ext_getElem?
    intro i
    simp only [cellsB]
    by_cases a1 : i < j * 4
    · rw [List.getElem?_append_left (by simp; omega), List.getElem?_append_left (by simp; omega), List.getElem?_take_of_lt a1, List.getElem?_set_ne (by omega), List.getElem?_set_ne (by omega)]
    · have hl1 : ((flatB zs).take (j * 4)).length = j * 4 := by rw [List.length_take]; omega
      by_cases a2 : i < j * 4 + 4
      · rw [List.getElem?_append_left (by simp [hl1]; omega), List.getElem?_append_right (by omega), hl1]
        obtain ⟨r, rfl⟩ : ∃ r, i = j * 4 + r := ⟨i - j * 4, by omega⟩
        have hr : r < 4 := by omega
        match r, hr with
        | 0, _ => rw [List.getElem?_set_ne (by omega), List.getElem?_set_ne (by omega), Nat.add_zero, f0]; simp
        | 1, _ => rw [List.getElem?_set_ne (by omega), List.getElem?_set_self (by omega)]; simp
        | 2, _ => rw [List.getElem?_set_self (by simp; omega)]; simp
        | 3, _ => rw [List.getElem?_set_ne (by omega), List.getElem?_set_ne (by omega), f3]; simp
      · rw [List.getElem?_append_right (by simp [hl1]; omega), List.getElem?_drop, List.getElem?_set_ne (by omega), List.getElem?_set_ne (by omega)]
        congr 1
        simp [hl1]; omega
  have e2 : (zs.set j ⟨⟨z.b.code, go, test, z.b.next⟩, z.c, z.n⟩).flatMap rowsOf = zs.flatMap rowsOf := by
    rw [List.set_eq_take_append_cons_drop, if_pos hj]
    conv => rhs; rw [split_at hz]
    simp [rowsOf]
  unfold OwnB rowsB
  rw [List.length_set, e1, e2]
  exact h2
/-- where the rows of blocks lie -/
def BlkIn (v : Value) (ys : List BV) (C : Nat) : Prop := (∀ k, v.ownBlock = some k → k < C) ∧ ∀ y ∈ ys, (∀ k, y.c.ownBlock = some k → k < C) ∧ (∀ k, y.n.ownBlock = some k → k < C)
theorem OwnB.in' {w : World} {B : Nat} {v : Value} {ys : List BV} (h : OwnB w B v ys) : BlkIn v ys w.heap.size := ⟨fun k hk => (h.outer.lt k hk).2, fun y hy => ⟨fun k hk => ((h.inner hy).1.lt k hk).2, fun k hk => ((h.inner hy).2.lt k hk).2⟩⟩
theorem set_map {zs : List BV} {ys : List BV} {j : Nat} {y : BV} {F : BV → Value} (hm : zs.map F = ys.map F) (hz : ∃ z, zs[j]? = some z ∧ F z = F y) : (zs.set j y).map F = ys.map F := by
  obtain ⟨z, hz, he⟩ := hz
  rw [← hm, List.map_set, ← he]
  apply List.ext_getElem?
  intro i
  by_cases e : i = j
  · subst e
    have := (List.getElem?_eq_some_iff.1 hz).1
    rw [List.getElem?_set_self (by simpa using this), List.getElem?_map, hz]; rfl
  · rw [List.getElem?_set_ne (fun h => e h.symm)]
theorem blks_at {ys : List BV} {j : Nat} {y : BV} (h : ys[j]? = some y) : (blks ys)[j]? = some y.b := by simp [blks, h]
theorem map_at {zs ys : List BV} {F : BV → Value} (hm : zs.map F = ys.map F) {j : Nat} {z : BV} (hz : zs[j]? = some z) : ∃ y ∈ ys, F z = F y := by
  have h1 := congrArg (·[j]?) hm
  simp only [List.getElem?_map, hz, Option.map_some] at h1
  cases hy : ys[j]? with
  | none => rw [hy] at h1; cases h1
  | some y => rw [hy] at h1; exact ⟨y, List.mem_of_getElem? hy, Option.some.inj h1⟩
set_option maxHeartbeats 4000000 in
/-- marking blocks that are owned -/
theorem markBlocks_any (B C : Nat) (v : Value) (ys : List BV) (w : World) (h : OwnB w B v ys) (hl : ys.length ≤ 1048576) (hs : sumB (blks ys) ≤ 1048576) (hC : BlkIn v ys C) :
    Calls Tryd.prog 10 #[v, .int .i64 1] w fun e w' => e = .returned (.int .i64 (1 + mkAll (blks ys))) ∧ ∃ ys', OwnB w' B v ys' ∧ blks ys' = markBl 1 (blks ys) ∧ ys'.map (·.c) = ys.map (·.c) ∧ ys'.map (·.n) = ys.map (·.n) ∧ Touch B C w w' := by
  rcases h.outer.2 with ⟨rfl, h0⟩ | ⟨g, cap, cur, rfl, hB, hg, hn, hm, hsz, htk⟩
  · obtain rfl : ys = [] := List.eq_nil_of_length_eq_zero h0
    have HH := hid h
    clear h h0 hC hs
    go_enter Tryd.func10, Tryd.ntmps10
    go_wp2
    go_loopw [1, 5] (fun t1 t wr => t1 = .int .i64 1 ∧ t = .int .i64 0 ∧ wr = w) (fun _ t _ => 0)
    case atStart => exact ⟨rfl, rfl, rfl⟩
    case round =>
      obtain ⟨rfl, rfl, rfl⟩ := hrel
      go_wp2
      go_ret
      exact ⟨ret_int (by simp [blks, mkAll]), [], HH.out, rfl, rfl, rfl, Touch.refl _ _ _⟩
  · have HC := hid hC
    have HS := hid hs
    have hgC : B ≤ g ∧ g < C := ⟨hB, hC.1 g rfl⟩
    clear hg hn hm hsz htk hC hs
    go_enter Tryd.func10, Tryd.ntmps10
    go_wp2
    go_loopw [1, 5] (fun t1 t5 wr => ∃ (j : Nat) (zs : List BV), t1 = .int .i64 (1 + mkAll ((blks ys).take j)) ∧ t5 = .int .i64 j ∧ j ≤ ys.length ∧ zs.length = ys.length ∧ OwnB wr B (.slice (some ⟨g, 0, none⟩) ys.length cap) zs ∧ zs.map (·.c) = ys.map (·.c) ∧ zs.map (·.n) = ys.map (·.n) ∧ blks (zs.take j) = markBl 1 ((blks ys).take j) ∧ zs.drop j = ys.drop j ∧ Touch B C w wr) (fun _ t5 _ => ys.length - (intOf t5).toNat)
    case atStart => exact ⟨0, ys, by simp [mkAll], rfl, by omega, rfl, h, rfl, rfl, by simp [markBl, blks], rfl, Touch.refl _ _ _⟩
    case round =>
      obtain ⟨j, zs, rfl, rfl, hj, hzl, hown, hmc, hmn, htk, hdr, hto⟩ := hrel
      have HT := hid (And.intro hmc (And.intro hmn (And.intro htk (And.intro hdr hzl))))
      clear htk h
      by_cases hlt : j < ys.length
      · obtain ⟨⟨⟨cs, go, test, ns⟩, vc, vn⟩, hy⟩ : ∃ y, ys[j]? = some y := ⟨_, List.getElem?_eq_getElem hlt⟩
        have hz : zs[j]? = some ⟨⟨cs, go, test, ns⟩, vc, vn⟩ := by
          have h1 := congrArg (·[0]?) hdr
          simpa [List.getElem?_drop, hy] using h1
        have hxs := blks_at hy
        have hsum := mkAll_at hxs
        have hbd := mkAll_take (blks ys) j (by rw [blks_length]; exact hl) HS.out
        have hlen := len_le_sumB hxs
        simp only [] at hlen hxs
        have hcl : cs.length ≤ 1048576 ∧ ns.length ≤ 1048576 := by have := HS.out; omega
        obtain ⟨S, hS, hS0, hS1⟩ : ∃ S : Int, 1 + mkAll ((blks ys).take j) = S ∧ 0 ≤ S ∧ S ≤ 10000001 := ⟨_, rfl, by omega, by omega⟩
        rw [hS]
        obtain ⟨f0, f1, f2, f3⟩ := flatB_at zs j _ hz
        have c0 := rowT_at hown.outer rfl f0
        simp only [] at c0
        obtain ⟨i1, i2⟩ := hown.inner (List.mem_of_getElem? hz)
        simp only [] at i1 i2
        obtain ⟨ca, cc, rfl⟩ := slice_of_owned i1
        obtain ⟨na, nc, rfl⟩ := slice_of_owned i2
        have HZ := hid (And.intro hz (And.intro hy (And.intro hS hsum)))
        have HO := hid hown
        have HI := hid i1
        have HTO := hid hto
        clear hown i1 i2 hz hy hxs hsum hbd hlen hmc hmn hdr hS f0 f1 f2 f3 hto
        go_wp2_with fail
        refine (markFlat_any B _ cs S _ hS0 (by omega) hcl.1 HI.out).mono ?_
        rintro e w2 ⟨rfl, ho2, hg2⟩
        have hown2 := HO.out.turnC HZ.out.1 (markF S cs) (markF_length S cs) hg2 (by rw [markF_length]; exact ho2)
        simp only [] at hown2
        have hto2 := HTO.out.trans (Touch.of_grown (B := B) (C := C) hg2 (fun k hk => ⟨(HI.out.lt k hk).1, (HC.out.2 _ (List.mem_of_getElem? HZ.out.2.1)).1 k hk⟩))
        have hz2 : (zs.set j ⟨⟨markF S cs, go, test, ns⟩, .slice ca cs.length cc, .slice na ns.length nc⟩)[j]? = some ⟨⟨markF S cs, go, test, ns⟩, .slice ca cs.length cc, .slice na ns.length nc⟩ := List.getElem?_set_self (List.getElem?_eq_some_iff.1 HZ.out.1).1
        obtain ⟨S2, hS2, hS20, hS21⟩ : ∃ S2 : Int, S + 6 * (cs.length : Int) = S2 ∧ 0 ≤ S2 ∧ S2 ≤ 20000001 := ⟨_, rfl, by omega, by omega⟩
        rw [hS2]
        obtain ⟨f0, f1, f2, f3⟩ := flatB_at _ j _ hz2
        simp only [] at f0 f1 f2 f3
        have c1 := rowT_at hown2.outer rfl f1
        have c2 := rowT_at hown2.outer rfl f2
        have c3 := rowT_at hown2.outer rfl f3
        have r1 := rowT_frz hown2.outer rfl (j * 4 + 1)
        have r2 := rowT_frz hown2.outer rfl (j * 4 + 2)
        have hown3 := OwnB.turnG (g := g) (cap := cap) (zs := zs.set j ⟨⟨markF S cs, go, test, ns⟩, .slice ca cs.length cc, .slice na ns.length nc⟩) (by rw [List.length_set, HT.out.2.2.2.2]; exact hown2) hz2 S2 (S2 + 1)
        rw [List.set_set] at hown3
        simp only [] at hown3
        have hz3 : (zs.set j ⟨⟨markF S cs, S2, S2 + 1, ns⟩, .slice ca cs.length cc, .slice na ns.length nc⟩)[j]? = some ⟨⟨markF S cs, S2, S2 + 1, ns⟩, .slice ca cs.length cc, .slice na ns.length nc⟩ := List.getElem?_set_self (List.getElem?_eq_some_iff.1 HZ.out.1).1
        rw [List.length_set, HT.out.2.2.2.2] at hown3
        have HO3 := hid hown3
        have HI3 := hid (hown3.inner (List.mem_of_getElem? hz3)).2
        have HZ3 := hid (And.intro hz3 hS2)
        have HT3 : Hid (Touch B C w ((w2.setCell ⟨g, j * 4 + 1, none⟩ (.int .i64 S2)).setCell ⟨g, j * 4 + 2, none⟩ (.int .i64 (S2 + 1)))) := by
          have ho := hown2.outer
          rw [List.length_set, HT.out.2.2.2.2] at ho
          have s1 := World.ownsRow.stored ho (j * 4 + 1) (.int .i64 S2)
          have s2 := World.ownsRow.stored s1.1 (j * 4 + 2) (.int .i64 (S2 + 1))
          exact (hto2.trans (Touch.of_grown s1.2 (fun k hk => by cases hk; exact hgC))).trans (Touch.of_grown s2.2 (fun k hk => by cases hk; exact hgC))
        clear ho2 hg2 hown2 hto2 hz2 f0 f1 f2 f3 hown3 hz3 hS2 HO HI HTO
        go_wp2_with fail
        refine (markI_any B _ ns (S2 + 1 + 1) _ (by omega) (by omega) hcl.2 HI3.out).mono ?_
        rintro e w3 ⟨rfl, ho3, hg3⟩
        have hown4 := HO3.out.turnN HZ3.out.1 (marks (S2 + 1 + 1) ns.length) (by simp [marks_length]) hg3 (by rw [marks_length]; exact ho3)
        rw [List.set_set] at hown4
        simp only [] at hown4
        have HO4 := hid hown4
        have HT4 := hid (HT3.out.trans (Touch.of_grown (B := B) (C := C) hg3 (fun k hk => ⟨(HI3.out.lt k hk).1, (HC.out.2 _ (List.mem_of_getElem? HZ.out.2.1)).2 k hk⟩)))
        clear ho3 hg3 hown4 HO3 HI3 HT3
        go_wp2
        go_roundw
        case rel =>
          have hjz := (List.getElem?_eq_some_iff.1 HZ.out.1).1
          refine ⟨j + 1, zs.set j ⟨⟨markF S cs, S2, S2 + 1, marks (S2 + 1 + 1) ns.length⟩, .slice ca cs.length cc, .slice na ns.length nc⟩, ?_, by go_num, by omega, by rw [List.length_set]; exact HT.out.2.2.2.2, HO4.out, ?_, ?_, ?_, ?_, HT4.out⟩
          · rw [HZ.out.2.2.2]
            congr 1
            have e1 := HZ.out.2.2.1
            have e2 := HZ3.out.2
            simp only [mk1]
            omega
          · exact set_map HT.out.1 ⟨_, HZ.out.1, rfl⟩
          · exact set_map HT.out.2.1 ⟨_, HZ.out.1, rfl⟩
          · have e1 : (blks ys).take (j + 1) = (blks ys).take j ++ [⟨cs, go, test, ns⟩] := by rw [List.take_add_one, blks_at HZ.out.2.1]; rfl
            rw [List.take_add_one, List.getElem?_set_self hjz, List.take_set_of_le (Nat.le_refl _), e1, markBl_snoc, HZ.out.2.2.1, ← HT.out.2.2.1]
            simp only [blks, List.map_append, Option.toList_some, List.map_cons, List.map_nil, markBlk]
            have e3 := HZ3.out.2
            rw [e3, show S2 + 1 + 1 = S2 + 2 by omega]
          · rw [List.drop_set_of_lt (by omega)]
            have := congrArg (List.drop 1) HT.out.2.2.2.1
            simpa using this
        case measure => simp [intOf]; omega
      · obtain rfl : j = ys.length := by omega
        have e1 : (blks ys).take ys.length = blks ys := List.take_of_length_le (by rw [blks_length]; exact Nat.le_refl _)
        have e2 : zs.take ys.length = zs := List.take_of_length_le (by omega)
        have HE := hid (And.intro e1 e2)
        have HO := hid hown
        clear e1 e2 hown hmc hmn hdr hzl
        go_wp2
        go_ret
        refine ⟨ret_int (by rw [HE.out.1]), zs, HO.out, ?_, HT.out.1, HT.out.2.1, hto⟩
        have := HT.out.2.2.1
        rw [HE.out.1, HE.out.2] at this
        exact this
end Go.Proofs.YtjnlhffmahfekaaDoor
