/- The laws' marks in blocks, beside rows that stay; asking for the marks. -/
import Derived.Test.YtbibcjhfiopgdaaDoorMarkB
namespace Go.Proofs.YtbibcjhfiopgdaaDoor
open Go.RowKit
set_option linter.unusedVariables false
set_option linter.unusedSimpArgs false
set_option maxRecDepth 100000

/-- blocks that are owned, beside rows that stay -/
def OwnQ (w : World) (B : Nat) (v : Value) (ys : List BV) (R : List OR) : Prop := Sep w B (rowsB v ys ++ R)
theorem OwnQ.plain {w : World} {B : Nat} {v : Value} {ys : List BV} {R : List OR} (h : OwnQ w B v ys R) : OwnB w B v ys := ⟨fun x hx => h.1 x (List.mem_append_left _ hx), (List.pairwise_append.1 h.2).1⟩
theorem OwnQ.below {w w' : World} {B : Nat} {v : Value} {ys : List BV} {R : List OR} (h : OwnQ w B v ys R) (hb : Below w.heap.size w w') : OwnQ w' B v ys R := Sep.below h hb
/-- the flat steps of one block turn, all else stays -/
theorem OwnQ.turnC {w w' : World} {B : Nat} {v : Value} {zs : List BV} {R : List OR} (h : OwnQ w B v zs R) {j : Nat} {z : BV} (hz : zs[j]? = some z) (cs : List Flt) (hl : cs.length = z.b.code.length) (hg : w.grownBy w' z.c.ownBlock) (ho : w'.ownsRow B 86 6 z.c cs.length (flatF cs)) :
    OwnQ w' B v (zs.set j ⟨⟨cs, z.b.go, z.b.test, z.b.next⟩, z.c, z.n⟩) R := by
  have hj := (List.getElem?_eq_some_iff.1 hz).1
  have e0 : rowsB v zs ++ R = (⟨60, 4, v, zs.length, flatB zs⟩ :: (zs.take j).flatMap rowsOf) ++ ⟨86, 6, z.c, z.b.code.length, flatF z.b.code⟩ :: (⟨3, 1, z.n, z.b.next.length, ints z.b.next⟩ :: ((zs.drop (j + 1)).flatMap rowsOf ++ R)) := by
    conv => lhs; arg 1; rw [rowsB]
    conv => lhs; arg 1; arg 2; rw [split_at hz]
    simp [rowsOf]
  unfold OwnQ at h ⊢
  rw [e0] at h
  have h2 := h.turn _ (Below.refl _ _) hg ⟨86, 6, z.c, cs.length, flatF cs⟩ ho (fun k hk => .inl hk)
  have e1 : rowsB v (zs.set j ⟨⟨cs, z.b.go, z.b.test, z.b.next⟩, z.c, z.n⟩) ++ R = (⟨60, 4, v, zs.length, flatB zs⟩ :: (zs.take j).flatMap rowsOf) ++ ⟨86, 6, z.c, cs.length, flatF cs⟩ :: (⟨3, 1, z.n, z.b.next.length, ints z.b.next⟩ :: ((zs.drop (j + 1)).flatMap rowsOf ++ R)) := by
    rw [rowsB, flatB_same zs j z ⟨⟨cs, z.b.go, z.b.test, z.b.next⟩, z.c, z.n⟩ hz rfl, List.length_set, List.set_eq_take_append_cons_drop, if_pos hj]
    simp [rowsOf]
  rw [e1]
  exact h2
/-- the Next of one block turn, all else stays -/
theorem OwnQ.turnN {w w' : World} {B : Nat} {v : Value} {zs : List BV} {R : List OR} (h : OwnQ w B v zs R) {j : Nat} {z : BV} (hz : zs[j]? = some z) (ns : List Int) (hl : ns.length = z.b.next.length) (hg : w.grownBy w' z.n.ownBlock) (ho : w'.ownsRow B 3 1 z.n ns.length (ints ns)) :
    OwnQ w' B v (zs.set j ⟨⟨z.b.code, z.b.go, z.b.test, ns⟩, z.c, z.n⟩) R := by
  have hj := (List.getElem?_eq_some_iff.1 hz).1
  have e0 : rowsB v zs ++ R = (⟨60, 4, v, zs.length, flatB zs⟩ :: ((zs.take j).flatMap rowsOf ++ [⟨86, 6, z.c, z.b.code.length, flatF z.b.code⟩])) ++ ⟨3, 1, z.n, z.b.next.length, ints z.b.next⟩ :: ((zs.drop (j + 1)).flatMap rowsOf ++ R) := by
    conv => lhs; arg 1; rw [rowsB]
    conv => lhs; arg 1; arg 2; rw [split_at hz]
    simp [rowsOf]
  unfold OwnQ at h ⊢
  rw [e0] at h
  have h2 := h.turn _ (Below.refl _ _) hg ⟨3, 1, z.n, ns.length, ints ns⟩ ho (fun k hk => .inl hk)
  have e1 : rowsB v (zs.set j ⟨⟨z.b.code, z.b.go, z.b.test, ns⟩, z.c, z.n⟩) ++ R = (⟨60, 4, v, zs.length, flatB zs⟩ :: ((zs.take j).flatMap rowsOf ++ [⟨86, 6, z.c, z.b.code.length, flatF z.b.code⟩])) ++ ⟨3, 1, z.n, ns.length, ints ns⟩ :: ((zs.drop (j + 1)).flatMap rowsOf ++ R) := by
    rw [rowsB, flatB_same zs j z ⟨⟨z.b.code, z.b.go, z.b.test, ns⟩, z.c, z.n⟩ hz rfl, List.length_set, List.set_eq_take_append_cons_drop, if_pos hj]
    simp [rowsOf]
  rw [e1]
  exact h2
/-- Go and Test of one block turn, all else stays -/
theorem OwnQ.turnG {w : World} {B g cap : Nat} {zs : List BV} {R : List OR} (h : OwnQ w B (.slice (some ⟨g, 0, none⟩) zs.length cap) zs R) {j : Nat} {z : BV} (hz : zs[j]? = some z) (go test : Int) :
    OwnQ ((w.setCell ⟨g, j * 4 + 1, none⟩ (.int .i64 go)).setCell ⟨g, j * 4 + 2, none⟩ (.int .i64 test)) B (.slice (some ⟨g, 0, none⟩) zs.length cap) (zs.set j ⟨⟨z.b.code, go, test, z.b.next⟩, z.c, z.n⟩) R := by
  have hj := (List.getElem?_eq_some_iff.1 hz).1
  have hs : Sep w B ([] ++ ⟨60, 4, .slice (some ⟨g, 0, none⟩) zs.length cap, zs.length, flatB zs⟩ :: (zs.flatMap rowsOf ++ R)) := h
  have h1 := Sep.store [] hs (j * 4 + 1) (.int .i64 go)
  have h2 := Sep.store [] h1 (j * 4 + 2) (.int .i64 test)
  have e1 : flatB (zs.set j ⟨⟨z.b.code, go, test, z.b.next⟩, z.c, z.n⟩) = ((flatB zs).set (j * 4 + 1) (.int .i64 go)).set (j * 4 + 2) (.int .i64 test) := by
    have hlen := flatB_length zs
    obtain ⟨f0, f1, f2, f3⟩ := flatB_at zs j z hz
    rw [flatB_put zs j _ hj]
    apply List.ext_getElem?
    intro i
    simp only [cellsB]
    by_cases a1 : i < j * 4
    · rw [List.getElem?_append_left (by simp; omega), List.getElem?_append_left (by simp; omega), List.getElem?_take_of_lt a1, List.getElem?_set_ne (by omega), List.getElem?_set_ne (by omega)]
    · have hl1 : ((flatB zs).take (j * 4)).length = j * 4 := by rw [List.length_take]; omega
      by_cases a2 : i < j * 4 + 4
      · rw [List.getElem?_append_left (by simp [hl1]; omega), List.getElem?_append_right (by omega), hl1]
        obtain ⟨r, rfl⟩ : ∃ r, i = j * 4 + r := ⟨i - j * 4, by omega⟩
        have hr : r < 4 := by omega
        match r, hr with
        | 0, _ => rw [List.getElem?_set_ne (by omega), List.getElem?_set_ne (by omega), Nat.add_zero, f0]; simp
        | 1, _ => rw [List.getElem?_set_ne (by omega), List.getElem?_set_self (by omega)]; simp
        | 2, _ => rw [List.getElem?_set_self (by simp; omega)]; simp
        | 3, _ => rw [List.getElem?_set_ne (by omega), List.getElem?_set_ne (by omega), f3]; simp
      · rw [List.getElem?_append_right (by simp [hl1]; omega), List.getElem?_drop, List.getElem?_set_ne (by omega), List.getElem?_set_ne (by omega)]
        congr 1
        simp [hl1]; omega
  have e2 : (zs.set j ⟨⟨z.b.code, go, test, z.b.next⟩, z.c, z.n⟩).flatMap rowsOf = zs.flatMap rowsOf := by
    rw [List.set_eq_take_append_cons_drop, if_pos hj]
    conv => rhs; rw [split_at hz]
    simp [rowsOf]
  unfold OwnQ rowsB
  rw [List.length_set, e1, e2]
  exact h2
set_option maxHeartbeats 4000000 in
/-- marking blocks that are owned -/
theorem markBlocksR_any (B C : Nat) (v : Value) (ys : List BV) (R : List OR) (w : World) (h : OwnQ w B v ys R) (hl : ys.length ≤ 1048576) (hs : sumB (blks ys) ≤ 1048576) (hC : BlkIn v ys C) :
    Calls Tryd.prog 19 #[v, .int .i64 1] w fun e w' => e = .returned (.int .i64 (1 + mkAll (blks ys))) ∧ ∃ ys', OwnQ w' B v ys' R ∧ blks ys' = markBl 1 (blks ys) ∧ ys'.map (·.c) = ys.map (·.c) ∧ ys'.map (·.n) = ys.map (·.n) ∧ Touch B C w w' := by
  rcases h.plain.outer.2 with ⟨rfl, h0⟩ | ⟨g, cap, cur, rfl, hB, hg, hn, hm, hsz, htk⟩
  · obtain rfl : ys = [] := List.eq_nil_of_length_eq_zero h0
    have HH := hid h
    clear h h0 hC hs
    go_enter Tryd.func19, Tryd.ntmps19
    go_wp2
    go_loopw [1, 5] (fun t1 t wr => t1 = .int .i64 1 ∧ t = .int .i64 0 ∧ wr = w) (fun _ t _ => 0)
    case atStart => exact ⟨rfl, rfl, rfl⟩
    case round =>
      obtain ⟨rfl, rfl, rfl⟩ := hrel
      go_wp2
      go_ret
      exact ⟨ret_int (by simp [blks, mkAll]), [], HH.out, rfl, rfl, rfl, Touch.refl _ _ _⟩
  · have HC := hid hC
    have HS := hid hs
    have hgC : B ≤ g ∧ g < C := ⟨hB, hC.1 g rfl⟩
    clear hg hn hm hsz htk hC hs
    go_enter Tryd.func19, Tryd.ntmps19
    go_wp2
    go_loopw [1, 5] (fun t1 t5 wr => ∃ (j : Nat) (zs : List BV), t1 = .int .i64 (1 + mkAll ((blks ys).take j)) ∧ t5 = .int .i64 j ∧ j ≤ ys.length ∧ zs.length = ys.length ∧ OwnQ wr B (.slice (some ⟨g, 0, none⟩) ys.length cap) zs R ∧ zs.map (·.c) = ys.map (·.c) ∧ zs.map (·.n) = ys.map (·.n) ∧ blks (zs.take j) = markBl 1 ((blks ys).take j) ∧ zs.drop j = ys.drop j ∧ Touch B C w wr) (fun _ t5 _ => ys.length - (intOf t5).toNat)
    case atStart => exact ⟨0, ys, by simp [mkAll], rfl, by omega, rfl, h, rfl, rfl, by simp [markBl, blks], rfl, Touch.refl _ _ _⟩
    case round =>
      obtain ⟨j, zs, rfl, rfl, hj, hzl, hown, hmc, hmn, htk, hdr, hto⟩ := hrel
      have HT := hid (And.intro hmc (And.intro hmn (And.intro htk (And.intro hdr hzl))))
      clear htk h
      by_cases hlt : j < ys.length
      · obtain ⟨⟨⟨cs, go, test, ns⟩, vc, vn⟩, hy⟩ : ∃ y, ys[j]? = some y := ⟨_, List.getElem?_eq_getElem hlt⟩
        have hz : zs[j]? = some ⟨⟨cs, go, test, ns⟩, vc, vn⟩ := by
          have h1 := congrArg (·[0]?) hdr
          simpa [List.getElem?_drop, hy] using h1
        have hxs := blks_at hy
        have hsum := mkAll_at hxs
        have hbd := mkAll_take (blks ys) j (by rw [blks_length]; exact hl) HS.out
        have hlen := len_le_sumB hxs
        simp only [] at hlen hxs
        have hcl : cs.length ≤ 1048576 ∧ ns.length ≤ 1048576 := by have := HS.out; omega
        obtain ⟨S, hS, hS0, hS1⟩ : ∃ S : Int, 1 + mkAll ((blks ys).take j) = S ∧ 0 ≤ S ∧ S ≤ 10000001 := ⟨_, rfl, by omega, by omega⟩
        rw [hS]
        obtain ⟨f0, f1, f2, f3⟩ := flatB_at zs j _ hz
        have c0 := rowT_at hown.plain.outer rfl f0
        simp only [] at c0
        obtain ⟨i1, i2⟩ := hown.plain.inner (List.mem_of_getElem? hz)
        simp only [] at i1 i2
        obtain ⟨ca, cc, rfl⟩ := slice_of_owned i1
        obtain ⟨na, nc, rfl⟩ := slice_of_owned i2
        have HZ := hid (And.intro hz (And.intro hy (And.intro hS hsum)))
        have HO := hid hown
        have HI := hid i1
        have HTO := hid hto
        clear hown i1 i2 hz hy hxs hsum hbd hlen hmc hmn hdr hS f0 f1 f2 f3 hto
        go_wp2_with fail
        refine (markFlat_any B _ cs S _ hS0 (by omega) hcl.1 HI.out).mono ?_
        rintro e w2 ⟨rfl, ho2, hg2⟩
        have hown2 := HO.out.turnC HZ.out.1 (markF S cs) (markF_length S cs) hg2 (by rw [markF_length]; exact ho2)
        simp only [] at hown2
        have hto2 := HTO.out.trans (Touch.of_grown (B := B) (C := C) hg2 (fun k hk => ⟨(HI.out.lt k hk).1, (HC.out.2 _ (List.mem_of_getElem? HZ.out.2.1)).1 k hk⟩))
        have hz2 : (zs.set j ⟨⟨markF S cs, go, test, ns⟩, .slice ca cs.length cc, .slice na ns.length nc⟩)[j]? = some ⟨⟨markF S cs, go, test, ns⟩, .slice ca cs.length cc, .slice na ns.length nc⟩ := List.getElem?_set_self (List.getElem?_eq_some_iff.1 HZ.out.1).1
        obtain ⟨S2, hS2, hS20, hS21⟩ : ∃ S2 : Int, S + 6 * (cs.length : Int) = S2 ∧ 0 ≤ S2 ∧ S2 ≤ 20000001 := ⟨_, rfl, by omega, by omega⟩
        rw [hS2]
        obtain ⟨f0, f1, f2, f3⟩ := flatB_at _ j _ hz2
        simp only [] at f0 f1 f2 f3
        have c1 := rowT_at hown2.plain.outer rfl f1
        have c2 := rowT_at hown2.plain.outer rfl f2
        have c3 := rowT_at hown2.plain.outer rfl f3
        have r1 := rowT_frz hown2.plain.outer rfl (j * 4 + 1)
        have r2 := rowT_frz hown2.plain.outer rfl (j * 4 + 2)
        have hown3 := OwnQ.turnG (g := g) (cap := cap) (zs := zs.set j ⟨⟨markF S cs, go, test, ns⟩, .slice ca cs.length cc, .slice na ns.length nc⟩) (by rw [List.length_set, HT.out.2.2.2.2]; exact hown2) hz2 S2 (S2 + 1)
        rw [List.set_set] at hown3
        simp only [] at hown3
        have hz3 : (zs.set j ⟨⟨markF S cs, S2, S2 + 1, ns⟩, .slice ca cs.length cc, .slice na ns.length nc⟩)[j]? = some ⟨⟨markF S cs, S2, S2 + 1, ns⟩, .slice ca cs.length cc, .slice na ns.length nc⟩ := List.getElem?_set_self (List.getElem?_eq_some_iff.1 HZ.out.1).1
        rw [List.length_set, HT.out.2.2.2.2] at hown3
        have HO3 := hid hown3
        have HI3 := hid (hown3.plain.inner (List.mem_of_getElem? hz3)).2
        have HZ3 := hid (And.intro hz3 hS2)
        have HT3 : Hid (Touch B C w ((w2.setCell ⟨g, j * 4 + 1, none⟩ (.int .i64 S2)).setCell ⟨g, j * 4 + 2, none⟩ (.int .i64 (S2 + 1)))) := by
          have ho := hown2.plain.outer
          rw [List.length_set, HT.out.2.2.2.2] at ho
          have s1 := World.ownsRow.stored ho (j * 4 + 1) (.int .i64 S2)
          have s2 := World.ownsRow.stored s1.1 (j * 4 + 2) (.int .i64 (S2 + 1))
          exact (hto2.trans (Touch.of_grown s1.2 (fun k hk => by cases hk; exact hgC))).trans (Touch.of_grown s2.2 (fun k hk => by cases hk; exact hgC))
        clear ho2 hg2 hown2 hto2 hz2 f0 f1 f2 f3 hown3 hz3 hS2 HO HI HTO
        go_wp2_with fail
        refine (markI_any B _ ns (S2 + 1 + 1) _ (by omega) (by omega) hcl.2 HI3.out).mono ?_
        rintro e w3 ⟨rfl, ho3, hg3⟩
        have hown4 := HO3.out.turnN HZ3.out.1 (marks (S2 + 1 + 1) ns.length) (by simp [marks_length]) hg3 (by rw [marks_length]; exact ho3)
        rw [List.set_set] at hown4
        simp only [] at hown4
        have HO4 := hid hown4
        have HT4 := hid (HT3.out.trans (Touch.of_grown (B := B) (C := C) hg3 (fun k hk => ⟨(HI3.out.lt k hk).1, (HC.out.2 _ (List.mem_of_getElem? HZ.out.2.1)).2 k hk⟩)))
        clear ho3 hg3 hown4 HO3 HI3 HT3
        go_wp2
        go_roundw
        case rel =>
          have hjz := (List.getElem?_eq_some_iff.1 HZ.out.1).1
          refine ⟨j + 1, zs.set j ⟨⟨markF S cs, S2, S2 + 1, marks (S2 + 1 + 1) ns.length⟩, .slice ca cs.length cc, .slice na ns.length nc⟩, ?_, by go_num, by omega, by rw [List.length_set]; exact HT.out.2.2.2.2, HO4.out, ?_, ?_, ?_, ?_, HT4.out⟩
          · rw [HZ.out.2.2.2]
            congr 1
            have e1 := HZ.out.2.2.1
            have e2 := HZ3.out.2
            simp only [mk1]
            omega
          · exact set_map HT.out.1 ⟨_, HZ.out.1, rfl⟩
          · exact set_map HT.out.2.1 ⟨_, HZ.out.1, rfl⟩
          · have e1 : (blks ys).take (j + 1) = (blks ys).take j ++ [⟨cs, go, test, ns⟩] := by rw [List.take_add_one, blks_at HZ.out.2.1]; rfl
            rw [List.take_add_one, List.getElem?_set_self hjz, List.take_set_of_le (Nat.le_refl _), e1, markBl_snoc, HZ.out.2.2.1, ← HT.out.2.2.1]
            simp only [blks, List.map_append, Option.toList_some, List.map_cons, List.map_nil, markBlk]
            have e3 := HZ3.out.2
            rw [e3, show S2 + 1 + 1 = S2 + 2 by omega]
          · rw [List.drop_set_of_lt (by omega)]
            have := congrArg (List.drop 1) HT.out.2.2.2.1
            simpa using this
        case measure => simp [intOf]; omega
      · obtain rfl : j = ys.length := by omega
        have e1 : (blks ys).take ys.length = blks ys := List.take_of_length_le (by rw [blks_length]; exact Nat.le_refl _)
        have e2 : zs.take ys.length = zs := List.take_of_length_le (by omega)
        have HE := hid (And.intro e1 e2)
        have HO := hid hown
        clear e1 e2 hown hmc hmn hdr hzl
        go_wp2
        go_ret
        refine ⟨ret_int (by rw [HE.out.1]), zs, HO.out, ?_, HT.out.1, HT.out.2.1, hto⟩
        have := HT.out.2.2.1
        rw [HE.out.1, HE.out.2] at this
        exact this
set_option maxHeartbeats 2000000 in
/-- asking for the marks of blocks -/
theorem heldBlocks_any (a : Option Addr) (c : Nat) (xs : List Blk) (w : World) (hl : xs.length ≤ 1048576) (hs : sumB xs ≤ 1048576) (h : BRow w a (markBl 1 xs)) :
    Calls Tryd.prog 29 #[.slice a xs.length c, .int .i64 1] w fun e w' => e = .returned (.int .i64 (1 + mkAll xs)) ∧ w' = w := by
  have H := hid h
  have HS := hid hs
  clear h hs
  go_enter Tryd.func29, Tryd.ntmps29
  go_wp2
  go_loop [1, 5] (fun t1 t5 => ∃ (j : Nat), t1 = .int .i64 (1 + mkAll (xs.take j)) ∧ t5 = .int .i64 j ∧ j ≤ xs.length) (fun _ t5 => xs.length - (intOf t5).toNat)
  case atStart => exact ⟨0, by simp [mkAll], rfl, by omega⟩
  case round =>
    obtain ⟨j, rfl, rfl, hj⟩ := hrel
    by_cases hlt : j < xs.length
    · obtain ⟨x, hx⟩ : ∃ x, xs[j]? = some x := ⟨_, List.getElem?_eq_getElem hlt⟩
      obtain ⟨b, off, rfl, hbw, hat⟩ := H.out.at (by intro e; have := congrArg List.length e; rw [markBl_length] at this; simp at this; subst this; simp at hlt)
      obtain ⟨cs, go, test, ns, ca, cc, na, nc, c0, c1, c2, c3, l1, l2, HR, HX⟩ := hat w (Below.refl _ _) j (by rw [markBl_length]; exact hlt)
      have hsum := mkAll_at hx
      have hbd := mkAll_take xs j hl HS.out
      have hlen := len_le_sumB hx
      have hSb := HS.out
      obtain ⟨S, hS, hS0, hS1⟩ : ∃ S : Int, 1 + mkAll (xs.take j) = S ∧ 0 ≤ S ∧ S ≤ 10000001 := ⟨_, rfl, by omega, by omega⟩
      have he := HX.out
      rw [markBl_at 1 xs j x hx, hS] at he
      have he := Option.some.inj he
      simp only [markBlk] at he
      injection he with e1 e2 e3 e4
      obtain ⟨S2, hS2, hS20, hS21⟩ : ∃ S2 : Int, S + 6 * (x.code.length : Int) = S2 ∧ 0 ≤ S2 ∧ S2 ≤ 20000001 := ⟨_, rfl, by omega, by omega⟩
      rw [hS2] at e2 e3 e4
      subst e1 e2 e3 e4
      rw [markF_length] at c0
      rw [marks_length] at c3
      have HH := hid (And.intro HR.out.1 HR.out.2)
      have HF1 := hid (heldFlat_any ca cc x.code S w hS0 (by omega) (by omega) HR.out.1)
      have HI1 := hid (heldI_any na nc x.next.length (S2 + 2) w (by omega) (by omega) (by omega) HR.out.2)
      have HQ := hid (And.intro hsum (And.intro hS hS2))
      rw [hS2] at HF1
      rw [hS]
      have e5 : S2 + 1 + 1 = S2 + 2 := by omega
      clear hat HX hsum hbd hlen hSb hx hS hS2 HR he l1 l2
      go_wp2_with fail
      refine HF1.out.mono ?_
      rintro e w1 ⟨rfl, hw1⟩
      subst w1
      go_wp2_with fail
      refine HI1.out.mono ?_
      rintro e w1 ⟨rfl, hw1⟩
      subst w1
      go_wp2
      go_round
      case rel =>
        refine ⟨j + 1, ?_, by go_num, by omega⟩
        have q1 := HQ.out
        rw [q1.1]
        congr 1
        simp only [mk1]
        omega
      case measure => simp [intOf]; omega
    · obtain rfl : j = xs.length := by omega
      go_wp2
      go_ret
      exact ⟨ret_int (by simp), rfl⟩
end Go.Proofs.YtbibcjhfiopgdaaDoor
