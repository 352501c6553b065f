/- What the laws' own helpers on flat steps and blocks do: measuring, copying and comparing. -/
import Derived.Test.YtjnlhffmahfekaaDoorFlow1
namespace Go.Proofs.YtjnlhffmahfekaaDoor
open Go.RowKit
set_option linter.unusedVariables false
set_option linter.unusedSimpArgs false
set_option maxRecDepth 100000

theorem szFlatS_any (a : Option Addr) (c n : Nat) (r : Int) (w : World) (hn : n ≤ 9223372036854775807) (h0 : 0 ≤ r) (h1 : r ≤ 1048576) :
    Calls Tryd.prog 27 #[.slice a n c, .int .i64 r] w fun e w' => e = .returned (.int .i64 (if r < n then -1 else r - n)) ∧ w' = w := by
  by_cases h : r < n
  · rw [if_pos h]
    go_enter Tryd.func27, Tryd.ntmps27
    go_wp2
    go_ret
    exact ⟨rfl, rfl⟩
  · rw [if_neg h]
    go_enter Tryd.func27, Tryd.ntmps27
    go_wp2
    go_ret
    exact ⟨rfl, rfl⟩
theorem szBlock_any (go test : Int) (ca na : Option Addr) (cc nc m k : Nat) (r : Int) (w : World) (hm : m ≤ 9223372036854775807) (hk : k ≤ 9223372036854775807) (h0 : 0 ≤ r) (h1 : r ≤ 1048576) :
    Calls Tryd.prog 13 #[.agg #[.slice ca m cc, .int .i64 go, .int .i64 test, .slice na k nc], .int .i64 r] w fun e w' => (∃ z : Int, e = .returned (.int .i64 z) ∧ (z = -1 ∨ (0 ≤ z ∧ z + m + k = r))) ∧ Below w.heap.size w w' := by
  have hz := fun w => szFlatS_any ca cc m r w hm h0 h1
  by_cases h : r < m
  · rw [if_pos h] at hz
    go_enter Tryd.func13, Tryd.ntmps13
    go_wp2_with (go_at_call 27; refine (hz _).mono ?_; rintro e w' ⟨rfl, rfl⟩)
    go_ret
    exact ⟨⟨_, rfl, .inl rfl⟩, (Below.refl _ _).alloc (Nat.le_refl _) _⟩
  · rw [if_neg h] at hz
    obtain ⟨r2, hr2, h20, h21⟩ : ∃ r2 : Int, r - (m : Int) = r2 ∧ 0 ≤ r2 ∧ r2 ≤ 1048576 := ⟨_, rfl, by omega, by omega⟩
    rw [hr2] at hz
    have hy := fun w => szIntS_any na nc k r2 w hk h20 h21
    by_cases h' : r2 < k
    · rw [if_pos h'] at hy
      clear hr2
      go_enter Tryd.func13, Tryd.ntmps13
      go_wp2_with (first | (go_at_call 27; refine (hz _).mono ?_; rintro e w' ⟨rfl, rfl⟩) | (go_at_call 28; refine (hy _).mono ?_; rintro e w' ⟨rfl, rfl⟩))
      go_ret
      exact ⟨⟨_, rfl, .inl rfl⟩, (Below.refl _ _).alloc (Nat.le_refl _) _⟩
    · rw [if_neg h'] at hy
      obtain ⟨r3, hr3, h30⟩ : ∃ r3 : Int, r2 - (k : Int) = r3 ∧ 0 ≤ r3 := ⟨_, rfl, by omega⟩
      rw [hr3] at hy
      have HR : Hid (r3 + m + k = r) := by show _ = _; omega
      clear hr2 hr3
      go_enter Tryd.func13, Tryd.ntmps13
      go_wp2_with (first | (go_at_call 27; refine (hz _).mono ?_; rintro e w' ⟨rfl, rfl⟩) | (go_at_call 28; refine (hy _).mono ?_; rintro e w' ⟨rfl, rfl⟩))
      go_ret
      exact ⟨⟨_, rfl, .inr ⟨h30, HR.out⟩⟩, (Below.refl _ _).alloc (Nat.le_refl _) _⟩
/-- how many flat steps and Next there are together -/
def sumB (xs : List Blk) : Nat := (xs.map fun x => x.code.length + x.next.length).sum
theorem sumB_at {xs : List Blk} {k : Nat} {x : Blk} (h : xs[k]? = some x) : sumB (xs.take (k + 1)) = sumB (xs.take k) + x.code.length + x.next.length := by
  rw [List.take_add_one, h]; simp [sumB]; omega
theorem sumB_take (xs : List Blk) (k : Nat) : sumB (xs.take k) ≤ sumB xs := by
  have e : sumB xs = sumB (xs.take k) + sumB (xs.drop k) := by
    conv => lhs; rw [← List.take_append_drop k xs]
    unfold sumB; rw [List.map_append, List.sum_append]
  omega
theorem len_le_sumB {xs : List Blk} {k : Nat} {x : Blk} (h : xs[k]? = some x) : x.code.length + x.next.length ≤ sumB xs := by
  have h1 := sumB_at h
  have h2 := sumB_take xs (k + 1)
  omega

/-- the laws' measure of blocks: told, or too great -/
theorem szBlocks_any (a : Option Addr) (c : Nat) (xs : List Blk) (w : World) (hl : xs.length ≤ 9223372036854775807) (h : BRow w a xs) :
    Calls Tryd.prog 4 #[.slice a xs.length c, .int .i64 1048576] w fun e w' => (∃ r, e = .returned (.int .i64 r) ∧ r ≤ 1048576 ∧ (r < 0 ∨ (xs.length ≤ 1048576 ∧ sumB xs ≤ 1048576))) ∧ Below w.heap.size w w' := by
  by_cases h20 : xs.length ≤ 1048576
  · by_cases hx : xs = []
    · subst hx
      clear h
      go_enter Tryd.func4, Tryd.ntmps4
      go_wp2
      go_loopw [1, 5] (fun t1 t wr => t1 = .int .i64 1048576 ∧ t = .int .i64 0 ∧ wr = w) (fun _ t _ => 0)
      case atStart => exact ⟨rfl, rfl, rfl⟩
      case round =>
        obtain ⟨rfl, rfl, rfl⟩ := hrel
        go_wp2
        go_ret
        exact ⟨⟨_, rfl, by decide, .inr (by simp [sumB])⟩, Below.refl _ _⟩
    · obtain ⟨b, off, rfl, hbw, hat⟩ := h.at hx
      have HA := hid hat
      clear hat hx h
      go_enter Tryd.func4, Tryd.ntmps4
      go_wp2
      go_loopw [1, 5] (fun t1 t wr => ∃ (r : Int) (k : Nat), t1 = .int .i64 r ∧ t = .int .i64 k ∧ 0 ≤ r ∧ r + sumB (xs.take k) ≤ 1048576 ∧ k ≤ xs.length ∧ Below w.heap.size w wr) (fun _ t _ => xs.length - (intOf t).toNat)
      case atStart => exact ⟨_, 0, rfl, rfl, by omega, by simp [sumB]; omega, by omega, Below.refl _ _⟩
      case round =>
        obtain ⟨r, k, rfl, rfl, hr0, hr1, hk, hB⟩ := hrel
        by_cases hlt : k < xs.length
        · obtain ⟨cs, go, test, ns, ca, cc, na, nc, c0, c1, c2, c3, l1, l2, HR, HX⟩ := HA.out wr hB k hlt
          have HZ := hid (fun w => szBlock_any go test ca na cc nc cs.length ns.length r w l1 l2 hr0 (by omega))
          have HS := sumB_at HX.out
          simp only [] at HS
          have HN : Hid (∀ z : Int, z + cs.length + ns.length = r → z + sumB (xs.take (k + 1)) ≤ 1048576) := by intro z hz; omega
          clear HS hr1
          go_wp2_with fail
          refine (HZ.out _).mono ?_
          rintro e w1 ⟨⟨z, rfl, hz⟩, hb1⟩
          by_cases hz0 : z = -1
          · subst hz0
            clear hz
            go_wp2
            go_ret
            exact ⟨⟨_, rfl, by decide, .inl (by decide)⟩, bstep' hB hb1⟩
          · obtain ⟨hz1, hz2⟩ := hz.resolve_left hz0
            have HZ2 := hid hz2
            clear hz hz0 hz2
            go_wp2
            go_roundw
            case rel => exact ⟨z, k + 1, rfl, by go_num, hz1, HN.out z HZ2.out, by omega, bstep' hB hb1⟩
            case measure => simp [intOf]; omega
        · obtain rfl : k = xs.length := by omega
          rw [List.take_of_length_le (Nat.le_refl _)] at hr1
          have HN : Hid (sumB xs ≤ 1048576 ∧ r ≤ 1048576) := by show _ ∧ _; omega
          clear hr1
          go_wp2
          go_ret
          exact ⟨⟨_, rfl, HN.out.2, .inr ⟨h20, HN.out.1⟩⟩, hB⟩
  · clear h
    go_enter Tryd.func4, Tryd.ntmps4
    go_wp2
    go_ret
    exact ⟨⟨_, rfl, by decide, .inl (by decide)⟩, Below.refl _ _⟩

set_option maxHeartbeats 1000000 in
theorem toFlat_any (p d t x y n : Int) (w : World) :
    Calls Tryd.prog 48 #[.agg #[.int .i64 p, .int .i64 d, .int .i64 t, .int .i64 x, .int .i64 y, .int .i64 n]] w fun e w' => e = .returned (.agg #[.int .i64 p, .int .i64 d, .int .i64 t, .int .i64 x, .int .i64 y, .int .i64 n]) ∧ Below w.heap.size w w' := by
  go_enter Tryd.func48, Tryd.ntmps48
  go_wp2
  refine bodyPost_ret (v := .agg #[.int .i64 p, .int .i64 d, .int .i64 t, .int .i64 x, .int .i64 y, .int .i64 n]) (by simp [results, Tryd.results48, go_sem, *]) rfl ⟨rfl, ?_⟩
  exact below3 w _ _ _

theorem info86 : (Tryd.prog.info? 73).map (fun i => (i.zero, i.size, i.bytes)) = some (some (.agg #[.int .i64 0, .int .i64 0, .int .i64 0, .int .i64 0, .int .i64 0, .int .i64 0]), 6, 48) := by kernel_rfl
set_option maxHeartbeats 2000000 in
/-- the laws' copy of a slice of flat steps -/
theorem toFlatS_any (a : Option Addr) (c : Nat) (xs : List Flt) (w : World) (hl : xs.length ≤ 1048576) (h : FRow w a xs) :
    Calls Tryd.prog 32 #[.slice a xs.length c] w fun e w' => ∃ va vc, e = .returned (.slice va xs.length vc) ∧ w'.ownsRow w.heap.size 73 6 (.slice va xs.length vc) xs.length (flatF xs) ∧ Below w.heap.size w w' := by
  obtain ⟨i0, hi, hz0, hz1, hz2⟩ := info_parts info86
  by_cases hx : xs = []
  · subst hx
    clear h
    go_enter Tryd.func32, Tryd.ntmps32
    go_wp2_with (at_make; refine wpList_make_full _ rfl _ _ 43 rfl w.heap.size 73 i0 (.agg #[.int .i64 0, .int .i64 0, .int .i64 0, .int .i64 0, .int .i64 0, .int .i64 0]) 6 Tryd.underlying43 hi hz0 hz1 .i64 .i64 _ _ 0 rfl rfl rfl rfl ?c1 ?c2 ?c3 ?_)
    case c1 => omega
    case c2 => unfold maxLen; omega
    case c3 => omega
    intro w1 hown0 hgrow0
    have hB0 : Below w.heap.size w w1 := (Below.refl _ w).grown hgrow0 (Nat.le_refl _) (fun k hk => by cases hk)
    go_wp2
    go_loopw [4] (fun t wr => t = .int .i64 0 ∧ wr = w1) (fun t _ => 0)
    case atStart => exact ⟨rfl, rfl⟩
    case round =>
      obtain ⟨rfl, rfl⟩ := hrel
      go_wp2
      go_ret
      refine ⟨_, _, rfl, ?_, hB0⟩
      simpa [flatF, madeCells] using hown0
  · obtain ⟨b, off, rfl, hbw, hat⟩ := h.at hx
    have HA := hid hat
    clear hat hx h
    go_enter Tryd.func32, Tryd.ntmps32
    go_wp2_with (at_make; refine wpList_make_full _ rfl _ _ 43 rfl w.heap.size 73 i0 (.agg #[.int .i64 0, .int .i64 0, .int .i64 0, .int .i64 0, .int .i64 0, .int .i64 0]) 6 Tryd.underlying43 hi hz0 hz1 .i64 .i64 _ _ xs.length rfl rfl rfl rfl ?c1 ?c2 ?c3 ?_)
    case c1 => rw [hz2]; omega
    case c2 => unfold maxLen; omega
    case c3 => omega
    intro w1 hown0 hgrow0
    have hB0 : Below w.heap.size w w1 := (Below.refl _ w).grown hgrow0 (Nat.le_refl _) (fun k hk => by cases hk)
    go_wp2
    go_loopw [4] (fun t wr => ∃ (j : Nat) (cells : List Value), t = .int .i64 j ∧ j ≤ xs.length ∧ wr.ownsRow w.heap.size 73 6 (.slice (some ⟨w.heap.size, 0, none⟩) xs.length xs.length) xs.length cells ∧ cells.take (j * 6) = flatF (xs.take j) ∧ Below w.heap.size w wr) (fun t _ => xs.length - (intOf t).toNat)
    case atStart => exact ⟨0, _, rfl, by omega, hown0, by simp [flatF], hB0⟩
    case round =>
      obtain ⟨j, cells, rfl, hj, hown, htk, hB⟩ := hrel
      have HT := hid htk
      clear hown0 hgrow0 hB0 htk
      by_cases hlt : j < xs.length
      · obtain ⟨p, d, t, x, y, n, c0, c1, c2, c3, c4, c5, HX⟩ := HA.out wr hB j hlt
        go_wp2_with fail
        refine (toFlat_any p d t x y n _).mono ?_
        rintro e w2 ⟨rfl, hb2⟩
        have hown2 := owns_below hown hb2
        have hB2 := bstep' hB hb2
        have hlen : cells.length = xs.length * 6 := hown.1
        obtain ⟨u0, hu0⟩ : ∃ u, w2.cell? ⟨w.heap.size, j * 6, none⟩ = some u := by rw [hown2.cellAt (j * 6) (by omega)]; exact ⟨_, List.getElem?_eq_getElem (by omega)⟩
        obtain ⟨u1, hu1⟩ : ∃ u, w2.cell? ⟨w.heap.size, j * 6 + 1, none⟩ = some u := by rw [hown2.cellAt (j * 6 + 1) (by omega)]; exact ⟨_, List.getElem?_eq_getElem (by omega)⟩
        obtain ⟨u2, hu2⟩ : ∃ u, w2.cell? ⟨w.heap.size, j * 6 + 2, none⟩ = some u := by rw [hown2.cellAt (j * 6 + 2) (by omega)]; exact ⟨_, List.getElem?_eq_getElem (by omega)⟩
        obtain ⟨u3, hu3⟩ : ∃ u, w2.cell? ⟨w.heap.size, j * 6 + 3, none⟩ = some u := by rw [hown2.cellAt (j * 6 + 3) (by omega)]; exact ⟨_, List.getElem?_eq_getElem (by omega)⟩
        obtain ⟨u4, hu4⟩ : ∃ u, w2.cell? ⟨w.heap.size, j * 6 + 4, none⟩ = some u := by rw [hown2.cellAt (j * 6 + 4) (by omega)]; exact ⟨_, List.getElem?_eq_getElem (by omega)⟩
        obtain ⟨u5, hu5⟩ : ∃ u, w2.cell? ⟨w.heap.size, j * 6 + 5, none⟩ = some u := by rw [hown2.cellAt (j * 6 + 5) (by omega)]; exact ⟨_, List.getElem?_eq_getElem (by omega)⟩
        have f0 := hown2.frozenAt (j * 6)
        have f1 := hown2.frozenAt (j * 6 + 1)
        have f2 := hown2.frozenAt (j * 6 + 2)
        have f3 := hown2.frozenAt (j * 6 + 3)
        have f4 := hown2.frozenAt (j * 6 + 4)
        have f5 := hown2.frozenAt (j * 6 + 5)
        have HL := hid hlen
        clear hlen hown
        go_wp2
        go_roundw
        case rel =>
          have s0 := hown2.stored (j * 6) (.int .i64 p)
          have s1 := s0.1.stored (j * 6 + 1) (.int .i64 d)
          have s2 := s1.1.stored (j * 6 + 2) (.int .i64 t)
          have s3 := s2.1.stored (j * 6 + 3) (.int .i64 x)
          have s4 := s3.1.stored (j * 6 + 4) (.int .i64 y)
          have s5 := s4.1.stored (j * 6 + 5) (.int .i64 n)
          refine ⟨j + 1, _, by go_num, by omega, s5.1, ?_, (((((hB2.setCell (p := ⟨w.heap.size, j * 6, none⟩) (Nat.le_refl _) _).setCell (p := ⟨w.heap.size, j * 6 + 1, none⟩) (Nat.le_refl _) _).setCell (p := ⟨w.heap.size, j * 6 + 2, none⟩) (Nat.le_refl _) _).setCell (p := ⟨w.heap.size, j * 6 + 3, none⟩) (Nat.le_refl _) _).setCell (p := ⟨w.heap.size, j * 6 + 4, none⟩) (Nat.le_refl _) _).setCell (p := ⟨w.heap.size, j * 6 + 5, none⟩) (Nat.le_refl _) _⟩
          have e1 := putAll_take cells (j * 6) [.int .i64 p, .int .i64 d, .int .i64 t, .int .i64 x, .int .i64 y, .int .i64 n] _ HT.out (by have := HL.out; simp; omega)
          have e2 : xs.take (j + 1) = xs.take j ++ [⟨p, d, t, x, y, n⟩] := by rw [List.take_add_one, HX.out]; rfl
          rw [e2, flatF_append, show (j + 1) * 6 = j * 6 + 6 by omega]
          exact e1
        case measure => simp [intOf]; omega
      · obtain rfl : j = xs.length := by omega
        have hlen : cells.length = xs.length * 6 := hown.1
        have e1 := HT.out
        rw [List.take_of_length_le (by omega), List.take_of_length_le (Nat.le_refl _)] at e1
        subst e1
        have HO := hid hown
        clear hown hlen HT
        go_wp2
        go_ret
        exact ⟨_, _, rfl, HO.out, hB⟩

theorem toIntS_sl (a : Option Addr) (c : Nat) (xs : List Int) (w : World) (hl : xs.length ≤ 1048576) (h : Row w a xs) :
    Calls Tryd.prog 33 #[.slice a xs.length c] w fun e w' => ∃ va vc, e = .returned (.slice va xs.length vc) ∧ w'.ownsRow w.heap.size 3 1 (.slice va xs.length vc) xs.length (ints xs) ∧ Below w.heap.size w w' := by
  refine (toIntS_any a c xs w hl h).mono ?_
  rintro e w' ⟨v, rfl, ho, hb⟩
  obtain ⟨va, vc, rfl, _⟩ := Row.of_owned ho
  exact ⟨va, vc, rfl, ho, hb⟩

theorem alloc4 (w : World) (v0 v1 v2 v3 : Value) (t : TypeId) : (w.alloc (.cells #[v0, v1, v2, v3] t)).cell? ⟨w.heap.size, 0, none⟩ = some v0 ∧ (w.alloc (.cells #[v0, v1, v2, v3] t)).cell? ⟨w.heap.size, 1, none⟩ = some v1 ∧ (w.alloc (.cells #[v0, v1, v2, v3] t)).cell? ⟨w.heap.size, 2, none⟩ = some v2 ∧ (w.alloc (.cells #[v0, v1, v2, v3] t)).cell? ⟨w.heap.size, 3, none⟩ = some v3 := by
  refine ⟨?_, ?_, ?_, ?_⟩ <;> simp [go_sem]
set_option maxHeartbeats 4000000 in
theorem toBlock_any (go test : Int) (cs : List Flt) (ns : List Int) (ca na : Option Addr) (cc nc : Nat) (w : World) (hc : cs.length ≤ 1048576) (hn : ns.length ≤ 1048576) (hC : FRow w ca cs) (hN : Row w na ns) :
    Calls Tryd.prog 16 #[.agg #[.slice ca cs.length cc, .int .i64 go, .int .i64 test, .slice na ns.length nc]] w fun e w' => ∃ va vc ua uc, e = .returned (.agg #[.slice va cs.length vc, .int .i64 go, .int .i64 test, .slice ua ns.length uc]) ∧ Sep w' w.heap.size (rowsOf ⟨⟨cs, go, test, ns⟩, .slice va cs.length vc, .slice ua ns.length uc⟩) ∧ Below w.heap.size w w' := by
  have HR := hid (And.intro hC hN)
  clear hC hN
  go_enter Tryd.func16, Tryd.ntmps16
  go_wp2_with fail
  refine (toFlatS_any ca cc cs _ hc (HR.out.1.below (below3 w _ _ _))).mono ?_
  rintro e w1 ⟨va, vc, rfl, ho1, hb1⟩
  obtain ⟨hcc, hff⟩ := bcell hb1
  have c01 : w1.cell? ⟨w.heap.size, 1, none⟩ = some (.int .i64 go) := by rw [hcc _ _ (by simp <;> omega)]; simp [go_sem]
  have c02 : w1.cell? ⟨w.heap.size, 2, none⟩ = some (.int .i64 test) := by rw [hcc _ _ (by simp <;> omega)]; simp [go_sem]
  have c03 : w1.cell? ⟨w.heap.size, 3, none⟩ = some (.slice na ns.length nc) := by rw [hcc _ _ (by simp <;> omega)]; simp [go_sem]
  have c10 : w1.cell? ⟨w.heap.size + 1, 0, none⟩ = some (.slice none 0 0) := by rw [hcc _ _ (by simp <;> omega)]; simp [go_sem]
  have c11 : w1.cell? ⟨w.heap.size + 1, 1, none⟩ = some (.int .i64 0) := by rw [hcc _ _ (by simp <;> omega)]; simp [go_sem]
  have c12 : w1.cell? ⟨w.heap.size + 1, 2, none⟩ = some (.int .i64 0) := by rw [hcc _ _ (by simp <;> omega)]; simp [go_sem]
  have c13 : w1.cell? ⟨w.heap.size + 1, 3, none⟩ = some (.slice none 0 0) := by rw [hcc _ _ (by simp <;> omega)]; simp [go_sem]
  have c20 : w1.cell? ⟨w.heap.size + 1 + 1, 0, none⟩ = some (.slice none 0 0) := by rw [hcc _ _ (by simp <;> omega)]; simp [go_sem]
  have c21 : w1.cell? ⟨w.heap.size + 1 + 1, 1, none⟩ = some (.int .i64 0) := by rw [hcc _ _ (by simp <;> omega)]; simp [go_sem]
  have c22 : w1.cell? ⟨w.heap.size + 1 + 1, 2, none⟩ = some (.int .i64 0) := by rw [hcc _ _ (by simp <;> omega)]; simp [go_sem]
  have c23 : w1.cell? ⟨w.heap.size + 1 + 1, 3, none⟩ = some (.slice none 0 0) := by rw [hcc _ _ (by simp <;> omega)]; simp [go_sem]
  have f10 : w1.frozen? ⟨w.heap.size + 1, 0, none⟩ = false := by rw [hff _ _ (by simp <;> omega)]; simp [go_sem]
  have f11 : w1.frozen? ⟨w.heap.size + 1, 1, none⟩ = false := by rw [hff _ _ (by simp <;> omega)]; simp [go_sem]
  have f12 : w1.frozen? ⟨w.heap.size + 1, 2, none⟩ = false := by rw [hff _ _ (by simp <;> omega)]; simp [go_sem]
  have f13 : w1.frozen? ⟨w.heap.size + 1, 3, none⟩ = false := by rw [hff _ _ (by simp <;> omega)]; simp [go_sem]
  have f20 : w1.frozen? ⟨w.heap.size + 1 + 1, 0, none⟩ = false := by rw [hff _ _ (by simp <;> omega)]; simp [go_sem]
  have f21 : w1.frozen? ⟨w.heap.size + 1 + 1, 1, none⟩ = false := by rw [hff _ _ (by simp <;> omega)]; simp [go_sem]
  have f22 : w1.frozen? ⟨w.heap.size + 1 + 1, 2, none⟩ = false := by rw [hff _ _ (by simp <;> omega)]; simp [go_sem]
  have f23 : w1.frozen? ⟨w.heap.size + 1 + 1, 3, none⟩ = false := by rw [hff _ _ (by simp <;> omega)]; simp [go_sem]
  have HB := hid (bstep' (below3 w _ _ _) hb1)
  have hsz : w.heap.size + 3 ≤ w1.heap.size := by have := hb1.size; simp at this; omega
  have HO : Hid (w1.ownsRow (w.heap.size + 1 + 1 + 1) 73 6 (.slice va cs.length vc) cs.length (flatF cs)) := by simp at ho1; exact ho1
  clear hb1 ho1 hcc hff
  go_wp2_with fail
  refine (toIntS_sl na nc ns _ hn ?hr).mono ?_
  case hr => exact HR.out.2.below (((HB.out.setCell (by simp <;> omega) _).setCell (by simp <;> omega) _).setCell (by simp <;> omega) _)
  rintro e w2 ⟨ua, uc, rfl, ho2, hb2⟩
  obtain ⟨hcc, hff⟩ := bcell hb2
  have hsz2 : w1.heap.size ≤ w2.heap.size := by have := hb2.size; simpa using this
  have d20 : w2.cell? ⟨w.heap.size + 1 + 1, 0, none⟩ = some (.slice va cs.length vc) := by rw [hcc _ _ (by simp <;> omega)]; simp [go_sem, c20]
  have d21 : w2.cell? ⟨w.heap.size + 1 + 1, 1, none⟩ = some (.int .i64 go) := by rw [hcc _ _ (by simp <;> omega)]; simp [go_sem, c21]
  have d22 : w2.cell? ⟨w.heap.size + 1 + 1, 2, none⟩ = some (.int .i64 test) := by rw [hcc _ _ (by simp <;> omega)]; simp [go_sem, c22]
  have d23 : w2.cell? ⟨w.heap.size + 1 + 1, 3, none⟩ = some (.slice none 0 0) := by rw [hcc _ _ (by simp <;> omega)]; simp [go_sem, c23]
  have e23 : w2.frozen? ⟨w.heap.size + 1 + 1, 3, none⟩ = false := by rw [hff _ _ (by simp <;> omega)]; simp [go_sem, f23]
  have d10 : w2.cell? ⟨w.heap.size + 1, 0, none⟩ = some (.slice none 0 0) := by rw [hcc _ _ (by simp <;> omega)]; simp [go_sem, c10]
  have d11 : w2.cell? ⟨w.heap.size + 1, 1, none⟩ = some (.int .i64 0) := by rw [hcc _ _ (by simp <;> omega)]; simp [go_sem, c11]
  have d12 : w2.cell? ⟨w.heap.size + 1, 2, none⟩ = some (.int .i64 0) := by rw [hcc _ _ (by simp <;> omega)]; simp [go_sem, c12]
  have d13 : w2.cell? ⟨w.heap.size + 1, 3, none⟩ = some (.slice none 0 0) := by rw [hcc _ _ (by simp <;> omega)]; simp [go_sem, c13]
  have e10 : w2.frozen? ⟨w.heap.size + 1, 0, none⟩ = false := by rw [hff _ _ (by simp <;> omega)]; simp [go_sem, f10]
  have e11 : w2.frozen? ⟨w.heap.size + 1, 1, none⟩ = false := by rw [hff _ _ (by simp <;> omega)]; simp [go_sem, f11]
  have e12 : w2.frozen? ⟨w.heap.size + 1, 2, none⟩ = false := by rw [hff _ _ (by simp <;> omega)]; simp [go_sem, f12]
  have e13 : w2.frozen? ⟨w.heap.size + 1, 3, none⟩ = false := by rw [hff _ _ (by simp <;> omega)]; simp [go_sem, f13]
  have HB2 := hid (bstep' (((HB.out.setCell (p := ⟨w.heap.size + 1 + 1, 0, none⟩) (by simp <;> omega) (.slice va cs.length vc)).setCell (p := ⟨w.heap.size + 1 + 1, 1, none⟩) (by simp <;> omega) (.int .i64 go)).setCell (p := ⟨w.heap.size + 1 + 1, 2, none⟩) (by simp <;> omega) (.int .i64 test)) hb2)
  have hoa : w2.ownsRow (w.heap.size + 1 + 1 + 1) 73 6 (.slice va cs.length vc) cs.length (flatF cs) := owns_below (ownsRow_setCell_below (ownsRow_setCell_below (ownsRow_setCell_below HO.out (by simp) _) (by simp) _) (by simp) _) hb2
  have hob : w2.ownsRow w1.heap.size 3 1 (.slice ua ns.length uc) ns.length (ints ns) := by simpa using ho2
  have HS : Hid (w2.ownsRow (w.heap.size + 1 + 1 + 1) 73 6 (.slice va cs.length vc) cs.length (flatF cs) ∧ w2.ownsRow (w.heap.size + 1 + 1 + 1) 3 1 (.slice ua ns.length uc) ns.length (ints ns) ∧ ∀ g, (Value.slice va cs.length vc).ownBlock = some g → g < w1.heap.size) := ⟨hoa, owns_mono hob (by omega), fun g e => (HO.out.lt g e).2⟩
  have HN : Hid (∀ g, (Value.slice ua ns.length uc).ownBlock = some g → w1.heap.size ≤ g) := fun g e => (hob.lt g e).1
  clear hcc hff hb2 ho2 hoa hob c20 c21 c22 c23 c10 c11 c12 c13 f10 f11 f12 f13 f20 f21 f22 f23 c01 c02 c03
  go_wp2
  refine bodyPost_ret (v := .agg #[.slice va cs.length vc, .int .i64 go, .int .i64 test, .slice ua ns.length uc]) (by simp [results, Tryd.results16, go_sem, *]) rfl ⟨va, vc, ua, uc, rfl, ⟨?_, ?_⟩, ?_⟩
  · have k1 : ∀ {t n : Nat} {v : Value} {xs : List Value} {s : Nat}, w2.ownsRow (w.heap.size + 1 + 1 + 1) t s v n xs → (((((w2.setCell ⟨w.heap.size + 1 + 1, 3, none⟩ (.slice ua ns.length uc)).setCell ⟨w.heap.size + 1, 0, none⟩ (.slice va cs.length vc)).setCell ⟨w.heap.size + 1, 1, none⟩ (.int .i64 go)).setCell ⟨w.heap.size + 1, 2, none⟩ (.int .i64 test)).setCell ⟨w.heap.size + 1, 3, none⟩ (.slice ua ns.length uc)).ownsRow w.heap.size t s v n xs := fun h => owns_mono (ownsRow_setCell_below (ownsRow_setCell_below (ownsRow_setCell_below (ownsRow_setCell_below (ownsRow_setCell_below h (by simp) _) (by simp) _) (by simp) _) (by simp) _) (by simp) _) (by omega)
    intro x hx
    simp only [rowsOf, List.mem_cons, List.not_mem_nil, or_false] at hx
    rcases hx with rfl | rfl
    · exact k1 HS.out.1
    · exact k1 HS.out.2.1
  · simp only [rowsOf, List.pairwise_cons, List.mem_cons, List.not_mem_nil, or_false, forall_eq, false_implies, implies_true, List.Pairwise.nil, and_true]
    cases e : (Value.slice va cs.length vc).ownBlock with
    | none => exact .inl e
    | some g =>
      right; intro he
      have h1 := HS.out.2.2 g e
      have h2 := HN.out g (he.symm.trans e)
      omega
  · exact ((((HB2.out.setCell (by simp <;> omega) _).setCell (by simp <;> omega) _).setCell (by simp <;> omega) _).setCell (by simp <;> omega) _).setCell (by simp <;> omega) _
end Go.Proofs.YtjnlhffmahfekaaDoor
