/- The laws' copies of blocks, and that they compare as like. -/
import Derived.Test.YtjnlhffmahfekaaDoorFlow2
namespace Go.Proofs.YtjnlhffmahfekaaDoor
open Go.RowKit
set_option linter.unusedVariables false
set_option linter.unusedSimpArgs false
set_option maxRecDepth 100000

/-- rows that lie in newer memory are apart from those that were -/
theorem Sep.append {w w' : World} {B : Nat} {l m : List OR} (h : Sep w B l) (hb : Below w.heap.size w w') (hB : B ≤ w.heap.size) (hm : Sep w' w.heap.size m) : Sep w' B (l ++ m) := by
  have h' := h.below hb
  refine ⟨fun x hx => ?_, List.pairwise_append.2 ⟨h'.2, hm.2, fun a ha b hb' => ?_⟩⟩
  · rcases List.mem_append.1 hx with hx | hx
    · exact h'.1 x hx
    · exact owns_mono (hm.1 x hx) hB
  · cases e : a.v.ownBlock with
    | none => exact .inl e
    | some k =>
      right; intro he
      have h1 := ((h.1 a ha).lt k e).2
      have h2 := ((hm.1 b hb').lt k (by rw [← he, e])).1
      omega
/-- a cell of a row is written -/
theorem Sep.store {w : World} {B : Nat} (l1 : List OR) {e : TypeId} {size n g cap : Nat} {xs : List Value} {l2 : List OR} (h : Sep w B (l1 ++ ⟨e, size, .slice (some ⟨g, 0, none⟩) n cap, n, xs⟩ :: l2)) (j : Nat) (u : Value) :
    Sep (w.setCell ⟨g, j, none⟩ u) B (l1 ++ ⟨e, size, .slice (some ⟨g, 0, none⟩) n cap, n, xs.set j u⟩ :: l2) := by
  have ho := h.1 ⟨e, size, .slice (some ⟨g, 0, none⟩) n cap, n, xs⟩ (by simp)
  have hs := World.ownsRow.stored ho j u
  exact h.turn l1 (Below.refl _ _) hs.2 ⟨e, size, .slice (some ⟨g, 0, none⟩) n cap, n, xs.set j u⟩ hs.1 (fun k hk => .inl hk)
theorem Sep.mono {w : World} {B B' : Nat} {l : List OR} (h : Sep w B l) (hB : B' ≤ B) : Sep w B' l := ⟨fun x hx => owns_mono (h.1 x hx) hB, h.2⟩

theorem info60 : (Tryd.prog.info? 45).map (fun i => (i.zero, i.size, i.bytes)) = some (some (.agg #[.slice none 0 0, .int .i64 0, .int .i64 0, .slice none 0 0]), 4, 64) := by kernel_rfl
set_option maxHeartbeats 2000000 in
/-- the laws' copy of a slice of blocks -/
theorem toBlocks_any (a : Option Addr) (c : Nat) (xs : List Blk) (w : World) (hl : xs.length ≤ 1048576) (ht : sumB xs ≤ 1048576) (h : BRow w a xs) :
    Calls Tryd.prog 6 #[.slice a xs.length c] w fun e w' => ∃ v ys, e = .returned v ∧ OwnB w' w.heap.size v ys ∧ blks ys = xs ∧ Below w.heap.size w w' := by
  obtain ⟨i0, hi, hz0, hz1, hz2⟩ := info_parts info60
  by_cases hx : xs = []
  · subst hx
    clear h
    go_enter Tryd.func6, Tryd.ntmps6
    go_wp2_with (at_make; refine wpList_make_full _ rfl _ _ 29 rfl w.heap.size 45 i0 (.agg #[.slice none 0 0, .int .i64 0, .int .i64 0, .slice none 0 0]) 4 Tryd.underlying29 hi hz0 hz1 .i64 .i64 _ _ 0 rfl rfl rfl rfl ?c1 ?c2 ?c3 ?_)
    case c1 => omega
    case c2 => unfold maxLen; omega
    case c3 => omega
    intro w1 hown0 hgrow0
    have hB0 : Below w.heap.size w w1 := (Below.refl _ w).grown hgrow0 (Nat.le_refl _) (fun k hk => by cases hk)
    go_wp2
    go_loopw [4] (fun t wr => t = .int .i64 0 ∧ wr = w1) (fun t _ => 0)
    case atStart => exact ⟨rfl, rfl⟩
    case round =>
      obtain ⟨rfl, rfl⟩ := hrel
      go_wp2
      go_ret
      refine ⟨_, [], rfl, ⟨fun x hx => ?_, by simp [rowsB]⟩, rfl, hB0⟩
      simp only [rowsB, List.flatMap_nil, List.mem_cons, List.not_mem_nil, or_false] at hx
      subst hx
      show World.ownsRow _ _ _ _ _ _ _
      simpa [flatB, madeCells] using hown0
  · obtain ⟨b, off, rfl, hbw, hat⟩ := h.at hx
    have HA := hid hat
    have HS := hid ht
    clear hat hx h ht
    go_enter Tryd.func6, Tryd.ntmps6
    go_wp2_with (at_make; refine wpList_make_full _ rfl _ _ 29 rfl w.heap.size 45 i0 (.agg #[.slice none 0 0, .int .i64 0, .int .i64 0, .slice none 0 0]) 4 Tryd.underlying29 hi hz0 hz1 .i64 .i64 _ _ xs.length rfl rfl rfl rfl ?c1 ?c2 ?c3 ?_)
    case c1 => rw [hz2]; omega
    case c2 => unfold maxLen; omega
    case c3 => omega
    intro w1 hown0 hgrow0
    have hB0 : Below w.heap.size w w1 := (Below.refl _ w).grown hgrow0 (Nat.le_refl _) (fun k hk => by cases hk)
    go_wp2
    go_loopw [4] (fun t wr => ∃ (j : Nat) (cells : List Value) (ys : List BV), t = .int .i64 j ∧ j ≤ xs.length ∧ Sep wr w.heap.size ([] ++ ⟨45, 4, .slice (some ⟨w.heap.size, 0, none⟩) xs.length xs.length, xs.length, cells⟩ :: ys.flatMap rowsOf) ∧ cells.take (j * 4) = flatB ys ∧ blks ys = xs.take j ∧ Below w.heap.size w wr) (fun t _ => xs.length - (intOf t).toNat)
    case atStart => exact ⟨0, _, [], rfl, by omega, ⟨by intro x hx; simp at hx; subst hx; exact hown0, by simp⟩, by simp [flatB], by simp [blks], hB0⟩
    case round =>
      obtain ⟨j, cells, ys, rfl, hj, hsep, htk, hys, hB⟩ := hrel
      have HT := hid (And.intro htk hys)
      have hown : wr.ownsRow w.heap.size 45 4 (.slice (some ⟨w.heap.size, 0, none⟩) xs.length xs.length) xs.length cells := hsep.1 ⟨45, 4, .slice (some ⟨w.heap.size, 0, none⟩) xs.length xs.length, xs.length, cells⟩ (by simp)
      have HSEP := hid hsep
      clear hown0 hgrow0 hB0 htk hys hsep
      by_cases hlt : j < xs.length
      · obtain ⟨cs, go, test, ns, ca, cc, na, nc, c0, c1, c2, c3, l1, l2, HR, HX⟩ := HA.out wr hB j hlt
        have hcs : cs.length ≤ 1048576 ∧ ns.length ≤ 1048576 := by have := len_le_sumB HX.out; have := HS.out; simp only [] at *; omega
        go_wp2_with fail
        refine (toBlock_any go test cs ns ca na cc nc _ hcs.1 hcs.2 (HR.out.1.below hB) (HR.out.2.below hB)).mono ?_
        rintro e w2 ⟨va, vc, ua, uc, rfl, hov, hb2⟩
        have hown2 := owns_below hown hb2
        have hB2 := bstep' hB hb2
        have hlen : cells.length = xs.length * 4 := hown.1
        have HS2 := hid (HSEP.out.append hb2 hB.size hov)
        obtain ⟨u0, hu0⟩ : ∃ u, w2.cell? ⟨w.heap.size, j * 4, none⟩ = some u := by rw [hown2.cellAt (j * 4) (by omega)]; exact ⟨_, List.getElem?_eq_getElem (by omega)⟩
        obtain ⟨u1, hu1⟩ : ∃ u, w2.cell? ⟨w.heap.size, j * 4 + 1, none⟩ = some u := by rw [hown2.cellAt (j * 4 + 1) (by omega)]; exact ⟨_, List.getElem?_eq_getElem (by omega)⟩
        obtain ⟨u2, hu2⟩ : ∃ u, w2.cell? ⟨w.heap.size, j * 4 + 2, none⟩ = some u := by rw [hown2.cellAt (j * 4 + 2) (by omega)]; exact ⟨_, List.getElem?_eq_getElem (by omega)⟩
        obtain ⟨u3, hu3⟩ : ∃ u, w2.cell? ⟨w.heap.size, j * 4 + 3, none⟩ = some u := by rw [hown2.cellAt (j * 4 + 3) (by omega)]; exact ⟨_, List.getElem?_eq_getElem (by omega)⟩
        have f0 := hown2.frozenAt (j * 4)
        have f1 := hown2.frozenAt (j * 4 + 1)
        have f2 := hown2.frozenAt (j * 4 + 2)
        have f3 := hown2.frozenAt (j * 4 + 3)
        have HL := hid hlen
        clear hlen hown hown2 hov
        go_wp2
        go_roundw
        case rel =>
          have s0 := HS2.out.store [] (j * 4) (.slice va cs.length vc)
          have s1 := Sep.store [] s0 (j * 4 + 1) (.int .i64 go)
          have s2 := Sep.store [] s1 (j * 4 + 2) (.int .i64 test)
          have s3 := Sep.store [] s2 (j * 4 + 3) (.slice ua ns.length uc)
          refine ⟨j + 1, putAll cells (j * 4) [.slice va cs.length vc, .int .i64 go, .int .i64 test, .slice ua ns.length uc], ys ++ [⟨⟨cs, go, test, ns⟩, .slice va cs.length vc, .slice ua ns.length uc⟩], by go_num, by omega, ?_, ?_, ?_, (((hB2.setCell (p := ⟨w.heap.size, j * 4, none⟩) (Nat.le_refl _) _).setCell (p := ⟨w.heap.size, j * 4 + 1, none⟩) (Nat.le_refl _) _).setCell (p := ⟨w.heap.size, j * 4 + 2, none⟩) (Nat.le_refl _) _).setCell (p := ⟨w.heap.size, j * 4 + 3, none⟩) (Nat.le_refl _) _⟩
          · rw [List.flatMap_append]
            have e3 : ([⟨⟨cs, go, test, ns⟩, .slice va cs.length vc, .slice ua ns.length uc⟩] : List BV).flatMap rowsOf = rowsOf ⟨⟨cs, go, test, ns⟩, .slice va cs.length vc, .slice ua ns.length uc⟩ := by simp
            rw [e3]
            exact s3
          · have e1 := putAll_take cells (j * 4) [.slice va cs.length vc, .int .i64 go, .int .i64 test, .slice ua ns.length uc] _ HT.out.1 (by have := HL.out; simp; omega)
            rw [flatB_append, show (j + 1) * 4 = j * 4 + 4 by omega]
            exact e1
          · rw [List.take_add_one, HX.out, ← HT.out.2]
            simp [blks]
        case measure => simp [intOf]; omega
      · obtain rfl : j = xs.length := by omega
        have hlen : cells.length = xs.length * 4 := hown.1
        obtain ⟨e1, e2⟩ := HT.out
        rw [List.take_of_length_le (by omega)] at e1
        rw [List.take_of_length_le (Nat.le_refl _)] at e2
        subst e1
        have HE := hid e2
        clear hown hlen HT e2
        go_wp2
        go_ret
        refine ⟨_, ys, rfl, ?_, HE.out, hB⟩
        have hyl : ys.length = xs.length := by rw [← HE.out, blks_length]
        unfold OwnB rowsB
        rw [hyl]
        exact HSEP.out

set_option maxHeartbeats 1000000 in
theorem eqFlat_same (p d t x y n : Int) (w : World) :
    Calls Tryd.prog 59 #[.agg #[.int .i64 p, .int .i64 d, .int .i64 t, .int .i64 x, .int .i64 y, .int .i64 n], .agg #[.int .i64 p, .int .i64 d, .int .i64 t, .int .i64 x, .int .i64 y, .int .i64 n]] w fun e w' => e = .returned (.bool true) ∧ Below w.heap.size w w' := by
  go_enter Tryd.func59, Tryd.ntmps59
  go_wp2
  go_ret
  exact ⟨rfl, below2 w _ _⟩
set_option maxHeartbeats 2000000 in
theorem eqFlatS_same (a a' : Option Addr) (c c' : Nat) (xs : List Flt) (w : World) (hl : xs.length ≤ 9223372036854775807) (h : FRow w a xs) (h' : FRow w a' xs) :
    Calls Tryd.prog 44 #[.slice a xs.length c, .slice a' xs.length c'] w fun e w' => e = .returned (.bool true) ∧ Below w.heap.size w w' := by
  by_cases hx : xs = []
  · subst hx
    clear h h'
    go_enter Tryd.func44, Tryd.ntmps44
    go_wp2
    go_loopw [5] (fun t wr => t = .int .i64 0 ∧ wr = w) (fun t _ => 0)
    case atStart => exact ⟨rfl, rfl⟩
    case round =>
      obtain ⟨rfl, rfl⟩ := hrel
      go_wp2
      go_ret
      exact ⟨rfl, Below.refl _ _⟩
  · obtain ⟨b, off, rfl, hbw, hat⟩ := h.at hx
    have HA := hid hat
    obtain ⟨b', off', rfl, hbw', hat'⟩ := h'.at hx
    have HA' := hid hat'
    clear hat hat' hx h h'
    go_enter Tryd.func44, Tryd.ntmps44
    go_wp2
    go_loopw [5] (fun t wr => ∃ (k : Nat), t = .int .i64 k ∧ k ≤ xs.length ∧ Below w.heap.size w wr) (fun t _ => xs.length - (intOf t).toNat)
    case atStart => exact ⟨0, rfl, by omega, Below.refl _ _⟩
    case round =>
      obtain ⟨k, rfl, hk, hB⟩ := hrel
      by_cases hlt : k < xs.length
      · obtain ⟨p, d, t, x, y, n, c0, c1, c2, c3, c4, c5, HX⟩ := HA.out wr hB k hlt
        obtain ⟨p', d', t', x', y', n', d0, d1, d2, d3, d4, d5, HX'⟩ := HA'.out wr hB k hlt
        obtain ⟨rfl, rfl, rfl, rfl, rfl, rfl⟩ : p = p' ∧ d = d' ∧ t = t' ∧ x = x' ∧ y = y' ∧ n = n' := by
          have := HX.out.symm.trans HX'.out
          simp at this
          exact this
        have HE := hid (fun W => eqFlat_same p d t x y n W)
        go_wp2
        go_region_with (go_at_call 59; refine (HE.out _).mono ?_; rintro e w1 ⟨rfl, hb1⟩)
        all_goals
          go_wp2
          go_roundw
          case rel => exact ⟨k + 1, by go_num, by omega, bstep' hB (below_of_drew hb1)⟩
          case measure => simp [intOf]; omega
      · go_wp2
        go_ret
        exact ⟨rfl, hB⟩
set_option maxHeartbeats 1000000 in
theorem eqBlock_same (go test : Int) (cs : List Flt) (ns : List Int) (ca na ca' na' : Option Addr) (cc nc cc' nc' : Nat) (w : World) (hc : cs.length ≤ 9223372036854775807) (hn : ns.length ≤ 9223372036854775807) (h : FRow w ca cs ∧ Row w na ns) (h' : FRow w ca' cs ∧ Row w na' ns) :
    Calls Tryd.prog 22 #[.agg #[.slice ca cs.length cc, .int .i64 go, .int .i64 test, .slice na ns.length nc], .agg #[.slice ca' cs.length cc', .int .i64 go, .int .i64 test, .slice na' ns.length nc']] w fun e w' => e = .returned (.bool true) ∧ Below w.heap.size w w' := by
  have H := hid (And.intro h h')
  clear h h'
  go_enter Tryd.func22, Tryd.ntmps22
  go_wp2_with fail
  refine (eqFlatS_same ca ca' cc cc' cs _ hc (H.out.1.1.below (below2 w _ _)) (H.out.2.1.below (below2 w _ _))).mono ?_
  rintro e w1 ⟨rfl, hb1⟩
  obtain ⟨hcc, hff⟩ := bcell hb1
  have c1 : w1.cell? ⟨w.heap.size, 1, none⟩ = some (.int .i64 go) := by rw [hcc _ _ (by simp <;> omega)]; simp [go_sem]
  have c2 : w1.cell? ⟨w.heap.size, 2, none⟩ = some (.int .i64 test) := by rw [hcc _ _ (by simp <;> omega)]; simp [go_sem]
  have c3 : w1.cell? ⟨w.heap.size, 3, none⟩ = some (.slice na ns.length nc) := by rw [hcc _ _ (by simp <;> omega)]; simp [go_sem]
  have d1 : w1.cell? ⟨w.heap.size + 1, 1, none⟩ = some (.int .i64 go) := by rw [hcc _ _ (by simp <;> omega)]; simp [go_sem]
  have d2 : w1.cell? ⟨w.heap.size + 1, 2, none⟩ = some (.int .i64 test) := by rw [hcc _ _ (by simp <;> omega)]; simp [go_sem]
  have d3 : w1.cell? ⟨w.heap.size + 1, 3, none⟩ = some (.slice na' ns.length nc') := by rw [hcc _ _ (by simp <;> omega)]; simp [go_sem]
  have HB := hid (bstep' (below2 w _ _) hb1)
  clear hb1 hcc hff
  go_wp2_with fail
  refine (eqIntS_same na na' nc nc' ns _ hn (H.out.1.2.below HB.out) (H.out.2.2.below HB.out)).mono ?_
  rintro e w2 ⟨rfl, q, rfl⟩
  go_wp2
  go_ret
  exact ⟨rfl, below_drewN HB.out q⟩
set_option maxHeartbeats 2000000 in
theorem eqBlocks_same (a a' : Option Addr) (c c' : Nat) (xs : List Blk) (w : World) (hl : xs.length ≤ 9223372036854775807) (h : BRow w a xs) (h' : BRow w a' xs) :
    Calls Tryd.prog 9 #[.slice a xs.length c, .slice a' xs.length c'] w fun e w' => e = .returned (.bool true) ∧ Below w.heap.size w w' := by
  by_cases hx : xs = []
  · subst hx
    clear h h'
    go_enter Tryd.func9, Tryd.ntmps9
    go_wp2
    go_loopw [5] (fun t wr => t = .int .i64 0 ∧ wr = w) (fun t _ => 0)
    case atStart => exact ⟨rfl, rfl⟩
    case round =>
      obtain ⟨rfl, rfl⟩ := hrel
      go_wp2
      go_ret
      exact ⟨rfl, Below.refl _ _⟩
  · obtain ⟨b, off, rfl, hbw, hat⟩ := h.at hx
    have HA := hid hat
    obtain ⟨b', off', rfl, hbw', hat'⟩ := h'.at hx
    have HA' := hid hat'
    clear hat hat' hx h h'
    go_enter Tryd.func9, Tryd.ntmps9
    go_wp2
    go_loopw [5] (fun t wr => ∃ (k : Nat), t = .int .i64 k ∧ k ≤ xs.length ∧ Below w.heap.size w wr) (fun t _ => xs.length - (intOf t).toNat)
    case atStart => exact ⟨0, rfl, by omega, Below.refl _ _⟩
    case round =>
      obtain ⟨k, rfl, hk, hB⟩ := hrel
      by_cases hlt : k < xs.length
      · obtain ⟨cs, go, test, ns, ca, cc, na, nc, c0, c1, c2, c3, l1, l2, HR, HX⟩ := HA.out wr hB k hlt
        obtain ⟨cs', go', test', ns', ca', cc', na', nc', d0, d1, d2, d3, l1', l2', HR', HX'⟩ := HA'.out wr hB k hlt
        obtain ⟨rfl, rfl, rfl, rfl⟩ : cs = cs' ∧ go = go' ∧ test = test' ∧ ns = ns' := by
          have := HX.out.symm.trans HX'.out
          simp at this
          exact this
        have HE : Hid (∀ W, Below wr.heap.size wr W → Calls Tryd.prog 22 #[.agg #[.slice ca cs.length cc, .int .i64 go, .int .i64 test, .slice na ns.length nc], .agg #[.slice ca' cs.length cc', .int .i64 go, .int .i64 test, .slice na' ns.length nc']] W fun e w' => e = .returned (.bool true) ∧ Below W.heap.size W w') :=
          fun W hW => eqBlock_same go test cs ns ca na ca' na' cc nc cc' nc' W l1 l2 ⟨HR.out.1.below (bstep' hB hW), HR.out.2.below (bstep' hB hW)⟩ ⟨HR'.out.1.below (bstep' hB hW), HR'.out.2.below (bstep' hB hW)⟩
        clear l1' l2'
        go_wp2
        go_region_with (go_at_call 22; refine (HE.out _ ((Below.refl _ _).drew)).mono ?_; rintro e w1 ⟨rfl, hb1⟩)
        all_goals
          go_wp2
          go_roundw
          case rel => exact ⟨k + 1, by go_num, by omega, bstep' hB (below_of_drew hb1)⟩
          case measure => simp [intOf]; omega
      · go_wp2
        go_ret
        exact ⟨rfl, hB⟩
end Go.Proofs.YtjnlhffmahfekaaDoor
