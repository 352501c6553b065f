/- The program's SplitNode. -/
import Derived.Test.YtjnlhffmahfekaaSplit7
namespace Go.Proofs.Ytjnlhffmahfekaa
open Go.RowKit
set_option linter.unusedVariables false
set_option linter.unusedSimpArgs false
set_option maxRecDepth 100000

theorem own_lrow {w : World} {B n c : Nat} {a : Option Addr} {ys : List LV} {yy : List (List Int)} (h : OwnL w B (.slice a n c) ys) (hy : lists ys = yy) : LRow w a yy := by
  obtain ⟨a', c', e, r⟩ := h.row
  injection e with e1 e2 e3
  rw [e1, ← hy]; exact r
/-- one number goes from a row, in its place -/
theorem delete_at (B g cap m : Nat) (zs : List Int) (p : Nat) (w : World) (hm : zs.length = m + 1) (hp : p < zs.length) (hl : zs.length ≤ 1000) (h : w.ownsRow B 3 1 (.slice (some ⟨g, 0, none⟩) (m + 1) cap) (m + 1) (ints zs)) :
    Calls Try.prog 60 #[.slice (some ⟨g, 0, none⟩) (m + 1) cap, .int .i64 p, .int .i64 ((p : Int) + 1)] w fun e w' => e = .returned (.slice (some ⟨g, 0, none⟩) m cap) ∧ w'.ownsRow B 3 1 (.slice (some ⟨g, 0, none⟩) m cap) m (ints (zs.take p ++ zs.drop (p + 1))) ∧ w.grownBy w' (some g) ∧ m + 1 ≤ cap := by
  rcases h.2 with ⟨h0, _⟩ | ⟨g', cap', cur, hv, hBg, hg, hn, hm', hsz, htk⟩
  · cases h0
  · cases hv
    have hd := Try.slices_Delete_int_cells g 0 (m + 1) cap p (p + 1) zs w (by omega) hn (by unfold maxLen at hm'; omega) (by omega) (by omega) (fun j hj => by rw [Nat.zero_add]; exact rowT_at h rfl (by simp [ints, hj, List.getD])) (fun j hj => by rw [Nat.zero_add]; exact h.frozenAt j)
    rw [show ((p + 1 : Nat) : Int) = (p : Int) + 1 by omega] at hd
    refine hd.mono ?_
    rintro e w' ⟨rfl, q, rfl⟩
    rw [show zs.take (m + 1) = zs from List.take_of_length_le (by omega), show p + 1 - p = 1 by omega]
    have e0 : ((zs.take p ++ zs.drop (p + 1) ++ List.replicate 1 0).map (Value.int .i64)) = ints (zs.take p ++ zs.drop (p + 1)) ++ [.int .i64 0] := by simp [ints]
    rw [e0]
    obtain ⟨L, hL⟩ : ∃ L, L = ints (zs.take p ++ zs.drop (p + 1)) := ⟨_, rfl⟩
    have hLl : L.length = m := by rw [hL]; simp [ints]; omega
    rw [← hL]
    obtain ⟨h1, h2⟩ := own_setCells (L ++ [.int .i64 0]) (w.drewN q) 0 (ints zs) h (by simp; omega)
    have hz : (ints zs).length = zs.length := by simp [ints]
    have e1 : (ints zs).drop (0 + (L ++ [Value.int .i64 0]).length) = [] := List.drop_of_length_le (by rw [hz]; simp; omega)
    rw [e1, List.take_zero, List.nil_append, List.append_nil] at h1
    refine ⟨rfl, ?_, (show w.grownBy (w.drewN q) (some g) from grownBy_of_below (below_drewN (Below.refl _ _) q) _).trans h2, hn⟩
    have h3 := own_cut h1 (m := m) (by omega)
    have e3 : (L ++ [Value.int .i64 0]).take m = L := by
      rw [List.take_append_of_le_length (by omega), List.take_of_length_le (by omega)]
    first
      | (rw [e3] at h3; exact h3)
      | (rw [Nat.mul_one, e3] at h3; exact h3)
theorem step_append_in {w : World} {ops : Array Oper} {o : Oper} {a : Act} {K : Act → World → Prop} {Q : Exit → Act → World → Prop} {F : Prop} (hgd : o.guard = none) (s x : Operand)
    (ho : o.op = .call { callee := .builtin .append, args := #[s, x], argTypes := #[40, 40] }) (B g m cap : Nat) (xs : List Value) (h : w.ownsRow B 3 1 (.slice (some ⟨g, 0, none⟩) m cap) m xs) (hc : m + 1 ≤ cap) (hs : a.eval s = .slice (some ⟨g, 0, none⟩) m cap)
    (lb : Nat) (u : Value) (hu : u.oneCell' = true) (hx : a.eval x = .slice (some ⟨lb, 0, none⟩) 1 1) (hl : w.cell? ⟨lb, 0, none⟩ = some u)
    (k : ∀ w', w'.ownsRow B 3 1 (.slice (some ⟨g, 0, none⟩) (m + 1) cap) (m + 1) (xs ++ [u]) → w.grownBy w' (some g) → K (a.put o.dst (.slice (some ⟨g, 0, none⟩) (m + 1) cap)) w') :
    if Region.wanted o (yielded ops a.tmps) = true then Oper.wp Try.prog o a w K Q else F := by
  obtain ⟨i0, hi, hz0, hz1, hz2⟩ := info_parts info3
  obtain ⟨u0, h0⟩ := own_more h hc
  have hxl : xs.length = m := by have := h.1; omega
  refine step_append_room hgd s x 40 ho 3 i0 1 Try.underlying40 hi hz1 g 0 m cap hs ⟨lb, 0, none⟩ 1 1 [u] hx rfl (fun j v hj => ?_) (by intro v hv; simp at hv; subst hv; exact hu) hc (fun j hj => ?_) ?_
  · match j, hj with
    | 0, hj => simp at hj; subst hj; exact hl
    | j + 1, hj => simp at hj
  · simp at hj
    subst hj
    rw [Nat.mul_one, Nat.zero_add, Nat.add_zero]
    exact ⟨by rw [h0.cellAt m (by omega), List.getElem?_eq_getElem (by simp; omega)]; rfl, h0.frozenAt m⟩
  · obtain ⟨h1, h2⟩ := own_setCells (B := B) (c := cap) (n := m + 1) [u] w (0 + m * 1) _ h0 (by simp)
    refine k _ ?_ h2
    have e1 : ((xs ++ [u0]).take (0 + m * 1) ++ [u] ++ (xs ++ [u0]).drop (0 + m * 1 + [u].length)) = xs ++ [u] := by
      rw [Nat.mul_one, Nat.zero_add, List.take_append_of_le_length (by omega), List.take_of_length_le (by omega), List.drop_of_length_le (by simp; omega), List.append_nil]
    rw [e1] at h1
    exact h1
/-- a graph with a node split is good but for how many nodes it has -/
theorem split_good {g : List (List Nat)} (G : Gr g) {k f : Nat} {s l : List Nat} (hs : g[f]? = some s) (hl : g[k]? = some l) (hk : k ∈ s) : GoodG (splitX (g.map nats) k f) ↔ g.length ≠ 12 := by
  have hf := (List.getElem?_eq_some_iff.1 hs).1
  have hgm := G.most
  have hlen : (splitX (g.map nats) k f).length = g.length + 1 := by rw [split_len]; simp
  have es : (g.map nats).getD f [] = nats s := by rw [getD_some (l := nats s) (by simp [hs])]
  have el : (g.map nats).getD k [] = nats l := by rw [getD_some (l := nats l) (by simp [hl])]
  constructor
  · intro h; have := h.2.2; omega
  · intro hne
    refine ⟨fun i t ht => ?_, by omega, by omega⟩
    rw [hlen]
    have good1 : ∀ (r : List Nat), r.Pairwise (· < ·) → (∀ x ∈ r, x < g.length + 1) → GoodNx (g.length + 1) (nats r) := fun r hr hb => by
      refine ⟨fun j v hv => ?_, fun j u v hu hv => ?_⟩
      · obtain ⟨x, rfl, hx⟩ := nats_get hv
        have := hb x (List.mem_of_getElem? hx)
        omega
      · obtain ⟨x, rfl, hx⟩ := nats_get hu
        obtain ⟨y, rfl, hy⟩ := nats_get hv
        obtain ⟨h1, h2⟩ := List.getElem?_eq_some_iff.1 hx
        obtain ⟨h3, h4⟩ := List.getElem?_eq_some_iff.1 hy
        have := List.pairwise_iff_getElem.1 hr j (j + 1) h1 h3 (by omega)
        omega
    have hold : ∀ (i : Nat) r, g[i]? = some r → GoodNx (g.length + 1) (nats r) := fun i r hr => good1 r (G.rising i r hr) (fun x hx => by have := G.below i r hr x hx; omega)
    unfold splitX at ht
    rw [es, el] at ht
    by_cases hi : i < g.length
    · rw [List.getElem?_append_left (by simp; exact hi)] at ht
      by_cases e : i = f
      · subst e
        rw [List.getElem?_set_self (by simp; exact hf)] at ht
        obtain rfl := Option.some.inj ht
        have e2 : dropL (nats s) k ++ [((g.map nats).length : Int)] = nats (s.filter (fun x => !decide (x = k)) ++ [g.length]) := by
          simp only [nats, List.map_append, List.length_map, List.map_cons, List.map_nil]
          congr 1
          unfold dropL
          rw [List.filter_map]
          congr 1
          apply List.filter_congr
          intro x _
          simp; omega
        rw [e2]
        refine good1 _ (List.pairwise_append.2 ⟨(G.rising i s hs).filter _, by simp, fun a ha b hb => ?_⟩) (fun x hx => ?_)
        · simp at hb; subst hb; exact G.below i s hs a (List.mem_filter.1 ha).1
        · rcases List.mem_append.1 hx with hx | hx
          · have := G.below i s hs x (List.mem_filter.1 hx).1; omega
          · simp at hx; omega
      · rw [List.getElem?_set_ne (fun h => e h.symm), List.getElem?_map] at ht
        obtain ⟨r, hr⟩ : ∃ r, g[i]? = some r := ⟨_, List.getElem?_eq_getElem hi⟩
        rw [hr] at ht
        obtain rfl := Option.some.inj ht
        exact hold i r hr
    · rw [List.getElem?_append_right (by simp; omega)] at ht
      have hi0 : i - (List.set (g.map nats) f (dropL (nats s) k ++ [((g.map nats).length : Int)])).length = 0 := by
        have := (List.getElem?_eq_some_iff.1 ht).1
        simp at this ⊢; omega
      rw [hi0] at ht
      simp at ht
      subst ht
      exact hold k l hl
set_option maxHeartbeats 4000000 in
theorem iSplit_out (a : Option Addr) (c : Nat) (xs : List (List Int)) (k f : Int) (w : World) (hl : xs.length ≤ 9223372036854775807) (h : LRow w a xs) (hN : ¬ (GoodG xs ∧ 0 < k ∧ k < xs.length ∧ 0 ≤ f ∧ f < xs.length ∧ k ∈ xs.getD f.toNat [])) :
    Calls Try.prog 33 #[.agg #[.slice a xs.length c], .int .i64 k, .int .i64 f] w fun e w' => e = .returned (.tuple #[.agg #[.slice none 0 0], .bool false]) ∧ Below w.heap.size w w' := by
  have b0 := below2 w (.cells #[.slice a xs.length c] 27) (.cells #[.slice none 0 0] 27)
  have d0 : ((w.alloc (.cells #[.slice a xs.length c] 27)).alloc (.cells #[.slice none 0 0] 27)).cell? ⟨w.heap.size, 0, none⟩ = some (.slice a xs.length c) := by simp [go_sem]
  have x0 : ((w.alloc (.cells #[.slice a xs.length c] 27)).alloc (.cells #[.slice none 0 0] 27)).cell? ⟨w.heap.size + 1, 0, none⟩ = some (.slice none 0 0) := by simp [go_sem]
  have f0 : ((w.alloc (.cells #[.slice a xs.length c] 27)).alloc (.cells #[.slice none 0 0] 27)).frozen? ⟨w.heap.size + 1, 0, none⟩ = false := by simp [go_sem]
  have z0 : ((w.alloc (.cells #[.slice a xs.length c] 27)).alloc (.cells #[.slice none 0 0] 27)).heap.size = w.heap.size + 2 := by simp
  by_cases hG : GoodG xs
  · have HC := hid (fun W hb => iGood_any a c xs true W hl (h.below hb) (by simp [hG]))
    have h12 := hG.2.2
    cases hA : allBel xs.length [k, f] with
    | false =>
      have HAB : Hid (∀ W nb, Row W (some ⟨nb, 0, none⟩) [k, f] → Calls Try.prog 40 #[.int .i64 (xs.length : Int), .slice (some ⟨nb, 0, none⟩) 2 2] W fun e w' => e = .returned (.bool false) ∧ Below W.heap.size W w') := fun W nb hr => by
        have := areBelow_any (some ⟨nb, 0, none⟩) 2 [k, f] xs.length W (by simp) hr
        rw [hA] at this
        exact this
      clear h hN hA hG
      go_enter Try.func33, Try.ntmps33
      go_wp2_with fail
      refine (HC.out _ b0).mono ?_
      rintro e w1 ⟨rfl, hb1⟩
      have B1 := bstep' b0 hb1
      have d1 := cell_below d0 hb1
      have x1 := cell_below x0 hb1
      have f1 : w1.frozen? ⟨w.heap.size + 1, 0, none⟩ = false := by rw [hb1.frozen (p := ⟨w.heap.size + 1, 0, none⟩) (by show w.heap.size + 1 < _; omega)]; exact f0
      have z1 : w.heap.size + 1 < w1.heap.size := World.block_lt_of_cell? w1 _ x1
      clear hb1 d0 x0 f0 b0
      go_wp2_with fail
      refine (HAB.out _ _ (row_new2 w1 k f 3)).mono ?_
      rintro e w2 ⟨rfl, hb2'⟩
      have hb2 := bstep' (below1 w1 (.cells #[.int .i64 k, .int .i64 f] 3)) hb2'
      have B2 := bstep' B1 hb2
      have d2 := cell_below d1 hb2
      have x2 := cell_below x1 hb2
      have f2 : w2.frozen? ⟨w.heap.size + 1, 0, none⟩ = false := by rw [hb2.frozen (p := ⟨w.heap.size + 1, 0, none⟩) z1]; exact f1
      have z2 : w.heap.size + 1 < w2.heap.size := World.block_lt_of_cell? w2 _ x2
      clear hb2 hb2' d1 x1 f1 B1
      go_wp2
      refine bodyPost_ret (v := .tuple #[.agg #[.slice none 0 0], .bool false]) (by simp [results, Try.results33, go_sem, *]) rfl ⟨rfl, B2.setCell (by show w.heap.size ≤ w.heap.size + 1; omega) _⟩
    | true =>
      have HAB : Hid (∀ W nb, Row W (some ⟨nb, 0, none⟩) [k, f] → Calls Try.prog 40 #[.int .i64 (xs.length : Int), .slice (some ⟨nb, 0, none⟩) 2 2] W fun e w' => e = .returned (.bool true) ∧ Below W.heap.size W w') := fun W nb hr => by
        have := areBelow_any (some ⟨nb, 0, none⟩) 2 [k, f] xs.length W (by simp) hr
        rw [hA] at this
        exact this
      have hkk := allBel_iff.1 hA 0 k (by simp)
      have hff := allBel_iff.1 hA 1 f (by simp)
      by_cases hk0 : k = 0
      · subst hk0
        clear h hN hA hG
        go_enter Try.func33, Try.ntmps33
        go_wp2_with fail
        refine (HC.out _ b0).mono ?_
        rintro e w1 ⟨rfl, hb1⟩
        have B1 := bstep' b0 hb1
        have d1 := cell_below d0 hb1
        have x1 := cell_below x0 hb1
        have f1 : w1.frozen? ⟨w.heap.size + 1, 0, none⟩ = false := by rw [hb1.frozen (p := ⟨w.heap.size + 1, 0, none⟩) (by show w.heap.size + 1 < _; omega)]; exact f0
        have z1 : w.heap.size + 1 < w1.heap.size := World.block_lt_of_cell? w1 _ x1
        clear hb1 d0 x0 f0 b0
        go_wp2_with fail
        refine (HAB.out _ _ (row_new2 w1 0 f 3)).mono ?_
        rintro e w2 ⟨rfl, hb2'⟩
        have hb2 := bstep' (below1 w1 (.cells #[.int .i64 0, .int .i64 f] 3)) hb2'
        have B2 := bstep' B1 hb2
        have d2 := cell_below d1 hb2
        have x2 := cell_below x1 hb2
        have f2 : w2.frozen? ⟨w.heap.size + 1, 0, none⟩ = false := by rw [hb2.frozen (p := ⟨w.heap.size + 1, 0, none⟩) z1]; exact f1
        have z2 : w.heap.size + 1 < w2.heap.size := World.block_lt_of_cell? w2 _ x2
        clear hb2 hb2' d1 x1 f1 B1
        go_wp2
        refine bodyPost_ret (v := .tuple #[.agg #[.slice none 0 0], .bool false]) (by simp [results, Try.results33, go_sem, *]) rfl ⟨rfl, B2.setCell (by show w.heap.size ≤ w.heap.size + 1; omega) _⟩
      · obtain ⟨fN, rfl⟩ : ∃ fN : Nat, f = fN := ⟨f.toNat, by omega⟩
        obtain ⟨kN, rfl⟩ : ∃ kN : Nat, k = kN := ⟨k.toNat, by omega⟩
        have hfN : fN < xs.length := by omega
        have hx : xs ≠ [] := by intro e; subst e; simp at hfN
        obtain ⟨b, off, rfl, hbw, hat⟩ := h.at hx
        obtain ⟨t, ta, tc, c0, l1, HR, HX⟩ := hat w (Below.refl _ _) fN hfN
        obtain ⟨ks, rfl, hri, hbe⟩ := (hG.1 fN t HX.out).nats
        have hkm : kN ∉ ks := fun hm => hN ⟨hG, by omega, by omega, by omega, by omega, by rw [Int.toNat_natCast, getD_some HX.out]; exact nats_mem.2 hm⟩
        have hkl := good_len hG HX.out
        rw [nats_length] at hkl c0
        have HSE : Hid (∀ W, Below w.heap.size w W → W.cell? ⟨b, off + fN, none⟩ = some (.slice ta ks.length tc) ∧ Calls Try.prog 58 #[.slice ta ks.length tc, .int .i64 kN] W fun e w' => (∃ r : Int, e = .returned (.tuple #[.int .i64 r, .bool false])) ∧ Below W.heap.size W w') := fun W hW => ⟨cell_below c0 hW, by
          refine (search_any ta tc ks kN W (by omega) (HR.out.below hW) hri).mono ?_
          rintro e w' ⟨rfl, q, rfl⟩
          exact ⟨⟨(posL ks kN : Nat), by rw [decide_eq_false hkm]⟩, below_drewN (Below.refl _ _) q⟩⟩
        clear h hN hA hG hat c0 hx hkm
        go_enter Try.func33, Try.ntmps33
        go_wp2_with fail
        refine (HC.out _ b0).mono ?_
        rintro e w1 ⟨rfl, hb1⟩
        have B1 := bstep' b0 hb1
        have d1 := cell_below d0 hb1
        have x1 := cell_below x0 hb1
        have f1 : w1.frozen? ⟨w.heap.size + 1, 0, none⟩ = false := by rw [hb1.frozen (p := ⟨w.heap.size + 1, 0, none⟩) (by show w.heap.size + 1 < _; omega)]; exact f0
        have z1 : w.heap.size + 1 < w1.heap.size := World.block_lt_of_cell? w1 _ x1
        clear hb1 d0 x0 f0 b0
        go_wp2_with fail
        refine (HAB.out _ _ (row_new2 w1 kN fN 3)).mono ?_
        rintro e w2 ⟨rfl, hb2'⟩
        have hb2 := bstep' (below1 w1 (.cells #[.int .i64 kN, .int .i64 fN] 3)) hb2'
        have B2 := bstep' B1 hb2
        have d2 := cell_below d1 hb2
        have x2 := cell_below x1 hb2
        have f2 : w2.frozen? ⟨w.heap.size + 1, 0, none⟩ = false := by rw [hb2.frozen (p := ⟨w.heap.size + 1, 0, none⟩) z1]; exact f1
        have z2 : w.heap.size + 1 < w2.heap.size := World.block_lt_of_cell? w2 _ x2
        clear hb2 hb2' d1 x1 f1 B1
        obtain ⟨c2, hse⟩ := HSE.out _ B2
        have HSE2 := hid hse
        clear hse
        go_wp2_with fail
        refine HSE2.out.mono ?_
        rintro e w3 ⟨⟨r, rfl⟩, hb3⟩
        have B3 := bstep' B2 hb3
        have x3 := cell_below x2 hb3
        have f3 : w3.frozen? ⟨w.heap.size + 1, 0, none⟩ = false := by rw [hb3.frozen (p := ⟨w.heap.size + 1, 0, none⟩) z2]; exact f2
        clear hb3 x2 f2 B2 d2 c2
        go_wp2
        refine bodyPost_ret (v := .tuple #[.agg #[.slice none 0 0], .bool false]) (by simp [results, Try.results33, go_sem, *]) rfl ⟨rfl, B3.setCell (by show w.heap.size ≤ w.heap.size + 1; omega) _⟩
  · have HC := hid (fun W hb => iGood_any a c xs false W hl (h.below hb) (by simp [hG]))
    clear h hN hG
    go_enter Try.func33, Try.ntmps33
    go_wp2_with fail
    refine (HC.out _ b0).mono ?_
    rintro e w1 ⟨rfl, hb1⟩
    have B1 := bstep' b0 hb1
    have d1 := cell_below d0 hb1
    have x1 := cell_below x0 hb1
    have f1 : w1.frozen? ⟨w.heap.size + 1, 0, none⟩ = false := by rw [hb1.frozen (p := ⟨w.heap.size + 1, 0, none⟩) (by show w.heap.size + 1 < _; omega)]; exact f0
    have z1 : w.heap.size + 1 < w1.heap.size := World.block_lt_of_cell? w1 _ x1
    clear hb1 d0 x0 f0 b0
    go_wp2
    refine bodyPost_ret (v := .tuple #[.agg #[.slice none 0 0], .bool false]) (by simp [results, Try.results33, go_sem, *]) rfl ⟨rfl, B1.setCell (by show w.heap.size ≤ w.heap.size + 1; omega) _⟩
set_option maxHeartbeats 8000000 in
theorem iSplit_in {g : List (List Nat)} (G : Gr g) (a : Option Addr) (c k f : Nat) (s l : List Nat) (w : World) (h : LRow w a (g.map nats)) (hG : GoodG (g.map nats)) (hk0 : 0 < k) (hs : g[f]? = some s) (hlk : g[k]? = some l) (hkm : k ∈ s) (R : Bool) (hR : R = true ↔ g.length ≠ 12) :
    Calls Try.prog 33 #[.agg #[.slice a g.length c], .int .i64 k, .int .i64 f] w fun e w' => ∃ v ys, e = .returned (.tuple #[.agg #[if R = true then v else .slice none 0 0], .bool R]) ∧ OwnL w' w.heap.size v ys ∧ lists ys = splitX (g.map nats) k f ∧ Below w.heap.size w w' := by
  have hgm := G.most
  have hkN := (List.getElem?_eq_some_iff.1 hlk).1
  have hfN := (List.getElem?_eq_some_iff.1 hs).1
  have hri := G.rising f s hs
  have hsl : s.length ≤ 12 := by have := Seen.len (N := g.length) ⟨hri, G.below f s hs⟩; omega
  have hll : l.length ≤ 12 := by have := Seen.len (N := g.length) ⟨G.rising k l hlk, G.below k l hlk⟩; omega
  obtain ⟨hdp, hpl⟩ := dropL_pos hri hkm
  have HC : Hid (∀ W, Below w.heap.size w W → Calls Try.prog 13 #[.agg #[.slice a g.length c]] W fun e w' => e = .returned (.bool true) ∧ Below W.heap.size W w') := fun W hb => by
    have := iGood_any a c (g.map nats) true W (by simp; omega) (h.below hb) (by simp [hG])
    rwa [List.length_map] at this
  have hA : allBel g.length [(k : Int), (f : Int)] = true := allBel_iff.2 (fun i v hv => by
    match i, hv with
    | 0, hv => simp at hv; omega
    | 1, hv => simp at hv; omega
    | i + 2, hv => simp at hv)
  have HAB : Hid (∀ W nb, Row W (some ⟨nb, 0, none⟩) [(k : Int), (f : Int)] → Calls Try.prog 40 #[.int .i64 (g.length : Int), .slice (some ⟨nb, 0, none⟩) 2 2] W fun e w' => e = .returned (.bool true) ∧ Below W.heap.size W w') := fun W nb hr => by
    have := areBelow_any (some ⟨nb, 0, none⟩) 2 [(k : Int), (f : Int)] g.length W (by simp) hr
    rw [hA] at this
    exact this
  obtain ⟨b, off, ta, tc, rfl, cf, rf, hbw⟩ := GRow.at' h (Below.refl _ _) hs
  obtain ⟨b', off', ua, uc, hab, ck, rk, _⟩ := GRow.at' h (Below.refl _ _) hlk
  simp only [Option.some.injEq, Addr.mk.injEq, and_true] at hab
  obtain ⟨rfl, rfl⟩ := hab
  have HCF := hid (And.intro cf (And.intro ck (And.intro rf rk)))
  have HCP : Hid (∀ W, Below w.heap.size w W → Calls Try.prog 59 #[.agg #[.slice (some ⟨b, off, none⟩) g.length c]] W fun e w' => ∃ v ys, e = .returned (.agg #[v]) ∧ OwnL w' W.heap.size v ys ∧ lists ys = g.map nats ∧ Below W.heap.size W w') := fun W hW => by
    have := copyGraph_any (some ⟨b, off, none⟩) c (g.map nats) W (by simp; omega) (fun i t ht => by have := good_len hG ht; omega) (h.below hW)
    rwa [List.length_map] at this
  have HSP := hid (fun a c W (hr : LRow W a (splitX (g.map nats) k f)) => iGood_any a c (splitX (g.map nats) k f) R W (by rw [split_len]; simp; omega) hr (hR.trans (split_good G hs hlk hkm).symm))
  have hk0' : ¬ (k : Int) = 0 := by omega
  have hk0'' : ¬ k = 0 := by omega
  have HG := hid (And.intro hs (And.intro hlk (And.intro hri hkm)))
  clear h hG hs hlk hri hkm hA cf ck rf rk hR G
  have b0 := below2 w (.cells #[.slice (some ⟨b, off, none⟩) g.length c] 27) (.cells #[.slice none 0 0] 27)
  have d0 : ((w.alloc (.cells #[.slice (some ⟨b, off, none⟩) g.length c] 27)).alloc (.cells #[.slice none 0 0] 27)).cell? ⟨w.heap.size, 0, none⟩ = some (.slice (some ⟨b, off, none⟩) g.length c) := by simp [go_sem]
  have x0 : ((w.alloc (.cells #[.slice (some ⟨b, off, none⟩) g.length c] 27)).alloc (.cells #[.slice none 0 0] 27)).cell? ⟨w.heap.size + 1, 0, none⟩ = some (.slice none 0 0) := by simp [go_sem]
  have f0 : ((w.alloc (.cells #[.slice (some ⟨b, off, none⟩) g.length c] 27)).alloc (.cells #[.slice none 0 0] 27)).frozen? ⟨w.heap.size + 1, 0, none⟩ = false := by simp [go_sem]
  have z0 : ((w.alloc (.cells #[.slice (some ⟨b, off, none⟩) g.length c] 27)).alloc (.cells #[.slice none 0 0] 27)).heap.size = w.heap.size + 2 := by simp
  go_enter Try.func33, Try.ntmps33
  go_wp2_with fail
  refine (HC.out _ b0).mono ?_
  rintro e w1 ⟨rfl, hb1⟩
  have B1 := bstep' b0 hb1
  have d1 := cell_below d0 hb1
  have x1 := cell_below x0 hb1
  have f1 : w1.frozen? ⟨w.heap.size + 1, 0, none⟩ = false := by rw [hb1.frozen (p := ⟨w.heap.size + 1, 0, none⟩) (by show w.heap.size + 1 < _; omega)]; exact f0
  have z1 : w.heap.size + 1 < w1.heap.size := World.block_lt_of_cell? w1 _ x1
  clear hb1 d0 x0 f0 b0
  go_wp2_with fail
  refine (HAB.out _ _ (row_new2 w1 k f 3)).mono ?_
  rintro e w2 ⟨rfl, hb2'⟩
  have hb2 := bstep' (below1 w1 (.cells #[.int .i64 k, .int .i64 f] 3)) hb2'
  have B2 := bstep' B1 hb2
  have d2 := cell_below d1 hb2
  have x2 := cell_below x1 hb2
  have f2 : w2.frozen? ⟨w.heap.size + 1, 0, none⟩ = false := by rw [hb2.frozen (p := ⟨w.heap.size + 1, 0, none⟩) z1]; exact f1
  have z2 : w.heap.size + 1 < w2.heap.size := World.block_lt_of_cell? w2 _ x2
  have c2 := cell_below HCF.out.1 B2
  have HSE : Hid (Calls Try.prog 58 #[.slice ta s.length tc, .int .i64 k] w2 fun e w' => e = .returned (.tuple #[.int .i64 (posL s k : Nat), .bool true]) ∧ Below w2.heap.size w2 w') := by
    refine (search_any ta tc s k w2 (by omega) (HCF.out.2.2.1.below B2) HG.out.2.2.1).mono ?_
    rintro e w' ⟨rfl, q, rfl⟩
    exact ⟨by rw [decide_eq_true HG.out.2.2.2], below_drewN (Below.refl _ _) q⟩
  clear hb2 hb2' d1 x1 f1 B1
  go_wp2_with fail
  refine HSE.out.mono ?_
  rintro e w3 ⟨rfl, hb3⟩
  have B3 := bstep' B2 hb3
  have d3 := cell_below d2 hb3
  have x3 := cell_below x2 hb3
  have f3 : w3.frozen? ⟨w.heap.size + 1, 0, none⟩ = false := by rw [hb3.frozen (p := ⟨w.heap.size + 1, 0, none⟩) z2]; exact f2
  have z3 : w.heap.size + 1 < w3.heap.size := World.block_lt_of_cell? w3 _ x3
  clear hb3 x2 f2 B2 d2 c2 HSE
  go_wp2_with fail
  refine (HCP.out _ B3).mono ?_
  rintro e w4 ⟨v4, y4, rfl, O4, hy4, hb4⟩
  obtain ⟨oa, oc, hv4, _⟩ := O4.row
  rw [lists_length] at hv4
  subst hv4
  have hyl : y4.length = g.length := by have := congrArg List.length hy4; rw [lists_length, List.length_map] at this; exact this
  have hyb : y4.length ≤ 12 := by omega
  have hyf : f < y4.length := by omega
  have B4 := bstep' B3 hb4
  have d4 := cell_below d3 hb4
  have x4 := cell_below x3 hb4
  have f4 : w4.frozen? ⟨w.heap.size + 1, 0, none⟩ = false := by rw [hb4.frozen (p := ⟨w.heap.size + 1, 0, none⟩) z3]; exact f3
  have z34 : w3.heap.size ≤ w4.heap.size := hb4.size
  have hb5 := below1 w4 (.cells #[.slice oa y4.length oc] 27)
  have B5 := bstep' B4 hb5
  have d5 := cell_below d4 hb5
  have c5 := cell_below HCF.out.2.1 B5
  have o5 : (w4.alloc (.cells #[.slice oa y4.length oc] 27)).cell? ⟨w4.heap.size, 0, none⟩ = some (.slice oa y4.length oc) := by simp [go_sem]
  have x5 := cell_below x4 hb5
  have f5 : (w4.alloc (.cells #[.slice oa y4.length oc] 27)).frozen? ⟨w.heap.size + 1, 0, none⟩ = false := by rw [hb5.frozen (p := ⟨w.heap.size + 1, 0, none⟩) (by show w.heap.size + 1 < _; omega)]; exact f4
  have HM5 : Hid (Made (w4.alloc (.cells #[.slice oa y4.length oc] 27)) w3.heap.size [⟨27, 1, .slice (some ⟨w4.heap.size, 0, none⟩) 1 1, 1, [.slice oa y4.length oc]⟩] (.slice oa y4.length oc) y4) :=
    Sep.add O4 hb5 ⟨27, 1, .slice (some ⟨w4.heap.size, 0, none⟩) 1 1, 1, [.slice oa y4.length oc]⟩ (cell_own (cs := #[.slice oa y4.length oc]) (heap_alloc_new w4 _) rfl hb4.size) (fun j hj => by cases hj; exact Nat.le_refl _)
  have HY := hid (And.intro hy4 hyl)
  have HX5 := hid (And.intro x5 f5)
  have z5 : (w4.alloc (.cells #[.slice oa y4.length oc] 27)).heap.size = w4.heap.size + 1 := by simp
  have HS0 : Hid (Sep (w4.alloc (.cells #[.slice oa y4.length oc] 27)) (w4.alloc (.cells #[.slice oa y4.length oc] 27)).heap.size ([] ++ ⟨3, 1, .slice none 0 0, 0, []⟩ :: [])) := sep_one (World.ownsRow_nil _ _ _ _)
  have HN0 := hid (News.ints (HCF.out.2.2.2.below B5))
  rw [nats_length] at HN0
  have HB5 := hid B5
  have HO5 := hid (And.intro o5 (And.intro d5 c5))
  clear hb4 x3 f3 B3 d3 O4 hy4 hyl x4 f4 hb5 B4 d4 x5 f5 B5
  go_wp2_with (at_builtin; refine wpList_append_sep eltInt rfl _ _ rfl (w4.alloc (.cells #[.slice oa y4.length oc] 27)).heap.size [] HS0.out rfl HN0.out rfl (by omega) (Nat.le_refl _) ?_)
  intro va vc w6 hs6 hb6' hg6
  have hb6 : Below (w4.alloc (.cells #[.slice oa y4.length oc] 27)).heap.size (w4.alloc (.cells #[.slice oa y4.length oc] 27)) w6 := by rw [z5]; exact hb6'
  have ho6 : w6.ownsRow (w4.alloc (.cells #[.slice oa y4.length oc] 27)).heap.size 3 1 (.slice va l.length vc) l.length (ints (nats l)) := one_sep (l2 := []) (by simpa using hs6)
  have HM6 := hid ((HM5.out.with hb6 (by omega) ⟨nats l, .slice va l.length vc⟩ (by rw [nats_length]; exact ho6)).below (below1 w6 (.cells #[.slice va l.length vc] 40)))
  have HN6 := hid (News.one w6 (.slice va l.length vc) 40 _ rfl rfl)
  have z6 : w4.heap.size + 1 ≤ w6.heap.size := by have := hb6.size; omega
  have HZ6 : Hid (w3.heap.size ≤ (w6.alloc (.cells #[.slice va l.length vc] 40)).heap.size) := by show w3.heap.size ≤ _; simp; omega
  have o6 : w6.cell? ⟨w4.heap.size, 0, none⟩ = some (.slice oa y4.length oc) := cell_below HO5.out.1 hb6
  have HB6 : Hid (Below w3.heap.size (w4.alloc (.cells #[.slice oa y4.length oc] 27)) (w6.alloc (.cells #[.slice va l.length vc] 40))) := (hb6.mono (by omega)).alloc (by omega) _
  clear hs6 hb6 hb6' hg6 ho6 o5 d5 c5 HS0 HN0 HM5
  go_wp2_with (at_builtin; refine wpList_append_sep eltLists rfl _ _ rfl w3.heap.size [⟨27, 1, .slice (some ⟨w4.heap.size, 0, none⟩) 1 1, 1, [.slice oa y4.length oc]⟩] HM6.out rfl HN6.out rfl (by omega) HZ6.out ?_)
  intro va7 vc7 w7 hs7 hb7 hg7
  obtain ⟨zs, hzs⟩ : ∃ zs : List LV, zs = y4 ++ [⟨nats l, .slice va l.length vc⟩] := ⟨_, rfl⟩
  have hs7' : Sep w7 w3.heap.size ([] ++ ⟨27, 1, .slice (some ⟨w4.heap.size, 0, none⟩) 1 1, 1, [.slice oa y4.length oc]⟩ :: ⟨40, 1, .slice va7 (y4.length + 1) vc7, y4.length + 1, vals zs⟩ :: zs.map rowL) := by rw [hzs]; simpa [vals] using hs7
  have hh7 := hs7'.1 ⟨27, 1, .slice (some ⟨w4.heap.size, 0, none⟩) 1 1, 1, [.slice oa y4.length oc]⟩ (by simp)
  have c7 : w7.cell? ⟨w4.heap.size, 0, none⟩ = some (.slice oa y4.length oc) := rowT_at hh7 rfl rfl
  have f7 : w7.frozen? ⟨w4.heap.size, 0, none⟩ = false := rowT_frz hh7 rfl 0
  have hs8 := Sep.store [] hs7' 0 (.slice va7 (y4.length + 1) vc7)
  have HB8 : Hid (Below w3.heap.size (w4.alloc (.cells #[.slice oa y4.length oc] 27)) (w7.setCell ⟨w4.heap.size, 0, none⟩ (.slice va7 (y4.length + 1) vc7))) := (HB6.out.trans hb7).setCell (by show w3.heap.size ≤ w4.heap.size; omega) _
  have hol8 : (w7.setCell ⟨w4.heap.size, 0, none⟩ (.slice va7 (y4.length + 1) vc7)).ownsRow w3.heap.size 40 1 (.slice va7 (y4.length + 1) vc7) (y4.length + 1) (vals zs) := hs8.1 ⟨40, 1, .slice va7 (y4.length + 1) vc7, y4.length + 1, vals zs⟩ (by simp)
  obtain ⟨og, hog⟩ : ∃ og, va7 = some ⟨og, 0, none⟩ := by
    rcases hol8.2 with ⟨h0, h1⟩ | ⟨g', cap', cur', hv', _⟩
    · omega
    · injection hv' with h1 h2 h3; exact ⟨g', h1⟩
  subst hog
  have hzf : ∃ z : LV, zs[f]? = some z ∧ z.r = nats s := by
    obtain ⟨y, hy⟩ : ∃ y, y4[f]? = some y := ⟨_, List.getElem?_eq_getElem hyf⟩
    refine ⟨y, by rw [hzs, List.getElem?_append_left hyf]; exact hy, ?_⟩
    have h1 := lists_at hy
    rw [HY.out.1, List.getElem?_map, HG.out.1] at h1
    exact (Option.some.inj h1).symm
  obtain ⟨⟨zr, zv⟩, hz, hzr⟩ := hzf
  simp only [] at hzr
  subst hzr
  have hoz : (w7.setCell ⟨w4.heap.size, 0, none⟩ (.slice (some ⟨og, 0, none⟩) (y4.length + 1) vc7)).ownsRow w3.heap.size 3 1 zv (nats s).length (ints (nats s)) := hs8.1 (rowL ⟨nats s, zv⟩) (by
    have : rowL ⟨nats s, zv⟩ ∈ zs.map rowL := List.mem_map.2 ⟨_, List.mem_of_getElem? hz, rfl⟩
    simp only [List.nil_append, List.mem_cons]
    exact .inr (.inr this))
  rw [nats_length] at hoz
  obtain ⟨m, hm⟩ : ∃ m, s.length = m + 1 := ⟨s.length - 1, by omega⟩
  obtain ⟨ig, ic, hzv⟩ : ∃ ig ic, zv = .slice (some ⟨ig, 0, none⟩) (m + 1) ic := by
    rcases hoz.2 with ⟨h0, h1⟩ | ⟨g', cap', cur', hv', _⟩
    · omega
    · exact ⟨g', cap', by rw [hv', hm]⟩
  subst hzv
  rw [hm] at hoz
  have hdisj : ig ≠ og ∧ ig ≠ w4.heap.size ∧ og ≠ w4.heap.size := by
    have hp := hs8.2
    simp only [List.nil_append, List.pairwise_cons] at hp
    have hin : rowL ⟨nats s, .slice (some ⟨ig, 0, none⟩) (m + 1) ic⟩ ∈ zs.map rowL := List.mem_map.2 ⟨_, List.mem_of_getElem? hz, rfl⟩
    refine ⟨?_, ?_, ?_⟩
    · intro e
      rcases hp.2.1 _ hin with h1 | h1
      · cases h1
      · exact h1 (by rw [e]; rfl)
    · intro e
      rcases hp.1 _ (List.mem_cons_of_mem _ hin) with h1 | h1
      · cases h1
      · exact h1 (by rw [e]; rfl)
    · intro e
      rcases hp.1 _ (List.mem_cons_self) with h1 | h1
      · cases h1
      · exact h1 (by rw [e]; rfl)
  have hcz : (w7.setCell ⟨w4.heap.size, 0, none⟩ (.slice (some ⟨og, 0, none⟩) (y4.length + 1) vc7)).cell? ⟨og, f, none⟩ = some (.slice (some ⟨ig, 0, none⟩) (m + 1) ic) := rowT_at hol8 rfl (by simp [vals, hz])
  have hfz : (w7.setCell ⟨w4.heap.size, 0, none⟩ (.slice (some ⟨og, 0, none⟩) (y4.length + 1) vc7)).frozen? ⟨og, f, none⟩ = false := rowT_frz hol8 rfl f
  have hch : (w7.setCell ⟨w4.heap.size, 0, none⟩ (.slice (some ⟨og, 0, none⟩) (y4.length + 1) vc7)).cell? ⟨w4.heap.size, 0, none⟩ = some (.slice (some ⟨og, 0, none⟩) (y4.length + 1) vc7) := rowT_at (hs8.1 ⟨27, 1, .slice (some ⟨w4.heap.size, 0, none⟩) 1 1, 1, [.slice (some ⟨og, 0, none⟩) (y4.length + 1) vc7]⟩ (by simp)) rfl rfl
  have hcd : (w7.setCell ⟨w4.heap.size, 0, none⟩ (.slice (some ⟨og, 0, none⟩) (y4.length + 1) vc7)).cell? ⟨w.heap.size, 0, none⟩ = some (.slice (some ⟨b, off, none⟩) g.length c) := by rw [HB8.out.cell (p := ⟨w.heap.size, 0, none⟩) (by show w.heap.size < _; omega)]; exact HO5.out.2.1
  have higb : w3.heap.size ≤ ig ∧ ig < (w7.setCell ⟨w4.heap.size, 0, none⟩ (.slice (some ⟨og, 0, none⟩) (y4.length + 1) vc7)).heap.size := hoz.lt ig rfl
  have hogb : og < (w7.setCell ⟨w4.heap.size, 0, none⟩ (.slice (some ⟨og, 0, none⟩) (y4.length + 1) vc7)).heap.size := (hol8.lt og rfl).2
  have hz8 : w4.heap.size < (w7.setCell ⟨w4.heap.size, 0, none⟩ (.slice (some ⟨og, 0, none⟩) (y4.length + 1) vc7)).heap.size := World.block_lt_of_cell? _ _ hch
  have HF8 := hid (And.intro hs8 (And.intro hol8 (And.intro hoz (And.intro hcz (And.intro hch (And.intro hcd (And.intro higb (And.intro hogb (And.intro hz8 hfz)))))))))
  have HZS := hid (And.intro hzs (And.intro hz hdisj))
  clear hs7 hs7' hb7 hg7 hh7 hs8 hol8 hoz hcz hch hcd higb hogb hz8 hfz hzs hz hdisj HM6 HN6 HZ6 HB6 o6 z6
  go_wp2
  generalize (w7.setCell ⟨w4.heap.size, 0, none⟩ (.slice (some ⟨og, 0, none⟩) (y4.length + 1) vc7)) = w8 at HF8 HB8 ⊢
  obtain ⟨hs8, hol8, hoz, hcz, hch, hcd, higb, hogb, hz8, hfz⟩ := HF8.out
  obtain ⟨hzs, hz, hd1, hd2, hd3⟩ := HZS.out
  have HK : Hid (∀ W, Only (fun x => x = ig) w8 W → (W.cell? ⟨w4.heap.size, 0, none⟩ = some (.slice (some ⟨og, 0, none⟩) (y4.length + 1) vc7) ∧ W.cell? ⟨w.heap.size, 0, none⟩ = some (.slice (some ⟨b, off, none⟩) g.length c) ∧ W.cell? ⟨og, f, none⟩ = some (.slice (some ⟨ig, 0, none⟩) (m + 1) ic)) ∧ W.frozen? ⟨og, f, none⟩ = false) := fun W hW => by
    have k1 : ∀ x, x < w8.heap.size → ¬ x = ig → ∀ j, W.cell? ⟨x, j, none⟩ = w8.cell? ⟨x, j, none⟩ := fun x hx hn j => World.cell?_of_block (a := ⟨x, j, none⟩) (hW.block x hx hn)
    refine ⟨⟨?_, ?_, ?_⟩, ?_⟩
    · rw [k1 _ hz8 (fun e => hd2 e.symm)]; exact hch
    · rw [k1 _ (by omega) (by omega)]; exact hcd
    · rw [k1 _ hogb (fun e => hd1 e.symm)]; exact hcz
    · rw [World.frozen?_of_block (a := ⟨og, f, none⟩) (hW.block og hogb (fun e => hd1 e.symm))]; exact hfz
  have HDE : Hid (∀ W, Below w8.heap.size w8 W → Calls Try.prog 60 #[.slice (some ⟨ig, 0, none⟩) (m + 1) ic, .int .i64 (posL s k : Nat), .int .i64 ((posL s k : Nat) + 1 : Int)] W fun e w' => e = .returned (.slice (some ⟨ig, 0, none⟩) m ic) ∧ w'.ownsRow w3.heap.size 3 1 (.slice (some ⟨ig, 0, none⟩) m ic) m (ints (dropL (nats s) k)) ∧ Only (fun x => x = ig) W w' ∧ m + 1 ≤ ic) := fun W hW => by
    refine (delete_at w3.heap.size ig ic m (nats s) (posL s k) W (by rw [nats_length]; exact hm) (by rw [nats_length]; exact hpl) (by rw [nats_length]; omega) (owns_below hoz hW)).mono ?_
    rintro e w' ⟨rfl, h1, h2, h3⟩
    rw [← hdp] at h1
    exact ⟨rfl, h1, Only.of_grown h2 (fun j hj => by cases hj; rfl), h3⟩
  have hogb3 : w3.heap.size ≤ og := (hol8.lt og rfl).1
  have hwg : ¬ og = w.heap.size := by omega
  have HH := hid (And.intro hs8 (And.intro hzs (And.intro hz (And.intro higb.1 (And.intro hd1 (And.intro hd2 hd3))))))
  have h8k := (HK.out w8 (Only.refl _ _)).1
  obtain ⟨h8a, h8b, h8c⟩ := h8k
  clear hs8 hol8 hoz hcz hch hcd hfz hzs hz HF8 HZS
  go_region_held_law (fun W => W.cell? ⟨w4.heap.size, 0, none⟩ = some (.slice (some ⟨og, 0, none⟩) (y4.length + 1) vc7) ∧ W.cell? ⟨w.heap.size, 0, none⟩ = some (.slice (some ⟨b, off, none⟩) g.length c) ∧ W.cell? ⟨og, f, none⟩ = some (.slice (some ⟨ig, 0, none⟩) (m + 1) ic)) ((first | exact hS11 | exact (HK.out _ hOn10).1 | exact (HK.out _ hOn9).1 | exact (HK.out _ (Only.of_below ((below1 _ _).drew))).1 | exact (HK.out _ (hOn9.trans (Only.of_below (below1 _ _)) (fun _ _ h => h))).1 | exact (HK.out _ (Only.of_below ((Below.refl _ _).drew))).1 | go_keep)) ((first
    | (go_at_call 60; refine (HDE.out _ ((Below.refl _ _).drew)).mono ?_; rintro e w9 ⟨rfl, ho9, hon9, hic⟩; have hOn9 : Only (fun x => x = ig) w8 w9 := (Only.of_below ((Below.refl _ _).drew)).trans hon9 (fun _ _ h => h))
    | (go_at_call 60; refine (HDE.out _ ((below1 _ _).drew)).mono ?_; rintro e w9 ⟨rfl, ho9, hon9, hic⟩; have hOn9 : Only (fun x => x = ig) w8 w9 := (Only.of_below ((below1 _ _).drew)).trans hon9 (fun _ _ h => h); have hlit : w9.cell? ⟨w8.heap.size, 0, none⟩ = some (.int .i64 (g.length : Int)) := (World.cell?_of_block (a := ⟨w8.heap.size, 0, none⟩) (hon9.block w8.heap.size (by simp) (by omega))).trans (by simp [go_sem]))
    | (refine step_append_in (by rfl) _ _ (by rfl) w3.heap.size ig m ic _ ho9 hic (by rfl) w8.heap.size (.int .i64 (g.length : Int)) (by rfl) (by rfl) hlit ?_; intro w10 ho10 hg10; have hOn10 : Only (fun x => x = ig) w8 w10 := hOn9.trans (Only.of_grown (P := fun x => x = ig) hg10 (fun j hj => by cases hj; rfl)) (fun _ _ h => h); obtain ⟨⟨k1, k2, k3⟩, k4⟩ := HK.out _ hOn10; have hS11 : (w10.setCell ⟨og, f, none⟩ (.slice (some ⟨ig, 0, none⟩) (m + 1) ic)).cell? ⟨w4.heap.size, 0, none⟩ = some (.slice (some ⟨og, 0, none⟩) (y4.length + 1) vc7) ∧ (w10.setCell ⟨og, f, none⟩ (.slice (some ⟨ig, 0, none⟩) (m + 1) ic)).cell? ⟨w.heap.size, 0, none⟩ = some (.slice (some ⟨b, off, none⟩) g.length c) ∧ (w10.setCell ⟨og, f, none⟩ (.slice (some ⟨ig, 0, none⟩) (m + 1) ic)).cell? ⟨og, f, none⟩ = some (.slice (some ⟨ig, 0, none⟩) (m + 1) ic) := ⟨set_far k1 hd3, set_far k2 hwg, set_cell_same _ _ _ _ _ k3⟩)
    | (refine step_append_in (by rfl) _ _ (by rfl) w3.heap.size ig m ic _ (owns_below ho9 (below1 _ _)) hic (by rfl) w9.heap.size (.int .i64 (g.length : Int)) (by rfl) (by rfl) (by simp [go_sem]) ?_; intro w10 ho10 hg10; have hOn10 : Only (fun x => x = ig) w8 w10 := (hOn9.trans (Only.of_below (below1 _ _)) (fun _ _ h => h)).trans (Only.of_grown (P := fun x => x = ig) hg10 (fun j hj => by cases hj; rfl)) (fun _ _ h => h); obtain ⟨⟨k1, k2, k3⟩, k4⟩ := HK.out _ hOn10; have hS11 : (w10.setCell ⟨og, f, none⟩ (.slice (some ⟨ig, 0, none⟩) (m + 1) ic)).cell? ⟨w4.heap.size, 0, none⟩ = some (.slice (some ⟨og, 0, none⟩) (y4.length + 1) vc7) ∧ (w10.setCell ⟨og, f, none⟩ (.slice (some ⟨ig, 0, none⟩) (m + 1) ic)).cell? ⟨w.heap.size, 0, none⟩ = some (.slice (some ⟨b, off, none⟩) g.length c) ∧ (w10.setCell ⟨og, f, none⟩ (.slice (some ⟨ig, 0, none⟩) (m + 1) ic)).cell? ⟨og, f, none⟩ = some (.slice (some ⟨ig, 0, none⟩) (m + 1) ic) := ⟨set_far k1 hd3, set_far k2 hwg, set_cell_same _ _ _ _ _ k3⟩)))
  all_goals
    have hg8 : w8.grownBy w10 (some ig) := ⟨hOn10.os, hOn10.tape, hOn10.output, hOn10.size, fun j hj hne => hOn10.block j hj (fun e => hne (by rw [e]))⟩
    have hB11 : Below w3.heap.size (w4.alloc (.cells #[.slice oa y4.length oc] 27)) (w10.setCell ⟨og, f, none⟩ (.slice (some ⟨ig, 0, none⟩) (m + 1) ic)) := (HB8.out.grown hg8 (Nat.le_trans (show w3.heap.size ≤ (w4.alloc (.cells #[.slice oa y4.length oc] 27)).heap.size by omega) HB8.out.size) (fun j hj => by cases hj; exact HH.out.2.2.2.1)).setCell (by show w3.heap.size ≤ og; have := hogb3; omega) _
    have hx11 : (w10.setCell ⟨og, f, none⟩ (.slice (some ⟨ig, 0, none⟩) (m + 1) ic)).cell? ⟨w.heap.size + 1, 0, none⟩ = some (.slice none 0 0) := by rw [hB11.cell (p := ⟨w.heap.size + 1, 0, none⟩) z3]; exact HX5.out.1
    have hf11 : (w10.setCell ⟨og, f, none⟩ (.slice (some ⟨ig, 0, none⟩) (m + 1) ic)).frozen? ⟨w.heap.size + 1, 0, none⟩ = false := by rw [hB11.frozen (p := ⟨w.heap.size + 1, 0, none⟩) z3]; exact HX5.out.2
    have hbw11 : Below w.heap.size w (w10.setCell ⟨og, f, none⟩ (.slice (some ⟨ig, 0, none⟩) (m + 1) ic)) := HB5.out.trans (hB11.mono (by omega))
    obtain ⟨hs8, hzs, hz, _⟩ := HH.out
    obtain ⟨hfl, hze⟩ := List.getElem?_eq_some_iff.1 hz
    have hsplit : zs.map rowL = (zs.take f).map rowL ++ ⟨3, 1, .slice (some ⟨ig, 0, none⟩) (m + 1) ic, (nats s).length, ints (nats s)⟩ :: (zs.drop (f + 1)).map rowL := by
      conv => lhs; rw [splitL hz]
      simp [rowL]
    rw [hsplit] at hs8
    have hs10 := Sep.turn (w1 := w8) (⟨27, 1, .slice (some ⟨w4.heap.size, 0, none⟩) 1 1, 1, [.slice (some ⟨og, 0, none⟩) (y4.length + 1) vc7]⟩ :: ⟨40, 1, .slice (some ⟨og, 0, none⟩) (y4.length + 1) vc7, y4.length + 1, vals zs⟩ :: (zs.take f).map rowL) hs8 (Below.refl _ _) hg8 ⟨3, 1, .slice (some ⟨ig, 0, none⟩) (m + 1) ic, m + 1, ints (dropL (nats s) k) ++ [Value.int .i64 (g.length : Int)]⟩ ho10 (fun j hj => .inl hj)
    have hs11 := Sep.store [⟨27, 1, .slice (some ⟨w4.heap.size, 0, none⟩) 1 1, 1, [.slice (some ⟨og, 0, none⟩) (y4.length + 1) vc7]⟩] hs10 f (.slice (some ⟨ig, 0, none⟩) (m + 1) ic)
    obtain ⟨zs', hzs'⟩ : ∃ z, z = zs.set f ⟨dropL (nats s) k ++ [(g.length : Int)], .slice (some ⟨ig, 0, none⟩) (m + 1) ic⟩ := ⟨_, rfl⟩
    have hval : (vals zs).set f (.slice (some ⟨ig, 0, none⟩) (m + 1) ic) = vals zs' := by rw [hzs']; simp [vals, List.map_set]
    have hdl : (dropL (nats s) k ++ [(g.length : Int)]).length = m + 1 := by rw [hdp]; simp [nats_length]; omega
    have hrows : zs'.map rowL = (zs.take f).map rowL ++ ⟨3, 1, .slice (some ⟨ig, 0, none⟩) (m + 1) ic, m + 1, ints (dropL (nats s) k) ++ [Value.int .i64 (g.length : Int)]⟩ :: (zs.drop (f + 1)).map rowL := by
      rw [hzs', List.set_eq_take_append_cons_drop, if_pos hfl]
      simp only [List.map_append, List.map_cons, rowL, hdl, ints_append]
      rfl
    have hzl : zs'.length = y4.length + 1 := by rw [hzs', List.length_set, hzs]; simp
    have hlz : lists zs' = splitX (g.map nats) k f := by
      have e1 : lists zs = g.map nats ++ [nats l] := by rw [hzs, ← HY.out.1]; simp [lists]
      have e2 : lists zs' = (lists zs).set f (dropL (nats s) k ++ [(g.length : Int)]) := by rw [hzs']; simp [lists, List.map_set]
      rw [e2, e1, List.set_append_left _ _ (by simp; exact hfN)]
      unfold splitX
      rw [getD_some (l := nats s) (by simp [HG.out.1]), getD_some (l := nats l) (by simp [HG.out.2.1]), List.length_map]
    have O11 : OwnL (w10.setCell ⟨og, f, none⟩ (.slice (some ⟨ig, 0, none⟩) (m + 1) ic)) w3.heap.size (.slice (some ⟨og, 0, none⟩) (y4.length + 1) vc7) zs' := by
      unfold OwnL rowsL
      rw [hzl, hrows, ← hval]
      exact Sep.tail hs11
    have HSG : Hid (Calls Try.prog 13 #[.agg #[.slice (some ⟨og, 0, none⟩) (y4.length + 1) vc7]] (w10.setCell ⟨og, f, none⟩ (.slice (some ⟨ig, 0, none⟩) (m + 1) ic)) fun e w' => e = .returned (.bool R) ∧ Below (w10.setCell ⟨og, f, none⟩ (.slice (some ⟨ig, 0, none⟩) (m + 1) ic)).heap.size (w10.setCell ⟨og, f, none⟩ (.slice (some ⟨ig, 0, none⟩) (m + 1) ic)) w') := by
      have := HSP.out (some ⟨og, 0, none⟩) vc7 (w10.setCell ⟨og, f, none⟩ (.slice (some ⟨ig, 0, none⟩) (m + 1) ic)) (own_lrow O11 hlz)
      rw [split_len, List.length_map, ← HY.out.2] at this
      exact this
    have HFI := hid (And.intro O11 (And.intro hlz hbw11))
    have hc11 := hS11.1
    clear hs8 hs10 hs11 hg8 hB11 hzs hz hze hsplit hrows hval hzl hlz O11 hdl hzs' HH HK hOn10 hOn9 ho10 ho9 hon9 hg10 hbw11
    go_wp2_with fail
    refine HSG.out.mono ?_
    rintro e w12 ⟨rfl, hb12⟩
    have c12 := cell_below hc11 hb12
    have x12 := cell_below hx11 hb12
    have f12 : w12.frozen? ⟨w.heap.size + 1, 0, none⟩ = false := by rw [hb12.frozen (p := ⟨w.heap.size + 1, 0, none⟩) (World.block_lt_of_cell? _ _ hx11)]; exact hf11
    have HO := hid (And.intro ((OwnL.below HFI.out.1 hb12)) (And.intro HFI.out.2.1 (bstep' HFI.out.2.2 hb12)))
    clear hb12
    cases R
    · go_wp2
      refine bodyPost_ret (v := .tuple #[.agg #[.slice none 0 0], .bool false]) (by simp [results, Try.results33, go_sem, *]) rfl ⟨rfl, .slice (some ⟨og, 0, none⟩) (y4.length + 1) vc7, zs', Sep.mono (Sep.aside HO.out.1 (by omega) _) (by omega), HO.out.2.1, HO.out.2.2.setCell (by show w.heap.size ≤ w.heap.size + 1; omega) _⟩
    · go_wp2
      refine bodyPost_ret (v := .tuple #[.agg #[.slice (some ⟨og, 0, none⟩) (y4.length + 1) vc7], .bool true]) (by simp [results, Try.results33, go_sem, *]) rfl ⟨.slice (some ⟨og, 0, none⟩) (y4.length + 1) vc7, rfl, zs', Sep.mono (Sep.aside HO.out.1 (by omega) _) (by omega), HO.out.2.1, HO.out.2.2.setCell (by show w.heap.size ≤ w.heap.size + 1; omega) _⟩
end Go.Proofs.Ytjnlhffmahfekaa
