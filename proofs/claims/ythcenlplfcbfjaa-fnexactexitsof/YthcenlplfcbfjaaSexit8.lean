/- The edges that lead out of a loop: the model. -/
import Derived.Test.YthcenlplfcbfjaaJ5
import Derived.Test.YthcenlplfcbfjaaSback8
namespace Go.Proofs.Ythcenlplfcbfjaa
open Go Go.RowKit
set_option linter.unusedVariables false
set_option linter.unusedSimpArgs false
set_option maxRecDepth 100000

/-- the edges that lead out of a loop, node by node -/
def outAt (g : List (List Nat)) (S : List Nat) (k : Nat) : List (Nat × Nat) := ((edgesAt g k).filter fun e => !(decide (e.2 ∈ S)))
def outOf (g : List (List Nat)) (S : List Nat) (ks : List Nat) : List (Nat × Nat) := ks.flatMap (outAt g S)
theorem outOf_snoc (g : List (List Nat)) (S ks : List Nat) (k : Nat) : outOf g S (ks ++ [k]) = outOf g S ks ++ outAt g S k := by simp [outOf]
theorem outAt_of {g : List (List Nat)} {k : Nat} {l : List Nat} (h : g[k]? = some l) (S : List Nat) : outAt g S k = (l.map fun v => (k, v)).filter fun e => !(decide (e.2 ∈ S)) := by
  unfold outAt edgesAt
  rw [h]
  rfl
theorem outOf_few {g : List (List Nat)} (G : Gr g) (S ks : List Nat) : (outOf g S ks).length ≤ 12 * ks.length := by
  have h1 := edges_few G ks
  have h2 : ∀ us : List Nat, (outOf g S us).length ≤ (us.flatMap (edgesAt g)).length := by
    intro us
    induction us with
    | nil => simp [outOf]
    | cons u us ih =>
      unfold outOf at ih ⊢
      rw [List.flatMap_cons, List.flatMap_cons, List.length_append, List.length_append]
      have := List.length_filter_le (fun e : Nat × Nat => !(decide (e.2 ∈ S))) (edgesAt g u)
      unfold outAt at ih ⊢
      omega
  have := h2 ks
  omega
theorem sExits_bad (a : Option Addr) (c : Nat) (xs : List (List Int)) (i : Int) (w : World) (hl : xs.length ≤ 9223372036854775807) (h : LRow w a xs) (hG : ¬ GoodG xs) :
    Calls Try.prog 30 #[.agg #[.slice a xs.length c], .int .i64 i] w fun e w' => e = .returned (.tuple #[.slice none 0 0, .bool false]) ∧ Below w.heap.size w w' := by
  have b0 := below1 w (.cells #[.slice a xs.length c] 28)
  have HR := hid (sLoops_bad a c xs (w.alloc (.cells #[.slice a xs.length c] 28)) hl (LRow.below h b0) hG)
  clear h
  go_enter Try.func30, Try.ntmps30
  go_wp2_with fail
  refine HR.out.mono ?_
  rintro e w1 ⟨rfl, hb1⟩
  have B1 := bstep' b0 hb1
  clear hb1 b0 HR
  go_wp2
  go_ret2
  exact ⟨rfl, B1⟩
set_option maxHeartbeats 8000000 in
theorem sExits_good {g D : List (List Nat)} {L : List (Nat × List Nat)} (G : Gr g) (hD : IsDoms g D) (hL : Rings g D g.length L) (i : Int) (a : Option Addr) (c : Nat) (w : World) (h : GRow w a g) (hG : GoodG (g.map nats)) :
    Calls Try.prog 30 #[.agg #[.slice a g.length c], .int .i64 i] w fun e w' => (((Cyc2 g D ∨ isNode i L.length = false) ∧ e = .returned (.tuple #[.slice none 0 0, .bool false])) ∨ (¬ Cyc2 g D ∧ ∃ (x : Nat) (l : Nat × List Nat) (v : Value) (ys : List LV), i = x ∧ L[x]? = some l ∧ e = .returned (.tuple #[v, .bool true]) ∧ OwnL w' w.heap.size v ys ∧ lists ys = pairsL (outOf g l.2 l.2))) ∧ Below w.heap.size w w' := by
  have hgm := G.most
  have b0 := below1 w (.cells #[.slice a g.length c] 28)
  have d0 : (w.alloc (.cells #[.slice a g.length c] 28)).cell? ⟨w.heap.size, 0, none⟩ = some (.slice a g.length c) := by simp [go_sem]
  have HR := hid (sLoops_good G hD a c (w.alloc (.cells #[.slice a g.length c] 28)) (LRow.below h b0) hG)
  have H := hid h
  clear h
  go_enter Try.func30, Try.ntmps30
  go_wp2_with fail
  refine HR.out.mono ?_
  rintro e w1 ⟨hc, hb1⟩
  have B1 := bstep' b0 hb1
  have d1 := cell_below d0 hb1
  have hz1 : w.heap.size + 1 ≤ w1.heap.size := by have := hb1.size; simp at this; omega
  clear hb1 b0 HR d0
  rcases hc with ⟨h1, rfl⟩ | ⟨h1, v, ys, rfl, ho, hla⟩
  · have HC := hid h1
    clear h1
    go_wp2
    go_ret2
    exact ⟨.inl ⟨.inl HC.out, rfl⟩, B1⟩
  · have HC := hid h1
    obtain ⟨va, vc, rfl⟩ := ho.slice
    obtain rfl : L = loopsP ys := hL.unique hla.rings
    have hyl : ys.length ≤ 12 := by have := hL.le; rw [loopsP_len] at this; omega
    have HO := hid ho
    clear h1 ho hla
    by_cases hi0 : i < 0
    · have HN : Hid (isNode i (loopsP ys).length = false) := by show _ = _; unfold isNode; simp; omega
      go_wp2
      go_ret2
      exact ⟨.inl ⟨.inr HN.out, rfl⟩, B1⟩
    · obtain ⟨x, rfl⟩ : ∃ x : Nat, i = x := ⟨i.toNat, by omega⟩
      by_cases hxl : x < ys.length
      · obtain ⟨y, hy⟩ : ∃ y, ys[x]? = some y := ⟨_, List.getElem?_eq_getElem hxl⟩
        obtain ⟨b, ra, rc, rfl, hb1, hb2, c0, c1, c2, _, ro, hyv⟩ := HO.out.at hy
        have hib := hL.mem (List.mem_of_getElem? (loopsP_at hy))
        have hhc := isHead.come G hib.2.1
        have hrl : y.s.length ≤ 12 := hib.2.2.few G hhc
        have hrr : Row w1 ra (nats y.s) := own_row (c := rc) (by rw [nats_length]; exact ro)
        have HY := hid (And.intro hrr (And.intro hib.2.2 (loopsP_at hy)))
        clear ro hyv hib hrr hy hi0
        go_wp2
        go_loopw [8, 36] (fun t8 t36 wr => ∃ (k : Nat) (oa : Option Addr) (oc : Nat) (zs : List LV), t36 = .int .i64 k ∧ k ≤ y.s.length ∧ t8 = .slice oa zs.length oc ∧ Made wr w1.heap.size [] (.slice oa zs.length oc) zs ∧ lists zs = pairsL (outOf g y.s (y.s.take k)) ∧ Below w1.heap.size w1 wr) (fun _ t36 _ => y.s.length - (intOf t36).toNat)
        case atStart => exact ⟨0, none, 0, [], rfl, by omega, rfl, ⟨by intro x hx; simp [vals] at hx; subst hx; exact World.ownsRow_nil _ _ _ _, by simp⟩, rfl, Below.refl _ _⟩
        case round =>
          obtain ⟨k, oa, oc, zs, rfl, hk, rfl, hm, hzs, hB⟩ := hrel
          by_cases hkl : k < y.s.length
          · obtain ⟨q, hq⟩ : ∃ q, y.s[k]? = some q := ⟨_, List.getElem?_eq_getElem hkl⟩
            have hqc : Come g q := ((HY.out.2.1.2 q).1 (List.mem_of_getElem? hq)).come G hhc
            have hqg : q < g.length := RchW.lt G hqc
            obtain ⟨l, hl⟩ : ∃ l, g[q]? = some l := ⟨_, List.getElem?_eq_getElem hqg⟩
            have hll : l.length ≤ 12 := by have h1 := nodup_le (n := g.length) (rising_nodup (G.rising _ l hl)) (fun j hj => G.below _ l hl j hj); omega
            have BW := B1.trans (hB.mono B1.size)
            obtain ⟨rb, roff, rfl, hrb, hcs⟩ := HY.out.1.at (by intro e; have := congrArg List.length e; rw [nats_length] at this; simp only [List.length_nil] at this; omega)
            obtain ⟨x', hcx, hx'⟩ := hcs wr hB k (by rw [nats_length]; exact hkl)
            obtain rfl : x' = (q : Int) := by have := hx'.out; simp [nats, hq] at this; exact this.symm
            obtain ⟨gb, goff, ta, tc, rfl, hcl, hrow, hbb⟩ := GRow.at' H.out BW hl
            have dr := cell_below d1 hB
            have HTK : Hid (y.s.take (k + 1) = y.s.take k ++ [q]) := by show _ = _; rw [List.take_add_one, hq]; rfl
            have HR := hid (And.intro hrow (And.intro hl (And.intro hm hzs)))
            clear hrow hl hm hzs hcs hx' hq
            go_wp2
            obtain ⟨wo, rfl⟩ : ∃ wo : World, wo = wr := ⟨_, rfl⟩
            go_loopw [8, 46] (fun t8 t46 wq => ∃ (j : Nat) (oa : Option Addr) (oc : Nat) (zs : List LV), t46 = .int .i64 j ∧ j ≤ l.length ∧ t8 = .slice oa zs.length oc ∧ Made wq w1.heap.size [] (.slice oa zs.length oc) zs ∧ lists zs = pairsL (outOf g y.s (y.s.take k) ++ ((l.take j).map fun v => (q, v)).filter fun e => !(decide (e.2 ∈ y.s))) ∧ Below w1.heap.size w1 wq) (fun _ t46 _ => l.length - (intOf t46).toNat)
            case atStart => exact ⟨0, oa, oc, zs, rfl, by omega, rfl, HR.out.2.2.1, by simpa using HR.out.2.2.2, hB⟩
            case round =>
              clear dr hcx hcl BW
              obtain ⟨j, oa2, oc2, zs2, rfl, hj, rfl, hm, hzs, hB2⟩ := hrel
              have hz2 : w1.heap.size ≤ wr.heap.size := hB2.size
              have hzb : zs2.length ≤ 400 := by
                have h1 := congrArg List.length hzs
                rw [lists_length] at h1
                simp only [pairsL, List.length_map, List.length_append] at h1
                have h2 := outOf_few G y.s (y.s.take k)
                have h3 := List.length_filter_le (fun e : Nat × Nat => !(decide (e.2 ∈ y.s))) ((l.take j).map fun v => (q, v))
                simp only [List.length_map, List.length_take] at h2 h3
                omega
              by_cases hjl : j < l.length
              · obtain ⟨x1, hx1⟩ : ∃ x1, l[j]? = some x1 := ⟨_, List.getElem?_eq_getElem hjl⟩
                obtain ⟨tb, toff, rfl, htb, hcs⟩ := HR.out.1.at (by intro e; have := congrArg List.length e; rw [nats_length] at this; simp only [List.length_nil] at this; omega)
                obtain ⟨x', hcx, hx'⟩ := hcs wr (B1.trans (hB2.mono B1.size)) j (by rw [nats_length]; exact hjl)
                obtain rfl : x' = (x1 : Int) := by have := hx'.out; simp [nats, hx1] at this; exact this.symm
                have c12 := cell_below c1 hB2
                have HTL : Hid (((l.take (j + 1)).map fun v => (q, v)).filter (fun e : Nat × Nat => !(decide (e.2 ∈ y.s))) = ((l.take j).map fun v => (q, v)).filter (fun e : Nat × Nat => !(decide (e.2 ∈ y.s))) ++ [(q, x1)].filter (fun e : Nat × Nat => !(decide (e.2 ∈ y.s)))) := by show _ = _; rw [List.take_add_one, hx1, List.map_append, List.filter_append]; rfl
                have HH := hid (hasR_any (some ⟨rb, roff, none⟩) rc y.s x1 wr (by omega) (HY.out.1.below hB2))
                have HM := hid (And.intro hm hzs)
                clear hm hzs hcs hx' hx1
                by_cases hin : x1 ∈ y.s
                · have tx : decide (x1 ∈ y.s) = true := decide_eq_true hin
                  rw [tx] at HH
                  have HI : Hid ([(q, x1)].filter (fun e : Nat × Nat => !(decide (e.2 ∈ y.s))) = []) := by show _ = _; simp [hin]
                  go_wp2_with fail
                  refine HH.out.mono ?_
                  rintro e w4 ⟨rfl, hw4⟩
                  subst w4
                  go_wp2
                  go_roundw
                  case rel => exact ⟨j + 1, oa2, oc2, zs2, by go_num, by omega, rfl, HM.out.1, by rw [HTL.out, HI.out, List.append_nil]; exact HM.out.2, hB2⟩
                  case measure => simp [intOf]; omega
                · have tx : decide (x1 ∈ y.s) = false := decide_eq_false hin
                  rw [tx] at HH
                  have HI : Hid ([(q, x1)].filter (fun e : Nat × Nat => !(decide (e.2 ∈ y.s))) = [(q, x1)]) := by show _ = _; simp [hin]
                  go_wp2_with fail
                  refine HH.out.mono ?_
                  rintro e w4 ⟨rfl, hw4⟩
                  subst w4
                  have bA := below1 wr (.cells #[.int .i64 (q : Int), .int .i64 (x1 : Int)] 3)
                  have hpo := pair_own wr (q : Int) (x1 : Int)
                  have HM3 := hid ((HM.out.1.with bA hz2 ⟨[(q : Int), (x1 : Int)], .slice (some ⟨wr.heap.size, 0, none⟩) 2 2⟩ hpo).below (below1 (wr.alloc (.cells #[.int .i64 (q : Int), .int .i64 (x1 : Int)] 3)) (.cells #[.slice (some ⟨wr.heap.size, 0, none⟩) 2 2] 42)))
                  have HN1 := hid (News.one (wr.alloc (.cells #[.int .i64 (q : Int), .int .i64 (x1 : Int)] 3)) (.slice (some ⟨wr.heap.size, 0, none⟩) 2 2) 42 (wr.heap.size + 1) (by simp) rfl)
                  have HZ1 : Hid (w1.heap.size ≤ ((wr.alloc (.cells #[.int .i64 (q : Int), .int .i64 (x1 : Int)] 3)).alloc (.cells #[.slice (some ⟨wr.heap.size, 0, none⟩) 2 2] 42)).heap.size) := by show w1.heap.size ≤ _; simp; omega
                  have HB2 := hid (hB2.trans ((below2 wr (.cells #[.int .i64 (q : Int), .int .i64 (x1 : Int)] 3) (.cells #[.slice (some ⟨wr.heap.size, 0, none⟩) 2 2] 42)).mono hB2.size))
                  clear hpo bA
                  go_wp2_with (at_builtin; refine wpList_append_sep eltLists rfl _ _ rfl w1.heap.size [] HM3.out rfl HN1.out rfl (by omega) HZ1.out ?_)
                  intro va2 vc2 w5 hs2 hb2 hg2
                  have HM4 : Hid (Made w5 w1.heap.size [] (.slice va2 (zs2.length + 1) vc2) (zs2 ++ [⟨[(q : Int), (x1 : Int)], .slice (some ⟨wr.heap.size, 0, none⟩) 2 2⟩])) := Made.grown (n := 0) (by simpa using hs2)
                  have HB3 := hid (HB2.out.trans (hb2.mono (Nat.le_refl _)))
                  clear hs2 hb2 hg2 HM3
                  go_wp2
                  go_roundw
                  case rel =>
                    refine ⟨j + 1, va2, vc2, zs2 ++ [⟨[(q : Int), (x1 : Int)], .slice (some ⟨wr.heap.size, 0, none⟩) 2 2⟩], by go_num, by omega, by rw [List.length_append]; rfl, ?_, ?_, HB3.out⟩
                    · have := HM4.out; rw [List.length_append]; exact this
                    · rw [HTL.out, HI.out, ← List.append_assoc, pairsL_snoc, ← HM.out.2]; simp [lists]
                  case measure => simp [intOf]; omega
              · obtain rfl : j = l.length := by omega
                rw [List.take_of_length_le (Nat.le_refl _)] at hzs
                have HM := hid (And.intro hm hzs)
                clear hm hzs
                go_wp2
                go_roundw
                case rel => exact ⟨k + 1, oa2, oc2, zs2, by go_num, by omega, rfl, HM.out.1, by rw [HTK.out, outOf_snoc, outAt_of HR.out.2.1]; exact HM.out.2, hB2⟩
                case measure => simp [intOf]; omega
          · obtain rfl : k = y.s.length := by omega
            rw [List.take_of_length_le (Nat.le_refl _)] at hzs
            have HM := hid (And.intro (show OwnL wr w.heap.size (.slice oa zs.length oc) zs from Sep.mono (by simpa [Made, rowsL] using hm) B1.size) (And.intro hzs (B1.trans (hB.mono B1.size))))
            clear hm hzs
            go_wp2
            go_ret2
            exact ⟨.inr ⟨HC.out, x, (y.h, y.s), _, zs, rfl, HY.out.2.2, rfl, HM.out.1, HM.out.2.1⟩, HM.out.2.2⟩
      · have HN : Hid (isNode (x : Int) (loopsP ys).length = false) := by show _ = _; unfold isNode; rw [loopsP_len]; simp; omega
        go_wp2
        go_ret2
        exact ⟨.inl ⟨.inr HN.out, rfl⟩, B1⟩
end Go.Proofs.Ythcenlplfcbfjaa

