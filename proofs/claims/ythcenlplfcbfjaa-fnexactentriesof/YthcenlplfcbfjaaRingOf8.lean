/- The loop of a graph that has a number: the program. -/
import Derived.Test.YthcenlplfcbfjaaJ5
namespace Go.Proofs.Ythcenlplfcbfjaa
open Go Go.RowKit
set_option linter.unusedVariables false
set_option linter.unusedSimpArgs false
set_option maxRecDepth 100000

theorem areBelow_one (b n : Nat) (i : Int) (w : World) (hc : w.cell? ⟨b, 0, none⟩ = some (.int .i64 i)) :
    Calls Try.prog 73 #[.int .i64 n, .slice (some ⟨b, 0, none⟩) 1 1] w fun e w' => e = .returned (.bool (isNode i n)) ∧ Below w.heap.size w w' := by
  have := areBelow_any (some ⟨b, 0, none⟩) 1 [i] (n : Int) w (by simp) (.inr ⟨_, _, rfl, fun j hj => by
    have : j = 0 := by simp at hj; exact hj
    subst this
    simpa using hc⟩)
  rw [allBel_node i n] at this
  exact this
theorem two_new (w : World) (o : Obj) {b : Nat} (hb : w.heap.size = b) : (w.alloc o).heap[b]? = some o := by
  subst hb
  unfold World.alloc
  simp
/-- a ring stored into its box -/
theorem ring_store {w W : World} {xs : List Value} (o : (cellOR 78 2 (w.heap.size + 1) xs).own W (w.heap.size + 1)) (hB : Below w.heap.size w W) (h : Int) (v : Value) :
    (W.setCell ⟨w.heap.size + 1, 0, none⟩ (.int .i64 h)).frozen? ⟨w.heap.size + 1, 1, none⟩ = false ∧ (W.setCell ⟨w.heap.size + 1, 0, none⟩ (.int .i64 h)).frozen? ⟨w.heap.size + 1, 0, none⟩ = false ∧ ((W.setCell ⟨w.heap.size + 1, 0, none⟩ (.int .i64 h)).setCell ⟨w.heap.size + 1, 1, none⟩ v).cell? ⟨w.heap.size + 1, 0, none⟩ = some (.int .i64 h) ∧ ((W.setCell ⟨w.heap.size + 1, 0, none⟩ (.int .i64 h)).setCell ⟨w.heap.size + 1, 1, none⟩ v).cell? ⟨w.heap.size + 1, 1, none⟩ = some v ∧ Below w.heap.size w ((W.setCell ⟨w.heap.size + 1, 0, none⟩ (.int .i64 h)).setCell ⟨w.heap.size + 1, 1, none⟩ v) := by
  have hl : xs.length = 2 := by have := o.1; simpa using this
  have s1 := Sep.store [] (sep_one o) 0 (.int .i64 h)
  have s2 := Sep.store [] s1 1 v
  have h1 := one_sep s1
  have h2 := one_sep s2
  match xs, hl with
  | [x0, x1], _ =>
    exact ⟨rowT_frz h1 rfl _, rowT_frz h1 rfl _, rowT_at h2 rfl rfl, rowT_at h2 rfl rfl, (hB.setCell (show w.heap.size ≤ w.heap.size + 1 by omega) _).setCell (show w.heap.size ≤ w.heap.size + 1 by omega) _⟩
/-- no such loop -/
theorem ringOf_no (a : Option Addr) (n c m : Nat) (i : Int) (w : World) (hm : m ≤ 1000) (hn : isNode i m = false) (HRI : ∀ W, Below w.heap.size w W → Calls Try.prog 90 #[.agg #[.slice a n c]] W fun e w' => (∃ v va vc b, e = .returned (.tuple #[v, .bool b]) ∧ v = .slice va m vc) ∧ Below W.heap.size W w') :
    Calls Try.prog 62 #[.agg #[.slice a n c], .int .i64 i] w fun e w' => e = .returned (.tuple #[.agg #[.int .i64 0, .slice none 0 0], .bool false]) ∧ Below w.heap.size w w' := by
  obtain ⟨W0, hW0⟩ : ∃ W0, ((w.alloc (.cells #[.slice a n c] 28)).alloc (.cells #[.int .i64 0, .slice none 0 0] 78)) = W0 := ⟨_, rfl⟩
  have b0 : Below w.heap.size w W0 := by rw [← hW0]; exact below2 _ _ _
  have d0 : W0.cell? ⟨w.heap.size, 0, none⟩ = some (.slice a n c) := by rw [← hW0]; exact ((Boxed.new w 28 (.slice a n c)).alloc _).cell
  have o0 : (cellOR 78 2 (w.heap.size + 1) [.int .i64 0, .slice none 0 0]).own W0 (w.heap.size + 1) := cell_own (cs := #[.int .i64 0, .slice none 0 0]) (by rw [← hW0]; exact two_new (w.alloc (.cells #[.slice a n c] 28)) _ (by simp)) rfl (Nat.le_refl _)
  have HR := hid HRI
  clear HRI
  go_enter Try.func62, Try.ntmps62
  go_wp2_with fail
  refine (HR.out _ b0).mono ?_
  rintro e w1 ⟨⟨v, va, vc, bb, rfl, rfl⟩, hb1⟩
  have B1 := bstep' b0 hb1
  have o1 := owns_below o0 hb1
  have c10 : w1.cell? ⟨w.heap.size + 1, 0, none⟩ = some (.int .i64 0) := rowT_at o1 rfl rfl
  have c11 : w1.cell? ⟨w.heap.size + 1, 1, none⟩ = some (.slice none 0 0) := rowT_at o1 rfl rfl
  have b1 := below1 w1 (.cells #[.int .i64 i] 3)
  have HB := hid (areBelow_one w1.heap.size m i (w1.alloc (.cells #[.int .i64 i] 3)) (by simp [go_sem]))
  rw [hn] at HB
  have B2 := bstep' B1 b1
  have o2 := owns_below o1 b1
  clear b0 d0 hb1 HR o0 o1 c10 c11 b1
  go_wp2_with fail
  refine HB.out.mono ?_
  rintro e w2 ⟨rfl, hb2⟩
  have B3 := bstep' B2 hb2
  have o3 := owns_below o2 hb2
  have f0 := rowT_frz o3 (g := w.heap.size + 1) rfl 0
  have f1 := rowT_frz o3 (g := w.heap.size + 1) rfl 1
  have c30 : w2.cell? ⟨w.heap.size + 1, 0, none⟩ = some (.int .i64 0) := rowT_at o3 rfl rfl
  have c31 : w2.cell? ⟨w.heap.size + 1, 1, none⟩ = some (.slice none 0 0) := rowT_at o3 rfl rfl
  obtain ⟨f0', f1', c50, c51, B5⟩ := ring_store o3 B3 0 (.slice none 0 0)
  clear hb2 HB o2 o3
  go_wp2
  refine bodyPost_ret (v := .tuple #[.agg #[.int .i64 0, .slice none 0 0], .bool false]) (by simp [results, Try.results62, go_sem, c50, c51]) rfl ⟨rfl, ?_⟩
  exact B5
/-- the loop that has a number -/
theorem ringOf_yes (a : Option Addr) (n c : Nat) (L : List (Nat × List Nat)) (k : Nat) (l : Nat × List Nat) (hk : L[k]? = some l) (hL : L.length ≤ 1000) (w : World) (HRI : ∀ W, Below w.heap.size w W → Calls Try.prog 90 #[.agg #[.slice a n c]] W fun e w' => (∃ v ys, e = .returned (.tuple #[v, .bool true]) ∧ OwnG w' W.heap.size v ys ∧ loopsR ys = L) ∧ Below W.heap.size W w') :
    Calls Try.prog 62 #[.agg #[.slice a n c], .int .i64 (k : Int)] w fun e w' => (∃ ra rc, e = .returned (.tuple #[.agg #[.int .i64 (l.1 : Int), .slice ra l.2.length rc], .bool true]) ∧ w'.ownsRow (w.heap.size + 2) 3 1 (.slice ra l.2.length rc) l.2.length (ints (nats l.2))) ∧ Below w.heap.size w w' := by
  obtain ⟨W0, hW0⟩ : ∃ W0, ((w.alloc (.cells #[.slice a n c] 28)).alloc (.cells #[.int .i64 0, .slice none 0 0] 78)) = W0 := ⟨_, rfl⟩
  have b0 : Below w.heap.size w W0 := by rw [← hW0]; exact below2 _ _ _
  have d0 : W0.cell? ⟨w.heap.size, 0, none⟩ = some (.slice a n c) := by rw [← hW0]; exact ((Boxed.new w 28 (.slice a n c)).alloc _).cell
  have z0 : W0.heap.size = w.heap.size + 2 := by rw [← hW0]; simp
  have o0 : (cellOR 78 2 (w.heap.size + 1) [.int .i64 0, .slice none 0 0]).own W0 (w.heap.size + 1) := cell_own (cs := #[.int .i64 0, .slice none 0 0]) (by rw [← hW0]; exact two_new (w.alloc (.cells #[.slice a n c] 28)) _ (by simp)) rfl (Nat.le_refl _)
  have hkl := (List.getElem?_eq_some_iff.1 hk).1
  have hn : isNode (k : Int) L.length = true := by unfold isNode; simp; omega
  have HR := hid HRI
  have HZ0 := hid z0
  clear HRI z0
  go_enter Try.func62, Try.ntmps62
  go_wp2_with fail
  refine (HR.out _ b0).mono ?_
  rintro e w1 ⟨⟨v, ys, rfl, ho, hys⟩, hb1⟩
  obtain ⟨va, vc, rfl⟩ := ho.slice
  have hyl : ys.length = L.length := by rw [← hys, loopsR_len]
  have B1 := bstep' b0 hb1
  have o1 := owns_below o0 hb1
  have b1 := below1 w1 (.cells #[.int .i64 (k : Int)] 3)
  have HB := hid (areBelow_one w1.heap.size L.length (k : Int) (w1.alloc (.cells #[.int .i64 (k : Int)] 3)) (by simp [go_sem]))
  rw [hn] at HB
  have B2 := bstep' B1 b1
  have o2 := owns_below o1 b1
  have HO2 := hid (ho.below b1)
  rw [hyl]
  clear b0 d0 hb1 HR o0 o1 b1 ho
  go_wp2_with fail
  refine HB.out.mono ?_
  rintro e w2 ⟨rfl, hb2⟩
  have B3 := bstep' B2 hb2
  have o3 := owns_below o2 hb2
  obtain ⟨y, hy, hly⟩ := loopsR_back (ys := ys) (i := k) (x := l) (by rw [hys]; exact hk)
  subst hly
  have ho2 := HO2.out.below hb2
  obtain ⟨b, ra, rc, rfl, hbb1, hbb2, y0, y1, ro, hyv⟩ := ho2.at hy
  rw [HZ0.out] at ro hbb1
  have f0 := rowT_frz o3 (g := w.heap.size + 1) rfl 0
  have f1 := rowT_frz o3 (g := w.heap.size + 1) rfl 1
  have c30 : w2.cell? ⟨w.heap.size + 1, 0, none⟩ = some (.int .i64 0) := rowT_at o3 rfl rfl
  have c31 : w2.cell? ⟨w.heap.size + 1, 1, none⟩ = some (.slice none 0 0) := rowT_at o3 rfl rfl
  obtain ⟨f0', f1', c50, c51, B5⟩ := ring_store o3 B3 (y.h : Int) (.slice ra y.s.length rc)
  have ro5 := ownsRow_setCell_below (a := ⟨w.heap.size + 1, 1, none⟩) (ownsRow_setCell_below (a := ⟨w.heap.size + 1, 0, none⟩) ro (show w.heap.size + 1 < w.heap.size + 2 by omega) (.int .i64 (y.h : Int))) (show w.heap.size + 1 < w.heap.size + 2 by omega) (.slice ra y.s.length rc)
  have HF := hid (And.intro ro5 B5)
  clear hb2 HB o2 o3 ro ro5 B5 ho2 HO2 hyv
  go_wp2
  refine bodyPost_ret (v := .tuple #[.agg #[.int .i64 (y.h : Int), .slice ra y.s.length rc], .bool true]) (by simp [results, Try.results62, go_sem, c50, c51]) rfl ?_
  exact ⟨⟨ra, rc, rfl, HF.out.1⟩, HF.out.2⟩
end Go.Proofs.Ythcenlplfcbfjaa

