/- The law of a function from a graph and a number to a number and whether it is one. -/
import Derived.Test.YthcenlplfcbfjaaLawBB
import Derived.Test.YthcenlplfcbfjaaRingsIn8
import Derived.Test.YthcenlplfcbfjaaJ2
import Derived.Test.YthcenlplfcbfjaaJ4
namespace Go.Proofs.Ythcenlplfcbfjaa
section
open Go Go.RowKit
set_option linter.unusedVariables false
set_option linter.unusedSimpArgs false
set_option maxRecDepth 100000

/-- both sides answer so -/
def AnsIB (sp im : Nat) (xs : List (List Int)) (i : Int) (R : Int) (G : Bool) : Prop :=
  (∀ (a : Option Addr) (c : Nat) (w : World), LRow w a xs → Calls Try.prog sp #[.agg #[.slice a xs.length c], .int .i64 i] w fun e w' => e = .returned (.tuple #[.int .i64 R, .bool G]) ∧ Below w.heap.size w w') ∧
  (∀ (a : Option Addr) (c : Nat) (w : World), LRow w a xs → Calls Try.prog im #[.agg #[.slice a xs.length c], .int .i64 i] w fun e w' => e = .returned (.tuple #[.int .i64 R, .bool G]) ∧ Below w.heap.size w w')
set_option maxHeartbeats 8000000 in
theorem lawIB7 (i : Int) (a : Option Addr) (c : Nat) (xs : List (List Int)) (w : World) (hl : xs.length ≤ 9223372036854775807) (h : LRow w a xs) (hA : ∃ R G, AnsIB 26 27 xs i R G) :
    Calls Try.prog 7 #[.agg #[.slice a xs.length c], .int .i64 i] w fun e w' => e = .returned (.bool true) ∧ Below w.heap.size w w' := by
  obtain ⟨R, Gd, hS, hI⟩ := hA
  have HSG := hid hS
  have HIG := hid hI
  have HR := hid h
  clear h hS hI
  have b0 := below1 w (.cells #[.slice a xs.length c] 24)
  have d0 : (w.alloc (.cells #[.slice a xs.length c] 24)).cell? ⟨w.heap.size, 0, none⟩ = some (.slice a xs.length c) := by simp [go_sem]
  cases Gd
  all_goals
    go_enter Try.func7, Try.ntmps7
    go_wp2_with fail
    refine (szGraph_any a c xs _ hl (HR.out.below b0)).mono ?_
    rintro e w1 ⟨⟨r, rfl, hr1, hr⟩, hb1⟩
    have B1 := bstep' b0 hb1
    have d1 := cell_below d0 hb1
    clear hb1 b0 d0
    by_cases hr0 : r < 0
    · go_wp2
      go_ret
      exact ⟨rfl, B1⟩
    · have hl20 : xs.length ≤ 1048576 := by omega
      have HS : Hid (sumL xs ≤ 1048576) := by show sumL xs ≤ _; omega
      clear hr
      go_wp2_with fail
      refine (toGraph_any a c xs _ hl20 HS.out (HR.out.below B1)).mono ?_
      rintro e w2 ⟨v2, y2, rfl, O2, hy2, hb2⟩
      obtain ⟨a2, c2, rfl, hs2⟩ := O2.row
      rw [hy2] at hs2 ⊢
      have B2 := bstep' B1 hb2
      have d2 := cell_below d1 hb2
      clear O2 hy2 hb2 B1 d1
      go_wp2_with fail
      refine (HSG.out a2 c2 _ hs2).mono ?_
      rintro e w3 ⟨rfl, hb3⟩
      have B3 := bstep' B2 hb3
      have d3 := cell_below d2 hb3
      clear hb3 hs2 B2 d2
      go_wp2_with fail
      refine (toGraph_any a c xs _ hl20 HS.out (HR.out.below B3)).mono ?_
      rintro e w4 ⟨v4, y4, rfl, O4, hy4, hb4⟩
      obtain ⟨a4, c4, hv4, hs4⟩ := O4.row
      subst hv4
      rw [hy4] at hs4 ⊢
      have B4 := bstep' B3 hb4
      have d4 := cell_below d3 hb4
      have b4 := below1 w4 (.cells #[.slice a4 xs.length c4] 28)
      have x4 : (w4.alloc (.cells #[.slice a4 xs.length c4] 28)).cell? ⟨w4.heap.size, 0, none⟩ = some (.slice a4 xs.length c4) := by simp [go_sem]
      have B4' := bstep' B4 b4
      have d4' := cell_below d4 b4
      have r4 := hs4.below b4
      clear hb4 B3 d3 hy4 O4 hs4 B4 d4 b4
      go_wp2_with fail
      refine (HIG.out a4 c4 _ r4).mono ?_
      rintro e w7 ⟨rfl, hb6⟩
      have B7 := bstep' B4' hb6
      have d7 := cell_below d4' hb6
      have x7 := cell_below x4 hb6
      have r7 := r4.below hb6
      clear hb6 B4' d4' x4 r4
      have HTO : Hid (∀ W, Below w7.heap.size w7 W → Calls Try.prog 13 #[.agg #[.slice a xs.length c]] W fun e w' => ∃ a8 c8, e = .returned (.agg #[.slice a8 xs.length c8]) ∧ LRow w' a8 xs ∧ Below W.heap.size W w') := fun W hW => by
        refine (toGraph_any a c xs W hl20 HS.out (HR.out.below (bstep' B7 hW))).mono ?_
        rintro e w8 ⟨v8, y8, rfl, O8, hy8, hb8⟩
        obtain ⟨a8, c8, rfl, hs8⟩ := O8.row
        rw [hy8] at hs8 ⊢
        exact ⟨a8, c8, rfl, hs8, hb8⟩
      have HEQ := hid (fun W a8 c8 (hW : Below w7.heap.size w7 W) h8 => eqGraph_same a4 a8 c4 c8 xs W hl (r7.below hW) h8)
      have HK := hid (fun W (hW : Below w7.heap.size w7 W) => And.intro (cell_below d7 hW) (cell_below x7 hW))
      clear r7
      go_wp2
      go_region_held (fun W => W.cell? ⟨w.heap.size, 0, none⟩ = some (.slice a xs.length c) ∧ W.cell? ⟨w4.heap.size, 0, none⟩ = some (.slice a4 xs.length c4)) ((first | exact HK.out _ hb9 | exact HK.out _ hb8 | go_keep)) ((first | (go_at_call 13; refine (HTO.out _ ((Below.refl _ _).drew)).mono ?_; rintro e w8 ⟨a8, c8, rfl, h8, hb8'⟩; have hb8 := below_of_drew hb8') | (go_at_call 15; refine (HEQ.out _ _ _ hb8 h8).mono ?_; rintro e w9 ⟨rfl, hb9'⟩; have hb9 := bstep' hb8 hb9')))
      have B9 := bstep' B7 hb9
      clear hb9 hb9' hb8 hb8' h8 x7 d7 B7 HEQ HTO HK
      go_wp2
      go_ret
      exact ⟨rfl, B9⟩
set_option maxHeartbeats 8000000 in
theorem lawIB8 (i : Int) (a : Option Addr) (c : Nat) (xs : List (List Int)) (w : World) (hl : xs.length ≤ 9223372036854775807) (h : LRow w a xs) (hA : ∃ R G, AnsIB 28 29 xs i R G) :
    Calls Try.prog 8 #[.agg #[.slice a xs.length c], .int .i64 i] w fun e w' => e = .returned (.bool true) ∧ Below w.heap.size w w' := by
  obtain ⟨R, Gd, hS, hI⟩ := hA
  have HSG := hid hS
  have HIG := hid hI
  have HR := hid h
  clear h hS hI
  have b0 := below1 w (.cells #[.slice a xs.length c] 24)
  have d0 : (w.alloc (.cells #[.slice a xs.length c] 24)).cell? ⟨w.heap.size, 0, none⟩ = some (.slice a xs.length c) := by simp [go_sem]
  cases Gd
  all_goals
    go_enter Try.func8, Try.ntmps8
    go_wp2_with fail
    refine (szGraph_any a c xs _ hl (HR.out.below b0)).mono ?_
    rintro e w1 ⟨⟨r, rfl, hr1, hr⟩, hb1⟩
    have B1 := bstep' b0 hb1
    have d1 := cell_below d0 hb1
    clear hb1 b0 d0
    by_cases hr0 : r < 0
    · go_wp2
      go_ret
      exact ⟨rfl, B1⟩
    · have hl20 : xs.length ≤ 1048576 := by omega
      have HS : Hid (sumL xs ≤ 1048576) := by show sumL xs ≤ _; omega
      clear hr
      go_wp2_with fail
      refine (toGraph_any a c xs _ hl20 HS.out (HR.out.below B1)).mono ?_
      rintro e w2 ⟨v2, y2, rfl, O2, hy2, hb2⟩
      obtain ⟨a2, c2, rfl, hs2⟩ := O2.row
      rw [hy2] at hs2 ⊢
      have B2 := bstep' B1 hb2
      have d2 := cell_below d1 hb2
      clear O2 hy2 hb2 B1 d1
      go_wp2_with fail
      refine (HSG.out a2 c2 _ hs2).mono ?_
      rintro e w3 ⟨rfl, hb3⟩
      have B3 := bstep' B2 hb3
      have d3 := cell_below d2 hb3
      clear hb3 hs2 B2 d2
      go_wp2_with fail
      refine (toGraph_any a c xs _ hl20 HS.out (HR.out.below B3)).mono ?_
      rintro e w4 ⟨v4, y4, rfl, O4, hy4, hb4⟩
      obtain ⟨a4, c4, hv4, hs4⟩ := O4.row
      subst hv4
      rw [hy4] at hs4 ⊢
      have B4 := bstep' B3 hb4
      have d4 := cell_below d3 hb4
      have b4 := below1 w4 (.cells #[.slice a4 xs.length c4] 28)
      have x4 : (w4.alloc (.cells #[.slice a4 xs.length c4] 28)).cell? ⟨w4.heap.size, 0, none⟩ = some (.slice a4 xs.length c4) := by simp [go_sem]
      have B4' := bstep' B4 b4
      have d4' := cell_below d4 b4
      have r4 := hs4.below b4
      clear hb4 B3 d3 hy4 O4 hs4 B4 d4 b4
      go_wp2_with fail
      refine (HIG.out a4 c4 _ r4).mono ?_
      rintro e w7 ⟨rfl, hb6⟩
      have B7 := bstep' B4' hb6
      have d7 := cell_below d4' hb6
      have x7 := cell_below x4 hb6
      have r7 := r4.below hb6
      clear hb6 B4' d4' x4 r4
      have HTO : Hid (∀ W, Below w7.heap.size w7 W → Calls Try.prog 13 #[.agg #[.slice a xs.length c]] W fun e w' => ∃ a8 c8, e = .returned (.agg #[.slice a8 xs.length c8]) ∧ LRow w' a8 xs ∧ Below W.heap.size W w') := fun W hW => by
        refine (toGraph_any a c xs W hl20 HS.out (HR.out.below (bstep' B7 hW))).mono ?_
        rintro e w8 ⟨v8, y8, rfl, O8, hy8, hb8⟩
        obtain ⟨a8, c8, rfl, hs8⟩ := O8.row
        rw [hy8] at hs8 ⊢
        exact ⟨a8, c8, rfl, hs8, hb8⟩
      have HEQ := hid (fun W a8 c8 (hW : Below w7.heap.size w7 W) h8 => eqGraph_same a4 a8 c4 c8 xs W hl (r7.below hW) h8)
      have HK := hid (fun W (hW : Below w7.heap.size w7 W) => And.intro (cell_below d7 hW) (cell_below x7 hW))
      clear r7
      go_wp2
      go_region_held (fun W => W.cell? ⟨w.heap.size, 0, none⟩ = some (.slice a xs.length c) ∧ W.cell? ⟨w4.heap.size, 0, none⟩ = some (.slice a4 xs.length c4)) ((first | exact HK.out _ hb9 | exact HK.out _ hb8 | go_keep)) ((first | (go_at_call 13; refine (HTO.out _ ((Below.refl _ _).drew)).mono ?_; rintro e w8 ⟨a8, c8, rfl, h8, hb8'⟩; have hb8 := below_of_drew hb8') | (go_at_call 15; refine (HEQ.out _ _ _ hb8 h8).mono ?_; rintro e w9 ⟨rfl, hb9'⟩; have hb9 := bstep' hb8 hb9')))
      have B9 := bstep' B7 hb9
      clear hb9 hb9' hb8 hb8' h8 x7 d7 B7 HEQ HTO HK
      go_wp2
      go_ret
      exact ⟨rfl, B9⟩
end

section
open Go Go.RowKit
set_option linter.unusedVariables false
set_option linter.unusedSimpArgs false
set_option maxRecDepth 100000

/-- in how many loops a node is -/
def deepOf (L : List (Nat × List Nat)) (x : Nat) : Nat := L.countP fun l => decide (x ∈ l.2)
theorem deepOf_le (L : List (Nat × List Nat)) (x : Nat) : deepOf L x ≤ L.length := List.countP_le_length
theorem deepOf_snoc (L : List (Nat × List Nat)) (x : Nat) (l : Nat × List Nat) : deepOf (L ++ [l]) x = deepOf L x + (if x ∈ l.2 then 1 else 0) := by
  unfold deepOf
  rw [List.countP_append]
  by_cases h : x ∈ l.2 <;> simp [h]
/-- a number that is a node -/
def isNode (i : Int) (n : Nat) : Bool := decide (0 ≤ i) && decide (i < n)
theorem isNode_nat {i : Int} {n : Nat} (h : isNode i n = true) : ∃ k : Nat, i = k ∧ k < n := by
  unfold isNode at h
  simp at h
  exact ⟨i.toNat, by omega, by omega⟩
theorem allBel_node (i : Int) (n : Nat) : allBel (n : Int) [i] = isNode i n := by
  unfold allBel isNode
  rw [Bool.eq_iff_iff]
  simp [belB, inB]
  omega
theorem sNode_any (a : Option Addr) (n c : Nat) (i : Int) (w : World) :
    Calls Try.prog 54 #[.agg #[.slice a n c], .int .i64 i] w fun e w' => e = .returned (.bool (isNode i n)) ∧ Below w.heap.size w w' := by
  have b0 := below1 w (.cells #[.slice a n c] 28)
  unfold isNode
  by_cases h0 : 0 ≤ i
  · by_cases h1 : i < n
    · go_enter Try.func54, Try.ntmps54
      go_wp2
      go_ret
      exact ⟨by simp [h0, h1], b0⟩
    · go_enter Try.func54, Try.ntmps54
      go_wp2
      go_ret
      exact ⟨by simp [h0, h1], b0⟩
  · go_enter Try.func54, Try.ntmps54
    go_wp2
    go_ret
    exact ⟨by simp; omega, b0⟩
/-- the loops of which one asks at a node: a number that is none -/
theorem ringsAt_no (a : Option Addr) (n c : Nat) (i : Int) (w : World) (hn : isNode i n = false) :
    Calls Try.prog 56 #[.agg #[.slice a n c], .int .i64 i] w fun e w' => e = .returned (.tuple #[.slice none 0 0, .bool false]) ∧ Below w.heap.size w w' := by
  have b0 := below2 w (.cells #[.slice a n c] 28) (.cells #[.int .i64 i] 3)
  have HA : Hid (Calls Try.prog 73 #[.int .i64 n, .slice (some ⟨w.heap.size + 1, 0, none⟩) 1 1] ((w.alloc (.cells #[.slice a n c] 28)).alloc (.cells #[.int .i64 i] 3)) fun e w' => e = .returned (.bool (isNode i n)) ∧ Below ((w.alloc (.cells #[.slice a n c] 28)).alloc (.cells #[.int .i64 i] 3)).heap.size ((w.alloc (.cells #[.slice a n c] 28)).alloc (.cells #[.int .i64 i] 3)) w') := by
    have := areBelow_any (some ⟨w.heap.size + 1, 0, none⟩) 1 [i] (n : Int) ((w.alloc (.cells #[.slice a n c] 28)).alloc (.cells #[.int .i64 i] 3)) (by simp) (.inr ⟨_, _, rfl, fun j hj => by
      have : j = 0 := by simp at hj; exact hj
      subst this
      simp [go_sem]⟩)
    rw [show allBel (n : Int) [i] = isNode i n from allBel_node i n] at this
    exact this
  rw [hn] at HA
  go_enter Try.func56, Try.ntmps56
  go_wp2_with fail
  refine HA.out.mono ?_
  rintro e w1 ⟨rfl, hb1⟩
  go_wp2
  go_ret2
  exact ⟨rfl, bstep' b0 hb1⟩
theorem ringsAt_yes (a : Option Addr) (n c : Nat) (i : Int) (w : World) (hn : isNode i n = true) (R : Ending → World → Prop) (hR : ∀ W, Below w.heap.size w W → Calls Try.prog 90 #[.agg #[.slice a n c]] W fun e w' => R e w' ∧ (∃ v b, e = .returned (.tuple #[v, .bool b]))) :
    Calls Try.prog 56 #[.agg #[.slice a n c], .int .i64 i] w R := by
  have b0 := below2 w (.cells #[.slice a n c] 28) (.cells #[.int .i64 i] 3)
  have d0 : ((w.alloc (.cells #[.slice a n c] 28)).alloc (.cells #[.int .i64 i] 3)).cell? ⟨w.heap.size, 0, none⟩ = some (.slice a n c) := ((Boxed.new w 28 (.slice a n c)).alloc _).cell
  have HA : Hid (Calls Try.prog 73 #[.int .i64 n, .slice (some ⟨w.heap.size + 1, 0, none⟩) 1 1] ((w.alloc (.cells #[.slice a n c] 28)).alloc (.cells #[.int .i64 i] 3)) fun e w' => e = .returned (.bool (isNode i n)) ∧ Below ((w.alloc (.cells #[.slice a n c] 28)).alloc (.cells #[.int .i64 i] 3)).heap.size ((w.alloc (.cells #[.slice a n c] 28)).alloc (.cells #[.int .i64 i] 3)) w') := by
    have := areBelow_any (some ⟨w.heap.size + 1, 0, none⟩) 1 [i] (n : Int) ((w.alloc (.cells #[.slice a n c] 28)).alloc (.cells #[.int .i64 i] 3)) (by simp) (.inr ⟨_, _, rfl, fun j hj => by
      have : j = 0 := by simp at hj; exact hj
      subst this
      simp [go_sem]⟩)
    rw [show allBel (n : Int) [i] = isNode i n from allBel_node i n] at this
    exact this
  rw [hn] at HA
  have HR := hid hR
  clear hR
  go_enter Try.func56, Try.ntmps56
  go_wp2_with fail
  refine HA.out.mono ?_
  rintro e w1 ⟨rfl, hb1⟩
  have d1 := cell_below d0 hb1
  have B1 := bstep' b0 hb1
  clear hb1 b0 d0
  go_wp2_with fail
  refine (HR.out _ B1).mono ?_
  rintro e w2 ⟨hr, v, b, rfl⟩
  have HR2 := hid hr
  clear hr
  go_wp2
  exact HR2.out
theorem iDeep_no (a : Option Addr) (n c : Nat) (i : Int) (w : World) (hn : isNode i n = false) :
    Calls Try.prog 27 #[.agg #[.slice a n c], .int .i64 i] w fun e w' => e = .returned (.tuple #[.int .i64 0, .bool false]) ∧ Below w.heap.size w w' := by
  have b0 := below1 w (.cells #[.slice a n c] 28)
  have HR := hid (fun W => ringsAt_no a n c i W hn)
  go_enter Try.func27, Try.ntmps27
  go_wp2_with fail
  refine (HR.out _).mono ?_
  rintro e w1 ⟨rfl, hb1⟩
  have B1 := bstep' b0 hb1
  clear hb1 b0
  go_wp2
  go_loop [8, 19] (fun t8 t19 => t8 = .int .i64 0 ∧ t19 = .int .i64 0) (fun _ _ => 0)
  case atStart => exact ⟨rfl, rfl⟩
  case round =>
    obtain ⟨rfl, rfl⟩ := hrel
    go_wp2
    go_ret2
    exact ⟨rfl, B1⟩
theorem iDeep_bad (a : Option Addr) (c : Nat) (xs : List (List Int)) (i : Int) (w : World) (hl : xs.length ≤ 9223372036854775807) (h : LRow w a xs) (hG : ¬ GoodG xs) :
    Calls Try.prog 27 #[.agg #[.slice a xs.length c], .int .i64 i] w fun e w' => e = .returned (.tuple #[.int .i64 0, .bool false]) ∧ Below w.heap.size w w' := by
  cases hn : isNode i xs.length with
  | false => exact iDeep_no a xs.length c i w hn
  | true =>
    have b0 := below1 w (.cells #[.slice a xs.length c] 28)
    have HR := hid (fun W (hb : Below w.heap.size w W) => ringsAt_yes a xs.length c i W hn (fun e w' => e = .returned (.tuple #[.slice none 0 0, .bool false]) ∧ Below W.heap.size W w') (fun W' hb' => (ringsIn_bad a c xs W' hl (LRow.below h (bstep' hb hb')) hG).mono (fun e w' ⟨he, hbl⟩ => ⟨⟨he, bstep' hb' hbl⟩, _, _, he⟩)))
    clear h
    go_enter Try.func27, Try.ntmps27
    go_wp2_with fail
    refine (HR.out _ b0).mono ?_
    rintro e w1 ⟨rfl, hb1⟩
    have B1 := bstep' b0 hb1
    clear hb1 b0
    go_wp2
    go_loop [8, 19] (fun t8 t19 => t8 = .int .i64 0 ∧ t19 = .int .i64 0) (fun _ _ => 0)
    case atStart => exact ⟨rfl, rfl⟩
    case round =>
      obtain ⟨rfl, rfl⟩ := hrel
      go_wp2
      go_ret2
      exact ⟨rfl, B1⟩
set_option maxHeartbeats 4000000 in
theorem iDeep_good {g D : List (List Nat)} {L : List (Nat × List Nat)} (G : Gr g) (hD : IsDoms g D) (hL : Rings g D g.length L) (x : Nat) (hx : x < g.length) (a : Option Addr) (c : Nat) (w : World) (h : GRow w a g) (hG : GoodG (g.map nats)) :
    Calls Try.prog 27 #[.agg #[.slice a g.length c], .int .i64 (x : Int)] w fun e w' => ((Cyc2 g D ∧ e = .returned (.tuple #[.int .i64 0, .bool false])) ∨ (¬ Cyc2 g D ∧ e = .returned (.tuple #[.int .i64 (deepOf L x : Nat), .bool true]))) ∧ Below w.heap.size w w' := by
  have hgm := G.most
  have b0 := below1 w (.cells #[.slice a g.length c] 28)
  have hn : isNode (x : Int) g.length = true := by unfold isNode; simp; omega
  have HR := hid (fun W (hb : Below w.heap.size w W) => ringsAt_yes a g.length c (x : Int) W hn (fun e w' => ((Cyc2 g D ∧ e = .returned (.tuple #[.slice none 0 0, .bool false])) ∨ (¬ Cyc2 g D ∧ ∃ v ys, e = .returned (.tuple #[v, .bool true]) ∧ OwnG w' W.heap.size v ys ∧ loopsR ys = L)) ∧ Below W.heap.size W w') (fun W' hb' => (ringsIn_good G a c W' (LRow.below h (bstep' hb hb')) hG).mono (fun e w' ⟨⟨D', hD', hc⟩, hbl⟩ => by
    have eD : D' = D := hD'.unique hD
    subst eD
    rcases hc with ⟨h1, h2⟩ | ⟨h1, v, ys, h2, h3, h4⟩
    · exact ⟨⟨.inl ⟨h1, h2⟩, bstep' hb' hbl⟩, _, _, h2⟩
    · exact ⟨⟨.inr ⟨h1, v, ys, h2, h3.mono hb'.size, h4.unique hL⟩, bstep' hb' hbl⟩, _, _, h2⟩)))
  clear h hn
  go_enter Try.func27, Try.ntmps27
  go_wp2_with fail
  refine (HR.out _ b0).mono ?_
  rintro e w1 ⟨hc, hb1⟩
  have B1 := bstep' b0 hb1
  clear hb1 b0 HR
  rcases hc with ⟨h1, rfl⟩ | ⟨h1, v, ys, rfl, ho, rfl⟩
  · have HC := hid h1
    clear h1
    go_wp2
    go_loop [8, 19] (fun t8 t19 => t8 = .int .i64 0 ∧ t19 = .int .i64 0) (fun _ _ => 0)
    case atStart => exact ⟨rfl, rfl⟩
    case round =>
      obtain ⟨rfl, rfl⟩ := hrel
      go_wp2
      go_ret2
      exact ⟨.inl ⟨HC.out, rfl⟩, B1⟩
  · have HC := hid h1
    obtain ⟨va, vc, rfl⟩ := ho.slice
    have hyl : ys.length ≤ 12 := by have := hL.le; rw [loopsR_len] at this; omega
    have HO := hid ho
    clear h1 ho
    go_wp2
    go_loopw [8, 19] (fun t8 t19 wr => ∃ k : Nat, t19 = .int .i64 k ∧ k ≤ ys.length ∧ t8 = .int .i64 (deepOf ((loopsR ys).take k) x : Nat) ∧ Below w1.heap.size w1 wr) (fun _ t19 _ => ys.length - (intOf t19).toNat)
    case atStart => exact ⟨0, rfl, by omega, by simp [deepOf], Below.refl _ _⟩
    case round =>
      obtain ⟨k, rfl, hk, rfl, hB⟩ := hrel
      by_cases hkl : k < ys.length
      · obtain ⟨y, hy⟩ : ∃ y, ys[k]? = some y := ⟨_, List.getElem?_eq_getElem hkl⟩
        obtain ⟨b, ra, rc, rfl, hb1, hb2, c0, c1, ro, hyv⟩ := (HO.out.below hB).at hy
        have hib := hL.mem (List.mem_of_getElem? (loopsR_at hy))
        have hrl : y.s.length ≤ 12 := hib.2.2.few G (isHead.come G hib.2.1)
        have b9 := below1 wr (.cells #[.int .i64 (y.h : Int), .slice ra y.s.length rc] 78)
        have HH := hid (has_any ra rc y.s x (wr.alloc (.cells #[.int .i64 (y.h : Int), .slice ra y.s.length rc] 78)) (by omega) (Row.below (own_row (c := rc) (by rw [nats_length]; exact ro)) b9) hib.2.2.1)
        have HTK : Hid (deepOf ((loopsR ys).take (k + 1)) x = deepOf ((loopsR ys).take k) x + (if x ∈ y.s then 1 else 0)) := by
          show _ = _
          rw [List.take_add_one, loopsR_at hy]
          exact deepOf_snoc _ _ _
        have hdl : deepOf ((loopsR ys).take k) x ≤ 12 := Nat.le_trans (deepOf_le _ _) (by rw [List.length_take, loopsR_len]; omega)
        obtain ⟨d, hd⟩ : ∃ d, deepOf ((loopsR ys).take k) x = d := ⟨_, rfl⟩
        rw [hd] at HTK hdl ⊢
        clear hd hy ro hyv hib
        go_wp2_with fail
        refine HH.out.mono ?_
        rintro e w5 ⟨rfl, hb5⟩
        have HK := hid (hB.trans ((bstep' b9 hb5).mono hB.size))
        clear hb5 b9 HH
        by_cases hxs : x ∈ y.s
        · rw [if_pos hxs] at HTK
          rw [decide_eq_true hxs]
          have H1 := hid (fun W => oneIf_any true W)
          go_wp2_with fail
          refine (H1.out _).mono ?_
          rintro e w6 ⟨rfl, hw6⟩
          subst w6
          go_wp2
          go_roundw
          case rel => exact ⟨k + 1, by go_num, by omega, by rw [HTK.out]; go_num, HK.out⟩
          case measure => simp [intOf]; omega
        · rw [if_neg hxs] at HTK
          rw [decide_eq_false hxs]
          have H1 := hid (fun W => oneIf_any false W)
          go_wp2_with fail
          refine (H1.out _).mono ?_
          rintro e w6 ⟨rfl, hw6⟩
          subst w6
          go_wp2
          go_roundw
          case rel => exact ⟨k + 1, by go_num, by omega, by rw [HTK.out]; go_num, HK.out⟩
          case measure => simp [intOf]; omega
      · obtain rfl : k = ys.length := by omega
        have HB2 := hid (B1.trans (hB.mono B1.size))
        have HT : Hid (deepOf ((loopsR ys).take ys.length) x = deepOf (loopsR ys) x) := by show _ = _; rw [List.take_of_length_le (by rw [loopsR_len]; exact Nat.le_refl _)]
        rw [HT.out]
        go_wp2
        go_ret2
        exact ⟨.inr ⟨HC.out, rfl⟩, HB2.out⟩
end

section
open Go Go.RowKit
set_option linter.unusedVariables false
set_option linter.unusedSimpArgs false
set_option maxRecDepth 100000

theorem sDeep_bad (a : Option Addr) (c : Nat) (xs : List (List Int)) (i : Int) (w : World) (hl : xs.length ≤ 9223372036854775807) (h : LRow w a xs) (hG : ¬ GoodG xs) :
    Calls Try.prog 26 #[.agg #[.slice a xs.length c], .int .i64 i] w fun e w' => e = .returned (.tuple #[.int .i64 0, .bool false]) ∧ Below w.heap.size w w' := by
  have b0 := below1 w (.cells #[.slice a xs.length c] 28)
  have HR := hid (sLoops_bad a c xs (w.alloc (.cells #[.slice a xs.length c] 28)) hl (LRow.below h b0) hG)
  clear h
  go_enter Try.func26, Try.ntmps26
  go_wp2_with fail
  refine HR.out.mono ?_
  rintro e w1 ⟨rfl, hb1⟩
  have B1 := bstep' b0 hb1
  clear hb1 b0 HR
  go_wp2
  go_ret2
  exact ⟨rfl, B1⟩
set_option maxHeartbeats 4000000 in
theorem sDeep_good {g D : List (List Nat)} {L : List (Nat × List Nat)} (G : Gr g) (hD : IsDoms g D) (hL : Rings g D g.length L) (i : Int) (a : Option Addr) (c : Nat) (w : World) (h : GRow w a g) (hG : GoodG (g.map nats)) :
    Calls Try.prog 26 #[.agg #[.slice a g.length c], .int .i64 i] w fun e w' => (((Cyc2 g D ∨ isNode i g.length = false) ∧ e = .returned (.tuple #[.int .i64 0, .bool false])) ∨ (¬ Cyc2 g D ∧ ∃ x : Nat, i = x ∧ x < g.length ∧ e = .returned (.tuple #[.int .i64 (deepOf L x : Nat), .bool true]))) ∧ Below w.heap.size w w' := by
  have hgm := G.most
  have b0 := below1 w (.cells #[.slice a g.length c] 28)
  have d0 : (w.alloc (.cells #[.slice a g.length c] 28)).cell? ⟨w.heap.size, 0, none⟩ = some (.slice a g.length c) := by simp [go_sem]
  have HR := hid (sLoops_good G hD a c (w.alloc (.cells #[.slice a g.length c] 28)) (LRow.below h b0) hG)
  have HN := hid (fun W => sNode_any a g.length c i W)
  clear h
  go_enter Try.func26, Try.ntmps26
  go_wp2_with fail
  refine HR.out.mono ?_
  rintro e w1 ⟨hc, hb1⟩
  have B1 := bstep' b0 hb1
  have d1 := cell_below d0 hb1
  clear hb1 b0 HR d0
  rcases hc with ⟨h1, rfl⟩ | ⟨h1, v, ys, rfl, ho, hla⟩
  · have HC := hid h1
    clear h1
    go_wp2
    go_ret2
    exact ⟨.inl ⟨.inl HC.out, rfl⟩, B1⟩
  · have HC := hid h1
    obtain ⟨va, vc, rfl⟩ := ho.slice
    obtain rfl : L = loopsP ys := hL.unique hla.rings
    have hyl : ys.length ≤ 12 := by have := hL.le; rw [loopsP_len] at this; omega
    have HO := hid ho
    clear h1 ho hla
    cases hn : isNode i g.length with
    | false =>
      rw [hn] at HN
      go_wp2_with fail
      refine (HN.out _).mono ?_
      rintro e w2 ⟨rfl, hb2⟩
      have HB := hid (bstep' B1 hb2)
      clear hb2
      go_wp2
      go_ret2
      exact ⟨.inl ⟨.inr hn, rfl⟩, HB.out⟩
    | true =>
      obtain ⟨x, rfl, hx⟩ := isNode_nat hn
      rw [hn] at HN
      clear hn
      go_wp2_with fail
      refine (HN.out _).mono ?_
      rintro e w2 ⟨rfl, hb2⟩
      have B2 := bstep' B1 hb2
      have HO2 := hid (HO.out.below hb2)
      clear hb2 HO B1 d1 HN
      go_wp2
      go_loopw [8, 26] (fun t8 t26 wr => ∃ k : Nat, t26 = .int .i64 k ∧ k ≤ ys.length ∧ t8 = .int .i64 (deepOf ((loopsP ys).take k) x : Nat) ∧ Below w2.heap.size w2 wr) (fun _ t26 _ => ys.length - (intOf t26).toNat)
      case atStart => exact ⟨0, rfl, by omega, by simp [deepOf], Below.refl _ _⟩
      case round =>
        obtain ⟨k, rfl, hk, rfl, hB⟩ := hrel
        by_cases hkl : k < ys.length
        · obtain ⟨y, hy⟩ : ∃ y, ys[k]? = some y := ⟨_, List.getElem?_eq_getElem hkl⟩
          obtain ⟨b, ra, rc, rfl, hb1, hb2, c0, c1, c2, _, ro, hyv⟩ := (HO2.out.below hB).at hy
          have hib := hL.mem (List.mem_of_getElem? (loopsP_at hy))
          have hrl : y.s.length ≤ 12 := hib.2.2.few G (isHead.come G hib.2.1)
          have b9 := below1 wr (.cells #[.int .i64 (y.h : Int), .slice ra y.s.length rc, .int .i64 y.up] 72)
          have HH := hid (hasR_any ra rc y.s x (wr.alloc (.cells #[.int .i64 (y.h : Int), .slice ra y.s.length rc, .int .i64 y.up] 72)) (by omega) (Row.below (own_row (c := rc) (by rw [nats_length]; exact ro)) b9))
          have HTK : Hid (deepOf ((loopsP ys).take (k + 1)) x = deepOf ((loopsP ys).take k) x + (if x ∈ y.s then 1 else 0)) := by
            show _ = _
            rw [List.take_add_one, loopsP_at hy]
            exact deepOf_snoc _ _ _
          have hdl : deepOf ((loopsP ys).take k) x ≤ 12 := Nat.le_trans (deepOf_le _ _) (by rw [List.length_take, loopsP_len]; omega)
          obtain ⟨d, hd⟩ : ∃ d, deepOf ((loopsP ys).take k) x = d := ⟨_, rfl⟩
          rw [hd] at HTK hdl ⊢
          have HK := hid (hB.trans (b9.mono hB.size))
          clear hd hy ro hyv hib b9
          by_cases hxs : x ∈ y.s
          · rw [if_pos hxs] at HTK
            rw [decide_eq_true hxs] at HH
            go_wp2_with fail
            refine HH.out.mono ?_
            rintro e w5 ⟨rfl, hw5⟩
            subst w5
            go_wp2
            go_roundw
            case rel => exact ⟨k + 1, by go_num, by omega, by rw [HTK.out]; go_num, HK.out⟩
            case measure => simp [intOf]; omega
          · rw [if_neg hxs] at HTK
            rw [decide_eq_false hxs] at HH
            go_wp2_with fail
            refine HH.out.mono ?_
            rintro e w5 ⟨rfl, hw5⟩
            subst w5
            go_wp2
            go_roundw
            case rel => exact ⟨k + 1, by go_num, by omega, by rw [HTK.out]; rfl, HK.out⟩
            case measure => simp [intOf]; omega
        · obtain rfl : k = ys.length := by omega
          have HB2 := hid (B2.trans (hB.mono B2.size))
          have HT : Hid (deepOf ((loopsP ys).take ys.length) x = deepOf (loopsP ys) x) := by show _ = _; rw [List.take_of_length_le (by rw [loopsP_len]; exact Nat.le_refl _)]
          rw [HT.out]
          go_wp2
          go_ret2
          exact ⟨.inr ⟨HC.out, x, rfl, hx, rfl⟩, HB2.out⟩
theorem deep_ans (xs : List (List Int)) (i : Int) (hl : xs.length ≤ 9223372036854775807) : ∃ R b, AnsIB 26 27 xs i R b := by
  classical
  by_cases hG : GoodG xs
  · obtain ⟨g, rfl, Gg⟩ := hG.graph
    obtain ⟨D, hD⟩ := doms_are Gg
    obtain ⟨L, hL⟩ := rings_is (D := D) Gg g.length
    by_cases hc : Cyc2 g D
    · refine ⟨0, false, fun a c w h => ?_, fun a c w h => ?_⟩
      · rw [List.length_map]
        refine (sDeep_good Gg hD hL i a c w h hG).mono ?_
        rintro e w' ⟨⟨_, rfl⟩ | ⟨hn, _⟩, hbl⟩
        · exact ⟨rfl, hbl⟩
        · exact absurd hc hn
      · rw [List.length_map]
        cases hn : isNode i g.length with
        | false => exact iDeep_no a g.length c i w hn
        | true =>
          obtain ⟨x, rfl, hx⟩ := isNode_nat hn
          refine (iDeep_good Gg hD hL x hx a c w h hG).mono ?_
          rintro e w' ⟨⟨_, rfl⟩ | ⟨hn, _⟩, hbl⟩
          · exact ⟨rfl, hbl⟩
          · exact absurd hc hn
    · cases hn : isNode i g.length with
      | false =>
        refine ⟨0, false, fun a c w h => ?_, fun a c w h => ?_⟩
        · rw [List.length_map]
          refine (sDeep_good Gg hD hL i a c w h hG).mono ?_
          rintro e w' ⟨⟨_, rfl⟩ | ⟨_, x, rfl, hx, _⟩, hbl⟩
          · exact ⟨rfl, hbl⟩
          · unfold isNode at hn; simp at hn; omega
        · rw [List.length_map]
          exact iDeep_no a g.length c i w hn
      | true =>
        obtain ⟨x, rfl, hx⟩ := isNode_nat hn
        refine ⟨(deepOf L x : Nat), true, fun a c w h => ?_, fun a c w h => ?_⟩
        · rw [List.length_map]
          refine (sDeep_good Gg hD hL x a c w h hG).mono ?_
          rintro e w' ⟨⟨h1 | h1, _⟩ | ⟨_, x', hx', _, rfl⟩, hbl⟩
          · exact absurd h1 hc
          · rw [hn] at h1; cases h1
          · have : x = x' := by omega
            subst this
            exact ⟨rfl, hbl⟩
        · rw [List.length_map]
          refine (iDeep_good Gg hD hL x hx a c w h hG).mono ?_
          rintro e w' ⟨⟨h1, _⟩ | ⟨_, rfl⟩, hbl⟩
          · exact absurd h1 hc
          · exact ⟨rfl, hbl⟩
  · exact ⟨0, false, fun a c w h => sDeep_bad a c xs i w hl h hG, fun a c w h => iDeep_bad a c xs i w hl h hG⟩
end
end Go.Proofs.Ythcenlplfcbfjaa
