/- The program's table of deeds. -/
import Derived.Test.YthkkhinmdlmhkaaDoorK3
import Derived.Laws.Tables
import Derived.Laws.Rows
import Derived.Test.YthkkhinmdlmhkaaDoorRunMath3
import Derived.Test.YthkkhinmdlmhkaaDoorK1
import Derived.Test.YthkkhinmdlmhkaaDoorK2
import Derived.Deep.CutRange
namespace Go.Proofs.YthkkhinmdlmhkaaDoor
section
open Go.RowKit
set_option linter.unusedVariables false
set_option linter.unusedSimpArgs false
set_option maxRecDepth 100000

/-- the table's values -/
def deedsA : Array Value := #[.nilFunc, .func (.func 74) #[] #[], .func (.func 75) #[] #[], .func (.func 76) #[] #[], .func (.func 77) #[] #[], .func (.func 77) #[] #[], .func (.func 77) #[] #[], .func (.func 77) #[] #[], .func (.func 77) #[] #[], .func (.func 77) #[] #[], .func (.func 78) #[] #[], .func (.func 79) #[] #[], .func (.func 80) #[] #[], .func (.func 81) #[] #[], .func (.func 82) #[] #[], .func (.func 83) #[] #[], .func (.func 83) #[] #[], .func (.func 84) #[] #[], .func (.func 85) #[] #[], .func (.func 83) #[] #[], .func (.func 86) #[] #[], .func (.func 87) #[] #[], .func (.func 88) #[] #[]]
theorem deedsA_at (op : Int) (h : 1 ≤ op ∧ op ≤ 22) : deedsA[op.toNat]? = some (.func (.func (deedN op)) #[] #[]) := by
  obtain ⟨m, rfl⟩ := Int.eq_ofNat_of_zero_le (show 0 ≤ op by omega)
  have : m = 1 ∨ m = 2 ∨ m = 3 ∨ m = 4 ∨ m = 5 ∨ m = 6 ∨ m = 7 ∨ m = 8 ∨ m = 9 ∨ m = 10 ∨ m = 11 ∨ m = 12 ∨ m = 13 ∨ m = 14 ∨ m = 15 ∨ m = 16 ∨ m = 17 ∨ m = 18 ∨ m = 19 ∨ m = 20 ∨ m = 21 ∨ m = 22 := by omega
  rcases this with rfl | rfl | rfl | rfl | rfl | rfl | rfl | rfl | rfl | rfl | rfl | rfl | rfl | rfl | rfl | rfl | rfl | rfl | rfl | rfl | rfl | rfl <;> rfl

theorem deedsA_one : deedsA.all (·.oneCell') = true := by simp [deedsA, Value.oneCell']
theorem below_row (w : World) (old cs : Array Value) (t : TypeId) : Below w.heap.size w ((w.alloc (.cells old t)).setRow w.heap.size cs) := by
  have h := below1 w (.cells old t)
  exact ⟨h.os, h.tape, h.output, by rw [setRow_size]; exact h.size, fun k hk => by rw [setRow_other _ _ _ _ (by omega)]; exact h.block k hk⟩
theorem deeds_any (w : World) : Calls Tryd.prog 62 #[] w fun e w' => e = .returned (.agg deedsA) ∧ Below w.heap.size w w' := by
  go_enter Tryd.func62, Tryd.ntmps62
  go_wp2_with (refine wpList_store_row rfl 101 (.tmp 0) (.tmp 1) rfl w.heap.size deedsA rfl rfl 101 (Array.replicate 23 .nilFunc) (heap_alloc_new w _) (by rfl) (by rfl) deedsA_one ?_)
  have hg := setRow_heap (w.alloc (.cells (Array.replicate 23 .nilFunc) 101)) w.heap.size (Array.replicate 23 .nilFunc) deedsA 101 (0, 0) (heap_alloc_new w _)
  have hb := below_row w (Array.replicate 23 .nilFunc) deedsA 101
  generalize hY : (w.alloc (.cells (Array.replicate 23 .nilFunc) 101)).setRow w.heap.size deedsA = Y at hg hb
  have hY' : (w.alloc (.cells #[.nilFunc, .nilFunc, .nilFunc, .nilFunc, .nilFunc, .nilFunc, .nilFunc, .nilFunc, .nilFunc, .nilFunc, .nilFunc, .nilFunc, .nilFunc, .nilFunc, .nilFunc, .nilFunc, .nilFunc, .nilFunc, .nilFunc, .nilFunc, .nilFunc, .nilFunc, .nilFunc] 101)).setRow w.heap.size deedsA = Y := hY
  rw [hY']
  clear hY hY'
  exact bodyPost_ret (v := .agg deedsA) (results_cell_row rfl _ Y w.heap.size 101 deedsA (0, 0) _ rfl hg Tryd.underlying101 rfl (by rfl)) rfl ⟨rfl, hb⟩
end

section
open Go.RowKit
set_option linter.unusedVariables false
set_option linter.unusedSimpArgs false
set_option maxRecDepth 100000

/-- a run: the machine at its end (at a trap: as it was ahead of the step), the places of the steps done, and how it came out -/
def runC (xs : List Stp) (en hs : List Int) : Nat → Cf → Cf × List Int × Int
  | 0, c => if c.pc < xs.length then (c, [], 3) else (c, [], 1)
  | f + 1, c => if c.pc < xs.length then (match eff xs en hs c (xs[c.pc]?.getD (0, 0, [])) with
      | some c' => ((runC xs en hs f c').1, (c.pc : Int) :: (runC xs en hs f c').2.1, (runC xs en hs f c').2.2)
      | none => (c, [(c.pc : Int)], 2)) else (c, [], 1)
theorem runC_end {xs : List Stp} {en hs : List Int} {f : Nat} {c : Cf} (h : ¬ c.pc < xs.length) : runC xs en hs f c = (c, [], 1) := by
  cases f <;> simp [runC, h]
theorem runC_fuel {xs : List Stp} {en hs : List Int} {c : Cf} (h : c.pc < xs.length) : runC xs en hs 0 c = (c, [], 3) := by simp [runC, h]
theorem runC_go {xs : List Stp} {en hs : List Int} {f : Nat} {c c' : Cf} {x : Stp} (h : xs[c.pc]? = some x) (he : eff xs en hs c x = some c') : runC xs en hs (f + 1) c = ((runC xs en hs f c').1, (c.pc : Int) :: (runC xs en hs f c').2.1, (runC xs en hs f c').2.2) := by
  have hl := (List.getElem?_eq_some_iff.1 h).1
  conv => lhs; unfold runC
  rw [if_pos hl, h, Option.getD_some, he]
theorem runC_trap {xs : List Stp} {en hs : List Int} {f : Nat} {c : Cf} {x : Stp} (h : xs[c.pc]? = some x) (he : eff xs en hs c x = none) : runC xs en hs (f + 1) c = (c, [(c.pc : Int)], 2) := by
  have hl := (List.getElem?_eq_some_iff.1 h).1
  conv => lhs; unfold runC
  rw [if_pos hl, h, Option.getD_some, he]
/-- no run does more steps than its fuel -/
theorem runC_len (xs : List Stp) (en hs : List Int) (f : Nat) (c : Cf) : (runC xs en hs f c).2.1.length ≤ f := by
  induction f generalizing c with
  | zero => unfold runC; split <;> simp
  | succ f ih =>
    unfold runC
    split
    · cases he : eff xs en hs c (xs[c.pc]?.getD (0, 0, [])) with
      | some c' => have := ih c'; simp; omega
      | none => simp
    · simp
end

section
open Go.RowKit
set_option linter.unusedVariables false
set_option linter.unusedSimpArgs false
set_option maxRecDepth 100000

theorem Sep.perm {w : World} {B : Nat} {l l' : List OR} (h : Sep w B l) (p : l.Perm l') : Sep w B l' := ⟨fun x hx => h.1 x (p.mem_iff.2 hx), (p.pairwise_iff (fun h => h.symm)).1 h.2⟩
/-- a new row lies beside the machine -/
theorem Imp.more {R : List OR} {xs : List Stp} {en hs : List Int} {a ea ha : Option Addr} {ac ec hc : Nat} {w0 : World} {mb : Nat} {W W' : World} {c : Cf} {D : List Int} {here how : Int} {lv mv tv sv dv : Value} (h : Imp R xs en hs a ea ha ac ec hc w0 mb W c D here how lv mv tv sv dv) (hb : Below W.heap.size W W') (y : OR) (hy : y.own W' w0.heap.size) (hn : ∀ k, y.v.ownBlock = some k → W.heap.size ≤ k) : Imp (y :: R) xs en hs a ea ha ac ec hc w0 mb W' c D here how lv mv tv sv dv := by
  refine ⟨?_, bstep' h.bel hb⟩
  have h1 := h.sep.add hb y hy hn
  exact h1.perm (List.perm_middle (l₁ := [_, _, _, _, _, _])).symm
/-- rows that lay beside it are let go -/
theorem Imp.less {R : List OR} {xs : List Stp} {en hs : List Int} {a ea ha : Option Addr} {ac ec hc : Nat} {w0 : World} {mb : Nat} {W : World} {c : Cf} {D : List Int} {here how : Int} {lv mv tv sv dv : Value} (h : Imp R xs en hs a ea ha ac ec hc w0 mb W c D here how lv mv tv sv dv) : Imp [] xs en hs a ea ha ac ec hc w0 mb W c D here how lv mv tv sv dv := by
  refine ⟨⟨fun x hx => h.sep.1 x ?_, ?_⟩, h.bel⟩
  · simp only [List.mem_cons, List.not_mem_nil, or_false] at hx ⊢
    rcases hx with h | h | h | h | h | h <;> simp [h]
  · have : List.Sublist [cellOR 63 11 mb [.slice a xs.length ac, .slice ea en.length ec, .slice ha hs.length hc, lv, mv, tv, sv, .int .i64 here, .int .i64 c.pc, dv, .int .i64 how], ⟨3, 1, lv, c.L.length, ints c.L⟩, ⟨3, 1, mv, c.M.length, ints c.M⟩, ⟨3, 1, tv, c.T.length, ints c.T⟩, ⟨3, 1, sv, c.st.length, ints c.st⟩, ⟨3, 1, dv, D.length, ints D⟩] ([cellOR 63 11 mb [.slice a xs.length ac, .slice ea en.length ec, .slice ha hs.length hc, lv, mv, tv, sv, .int .i64 here, .int .i64 c.pc, dv, .int .i64 how], ⟨3, 1, lv, c.L.length, ints c.L⟩, ⟨3, 1, mv, c.M.length, ints c.M⟩, ⟨3, 1, tv, c.T.length, ints c.T⟩, ⟨3, 1, sv, c.st.length, ints c.st⟩, ⟨3, 1, dv, D.length, ints D⟩] ++ R) := List.sublist_append_left _ _
    exact List.Pairwise.sublist this h.sep.2
/-- the box of the machine's address and the table of deeds lie beside it -/
abbrev beside (bx tb mb : Nat) : List OR := [cellOR 101 23 tb deedsA.toList, cellOR 99 1 bx [.pointer (some ⟨mb, 0, none⟩)]]
theorem Imp.box_at {xs : List Stp} {en hs : List Int} {a ea ha : Option Addr} {ac ec hc : Nat} {w0 : World} {mb bx tb : Nat} {W : World} {c : Cf} {D : List Int} {here how : Int} {lv mv tv sv dv : Value} (h : Imp (beside bx tb mb) xs en hs a ea ha ac ec hc w0 mb W c D here how lv mv tv sv dv) : W.cell? ⟨bx, 0, none⟩ = some (.pointer (some ⟨mb, 0, none⟩)) ∧ bx < W.heap.size ∧ bx ≠ mb := by
  have hm : cellOR 99 1 bx [.pointer (some ⟨mb, 0, none⟩)] ∈ (cellOR 63 11 mb [.slice a xs.length ac, .slice ea en.length ec, .slice ha hs.length hc, lv, mv, tv, sv, .int .i64 here, .int .i64 c.pc, dv, .int .i64 how] :: ⟨3, 1, lv, c.L.length, ints c.L⟩ :: ⟨3, 1, mv, c.M.length, ints c.M⟩ :: ⟨3, 1, tv, c.T.length, ints c.T⟩ :: ⟨3, 1, sv, c.st.length, ints c.st⟩ :: ⟨3, 1, dv, D.length, ints D⟩ :: beside bx tb mb) := by simp [beside]
  refine ⟨h.sep.cell hm rfl (j := 0) rfl, (h.sep.size hm rfl).2, fun e => ?_⟩
  have := h.sep.2
  rw [List.pairwise_cons] at this
  rcases this.1 _ (by simp [beside] : cellOR 99 1 bx [.pointer (some ⟨mb, 0, none⟩)] ∈ _) with h1 | h1
  · cases h1
  · exact h1 (by rw [e])
theorem Imp.deed_at {xs : List Stp} {en hs : List Int} {a ea ha : Option Addr} {ac ec hc : Nat} {w0 : World} {mb bx tb : Nat} {W : World} {c : Cf} {D : List Int} {here how : Int} {lv mv tv sv dv : Value} (h : Imp (beside bx tb mb) xs en hs a ea ha ac ec hc w0 mb W c D here how lv mv tv sv dv) (op : Int) (ho : 1 ≤ op ∧ op ≤ 22) : W.cell? ⟨tb, op.toNat, none⟩ = some (.func (.func (deedN op)) #[] #[]) := by
  have hm : cellOR 101 23 tb deedsA.toList ∈ (cellOR 63 11 mb [.slice a xs.length ac, .slice ea en.length ec, .slice ha hs.length hc, lv, mv, tv, sv, .int .i64 here, .int .i64 c.pc, dv, .int .i64 how] :: ⟨3, 1, lv, c.L.length, ints c.L⟩ :: ⟨3, 1, mv, c.M.length, ints c.M⟩ :: ⟨3, 1, tv, c.T.length, ints c.T⟩ :: ⟨3, 1, sv, c.st.length, ints c.st⟩ :: ⟨3, 1, dv, D.length, ints D⟩ :: beside bx tb mb) := by simp [beside]
  refine h.sep.cell hm rfl (j := op.toNat) ?_
  have := deedsA_at op ho
  simpa using this
end

section
open Go.RowKit
set_option linter.unusedVariables false
set_option linter.unusedSimpArgs false
set_option maxRecDepth 100000

/-- the machine at the start -/
def cf0 (L M T : List Int) : Cf := ⟨0, [], L, M, T⟩
/-- what a run leaves: the state's three rows and the places of the steps done, each apart -/
def RunEnd (w' : World) (B : Nat) (r : Cf × List Int × Int) (lv mv tv dv : Value) : Prop :=
  Sep w' B [⟨3, 1, lv, r.1.L.length, ints r.1.L⟩, ⟨3, 1, mv, r.1.M.length, ints r.1.M⟩, ⟨3, 1, tv, r.1.T.length, ints r.1.T⟩, ⟨3, 1, dv, r.2.1.length, ints r.2.1⟩]
/-- what holds at the head of each round of the model's run -/
def SRel (xs : List Stp) (en hs : List Int) (rs : List Bool) (a ea ha : Option Addr) (ac ec hc : Nat) (w0 : World) (mb F : Nat) (c : Cf) (dv : Value) (wr : World) : Prop :=
  ∃ (ci : Cf) (D : List Int) (lv mv tv sv : Value), MSp [⟨3, 1, dv, D.length, ints D⟩] xs en hs a ea ha ac ec hc w0 mb wr ci lv mv tv sv ∧ Okc xs hs rs ci ∧ D.length ≤ F ∧ runC xs en hs F c = ((runC xs en hs (F - D.length) ci).1, D ++ (runC xs en hs (F - D.length) ci).2.1, (runC xs en hs (F - D.length) ci).2.2)
def lenOf : Value → Nat
  | .slice _ n _ => n
  | _ => 0
theorem MSp.four {xs : List Stp} {en hs : List Int} {a ea ha : Option Addr} {ac ec hc : Nat} {w0 : World} {mb : Nat} {W : World} {c c' : Cf} {D : List Int} {lv mv tv sv dv : Value} (h : MSp [⟨3, 1, dv, D.length, ints D⟩] xs en hs a ea ha ac ec hc w0 mb W c lv mv tv sv) (e1 : c.L = c'.L) (e2 : c.M = c'.M) (e3 : c.T = c'.T) (k : Int) :
    RunEnd W w0.heap.size (c', D, k) lv mv tv dv := by
  have : List.Sublist [(⟨3, 1, lv, c'.L.length, ints c'.L⟩ : OR), ⟨3, 1, mv, c'.M.length, ints c'.M⟩, ⟨3, 1, tv, c'.T.length, ints c'.T⟩, ⟨3, 1, dv, D.length, ints D⟩] (cellOR 74 8 mb [.slice a xs.length ac, .slice ea en.length ec, .slice ha hs.length hc, lv, mv, tv, sv, .int .i64 c.pc] :: ⟨3, 1, lv, c.L.length, ints c.L⟩ :: ⟨3, 1, mv, c.M.length, ints c.M⟩ :: ⟨3, 1, tv, c.T.length, ints c.T⟩ :: ⟨3, 1, sv, c.st.length, ints c.st⟩ :: [⟨3, 1, dv, D.length, ints D⟩]) := by
    rw [← e1, ← e2, ← e3]
    exact List.Sublist.cons _ (List.Sublist.cons_cons _ (List.Sublist.cons_cons _ (List.Sublist.cons_cons _ (List.Sublist.cons _ (List.Sublist.refl _)))))
  exact ⟨fun x hx => h.sep.1 x (this.subset hx), List.Pairwise.sublist this h.sep.2⟩
theorem RunEnd.put3 {w' : World} {B b : Nat} {r : Cf × List Int × Int} {lv mv tv dv : Value} (h : RunEnd w' B r lv mv tv dv) (hb : b < B) (u1 u2 u3 : Value) : RunEnd (((w'.setCell ⟨b, 0, none⟩ u1).setCell ⟨b, 1, none⟩ u2).setCell ⟨b, 2, none⟩ u3) B r lv mv tv dv := by
  refine ⟨fun x hx => ?_, h.2⟩
  have h1 := h.1 x hx
  simp only [List.mem_cons, List.not_mem_nil, or_false] at hx
  rcases hx with rfl | rfl | rfl | rfl <;> exact ownsRow_set3 h1 hb _ _ _

theorem bal {w X : World} (h : Below w.heap.size w X) (o : Obj) : Below w.heap.size w (X.alloc o) := h.alloc h.size o
theorem Sep.mono {w : World} {B B' : Nat} {l : List OR} (h : Sep w B l) (hB : B' ≤ B) : Sep w B' l := ⟨fun x hx => owns_mono (h.1 x hx) hB, h.2⟩
theorem OwnSt.sep5 {w : World} {B : Nat} {v1 v2 v3 : Value} {xs ys zs : List Int} (h : OwnSt w B v1 v2 v3 xs ys zs) : Sep w B [⟨3, 1, v1, xs.length, ints xs⟩, ⟨3, 1, v2, ys.length, ints ys⟩, ⟨3, 1, v3, zs.length, ints zs⟩, nilOR, nilOR] := by
  have key : ∀ {x y : OR}, (∀ g, x.v.ownBlock = some g → y.v.ownBlock ≠ some g) → apt x y := by
    intro x y hk
    cases e : x.v.ownBlock with
    | none => exact .inl e
    | some g => exact .inr (fun e' => hk g e (e'.symm.trans e))
  have nl : ∀ x : OR, apt x nilOR := fun x => apt.symm (.inl rfl)
  refine ⟨fun x hx => ?_, ?_⟩
  · simp only [List.mem_cons, List.not_mem_nil, or_false, or_self] at hx
    rcases hx with rfl | rfl | rfl | rfl
    · exact h.l
    · exact h.m
    · exact h.t
    · exact World.ownsRow_nil _ _ _ _
  · simp only [List.pairwise_cons, List.mem_cons, List.not_mem_nil, or_false, forall_eq_or_imp, forall_eq, false_implies, implies_true, and_true, List.Pairwise.nil]
    exact ⟨⟨key h.lm, key h.lt, nl _, nl _⟩, ⟨key h.mt, nl _, nl _⟩, ⟨nl _, nl _⟩, nl _⟩
theorem MSp.start {xs : List Stp} {en hs : List Int} {a ea ha : Option Addr} {ac ec hc : Nat} {w0 w2 : World} {L M T : List Int} {v1 v2 v3 : Value} (h : OwnSt w2 w0.heap.size v1 v2 v3 L M T) (hb : Below w0.heap.size w0 w2) :
    MSp [⟨3, 1, .slice none 0 0, ([] : List Int).length, ints []⟩] xs en hs a ea ha ac ec hc w0 w2.heap.size (w2.alloc (.cells #[.slice a xs.length ac, .slice ea en.length ec, .slice ha hs.length hc, v1, v2, v3, .slice none 0 0, .int .i64 0] 74)) (cf0 L M T) v1 v2 v3 (.slice none 0 0) := by
  refine ⟨?_, bal hb _⟩
  exact h.sep5.add (below1 w2 _) (cellOR 74 8 w2.heap.size [.slice a xs.length ac, .slice ea en.length ec, .slice ha hs.length hc, v1, v2, v3, .slice none 0 0, .int .i64 0]) (cell_own (cs := #[.slice a xs.length ac, .slice ea en.length ec, .slice ha hs.length hc, v1, v2, v3, .slice none 0 0, .int .i64 0]) (heap_alloc_new w2 _) rfl hb.size) (fun k hk => by have h9 : some w2.heap.size = some k := hk; injection h9 with h9; omega)
theorem MSp.pushR {xs : List Stp} {en hs : List Int} {a ea ha : Option Addr} {ac ec hc : Nat} {w0 : World} {mb : Nat} {W W1 W2 : World} {c : Cf} {D : List Int} {lv mv tv sv dv : Value} {g cap H : Nat} {u : Int} (h : MSp [⟨3, 1, dv, D.length, ints D⟩] xs en hs a ea ha ac ec hc w0 mb W c lv mv tv sv) (hb : Below W.heap.size W W1)
    (ho : W2.ownsRow w0.heap.size 3 1 (.slice (some ⟨g, 0, none⟩) (D.length + 1) cap) (D.length + 1) (ints D ++ [.int .i64 u])) (hg : W1.grownBy W2 dv.ownBlock) (hat : dv.ownBlock = some g ∨ g = H) (hH : W.heap.size ≤ H) :
    MSp [⟨3, 1, .slice (some ⟨g, 0, none⟩) (D.length + 1) cap, (D ++ [u]).length, ints (D ++ [u])⟩] xs en hs a ea ha ac ec hc w0 mb W2 c lv mv tv sv := by
  have h1 := h.sep.grow [_, _, _, _, _] hb ho hg hat hH h.bel.size
  have e0 : ints (D ++ [u]) = ints D ++ [.int .i64 u] := by simp [ints]
  rw [e0]
  simp only [List.length_append, List.length_singleton]
  exact ⟨h1.1, h.bel.trans h1.2⟩
set_option maxHeartbeats 4000000 in
theorem l5Run_any (xs : List Stp) (en d hs : List Int) (rs : List Bool) (a ha : Option Addr) (ac hc : Nat) (da : Option Addr) (dn dc : Nat) (k p : Int) (L M T : List Int) (a1 a2 a3 : Option Addr) (c1 c2 c3 : Nat) (w : World) (F : Nat) (hF : F ≤ 2000) (v : Vld xs en d hs rs) (hT : TRow w a xs) (hH : Row w ha hs) (hS : SRow w a1 a2 a3 L M T) (ok : Okc xs hs rs (cf0 L M T)) :
    Calls Tryd.prog 29 #[.slice a xs.length ac, .agg #[.slice ha hs.length hc, .slice da dn dc, .int .i64 k, .int .i64 p], .agg #[.slice a1 L.length c1, .slice a2 M.length c2, .slice a3 T.length c3], .int .i64 F] w fun e w' => ∃ lv mv tv dv, e = .returned (.tuple #[.agg #[lv, mv, tv], .int .i64 (runC xs en hs F (cf0 L M T)).2.2, dv]) ∧ RunEnd w' w.heap.size (runC xs en hs F (cf0 L M T)) lv mv tv dv ∧ Below w.heap.size w w' := by
  obtain ⟨l1, l2, l60⟩ := nestO_length v.nest
  have L8 : L.length = 8 := ok.L8
  have M16 : M.length = 16 := ok.M16
  have T100 : T.length ≤ 100 := ok.T100
  have HL : Hid (∀ X, Below w.heap.size w X → Calls Tryd.prog 41 #[.slice a xs.length ac] X fun e w' => (∃ ea ec, e = .returned (.tuple #[.slice ea en.length ec, .bool true]) ∧ Row w' ea en) ∧ Below X.heap.size X w') := by
    intro X hb
    refine (l3Ends_any a ac xs X (by omega) (hT.below hb)).mono ?_
    rintro e w' ⟨⟨v', b, rfl, hm⟩, hb'⟩
    rw [v.nest] at hm
    obtain ⟨rfl, ho⟩ := hm
    have ho' : w'.ownsRow X.heap.size 3 1 v' en.length (ints en) := by rw [l1]; exact ho
    obtain ⟨ea, ec, rfl⟩ := slice_of_owned ho'
    exact ⟨⟨ea, ec, rfl, own_row ho'⟩, hb'⟩
  have HOW : Hid (∀ X, Below w.heap.size w X → Calls Tryd.prog 30 #[.agg #[.slice a1 L.length c1, .slice a2 M.length c2, .slice a3 T.length c3]] X fun e w' => ∃ b1 b2 b3 d1 d2 d3, e = .returned (.agg #[.slice b1 L.length d1, .slice b2 M.length d2, .slice b3 T.length d3]) ∧ OwnSt w' X.heap.size (.slice b1 L.length d1) (.slice b2 M.length d2) (.slice b3 T.length d3) L M T ∧ Below X.heap.size X w') := fun X hb => l5Own_any a1 a2 a3 c1 c2 c3 L M T X (by omega) (by omega) (by omega) (hS.below hb)
  have HV := hid (And.intro v (And.intro ok (And.intro hT hH)))
  have hFI : (F : Int) ≤ 2000 := by omega
  have HLN := hid (And.intro l1 l2)
  clear v ok hT hH hS L8 M16 T100 l1 l2
  have HX0 : Hid (∀ X X', X = ((w.alloc (.cells #[.slice ha hs.length hc, .slice da dn dc, .int .i64 k, .int .i64 p] 51)).alloc (.cells #[.slice a1 L.length c1, .slice a2 M.length c2, .slice a3 T.length c3] 28)).alloc (.cells #[.slice none 0 0, .slice none 0 0, .slice none 0 0] 28) → Below X.heap.size X X' → (X'.cell? ⟨w.heap.size, 0, none⟩ = some (.slice ha hs.length hc) ∧ X'.cell? ⟨w.heap.size + 1, 0, none⟩ = some (.slice a1 L.length c1) ∧ X'.cell? ⟨w.heap.size + 1, 1, none⟩ = some (.slice a2 M.length c2) ∧ X'.cell? ⟨w.heap.size + 1, 2, none⟩ = some (.slice a3 T.length c3)) ∧ Below w.heap.size w X' ∧ (∀ j, j < 3 → X'.cell? ⟨w.heap.size + 1 + 1, j, none⟩ = some (.slice none 0 0) ∧ X'.frozen? ⟨w.heap.size + 1 + 1, j, none⟩ = false) ∧ w.heap.size + 1 + 1 < X'.heap.size) := by
    rintro X X' rfl hb
    have hz : (((w.alloc (.cells #[.slice ha hs.length hc, .slice da dn dc, .int .i64 k, .int .i64 p] 51)).alloc (.cells #[.slice a1 L.length c1, .slice a2 M.length c2, .slice a3 T.length c3] 28)).alloc (.cells #[.slice none 0 0, .slice none 0 0, .slice none 0 0] 28)).heap.size = w.heap.size + 1 + 1 + 1 := by simp
    refine ⟨⟨?_, ?_, ?_, ?_⟩, bstep' (bal (bal (bal (Below.refl _ _) _) _) _) hb, fun j hj => ?_, by have := hb.size; omega⟩
    · rw [hb.cell (p := ⟨w.heap.size, 0, none⟩) (by simp; omega)]; simp [go_sem]
    · rw [hb.cell (p := ⟨w.heap.size + 1, 0, none⟩) (by simp)]; simp [go_sem]
    · rw [hb.cell (p := ⟨w.heap.size + 1, 1, none⟩) (by simp)]; simp [go_sem]
    · rw [hb.cell (p := ⟨w.heap.size + 1, 2, none⟩) (by simp)]; simp [go_sem]
    · rw [hb.cell (p := ⟨w.heap.size + 1 + 1, j, none⟩) (by simp), hb.frozen (p := ⟨w.heap.size + 1 + 1, j, none⟩) (by simp)]
      obtain rfl | rfl | rfl : j = 0 ∨ j = 1 ∨ j = 2 := by omega
      all_goals simp [go_sem]
  go_enter Tryd.func29, Tryd.ntmps29
  go_wp2_with (go_at_call 41; refine (HL.out _ (bal (bal (bal (Below.refl _ _) _) _) _)).mono ?_; rintro e w1 ⟨⟨ea, ec, rfl, hEa⟩, hb1⟩)
  generalize hX0 : ((w.alloc (.cells #[.slice ha hs.length hc, .slice da dn dc, .int .i64 k, .int .i64 p] 51)).alloc (.cells #[.slice a1 L.length c1, .slice a2 M.length c2, .slice a3 T.length c3] 28)).alloc (.cells #[.slice none 0 0, .slice none 0 0, .slice none 0 0] 28) = X0 at hb1
  have HW : Hid (∀ X', Below w1.heap.size w1 X' → (X'.cell? ⟨w.heap.size, 0, none⟩ = some (.slice ha hs.length hc) ∧ X'.cell? ⟨w.heap.size + 1, 0, none⟩ = some (.slice a1 L.length c1) ∧ X'.cell? ⟨w.heap.size + 1, 1, none⟩ = some (.slice a2 M.length c2) ∧ X'.cell? ⟨w.heap.size + 1, 2, none⟩ = some (.slice a3 T.length c3)) ∧ Below w.heap.size w X' ∧ (∀ j, j < 3 → X'.cell? ⟨w.heap.size + 1 + 1, j, none⟩ = some (.slice none 0 0) ∧ X'.frozen? ⟨w.heap.size + 1 + 1, j, none⟩ = false) ∧ w.heap.size + 1 + 1 < X'.heap.size) := fun X' hb => HX0.out _ _ hX0.symm (bstep' hb1 hb)
  have HE := hid hEa
  clear HX0 hX0 hb1 X0 HL hEa
  have hw0 : Below w1.heap.size w1 w1.drew := (Below.refl _ _).drew
  go_region_held (fun X' => X'.cell? ⟨w.heap.size, 0, none⟩ = some (.slice ha hs.length hc) ∧ X'.cell? ⟨w.heap.size + 1, 0, none⟩ = some (.slice a1 L.length c1) ∧ X'.cell? ⟨w.heap.size + 1, 1, none⟩ = some (.slice a2 M.length c2) ∧ X'.cell? ⟨w.heap.size + 1, 2, none⟩ = some (.slice a3 T.length c3)) ((first | exact (HW.out _ (bal hb2 _)).1 | exact (HW.out _ hb2).1 | exact (HW.out _ hw0).1 | go_keep)) ((go_at_call 30; refine (HOW.out _ (HW.out _ hw0).2.1).mono ?_; rintro e w2 ⟨b1, b2, b3, d1, d2, d3, rfl, hOS, hb2⟩; replace hb2 : Below w1.heap.size w1 w2 := below_of_drew hb2))
  have M0 := MSp.start (xs := xs) (en := en) (hs := hs) (a := a) (ea := ea) (ha := ha) (ac := ac) (ec := ec) (hc := hc) (w0 := w1) hOS hb2
  generalize (w2.alloc (.cells #[.slice a xs.length ac, .slice ea en.length ec, .slice ha hs.length hc, .slice b1 L.length d1, .slice b2 M.length d2, .slice b3 T.length d3, .slice none 0 0, .int .i64 0] 74)) = X at M0 ⊢
  obtain ⟨mb, hmb⟩ : ∃ mb, w2.heap.size = mb := ⟨_, rfl⟩
  rw [hmb] at M0 ⊢
  have HV1 : Hid (Vld xs en d hs rs ∧ TRow w1 a xs ∧ Row w1 ea en ∧ Row w1 ha hs) := ⟨HV.out.1, HV.out.2.2.1.below (HW.out _ (Below.refl _ _)).2.1, HE.out, HV.out.2.2.2.below (HW.out _ (Below.refl _ _)).2.1⟩
  have H0 : Hid (SRel xs en hs rs a ea ha ac ec hc w1 mb F (cf0 L M T) (.slice none 0 0) X) := ⟨cf0 L M T, [], _, _, _, _, M0, HV.out.2.1, Nat.zero_le _, rfl⟩
  clear M0 hmb hb2 hOS hw0 HOW HE HV
  go_wp2
  go_loopw [14] (fun t14 wr => SRel xs en hs rs a ea ha ac ec hc w1 mb F (cf0 L M T) t14 wr) (fun t14 _ => F + 1 - lenOf t14)
  case atStart => exact H0.out
  case round =>
    clear H0
    obtain ⟨ci, D, lv, mv, tv, sv, h, oki, hD, hrun⟩ := hrel
    obtain ⟨la, lc, rfl⟩ := slice_of_owned h.rows.1
    obtain ⟨ma, mc, rfl⟩ := slice_of_owned h.rows.2.1
    obtain ⟨ta, tc, rfl⟩ := slice_of_owned h.rows.2.2.1
    have hown : wr.ownsRow w1.heap.size 3 1 u14 D.length (ints D) := h.sep.1 ⟨3, 1, u14, D.length, ints D⟩ (by simp)
    obtain ⟨oa, oc, rfl⟩ := slice_of_owned hown
    obtain ⟨_, _, _, k3, k4, k5, _, k7⟩ := h.cells
    have hlt := h.lt
    obtain ⟨_, hwb, hrb, hrl⟩ := HW.out _ (Below.refl _ _)
    have HBE : Hid (∀ X', Below w1.heap.size w1 X' → X'.cell? ⟨w.heap.size + 1 + 1, 0, none⟩ = some (.slice none 0 0) ∧ X'.cell? ⟨w.heap.size + 1 + 1, 1, none⟩ = some (.slice none 0 0) ∧ X'.cell? ⟨w.heap.size + 1 + 1, 2, none⟩ = some (.slice none 0 0) ∧ X'.frozen? ⟨w.heap.size + 1 + 1, 0, none⟩ = false ∧ X'.frozen? ⟨w.heap.size + 1 + 1, 1, none⟩ = false ∧ X'.frozen? ⟨w.heap.size + 1 + 1, 2, none⟩ = false ∧ w.heap.size + 1 + 1 < X'.heap.size) := by
      intro X' hb'
      obtain ⟨_, _, q, ql⟩ := HW.out _ hb'
      exact ⟨(q 0 (by omega)).1, (q 1 (by omega)).1, (q 2 (by omega)).1, (q 0 (by omega)).2, (q 1 (by omega)).2, (q 2 (by omega)).2, ql⟩
    obtain ⟨r0, r1, r2, q0, q1, q2, rl⟩ := HBE.out _ h.bel
    have hne : ¬ mb = w.heap.size + 1 + 1 := by omega
    have hne' : ¬ w.heap.size + 1 + 1 = mb := by omega
    have HH := hid h
    have HRR := hid hrun
    have HEND : Hid (∀ W c' (la ma ta oa : Option Addr) (lc mc tc oc : Nat) (D' : List Int) (sv : Value) (cc : Cf) (u1 u2 u3 : Value) (how : Int), MSp [⟨3, 1, .slice oa D'.length oc, D'.length, ints D'⟩] xs en hs a ea ha ac ec hc w1 mb W c' (.slice la c'.L.length lc) (.slice ma c'.M.length mc) (.slice ta c'.T.length tc) sv → c'.L = cc.L → c'.M = cc.M → c'.T = cc.T → runC xs en hs F (cf0 L M T) = (cc, D', how) → RunEnd (((W.setCell ⟨w.heap.size + 1 + 1, 0, none⟩ u1).setCell ⟨w.heap.size + 1 + 1, 1, none⟩ u2).setCell ⟨w.heap.size + 1 + 1, 2, none⟩ u3) w.heap.size (runC xs en hs F (cf0 L M T)) (.slice la c'.L.length lc) (.slice ma c'.M.length mc) (.slice ta c'.T.length tc) (.slice oa D'.length oc) ∧ Below w.heap.size w (((W.setCell ⟨w.heap.size + 1 + 1, 0, none⟩ u1).setCell ⟨w.heap.size + 1 + 1, 1, none⟩ u2).setCell ⟨w.heap.size + 1 + 1, 2, none⟩ u3)) := by
      intro W c' la ma ta oa lc mc tc oc D' sv cc u1 u2 u3 how hm e1 e2 e3 hr
      rw [hr]
      refine ⟨Sep.mono ((hm.four e1 e2 e3 how).put3 hrl u1 u2 u3) hwb.size, ?_⟩
      exact ((((bstep' hwb hm.bel)).setCell (p := ⟨w.heap.size + 1 + 1, 0, none⟩) (by simp; omega) _).setCell (p := ⟨w.heap.size + 1 + 1, 1, none⟩) (by simp; omega) _).setCell (p := ⟨w.heap.size + 1 + 1, 2, none⟩) (by simp; omega) _
    clear h hrun hrb hwb hrl
    by_cases hpc : ci.pc < xs.length
    · have hpI : (ci.pc : Int) < xs.length := by omega
      by_cases hDF : D.length = F
      · have HR1 : Hid (runC xs en hs F (cf0 L M T) = (ci, D, 3)) := by show _ = _; rw [HRR.out, hDF, Nat.sub_self, runC_fuel hpc]; simp
        have hDI : (D.length : Int) = F := by omega
        have HE1 := HEND.out _ _ _ _ _ _ _ _ _ _ _ _ ci (.slice la ci.L.length lc) (.slice ma ci.M.length mc) (.slice ta ci.T.length tc) _ HH.out rfl rfl rfl HR1.out
        have hh1 : (runC xs en hs F (cf0 L M T)).2.2 = 3 := by rw [HR1.out]
        have HE2 := hid (And.intro HE1 hh1)
        clear HE1 hh1
        subst hDF
        clear hDI
        go_wp2
        refine bodyPost_ret (v := .tuple #[.agg #[.slice la ci.L.length lc, .slice ma ci.M.length mc, .slice ta ci.T.length tc], .int .i64 3, .slice oa D.length oc]) (by simp [results, Tryd.results29, go_sem, *]) rfl ⟨_, _, _, _, ?_, HE2.out.1⟩
        rw [HE2.out.2]
      · have hDN : ¬ (D.length : Int) = F := by omega
        have hDb : ((D.length : Int) == F) = false := by simpa using hDN
        obtain ⟨x, hx⟩ : ∃ x, xs[ci.pc]? = some x := ⟨_, List.getElem?_eq_getElem hpc⟩
        obtain ⟨i3, hi3, hz30, hz31, hz32⟩ := info_parts info3
        have HPU : Hid (∀ W2 g cap, W2.ownsRow w1.heap.size 3 1 (.slice (some ⟨g, 0, none⟩) (D.length + 1) cap) (D.length + 1) (ints D ++ [.int .i64 (ci.pc : Int)]) → (wr.alloc (.cells #[.int .i64 (ci.pc : Int)] 3)).grownBy W2 (Value.slice oa D.length oc).ownBlock → ((Value.slice oa D.length oc).ownBlock = some g ∨ g = wr.heap.size + 1) → Hid (MSp [⟨3, 1, .slice (some ⟨g, 0, none⟩) (D.length + 1) cap, (D ++ [(ci.pc : Int)]).length, ints (D ++ [(ci.pc : Int)])⟩] xs en hs a ea ha ac ec hc w1 mb W2 ci (.slice la ci.L.length lc) (.slice ma ci.M.length mc) (.slice ta ci.T.length tc) sv)) := fun W2 g cap h1 h2 h3 => hid (HH.out.pushR (below1 wr _) h1 h2 h3 (by omega))
        have hwl : w1.heap.size ≤ wr.heap.size := HH.out.bel.size
        have hD1 : D.length < 2000 := by omega
        go_wp2_with (at_builtin; refine wpList_append_lies _ rfl _ _ 23 rfl w1.heap.size 3 i3 (.int .i64 0) 1 8 Tryd.underlying23 hi3 hz30 hz31 hz32 rfl (by decide) _ _ _ rfl (hown.alloc _) ⟨wr.heap.size, 0, none⟩ 1 1 [.int .i64 (ci.pc : Int)] rfl rfl (news_at0 wr _ 3) (by simp [Value.oneCell']) (by decide) (by unfold maxLen; omega) (by omega) (by simp; omega) (wr.heap.size + 1) (by simp) ?_)
        intro g cap W2 hown1 hgrow hat hlt1
        have HM2 := HPU.out _ _ _ hown1 hgrow hat
        clear hown1 hgrow hat HPU k3 k4 k5 k7 r0 r1 r2 q0 q1 q2 rl hown HH hlt1
        have HST := hid (sStep_any xs en d hs rs a ea ha ac ec hc w1 mb W2 ci _ _ _ _ HM2.out HV1.out.1 oki HV1.out.2.1 HV1.out.2.2.1 HV1.out.2.2.2 x hx)
        cases he : eff xs en hs ci x with
        | none =>
          have HS2 : Hid (Calls Tryd.prog 42 #[.pointer (some ⟨mb, 0, none⟩)] W2 fun e W' => e = .returned (.bool false) ∧ ∃ c' lv' mv' tv' sv', MSp [⟨3, 1, .slice (some ⟨g, 0, none⟩) (D.length + 1) cap, (D ++ [(ci.pc : Int)]).length, ints (D ++ [(ci.pc : Int)])⟩] xs en hs a ea ha ac ec hc w1 mb W' c' lv' mv' tv' sv' ∧ c'.L = ci.L ∧ c'.M = ci.M ∧ c'.T = ci.T) := by
            have h9 := HST.out
            rw [he] at h9
            exact h9
          have HR1 : Hid (runC xs en hs F (cf0 L M T) = (ci, D ++ [(ci.pc : Int)], 2)) := by
            show _ = _
            obtain ⟨m, hm⟩ : ∃ m, F - D.length = m + 1 := ⟨F - D.length - 1, by omega⟩
            rw [HRR.out, hm, runC_trap hx he]
          clear HST HM2
          go_wp2_with fail
          refine HS2.out.mono ?_
          rintro e W3 ⟨rfl, c', lv', mv', tv', sv', hm3, e1, e2, e3⟩
          obtain ⟨la', lc', rfl⟩ := slice_of_owned hm3.rows.1
          obtain ⟨ma', mc', rfl⟩ := slice_of_owned hm3.rows.2.1
          obtain ⟨ta', tc', rfl⟩ := slice_of_owned hm3.rows.2.2.1
          obtain ⟨_, _, _, k3, k4, k5, _, k7⟩ := hm3.cells
          obtain ⟨r0, r1, r2, q0, q1, q2, rl⟩ := HBE.out _ hm3.bel
          have el : (D ++ [(ci.pc : Int)]).length = D.length + 1 := by simp
          have hm4 := hm3
          rw [← el] at hm4
          have HE1 := HEND.out _ _ _ _ _ _ _ _ _ _ _ _ ci (.slice la' c'.L.length lc') (.slice ma' c'.M.length mc') (.slice ta' c'.T.length tc') _ hm4 e1 e2 e3 HR1.out
          rw [el] at HE1
          have hh1 : (runC xs en hs F (cf0 L M T)).2.2 = 2 := by rw [HR1.out]
          have HE2 := hid (And.intro HE1 hh1)
          clear HE1 hh1 hm3 hm4 el e1 e2 e3
          go_wp2
          refine bodyPost_ret (v := .tuple #[.agg #[.slice la' c'.L.length lc', .slice ma' c'.M.length mc', .slice ta' c'.T.length tc'], .int .i64 2, .slice (some ⟨g, 0, none⟩) (D.length + 1) cap]) (by simp [results, Tryd.results29, go_sem, *]) rfl ⟨_, _, _, _, ?_, HE2.out.1⟩
          rw [HE2.out.2]
        | some c2 =>
          have HS2 : Hid (Calls Tryd.prog 42 #[.pointer (some ⟨mb, 0, none⟩)] W2 fun e W' => e = .returned (.bool true) ∧ ∃ lv' mv' tv' sv', MSp [⟨3, 1, .slice (some ⟨g, 0, none⟩) (D.length + 1) cap, (D ++ [(ci.pc : Int)]).length, ints (D ++ [(ci.pc : Int)])⟩] xs en hs a ea ha ac ec hc w1 mb W' c2 lv' mv' tv' sv') := by
            have h9 := HST.out
            rw [he] at h9
            exact h9
          have HR1 : Hid (runC xs en hs F (cf0 L M T) = ((runC xs en hs (F - (D ++ [(ci.pc : Int)]).length) c2).1, (D ++ [(ci.pc : Int)]) ++ (runC xs en hs (F - (D ++ [(ci.pc : Int)]).length) c2).2.1, (runC xs en hs (F - (D ++ [(ci.pc : Int)]).length) c2).2.2)) := by
            show _ = _
            have em : F - (D ++ [(ci.pc : Int)]).length = F - D.length - 1 := by simp; omega
            obtain ⟨m, hm⟩ : ∃ m, F - D.length = m + 1 := ⟨F - D.length - 1, by omega⟩
            rw [em, HRR.out, hm, runC_go hx he]
            simp
          have HOK := hid (eff_ok HV1.out.1 oki hx he)
          clear HST HM2
          go_wp2_with fail
          refine HS2.out.mono ?_
          rintro e W3 ⟨rfl, lv', mv', tv', sv', hm3⟩
          have HM3 := hid hm3
          clear hm3
          go_wp2
          go_roundw
          case rel => exact ⟨c2, D ++ [(ci.pc : Int)], _, _, _, _, HM3.out, HOK.out, by simp; omega, HR1.out⟩
          case measure => simp only [lenOf]; omega
    · have hpI : ¬ (ci.pc : Int) < xs.length := by omega
      have HR1 : Hid (runC xs en hs F (cf0 L M T) = (ci, D, 1)) := by show _ = _; rw [HRR.out, runC_end hpc]; simp
      have HE1 := HEND.out _ _ _ _ _ _ _ _ _ _ _ _ ci (.slice la ci.L.length lc) (.slice ma ci.M.length mc) (.slice ta ci.T.length tc) _ HH.out rfl rfl rfl HR1.out
      have hh1 : (runC xs en hs F (cf0 L M T)).2.2 = 1 := by rw [HR1.out]
      have HE2 := hid (And.intro HE1 hh1)
      clear HE1 hh1
      go_wp2
      refine bodyPost_ret (v := .tuple #[.agg #[.slice la ci.L.length lc, .slice ma ci.M.length mc, .slice ta ci.T.length tc], .int .i64 1, .slice oa D.length oc]) (by simp [results, Tryd.results29, go_sem, *]) rfl ⟨_, _, _, _, ?_, HE2.out.1⟩
      rw [HE2.out.2]
end

section
open Go.RowKit
set_option linter.unusedVariables false
set_option linter.unusedSimpArgs false
set_option maxRecDepth 100000

/-- how many places the machine holds, for the measure -/
def doneN (w : World) (mb : Nat) : Nat := match w.cell? ⟨mb, 9, none⟩ with
  | some (.slice _ n _) => n
  | _ => 0
/-- what holds at the head of each round -/
def RunRel (xs : List Stp) (en hs : List Int) (rs : List Bool) (a ea ha : Option Addr) (ac ec hc : Nat) (w0 : World) (mb bx tb F : Nat) (c : Cf) (wr : World) : Prop :=
  ∃ (ci : Cf) (D : List Int) (here how : Int) (lv mv tv sv dv : Value), Imp (beside bx tb mb) xs en hs a ea ha ac ec hc w0 mb wr ci D here how lv mv tv sv dv ∧ Okc xs hs rs ci ∧ D.length ≤ F ∧ runC xs en hs F c = ((runC xs en hs (F - D.length) ci).1, D ++ (runC xs en hs (F - D.length) ci).2.1, (runC xs en hs (F - D.length) ci).2.2)
theorem wp_calm {P : Program} {s : Code} {K : Act → World → Prop} {Q' : Exit → Act → World → Prop} {a : Act} {w : World} (h : s.wp P (Exit.then K (fun _ _ _ => False)) a w) : s.wp P (Exit.then K Q') a w := by
  refine wp_mono h ?_
  intro e a' w' hq
  cases e <;> first | exact hq | exact False.elim hq
theorem callDeed (op : Int) (h : 1 ≤ op ∧ op ≤ 22) (args : Array Value) (w : World) : (callFunc (deedN op) args).run Tryd.prog w = .ok (.enter (deedN op) args) w := by
  obtain ⟨n, rfl⟩ := Int.eq_ofNat_of_zero_le (by omega : 0 ≤ op)
  obtain ⟨h1, h2⟩ := h
  have h22 : n = 1 ∨ n = 2 ∨ n = 3 ∨ n = 4 ∨ n = 5 ∨ n = 6 ∨ n = 7 ∨ n = 8 ∨ n = 9 ∨ n = 10 ∨ n = 11 ∨ n = 12 ∨ n = 13 ∨ n = 14 ∨ n = 15 ∨ n = 16 ∨ n = 17 ∨ n = 18 ∨ n = 19 ∨ n = 20 ∨ n = 21 ∨ n = 22 := by omega
  rcases h22 with rfl | rfl | rfl | rfl | rfl | rfl | rfl | rfl | rfl | rfl | rfl | rfl | rfl | rfl | rfl | rfl | rfl | rfl | rfl | rfl | rfl | rfl <;> (clear h1 h2; simp [go_sem, deedN])
/-- one row beside it is let go -/
theorem Imp.drop1 {y : OR} {R : List OR} {xs : List Stp} {en hs : List Int} {a ea ha : Option Addr} {ac ec hc : Nat} {w0 : World} {mb : Nat} {W : World} {c : Cf} {D : List Int} {here how : Int} {lv mv tv sv dv : Value} (h : Imp (y :: R) xs en hs a ea ha ac ec hc w0 mb W c D here how lv mv tv sv dv) : Imp R xs en hs a ea ha ac ec hc w0 mb W c D here how lv mv tv sv dv := by
  have hs := List.sublist_append_right [y] R
  have h6 : ∀ l6 : List OR, List.Sublist (l6 ++ R) (l6 ++ (y :: R)) := fun l6 => List.Sublist.append (List.Sublist.refl l6) hs
  exact ⟨⟨fun x hx => h.sep.1 x ((h6 [_, _, _, _, _, _]).subset hx), List.Pairwise.sublist (h6 [_, _, _, _, _, _]) h.sep.2⟩, h.bel⟩
abbrev stepOR (sb : Nat) (op n : Int) (ta : Option Addr) (tl tc : Nat) : OR := cellOR 59 3 sb [.int .i64 op, .int .i64 n, .slice ta tl tc]
theorem Imp.step_at {R : List OR} {sb : Nat} {op n : Int} {ta : Option Addr} {tl tc : Nat} {xs : List Stp} {en hs : List Int} {a ea ha : Option Addr} {ac ec hc : Nat} {w0 : World} {mb : Nat} {W : World} {c : Cf} {D : List Int} {here how : Int} {lv mv tv sv dv : Value} (h : Imp (stepOR sb op n ta tl tc :: R) xs en hs a ea ha ac ec hc w0 mb W c D here how lv mv tv sv dv) : W.cell? ⟨sb, 0, none⟩ = some (.int .i64 op) ∧ W.cell? ⟨sb, 1, none⟩ = some (.int .i64 n) ∧ W.cell? ⟨sb, 2, none⟩ = some (.slice ta tl tc) := by
  have hm : stepOR sb op n ta tl tc ∈ (cellOR 63 11 mb [.slice a xs.length ac, .slice ea en.length ec, .slice ha hs.length hc, lv, mv, tv, sv, .int .i64 here, .int .i64 c.pc, dv, .int .i64 how] :: ⟨3, 1, lv, c.L.length, ints c.L⟩ :: ⟨3, 1, mv, c.M.length, ints c.M⟩ :: ⟨3, 1, tv, c.T.length, ints c.T⟩ :: ⟨3, 1, sv, c.st.length, ints c.st⟩ :: ⟨3, 1, dv, D.length, ints D⟩ :: stepOR sb op n ta tl tc :: R) := by simp
  exact ⟨h.sep.cell hm rfl (j := 0) rfl, h.sep.cell hm rfl (j := 1) rfl, h.sep.cell hm rfl (j := 2) rfl⟩
theorem wp_dies {P : Program} {s : Code} {Q' : Exit → Act → World → Prop} {a : Act} {w : World} (ds : List Deferred) (PP : List PanicEntry → World → Prop) (hk : ∀ c (a : Act) w, a.defers = ds → PP c w → Q' (.panic c) a w) (h : s.wp P (fun e a w => match e with | .normal => Q' .normal a w | .panic c => a.defers = ds ∧ PP c w | _ => False) a w) : s.wp P Q' a w := by
  refine wp_mono h ?_
  intro e a' w' hq
  cases e with
  | normal => exact hq
  | panic c => exact hk _ _ _ hq.1 hq.2
  | exit id => exact False.elim hq
  | goto l => exact False.elim hq
  | ret => exact False.elim hq
  | outgrown => exact False.elim hq
set_option maxHeartbeats 4000000 in
theorem iRun_any (xs : List Stp) (en d hs : List Int) (rs : List Bool) (a ea ha : Option Addr) (ac ec hc : Nat) (w0 : World) (mb : Nat) (W : World) (c : Cf) (here how : Int) (lv mv tv sv dv : Value) (h : Imp [] xs en hs a ea ha ac ec hc w0 mb W c [] here how lv mv tv sv dv) (v : Vld xs en d hs rs) (ok : Okc xs hs rs c) (hT : TRow w0 a xs) (hR : Row w0 ea en) (hH : Row w0 ha hs) (hTb : Tab w0) (u : TypeId) (pv : Value) (h5 : 5 < w0.heap.size) (he : w0.cell? ⟨5, 0, none⟩ = some (.iface u pv)) (F : Nat) (hF : F ≤ 2000) :
    Calls Tryd.prog 47 #[.pointer (some ⟨mb, 0, none⟩), .int .i64 F] W fun e W' => e = .returned (.tuple #[]) ∧ ∃ st pc here lv mv tv sv dv, Imp [] xs en hs a ea ha ac ec hc w0 mb W' { (runC xs en hs F c).1 with st := st, pc := pc } (runC xs en hs F c).2.1 here (runC xs en hs F c).2.2 lv mv tv sv dv := by
  have hmf : ∀ (fn : Fn) (first cap : Array Value) (w : World), (Instr.makeFunc fn first cap).run Tryd.prog w = .ok (.func fn first cap) w := fun _ _ _ _ => rfl
  have hmb := h.lt
  have hX := heap_alloc_new W (.cells #[.pointer (some ⟨mb, 0, none⟩)] 99)
  have h1 := h.more (below1 W (.cells #[.pointer (some ⟨mb, 0, none⟩)] 99)) (cellOR 99 1 W.heap.size [.pointer (some ⟨mb, 0, none⟩)]) (cell_own (cs := #[.pointer (some ⟨mb, 0, none⟩)]) hX rfl (by omega)) (fun k hk => by have h9 : some W.heap.size = some k := hk; injection h9 with h9; omega)
  have H1 := hid h1
  clear h1 hX
  have HV := hid (And.intro v (And.intro ok (And.intro hT (And.intro hR (And.intro hH (And.intro hTb he))))))
  clear v ok hT hR hH hTb he
  go_enter_defers Tryd.func47, Tryd.ntmps47
  go_wp2_with fail
  have hlX : W.heap.size < (W.alloc (.cells #[.pointer (some ⟨mb, 0, none⟩)] 99)).heap.size := by simp
  generalize (W.alloc (.cells #[.pointer (some ⟨mb, 0, none⟩)] 99)) = X at H1 hlX ⊢
  obtain ⟨bx, hbx⟩ : ∃ bx, W.heap.size = bx := ⟨_, rfl⟩
  rw [hbx] at H1 hlX ⊢
  refine (deeds_any X).mono ?_
  rintro e X2 ⟨rfl, hb2⟩
  have H2 := hid (H1.out.below hb2)
  have hl2 := hb2.size
  have H3 : Hid (Imp (beside bx X2.heap.size mb) xs en hs a ea ha ac ec hc w0 mb ((X2.alloc (.cells (Array.replicate 23 .nilFunc) 101)).setRow X2.heap.size deedsA) c [] here how lv mv tv sv dv) := by
    refine H2.out.more (below_row X2 _ _ _) _ (cell_own (setRow_heap _ _ _ _ _ _ (heap_alloc_new X2 _)) rfl (by omega)) (fun k hk => by have h9 : some X2.heap.size = some k := hk; injection h9 with h9; omega)
  clear H1 H2 hb2 h
  go_wp2_with (refine wpList_store_row rfl 101 (.tmp 4) (.tmp 7) rfl X2.heap.size deedsA rfl rfl 101 (Array.replicate 23 .nilFunc) (heap_alloc_new X2 _) (by rfl) (by rfl) deedsA_one ?_)
  have e0 : (X2.alloc (.cells #[.nilFunc, .nilFunc, .nilFunc, .nilFunc, .nilFunc, .nilFunc, .nilFunc, .nilFunc, .nilFunc, .nilFunc, .nilFunc, .nilFunc, .nilFunc, .nilFunc, .nilFunc, .nilFunc, .nilFunc, .nilFunc, .nilFunc, .nilFunc, .nilFunc, .nilFunc, .nilFunc] 101)).setRow X2.heap.size deedsA = (X2.alloc (.cells (Array.replicate 23 .nilFunc) 101)).setRow X2.heap.size deedsA := rfl
  rw [e0]
  clear e0
  generalize (X2.alloc (.cells (Array.replicate 23 .nilFunc) 101)).setRow X2.heap.size deedsA = X3 at H3 ⊢
  obtain ⟨tb, htb⟩ : ∃ tb, X2.heap.size = tb := ⟨_, rfl⟩
  rw [htb] at H3 hl2 ⊢
  clear htb hlX hl2 hbx hmb
  simp only [Act.put]
  go_loopw [] (fun wr => RunRel xs en hs rs a ea ha ac ec hc w0 mb bx tb F c wr) (fun wr => F + 1 - doneN wr mb)
  case atStart => exact ⟨c, [], here, how, lv, mv, tv, sv, dv, H3.out, HV.out.2.1, Nat.zero_le _, rfl⟩
  case round =>
    obtain ⟨ci, D, here, how, lv, mv, tv, sv, dv, h, oki, hD, hrun⟩ := hrel
    obtain ⟨da, dc, rfl⟩ := slice_of_owned h.rows.2.2.2.2
    have hx9 := h.cells.2.2.2.2.2.2.2.2.2.1
    have HDN : Hid (doneN wr mb = D.length) := by show _ = _; unfold doneN; rw [hx9]
    obtain ⟨b0, b1, b2⟩ := h.box_at
    have hx1 := h.cells.1
    have hx8 := h.cells.2.2.2.2.2.2.2.2.1
    have hx10 := h.cells.2.2.2.2.2.2.2.2.2.2
    have f10 := h.frz 10
    have hlt := h.lt
    have HH := hid h
    have HRR := hid hrun
    clear h hrun
    by_cases hpc : ci.pc < xs.length
    · have hpI : (ci.pc : Int) < xs.length := by omega
      have hdec : decide ((ci.pc : Int) < xs.length) = true := decide_eq_true hpI
      by_cases hDF : D.length = F
      · have HR1 : Hid (runC xs en hs F c = (ci, D, 3)) := by show _ = _; rw [HRR.out, hDF, Nat.sub_self, runC_fuel hpc]; simp
        subst hDF
        go_wp2
        go_quiet (fail)
        go_wp2
        refine leaves_cons (f := 61) (args := #[.pointer (some ⟨bx, 0, none⟩)]) (by simp) (by simp [go_sem]) ?_
        refine (catch_idle ⟨bx, 0, none⟩ _).mono ?_
        rintro e u' w'' ⟨rfl, rfl, rfl⟩
        refine ⟨_, results_none rfl _ _ _, rfl, ?_⟩
        rw [HR1.out]
        exact ⟨ci.st, ci.pc, _, _, _, _, _, _, ((HH.out.below (below_drewN (Below.refl _ _) _)).setHow 3).less⟩
      · have hDN : ¬ (D.length : Int) = F := by omega
        have hDb : ((D.length : Int) == F) = false := by simpa using hDN
        go_wp2
        go_quiet (fail)
        go_wp2
        have M6 := HH.out.below (below_drewN (Below.refl _ _) nq)
        generalize World.drewN _ nq = X at M6 ⊢
        clear hx1 hx8 hx9 hx10 f10 hlt b0 b1 b2 HH
        obtain ⟨b0, b1, b2⟩ := M6.box_at
        have hx8 := M6.cells.2.2.2.2.2.2.2.2.1
        have hx7 := M6.cells.2.2.2.2.2.2.2.1
        have f7 := M6.frz 7
        have hlt := M6.lt
        have hp60 : ci.pc < 60 := by have := (nestO_length HV.out.1.nest).2.2; omega
        have M7 := (M6.setHere (ci.pc : Int)).drew
        have HK : Hid ((X.setCell ⟨mb, 7, none⟩ (.int .i64 (ci.pc : Int))).drew.cell? ⟨bx, 0, none⟩ = some (.pointer (some ⟨mb, 0, none⟩)) ∧ (X.setCell ⟨mb, 7, none⟩ (.int .i64 (ci.pc : Int))).drew.cell? ⟨mb, 8, none⟩ = some (.int .i64 (ci.pc : Int))) := ⟨M7.box_at.1, M7.cells.2.2.2.2.2.2.2.2.1⟩
        have H7 := hid M7
        clear M6 M7
        refine wp_calm ?_
        go_region_held (fun X' => X'.cell? ⟨bx, 0, none⟩ = some (.pointer (some ⟨mb, 0, none⟩)) ∧ X'.cell? ⟨mb, 8, none⟩ = some (.int .i64 (ci.pc : Int))) ((first | exact HK.out | exact ⟨b0, hx8⟩ | go_keep)) (fail)
        rename_i hHeld
        clear hHeld HK b0 b1 hx8 hx7 f7 hlt
        generalize (X.setCell ⟨mb, 7, none⟩ (.int .i64 (ci.pc : Int))).drew = Y at H7 ⊢
        obtain ⟨b0, b1, _⟩ := H7.out.box_at
        have hx8 := H7.out.cells.2.2.2.2.2.2.2.2.1
        have f8 := H7.out.frz 8
        have hlt := H7.out.lt
        have H8 := hid (H7.out.setPc (ci.pc + 1))
        have hcI : ((ci.pc + 1 : Nat) : Int) = (ci.pc : Int) + 1 := by omega
        rw [hcI] at H8
        clear hcI H7
        go_wp2
        generalize (Y.setCell ⟨mb, 8, none⟩ (.int .i64 ((ci.pc : Int) + 1))) = Z at H8 ⊢
        clear b0 b1 hx8 f8 hlt
        go_cut [] from 8 to 71 (fun wc => ∃ g cap, Imp (beside bx tb mb) xs en hs a ea ha ac ec hc w0 mb wc { ci with pc := ci.pc + 1 } (D ++ [(ci.pc : Int)]) (ci.pc : Int) how lv mv tv sv (.slice (some ⟨g, 0, none⟩) (D.length + 1) cap))
        case first =>
          obtain ⟨i3, hi3, hz30, hz31, hz32⟩ := info_parts info3
          have hz1 : Below Z.heap.size Z Z.drew := (Below.refl _ _).drew
          obtain ⟨Z1, hZ1⟩ : ∃ Z1, Z.drew = Z1 := ⟨_, rfl⟩
          rw [hZ1] at hz1
          have M1 := H8.out.below hz1
          have hx9 := M1.cells.2.2.2.2.2.2.2.2.2.1
          have hlt := M1.lt
          have hown : Z1.ownsRow w0.heap.size 3 1 (.slice da D.length dc) D.length (ints D) := M1.rows.2.2.2.2
          have hwl : w0.heap.size ≤ Z1.heap.size := M1.bel.size
          have hD1 : D.length < 2000 := by omega
          have HK8 : Hid (∀ X', Below Z1.heap.size Z1 X' → X'.cell? ⟨bx, 0, none⟩ = some (.pointer (some ⟨mb, 0, none⟩)) ∧ X'.cell? ⟨mb, 7, none⟩ = some (.int .i64 (ci.pc : Int))) := fun X' hb => ⟨(M1.below hb).box_at.1, (M1.below hb).cells.2.2.2.2.2.2.2.1⟩
          have HPU : Hid (∀ W2 g cap, W2.ownsRow w0.heap.size 3 1 (.slice (some ⟨g, 0, none⟩) (D.length + 1) cap) (D.length + 1) (ints D ++ [.int .i64 (ci.pc : Int)]) → (Z1.alloc (.cells #[.int .i64 (ci.pc : Int)] 3)).grownBy W2 (Value.slice da D.length dc).ownBlock → ((Value.slice da D.length dc).ownBlock = some g ∨ g = Z1.heap.size + 1) → Hid (Imp (beside bx tb mb) xs en hs a ea ha ac ec hc w0 mb (W2.setCell ⟨mb, 9, none⟩ (.slice (some ⟨g, 0, none⟩) (D.length + 1) cap)) { ci with pc := ci.pc + 1 } (D ++ [(ci.pc : Int)]) (ci.pc : Int) how lv mv tv sv (.slice (some ⟨g, 0, none⟩) (D.length + 1) cap)) ∧ (W2.cell? ⟨mb, 9, none⟩ = some (.slice da D.length dc) ∧ W2.frozen? ⟨mb, 9, none⟩ = false ∧ mb < W2.heap.size) ∧ (W2.cell? ⟨bx, 0, none⟩ = some (.pointer (some ⟨mb, 0, none⟩)) ∧ W2.cell? ⟨mb, 7, none⟩ = some (.int .i64 (ci.pc : Int)))) := by
            intro W2 g cap q1 q2 q3
            obtain ⟨z1, z2, z3, z4⟩ := M1.pushD (below1 Z1 _) q1 q2 q3 (by omega)
            refine ⟨hid z1, ⟨z2, z3, z4⟩, ?_, ?_⟩
            · have h1 := z1.box_at.1
              rwa [World.cell?_setCell_far _ _ _ _ (fun e => b2 e.symm)] at h1
            · have h1 := z1.cells.2.2.2.2.2.2.2.1
              simpa [go_sem] using h1
          clear M1 H8
          refine wp_calm ?_
          refine wp_region_held_drew (S := fun X' => X'.cell? ⟨bx, 0, none⟩ = some (.pointer (some ⟨mb, 0, none⟩)) ∧ X'.cell? ⟨mb, 7, none⟩ = some (.int .i64 (ci.pc : Int))) (by kernel_rfl) (by rw [hZ1]; exact HK8.out _ (Below.refl _ _)) (fun hHeld => ?_)
          rw [hZ1] at hHeld ⊢
          clear hZ1
          refine wpAnyH_take (i := 0) (v := ?_) rfl (by kernel_rfl) (by kernel_rfl) (by kernel_rfl) (fun _ _ _ h => h) (Or.inl ⟨by rfl, ?_⟩) (by assumption) ?_
          rotate_left
          focus (intro w hSw; (try dsimp only at hSw); go_simp; first | done | with_reducible rfl)
          try go_simp
          refine wpAnyH_take (i := 1) (v := ?_) rfl (by kernel_rfl) (by kernel_rfl) (by kernel_rfl) (fun _ _ _ h => h) (Or.inl ⟨by rfl, ?_⟩) (by assumption) ?_
          rotate_left
          focus (intro w hSw; (try dsimp only at hSw); go_simp; first | done | with_reducible rfl)
          try go_simp
          refine wpAnyH_take (i := 2) (v := ?_) rfl (by kernel_rfl) (by kernel_rfl) (by kernel_rfl) (fun _ _ _ h => h) (Or.inl ⟨by rfl, ?_⟩) (by assumption) ?_
          rotate_left
          focus (intro w hSw; (try dsimp only at hSw); go_simp; first | done | with_reducible rfl)
          try go_simp
          refine wpAnyH_take (i := 3) (v := ?_) rfl (by kernel_rfl) (by kernel_rfl) (by kernel_rfl) (fun _ _ _ h => h) (Or.inl ⟨by rfl, ?_⟩) (by assumption) ?_
          rotate_left
          focus (intro w hSw; (try dsimp only at hSw); go_simp; first | done | with_reducible rfl)
          try go_simp
          refine wpAnyH_take (i := 5) (v := ?_) rfl (by kernel_rfl) (by kernel_rfl) (by kernel_rfl) (fun _ _ _ h => h) (Or.inl ⟨by rfl, ?_⟩) (by assumption) ?_
          rotate_left
          focus (intro w hSw; (try dsimp only at hSw); go_simp; first | done | with_reducible rfl)
          try go_simp
          refine wpAnyH_take (i := 6) (v := ?_) rfl (by kernel_rfl) (by kernel_rfl) (by kernel_rfl) (fun _ _ _ h => h) (Or.inl ⟨by rfl, ?_⟩) (by assumption) ?_
          rotate_left
          focus (intro w hSw; (try dsimp only at hSw); go_simp; first | done | with_reducible rfl)
          try go_simp
          refine wpAnyH_take (i := 7) (v := ?_) rfl (by kernel_rfl) (by kernel_rfl) (by kernel_rfl) (fun _ _ _ h => h) (Or.inl ⟨by rfl, ?_⟩) (by assumption) ?_
          rotate_left
          focus (intro w hSw; (try dsimp only at hSw); go_simp; first | done | with_reducible rfl)
          try go_simp
          refine wpAnyH_take (i := 8) (v := ?_) rfl (by kernel_rfl) (by kernel_rfl) (by kernel_rfl) (fun _ _ _ h => h) (Or.inl ⟨by rfl, ?_⟩) (by assumption) ?_
          rotate_left
          focus (intro w hSw; (try dsimp only at hSw); go_simp; first | done | with_reducible rfl)
          try go_simp
          refine wpAnyH_ready (rs := [4, 9]) (by kernel_rfl) (by simp) ?_
          refine AllReadyH.cons rfl (fun K hK => ?_) ?_
          · go_simp
            refine hK.out _ _ (HK8.out _ (Below.refl _ _)) (fun hHeld => ?_)
            clear hK K
            refine wpAnyH_ready (rs := [9]) (by kernel_rfl) (by simp) ?_
            refine AllReadyH.cons rfl (fun K hK => ?_) AllReadyH.nil
            go_simp
            refine hK.out _ _ (HK8.out _ (below1 Z1 _)) (fun hHeld => ?_)
            clear hK K
            refine wpAnyH_ready (rs := [10]) (by kernel_rfl) (by simp) ?_
            refine AllReadyH.cons rfl (fun K hK => ?_) AllReadyH.nil
            refine step_append_lies _ (by rfl) _ _ _ (by rfl) w0.heap.size 3 i3 _ 1 8 Tryd.underlying23 hi3 hz30 hz31 hz32 rfl (by omega) _ _ _ (by rfl) (hown.alloc _) ⟨Z1.heap.size, 0, none⟩ 1 1 [.int .i64 (ci.pc : Int)] (by rfl) (by rfl) (news_at0 Z1 _ 3) (by simp [Value.oneCell']) (by omega) (by unfold maxLen; omega) (by omega) (by simp; omega) (Z1.heap.size + 1) (by simp) ?_
            intro g cap W2 hown1 hgrow hat hlt1
            obtain ⟨HMP, ⟨k9, f9, m9⟩, hS2⟩ := HPU.out _ _ _ hown1 hgrow hat
            clear hown1 hgrow hat hlt1
            refine hK.out _ _ hS2 (fun hHeld => ?_)
            clear hK K
            try go_simp
            refine wpAnyH_take (i := 11) (v := ?_) rfl (by kernel_rfl) (by kernel_rfl) (by kernel_rfl) (fun _ _ _ h => h) (Or.inl ⟨by rfl, ?_⟩) (by assumption) ?_
            rotate_left
            focus (intro w hSw; (try dsimp only at hSw); go_simp; first | done | with_reducible rfl)
            try go_simp
            refine wpAnyH_take (i := 12) (v := ?_) rfl (by kernel_rfl) (by kernel_rfl) (by kernel_rfl) (fun _ _ _ h => h) (Or.inl ⟨by rfl, ?_⟩) (by assumption) ?_
            rotate_left
            focus (intro w hSw; (try dsimp only at hSw); go_simp; first | done | with_reducible rfl)
            try go_simp
            refine wpAnyH_ready (rs := [13]) (by kernel_rfl) (by simp) ?_
            refine AllReadyH.cons rfl (fun K hK => ?_) AllReadyH.nil
            go_simp
            refine hK.out _ _ ⟨HMP.out.box_at.1, HMP.out.cells.2.2.2.2.2.2.2.1⟩ (fun hHeld => ?_)
            clear hK K
            refine wpAnyH_done (by kernel_rfl) ?_ _
            go_wp2_with fail
            go_meet
            exact ⟨g, cap, HMP.out⟩
          refine AllReadyH.cons rfl (fun K hK => ?_) AllReadyH.nil
          go_simp
          refine hK.out _ _ (HK8.out _ (below1 Z1 _)) (fun hHeld => ?_)
          clear hK K
          have hx9a : (Z1.alloc (.cells #[.int .i64 (ci.pc : Int)] 3)).cell? ⟨mb, 9, none⟩ = some (.slice da D.length dc) := (below1 Z1 _).cell (p := ⟨mb, 9, none⟩) hlt.2 |>.trans hx9
          refine wpAnyH_ready (rs := [4]) (by kernel_rfl) (by simp) ?_
          refine AllReadyH.cons rfl (fun K hK => ?_) AllReadyH.nil
          go_simp
          refine hK.out _ _ (HK8.out _ (below1 Z1 _)) (fun hHeld => ?_)
          clear hK K
          refine wpAnyH_ready (rs := [10]) (by kernel_rfl) (by simp) ?_
          refine AllReadyH.cons rfl (fun K hK => ?_) AllReadyH.nil
          refine step_append_lies _ (by rfl) _ _ _ (by rfl) w0.heap.size 3 i3 _ 1 8 Tryd.underlying23 hi3 hz30 hz31 hz32 rfl (by omega) _ _ _ (by rfl) (hown.alloc _) ⟨Z1.heap.size, 0, none⟩ 1 1 [.int .i64 (ci.pc : Int)] (by rfl) (by rfl) (news_at0 Z1 _ 3) (by simp [Value.oneCell']) (by omega) (by unfold maxLen; omega) (by omega) (by simp; omega) (Z1.heap.size + 1) (by simp) ?_
          intro g cap W2 hown1 hgrow hat hlt1
          obtain ⟨HMP, ⟨k9, f9, m9⟩, hS2⟩ := HPU.out _ _ _ hown1 hgrow hat
          clear hown1 hgrow hat hlt1
          refine hK.out _ _ hS2 (fun hHeld => ?_)
          clear hK K
          try go_simp
          refine wpAnyH_take (i := 11) (v := ?_) rfl (by kernel_rfl) (by kernel_rfl) (by kernel_rfl) (fun _ _ _ h => h) (Or.inl ⟨by rfl, ?_⟩) (by assumption) ?_
          rotate_left
          focus (intro w hSw; (try dsimp only at hSw); go_simp; first | done | with_reducible rfl)
          try go_simp
          refine wpAnyH_take (i := 12) (v := ?_) rfl (by kernel_rfl) (by kernel_rfl) (by kernel_rfl) (fun _ _ _ h => h) (Or.inl ⟨by rfl, ?_⟩) (by assumption) ?_
          rotate_left
          focus (intro w hSw; (try dsimp only at hSw); go_simp; first | done | with_reducible rfl)
          try go_simp
          refine wpAnyH_ready (rs := [13]) (by kernel_rfl) (by simp) ?_
          refine AllReadyH.cons rfl (fun K hK => ?_) AllReadyH.nil
          go_simp
          refine hK.out _ _ ⟨HMP.out.box_at.1, HMP.out.cells.2.2.2.2.2.2.2.1⟩ (fun hHeld => ?_)
          clear hK K
          refine wpAnyH_done (by kernel_rfl) ?_ _
          go_wp2_with fail
          go_meet
          exact ⟨g, cap, HMP.out⟩
        case rest =>
          obtain ⟨g, cap, h8⟩ := hcut
          have hT0 := HV.out.2.2.1
          obtain ⟨b, off, rfl, hat⟩ := hT0.at (by intro h0; rw [h0] at hpc; simp at hpc)
          obtain ⟨op, n, t, ta, tc, x0, x1, x2, hbw, hts, HTR, HX⟩ := hat wc h8.bel ci.pc hpc
          obtain ⟨b0, b1, _⟩ := h8.box_at
          have k0 := h8.cells.1
          have k7 := h8.cells.2.2.2.2.2.2.2.1
          have hlt := h8.lt
          have hwl := h8.bel.size
          have HK9 : Hid (∀ X', Below wc.heap.size wc X' → X'.cell? ⟨bx, 0, none⟩ = some (.pointer (some ⟨mb, 0, none⟩)) ∧ X'.cell? ⟨mb, 0, none⟩ = some (.slice (some ⟨b, off, none⟩) xs.length ac) ∧ X'.cell? ⟨mb, 7, none⟩ = some (.int .i64 (ci.pc : Int)) ∧ X'.cell? ⟨b, off + ci.pc * 3, none⟩ = some (.int .i64 op) ∧ X'.cell? ⟨b, off + ci.pc * 3 + 1, none⟩ = some (.int .i64 n) ∧ X'.cell? ⟨b, off + ci.pc * 3 + 2, none⟩ = some (.slice ta t.length tc)) := fun X' hb => ⟨(h8.below hb).box_at.1, (h8.below hb).cells.1, (h8.below hb).cells.2.2.2.2.2.2.2.1, (hb.cell (p := ⟨b, off + ci.pc * 3, none⟩) (Nat.lt_of_lt_of_le hbw hwl)).trans x0, (hb.cell (p := ⟨b, off + ci.pc * 3 + 1, none⟩) (Nat.lt_of_lt_of_le hbw hwl)).trans x1, (hb.cell (p := ⟨b, off + ci.pc * 3 + 2, none⟩) (Nat.lt_of_lt_of_le hbw hwl)).trans x2⟩
          have H8' := hid h8
          clear h8 hat H8
          go_wp2
          have hz9 : Below wc.heap.size wc wc.drew := (Below.refl _ _).drew
          refine wp_calm ?_
          go_region_held (fun X' => X'.cell? ⟨bx, 0, none⟩ = some (.pointer (some ⟨mb, 0, none⟩)) ∧ X'.cell? ⟨mb, 0, none⟩ = some (.slice (some ⟨b, off, none⟩) xs.length ac) ∧ X'.cell? ⟨mb, 7, none⟩ = some (.int .i64 (ci.pc : Int)) ∧ X'.cell? ⟨b, off + ci.pc * 3, none⟩ = some (.int .i64 op) ∧ X'.cell? ⟨b, off + ci.pc * 3 + 1, none⟩ = some (.int .i64 n) ∧ X'.cell? ⟨b, off + ci.pc * 3 + 2, none⟩ = some (.slice ta t.length tc)) ((first | exact HK9.out _ hz9 | exact HK9.out _ (bal hz9 _) | go_keep)) (fail)
          rename_i hHeld
          clear hHeld
          have hop : 1 ≤ op ∧ op ≤ 22 := by
            obtain ⟨o, _, _, _, m, _, _, h3, _⟩ := oki.tr HV.out.1 HX.out
            have h1 := (within_dep HV.out.1.nest HX.out h3).1
            simp [oneS, isOpB] at h1
            exact h1.1.1
          have B9 : Below wc.heap.size wc (wc.alloc (.cells #[.int .i64 op, .int .i64 n, .slice ta t.length tc] 59)).drew := (below1 wc _).drew
          have H9 := hid (H8'.out.more B9 (stepOR wc.heap.size op n ta t.length tc) (cell_own (cs := #[.int .i64 op, .int .i64 n, .slice ta t.length tc]) (heap_alloc_new wc (.cells #[.int .i64 op, .int .i64 n, .slice ta t.length tc] 59)) rfl hwl) (fun k hk => by have h9 : some wc.heap.size = some k := hk; injection h9 with h9; omega))
          generalize (wc.alloc (.cells #[.int .i64 op, .int .i64 n, .slice ta t.length tc] 59)).drew = V at H9 ⊢
          obtain ⟨sb, hsb⟩ : ∃ sb, wc.heap.size = sb := ⟨_, rfl⟩
          rw [hsb] at H9 ⊢
          have Y9 : Hid (∀ X' c' D' here' how' lv' mv' tv' sv' dv', Imp (stepOR sb op n ta t.length tc :: beside bx tb mb) xs en hs (some ⟨b, off, none⟩) ea ha ac ec hc w0 mb X' c' D' here' how' lv' mv' tv' sv' dv' → X'.cell? ⟨bx, 0, none⟩ = some (.pointer (some ⟨mb, 0, none⟩)) ∧ X'.cell? ⟨tb, op.toNat, none⟩ = some (.func (.func (deedN op)) #[] #[]) ∧ X'.cell? ⟨sb, 0, none⟩ = some (.int .i64 op) ∧ X'.cell? ⟨sb, 1, none⟩ = some (.int .i64 n) ∧ X'.cell? ⟨sb, 2, none⟩ = some (.slice ta t.length tc)) := fun X' c' D' here' how' lv' mv' tv' sv' dv' hm => ⟨hm.drop1.box_at.1, hm.drop1.deed_at op hop, hm.step_at⟩
          have HOP := hid hop
          clear B9 HK9 H8' x0 x1 x2 k0 k7 b0 b1 hlt hwl hz9 hsb
          go_wp2
          have HD := hid (deed_any xs en d hs rs (some ⟨b, off, none⟩) ea ha ac ec hc w0 mb V.drew ci (D ++ [(ci.pc : Int)]) how lv mv tv sv (.slice (some ⟨g, 0, none⟩) (D.length + 1) cap) H9.out.drew HV.out.1 oki HV.out.2.2.1 HV.out.2.2.2.1 HV.out.2.2.2.2.1 HV.out.2.2.2.2.2.1 u pv h5 HV.out.2.2.2.2.2.2 op n t HX.out ta tc HTR.out)
          refine wp_dies [{ target := .fn (.func 61) #[.pointer (some ⟨bx, 0, none⟩)], args := #[] }] (fun ch X' => eff xs en hs ci (op, n, t) = none ∧ Gave (stepOR sb op n ta t.length tc :: beside bx tb mb) xs en hs (some ⟨b, off, none⟩) ea ha ac ec hc w0 mb (D ++ [(ci.pc : Int)]) ci.pc how (.slice (some ⟨g, 0, none⟩) (D.length + 1) cap) u pv { ci with pc := ci.pc + 1 } (.panicked ch) X') ?_ ?_
          · rintro ch a' w' hd ⟨he, h1, st, lv', mv', tv', sv', hI'⟩
            have hI := hI'.drop1
            injection h1 with h1
            subst h1
            show Leaves Tryd.prog Tryd.f47 a'.tmps _ a'.defers (.panicking _) w'
            rw [hd]
            refine leaves_cons (f := 61) (args := #[.pointer (some ⟨bx, 0, none⟩)]) (by simp) (by simp [go_sem]) ?_
            refine (catch_panicking ⟨bx, 0, none⟩ mb u pv [] w' hI.box_at.1 _ hI.cells.2.2.2.2.2.2.2.2.2.2 (hI.frz 10)).mono ?_
            rintro e u' w'' ⟨rfl, rfl, rfl⟩
            refine ⟨_, results_none rfl _ _ _, rfl, ?_⟩
            have HR1 : runC xs en hs F c = (ci, D ++ [(ci.pc : Int)], 2) := by
              obtain ⟨m, hm⟩ : ∃ m, F - D.length = m + 1 := ⟨F - D.length - 1, by omega⟩
              rw [HRR.out, hm, runC_trap HX.out he]
            rw [HR1]
            exact ⟨st, _, _, _, _, _, _, _, (hI.setHow 2).less⟩
          refine wp_region_held_drew (S := fun X' => X'.cell? ⟨bx, 0, none⟩ = some (.pointer (some ⟨mb, 0, none⟩)) ∧ X'.cell? ⟨tb, op.toNat, none⟩ = some (.func (.func (deedN op)) #[] #[]) ∧ X'.cell? ⟨sb, 0, none⟩ = some (.int .i64 op) ∧ X'.cell? ⟨sb, 1, none⟩ = some (.int .i64 n) ∧ X'.cell? ⟨sb, 2, none⟩ = some (.slice ta t.length tc)) (by kernel_rfl) (Y9.out _ _ _ _ _ _ _ _ _ _ H9.out.drew) (fun hHeld => ?_)
          have hoa : 0 ≤ op ∧ op < 23 := by omega
          clear hop
          refine wpAnyH_take (i := 0) (v := ?_) rfl (by kernel_rfl) (by kernel_rfl) (by kernel_rfl) (fun _ _ _ h => h) (Or.inl ⟨by rfl, ?_⟩) (by assumption) ?_
          rotate_left
          focus (intro w hSw; (try dsimp only at hSw); go_simp; first | done | with_reducible rfl | exact if_pos hoa)
          try go_simp
          refine wpAnyH_take (i := 1) (v := ?_) rfl (by kernel_rfl) (by kernel_rfl) (by kernel_rfl) (fun _ _ _ h => h) (Or.inl ⟨by rfl, ?_⟩) (by assumption) ?_
          rotate_left
          focus (intro w hSw; (try dsimp only at hSw); go_simp; first | done | with_reducible rfl | exact if_pos hoa)
          try go_simp
          refine wpAnyH_take (i := 2) (v := ?_) rfl (by kernel_rfl) (by kernel_rfl) (by kernel_rfl) (fun _ _ _ h => h) (Or.inl ⟨by rfl, ?_⟩) (by assumption) ?_
          rotate_left
          focus (intro w hSw; (try dsimp only at hSw); go_simp; first | done | with_reducible rfl | exact if_pos hoa)
          try go_simp
          refine wpAnyH_take (i := 3) (v := ?_) rfl (by kernel_rfl) (by kernel_rfl) (by kernel_rfl) (fun _ _ _ h => h) (Or.inl ⟨by rfl, ?_⟩) (by assumption) ?_
          rotate_left
          focus (intro w hSw; (try dsimp only at hSw); go_simp; first | done | with_reducible rfl | exact if_pos hoa)
          try go_simp
          refine wpAnyH_take (i := 4) (v := ?_) rfl (by kernel_rfl) (by kernel_rfl) (by kernel_rfl) (fun _ _ _ h => h) (Or.inl ⟨by rfl, ?_⟩) (by assumption) ?_
          rotate_left
          focus (intro w hSw; (try dsimp only at hSw); go_simp; first | done | with_reducible rfl | exact if_pos hoa)
          try go_simp
          refine wpAnyH_take (i := 5) (v := ?_) rfl (by kernel_rfl) (by kernel_rfl) (by kernel_rfl) (fun _ _ _ h => h) (Or.inl ⟨by rfl, ?_⟩) (by assumption) ?_
          rotate_left
          focus (intro w hSw; (try dsimp only at hSw); go_simp; first | done | with_reducible rfl | exact if_pos hoa)
          try go_simp
          refine wpAnyH_ready (rs := [6]) (by kernel_rfl) (by simp) ?_
          refine AllReadyH.cons rfl (fun K hK => ?_) AllReadyH.nil
          go_simp
          rw [callDeed op HOP.out]
          simp only [Oper.upon]
          refine HD.out.mono ?_
          intro e X' hA
          cases he : eff xs en hs ci (op, n, t) with
          | none =>
            rw [he] at hA
            have hA' : Gave (stepOR sb op n ta t.length tc :: beside bx tb mb) xs en hs (some ⟨b, off, none⟩) ea ha ac ec hc w0 mb (D ++ [(ci.pc : Int)]) ci.pc how (.slice (some ⟨g, 0, none⟩) (D.length + 1) cap) u pv { ci with pc := ci.pc + 1 } e X' := hA
            have h1 := hA'.1
            subst h1
            exact ⟨trivial, rfl, hA'⟩
          | some c2 =>
            rw [he] at hA
            obtain ⟨rfl, lv', mv', tv', sv', hI⟩ := hA
            have HI := hid hI
            clear hI
            have HR1 : Hid (runC xs en hs F c = ((runC xs en hs (F - (D ++ [(ci.pc : Int)]).length) c2).1, (D ++ [(ci.pc : Int)]) ++ (runC xs en hs (F - (D ++ [(ci.pc : Int)]).length) c2).2.1, (runC xs en hs (F - (D ++ [(ci.pc : Int)]).length) c2).2.2)) := by
              show _ = _
              have em : F - (D ++ [(ci.pc : Int)]).length = F - D.length - 1 := by simp; omega
              obtain ⟨m, hm⟩ : ∃ m, F - D.length = m + 1 := ⟨F - D.length - 1, by omega⟩
              rw [em, HRR.out, hm, runC_go HX.out he]
              simp
            have HOK := hid (eff_ok HV.out.1 oki HX.out he)
            have hSS := Y9.out _ _ _ _ _ _ _ _ _ _ HI.out
            have HI2 := hid HI.out.drop1
            clear HI
            show K _ _
            refine hK.out _ _ hSS (fun hHeld => ?_)
            clear hK K
            refine wpAnyH_done (by kernel_rfl) ?_ _
            clear hHeld hSS
            go_wp2
            refine ⟨⟨c2, D ++ [(ci.pc : Int)], _, _, _, _, _, _, _, HI2.out, HOK.out, by simp; omega, HR1.out⟩, ?_⟩
            have h9 : doneN X' mb = D.length + 1 := by unfold doneN; rw [HI2.out.cells.2.2.2.2.2.2.2.2.2.1]
            rw [h9, HDN.out]
            omega
    · have hpI : ¬ (ci.pc : Int) < xs.length := by omega
      have hdec : decide ((ci.pc : Int) < xs.length) = false := decide_eq_false hpI
      have HR1 : Hid (runC xs en hs F c = (ci, D, 1)) := by show _ = _; rw [HRR.out, runC_end hpc]; simp
      go_wp2
      go_quiet (fail)
      go_wp2
      refine leaves_cons (f := 61) (args := #[.pointer (some ⟨bx, 0, none⟩)]) (by simp) (by simp [go_sem]) ?_
      refine (catch_idle ⟨bx, 0, none⟩ _).mono ?_
      rintro e u' w'' ⟨rfl, rfl, rfl⟩
      refine ⟨_, results_none rfl _ _ _, rfl, ?_⟩
      rw [HR1.out]
      exact ⟨ci.st, ci.pc, _, _, _, _, _, _, ((HH.out.below (below_drewN (Below.refl _ _) _)).setHow 1).less⟩
end
end Go.Proofs.YthkkhinmdlmhkaaDoor
