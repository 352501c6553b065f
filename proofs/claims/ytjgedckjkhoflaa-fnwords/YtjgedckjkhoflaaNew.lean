/- NewState of the program and of the model, at every two numbers; the law on it. -/
import Derived.Test.YtjgedckjkhoflaaState1
import Derived.Deep.DeepCutAuto
namespace Go.Proofs.Ytjgedckjkhoflaa
open Go.RowKit
set_option linter.unusedVariables false
set_option linter.unusedSimpArgs false
set_option maxRecDepth 100000

def okN (a b : Int) : Bool := inB 0 65535 a && inB 0 65535 b
def newL (a b : Int) : List Int := if okN a b = true then [a, b, 0, 0, 0, 0, 0, 0] else []
def newM (a b : Int) : List Int := if okN a b = true then List.replicate 16 0 else []
theorem newL_no {a b : Int} (h : okN a b = false) : newL a b = [] := by simp [newL, h]
theorem newM_no {a b : Int} (h : okN a b = false) : newM a b = [] := by simp [newM, h]
theorem newL_yes {a b : Int} (h : okN a b = true) : newL a b = [a, b, 0, 0, 0, 0, 0, 0] := by simp [newL, h]
theorem newM_yes {a b : Int} (h : okN a b = true) : newM a b = List.replicate 16 0 := by simp [newM, h]

/-- what NewState answers: the lists in new memory of their own -/
def newAns (B : Nat) (w' : World) (L M : List Int) (k : Bool) (e : Ending) : Prop := ∃ a1 a2 a3 c1 c2 c3, e = .returned (.tuple #[.agg #[.slice a1 L.length c1, .slice a2 M.length c2, .slice a3 0 c3], .bool k]) ∧ OwnSt w' B (.slice a1 L.length c1) (.slice a2 M.length c2) (.slice a3 ([] : List Int).length c3) L M []
theorem own_nil (w : World) (B : Nat) : OwnSt w B (.slice none 0 0) (.slice none 0 0) (.slice none 0 0) [] [] [] :=
  ⟨World.ownsRow_nil _ _ _ _, World.ownsRow_nil _ _ _ _, World.ownsRow_nil _ _ _ _, by simp [Value.ownBlock], by simp [Value.ownBlock], by simp [Value.ownBlock]⟩
theorem new_no {B : Nat} {w' : World} : newAns B w' [] [] false (.returned (.tuple #[.agg #[.slice none 0 0, .slice none 0 0, .slice none 0 0], .bool false])) := ⟨none, none, none, 0, 0, 0, rfl, own_nil _ _⟩

theorem make_ints (n : Nat) (h : n ≤ 60) : ∀ W : World, (Instr.makeSlice 29 (.int .i64 n) (.int .i64 n)).run Try.prog W = .ok (.slice (some ⟨W.heap.size, 0, none⟩) n n) (W.alloc (.cells (madeCells #[.int .i64 0] n) 3)) := by
  intro W
  obtain ⟨i0, hi, hz0, hz1, hz2⟩ := info_parts info3
  have := run_make (P := Try.prog) W 29 3 i0 (.int .i64 0) Try.underlying29 hi hz0 .i64 .i64 n n (by omega) (by omega) (by rw [hz2]; omega) (by omega)
  rw [hz1] at this
  simpa [Value.cells] using this
theorem owns_made {W : World} {B j n : Nat} {Z : Array Value} (hZ : madeCells #[Value.int .i64 0] n = Z) (hn : n ≤ 60) (hB : B ≤ j) (hj : W.heap[j]? = some (.cells Z 3 (0, 0))) : W.ownsRow B 3 1 (.slice (some ⟨j, 0, none⟩) n n) n (ints (List.replicate n 0)) := by
  have h1 : Z.toList = ints (List.replicate n 0) := by rw [← hZ]; exact made_ints n
  refine ⟨by simp [ints], .inr ⟨j, n, Z, rfl, hB, hj, Nat.le_refl _, by unfold maxLen; omega, ?_, ?_⟩⟩
  · have := congrArg List.length h1
    simp [ints] at this
    omega
  · rw [h1, List.take_of_length_le (by simp [ints])]

theorem make8 : ∀ W : World, (Instr.makeSlice 29 (.int .i64 8) (.int .i64 8)).run Try.prog W = .ok (.slice (some ⟨W.heap.size, 0, none⟩) 8 8) (W.alloc (.cells #[.int .i64 0, .int .i64 0, .int .i64 0, .int .i64 0, .int .i64 0, .int .i64 0, .int .i64 0, .int .i64 0] 3)) := fun W => by
  have := make_ints 8 (by omega) W
  rw [show madeCells #[Value.int .i64 0] 8 = #[.int .i64 0, .int .i64 0, .int .i64 0, .int .i64 0, .int .i64 0, .int .i64 0, .int .i64 0, .int .i64 0] by apply Array.toList_inj.1; rw [toList_madeCells_one]; rfl] at this
  exact this
theorem make16 : ∀ W : World, (Instr.makeSlice 29 (.int .i64 16) (.int .i64 16)).run Try.prog W = .ok (.slice (some ⟨W.heap.size, 0, none⟩) 16 16) (W.alloc (.cells #[.int .i64 0, .int .i64 0, .int .i64 0, .int .i64 0, .int .i64 0, .int .i64 0, .int .i64 0, .int .i64 0, .int .i64 0, .int .i64 0, .int .i64 0, .int .i64 0, .int .i64 0, .int .i64 0, .int .i64 0, .int .i64 0] 3)) := fun W => by
  have := make_ints 16 (by omega) W
  rw [show madeCells #[Value.int .i64 0] 16 = #[.int .i64 0, .int .i64 0, .int .i64 0, .int .i64 0, .int .i64 0, .int .i64 0, .int .i64 0, .int .i64 0, .int .i64 0, .int .i64 0, .int .i64 0, .int .i64 0, .int .i64 0, .int .i64 0, .int .i64 0, .int .i64 0] by apply Array.toList_inj.1; rw [toList_madeCells_one]; rfl] at this
  exact this

theorem owns_lit {W : World} {B j n : Nat} {Z : Array Value} {xs : List Int} (hB : B ≤ j) (hj : W.heap[j]? = some (.cells Z 3 (0, 0))) (hZ : Z.toList = ints xs) (hn : xs.length = n) (h60 : n ≤ 60) : W.ownsRow B 3 1 (.slice (some ⟨j, 0, none⟩) n n) n (ints xs) := by
  subst hn
  refine ⟨by simp [ints], .inr ⟨j, xs.length, Z, rfl, hB, hj, Nat.le_refl _, by unfold maxLen; omega, ?_, ?_⟩⟩
  · have := congrArg List.length hZ
    simp [ints] at this
    omega
  · rw [hZ, List.take_of_length_le (by simp [ints])]
theorem size_alloc1 (w : World) (o : Obj) : (w.alloc o).heap.size = w.heap.size + 1 := by simp
theorem look_last (w : World) (o0 o1 o2 o3 : Obj) : ((((w.alloc o0).alloc o1).alloc o2).alloc o3).heap[w.heap.size + 1 + 1]? = some o2 ∧ ((((w.alloc o0).alloc o1).alloc o2).alloc o3).heap[w.heap.size + 1 + 1 + 1]? = some o3 := by
  have s0 := size_alloc1 w o0
  have s1 := size_alloc1 (w.alloc o0) o1
  have s2 := size_alloc1 ((w.alloc o0).alloc o1) o2
  rw [s0] at s1
  rw [s1] at s2
  refine ⟨?_, ?_⟩
  · rw [Below.heap_alloc _ _ _ (by omega)]
    have := heap_alloc_new ((w.alloc o0).alloc o1) o2
    rw [s1] at this; exact this
  · have := heap_alloc_new (((w.alloc o0).alloc o1).alloc o2) o3
    rw [s2] at this; exact this
theorem below4 (w : World) (o1 o2 o3 o4 : Obj) : Below w.heap.size w ((((w.alloc o1).alloc o2).alloc o3).alloc o4) := (below3 w o1 o2 o3).alloc (by simp; omega) _
theorem own_two {W : World} {B g1 g2 : Nat} {L : List Int} (h1 : W.ownsRow B 3 1 (.slice (some ⟨g1, 0, none⟩) 8 8) 8 (ints L)) (h2 : W.ownsRow B 3 1 (.slice (some ⟨g2, 0, none⟩) 16 16) 16 (ints (List.replicate 16 0))) (hL : L.length = 8) (hne : g1 ≠ g2) (k : Bool) :
    newAns B W L (List.replicate 16 0) k (.returned (.tuple #[.agg #[.slice (some ⟨g1, 0, none⟩) 8 8, .slice (some ⟨g2, 0, none⟩) 16 16, .slice none 0 0], .bool k])) := by
  refine ⟨some ⟨g1, 0, none⟩, some ⟨g2, 0, none⟩, none, 8, 16, 0, by rw [hL, List.length_replicate], ?_⟩
  refine ⟨by rw [hL]; exact h1, by rw [List.length_replicate]; exact h2, World.ownsRow_nil _ _ _ _, ?_, by simp [Value.ownBlock], by simp [Value.ownBlock]⟩
  intro g e
  simp [Value.ownBlock] at e ⊢
  omega

set_option maxHeartbeats 1000000 in
/-- the model's NewState -/
theorem sNew_any (a b : Int) (w : World) :
    Calls Try.prog 12 #[.int .i64 a, .int .i64 b] w fun e w' => newAns w.heap.size w' (newL a b) (newM a b) (okN a b) e ∧ Below w.heap.size w w' := by
  have HL := l5Words_any (some ⟨w.heap.size + 1, 0, none⟩) 2 [a, b] 2 ((w.alloc (.cells #[.slice none 0 0, .slice none 0 0, .slice none 0 0] 31)).alloc (.cells #[.int .i64 a, .int .i64 b] 3)) (by simp) (by have := lit2_row (w.alloc (.cells #[.slice none 0 0, .slice none 0 0, .slice none 0 0] 31)) a b; simpa using this)
  rw [two_words] at HL
  have e2 : (([a, b] : List Int).length) = 2 := rfl
  rw [e2] at HL
  cases hk : okN a b with
  | false =>
    rw [newL_no hk, newM_no hk]
    unfold okN at hk
    rw [hk] at HL
    have HH : Hid (_) := HL
    clear HL hk e2
    go_enter Try.func12, Try.ntmps12
    go_wp2_with fail
    refine Calls.mono HH.out ?_
    rintro e w' ⟨rfl, rfl⟩
    go_wp2
    exact bodyPost_ret (v := .tuple #[.agg #[.slice none 0 0, .slice none 0 0, .slice none 0 0], .bool false]) (by simp [results, Try.results12, go_sem]) rfl ⟨new_no, below2 w _ _⟩
  | true =>
    rw [newL_yes hk, newM_yes hk]
    unfold okN at hk
    rw [hk] at HL
    have HH : Hid (_) := HL
    clear HL hk e2
    have m8 := make8
    have m16 := make16
    go_enter Try.func12, Try.ntmps12
    go_wp2_with fail
    refine Calls.mono HH.out ?_
    rintro e w' ⟨rfl, rfl⟩
    go_wp2
    refine bodyPost_ret (v := .tuple #[.agg #[.slice (some ⟨w.heap.size + 1 + 1, 0, none⟩) 8 8, .slice (some ⟨w.heap.size + 1 + 1 + 1, 0, none⟩) 16 16, .slice none 0 0], .bool true]) (by simp [results, Try.results12, go_sem]) rfl ⟨?_, below4 w _ _ _ _⟩
    exact own_two (owns_lit (by omega) (look_last w _ _ _ _).1 rfl rfl (by omega)) (owns_lit (by omega) (look_last w _ _ _ _).2 rfl rfl (by omega)) rfl (by omega) _

/-- the rows of a state as they are made -/
def N3 (w W : World) (g1 g2 nb : Nat) : Prop := W.heap[nb]? = some (.cells #[.slice (some ⟨g1, 0, none⟩) 8 8, .slice (some ⟨g2, 0, none⟩) 16 16, .slice none 0 0] 31 (0, 0)) ∧ W.ownsRow (w.heap.size + 1) 3 1 (.slice (some ⟨g1, 0, none⟩) 8 8) 8 (ints (List.replicate 8 0)) ∧ W.ownsRow (w.heap.size + 1) 3 1 (.slice (some ⟨g2, 0, none⟩) 16 16) 16 (ints (List.replicate 16 0)) ∧ g1 ≠ g2 ∧ nb ≠ g1 ∧ w.heap.size < nb ∧ Below (w.heap.size + 1) (w.alloc (.cells #[.slice none 0 0, .slice none 0 0, .slice none 0 0] 31)) W

theorem bel4 (w : World) (o0 o1 o2 o3 : Obj) : Below (w.heap.size + 1) (w.alloc o0) ((((w.alloc o0).alloc o1).alloc o2).alloc o3).drew :=
  ((((Below.refl _ (w.alloc o0)).alloc (by simp) o1).alloc (by simp) o2).alloc (by simp <;> omega) o3).drew
theorem look4 (w : World) (o0 o1 o2 o3 : Obj) : ((((w.alloc o0).alloc o1).alloc o2).alloc o3).drew.heap[w.heap.size + 1]? = some o1 ∧ ((((w.alloc o0).alloc o1).alloc o2).alloc o3).drew.heap[w.heap.size + 1 + 1]? = some o2 ∧ ((((w.alloc o0).alloc o1).alloc o2).alloc o3).drew.heap[w.heap.size + 1 + 1 + 1]? = some o3 := by
  have s0 := size_alloc1 w o0
  have s1 := size_alloc1 (w.alloc o0) o1
  have s2 := size_alloc1 ((w.alloc o0).alloc o1) o2
  rw [s0] at s1
  rw [s1] at s2
  refine ⟨?_, ?_, ?_⟩
  · show ((((w.alloc o0).alloc o1).alloc o2).alloc o3).heap[w.heap.size + 1]? = some o1
    rw [Below.heap_alloc _ _ _ (by omega), Below.heap_alloc _ _ _ (by omega)]
    have := heap_alloc_new (w.alloc o0) o1
    rw [s0] at this; exact this
  · show ((((w.alloc o0).alloc o1).alloc o2).alloc o3).heap[w.heap.size + 1 + 1]? = some o2
    rw [Below.heap_alloc _ _ _ (by omega)]
    have := heap_alloc_new ((w.alloc o0).alloc o1) o2
    rw [s1] at this; exact this
  · show ((((w.alloc o0).alloc o1).alloc o2).alloc o3).heap[w.heap.size + 1 + 1 + 1]? = some o3
    have := heap_alloc_new (((w.alloc o0).alloc o1).alloc o2) o3
    rw [s2] at this; exact this
theorem N3.start {w W : World} (g1 g2 nb : Nat) {Z8 Z16 : Array Value} (h8 : Z8.toList = ints (List.replicate 8 0)) (h16 : Z16.toList = ints (List.replicate 16 0)) (hb : W.heap[nb]? = some (.cells #[.slice (some ⟨g1, 0, none⟩) 8 8, .slice (some ⟨g2, 0, none⟩) 16 16, .slice none 0 0] 31 (0, 0)))
    (h1 : W.heap[g1]? = some (.cells Z8 3 (0, 0))) (h2 : W.heap[g2]? = some (.cells Z16 3 (0, 0))) (hg : w.heap.size + 1 ≤ g1 ∧ w.heap.size + 1 ≤ g2 ∧ g1 ≠ g2 ∧ nb ≠ g1 ∧ w.heap.size < nb) (hbel : Below (w.heap.size + 1) (w.alloc (.cells #[.slice none 0 0, .slice none 0 0, .slice none 0 0] 31)) W) : N3 w W g1 g2 nb :=
  ⟨hb, owns_lit hg.1 h1 h8 (by simp) (by omega), owns_lit hg.2.1 h2 h16 (by simp) (by omega), hg.2.2.1, hg.2.2.2.1, hg.2.2.2.2, hbel⟩

theorem own_drew {w : World} {B : Nat} {e : TypeId} {size : Nat} {v : Value} {n : Nat} {xs : List Value} (h : w.ownsRow B e size v n xs) : w.drew.ownsRow B e size v n xs := h
theorem new_done {W : World} {n g1 g2 : Nat} (h1 : W.ownsRow (n + 1) 3 1 (.slice (some ⟨g1, 0, none⟩) 8 8) 8 (ints (List.replicate 8 0))) (h2 : W.ownsRow (n + 1) 3 1 (.slice (some ⟨g2, 0, none⟩) 16 16) 16 (ints (List.replicate 16 0))) (hne : g1 ≠ g2) (a b : Int) {u v x : Value} :
    newAns n (((((W.setCell ⟨g1, 0, none⟩ (.int .i64 a)).setCell ⟨g1, 1, none⟩ (.int .i64 b)).setCell ⟨n, 0, none⟩ u).setCell ⟨n, 1, none⟩ v).setCell ⟨n, 2, none⟩ x).drew [a, b, 0, 0, 0, 0, 0, 0] (List.replicate 16 0) true (.returned (.tuple #[.agg #[.slice (some ⟨g1, 0, none⟩) 8 8, .slice (some ⟨g2, 0, none⟩) 16 16, .slice none 0 0], .bool true])) := by
  have s1 := h1.stored 0 (.int .i64 a)
  have s2 := s1.1.stored 1 (.int .i64 b)
  have hno : (Value.slice (some ⟨g2, 0, none⟩) 16 16).ownBlock ≠ some g1 := by simp [Value.ownBlock]; omega
  have k1 := World.ownsRow.kept h2 s1.2 (.inr hno)
  have k2 := World.ownsRow.kept k1 s2.2 (.inr hno)
  have d1 := ownsRow_setCell_below (a := ⟨n, 2, none⟩) (ownsRow_setCell_below (a := ⟨n, 1, none⟩) (ownsRow_setCell_below (a := ⟨n, 0, none⟩) s2.1 (by simp) u) (by simp) v) (by simp) x
  have d2 := ownsRow_setCell_below (a := ⟨n, 2, none⟩) (ownsRow_setCell_below (a := ⟨n, 1, none⟩) (ownsRow_setCell_below (a := ⟨n, 0, none⟩) k2 (by simp) u) (by simp) v) (by simp) x
  have e1 : ((ints (List.replicate 8 0)).set 0 (.int .i64 a)).set 1 (.int .i64 b) = ints [a, b, 0, 0, 0, 0, 0, 0] := rfl
  rw [e1] at d1
  have f1 := own_drew (owns_mono (B' := n) d1 (Nat.le_succ n))
  have f2 := own_drew (owns_mono (B' := n) d2 (Nat.le_succ n))
  exact own_two f1 f2 rfl hne _
end Go.Proofs.Ytjgedckjkhoflaa
