/- The program's machine in memory, and what stays so as its parts are written, grow or are cut; what gives up, and what is deferred. -/
import Derived.Test.YthkkhinmdlmhkaaDoorStep
import Derived.Defers
import Derived.Recover
namespace Go.Proofs.YthkkhinmdlmhkaaDoor
open Go.RowKit
set_option linter.unusedVariables false
set_option linter.unusedSimpArgs false
set_option maxRecDepth 100000

/-- the program's machine in memory: its block, and its five rows, each apart -/
structure Imp (R : List OR) (xs : List Stp) (en hs : List Int) (a ea ha : Option Addr) (ac ec hc : Nat) (w0 : World) (mb : Nat) (W : World) (c : Cf) (D : List Int) (here how : Int) (lv mv tv sv dv : Value) : Prop where
  sep : Sep W w0.heap.size (cellOR 63 11 mb [.slice a xs.length ac, .slice ea en.length ec, .slice ha hs.length hc, lv, mv, tv, sv, .int .i64 here, .int .i64 c.pc, dv, .int .i64 how] :: ⟨3, 1, lv, c.L.length, ints c.L⟩ :: ⟨3, 1, mv, c.M.length, ints c.M⟩ :: ⟨3, 1, tv, c.T.length, ints c.T⟩ :: ⟨3, 1, sv, c.st.length, ints c.st⟩ :: ⟨3, 1, dv, D.length, ints D⟩ :: R)
  bel : Below w0.heap.size w0 W
theorem Imp.cells {R : List OR} {xs : List Stp} {en hs : List Int} {a ea ha : Option Addr} {ac ec hc : Nat} {w0 : World} {mb : Nat} {W : World} {c : Cf} {D : List Int} {here how : Int} {lv mv tv sv dv : Value} (h : Imp R xs en hs a ea ha ac ec hc w0 mb W c D here how lv mv tv sv dv) :
    W.cell? ⟨mb, 0, none⟩ = some (.slice a xs.length ac) ∧ W.cell? ⟨mb, 1, none⟩ = some (.slice ea en.length ec) ∧ W.cell? ⟨mb, 2, none⟩ = some (.slice ha hs.length hc) ∧ W.cell? ⟨mb, 3, none⟩ = some (lv) ∧ W.cell? ⟨mb, 4, none⟩ = some (mv) ∧ W.cell? ⟨mb, 5, none⟩ = some (tv) ∧ W.cell? ⟨mb, 6, none⟩ = some (sv) ∧ W.cell? ⟨mb, 7, none⟩ = some (.int .i64 here) ∧ W.cell? ⟨mb, 8, none⟩ = some (.int .i64 c.pc) ∧ W.cell? ⟨mb, 9, none⟩ = some (dv) ∧ W.cell? ⟨mb, 10, none⟩ = some (.int .i64 how) :=
  ⟨h.sep.cell (List.mem_cons_self ..) rfl (j := 0) rfl, h.sep.cell (List.mem_cons_self ..) rfl (j := 1) rfl, h.sep.cell (List.mem_cons_self ..) rfl (j := 2) rfl, h.sep.cell (List.mem_cons_self ..) rfl (j := 3) rfl, h.sep.cell (List.mem_cons_self ..) rfl (j := 4) rfl, h.sep.cell (List.mem_cons_self ..) rfl (j := 5) rfl, h.sep.cell (List.mem_cons_self ..) rfl (j := 6) rfl, h.sep.cell (List.mem_cons_self ..) rfl (j := 7) rfl, h.sep.cell (List.mem_cons_self ..) rfl (j := 8) rfl, h.sep.cell (List.mem_cons_self ..) rfl (j := 9) rfl, h.sep.cell (List.mem_cons_self ..) rfl (j := 10) rfl⟩
theorem Imp.frz {R : List OR} {xs : List Stp} {en hs : List Int} {a ea ha : Option Addr} {ac ec hc : Nat} {w0 : World} {mb : Nat} {W : World} {c : Cf} {D : List Int} {here how : Int} {lv mv tv sv dv : Value} (h : Imp R xs en hs a ea ha ac ec hc w0 mb W c D here how lv mv tv sv dv) (j : Nat) : W.frozen? ⟨mb, j, none⟩ = false := h.sep.frozen (List.mem_cons_self ..) rfl j
theorem Imp.lt {R : List OR} {xs : List Stp} {en hs : List Int} {a ea ha : Option Addr} {ac ec hc : Nat} {w0 : World} {mb : Nat} {W : World} {c : Cf} {D : List Int} {here how : Int} {lv mv tv sv dv : Value} (h : Imp R xs en hs a ea ha ac ec hc w0 mb W c D here how lv mv tv sv dv) : w0.heap.size ≤ mb ∧ mb < W.heap.size := h.sep.size (List.mem_cons_self ..) rfl
theorem Imp.below {R : List OR} {xs : List Stp} {en hs : List Int} {a ea ha : Option Addr} {ac ec hc : Nat} {w0 : World} {mb : Nat} {W W' : World} {c : Cf} {D : List Int} {here how : Int} {lv mv tv sv dv : Value} (h : Imp R xs en hs a ea ha ac ec hc w0 mb W c D here how lv mv tv sv dv) (hb : Below W.heap.size W W') : Imp R xs en hs a ea ha ac ec hc w0 mb W' c D here how lv mv tv sv dv := ⟨h.sep.below hb, bstep' h.bel hb⟩
theorem Imp.rows {R : List OR} {xs : List Stp} {en hs : List Int} {a ea ha : Option Addr} {ac ec hc : Nat} {w0 : World} {mb : Nat} {W : World} {c : Cf} {D : List Int} {here how : Int} {lv mv tv sv dv : Value} (h : Imp R xs en hs a ea ha ac ec hc w0 mb W c D here how lv mv tv sv dv) :
    W.ownsRow w0.heap.size 3 1 lv c.L.length (ints c.L) ∧ W.ownsRow w0.heap.size 3 1 mv c.M.length (ints c.M) ∧ W.ownsRow w0.heap.size 3 1 tv c.T.length (ints c.T) ∧ W.ownsRow w0.heap.size 3 1 sv c.st.length (ints c.st) ∧ W.ownsRow w0.heap.size 3 1 dv D.length (ints D) :=
  ⟨h.sep.1 ⟨3, 1, lv, c.L.length, ints c.L⟩ (by simp), h.sep.1 ⟨3, 1, mv, c.M.length, ints c.M⟩ (by simp), h.sep.1 ⟨3, 1, tv, c.T.length, ints c.T⟩ (by simp), h.sep.1 ⟨3, 1, sv, c.st.length, ints c.st⟩ (by simp), h.sep.1 ⟨3, 1, dv, D.length, ints D⟩ (by simp)⟩
theorem Imp.setPc {R : List OR} {xs : List Stp} {en hs : List Int} {a ea ha : Option Addr} {ac ec hc : Nat} {w0 : World} {mb : Nat} {W : World} {c : Cf} {D : List Int} {here how : Int} {lv mv tv sv dv : Value} (h : Imp R xs en hs a ea ha ac ec hc w0 mb W c D here how lv mv tv sv dv) (q : Nat) : Imp R xs en hs a ea ha ac ec hc w0 mb (W.setCell ⟨mb, 8, none⟩ (.int .i64 q)) { c with pc := q } D here how lv mv tv sv dv := by
  have := h.sep.put [] 8 (.int .i64 q)
  exact ⟨this.1, h.bel.trans this.2⟩
/-- the stack is cut -/
theorem Imp.cutSt {R : List OR} {xs : List Stp} {en hs : List Int} {a ea ha : Option Addr} {ac ec hc : Nat} {w0 : World} {mb : Nat} {W : World} {c : Cf} {D : List Int} {here how : Int} {lv mv tv dv : Value} {g cap : Nat} (h : Imp R xs en hs a ea ha ac ec hc w0 mb W c D here how lv mv tv (.slice (some ⟨g, 0, none⟩) c.st.length cap) dv) {m : Nat} (hm : m ≤ c.st.length) :
    Imp R xs en hs a ea ha ac ec hc w0 mb (W.setCell ⟨mb, 6, none⟩ (.slice (some ⟨g, 0, none⟩) m cap)) { c with st := c.st.take m } D here how lv mv tv (.slice (some ⟨g, 0, none⟩) m cap) dv := by
  have h1 := h.sep.cut [_, _, _, _] hm
  have h2 := h1.put [] 6 (.slice (some ⟨g, 0, none⟩) m cap)
  refine ⟨?_, h.bel.trans h2.2⟩
  have e1 : (c.st.take m).length = m := by simp; omega
  have e2 : (ints c.st).take (m * 1) = ints (c.st.take m) := by rw [Nat.mul_one, ints_take]
  have := h2.1
  rw [e2] at this
  simp only [e1]
  exact this
/-- the stack has grown -/
theorem Imp.pushSt {R : List OR} {xs : List Stp} {en hs : List Int} {a ea ha : Option Addr} {ac ec hc : Nat} {w0 : World} {mb : Nat} {W W1 W2 : World} {c : Cf} {D : List Int} {here how : Int} {lv mv tv sv dv : Value} {g cap H : Nat} {v : Int} (h : Imp R xs en hs a ea ha ac ec hc w0 mb W c D here how lv mv tv sv dv) (hb : Below W.heap.size W W1)
    (ho : W2.ownsRow w0.heap.size 3 1 (.slice (some ⟨g, 0, none⟩) (c.st.length + 1) cap) (c.st.length + 1) (ints c.st ++ [.int .i64 v])) (hg : W1.grownBy W2 sv.ownBlock) (hat : sv.ownBlock = some g ∨ g = H) (hH : W.heap.size ≤ H) :
    Imp R xs en hs a ea ha ac ec hc w0 mb (W2.setCell ⟨mb, 6, none⟩ (.slice (some ⟨g, 0, none⟩) (c.st.length + 1) cap)) { c with st := c.st ++ [v] } D here how lv mv tv (.slice (some ⟨g, 0, none⟩) (c.st.length + 1) cap) dv ∧ W2.cell? ⟨mb, 6, none⟩ = some sv ∧ W2.frozen? ⟨mb, 6, none⟩ = false ∧ mb < W2.heap.size := by
  have h1 := h.sep.grow [_, _, _, _] hb ho hg hat hH h.bel.size
  have h2 := h1.1.put [] 6 (.slice (some ⟨g, 0, none⟩) (c.st.length + 1) cap)
  have e0 : ints (c.st ++ [v]) = ints c.st ++ [.int .i64 v] := by simp [ints]
  refine ⟨⟨?_, (h.bel.trans h1.2).trans h2.2⟩, h1.1.cell (List.mem_cons_self ..) rfl (j := 6) rfl, h1.1.frozen (List.mem_cons_self ..) rfl 6, (h1.1.size (List.mem_cons_self ..) rfl).2⟩
  have := h2.1
  rw [← e0] at this
  simp only [List.length_append, List.length_singleton]
  exact this
/-- what is told has grown -/
theorem Imp.pushT {R : List OR} {xs : List Stp} {en hs : List Int} {a ea ha : Option Addr} {ac ec hc : Nat} {w0 : World} {mb : Nat} {W W1 W2 : World} {c : Cf} {D : List Int} {here how : Int} {lv mv tv sv dv : Value} {g cap H : Nat} {v : Int} (h : Imp R xs en hs a ea ha ac ec hc w0 mb W c D here how lv mv tv sv dv) (hb : Below W.heap.size W W1)
    (ho : W2.ownsRow w0.heap.size 3 1 (.slice (some ⟨g, 0, none⟩) (c.T.length + 1) cap) (c.T.length + 1) (ints c.T ++ [.int .i64 v])) (hg : W1.grownBy W2 tv.ownBlock) (hat : tv.ownBlock = some g ∨ g = H) (hH : W.heap.size ≤ H) :
    Imp R xs en hs a ea ha ac ec hc w0 mb (W2.setCell ⟨mb, 5, none⟩ (.slice (some ⟨g, 0, none⟩) (c.T.length + 1) cap)) { c with T := c.T ++ [v] } D here how lv mv (.slice (some ⟨g, 0, none⟩) (c.T.length + 1) cap) sv dv ∧ W2.cell? ⟨mb, 5, none⟩ = some tv ∧ W2.frozen? ⟨mb, 5, none⟩ = false ∧ mb < W2.heap.size := by
  have h1 := h.sep.grow [_, _, _] hb ho hg hat hH h.bel.size
  have h2 := h1.1.put [] 5 (.slice (some ⟨g, 0, none⟩) (c.T.length + 1) cap)
  have e0 : ints (c.T ++ [v]) = ints c.T ++ [.int .i64 v] := by simp [ints]
  refine ⟨⟨?_, (h.bel.trans h1.2).trans h2.2⟩, h1.1.cell (List.mem_cons_self ..) rfl (j := 5) rfl, h1.1.frozen (List.mem_cons_self ..) rfl 5, (h1.1.size (List.mem_cons_self ..) rfl).2⟩
  have := h2.1
  rw [← e0] at this
  simp only [List.length_append, List.length_singleton]
  exact this
/-- a local is written -/
theorem Imp.setL {R : List OR} {xs : List Stp} {en hs : List Int} {a ea ha : Option Addr} {ac ec hc : Nat} {w0 : World} {mb : Nat} {W : World} {c : Cf} {D : List Int} {here how : Int} {mv tv sv dv : Value} {g cap : Nat} (h : Imp R xs en hs a ea ha ac ec hc w0 mb W c D here how (.slice (some ⟨g, 0, none⟩) c.L.length cap) mv tv sv dv) (j : Nat) (v : Int) :
    Imp R xs en hs a ea ha ac ec hc w0 mb (W.setCell ⟨g, j, none⟩ (.int .i64 v)) { c with L := c.L.set j v } D here how (.slice (some ⟨g, 0, none⟩) c.L.length cap) mv tv sv dv := by
  have ho := h.rows.1
  have hs' := ho.stored j (.int .i64 v)
  have h1 := h.sep.turn [_] (Below.refl _ _) hs'.2 ⟨3, 1, .slice (some ⟨g, 0, none⟩) c.L.length cap, c.L.length, (ints c.L).set j (.int .i64 v)⟩ hs'.1 (fun k hk => .inl hk)
  refine ⟨?_, h.bel.setCell (p := ⟨g, j, none⟩) (ho.lt g rfl).1 _⟩
  rw [ints_set] at h1
  simp only [List.length_set]
  exact h1
/-- a word of memory is written -/
theorem Imp.setM {R : List OR} {xs : List Stp} {en hs : List Int} {a ea ha : Option Addr} {ac ec hc : Nat} {w0 : World} {mb : Nat} {W : World} {c : Cf} {D : List Int} {here how : Int} {lv tv sv dv : Value} {g cap : Nat} (h : Imp R xs en hs a ea ha ac ec hc w0 mb W c D here how lv (.slice (some ⟨g, 0, none⟩) c.M.length cap) tv sv dv) (j : Nat) (v : Int) :
    Imp R xs en hs a ea ha ac ec hc w0 mb (W.setCell ⟨g, j, none⟩ (.int .i64 v)) { c with M := c.M.set j v } D here how lv (.slice (some ⟨g, 0, none⟩) c.M.length cap) tv sv dv := by
  have ho := h.rows.2.1
  have hs' := ho.stored j (.int .i64 v)
  have h1 := h.sep.turn [_, _] (Below.refl _ _) hs'.2 ⟨3, 1, .slice (some ⟨g, 0, none⟩) c.M.length cap, c.M.length, (ints c.M).set j (.int .i64 v)⟩ hs'.1 (fun k hk => .inl hk)
  refine ⟨?_, h.bel.setCell (p := ⟨g, j, none⟩) (ho.lt g rfl).1 _⟩
  rw [ints_set] at h1
  simp only [List.length_set]
  exact h1


theorem Imp.setHere {R : List OR} {xs : List Stp} {en hs : List Int} {a ea ha : Option Addr} {ac ec hc : Nat} {w0 : World} {mb : Nat} {W : World} {c : Cf} {D : List Int} {here how : Int} {lv mv tv sv dv : Value} (h : Imp R xs en hs a ea ha ac ec hc w0 mb W c D here how lv mv tv sv dv) (q : Int) : Imp R xs en hs a ea ha ac ec hc w0 mb (W.setCell ⟨mb, 7, none⟩ (.int .i64 q)) c D q how lv mv tv sv dv := by
  have := h.sep.put [] 7 (.int .i64 q)
  exact ⟨this.1, h.bel.trans this.2⟩
theorem Imp.setHow {R : List OR} {xs : List Stp} {en hs : List Int} {a ea ha : Option Addr} {ac ec hc : Nat} {w0 : World} {mb : Nat} {W : World} {c : Cf} {D : List Int} {here how : Int} {lv mv tv sv dv : Value} (h : Imp R xs en hs a ea ha ac ec hc w0 mb W c D here how lv mv tv sv dv) (q : Int) : Imp R xs en hs a ea ha ac ec hc w0 mb (W.setCell ⟨mb, 10, none⟩ (.int .i64 q)) c D here q lv mv tv sv dv := by
  have := h.sep.put [] 10 (.int .i64 q)
  exact ⟨this.1, h.bel.trans this.2⟩
/-- the places of the steps done have grown -/
theorem Imp.pushD {R : List OR} {xs : List Stp} {en hs : List Int} {a ea ha : Option Addr} {ac ec hc : Nat} {w0 : World} {mb : Nat} {W : World} {c : Cf} {D : List Int} {here how : Int} {lv mv tv sv dv : Value} (h : Imp R xs en hs a ea ha ac ec hc w0 mb W c D here how lv mv tv sv dv) {W1 W2 : World} {g cap H : Nat} {u : Int} (hb : Below W.heap.size W W1)
    (ho : W2.ownsRow w0.heap.size 3 1 (.slice (some ⟨g, 0, none⟩) (D.length + 1) cap) (D.length + 1) (ints D ++ [.int .i64 u])) (hg : W1.grownBy W2 dv.ownBlock) (hat : dv.ownBlock = some g ∨ g = H) (hH : W.heap.size ≤ H) :
    Imp R xs en hs a ea ha ac ec hc w0 mb (W2.setCell ⟨mb, 9, none⟩ (.slice (some ⟨g, 0, none⟩) (D.length + 1) cap)) c (D ++ [u]) here how lv mv tv sv (.slice (some ⟨g, 0, none⟩) (D.length + 1) cap) ∧ W2.cell? ⟨mb, 9, none⟩ = some dv ∧ W2.frozen? ⟨mb, 9, none⟩ = false ∧ mb < W2.heap.size := by
  have h1 := h.sep.grow [_, _, _, _, _] hb ho hg hat hH h.bel.size
  have h2 := h1.1.put [] 9 (.slice (some ⟨g, 0, none⟩) (D.length + 1) cap)
  have e0 : ints (D ++ [u]) = ints D ++ [.int .i64 u] := by simp [ints]
  refine ⟨⟨?_, (h.bel.trans h1.2).trans h2.2⟩, h1.1.cell (List.mem_cons_self ..) rfl (j := 9) rfl, h1.1.frozen (List.mem_cons_self ..) rfl 9, (h1.1.size (List.mem_cons_self ..) rfl).2⟩
  have := h2.1
  rw [← e0] at this
  simp only [List.length_append, List.length_singleton]
  exact this

/-- the program's orTrap -/
theorem orTrap_no (w : World) (u : TypeId) (pv : Value) (hc : w.cell? ⟨5, 0, none⟩ = some (.iface u pv)) :
    Calls Tryd.prog 104 #[.bool false] w fun e w' => e = .panicked [{ v := .iface u pv, recovered := false }] ∧ w' = w := by
  go_enter Tryd.func104, Tryd.ntmps104
  go_wp2
  exact ⟨rfl, rfl, rfl⟩
theorem orTrap_yes (w : World) : Calls Tryd.prog 104 #[.bool true] w fun e w' => e = .returned (.tuple #[]) ∧ w' = w := by
  go_enter Tryd.func104, Tryd.ntmps104
  go_wp2
  exact bodyPost_end (v := .tuple #[]) (by simp [results, Tryd.results104, go_sem]) rfl ⟨rfl, rfl⟩
/-- what is deferred, where a step has given up -/
theorem catch_panicking (p : Addr) (mb : Nat) (u : TypeId) (pv : Value) (older : List PanicEntry) (w : World) (hp : w.cell? p = some (.pointer (some ⟨mb, 0, none⟩))) (x : Value) (hc : w.cell? ⟨mb, 10, none⟩ = some x) (hz : w.frozen? ⟨mb, 10, none⟩ = false) :
    CallsD Tryd.prog 61 #[.pointer (some p)] (.panicking ({ v := .iface u pv, recovered := false } :: older)) w fun e u' w' =>
      e = .returned (.tuple #[]) ∧ u' = .panicking ({ v := .iface u pv, recovered := true } :: older) ∧ w' = w.setCell ⟨mb, 10, none⟩ (.int .i64 2) := by
  refine callsD_of_wpS Tryd.func61 rfl fun c₀ cs hu => ?_
  apply wpS_seq
  apply wpS_region
  simp [wpOpsS, go_sem, recoverD, hu, Tryd.ntmps61, Exit.thenS]
  refine wpS_cond (t := true) (by simp [Act.eval, Array.replicate]) ?_
  simp only [if_true]
  apply wpS_region
  simp [wpOpsS, go_sem, hp, hc, hz, bodyPostS, results, Tryd.results61]
/-- what is deferred, where none has -/
theorem catch_idle (p : Addr) (w : World) :
    CallsD Tryd.prog 61 #[.pointer (some p)] .returning w fun e u' w' => e = .returned (.tuple #[]) ∧ u' = .returning ∧ w' = w := by
  refine callsD_of_wpS Tryd.func61 rfl fun c₀ cs hu => ?_
  apply wpS_seq
  apply wpS_region
  simp [wpOpsS, go_sem, recoverD, hu, Tryd.ntmps61, Exit.thenS]
  refine wpS_cond (t := false) (by simp [Act.eval, Array.replicate]) ?_
  simp only [Bool.false_eq_true, if_false]
  refine wpS_of_wp (wp_skip ?_)
  cases c₀
  simp_all [bodyPostS, results, Tryd.results61]

/-- the program's take -/
theorem iTake_any {R : List OR} (xs : List Stp) (en hs : List Int) (a ea ha : Option Addr) (ac ec hc : Nat) (w0 : World) (mb : Nat) (W : World) (c : Cf) (D : List Int) (here how : Int) (lv mv tv sv dv : Value) (h : Imp R xs en hs a ea ha ac ec hc w0 mb W c D here how lv mv tv sv dv) (h0 : 0 < c.st.length) (h9 : c.st.length ≤ 9) :
    Calls Tryd.prog 102 #[.pointer (some ⟨mb, 0, none⟩)] W fun e W' => e = .returned (.int .i64 (top c.st)) ∧ (∃ sv', Imp R xs en hs a ea ha ac ec hc w0 mb W' { c with st := c.st.dropLast } D here how lv mv tv sv' dv ∧ sv'.ownBlock = sv.ownBlock) ∧ W.grownBy W' (some mb) := by
  obtain ⟨g, cap, rfl, hg, hB, hcap⟩ := row_some h.rows.2.2.2.1 h0
  have c6 := h.cells.2.2.2.2.2.2.1
  have f6 := h.frz 6
  have hv := row_cell h.rows.2.2.2.1 (top_at h0)
  have hlt := h.lt.2
  have HC := hid (h.cutSt (m := c.st.length - 1) (by omega))
  obtain ⟨m, hm⟩ : ∃ m, c.st.length = m + 1 := ⟨c.st.length - 1, by omega⟩
  have e1 : c.st.length - 1 = m := by omega
  rw [e1] at hv HC
  have HE := hid (show c.st.dropLast = c.st.take m by rw [drop_take, e1])
  rw [hm] at c6 hcap
  have hm9 : m ≤ 8 := by omega
  clear h h0 h9 e1 hm
  go_enter Tryd.func102, Tryd.ntmps102
  go_wp2
  go_ret
  exact ⟨rfl, ⟨.slice (some ⟨g, 0, none⟩) m cap, by rw [HE.out]; exact HC.out, rfl⟩, grown_set _ _ _ _⟩

set_option maxHeartbeats 1000000 in
/-- the program's put -/
theorem iPut_any {R : List OR} (xs : List Stp) (en hs : List Int) (a ea ha : Option Addr) (ac ec hc : Nat) (w0 : World) (mb : Nat) (W : World) (c : Cf) (D : List Int) (here how : Int) (lv mv tv sv dv : Value) (h : Imp R xs en hs a ea ha ac ec hc w0 mb W c D here how lv mv tv sv dv) (h9 : c.st.length ≤ 9) (u : Int) :
    Calls Tryd.prog 101 #[.pointer (some ⟨mb, 0, none⟩), .int .i64 u] W fun e W' => e = .returned (.tuple #[]) ∧ (∃ sv', Imp R xs en hs a ea ha ac ec hc w0 mb W' { c with st := c.st ++ [u] } D here how lv mv tv sv' dv) := by
  obtain ⟨sa, sc, rfl⟩ := slice_of_owned h.rows.2.2.2.1
  have hown : W.ownsRow w0.heap.size 3 1 (.slice sa c.st.length sc) c.st.length (ints c.st) := h.rows.2.2.2.1
  have k6 := h.cells.2.2.2.2.2.2.1
  have hmX := h.lt.2
  have hmX1 := h.lt.1
  obtain ⟨i3, hi3, hz30, hz31, hz32⟩ := info_parts info3
  have hmw : ¬ mb = W.heap.size := by omega
  have hwm : ¬ W.heap.size = mb := by omega
  have H := hid h
  clear h
  go_enter Tryd.func101, Tryd.ntmps101
  go_wp2_with (at_builtin; refine wpList_append_lies _ rfl _ _ 23 rfl w0.heap.size 3 i3 (.int .i64 0) 1 8 Tryd.underlying23 hi3 hz30 hz31 hz32 rfl (by decide) _ _ _ rfl (hown.alloc _) ⟨W.heap.size, 0, none⟩ 1 1 [.int .i64 u] rfl rfl (news_at0 W _ 3) (by simp [Value.oneCell']) (by decide) (by unfold maxLen; omega) (by omega) (by simp; omega) (W.heap.size + 1) (by simp) ?_)
  intro g cap w1 hown1 hgrow hat hlt1
  obtain ⟨HMP, k61, f61, m61⟩ := H.out.pushSt (below1 W _) hown1 hgrow hat (by omega)
  have HM := hid HMP
  clear hown1 hgrow hat hlt1 HMP
  go_wp2
  exact bodyPost_end (v := .tuple #[]) (by simp [results, Tryd.results101, go_sem]) rfl ⟨rfl, _, HM.out⟩
end Go.Proofs.YthkkhinmdlmhkaaDoor
