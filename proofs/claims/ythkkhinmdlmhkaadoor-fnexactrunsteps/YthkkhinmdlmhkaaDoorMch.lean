/- The model's machine in memory, and what stays so as its parts are written, grow or are cut. -/
import Derived.Test.YthkkhinmdlmhkaaDoorRunMath3
import Derived.Test.YthkkhinmdlmhkaaDoorHeights
import Derived.Test.YthkkhinmdlmhkaaDoorTarget2
namespace Go.Proofs.YthkkhinmdlmhkaaDoor
open Go.RowKit
set_option linter.unusedVariables false
set_option linter.unusedSimpArgs false
set_option maxRecDepth 100000

theorem hid {p : Prop} (h : p) : Hid p := h
/-- the model's machine in memory: its block, and its four rows, each apart -/
structure MSp (R : List OR) (xs : List Stp) (en hs : List Int) (a ea ha : Option Addr) (ac ec hc : Nat) (w0 : World) (mb : Nat) (W : World) (c : Cf) (lv mv tv sv : Value) : Prop where
  sep : Sep W w0.heap.size (cellOR 74 8 mb [.slice a xs.length ac, .slice ea en.length ec, .slice ha hs.length hc, lv, mv, tv, sv, .int .i64 c.pc] :: ⟨3, 1, lv, c.L.length, ints c.L⟩ :: ⟨3, 1, mv, c.M.length, ints c.M⟩ :: ⟨3, 1, tv, c.T.length, ints c.T⟩ :: ⟨3, 1, sv, c.st.length, ints c.st⟩ :: R)
  bel : Below w0.heap.size w0 W
theorem MSp.cells {R : List OR} {xs : List Stp} {en hs : List Int} {a ea ha : Option Addr} {ac ec hc : Nat} {w0 : World} {mb : Nat} {W : World} {c : Cf} {lv mv tv sv : Value} (h : MSp R xs en hs a ea ha ac ec hc w0 mb W c lv mv tv sv) :
    W.cell? ⟨mb, 0, none⟩ = some (.slice a xs.length ac) ∧ W.cell? ⟨mb, 1, none⟩ = some (.slice ea en.length ec) ∧ W.cell? ⟨mb, 2, none⟩ = some (.slice ha hs.length hc) ∧ W.cell? ⟨mb, 3, none⟩ = some lv ∧ W.cell? ⟨mb, 4, none⟩ = some mv ∧ W.cell? ⟨mb, 5, none⟩ = some tv ∧ W.cell? ⟨mb, 6, none⟩ = some sv ∧ W.cell? ⟨mb, 7, none⟩ = some (.int .i64 c.pc) :=
  ⟨h.sep.cell (List.mem_cons_self ..) rfl (j := 0) rfl, h.sep.cell (List.mem_cons_self ..) rfl (j := 1) rfl, h.sep.cell (List.mem_cons_self ..) rfl (j := 2) rfl, h.sep.cell (List.mem_cons_self ..) rfl (j := 3) rfl, h.sep.cell (List.mem_cons_self ..) rfl (j := 4) rfl, h.sep.cell (List.mem_cons_self ..) rfl (j := 5) rfl, h.sep.cell (List.mem_cons_self ..) rfl (j := 6) rfl, h.sep.cell (List.mem_cons_self ..) rfl (j := 7) rfl⟩
theorem MSp.frz {R : List OR} {xs : List Stp} {en hs : List Int} {a ea ha : Option Addr} {ac ec hc : Nat} {w0 : World} {mb : Nat} {W : World} {c : Cf} {lv mv tv sv : Value} (h : MSp R xs en hs a ea ha ac ec hc w0 mb W c lv mv tv sv) (j : Nat) : W.frozen? ⟨mb, j, none⟩ = false := h.sep.frozen (List.mem_cons_self ..) rfl j
theorem MSp.lt {R : List OR} {xs : List Stp} {en hs : List Int} {a ea ha : Option Addr} {ac ec hc : Nat} {w0 : World} {mb : Nat} {W : World} {c : Cf} {lv mv tv sv : Value} (h : MSp R xs en hs a ea ha ac ec hc w0 mb W c lv mv tv sv) : w0.heap.size ≤ mb ∧ mb < W.heap.size := h.sep.size (List.mem_cons_self ..) rfl
theorem MSp.below {R : List OR} {xs : List Stp} {en hs : List Int} {a ea ha : Option Addr} {ac ec hc : Nat} {w0 : World} {mb : Nat} {W W' : World} {c : Cf} {lv mv tv sv : Value} (h : MSp R xs en hs a ea ha ac ec hc w0 mb W c lv mv tv sv) (hb : Below W.heap.size W W') : MSp R xs en hs a ea ha ac ec hc w0 mb W' c lv mv tv sv := ⟨h.sep.below hb, bstep' h.bel hb⟩
theorem MSp.rows {R : List OR} {xs : List Stp} {en hs : List Int} {a ea ha : Option Addr} {ac ec hc : Nat} {w0 : World} {mb : Nat} {W : World} {c : Cf} {lv mv tv sv : Value} (h : MSp R xs en hs a ea ha ac ec hc w0 mb W c lv mv tv sv) :
    W.ownsRow w0.heap.size 3 1 lv c.L.length (ints c.L) ∧ W.ownsRow w0.heap.size 3 1 mv c.M.length (ints c.M) ∧ W.ownsRow w0.heap.size 3 1 tv c.T.length (ints c.T) ∧ W.ownsRow w0.heap.size 3 1 sv c.st.length (ints c.st) :=
  ⟨h.sep.1 ⟨3, 1, lv, c.L.length, ints c.L⟩ (by simp), h.sep.1 ⟨3, 1, mv, c.M.length, ints c.M⟩ (by simp), h.sep.1 ⟨3, 1, tv, c.T.length, ints c.T⟩ (by simp), h.sep.1 ⟨3, 1, sv, c.st.length, ints c.st⟩ (by simp)⟩
theorem MSp.setPc {R : List OR} {xs : List Stp} {en hs : List Int} {a ea ha : Option Addr} {ac ec hc : Nat} {w0 : World} {mb : Nat} {W : World} {c : Cf} {lv mv tv sv : Value} (h : MSp R xs en hs a ea ha ac ec hc w0 mb W c lv mv tv sv) (q : Nat) : MSp R xs en hs a ea ha ac ec hc w0 mb (W.setCell ⟨mb, 7, none⟩ (.int .i64 q)) { c with pc := q } lv mv tv sv := by
  have := h.sep.put [] 7 (.int .i64 q)
  exact ⟨this.1, h.bel.trans this.2⟩
/-- a row that is not empty -/
theorem row_some {w : World} {B n : Nat} {v : Value} {l : List Int} (h : w.ownsRow B 3 1 v n (ints l)) (hn : 0 < n) : ∃ g cap, v = .slice (some ⟨g, 0, none⟩) n cap ∧ g < w.heap.size ∧ B ≤ g ∧ n ≤ cap := by
  rcases h.2 with ⟨_, h0⟩ | ⟨g, cap, cur, rfl, hB, hg, hc, hm, hs, ht⟩
  · omega
  · exact ⟨g, cap, rfl, (Array.getElem?_eq_some_iff.1 hg).1, hB, hc⟩
theorem row_cell {w : World} {B n g cap : Nat} {l : List Int} (h : w.ownsRow B 3 1 (.slice (some ⟨g, 0, none⟩) n cap) n (ints l)) {j : Nat} {v : Int} (hv : l[j]? = some v) : w.cell? ⟨g, j, none⟩ = some (.int .i64 v) := rowT_at h rfl (ints_at hv)
theorem row_frz {w : World} {B n g cap : Nat} {l : List Int} (h : w.ownsRow B 3 1 (.slice (some ⟨g, 0, none⟩) n cap) n (ints l)) (j : Nat) : w.frozen? ⟨g, j, none⟩ = false := rowT_frz h rfl j
theorem ints_take (l : List Int) (n : Nat) : (ints l).take n = ints (l.take n) := by simp [ints]
/-- the stack is cut -/
theorem MSp.cutSt {R : List OR} {xs : List Stp} {en hs : List Int} {a ea ha : Option Addr} {ac ec hc : Nat} {w0 : World} {mb : Nat} {W : World} {c : Cf} {lv mv tv : Value} {g cap : Nat} (h : MSp R xs en hs a ea ha ac ec hc w0 mb W c lv mv tv (.slice (some ⟨g, 0, none⟩) c.st.length cap)) {m : Nat} (hm : m ≤ c.st.length) :
    MSp R xs en hs a ea ha ac ec hc w0 mb (W.setCell ⟨mb, 6, none⟩ (.slice (some ⟨g, 0, none⟩) m cap)) { c with st := c.st.take m } lv mv tv (.slice (some ⟨g, 0, none⟩) m cap) := by
  have h1 := h.sep.cut [_, _, _, _] hm
  have h2 := h1.put [] 6 (.slice (some ⟨g, 0, none⟩) m cap)
  refine ⟨?_, h.bel.trans h2.2⟩
  have e1 : (c.st.take m).length = m := by simp; omega
  have e2 : (ints c.st).take (m * 1) = ints (c.st.take m) := by rw [Nat.mul_one, ints_take]
  have := h2.1
  rw [e2] at this
  simp only [e1]
  exact this
/-- the stack has grown -/
theorem MSp.pushSt {R : List OR} {xs : List Stp} {en hs : List Int} {a ea ha : Option Addr} {ac ec hc : Nat} {w0 : World} {mb : Nat} {W W1 W2 : World} {c : Cf} {lv mv tv sv : Value} {g cap H : Nat} {v : Int} (h : MSp R xs en hs a ea ha ac ec hc w0 mb W c lv mv tv sv) (hb : Below W.heap.size W W1)
    (ho : W2.ownsRow w0.heap.size 3 1 (.slice (some ⟨g, 0, none⟩) (c.st.length + 1) cap) (c.st.length + 1) (ints c.st ++ [.int .i64 v])) (hg : W1.grownBy W2 sv.ownBlock) (hat : sv.ownBlock = some g ∨ g = H) (hH : W.heap.size ≤ H) :
    MSp R xs en hs a ea ha ac ec hc w0 mb (W2.setCell ⟨mb, 6, none⟩ (.slice (some ⟨g, 0, none⟩) (c.st.length + 1) cap)) { c with st := c.st ++ [v] } lv mv tv (.slice (some ⟨g, 0, none⟩) (c.st.length + 1) cap) ∧ W2.cell? ⟨mb, 6, none⟩ = some sv ∧ W2.frozen? ⟨mb, 6, none⟩ = false ∧ mb < W2.heap.size := by
  have h1 := h.sep.grow [_, _, _, _] hb ho hg hat hH h.bel.size
  have h2 := h1.1.put [] 6 (.slice (some ⟨g, 0, none⟩) (c.st.length + 1) cap)
  have e0 : ints (c.st ++ [v]) = ints c.st ++ [.int .i64 v] := by simp [ints]
  refine ⟨⟨?_, (h.bel.trans h1.2).trans h2.2⟩, h1.1.cell (List.mem_cons_self ..) rfl (j := 6) rfl, h1.1.frozen (List.mem_cons_self ..) rfl 6, (h1.1.size (List.mem_cons_self ..) rfl).2⟩
  have := h2.1
  rw [← e0] at this
  simp only [List.length_append, List.length_singleton]
  exact this
/-- what is told has grown -/
theorem MSp.pushT {R : List OR} {xs : List Stp} {en hs : List Int} {a ea ha : Option Addr} {ac ec hc : Nat} {w0 : World} {mb : Nat} {W W1 W2 : World} {c : Cf} {lv mv tv sv : Value} {g cap H : Nat} {v : Int} (h : MSp R xs en hs a ea ha ac ec hc w0 mb W c lv mv tv sv) (hb : Below W.heap.size W W1)
    (ho : W2.ownsRow w0.heap.size 3 1 (.slice (some ⟨g, 0, none⟩) (c.T.length + 1) cap) (c.T.length + 1) (ints c.T ++ [.int .i64 v])) (hg : W1.grownBy W2 tv.ownBlock) (hat : tv.ownBlock = some g ∨ g = H) (hH : W.heap.size ≤ H) :
    MSp R xs en hs a ea ha ac ec hc w0 mb (W2.setCell ⟨mb, 5, none⟩ (.slice (some ⟨g, 0, none⟩) (c.T.length + 1) cap)) { c with T := c.T ++ [v] } lv mv (.slice (some ⟨g, 0, none⟩) (c.T.length + 1) cap) sv ∧ W2.cell? ⟨mb, 5, none⟩ = some tv ∧ W2.frozen? ⟨mb, 5, none⟩ = false ∧ mb < W2.heap.size := by
  have h1 := h.sep.grow [_, _, _] hb ho hg hat hH h.bel.size
  have h2 := h1.1.put [] 5 (.slice (some ⟨g, 0, none⟩) (c.T.length + 1) cap)
  have e0 : ints (c.T ++ [v]) = ints c.T ++ [.int .i64 v] := by simp [ints]
  refine ⟨⟨?_, (h.bel.trans h1.2).trans h2.2⟩, h1.1.cell (List.mem_cons_self ..) rfl (j := 5) rfl, h1.1.frozen (List.mem_cons_self ..) rfl 5, (h1.1.size (List.mem_cons_self ..) rfl).2⟩
  have := h2.1
  rw [← e0] at this
  simp only [List.length_append, List.length_singleton]
  exact this
/-- a local is written -/
theorem MSp.setL {R : List OR} {xs : List Stp} {en hs : List Int} {a ea ha : Option Addr} {ac ec hc : Nat} {w0 : World} {mb : Nat} {W : World} {c : Cf} {mv tv sv : Value} {g cap : Nat} (h : MSp R xs en hs a ea ha ac ec hc w0 mb W c (.slice (some ⟨g, 0, none⟩) c.L.length cap) mv tv sv) (j : Nat) (v : Int) :
    MSp R xs en hs a ea ha ac ec hc w0 mb (W.setCell ⟨g, j, none⟩ (.int .i64 v)) { c with L := c.L.set j v } (.slice (some ⟨g, 0, none⟩) c.L.length cap) mv tv sv := by
  have ho := h.rows.1
  have hs' := ho.stored j (.int .i64 v)
  have h1 := h.sep.turn [_] (Below.refl _ _) hs'.2 ⟨3, 1, .slice (some ⟨g, 0, none⟩) c.L.length cap, c.L.length, (ints c.L).set j (.int .i64 v)⟩ hs'.1 (fun k hk => .inl hk)
  refine ⟨?_, h.bel.setCell (p := ⟨g, j, none⟩) (ho.lt g rfl).1 _⟩
  rw [ints_set] at h1
  simp only [List.length_set]
  exact h1
/-- a word of memory is written -/
theorem MSp.setM {R : List OR} {xs : List Stp} {en hs : List Int} {a ea ha : Option Addr} {ac ec hc : Nat} {w0 : World} {mb : Nat} {W : World} {c : Cf} {lv tv sv : Value} {g cap : Nat} (h : MSp R xs en hs a ea ha ac ec hc w0 mb W c lv (.slice (some ⟨g, 0, none⟩) c.M.length cap) tv sv) (j : Nat) (v : Int) :
    MSp R xs en hs a ea ha ac ec hc w0 mb (W.setCell ⟨g, j, none⟩ (.int .i64 v)) { c with M := c.M.set j v } lv (.slice (some ⟨g, 0, none⟩) c.M.length cap) tv sv := by
  have ho := h.rows.2.1
  have hs' := ho.stored j (.int .i64 v)
  have h1 := h.sep.turn [_, _] (Below.refl _ _) hs'.2 ⟨3, 1, .slice (some ⟨g, 0, none⟩) c.M.length cap, c.M.length, (ints c.M).set j (.int .i64 v)⟩ hs'.1 (fun k hk => .inl hk)
  refine ⟨?_, h.bel.setCell (p := ⟨g, j, none⟩) (ho.lt g rfl).1 _⟩
  rw [ints_set] at h1
  simp only [List.length_set]
  exact h1

theorem top_at {l : List Int} (h : 0 < l.length) : l[l.length - 1]? = some (top l) := by
  unfold top
  rw [List.getLast?_eq_getElem?, List.getElem?_eq_getElem (by omega)]
  rfl
theorem drop_take {l : List Int} : l.dropLast = l.take (l.length - 1) := List.dropLast_eq_take

/-- the model's pop -/
theorem sPop_any {R : List OR} (xs : List Stp) (en hs : List Int) (a ea ha : Option Addr) (ac ec hc : Nat) (w0 : World) (mb : Nat) (W : World) (c : Cf) (lv mv tv sv : Value) (h : MSp R xs en hs a ea ha ac ec hc w0 mb W c lv mv tv sv) (h0 : 0 < c.st.length) (h9 : c.st.length ≤ 9) :
    Calls Tryd.prog 54 #[.pointer (some ⟨mb, 0, none⟩)] W fun e W' => e = .returned (.int .i64 (top c.st)) ∧ (∃ sv', MSp R xs en hs a ea ha ac ec hc w0 mb W' { c with st := c.st.dropLast } lv mv tv sv' ∧ sv'.ownBlock = sv.ownBlock) ∧ W.grownBy W' (some mb) := by
  obtain ⟨g, cap, rfl, hg, hB, hcap⟩ := row_some h.rows.2.2.2 h0
  have c6 := h.cells.2.2.2.2.2.2.1
  have f6 := h.frz 6
  have hv := row_cell h.rows.2.2.2 (top_at h0)
  have hlt := h.lt.2
  have HC := hid (h.cutSt (m := c.st.length - 1) (by omega))
  obtain ⟨m, hm⟩ : ∃ m, c.st.length = m + 1 := ⟨c.st.length - 1, by omega⟩
  have e1 : c.st.length - 1 = m := by omega
  rw [e1] at hv HC
  have HE := hid (show c.st.dropLast = c.st.take m by rw [drop_take, e1])
  rw [hm] at c6 hcap
  have hm9 : m ≤ 8 := by omega
  clear h h0 h9 e1 hm
  go_enter Tryd.func54, Tryd.ntmps54
  go_wp2
  go_ret
  exact ⟨rfl, ⟨.slice (some ⟨g, 0, none⟩) m cap, by rw [HE.out]; exact HC.out, rfl⟩, grown_set _ _ _ _⟩
end Go.Proofs.YthkkhinmdlmhkaaDoor
