/- What the program's deeds make of its machine: those that touch the stack alone, and the address. -/
import Derived.Test.YthkkhinmdlmhkaaDoorIm
import Derived.Test.YthkkhinmdlmhkaaDoorWord
import Derived.RegionDies
namespace Go.Proofs.YthkkhinmdlmhkaaDoor
section
open Go.RowKit
set_option linter.unusedVariables false
set_option linter.unusedSimpArgs false
set_option maxRecDepth 100000

theorem Imp.box {R : List OR} {xs : List Stp} {en hs : List Int} {a ea ha : Option Addr} {ac ec hc : Nat} {w0 : World} {mb : Nat} {W : World} {c : Cf} {D : List Int} {here how : Int} {lv mv tv sv dv : Value} (h : Imp R xs en hs a ea ha ac ec hc w0 mb W c D here how lv mv tv sv dv) (u0 u1 u2 : Value) : Imp R xs en hs a ea ha ac ec hc w0 mb (W.alloc (.cells #[u0, u1, u2] 59)) c D here how lv mv tv sv dv ∧ (W.alloc (.cells #[u0, u1, u2] 59)).cell? ⟨W.heap.size, 0, none⟩ = some u0 ∧ (W.alloc (.cells #[u0, u1, u2] 59)).cell? ⟨W.heap.size, 1, none⟩ = some u1 ∧ (W.alloc (.cells #[u0, u1, u2] 59)).cell? ⟨W.heap.size, 2, none⟩ = some u2 ∧ W.heap.size < (W.alloc (.cells #[u0, u1, u2] 59)).heap.size := by
  have hb := heap_alloc_new W (.cells #[u0, u1, u2] 59)
  refine ⟨h.below (below1 _ _), ?_, ?_, ?_, by simp⟩
  · rw [Lib.cell_of_heap hb]; rfl
  · rw [Lib.cell_of_heap hb]; rfl
  · rw [Lib.cell_of_heap hb]; rfl
/-- a step was done -/
def Done (R : List OR) (xs : List Stp) (en hs : List Int) (a ea ha : Option Addr) (ac ec hc : Nat) (w0 : World) (mb : Nat) (D : List Int) (here how : Int) (dv : Value) (c : Cf) (e : Ending) (W : World) : Prop :=
  e = .returned (.tuple #[]) ∧ ∃ lv mv tv sv, Imp R xs en hs a ea ha ac ec hc w0 mb W c D here how lv mv tv sv dv
/-- a step gave up: what is told of the state stays as it was -/
def Gave (R : List OR) (xs : List Stp) (en hs : List Int) (a ea ha : Option Addr) (ac ec hc : Nat) (w0 : World) (mb : Nat) (D : List Int) (here how : Int) (dv : Value) (u : TypeId) (pv : Value) (c : Cf) (e : Ending) (W : World) : Prop :=
  e = .panicked [{ v := .iface u pv, recovered := false }] ∧ ∃ st lv mv tv sv, Imp R xs en hs a ea ha ac ec hc w0 mb W { c with st := st } D here how lv mv tv sv dv
/-- the value that is given up with lies where the walk does not write -/
theorem Imp.err {R : List OR} {xs : List Stp} {en hs : List Int} {a ea ha : Option Addr} {ac ec hc : Nat} {w0 : World} {mb : Nat} {W : World} {c : Cf} {D : List Int} {here how : Int} {lv mv tv sv dv : Value} (h : Imp R xs en hs a ea ha ac ec hc w0 mb W c D here how lv mv tv sv dv) {u : TypeId} {pv : Value} (h5 : 5 < w0.heap.size) (he : w0.cell? ⟨5, 0, none⟩ = some (.iface u pv)) : W.cell? ⟨5, 0, none⟩ = some (.iface u pv) := (h.bel.cell (p := ⟨5, 0, none⟩) h5).trans he

set_option maxHeartbeats 1000000 in
/-- an address that there is -/
theorem iAddr_yes {R : List OR} (xs : List Stp) (en hs : List Int) (a ea ha : Option Addr) (ac ec hc : Nat) (w0 : World) (mb : Nat) (W : World) (c : Cf) (D : List Int) (here how : Int) (lv mv tv sv dv : Value) (h : Imp R xs en hs a ea ha ac ec hc w0 mb W c D here how lv mv tv sv dv)  (h0 : 0 < c.st.length) (h9 : c.st.length ≤ 9) (ht : top c.st < 16) :
    Calls Tryd.prog 105 #[.pointer (some ⟨mb, 0, none⟩)] W fun e W' => e = .returned (.int .i64 (top c.st)) ∧ (∃ sv', Imp R xs en hs a ea ha ac ec hc w0 mb W' { c with st := c.st.dropLast } D here how lv mv tv sv' dv ∧ sv'.ownBlock = sv.ownBlock) ∧ W.grownBy W' (some mb) := by
  go_enter Tryd.func105, Tryd.ntmps105
  have ho := orTrap_yes
  go_wp2_with fail
  refine (iTake_any _ _ _ _ _ _ _ _ _ _ _ W _ _ _ _ _ _ _ _ _ h h0 h9).mono ?_
  rintro e X2 ⟨rfl, M2, g2⟩
  have H2 := hid M2
  have G2 := hid g2
  obtain ⟨z, hz⟩ : ∃ z, top c.st = z := ⟨_, rfl⟩
  rw [hz] at ht ⊢
  have HZ := hid hz
  clear hz M2 g2
  go_wp2_with (go_at_call 104; refine (ho _).mono ?_; rintro e w' ⟨rfl, hw'⟩; subst w')
  go_ret
  exact ⟨by rw [HZ.out]; rfl, H2.out, G2.out⟩

set_option maxHeartbeats 1000000 in
/-- an address that there is not -/
theorem iAddr_no {R : List OR} (xs : List Stp) (en hs : List Int) (a ea ha : Option Addr) (ac ec hc : Nat) (w0 : World) (mb : Nat) (W : World) (c : Cf) (D : List Int) (here how : Int) (lv mv tv sv dv : Value) (h : Imp R xs en hs a ea ha ac ec hc w0 mb W c D here how lv mv tv sv dv)  (u : TypeId) (pv : Value) (h5 : 5 < w0.heap.size) (he : w0.cell? ⟨5, 0, none⟩ = some (.iface u pv)) (h0 : 0 < c.st.length) (h9 : c.st.length ≤ 9) (ht : ¬ top c.st < 16) :
    Calls Tryd.prog 105 #[.pointer (some ⟨mb, 0, none⟩)] W fun e W' => Gave R xs en hs a ea ha ac ec hc w0 mb D here how dv u pv c e W' := by
  go_enter Tryd.func105, Tryd.ntmps105
  go_wp2_with fail
  refine (iTake_any _ _ _ _ _ _ _ _ _ _ _ W _ _ _ _ _ _ _ _ _ h h0 h9).mono ?_
  rintro e X2 ⟨rfl, ⟨sv2, M2, _⟩, g2⟩
  have ho := orTrap_no X2 u pv (M2.err h5 he)
  have H2 := hid M2
  obtain ⟨z, hz⟩ : ∃ z, top c.st = z := ⟨_, rfl⟩
  rw [hz] at ht ⊢
  have ho2 : Calls Tryd.prog 104 #[.bool (decide (z < 16))] X2 fun e w' => e = .panicked [{ v := .iface u pv, recovered := false }] ∧ w' = X2 := by rw [decide_eq_false (show ¬ z < 16 by omega)]; exact ho
  clear ho
  clear hz M2 g2 h he
  go_wp2_with (go_at_call 104; refine ho2.mono ?_; rintro e w' ⟨rfl, hw'⟩; subst w')
  exact ⟨rfl, rfl, _, _, _, _, _, H2.out⟩

set_option maxHeartbeats 1000000 in
/-- WConst -/
theorem doConst_any {R : List OR} (xs : List Stp) (en hs : List Int) (a ea ha : Option Addr) (ac ec hc : Nat) (w0 : World) (mb : Nat) (W : World) (c : Cf) (D : List Int) (here how : Int) (lv mv tv sv dv : Value) (h : Imp R xs en hs a ea ha ac ec hc w0 mb W c D here how lv mv tv sv dv) (op n : Int) (tb : Value) (h9 : c.st.length ≤ 9) :
    Calls Tryd.prog 74 #[.pointer (some ⟨mb, 0, none⟩), .agg #[.int .i64 op, .int .i64 n, tb]] W fun e W' => Done R xs en hs a ea ha ac ec hc w0 mb D here how dv { c with st := c.st ++ [n] } e W' := by
  obtain ⟨MX, y0, y1, y2, hlX⟩ := h.box (.int .i64 op) (.int .i64 n) tb
  have hmb := h.lt
  have hmw : ¬ mb = W.heap.size := by omega
  have hwm : ¬ W.heap.size = mb := by omega
  go_enter Tryd.func74, Tryd.ntmps74
  go_wp2_with fail
  generalize (W.alloc (.cells #[.int .i64 op, .int .i64 n, tb] 59)) = X at MX y0 y1 y2 hlX ⊢
  refine (iPut_any _ _ _ _ _ _ _ _ _ _ _ X _ _ _ _ _ _ _ _ _ MX h9 n).mono ?_
  rintro e X2 ⟨rfl, sv2, M2⟩
  have H2 := hid M2
  clear M2
  go_wp2
  exact bodyPost_end (v := .tuple #[]) (by simp [results, Tryd.results74, go_sem]) rfl ⟨rfl, _, _, _, _, H2.out⟩

set_option maxHeartbeats 1000000 in
/-- WDrop -/
theorem doDrop_any {R : List OR} (xs : List Stp) (en hs : List Int) (a ea ha : Option Addr) (ac ec hc : Nat) (w0 : World) (mb : Nat) (W : World) (c : Cf) (D : List Int) (here how : Int) (lv mv tv sv dv : Value) (h : Imp R xs en hs a ea ha ac ec hc w0 mb W c D here how lv mv tv sv dv) (op n : Int) (tb : Value) (h0 : 0 < c.st.length) (h9 : c.st.length ≤ 9) :
    Calls Tryd.prog 81 #[.pointer (some ⟨mb, 0, none⟩), .agg #[.int .i64 op, .int .i64 n, tb]] W fun e W' => Done R xs en hs a ea ha ac ec hc w0 mb D here how dv { c with st := c.st.dropLast } e W' := by
  obtain ⟨MX, y0, y1, y2, hlX⟩ := h.box (.int .i64 op) (.int .i64 n) tb
  have hmb := h.lt
  have hmw : ¬ mb = W.heap.size := by omega
  have hwm : ¬ W.heap.size = mb := by omega
  go_enter Tryd.func81, Tryd.ntmps81
  go_wp2_with fail
  generalize (W.alloc (.cells #[.int .i64 op, .int .i64 n, tb] 59)) = X at MX y0 y1 y2 hlX ⊢
  refine (iTake_any _ _ _ _ _ _ _ _ _ _ _ X _ _ _ _ _ _ _ _ _ MX h0 h9).mono ?_
  rintro e X2 ⟨rfl, ⟨sv2, M2, _⟩, _⟩
  have H2 := hid M2
  clear M2
  go_wp2
  exact bodyPost_end (v := .tuple #[]) (by simp [results, Tryd.results81, go_sem]) rfl ⟨rfl, _, _, _, _, H2.out⟩

set_option maxHeartbeats 1000000 in
/-- WTrap -/
theorem doTrap_any {R : List OR} (xs : List Stp) (en hs : List Int) (a ea ha : Option Addr) (ac ec hc : Nat) (w0 : World) (mb : Nat) (W : World) (c : Cf) (D : List Int) (here how : Int) (lv mv tv sv dv : Value) (h : Imp R xs en hs a ea ha ac ec hc w0 mb W c D here how lv mv tv sv dv) (op n : Int) (tb : Value) (u : TypeId) (pv : Value) (h5 : 5 < w0.heap.size) (he : w0.cell? ⟨5, 0, none⟩ = some (.iface u pv)) :
    Calls Tryd.prog 82 #[.pointer (some ⟨mb, 0, none⟩), .agg #[.int .i64 op, .int .i64 n, tb]] W fun e W' => Gave R xs en hs a ea ha ac ec hc w0 mb D here how dv u pv c e W' := by
  obtain ⟨MX, y0, y1, y2, hlX⟩ := h.box (.int .i64 op) (.int .i64 n) tb
  have hmb := h.lt
  have hmw : ¬ mb = W.heap.size := by omega
  have hwm : ¬ W.heap.size = mb := by omega
  go_enter Tryd.func82, Tryd.ntmps82
  have ho := orTrap_no _ u pv (MX.err h5 he)
  go_wp2_with fail
  generalize (W.alloc (.cells #[.int .i64 op, .int .i64 n, tb] 59)) = X at MX y0 y1 y2 hlX ho ⊢
  refine ho.mono ?_
  rintro e w' ⟨rfl, hw'⟩
  subst w'
  exact ⟨rfl, rfl, c.st, _, _, _, _, MX⟩

set_option maxHeartbeats 1000000 in
/-- WBlock, WLoop, WEnd -/
theorem doNothing_any {R : List OR} (xs : List Stp) (en hs : List Int) (a ea ha : Option Addr) (ac ec hc : Nat) (w0 : World) (mb : Nat) (W : World) (c : Cf) (D : List Int) (here how : Int) (lv mv tv sv dv : Value) (h : Imp R xs en hs a ea ha ac ec hc w0 mb W c D here how lv mv tv sv dv) (op n : Int) (tb : Value)  :
    Calls Tryd.prog 83 #[.pointer (some ⟨mb, 0, none⟩), .agg #[.int .i64 op, .int .i64 n, tb]] W fun e W' => Done R xs en hs a ea ha ac ec hc w0 mb D here how dv c e W' := by
  obtain ⟨MX, y0, y1, y2, hlX⟩ := h.box (.int .i64 op) (.int .i64 n) tb
  have hmb := h.lt
  have hmw : ¬ mb = W.heap.size := by omega
  have hwm : ¬ W.heap.size = mb := by omega
  go_enter Tryd.func83, Tryd.ntmps83
  go_wp2
  exact bodyPost_end (v := .tuple #[]) (by simp [results, Tryd.results83, go_sem]) rfl ⟨rfl, _, _, _, _, MX⟩
end

section
open Go.RowKit
set_option linter.unusedVariables false
set_option linter.unusedSimpArgs false
set_option maxRecDepth 100000

theorem Imp.drew {R : List OR} {xs : List Stp} {en hs : List Int} {a ea ha : Option Addr} {ac ec hc : Nat} {w0 : World} {mb : Nat} {W : World} {c : Cf} {D : List Int} {here how : Int} {lv mv tv sv dv : Value} (h : Imp R xs en hs a ea ha ac ec hc w0 mb W c D here how lv mv tv sv dv) : Imp R xs en hs a ea ha ac ec hc w0 mb W.drew c D here how lv mv tv sv dv := h.below ((Below.refl _ _).drew)

set_option maxHeartbeats 1000000 in
/-- WGet -/
theorem doGet_any {R : List OR} (xs : List Stp) (en hs : List Int) (a ea ha : Option Addr) (ac ec hc : Nat) (w0 : World) (mb : Nat) (W : World) (c : Cf) (D : List Int) (here how : Int) (lv mv tv sv dv : Value) (h : Imp R xs en hs a ea ha ac ec hc w0 mb W c D here how lv mv tv sv dv) (op : Int) (m : Nat) (tb : Value) (h9 : c.st.length ≤ 9) (hm : m < c.L.length) (h8 : c.L.length = 8) :
    Calls Tryd.prog 75 #[.pointer (some ⟨mb, 0, none⟩), .agg #[.int .i64 op, .int .i64 (m : Int), tb]] W fun e W' => Done R xs en hs a ea ha ac ec hc w0 mb D here how dv { c with st := c.st ++ [c.L[m]?.getD 0] } e W' := by
  obtain ⟨u, hu⟩ : ∃ u, c.L[m]? = some u := ⟨_, List.getElem?_eq_getElem hm⟩
  have hmI : (m : Int) < c.L.length := by omega
  rw [show c.L[m]?.getD 0 = u by rw [hu]; rfl]
  obtain ⟨MX, y0, y1, y2, hlX⟩ := h.box (.int .i64 op) (.int .i64 (m : Int)) tb
  have hmb := h.lt
  have hmw : ¬ mb = W.heap.size := by omega
  have hwm : ¬ W.heap.size = mb := by omega
  go_enter Tryd.func75, Tryd.ntmps75
  go_wp2_with fail
  generalize (W.alloc (.cells #[.int .i64 op, .int .i64 (m : Int), tb] 59)) = X at MX y0 y1 y2 hlX ⊢
  obtain ⟨gl, lc, rfl, hgl, hBl, hcl⟩ := row_some MX.rows.1 (by omega)
  have kl := row_cell MX.rows.1 hu
  have k3 := MX.cells.2.2.2.1
  have DM := MX.drew
  go_region_with (go_at_call 101; refine (iPut_any xs en hs a ea ha ac ec hc w0 mb _ c D here how _ _ _ _ _ (by first | exact MX | exact DM) h9 u).mono ?_; rintro e X2 ⟨rfl, sv2, M2⟩; have H2 := hid M2; clear M2)
  all_goals
    go_wp2
    exact bodyPost_end (v := .tuple #[]) (by simp [results, Tryd.results75, go_sem]) rfl ⟨rfl, _, _, _, _, H2.out⟩

set_option maxHeartbeats 1000000 in
/-- WSet -/
theorem doSet_any {R : List OR} (xs : List Stp) (en hs : List Int) (a ea ha : Option Addr) (ac ec hc : Nat) (w0 : World) (mb : Nat) (W : World) (c : Cf) (D : List Int) (here how : Int) (lv mv tv sv dv : Value) (h : Imp R xs en hs a ea ha ac ec hc w0 mb W c D here how lv mv tv sv dv) (op : Int) (m : Nat) (tb : Value) (h0 : 0 < c.st.length) (h9 : c.st.length ≤ 9) (hm : m < c.L.length) (h8 : c.L.length = 8) :
    Calls Tryd.prog 76 #[.pointer (some ⟨mb, 0, none⟩), .agg #[.int .i64 op, .int .i64 (m : Int), tb]] W fun e W' => Done R xs en hs a ea ha ac ec hc w0 mb D here how dv { c with st := c.st.dropLast, L := c.L.set m (top c.st) } e W' := by
  have hmI : (m : Int) < c.L.length := by omega
  obtain ⟨z, hz⟩ : ∃ z, top c.st = z := ⟨_, rfl⟩
  obtain ⟨u, hu⟩ : ∃ u, c.L[m]? = some u := ⟨_, List.getElem?_eq_getElem hm⟩
  rw [hz]
  obtain ⟨MX, y0, y1, y2, hlX⟩ := h.box (.int .i64 op) (.int .i64 (m : Int)) tb
  have hmb := h.lt
  have hmw : ¬ mb = W.heap.size := by omega
  have hwm : ¬ W.heap.size = mb := by omega
  go_enter Tryd.func76, Tryd.ntmps76
  go_wp2_with fail
  generalize (W.alloc (.cells #[.int .i64 op, .int .i64 (m : Int), tb] 59)) = X at MX y0 y1 y2 hlX ⊢
  obtain ⟨gl, lc, rfl, hgl, hBl, hcl⟩ := row_some MX.rows.1 (by omega)
  have k3 := MX.cells.2.2.2.1
  have DM := MX.drew
  have y1d : X.drew.cell? ⟨W.heap.size, 1, none⟩ = some (.int .i64 (m : Int)) := y1
  have HT : Hid (∀ Y, Imp R xs en hs a ea ha ac ec hc w0 mb Y c D here how (.slice (some ⟨gl, 0, none⟩) c.L.length lc) mv tv sv dv → Calls Tryd.prog 102 #[.pointer (some ⟨mb, 0, none⟩)] Y fun e W' => e = .returned (.int .i64 z) ∧ (∃ sv', Imp R xs en hs a ea ha ac ec hc w0 mb W' { c with st := c.st.dropLast } D here how (.slice (some ⟨gl, 0, none⟩) c.L.length lc) mv tv sv' dv ∧ sv'.ownBlock = sv.ownBlock) ∧ Y.grownBy W' (some mb)) := fun Y hY => by rw [← hz]; exact iTake_any _ _ _ _ _ _ _ _ _ _ _ Y _ _ _ _ _ _ _ _ _ hY h0 h9
  have hgm : gl ≠ mb := fun e => by
    have := MX.sep.2
    rw [List.pairwise_cons] at this
    rcases this.1 _ (List.mem_cons_self ..) with h1 | h1
    · cases h1
    · exact h1 (by rw [← e]; rfl)
  clear hz h
  go_region_with (go_at_call 102; refine (HT.out _ (by first | exact MX | exact DM)).mono ?_; rintro e X2 ⟨rfl, ⟨sv2, M2, _⟩, g2⟩; have k32 := M2.cells.2.2.2.1; have fz2 := row_frz M2.rows.1 m; have y12 := grown_far g2 (by first | exact y1 | exact y1d) (by simp; omega); have gl2 := (M2.rows.1.lt gl rfl).2; have hl2 := row_cell M2.rows.1 hu; have H2 := hid (M2.setL m z); clear M2 g2)
  all_goals
    go_wp2
    exact bodyPost_end (v := .tuple #[]) (by simp [results, Tryd.results76, go_sem]) rfl ⟨rfl, _, _, _, _, H2.out⟩
end

section
open Go.RowKit
set_option linter.unusedVariables false
set_option linter.unusedSimpArgs false
set_option maxRecDepth 100000

theorem iDo_words (op a b : Int) (h : 4 ≤ op ∧ op ≤ 9) (ha : 0 ≤ a ∧ a ≤ 65535) (hb : 0 ≤ b ∧ b ≤ 65535) (w : World) : Calls Tryd.prog 103 #[.int .i64 op, .int .i64 a, .int .i64 b] w fun e w' => e = .returned (.tuple #[.int .i64 (doN op a b), .bool (doB op b), .bool true]) ∧ w' = w := by
  have hk : okW op a b = true := by simp [okW, inB]; omega
  have := iDoWord_any op a b w
  rw [wN, wB, if_pos hk, hk] at this
  simpa using this

set_option maxHeartbeats 1000000 in
/-- two words, and what they make -/
theorem doTwo_yes {R : List OR} (xs : List Stp) (en hs : List Int) (a ea ha : Option Addr) (ac ec hc : Nat) (w0 : World) (mb : Nat) (W : World) (c : Cf) (D : List Int) (here how : Int) (lv mv tv sv dv : Value) (h : Imp R xs en hs a ea ha ac ec hc w0 mb W c D here how lv mv tv sv dv) (op n : Int) (tb : Value) (hop : 4 ≤ op ∧ op ≤ 9) (h2 : 2 ≤ c.st.length) (h9 : c.st.length ≤ 9) (hw : wds c.st) (hd : doB op (top c.st) = true) :
    Calls Tryd.prog 77 #[.pointer (some ⟨mb, 0, none⟩), .agg #[.int .i64 op, .int .i64 n, tb]] W fun e W' => Done R xs en hs a ea ha ac ec hc w0 mb D here how dv { c with st := c.st.dropLast.dropLast ++ [doN op (top c.st.dropLast) (top c.st)] } e W' := by
  have hdo := fun w => iDo_words op (top c.st.dropLast) (top c.st) hop (top_word (wds_drop hw)) (top_word hw) w
  rw [hd] at hdo
  obtain ⟨dN, hdN⟩ : ∃ z, doN op (top c.st.dropLast) (top c.st) = z := ⟨_, rfl⟩
  rw [hdN] at hdo ⊢
  have HDO := hid hdo
  clear hdo hdN hd
  obtain ⟨MX, y0, y1, y2, hlX⟩ := h.box (.int .i64 op) (.int .i64 n) tb
  have hmb := h.lt
  have hmw : ¬ mb = W.heap.size := by omega
  have hwm : ¬ W.heap.size = mb := by omega
  go_enter Tryd.func77, Tryd.ntmps77
  go_wp2_with fail
  generalize (W.alloc (.cells #[.int .i64 op, .int .i64 n, tb] 59)) = X at MX y0 y1 y2 hlX ⊢
  refine (iTake_any _ _ _ _ _ _ _ _ _ _ _ X _ _ _ _ _ _ _ _ _ MX (by (try simp only [List.length_dropLast]); omega) (by (try simp only [List.length_dropLast]); omega)).mono ?_
  rintro e X2 ⟨rfl, ⟨sv2, M2, eb2⟩, g2⟩
  simp only [] at M2 ⊢
  replace y0 := grown_far g2 y0 (by simp; omega)
  go_wp2_with fail
  refine (iTake_any _ _ _ _ _ _ _ _ _ _ _ X2 _ _ _ _ _ _ _ _ _ M2 (by (try simp only [List.length_dropLast]); omega) (by (try simp only [List.length_dropLast]); omega)).mono ?_
  rintro e X3 ⟨rfl, ⟨sv3, M3, eb3⟩, g3⟩
  simp only [] at M3 ⊢
  replace y0 := grown_far g3 y0 (by simp; omega)
  clear y1 y2 MX M2 g2 g3 eb2 eb3 hlX h
  go_wp2_with fail
  refine (HDO.out _).mono ?_
  rintro e w' ⟨rfl, hw'⟩
  subst w'
  go_wp2_with fail
  refine (orTrap_yes _).mono ?_
  rintro e w' ⟨rfl, hw'⟩
  subst w'
  go_wp2_with fail
  refine (iPut_any _ _ _ _ _ _ _ _ _ _ _ X3 _ _ _ _ _ _ _ _ _ M3 (by simp only [List.length_dropLast]; omega) dN).mono ?_
  rintro e X4 ⟨rfl, sv4, M4⟩
  have H4 := hid M4
  clear M4
  go_wp2
  exact bodyPost_end (v := .tuple #[]) (by simp [results, Tryd.results77, go_sem]) rfl ⟨rfl, _, _, _, _, H4.out⟩

set_option maxHeartbeats 1000000 in
/-- two words, that make none -/
theorem doTwo_no {R : List OR} (xs : List Stp) (en hs : List Int) (a ea ha : Option Addr) (ac ec hc : Nat) (w0 : World) (mb : Nat) (W : World) (c : Cf) (D : List Int) (here how : Int) (lv mv tv sv dv : Value) (h : Imp R xs en hs a ea ha ac ec hc w0 mb W c D here how lv mv tv sv dv) (op n : Int) (tb : Value) (u : TypeId) (pv : Value) (h5 : 5 < w0.heap.size) (he : w0.cell? ⟨5, 0, none⟩ = some (.iface u pv)) (hop : 4 ≤ op ∧ op ≤ 9) (h2 : 2 ≤ c.st.length) (h9 : c.st.length ≤ 9) (hw : wds c.st) (hd : doB op (top c.st) = false) :
    Calls Tryd.prog 77 #[.pointer (some ⟨mb, 0, none⟩), .agg #[.int .i64 op, .int .i64 n, tb]] W fun e W' => Gave R xs en hs a ea ha ac ec hc w0 mb D here how dv u pv c e W' := by
  have hdo := fun w => iDo_words op (top c.st.dropLast) (top c.st) hop (top_word (wds_drop hw)) (top_word hw) w
  rw [hd] at hdo
  obtain ⟨dN, hdN⟩ : ∃ z, doN op (top c.st.dropLast) (top c.st) = z := ⟨_, rfl⟩
  rw [hdN] at hdo
  have HDO := hid hdo
  clear hdo hdN hd
  obtain ⟨MX, y0, y1, y2, hlX⟩ := h.box (.int .i64 op) (.int .i64 n) tb
  have hmb := h.lt
  have hmw : ¬ mb = W.heap.size := by omega
  have hwm : ¬ W.heap.size = mb := by omega
  go_enter Tryd.func77, Tryd.ntmps77
  go_wp2_with fail
  generalize (W.alloc (.cells #[.int .i64 op, .int .i64 n, tb] 59)) = X at MX y0 y1 y2 hlX ⊢
  refine (iTake_any _ _ _ _ _ _ _ _ _ _ _ X _ _ _ _ _ _ _ _ _ MX (by (try simp only [List.length_dropLast]); omega) (by (try simp only [List.length_dropLast]); omega)).mono ?_
  rintro e X2 ⟨rfl, ⟨sv2, M2, eb2⟩, g2⟩
  simp only [] at M2 ⊢
  replace y0 := grown_far g2 y0 (by simp; omega)
  go_wp2_with fail
  refine (iTake_any _ _ _ _ _ _ _ _ _ _ _ X2 _ _ _ _ _ _ _ _ _ M2 (by (try simp only [List.length_dropLast]); omega) (by (try simp only [List.length_dropLast]); omega)).mono ?_
  rintro e X3 ⟨rfl, ⟨sv3, M3, eb3⟩, g3⟩
  simp only [] at M3 ⊢
  replace y0 := grown_far g3 y0 (by simp; omega)
  clear y1 y2 MX M2 g2 g3 eb2 eb3 hlX h
  go_wp2_with fail
  refine (HDO.out _).mono ?_
  rintro e w' ⟨rfl, hw'⟩
  subst w'
  go_wp2_with fail
  refine (orTrap_no _ u pv (M3.err h5 he)).mono ?_
  rintro e w' ⟨rfl, hw'⟩
  subst w'
  exact ⟨rfl, rfl, _, _, _, _, _, M3⟩
end

section
open Go.RowKit
set_option linter.unusedVariables false
set_option linter.unusedSimpArgs false
set_option maxRecDepth 100000

set_option maxHeartbeats 1000000 in
/-- WStore -/
theorem doStore_yes {R : List OR} (xs : List Stp) (en hs : List Int) (a ea ha : Option Addr) (ac ec hc : Nat) (w0 : World) (mb : Nat) (W : World) (c : Cf) (D : List Int) (here how : Int) (lv mv tv sv dv : Value) (h : Imp R xs en hs a ea ha ac ec hc w0 mb W c D here how lv mv tv sv dv) (op n : Int) (tb : Value) (h16 : c.M.length = 16) (h9 : c.st.length ≤ 9) (h2 : 2 ≤ c.st.length) (m : Nat) (ht : top c.st.dropLast = m) (hm : m < 16) :
    Calls Tryd.prog 79 #[.pointer (some ⟨mb, 0, none⟩), .agg #[.int .i64 op, .int .i64 n, tb]] W fun e W' => Done R xs en hs a ea ha ac ec hc w0 mb D here how dv { c with st := c.st.dropLast.dropLast, M := c.M.set m (top c.st) } e W' := by
  obtain ⟨u, hu⟩ : ∃ u, c.M[m]? = some u := ⟨_, List.getElem?_eq_getElem (by omega)⟩
  have hmI : (m : Int) < c.M.length := by omega
  have hmN : m < c.M.length := by omega
  obtain ⟨MX, y0, y1, y2, hlX⟩ := h.box (.int .i64 op) (.int .i64 n) tb
  have hmb := h.lt
  have hmw : ¬ mb = W.heap.size := by omega
  have hwm : ¬ W.heap.size = mb := by omega
  go_enter Tryd.func79, Tryd.ntmps79
  go_wp2_with fail
  generalize (W.alloc (.cells #[.int .i64 op, .int .i64 n, tb] 59)) = X at MX y0 y1 y2 hlX ⊢
  refine (iTake_any _ _ _ _ _ _ _ _ _ _ _ X _ _ _ _ _ _ _ _ _ MX (by (try simp only [List.length_dropLast]); omega) (by (try simp only [List.length_dropLast]); omega)).mono ?_
  rintro e X2 ⟨rfl, ⟨sv2, M2, eb2⟩, g2⟩
  simp only [] at M2 ⊢
  obtain ⟨z, hz⟩ : ∃ z, top c.st = z := ⟨_, rfl⟩
  have HZ := hid hz
  rw [hz]
  clear hz
  go_wp2_with fail
  refine (iAddr_yes _ _ _ _ _ _ _ _ _ _ _ X2 _ _ _ _ _ _ _ _ _ M2 (by simp only [List.length_dropLast]; omega) (by simp only [List.length_dropLast]; omega) (by rw [ht]; omega)).mono ?_
  rintro e X3 ⟨rfl, ⟨sv3, M3, eb3⟩, g3⟩
  simp only [] at M3 ⊢
  rw [ht]
  obtain ⟨gm, mc, rfl, hgm, hBm, hcm⟩ := row_some M3.rows.2.1 (by simp only []; omega)
  have k4 := M3.cells.2.2.2.2.1
  have kl := row_cell M3.rows.2.1 hu
  have fz := row_frz M3.rows.2.1 m
  have gl2 := (M3.rows.2.1.lt gm rfl).2
  have H3 := hid (M3.setM m z)
  clear y0 y1 y2 MX M2 M3 g2 g3 eb2 eb3 hlX h ht
  go_wp2
  exact bodyPost_end (v := .tuple #[]) (by simp [results, Tryd.results79, go_sem]) rfl ⟨rfl, _, _, _, _, by rw [HZ.out]; exact H3.out⟩

set_option maxHeartbeats 1000000 in
/-- WStore, where there is no such address -/
theorem doStore_no {R : List OR} (xs : List Stp) (en hs : List Int) (a ea ha : Option Addr) (ac ec hc : Nat) (w0 : World) (mb : Nat) (W : World) (c : Cf) (D : List Int) (here how : Int) (lv mv tv sv dv : Value) (h : Imp R xs en hs a ea ha ac ec hc w0 mb W c D here how lv mv tv sv dv) (op n : Int) (tb : Value) (u : TypeId) (pv : Value) (h5 : 5 < w0.heap.size) (he : w0.cell? ⟨5, 0, none⟩ = some (.iface u pv)) (h9 : c.st.length ≤ 9) (h2 : 2 ≤ c.st.length) (ht : ¬ top c.st.dropLast < 16) :
    Calls Tryd.prog 79 #[.pointer (some ⟨mb, 0, none⟩), .agg #[.int .i64 op, .int .i64 n, tb]] W fun e W' => Gave R xs en hs a ea ha ac ec hc w0 mb D here how dv u pv c e W' := by
  obtain ⟨MX, y0, y1, y2, hlX⟩ := h.box (.int .i64 op) (.int .i64 n) tb
  have hmb := h.lt
  have hmw : ¬ mb = W.heap.size := by omega
  have hwm : ¬ W.heap.size = mb := by omega
  go_enter Tryd.func79, Tryd.ntmps79
  go_wp2_with fail
  generalize (W.alloc (.cells #[.int .i64 op, .int .i64 n, tb] 59)) = X at MX y0 y1 y2 hlX ⊢
  refine (iTake_any _ _ _ _ _ _ _ _ _ _ _ X _ _ _ _ _ _ _ _ _ MX (by (try simp only [List.length_dropLast]); omega) (by (try simp only [List.length_dropLast]); omega)).mono ?_
  rintro e X2 ⟨rfl, ⟨sv2, M2, eb2⟩, g2⟩
  simp only [] at M2 ⊢
  go_wp2_with fail
  refine (iAddr_no _ _ _ _ _ _ _ _ _ _ _ X2 _ _ _ _ _ _ _ _ _ M2 u pv h5 he (by simp only [List.length_dropLast]; omega) (by simp only [List.length_dropLast]; omega) (by simp only []; omega)).mono ?_
  rintro e X3 ⟨rfl, st3, lv3, mv3, tv3, sv3, M3⟩
  exact ⟨rfl, rfl, _, _, _, _, _, M3⟩

set_option maxHeartbeats 1000000 in
/-- WLoad -/
theorem doLoad_yes {R : List OR} (xs : List Stp) (en hs : List Int) (a ea ha : Option Addr) (ac ec hc : Nat) (w0 : World) (mb : Nat) (W : World) (c : Cf) (D : List Int) (here how : Int) (lv mv tv sv dv : Value) (h : Imp R xs en hs a ea ha ac ec hc w0 mb W c D here how lv mv tv sv dv) (op n : Int) (tb : Value) (h16 : c.M.length = 16) (h9 : c.st.length ≤ 9) (h0 : 0 < c.st.length) (m : Nat) (ht : top c.st = m) (hm : m < 16) :
    Calls Tryd.prog 78 #[.pointer (some ⟨mb, 0, none⟩), .agg #[.int .i64 op, .int .i64 n, tb]] W fun e W' => Done R xs en hs a ea ha ac ec hc w0 mb D here how dv { c with st := c.st.dropLast ++ [c.M[m]?.getD 0] } e W' := by
  obtain ⟨u, hu⟩ : ∃ u, c.M[m]? = some u := ⟨_, List.getElem?_eq_getElem (by omega)⟩
  rw [show c.M[m]?.getD 0 = u by rw [hu]; rfl]
  have hmI : (m : Int) < c.M.length := by omega
  have hmN : m < c.M.length := by omega
  obtain ⟨MX, y0, y1, y2, hlX⟩ := h.box (.int .i64 op) (.int .i64 n) tb
  have hmb := h.lt
  have hmw : ¬ mb = W.heap.size := by omega
  have hwm : ¬ W.heap.size = mb := by omega
  go_enter Tryd.func78, Tryd.ntmps78
  go_wp2_with fail
  generalize (W.alloc (.cells #[.int .i64 op, .int .i64 n, tb] 59)) = X at MX y0 y1 y2 hlX ⊢
  obtain ⟨gm, mc, rfl, hgm, hBm, hcm⟩ := row_some MX.rows.2.1 (by omega)
  have k4 := MX.cells.2.2.2.2.1
  have DM := MX.drew
  have HT : Hid (∀ Y, Imp R xs en hs a ea ha ac ec hc w0 mb Y c D here how lv (.slice (some ⟨gm, 0, none⟩) c.M.length mc) tv sv dv → Calls Tryd.prog 105 #[.pointer (some ⟨mb, 0, none⟩)] Y fun e W' => e = .returned (.int .i64 (m : Int)) ∧ (∃ sv', Imp R xs en hs a ea ha ac ec hc w0 mb W' { c with st := c.st.dropLast } D here how lv (.slice (some ⟨gm, 0, none⟩) c.M.length mc) tv sv' dv ∧ sv'.ownBlock = sv.ownBlock) ∧ Y.grownBy W' (some mb)) := fun Y hY => by rw [← ht]; exact iAddr_yes _ _ _ _ _ _ _ _ _ _ _ Y _ _ _ _ _ _ _ _ _ hY h0 h9 (by omega)
  clear ht h y0 y1 y2 h16
  go_region_with (first | (go_at_call 105; refine (HT.out _ (by first | exact MX | exact DM)).mono ?_; rintro e X2 ⟨rfl, ⟨sv2, M2, _⟩, g2⟩; (try simp only [] at M2); have k42 := M2.cells.2.2.2.2.1; have kl2 := row_cell M2.rows.2.1 hu; clear g2) | (go_at_call 101; refine (iPut_any _ _ _ _ _ _ _ _ _ _ _ _ _ _ _ _ _ _ _ _ _ M2 (by simp only [List.length_dropLast]; omega) u).mono ?_; rintro e X4 ⟨rfl, sv4, M4⟩; have H4 := hid M4; clear M4))
  all_goals
    go_wp2
    exact bodyPost_end (v := .tuple #[]) (by simp [results, Tryd.results78, go_sem]) rfl ⟨rfl, _, _, _, _, H4.out⟩

set_option maxHeartbeats 1000000 in
/-- WLoad, where there is no such address -/
theorem doLoad_no {R : List OR} (xs : List Stp) (en hs : List Int) (a ea ha : Option Addr) (ac ec hc : Nat) (w0 : World) (mb : Nat) (W : World) (c : Cf) (D : List Int) (here how : Int) (lv mv tv sv dv : Value) (h : Imp R xs en hs a ea ha ac ec hc w0 mb W c D here how lv mv tv sv dv) (op n : Int) (tb : Value) (u : TypeId) (pv : Value) (h5 : 5 < w0.heap.size) (he : w0.cell? ⟨5, 0, none⟩ = some (.iface u pv)) (h16 : c.M.length = 16) (h9 : c.st.length ≤ 9) (h0 : 0 < c.st.length) (ht : ¬ top c.st < 16) :
    Calls Tryd.prog 78 #[.pointer (some ⟨mb, 0, none⟩), .agg #[.int .i64 op, .int .i64 n, tb]] W fun e W' => Gave R xs en hs a ea ha ac ec hc w0 mb D here how dv u pv c e W' := by
  obtain ⟨MX, y0, y1, y2, hlX⟩ := h.box (.int .i64 op) (.int .i64 n) tb
  have hmb := h.lt
  have hmw : ¬ mb = W.heap.size := by omega
  have hwm : ¬ W.heap.size = mb := by omega
  go_enter Tryd.func78, Tryd.ntmps78
  go_wp2_with fail
  generalize (W.alloc (.cells #[.int .i64 op, .int .i64 n, tb] 59)) = X at MX y0 y1 y2 hlX ⊢
  obtain ⟨gm, mc, rfl, hgm, hBm, hcm⟩ := row_some MX.rows.2.1 (by omega)
  have k4 := MX.cells.2.2.2.2.1
  have DM := MX.drew
  have HT : Hid (∀ Y, Imp R xs en hs a ea ha ac ec hc w0 mb Y c D here how lv (.slice (some ⟨gm, 0, none⟩) c.M.length mc) tv sv dv → Calls Tryd.prog 105 #[.pointer (some ⟨mb, 0, none⟩)] Y fun e W' => Gave R xs en hs a ea ha ac ec hc w0 mb D here how dv u pv c e W') := fun Y hY => iAddr_no _ _ _ _ _ _ _ _ _ _ _ Y _ _ _ _ _ _ _ _ _ hY u pv h5 he h0 h9 (by omega)
  clear ht h y0 y1 y2 h16
  go_region_dies
  all_goals
    refine (HT.out _ (by first | exact MX | exact DM)).mono ?_
    rintro e X2 ⟨rfl, st2, lv2, mv2, tv2, sv2, M2⟩
    exact ⟨rfl, rfl, _, _, _, _, _, M2⟩
end

section
open Go.RowKit
set_option linter.unusedVariables false
set_option linter.unusedSimpArgs false
set_option maxRecDepth 100000

set_option maxHeartbeats 1000000 in
/-- WOut, where there is no room -/
theorem doOut_no {R : List OR} (xs : List Stp) (en hs : List Int) (a ea ha : Option Addr) (ac ec hc : Nat) (w0 : World) (mb : Nat) (W : World) (c : Cf) (D : List Int) (here how : Int) (lv mv tv sv dv : Value) (h : Imp R xs en hs a ea ha ac ec hc w0 mb W c D here how lv mv tv sv dv) (op n : Int) (tb : Value) (u : TypeId) (pv : Value) (h5 : 5 < w0.heap.size) (he : w0.cell? ⟨5, 0, none⟩ = some (.iface u pv)) (ht : ¬ c.T.length < 100) :
    Calls Tryd.prog 80 #[.pointer (some ⟨mb, 0, none⟩), .agg #[.int .i64 op, .int .i64 n, tb]] W fun e W' => Gave R xs en hs a ea ha ac ec hc w0 mb D here how dv u pv c e W' := by
  have ho : ∀ Y, Y.cell? ⟨5, 0, none⟩ = some (.iface u pv) → Calls Tryd.prog 104 #[.bool (decide ((c.T.length : Int) < 100))] Y fun e w' => e = .panicked [{ v := .iface u pv, recovered := false }] ∧ w' = Y := fun Y hY => by rw [decide_eq_false (show ¬ (c.T.length : Int) < 100 by omega)]; exact orTrap_no Y u pv hY
  have k5 := h.cells.2.2.2.2.2.1
  obtain ⟨ta, tc, rfl⟩ := slice_of_owned h.rows.2.2.1
  obtain ⟨MX, y0, y1, y2, hlX⟩ := h.box (.int .i64 op) (.int .i64 n) tb
  have hmb := h.lt
  have hmw : ¬ mb = W.heap.size := by omega
  have hwm : ¬ W.heap.size = mb := by omega
  go_enter Tryd.func80, Tryd.ntmps80
  go_wp2_with fail
  generalize (W.alloc (.cells #[.int .i64 op, .int .i64 n, tb] 59)) = X at MX y0 y1 y2 hlX ⊢
  refine (ho X (MX.err h5 he)).mono ?_
  rintro e w' ⟨rfl, hw'⟩
  subst w'
  exact ⟨rfl, rfl, c.st, _, _, _, _, MX⟩

set_option maxHeartbeats 1000000 in
/-- WOut -/
theorem doOut_yes {R : List OR} (xs : List Stp) (en hs : List Int) (a ea ha : Option Addr) (ac ec hc : Nat) (w0 : World) (mb : Nat) (W : World) (c : Cf) (D : List Int) (here how : Int) (lv mv tv sv dv : Value) (h : Imp R xs en hs a ea ha ac ec hc w0 mb W c D here how lv mv tv sv dv) (op n : Int) (tb : Value) (h0 : 0 < c.st.length) (h9 : c.st.length ≤ 9) (ht : c.T.length < 100) :
    Calls Tryd.prog 80 #[.pointer (some ⟨mb, 0, none⟩), .agg #[.int .i64 op, .int .i64 n, tb]] W fun e W' => Done R xs en hs a ea ha ac ec hc w0 mb D here how dv { c with st := c.st.dropLast, T := c.T ++ [top c.st] } e W' := by
  have htI : (c.T.length : Int) < 100 := by omega
  have k5 := h.cells.2.2.2.2.2.1
  obtain ⟨z, hz⟩ : ∃ z, top c.st = z := ⟨_, rfl⟩
  rw [hz]
  obtain ⟨ta, tc, rfl⟩ := slice_of_owned h.rows.2.2.1
  obtain ⟨MX, y0, y1, y2, hlX⟩ := h.box (.int .i64 op) (.int .i64 n) tb
  have hmb := h.lt
  have hmw : ¬ mb = W.heap.size := by omega
  have hwm : ¬ W.heap.size = mb := by omega
  go_enter Tryd.func80, Tryd.ntmps80
  go_wp2_with (go_at_call 104; refine (orTrap_yes _).mono ?_; rintro e w' ⟨rfl, hw'⟩; subst w')
  generalize (W.alloc (.cells #[.int .i64 op, .int .i64 n, tb] 59)) = X at MX y0 y1 y2 hlX ⊢
  clear k5 y0 y1 y2 h
  have k5 := MX.cells.2.2.2.2.2.1
  have DM := MX.drew
  obtain ⟨i3, hi3, hz30, hz31, hz32⟩ := info_parts info3
  have HT : Hid (∀ Y, Imp R xs en hs a ea ha ac ec hc w0 mb Y c D here how lv mv (.slice ta c.T.length tc) sv dv → Calls Tryd.prog 102 #[.pointer (some ⟨mb, 0, none⟩)] Y fun e W' => e = .returned (.int .i64 z) ∧ (∃ sv', Imp R xs en hs a ea ha ac ec hc w0 mb W' { c with st := c.st.dropLast } D here how lv mv (.slice ta c.T.length tc) sv' dv ∧ sv'.ownBlock = sv.ownBlock) ∧ Y.grownBy W' (some mb)) := fun Y hY => by rw [← hz]; exact iTake_any _ _ _ _ _ _ _ _ _ _ _ Y _ _ _ _ _ _ _ _ _ hY h0 h9
  clear hz
  go_region_law (first
    | (refine step_append_lies _ (by rfl) _ _ _ (by rfl) w0.heap.size 3 i3 _ 1 8 Tryd.underlying23 hi3 hz30 hz31 hz32 rfl (by omega) _ _ _ (by rfl) (R2.alloc _)
        ⟨X2.heap.size, 0, none⟩ 1 1 [.int .i64 z] (by rfl) (by rfl) (news_at0 X2 _ 3) (by simp [Value.oneCell'])
        (by omega) (by unfold maxLen; omega) (by omega) (by simp; omega) (X2.heap.size + 1) (by simp) ?_; intro g cap w1 hown1 hgrow hat hlt1; obtain ⟨HMP, k51, f51, m51⟩ := H2.out.pushT (below1 X2 _) hown1 hgrow hat (by omega); have H3 := hid HMP; clear hown1 hgrow hat hlt1 HMP)
    | (go_simp; go_at_call 102; refine (HT.out _ (by first | exact MX | exact DM)).mono ?_; rintro e X2 ⟨rfl, ⟨sv2, M2, _⟩, g2⟩; have k52 := M2.cells.2.2.2.2.2.1; have hl2 := M2.lt; have R2 : X2.ownsRow w0.heap.size 3 1 (.slice ta c.T.length tc) c.T.length (ints c.T) := M2.rows.2.2.1; have H2 := hid M2; clear M2 g2))
  all_goals
    go_wp2
    exact bodyPost_end (v := .tuple #[]) (by simp [results, Tryd.results80, go_sem]) rfl ⟨rfl, _, _, _, _, H3.out⟩
end

section
open Go.RowKit
set_option linter.unusedVariables false
set_option linter.unusedSimpArgs false
set_option maxRecDepth 100000

set_option maxHeartbeats 1000000 in
/-- the program's otherwise -/
theorem otherwise_any (en : List Int) (ea : Option Addr) (ec : Nat) (W : World) (k p : Nat) (hR : Row W ea en) (hk : en[k]? = some (p : Int)) (hkp : k < p) (hp : p ≤ en.length) (h60 : p ≤ 60) :
    Calls Tryd.prog 106 #[.slice ea en.length ec, .int .i64 k] W fun e W' => e = .returned (.int .i64 (oth en k + 1 : Nat)) ∧ W' = W := by
  obtain ⟨eb', eoff, rfl, hec⟩ : ∃ eb' eoff, ea = some ⟨eb', eoff, none⟩ ∧ ∀ i v, en[i]? = some v → W.cell? ⟨eb', eoff + i, none⟩ = some (.int .i64 v) := by
    rcases hR with h0 | ⟨b1, o1, rfl, hc1⟩
    · rw [h0] at hk; simp at hk
    · exact ⟨b1, o1, rfl, fun i v hv => by have := hc1 i (List.getElem?_eq_some_iff.1 hv).1; rw [hv] at this; exact this⟩
  have HEC := hid hec
  have ck := hec k _ hk
  have hkn : k < en.length := by omega
  have hel : (k : Int) < en.length := by omega
  have HO := hid (oth_eq hk)
  clear hec hk
  go_enter Tryd.func106, Tryd.ntmps106
  go_wp2
  go_loop [1] (fun t => ∃ (j : Nat), t = .int .i64 j ∧ k < j ∧ j ≤ p ∧ othN en p (p - (k + 1)) (k + 1) = othN en p (p - j) j) (fun t => p - (intOf t).toNat)
  case atStart => exact ⟨k + 1, by go_num, by omega, by omega, rfl⟩
  case round =>
    obtain ⟨j, rfl, hkj, hjp, ho⟩ := hrel
    have HOJ := hid ho
    clear ho
    by_cases hlt : j < p
    · obtain ⟨v, hv⟩ : ∃ v, en[j]? = some v := ⟨_, List.getElem?_eq_getElem (by omega)⟩
      have cj := HEC.out j v hv
      have hjl : j < en.length := by omega
      have hjI : (j : Int) < en.length := by omega
      by_cases hvp : v = (p : Int)
      · subst hvp
        have HF : Hid (oth en k = j) := by show _ = _; rw [HO.out, HOJ.out, othN_hit (by rw [hv]; rfl)]
        clear HOJ HO hv
        go_wp2
        go_ret
        exact ⟨ret_int2 (by rw [HF.out]), rfl⟩
      · have HF : Hid (othN en p (p - (k + 1)) (k + 1) = othN en p (p - (j + 1)) (j + 1)) := by
          show _ = _
          rw [HOJ.out]
          obtain ⟨f, hf⟩ : ∃ f, p - j = f + 1 := ⟨p - j - 1, by omega⟩
          rw [hf, othN_miss (by rw [hv]; exact hvp), show p - (j + 1) = f by omega]
        have hvp' : (v == (p : Int)) = false := by simpa using hvp
        clear HOJ hv
        go_wp2
        go_round
        case rel => exact ⟨j + 1, by go_num, by omega, by omega, HF.out⟩
        case measure => simp [intOf]; omega
    · obtain rfl : j = p := by omega
      have HF : Hid (oth en k = j) := by show _ = _; rw [HO.out, HOJ.out]; simp [othN]
      clear HOJ
      go_wp2
      go_ret
      exact ⟨ret_int2 (by rw [HF.out]), rfl⟩

set_option maxHeartbeats 1000000 in
/-- WElse -/
theorem doElse_any {R : List OR} (xs : List Stp) (en hs : List Int) (a ea ha : Option Addr) (ac ec hc : Nat) (w0 : World) (mb : Nat) (W : World) (c : Cf) (D : List Int) (here how : Int) (lv mv tv sv dv : Value) (h : Imp R xs en hs a ea ha ac ec hc w0 mb W c D here how lv mv tv sv dv) (op n : Int) (tb : Value) (hR : Row w0 ea en) (k p : Nat) (hh : here = k) (hk : en[k]? = some (p : Int)) (h60 : p ≤ 60) :
    Calls Tryd.prog 85 #[.pointer (some ⟨mb, 0, none⟩), .agg #[.int .i64 op, .int .i64 n, tb]] W fun e W' => Done R xs en hs a ea ha ac ec hc w0 mb D here how dv { c with pc := p + 1 } e W' := by
  subst hh
  have hkn : k < en.length := (List.getElem?_eq_some_iff.1 hk).1
  have hel : (k : Int) < en.length := by omega
  obtain ⟨MX, y0, y1, y2, hlX⟩ := h.box (.int .i64 op) (.int .i64 n) tb
  have hmb := h.lt
  have hmw : ¬ mb = W.heap.size := by omega
  have hwm : ¬ W.heap.size = mb := by omega
  go_enter Tryd.func85, Tryd.ntmps85
  go_wp2_with fail
  generalize (W.alloc (.cells #[.int .i64 op, .int .i64 n, tb] 59)) = X at MX y0 y1 y2 hlX ⊢
  obtain ⟨eb', eoff, rfl, ck⟩ : ∃ eb' eoff, ea = some ⟨eb', eoff, none⟩ ∧ X.cell? ⟨eb', eoff + k, none⟩ = some (.int .i64 (p : Int)) := by
    rcases hR.below MX.bel with h0 | ⟨b1, o1, rfl, hc1⟩
    · rw [h0] at hk; simp at hk
    · exact ⟨b1, o1, rfl, by have := hc1 k hkn; rw [hk] at this; exact this⟩
  have k1 := MX.cells.2.1
  have k7 := MX.cells.2.2.2.2.2.2.2.1
  have k8 := MX.cells.2.2.2.2.2.2.2.2.1
  have f8 := MX.frz 8
  have hmX := MX.lt.2
  have e1 : (((p + 1 : Nat)) : Int) = (p : Int) + 1 := by simp
  have H2 := hid (MX.drew.setPc (p + 1))
  have HE1 := hid e1
  clear MX h y0 y1 y2 hk e1
  go_region
  all_goals
    go_wp2
    exact bodyPost_end (v := .tuple #[]) (by simp [results, Tryd.results85, go_sem]) rfl ⟨rfl, _, _, _, _, by have := H2.out; rw [HE1.out] at this; exact this⟩

set_option maxHeartbeats 1000000 in
/-- WIf, where it goes on -/
theorem doIf_one {R : List OR} (xs : List Stp) (en hs : List Int) (a ea ha : Option Addr) (ac ec hc : Nat) (w0 : World) (mb : Nat) (W : World) (c : Cf) (D : List Int) (here how : Int) (lv mv tv sv dv : Value) (h : Imp R xs en hs a ea ha ac ec hc w0 mb W c D here how lv mv tv sv dv) (op n : Int) (tb : Value) (h0 : 0 < c.st.length) (h9 : c.st.length ≤ 9) (hz : ¬ top c.st = 0) :
    Calls Tryd.prog 84 #[.pointer (some ⟨mb, 0, none⟩), .agg #[.int .i64 op, .int .i64 n, tb]] W fun e W' => Done R xs en hs a ea ha ac ec hc w0 mb D here how dv { c with st := c.st.dropLast } e W' := by
  obtain ⟨MX, y0, y1, y2, hlX⟩ := h.box (.int .i64 op) (.int .i64 n) tb
  have hmb := h.lt
  have hmw : ¬ mb = W.heap.size := by omega
  have hwm : ¬ W.heap.size = mb := by omega
  go_enter Tryd.func84, Tryd.ntmps84
  go_wp2_with fail
  generalize (W.alloc (.cells #[.int .i64 op, .int .i64 n, tb] 59)) = X at MX y0 y1 y2 hlX ⊢
  refine (iTake_any _ _ _ _ _ _ _ _ _ _ _ X _ _ _ _ _ _ _ _ _ MX h0 h9).mono ?_
  rintro e X2 ⟨rfl, ⟨sv2, M2, eb2⟩, g2⟩
  obtain ⟨z, hzz⟩ : ∃ z, top c.st = z := ⟨_, rfl⟩
  rw [hzz] at hz ⊢
  have hz' : (z == 0) = false := by simpa using hz
  have H2 := hid M2
  clear M2 MX h y0 y1 y2 g2 eb2 hzz
  go_wp2
  exact bodyPost_end (v := .tuple #[]) (by simp [results, Tryd.results84, go_sem]) rfl ⟨rfl, _, _, _, _, H2.out⟩

set_option maxHeartbeats 1000000 in
/-- WIf, where it does not -/
theorem doIf_zero {R : List OR} (xs : List Stp) (en hs : List Int) (a ea ha : Option Addr) (ac ec hc : Nat) (w0 : World) (mb : Nat) (W : World) (c : Cf) (D : List Int) (here how : Int) (lv mv tv sv dv : Value) (h : Imp R xs en hs a ea ha ac ec hc w0 mb W c D here how lv mv tv sv dv) (op n : Int) (tb : Value) (h0 : 0 < c.st.length) (h9 : c.st.length ≤ 9) (hz : top c.st = 0) (hR : Row w0 ea en) (k p : Nat) (hh : here = k) (hk : en[k]? = some (p : Int)) (hkp : k < p) (hp : p ≤ en.length) (h60 : p ≤ 60) :
    Calls Tryd.prog 84 #[.pointer (some ⟨mb, 0, none⟩), .agg #[.int .i64 op, .int .i64 n, tb]] W fun e W' => Done R xs en hs a ea ha ac ec hc w0 mb D here how dv { c with pc := oth en k + 1, st := c.st.dropLast } e W' := by
  subst hh
  obtain ⟨MX, y0, y1, y2, hlX⟩ := h.box (.int .i64 op) (.int .i64 n) tb
  have hmb := h.lt
  have hmw : ¬ mb = W.heap.size := by omega
  have hwm : ¬ W.heap.size = mb := by omega
  go_enter Tryd.func84, Tryd.ntmps84
  go_wp2_with fail
  generalize (W.alloc (.cells #[.int .i64 op, .int .i64 n, tb] 59)) = X at MX y0 y1 y2 hlX ⊢
  refine (iTake_any _ _ _ _ _ _ _ _ _ _ _ X _ _ _ _ _ _ _ _ _ MX h0 h9).mono ?_
  rintro e X2 ⟨rfl, ⟨sv2, M2, eb2⟩, g2⟩
  try simp only [] at M2
  rw [hz]
  obtain ⟨r, hr⟩ : ∃ r, oth en k + 1 = r := ⟨_, rfl⟩
  have ho : Hid (∀ Y, Below w0.heap.size w0 Y → Calls Tryd.prog 106 #[.slice ea en.length ec, .int .i64 k] Y fun e W' => e = .returned (.int .i64 (r : Int)) ∧ W' = Y) := fun Y hY => by have := otherwise_any en ea ec Y k p (hR.below hY) hk hkp hp h60; rw [hr] at this; exact this
  have k1 := M2.cells.2.1
  have k7 := M2.cells.2.2.2.2.2.2.2.1
  have k8 := M2.cells.2.2.2.2.2.2.2.2.1
  have f8 := M2.frz 8
  have hmX := M2.lt.2
  have B2 := M2.bel
  have B2d := M2.drew.bel
  have H2 := hid (M2.drew.setPc r)
  have HR := hid hr
  clear M2 MX h y0 y1 y2 g2 eb2 hz hk hr hR hkp hp h60
  go_wp2_with fail
  go_region_with (go_at_call 106; refine (ho.out _ (by first | exact B2 | exact B2d)).mono ?_; rintro e w' ⟨rfl, hw'⟩; subst w')
  all_goals
    go_wp2
    exact bodyPost_end (v := .tuple #[]) (by simp [results, Tryd.results84, go_sem]) rfl ⟨rfl, _, _, _, _, by rw [HR.out]; exact H2.out⟩
end

section
open Go.RowKit
set_option linter.unusedVariables false
set_option linter.unusedSimpArgs false
set_option maxRecDepth 100000

theorem Imp.setS0 {R : List OR} {xs : List Stp} {en hs : List Int} {a ea ha : Option Addr} {ac ec hc : Nat} {w0 : World} {mb : Nat} {W : World} {c : Cf} {D : List Int} {here how : Int} {lv mv tv dv : Value} (h : Imp R xs en hs a ea ha ac ec hc w0 mb W c D here how lv mv tv (.slice none 0 0) dv) (h0 : c.st.length = 0) : Imp R xs en hs a ea ha ac ec hc w0 mb (W.setCell ⟨mb, 6, none⟩ (.slice none 0 0)) c D here how lv mv tv (.slice none 0 0) dv := by
  have := h.sep.put [] 6 (.slice none 0 0)
  exact ⟨this.1, h.bel.trans this.2⟩

set_option maxHeartbeats 4000000 in
/-- the program's leave -/
theorem iLeave_any {R : List OR} (xs : List Stp) (en hs : List Int) (a ea ha : Option Addr) (ac ec hc : Nat) (w0 : World) (mb : Nat) (W : World) (c : Cf) (D : List Int) (here how : Int) (lv mv tv sv dv : Value) (h : Imp R xs en hs a ea ha ac ec hc w0 mb W c D here how lv mv tv sv dv) (hT : TRow w0 a xs) (hTb : Tab w0) (hH : Row w0 ha hs) (hl : xs.length ≤ 60) (hhl : hs.length ≤ 61) (k : Nat) (hh : here = k) (dep q b : Nat) (hq : targetO xs k dep = some (q : Int)) (hqh : hs[q]? = some (b : Int)) (hb : b ≤ c.st.length) (h9 : c.st.length ≤ 9) :
    Calls Tryd.prog 107 #[.pointer (some ⟨mb, 0, none⟩), .int .i64 dep] W fun e W' => Done R xs en hs a ea ha ac ec hc w0 mb D here how dv { c with pc := q, st := c.st.take b } e W' := by
  subst hh
  obtain ⟨hb', hoff, rfl, hcell⟩ : ∃ hb' hoff, ha = some ⟨hb', hoff, none⟩ ∧ w0.cell? ⟨hb', hoff + q, none⟩ = some (.int .i64 b) := by
    rcases hH with h0 | ⟨b1, o1, rfl, hc1⟩
    · rw [h0] at hqh; simp at hqh
    · have hql := (List.getElem?_eq_some_iff.1 hqh).1
      have := hc1 q hql
      rw [hqh] at this
      exact ⟨b1, o1, rfl, this⟩
  have hql := (List.getElem?_eq_some_iff.1 hqh).1
  have hbw : hb' < w0.heap.size := World.block_lt_of_cell? w0 _ hcell
  have HG : Hid (∀ Y, Imp R xs en hs a ea (some ⟨hb', hoff, none⟩) ac ec hc w0 mb Y c D k how lv mv tv sv dv → Calls Tryd.prog 109 #[.slice a xs.length ac, .int .i64 k, .int .i64 dep] Y fun e Y' => e = .returned (.tuple #[.int .i64 (q : Int), .bool true]) ∧ Imp R xs en hs a ea (some ⟨hb', hoff, none⟩) ac ec hc w0 mb Y' c D k how lv mv tv sv dv) := fun Y hY => by
    have h1 := iTarget_any a ac xs k dep Y (by omega) (hT.below hY.bel) (hTb.below hY.bel)
    rw [hq] at h1
    exact h1.mono fun e w' ⟨h2, h3⟩ => ⟨h2, hY.below h3⟩
  have c0 := h.cells.1
  have c7 := h.cells.2.2.2.2.2.2.2.1
  have hlt := h.lt
  have DM := h.drew
  have HW0 := hid hcell
  have hq60 : q ≤ 60 := by omega
  have hqI : (q : Int) < hs.length := by omega
  have hne : ¬ hb' = mb := by omega
  have hne' : ¬ mb = hb' := by omega
  clear hT hTb hcell hqh hl hq
  go_enter Tryd.func107, Tryd.ntmps107
  go_wp2_with fail
  go_region_with (go_at_call 109; refine (HG.out _ (by first | exact DM | exact h)).mono ?_; rintro e X2 ⟨rfl, M2⟩; have k8 := M2.cells.2.2.2.2.2.2.2.2.1; have f8 := M2.frz 8; have hl2 := M2.lt.2; have H2 := hid (M2.setPc q); clear M2)
  all_goals
    have H3 := H2.out
    have hcX : (X2.setCell ⟨mb, 8, none⟩ (.int .i64 q)).cell? ⟨hb', hoff + q, none⟩ = some (.int .i64 b) := by rw [H3.bel.cell (p := ⟨hb', hoff + q, none⟩) hbw]; exact HW0.out
    clear h DM c0 c7 k8 f8 hl2 H2 HG
    generalize (X2.setCell ⟨mb, 8, none⟩ (.int .i64 q)) = X at H3 hcX ⊢
    have k2 := H3.cells.2.2.1
    have k6 := H3.cells.2.2.2.2.2.2.1
    have k8 := H3.cells.2.2.2.2.2.2.2.2.1
    have f6 := H3.frz 6
    have hlX := H3.lt.2
    rcases H3.rows.2.2.2.1.2 with ⟨rfl, h0⟩ | ⟨g, cap, cur, rfl, hB, hg, hcap, hm, hsz, htk⟩
    · have hb0 : b = 0 := by simp only [] at h0; omega
      subst hb0
      have hst : c.st = [] := List.eq_nil_of_length_eq_zero h0
      have HN := hid (H3.drew.setS0 h0)
      have HM := hid (show Imp R xs en hs a ea (some ⟨hb', hoff, none⟩) ac ec hc w0 mb (X.drew.setCell ⟨mb, 6, none⟩ (.slice none 0 0)) { c with pc := q, st := c.st.take 0 } D k how lv mv tv (.slice none 0 0) dv by
        have := HN.out
        simpa [hst] using this)
      clear H3 h0 hst HN hb h9
      go_wp2
      go_region
      all_goals
        go_wp2
        exact bodyPost_end (v := .tuple #[]) (by simp [results, Tryd.results107, go_sem]) rfl ⟨rfl, _, _, _, _, HM.out⟩
    · have HM := hid (H3.drew.cutSt (m := b) hb)
      have hn : c.st.length ≤ cap := hcap
      have hbI : (b : Int) ≤ cap := by omega
      have hbn : b ≤ cap := by omega
      clear hg hm hsz htk H3 hcap
      go_wp2
      go_region
      all_goals
        go_wp2
        exact bodyPost_end (v := .tuple #[]) (by simp [results, Tryd.results107, go_sem]) rfl ⟨rfl, _, _, _, _, HM.out⟩
end

section
open Go.RowKit
set_option linter.unusedVariables false
set_option linter.unusedSimpArgs false
set_option maxRecDepth 100000

set_option maxHeartbeats 1000000 in
/-- WBr -/
theorem doBr_any {R : List OR} (xs : List Stp) (en hs : List Int) (a ea ha : Option Addr) (ac ec hc : Nat) (w0 : World) (mb : Nat) (W : World) (c : Cf) (D : List Int) (here how : Int) (lv mv tv sv dv : Value) (h : Imp R xs en hs a ea ha ac ec hc w0 mb W c D here how lv mv tv sv dv) (op : Int) (tb : Value) (hT : TRow w0 a xs) (hTb : Tab w0) (hH : Row w0 ha hs) (hl : xs.length ≤ 60) (hhl : hs.length ≤ 61) (k : Nat) (hh : here = k) (dep q b : Nat) (hq : targetO xs k dep = some (q : Int)) (hqh : hs[q]? = some (b : Int)) (h9 : c.st.length ≤ 9) (hb : b ≤ c.st.length) :
    Calls Tryd.prog 86 #[.pointer (some ⟨mb, 0, none⟩), .agg #[.int .i64 op, .int .i64 (dep : Int), tb]] W fun e W' => Done R xs en hs a ea ha ac ec hc w0 mb D here how dv { c with pc := q, st := c.st.take b } e W' := by
  obtain ⟨MX, y0, y1, y2, hlX⟩ := h.box (.int .i64 op) (.int .i64 (dep : Int)) tb
  have hmb := h.lt
  have hmw : ¬ mb = W.heap.size := by omega
  have hwm : ¬ W.heap.size = mb := by omega
  go_enter Tryd.func86, Tryd.ntmps86
  go_wp2_with fail
  generalize (W.alloc (.cells #[.int .i64 op, .int .i64 (dep : Int), tb] 59)) = X at MX y0 y1 y2 hlX ⊢
  refine (iLeave_any _ _ _ _ _ _ _ _ _ _ _ X _ _ _ _ _ _ _ _ _ MX hT hTb hH hl hhl k hh dep q b hq hqh hb h9).mono ?_
  rintro e X2 ⟨rfl, lv2, mv2, tv2, sv2, M2⟩
  have H2 := hid M2
  clear M2 MX h y0 y1 y2
  go_wp2
  exact bodyPost_end (v := .tuple #[]) (by simp [results, Tryd.results86, go_sem]) rfl ⟨rfl, _, _, _, _, H2.out⟩

set_option maxHeartbeats 1000000 in
/-- WBrIf, where it goes on -/
theorem doBrIf_zero {R : List OR} (xs : List Stp) (en hs : List Int) (a ea ha : Option Addr) (ac ec hc : Nat) (w0 : World) (mb : Nat) (W : World) (c : Cf) (D : List Int) (here how : Int) (lv mv tv sv dv : Value) (h : Imp R xs en hs a ea ha ac ec hc w0 mb W c D here how lv mv tv sv dv) (op : Int) (tb : Value) (dep : Nat) (h0 : 0 < c.st.length) (h9 : c.st.length ≤ 9) (hz : top c.st = 0) :
    Calls Tryd.prog 87 #[.pointer (some ⟨mb, 0, none⟩), .agg #[.int .i64 op, .int .i64 (dep : Int), tb]] W fun e W' => Done R xs en hs a ea ha ac ec hc w0 mb D here how dv { c with st := c.st.dropLast } e W' := by
  obtain ⟨MX, y0, y1, y2, hlX⟩ := h.box (.int .i64 op) (.int .i64 (dep : Int)) tb
  have hmb := h.lt
  have hmw : ¬ mb = W.heap.size := by omega
  have hwm : ¬ W.heap.size = mb := by omega
  go_enter Tryd.func87, Tryd.ntmps87
  go_wp2_with fail
  generalize (W.alloc (.cells #[.int .i64 op, .int .i64 (dep : Int), tb] 59)) = X at MX y0 y1 y2 hlX ⊢
  refine (iTake_any _ _ _ _ _ _ _ _ _ _ _ X _ _ _ _ _ _ _ _ _ MX h0 h9).mono ?_
  rintro e X2 ⟨rfl, ⟨sv2, M2, eb2⟩, g2⟩
  rw [hz]
  have H2 := hid M2
  clear M2 MX h y0 y1 y2 g2 eb2 hz
  go_wp2
  exact bodyPost_end (v := .tuple #[]) (by simp [results, Tryd.results87, go_sem]) rfl ⟨rfl, _, _, _, _, H2.out⟩

set_option maxHeartbeats 1000000 in
/-- WBrIf, where it leaves -/
theorem doBrIf_one {R : List OR} (xs : List Stp) (en hs : List Int) (a ea ha : Option Addr) (ac ec hc : Nat) (w0 : World) (mb : Nat) (W : World) (c : Cf) (D : List Int) (here how : Int) (lv mv tv sv dv : Value) (h : Imp R xs en hs a ea ha ac ec hc w0 mb W c D here how lv mv tv sv dv) (op : Int) (tb : Value) (hT : TRow w0 a xs) (hTb : Tab w0) (hH : Row w0 ha hs) (hl : xs.length ≤ 60) (hhl : hs.length ≤ 61) (k : Nat) (hh : here = k) (dep q b : Nat) (hq : targetO xs k dep = some (q : Int)) (hqh : hs[q]? = some (b : Int)) (h9 : c.st.length ≤ 9) (h0 : 0 < c.st.length) (hz : ¬ top c.st = 0) (hb : b ≤ c.st.dropLast.length) :
    Calls Tryd.prog 87 #[.pointer (some ⟨mb, 0, none⟩), .agg #[.int .i64 op, .int .i64 (dep : Int), tb]] W fun e W' => Done R xs en hs a ea ha ac ec hc w0 mb D here how dv { c with pc := q, st := c.st.dropLast.take b } e W' := by
  obtain ⟨MX, y0, y1, y2, hlX⟩ := h.box (.int .i64 op) (.int .i64 (dep : Int)) tb
  have hmb := h.lt
  have hmw : ¬ mb = W.heap.size := by omega
  have hwm : ¬ W.heap.size = mb := by omega
  go_enter Tryd.func87, Tryd.ntmps87
  go_wp2_with fail
  generalize (W.alloc (.cells #[.int .i64 op, .int .i64 (dep : Int), tb] 59)) = X at MX y0 y1 y2 hlX ⊢
  refine (iTake_any _ _ _ _ _ _ _ _ _ _ _ X _ _ _ _ _ _ _ _ _ MX h0 h9).mono ?_
  rintro e X2 ⟨rfl, ⟨sv2, M2, eb2⟩, g2⟩
  obtain ⟨z, hzz⟩ : ∃ z, top c.st = z := ⟨_, rfl⟩
  rw [hzz] at hz ⊢
  have hz' : (z == 0) = false := by simpa using hz
  have y1' := grown_far g2 y1 (by simp; omega)
  clear MX h y0 y1 y2 g2 eb2 hzz
  go_wp2_with fail
  refine (iLeave_any _ _ _ _ _ _ _ _ _ _ _ X2 _ _ _ _ _ _ _ _ _ M2 hT hTb hH hl hhl k hh dep q b hq hqh hb (by simp only [List.length_dropLast]; omega)).mono ?_
  rintro e X3 ⟨rfl, lv3, mv3, tv3, sv3, M3⟩
  have H3 := hid M3
  clear M3 M2
  go_wp2
  exact bodyPost_end (v := .tuple #[]) (by simp [results, Tryd.results87, go_sem]) rfl ⟨rfl, _, _, _, _, H3.out⟩

set_option maxHeartbeats 1000000 in
/-- WTable, within it -/
theorem doTable_in {R : List OR} (xs : List Stp) (en hs : List Int) (a ea ha : Option Addr) (ac ec hc : Nat) (w0 : World) (mb : Nat) (W : World) (c : Cf) (D : List Int) (here how : Int) (lv mv tv sv dv : Value) (h : Imp R xs en hs a ea ha ac ec hc w0 mb W c D here how lv mv tv sv dv) (op n : Int) (ta : Option Addr) (t : List Int) (tc : Nat) (hT : TRow w0 a xs) (hTb : Tab w0) (hH : Row w0 ha hs) (hl : xs.length ≤ 60) (hhl : hs.length ≤ 61) (k : Nat) (hh : here = k) (dep q b : Nat) (hq : targetO xs k dep = some (q : Int)) (hqh : hs[q]? = some (b : Int)) (h9 : c.st.length ≤ 9) (h0 : 0 < c.st.length) (hRT : Row w0 ta t) (m : Nat) (hz : top c.st = m) (hm : t[m]? = some (dep : Int)) (hb : b ≤ c.st.dropLast.length) (ht : t.length ≤ 100) :
    Calls Tryd.prog 88 #[.pointer (some ⟨mb, 0, none⟩), .agg #[.int .i64 op, .int .i64 n, .slice ta t.length tc]] W fun e W' => Done R xs en hs a ea ha ac ec hc w0 mb D here how dv { c with pc := q, st := c.st.dropLast.take b } e W' := by
  obtain ⟨MX, y0, y1, y2, hlX⟩ := h.box (.int .i64 op) (.int .i64 n) (.slice ta t.length tc)
  have hmb := h.lt
  have hmw : ¬ mb = W.heap.size := by omega
  have hwm : ¬ W.heap.size = mb := by omega
  go_enter Tryd.func88, Tryd.ntmps88
  go_wp2_with fail
  generalize (W.alloc (.cells #[.int .i64 op, .int .i64 n, .slice ta t.length tc] 59)) = X at MX y0 y1 y2 hlX ⊢
  refine (iTake_any _ _ _ _ _ _ _ _ _ _ _ X _ _ _ _ _ _ _ _ _ MX h0 h9).mono ?_
  rintro e X2 ⟨rfl, ⟨sv2, M2, eb2⟩, g2⟩
  rw [hz]
  have hml := (List.getElem?_eq_some_iff.1 hm).1
  have hmI : (m : Int) < t.length := by omega
  have y1' := grown_far g2 y1 (by simp; omega)
  have y2' := grown_far g2 y2 (by simp; omega)
  obtain ⟨tbb, toff, rfl, ck⟩ : ∃ tbb toff, ta = some ⟨tbb, toff, none⟩ ∧ X2.cell? ⟨tbb, toff + m, none⟩ = some (.int .i64 (dep : Int)) := by
    rcases hRT.below M2.bel with h0 | ⟨b1, o1, rfl, hc1⟩
    · rw [h0] at hm; simp at hm
    · exact ⟨b1, o1, rfl, by have := hc1 m hml; rw [hm] at this; exact this⟩
  clear MX h y0 y1 y2 g2 eb2 hz hm
  go_wp2_with fail
  refine (iLeave_any _ _ _ _ _ _ _ _ _ _ _ X2 _ _ _ _ _ _ _ _ _ M2 hT hTb hH hl hhl k hh dep q b hq hqh hb (by simp only [List.length_dropLast]; omega)).mono ?_
  rintro e X3 ⟨rfl, lv3, mv3, tv3, sv3, M3⟩
  have H3 := hid M3
  clear M3 M2
  go_wp2
  exact bodyPost_end (v := .tuple #[]) (by simp [results, Tryd.results88, go_sem]) rfl ⟨rfl, _, _, _, _, H3.out⟩

set_option maxHeartbeats 1000000 in
/-- WTable, behind it -/
theorem doTable_out {R : List OR} (xs : List Stp) (en hs : List Int) (a ea ha : Option Addr) (ac ec hc : Nat) (w0 : World) (mb : Nat) (W : World) (c : Cf) (D : List Int) (here how : Int) (lv mv tv sv dv : Value) (h : Imp R xs en hs a ea ha ac ec hc w0 mb W c D here how lv mv tv sv dv) (op n : Int) (ta : Option Addr) (t : List Int) (tc : Nat) (hT : TRow w0 a xs) (hTb : Tab w0) (hH : Row w0 ha hs) (hl : xs.length ≤ 60) (hhl : hs.length ≤ 61) (k : Nat) (hh : here = k) (dep q b : Nat) (hq : targetO xs k dep = some (q : Int)) (hqh : hs[q]? = some (b : Int)) (h9 : c.st.length ≤ 9) (hn : n = dep) (h0 : 0 < c.st.length) (hz : ¬ top c.st < t.length) (hb : b ≤ c.st.dropLast.length) :
    Calls Tryd.prog 88 #[.pointer (some ⟨mb, 0, none⟩), .agg #[.int .i64 op, .int .i64 n, .slice ta t.length tc]] W fun e W' => Done R xs en hs a ea ha ac ec hc w0 mb D here how dv { c with pc := q, st := c.st.dropLast.take b } e W' := by
  subst hn
  obtain ⟨MX, y0, y1, y2, hlX⟩ := h.box (.int .i64 op) (.int .i64 (dep : Int)) (.slice ta t.length tc)
  have hmb := h.lt
  have hmw : ¬ mb = W.heap.size := by omega
  have hwm : ¬ W.heap.size = mb := by omega
  go_enter Tryd.func88, Tryd.ntmps88
  go_wp2_with fail
  generalize (W.alloc (.cells #[.int .i64 op, .int .i64 (dep : Int), .slice ta t.length tc] 59)) = X at MX y0 y1 y2 hlX ⊢
  refine (iTake_any _ _ _ _ _ _ _ _ _ _ _ X _ _ _ _ _ _ _ _ _ MX h0 h9).mono ?_
  rintro e X2 ⟨rfl, ⟨sv2, M2, eb2⟩, g2⟩
  obtain ⟨z, hzz⟩ : ∃ z, top c.st = z := ⟨_, rfl⟩
  rw [hzz] at hz ⊢
  have y1' := grown_far g2 y1 (by simp; omega)
  have y2' := grown_far g2 y2 (by simp; omega)
  clear MX h y0 y1 y2 g2 eb2 hzz
  go_wp2_with fail
  refine (iLeave_any _ _ _ _ _ _ _ _ _ _ _ X2 _ _ _ _ _ _ _ _ _ M2 hT hTb hH hl hhl k hh dep q b hq hqh hb (by simp only [List.length_dropLast]; omega)).mono ?_
  rintro e X3 ⟨rfl, lv3, mv3, tv3, sv3, M3⟩
  have H3 := hid M3
  clear M3 M2
  go_wp2
  exact bodyPost_end (v := .tuple #[]) (by simp [results, Tryd.results88, go_sem]) rfl ⟨rfl, _, _, _, _, H3.out⟩
end

section
open Go.RowKit
set_option linter.unusedVariables false
set_option linter.unusedSimpArgs false
set_option maxRecDepth 100000

/-- the deed of an op -/
def deedN (op : Int) : Nat := [0, 74, 75, 76, 77, 77, 77, 77, 77, 77, 78, 79, 80, 81, 82, 83, 83, 84, 85, 83, 86, 87, 88][op.toNat]?.getD 0
/-- where the way out leads -/
theorem leave_way {xs : List Stp} {en d hs : List Int} {rs : List Bool} (v : Vld xs en d hs rs) {c : Cf} (ok : Okc xs hs rs c) {x : Stp} (hx : xs[c.pc]? = some x) {st : List Int} (hst : wds st) (hlen : (st.length : Int) = (c.st.length : Int) - offN x.1) {dep n : Nat} (hd : d[c.pc]? = some (n : Int)) (hdep : (dep : Int) ≤ n) :
    ∃ q b : Nat, targetO xs c.pc dep = some (q : Int) ∧ hs[q]? = some (b : Int) ∧ b ≤ st.length ∧ leave xs en hs c st dep = { c with pc := q, st := st.take b } := by
  have hpl := (List.getElem?_eq_some_iff.1 hx).1
  obtain ⟨okl, q, bq, q1, q2, q3, q4, q5⟩ := leave_ok v ok hx hst hlen hd hdep
  obtain ⟨b, rfl⟩ := Int.eq_ofNat_of_zero_le q4
  rw [Int.toNat_natCast] at q1
  refine ⟨q, b, ?_, q3, by omega, ?_⟩
  · unfold targetO
    rw [v.nest]
    simp only [Int.toNat_natCast, hd, Option.getD_some]
    rw [if_pos ⟨by omega, by omega, by omega, hdep⟩, q1]
  · unfold leave
    rw [Int.toNat_natCast, q1]
    simp [q3]
/-- how a deed comes out -/
def DeedAns (R : List OR) (xs : List Stp) (en hs : List Int) (a ea ha : Option Addr) (ac ec hc : Nat) (w0 : World) (mb : Nat) (D : List Int) (how : Int) (dv : Value) (u : TypeId) (pv : Value) (c : Cf) (r : Option Cf) (e : Ending) (W : World) : Prop := match r with
  | some c' => Done R xs en hs a ea ha ac ec hc w0 mb D c.pc how dv c' e W
  | none => Gave R xs en hs a ea ha ac ec hc w0 mb D c.pc how dv u pv { c with pc := c.pc + 1 } e W

set_option maxHeartbeats 1000000 in
theorem deed_any {R : List OR} (xs : List Stp) (en d hs : List Int) (rs : List Bool) (a ea ha : Option Addr) (ac ec hc : Nat) (w0 : World) (mb : Nat) (W : World) (c : Cf) (D : List Int) (how : Int) (lv mv tv sv dv : Value) (h : Imp R xs en hs a ea ha ac ec hc w0 mb W { c with pc := c.pc + 1 } D c.pc how lv mv tv sv dv) (v : Vld xs en d hs rs) (ok : Okc xs hs rs c) (hT : TRow w0 a xs) (hR : Row w0 ea en) (hH : Row w0 ha hs) (hTb : Tab w0) (u : TypeId) (pv : Value) (h5 : 5 < w0.heap.size) (he : w0.cell? ⟨5, 0, none⟩ = some (.iface u pv)) (op n : Int) (t : List Int) (hx : xs[c.pc]? = some (op, n, t)) (ta : Option Addr) (tc : Nat) (hRT : Row w0 ta t) :
    Calls Tryd.prog (deedN op) #[.pointer (some ⟨mb, 0, none⟩), .agg #[.int .i64 op, .int .i64 n, .slice ta t.length tc]] W fun e W' => DeedAns R xs en hs a ea ha ac ec hc w0 mb D how dv u pv c (eff xs en hs c (op, n, t)) e W' := by
  have hpl := (List.getElem?_eq_some_iff.1 hx).1
  obtain ⟨l1, l2, l60⟩ := nestO_length v.nest
  have hhl := v.len
  have h4 := ok.le4 v
  have hnd := ok.need v hx
  obtain ⟨dn, hdn⟩ : ∃ m : Nat, d[c.pc]? = some (m : Int) := by obtain ⟨o, _, _, _, m, _, _, h3, _⟩ := ok.tr v hx; exact ⟨m, h3⟩
  have hwd := within_dep v.nest hx hdn
  have hop : 1 ≤ op ∧ op ≤ 22 := by
    have h1 := hwd.1
    simp [oneS, isOpB] at h1
    exact h1.1.1
  have L8 := ok.L8
  have M16 := ok.M16
  have e1 : ((c.pc : Nat) : Int) = c.pc := rfl
  by_cases h1 : op = 1
  · subst h1; rw [eff_1 _ _ _ _ _ rfl]; exact doConst_any _ _ _ _ _ _ _ _ _ _ _ _ _ _ _ _ _ _ _ _ _ h 1 n _ (by simp only []; omega)
  by_cases h2 : op = 2
  · subst h2; rw [eff_2 _ _ _ _ _ rfl]
    have hn8 : 0 ≤ n ∧ n ≤ 7 := by have h1 := hwd.1; simp [oneS, fitsB, mostN] at h1; omega
    obtain ⟨m, rfl⟩ := Int.eq_ofNat_of_zero_le hn8.1
    exact doGet_any _ _ _ _ _ _ _ _ _ _ _ _ _ _ _ _ _ _ _ _ _ h 2 m _ (by simp only []; omega) (by simp only []; omega) L8
  by_cases h3 : op = 3
  · subst h3; rw [eff_3 _ _ _ _ _ rfl]
    have hn8 : 0 ≤ n ∧ n ≤ 7 := by have h1 := hwd.1; simp [oneS, fitsB, mostN] at h1; omega
    obtain ⟨m, rfl⟩ := Int.eq_ofNat_of_zero_le hn8.1
    simp [offN] at hnd
    exact doSet_any _ _ _ _ _ _ _ _ _ _ _ _ _ _ _ _ _ _ _ _ _ h 3 m _ (by simp only []; omega) (by simp only []; omega) (by simp only []; omega) L8
  by_cases hw : 4 ≤ op ∧ op ≤ 9
  · have hd7 : deedN op = 77 := by
      have h6 : op = 4 ∨ op = 5 ∨ op = 6 ∨ op = 7 ∨ op = 8 ∨ op = 9 := by omega
      rcases h6 with rfl | rfl | rfl | rfl | rfl | rfl <;> rfl
    have h2l : 2 ≤ c.st.length := by have := (off_of (op := op)).2.1 hw; simp only [] at hnd; omega
    rw [eff_w _ _ _ _ _ hw, hd7]
    by_cases hb : doB op (top c.st) = true
    · rw [if_pos hb]; exact doTwo_yes _ _ _ _ _ _ _ _ _ _ _ _ _ _ _ _ _ _ _ _ _ h op n _ hw h2l (by simp only []; omega) ok.st hb
    · rw [if_neg hb]; exact doTwo_no _ _ _ _ _ _ _ _ _ _ _ _ _ _ _ _ _ _ _ _ _ h op n _ u pv h5 he hw h2l (by simp only []; omega) ok.st (by simpa using hb)
  by_cases h10 : op = 10
  · subst h10; rw [eff_10 _ _ _ _ _ rfl]
    simp [offN] at hnd
    by_cases hb : top c.st < 16
    · rw [if_pos hb]
      obtain ⟨m, hm⟩ := Int.eq_ofNat_of_zero_le (top_word ok.st).1
      have := doLoad_yes _ _ _ _ _ _ _ _ _ _ _ _ _ _ _ _ _ _ _ _ _ h 10 n (.slice ta t.length tc) M16 (by simp only []; omega) (by simp only []; omega) m hm (by omega)
      rw [hm]
      exact this
    · rw [if_neg hb]; exact doLoad_no _ _ _ _ _ _ _ _ _ _ _ _ _ _ _ _ _ _ _ _ _ h 10 n _ u pv h5 he M16 (by simp only []; omega) (by simp only []; omega) hb
  by_cases h11 : op = 11
  · subst h11; rw [eff_11 _ _ _ _ _ rfl]
    simp [offN] at hnd
    by_cases hb : top c.st.dropLast < 16
    · rw [if_pos hb]
      obtain ⟨m, hm⟩ := Int.eq_ofNat_of_zero_le (top_word (wds_drop ok.st)).1
      have := doStore_yes _ _ _ _ _ _ _ _ _ _ _ _ _ _ _ _ _ _ _ _ _ h 11 n (.slice ta t.length tc) M16 (by simp only []; omega) (by simp only []; omega) m hm (by omega)
      rw [hm]
      exact this
    · rw [if_neg hb]; exact doStore_no _ _ _ _ _ _ _ _ _ _ _ _ _ _ _ _ _ _ _ _ _ h 11 n _ u pv h5 he (by simp only []; omega) (by simp only []; omega) hb
  by_cases h12 : op = 12
  · subst h12; rw [eff_12 _ _ _ _ _ rfl]
    simp [offN] at hnd
    by_cases hb : c.T.length < 100
    · rw [if_pos hb]; exact doOut_yes _ _ _ _ _ _ _ _ _ _ _ _ _ _ _ _ _ _ _ _ _ h 12 n _ (by simp only []; omega) (by simp only []; omega) hb
    · rw [if_neg hb]; exact doOut_no _ _ _ _ _ _ _ _ _ _ _ _ _ _ _ _ _ _ _ _ _ h 12 n _ u pv h5 he hb
  by_cases h13 : op = 13
  · subst h13; rw [eff_13 _ _ _ _ _ rfl]
    simp [offN] at hnd
    exact doDrop_any _ _ _ _ _ _ _ _ _ _ _ _ _ _ _ _ _ _ _ _ _ h 13 n _ (by simp only []; omega) (by simp only []; omega)
  by_cases h14 : op = 14
  · subst h14; rw [eff_14 _ _ _ _ _ rfl]; exact doTrap_any _ _ _ _ _ _ _ _ _ _ _ _ _ _ _ _ _ _ _ _ _ h 14 n _ u pv h5 he
  by_cases h17 : op = 17
  · subst h17; rw [eff_17 _ _ _ _ _ rfl]
    simp [offN] at hnd
    by_cases hb : top c.st = 0
    · rw [if_pos hb]
      obtain ⟨p, pn, pz, hpe, hkp, hpk, hpz, _⟩ := span v.nest hx rfl
      have hpl2 := (List.getElem?_eq_some_iff.1 hpz).1
      exact doIf_zero _ _ _ _ _ _ _ _ _ _ _ _ _ _ _ _ _ _ _ _ _ h 17 n _ (by simp only []; omega) (by simp only []; omega) hb hR c.pc p rfl hpe hkp (by omega) (by omega)
    · rw [if_neg hb]; exact doIf_one _ _ _ _ _ _ _ _ _ _ _ _ _ _ _ _ _ _ _ _ _ h 17 n _ (by simp only []; omega) (by simp only []; omega) hb
  by_cases h18 : op = 18
  · subst h18; rw [eff_18 _ _ _ _ _ rfl]
    obtain ⟨p, hpe, hpn⟩ : ∃ p : Nat, en[c.pc]? = some (p : Int) ∧ p < 60 := by
      obtain ⟨s, p, y, s1, s2, s3, s4, s5, s6⟩ := else_if v.nest hx rfl
      obtain ⟨p', _, z, q1, q2, q3, q4, _⟩ := span v.nest s3 (by rw [s4]; decide)
      have := (List.getElem?_eq_some_iff.1 q4).1
      rw [s5] at q1
      have := Option.some.inj q1
      exact ⟨p, s6, by omega⟩
    have := doElse_any _ _ _ _ _ _ _ _ _ _ _ _ _ _ _ _ _ _ _ _ _ h 18 n (.slice ta t.length tc) hR c.pc p rfl hpe (by omega)
    rw [hpe, Option.getD_some, Int.toNat_natCast]
    exact this
  by_cases h20 : op = 20
  · subst h20; rw [eff_20 _ _ _ _ _ rfl]
    have hn0 : 0 ≤ n ∧ n ≤ 8 := by have h1 := hwd.1; simp [oneS, fitsB, mostN] at h1; omega
    obtain ⟨m, rfl⟩ := Int.eq_ofNat_of_zero_le hn0.1
    obtain ⟨q, b, q1, q2, q3, q4⟩ := leave_way v ok hx ok.st (by simp [offN]) hdn (hwd.2.1 (by simp))
    have := doBr_any _ _ _ _ _ _ _ _ _ _ _ _ _ _ _ _ _ _ _ _ _ h 20 (.slice ta t.length tc) hT hTb hH (by omega) (by omega) c.pc rfl m q b q1 q2 (by simp only []; omega) q3
    simp only [] at q4 ⊢
    rw [q4]
    exact this
  by_cases h21 : op = 21
  · subst h21; rw [eff_21 _ _ _ _ _ rfl]
    simp [offN] at hnd
    have hn0 : 0 ≤ n ∧ n ≤ 8 := by have h1 := hwd.1; simp [oneS, fitsB, mostN] at h1; omega
    obtain ⟨m, rfl⟩ := Int.eq_ofNat_of_zero_le hn0.1
    by_cases hb : top c.st = 0
    · rw [if_pos hb]; exact doBrIf_zero _ _ _ _ _ _ _ _ _ _ _ _ _ _ _ _ _ _ _ _ _ h 21 _ m (by simp only []; omega) (by simp only []; omega) hb
    · rw [if_neg hb]
      obtain ⟨q, b, q1, q2, q3, q4⟩ := leave_way v ok hx (wds_drop ok.st) (st := c.st.dropLast) (by rw [List.length_dropLast]; simp [offN]; omega) hdn (hwd.2.1 (by simp))
      have := doBrIf_one _ _ _ _ _ _ _ _ _ _ _ _ _ _ _ _ _ _ _ _ _ h 21 (.slice ta t.length tc) hT hTb hH (by omega) (by omega) c.pc rfl m q b q1 q2 (by simp only []; omega) (by simp only []; omega) hb q3
      simp only [] at q4 ⊢
      rw [q4]
      exact this
  by_cases h22 : op = 22
  · subst h22; rw [eff_22 _ _ _ _ _ rfl]
    simp [offN] at hnd
    by_cases hb : top c.st < t.length
    · obtain ⟨j, hj⟩ := Int.eq_ofNat_of_zero_le (top_word ok.st).1
      have hjt : j < t.length := by omega
      obtain ⟨z, hz⟩ : ∃ z, t[j]? = some z := ⟨_, List.getElem?_eq_getElem hjt⟩
      have h1 := hwd.1
      simp [oneS, allFit, fitsB, mostN] at h1
      have hz8 := h1.2.2 z (List.mem_of_getElem? hz)
      have hdl := hwd.2.2 z (List.mem_of_getElem? hz)
      obtain ⟨m, rfl⟩ := Int.eq_ofNat_of_zero_le hz8.1
      obtain ⟨q, b, q1, q2, q3, q4⟩ := leave_way v ok hx (wds_drop ok.st) (st := c.st.dropLast) (by rw [List.length_dropLast]; simp [offN]; omega) hdn hdl
      have := doTable_in _ _ _ _ _ _ _ _ _ _ _ _ _ _ _ _ _ _ _ _ _ h 22 n ta t tc hT hTb hH (by omega) (by omega) c.pc rfl m q b q1 q2 (by simp only []; omega) (by simp only []; omega) hRT j hj hz q3 (by omega)
      simp only [] at q4 ⊢
      rw [if_pos hb, hj, Int.toNat_natCast, hz, Option.getD_some, q4]
      exact this
    · have hn0 : 0 ≤ n ∧ n ≤ 8 := by have h1 := hwd.1; simp [oneS, fitsB, mostN] at h1; omega
      obtain ⟨m, rfl⟩ := Int.eq_ofNat_of_zero_le hn0.1
      obtain ⟨q, b, q1, q2, q3, q4⟩ := leave_way v ok hx (wds_drop ok.st) (st := c.st.dropLast) (by rw [List.length_dropLast]; simp [offN]; omega) hdn (hwd.2.1 (by simp))
      have := doTable_out _ _ _ _ _ _ _ _ _ _ _ _ _ _ _ _ _ _ _ _ _ h 22 m ta t tc hT hTb hH (by omega) (by omega) c.pc rfl m q b q1 q2 (by simp only []; omega) rfl (by simp only []; omega) hb q3
      simp only [] at q4 ⊢
      rw [if_neg hb, q4]
      exact this
  have hlast : op = 15 ∨ op = 16 ∨ op = 19 := by omega
  rw [eff_n _ _ _ _ _ hlast]
  have hd83 : deedN op = 83 := by rcases hlast with rfl | rfl | rfl <;> rfl
  rw [hd83]
  exact doNothing_any _ _ _ _ _ _ _ _ _ _ _ _ _ _ _ _ _ _ _ _ _ h op n _
end
end Go.Proofs.YthkkhinmdlmhkaaDoor
