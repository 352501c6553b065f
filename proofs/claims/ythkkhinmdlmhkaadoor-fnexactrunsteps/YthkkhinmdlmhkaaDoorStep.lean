/- What one step makes of the model's machine. -/
import Derived.Test.YthkkhinmdlmhkaaDoorElse
namespace Go.Proofs.YthkkhinmdlmhkaaDoor
open Go.RowKit
set_option linter.unusedVariables false
set_option linter.unusedSimpArgs false
set_option maxRecDepth 100000

theorem news_d (X : World) (v : Value) (t : TypeId) : ∀ j u, [v][j]? = some u → (X.alloc (.cells #[v] t)).drew.cell? ((⟨X.heap.size, 0, none⟩ : Addr).add j) = some u := news_at0 X v t
/-- a machine whose place has moved on, and the step in a box of its own -/
theorem MSp.pre {R : List OR} {xs : List Stp} {en hs : List Int} {a ea ha : Option Addr} {ac ec hc : Nat} {w0 : World} {mb : Nat} {W : World} {c : Cf} {lv mv tv sv : Value} (h : MSp R xs en hs a ea ha ac ec hc w0 mb W c lv mv tv sv) (u0 u1 u2 : Value) :
    MSp R xs en hs a ea ha ac ec hc w0 mb ((W.setCell ⟨mb, 7, none⟩ (.int .i64 ((c.pc : Int) + 1))).alloc (.cells #[u0, u1, u2] 59)) { c with pc := c.pc + 1 } lv mv tv sv ∧ ((W.setCell ⟨mb, 7, none⟩ (.int .i64 ((c.pc : Int) + 1))).alloc (.cells #[u0, u1, u2] 59)).cell? ⟨W.heap.size, 0, none⟩ = some u0 ∧ ((W.setCell ⟨mb, 7, none⟩ (.int .i64 ((c.pc : Int) + 1))).alloc (.cells #[u0, u1, u2] 59)).cell? ⟨W.heap.size, 1, none⟩ = some u1 ∧ ((W.setCell ⟨mb, 7, none⟩ (.int .i64 ((c.pc : Int) + 1))).alloc (.cells #[u0, u1, u2] 59)).cell? ⟨W.heap.size, 2, none⟩ = some u2 ∧ W.heap.size < ((W.setCell ⟨mb, 7, none⟩ (.int .i64 ((c.pc : Int) + 1))).alloc (.cells #[u0, u1, u2] 59)).heap.size := by
  have e : ((c.pc : Int) + 1) = ((c.pc + 1 : Nat) : Int) := by simp
  have hs : (W.setCell ⟨mb, 7, none⟩ (.int .i64 ((c.pc : Int) + 1))).heap.size = W.heap.size := by simp
  have hb := heap_alloc_new (W.setCell ⟨mb, 7, none⟩ (.int .i64 ((c.pc : Int) + 1))) (.cells #[u0, u1, u2] 59)
  rw [hs] at hb
  refine ⟨?_, ?_, ?_, ?_, by simp⟩
  · have := (h.setPc (c.pc + 1)).below (below1 _ (.cells #[u0, u1, u2] 59))
    rw [← e] at this
    exact this
  · rw [Lib.cell_of_heap hb]; rfl
  · rw [Lib.cell_of_heap hb]; rfl
  · rw [Lib.cell_of_heap hb]; rfl
theorem grown_far {w w' : World} {row : Option Nat} {b o : Nat} {v : Value} (hg : w.grownBy w' row) (hc : w.cell? ⟨b, o, none⟩ = some v) (hr : row ≠ some b) : w'.cell? ⟨b, o, none⟩ = some v := hg.cell hc (fun e => hr e.symm)
theorem Okc.le4 {xs : List Stp} {e d hs : List Int} {rs : List Bool} (v : Vld xs e d hs rs) {c : Cf} (k : Okc xs hs rs c) : c.st.length ≤ 4 := by
  obtain ⟨o, h, f, t, q1, q2, q3⟩ := v.at c.pc k.pc
  obtain ⟨n, G, _⟩ := v.good c.pc k.pc t
  have := G.ok.high
  rw [k.ht] at q1
  have := Option.some.inj q1
  omega

set_option maxHeartbeats 4000000 in
theorem sStep1 {R : List OR} (xs : List Stp) (en d hs : List Int) (rs : List Bool) (a ea ha : Option Addr) (ac ec hc : Nat) (w0 : World) (mb : Nat) (W : World) (c : Cf) (lv mv tv sv : Value) (h : MSp R xs en hs a ea ha ac ec hc w0 mb W c lv mv tv sv) (v : Vld xs en d hs rs) (ok : Okc xs hs rs c) (hT : TRow w0 a xs) (hR : Row w0 ea en) (hH : Row w0 ha hs) (n : Int) (t : List Int) (hx : xs[c.pc]? = some (1, n, t)) :
    Calls Tryd.prog 42 #[.pointer (some ⟨mb, 0, none⟩)] W fun e W' => e = .returned (.bool true) ∧ (∃ lv' mv' tv' sv', MSp R xs en hs a ea ha ac ec hc w0 mb W' { c with pc := c.pc + 1, st := c.st ++ [n] } lv' mv' tv' sv') := by
  obtain ⟨c0, c1, c2, c3, c4, c5, c6, c7⟩ := h.cells
  have f7 := h.frz 7
  have hlt := h.lt
  have hpl := (List.getElem?_eq_some_iff.1 hx).1
  obtain ⟨l1, l2, l60⟩ := nestO_length v.nest
  obtain ⟨b, off, rfl, hat⟩ := hT.at (by intro h0; rw [h0] at hpl; simp at hpl)
  obtain ⟨op', n', t', ta, tc, x0, x1, x2, hbw, hts, HTR, HX⟩ := hat W h.bel c.pc hpl
  obtain ⟨e1, e2, e3⟩ : op' = 1 ∧ n' = n ∧ t' = t := by have := HX.out; rw [hx] at this; simpa using this.symm
  subst op'
  subst n'
  subst t'
  have hbb : ¬ b = mb := by omega
  have hbb' : ¬ mb = b := by omega
  have hbW : b < W.heap.size := Nat.lt_of_lt_of_le hbw h.bel.size
  have hp60 : c.pc < 60 := by omega
  have hpI : (c.pc : Int) < xs.length := by omega
  have h4 := ok.le4 v
  have HP := hid (h.pre (.int .i64 1) (.int .i64 n) (.slice ta t.length tc))
  have HOK := hid (And.intro v (And.intro ok (And.intro hT (And.intro hR (And.intro hH hx)))))
  have hmw : ¬ mb = W.heap.size := by omega
  have hwm : ¬ W.heap.size = mb := by omega
  have HSV : Hid (∀ k, sv.ownBlock = some k → k < W.heap.size) := fun k hk => (h.rows.2.2.2.lt k hk).2
  have HTV : Hid (∀ k, tv.ownBlock = some k → k < W.heap.size) := fun k hk => (h.rows.2.2.1.lt k hk).2
  clear c1 c2 c3 c4 c5 c6 h hat HX l1 l2 hT hR hH v
  go_enter Tryd.func42, Tryd.ntmps42
  go_wp2
  obtain ⟨MX, y0, y1, y2, hlX⟩ := HP.out
  generalize ((W.setCell ⟨mb, 7, none⟩ (.int .i64 ((c.pc : Int) + 1))).alloc (.cells #[.int .i64 1, .int .i64 n, .slice ta t.length tc] 59)) = X at MX y0 y1 y2 hlX
  clear c0 c7 f7 x0 x1 x2 HP
  obtain ⟨sa, sc, rfl⟩ := slice_of_owned MX.rows.2.2.2
  have hown : X.ownsRow w0.heap.size 3 1 (.slice sa c.st.length sc) c.st.length (ints c.st) := MX.rows.2.2.2
  have k6 := MX.cells.2.2.2.2.2.2.1
  have hmX := MX.lt.2
  obtain ⟨i3, hi3, hz30, hz31, hz32⟩ := info_parts info3
  have HPU : Hid (∀ w1 g cap, w1.ownsRow w0.heap.size 3 1 (.slice (some ⟨g, 0, none⟩) (c.st.length + 1) cap) (c.st.length + 1) (ints c.st ++ [.int .i64 n]) → ((X.alloc (.cells #[.int .i64 n] 3)).drew).grownBy w1 (Value.slice sa c.st.length sc).ownBlock → ((Value.slice sa c.st.length sc).ownBlock = some g ∨ g = X.heap.size + 1) → Hid (MSp R xs en hs (some ⟨b, off, none⟩) ea ha ac ec hc w0 mb (w1.setCell ⟨mb, 6, none⟩ (.slice (some ⟨g, 0, none⟩) (c.st.length + 1) cap)) { c with pc := c.pc + 1, st := c.st ++ [n] } lv mv tv (.slice (some ⟨g, 0, none⟩) (c.st.length + 1) cap)) ∧ w1.cell? ⟨mb, 6, none⟩ = some (.slice sa c.st.length sc) ∧ w1.frozen? ⟨mb, 6, none⟩ = false ∧ mb < w1.heap.size ∧ w1.cell? ⟨W.heap.size, 0, none⟩ = some (.int .i64 1)) := by
    intro w1 g cap q1 q2 q3
    obtain ⟨z1, z2, z3, z4⟩ := MX.pushSt (below1 X _).drew q1 q2 q3 (by omega)
    refine ⟨z1, z2, z3, z4, grown_far q2 ?_ (fun e => by have := HSV.out _ e; omega)⟩
    have := (below1 X (.cells #[.int .i64 n] 3)).cell (p := ⟨W.heap.size, 0, none⟩) hlX
    exact this.trans y0
  clear MX
  have hin : ∀ w, Calls Tryd.prog 40 #[.int .i64 1, .int .i64 4, .int .i64 9] w fun e w' => e = .returned (.bool false) ∧ w' = w := fun w => l1In_any 1 4 9 w
  go_region_law
    ((refine step_append_lies _ (by rfl) _ _ _ (by rfl) w0.heap.size 3 i3 _ 1 8 Tryd.underlying23 hi3 hz30 hz31 hz32 rfl (by omega) _ _ _ (by rfl) ((hown.alloc _).drew)
        ⟨X.heap.size, 0, none⟩ 1 1 [.int .i64 n] (by rfl) (by rfl) (news_d X _ 3) (by simp [Value.oneCell'])
        (by omega) (by unfold maxLen; omega) (by omega) (by simp; omega) (X.heap.size + 1) (by simp) ?_; intro g cap w1 hown1 hgrow hat hlt1; obtain ⟨HMP, k61, f61, m61, y01⟩ := HPU.out _ _ _ hown1 hgrow hat; clear hown1 hgrow hat hlt1))
  all_goals
    go_wp2_with (go_at_call 40; refine (hin _).mono ?_; rintro e w' ⟨rfl, rfl⟩)
    go_ret
    exact ⟨rfl, _, _, _, _, HMP.out⟩

set_option maxHeartbeats 4000000 in
theorem sStep13 {R : List OR} (xs : List Stp) (en d hs : List Int) (rs : List Bool) (a ea ha : Option Addr) (ac ec hc : Nat) (w0 : World) (mb : Nat) (W : World) (c : Cf) (lv mv tv sv : Value) (h : MSp R xs en hs a ea ha ac ec hc w0 mb W c lv mv tv sv) (v : Vld xs en d hs rs) (ok : Okc xs hs rs c) (hT : TRow w0 a xs) (hR : Row w0 ea en) (hH : Row w0 ha hs) (n : Int) (t : List Int) (hx : xs[c.pc]? = some (13, n, t)) :
    Calls Tryd.prog 42 #[.pointer (some ⟨mb, 0, none⟩)] W fun e W' => e = .returned (.bool true) ∧ (∃ lv' mv' tv' sv', MSp R xs en hs a ea ha ac ec hc w0 mb W' { c with pc := c.pc + 1, st := c.st.dropLast } lv' mv' tv' sv') := by
  obtain ⟨c0, c1, c2, c3, c4, c5, c6, c7⟩ := h.cells
  have f7 := h.frz 7
  have hlt := h.lt
  have hpl := (List.getElem?_eq_some_iff.1 hx).1
  obtain ⟨l1, l2, l60⟩ := nestO_length v.nest
  obtain ⟨b, off, rfl, hat⟩ := hT.at (by intro h0; rw [h0] at hpl; simp at hpl)
  obtain ⟨op', n', t', ta, tc, x0, x1, x2, hbw, hts, HTR, HX⟩ := hat W h.bel c.pc hpl
  obtain ⟨e1, e2, e3⟩ : op' = 13 ∧ n' = n ∧ t' = t := by have := HX.out; rw [hx] at this; simpa using this.symm
  subst op'
  subst n'
  subst t'
  have hbb : ¬ b = mb := by omega
  have hbb' : ¬ mb = b := by omega
  have hbW : b < W.heap.size := Nat.lt_of_lt_of_le hbw h.bel.size
  have hp60 : c.pc < 60 := by omega
  have hpI : (c.pc : Int) < xs.length := by omega
  have h4 := ok.le4 v
  have hnd : 1 ≤ c.st.length := by have := ok.need v hx; simp [offN] at this; omega
  have HP := hid (h.pre (.int .i64 13) (.int .i64 n) (.slice ta t.length tc))
  have HOK := hid (And.intro v (And.intro ok (And.intro hT (And.intro hR (And.intro hH hx)))))
  have hmw : ¬ mb = W.heap.size := by omega
  have hwm : ¬ W.heap.size = mb := by omega
  have HSV : Hid (∀ k, sv.ownBlock = some k → k < W.heap.size) := fun k hk => (h.rows.2.2.2.lt k hk).2
  have HTV : Hid (∀ k, tv.ownBlock = some k → k < W.heap.size) := fun k hk => (h.rows.2.2.1.lt k hk).2
  clear c1 c2 c3 c4 c5 c6 h hat HX l1 l2 hT hR hH v
  go_enter Tryd.func42, Tryd.ntmps42
  have hin : ∀ w, Calls Tryd.prog 40 #[.int .i64 13, .int .i64 4, .int .i64 9] w fun e w' => e = .returned (.bool false) ∧ w' = w := fun w => l1In_any 13 4 9 w
  go_wp2_with fail
  obtain ⟨MX, y0, y1, y2, hlX⟩ := HP.out
  generalize ((W.setCell ⟨mb, 7, none⟩ (.int .i64 ((c.pc : Int) + 1))).alloc (.cells #[.int .i64 13, .int .i64 n, .slice ta t.length tc] 59)) = X at MX y0 y1 y2 hlX
  clear c0 c7 f7 x0 x1 x2 HP
  refine (sPop_any _ _ _ _ _ _ _ _ _ _ _ X _ _ _ _ _ MX (by simp only [List.length_dropLast]; omega) (by simp only [List.length_dropLast]; omega)).mono ?_
  rintro e X2 ⟨rfl, ⟨sv2, MX2, ebX2⟩, g2⟩
  simp only [] at MX2 ⊢
  replace y0 := grown_far g2 y0 (by simp; omega)
  replace y1 := grown_far g2 y1 (by simp; omega)
  replace y2 := grown_far g2 y2 (by simp; omega)
  have hlX2 : W.heap.size < X2.heap.size := Nat.lt_of_lt_of_le hlX g2.size
  have HM := hid MX2
  clear MX2
  go_wp2_with (go_at_call 40; refine (hin _).mono ?_; rintro e w' ⟨rfl, rfl⟩)
  go_ret
  exact ⟨rfl, _, _, _, _, HM.out⟩

set_option maxHeartbeats 4000000 in
theorem sStep15 {R : List OR} (xs : List Stp) (en d hs : List Int) (rs : List Bool) (a ea ha : Option Addr) (ac ec hc : Nat) (w0 : World) (mb : Nat) (W : World) (c : Cf) (lv mv tv sv : Value) (h : MSp R xs en hs a ea ha ac ec hc w0 mb W c lv mv tv sv) (v : Vld xs en d hs rs) (ok : Okc xs hs rs c) (hT : TRow w0 a xs) (hR : Row w0 ea en) (hH : Row w0 ha hs) (n : Int) (t : List Int) (hx : xs[c.pc]? = some (15, n, t)) :
    Calls Tryd.prog 42 #[.pointer (some ⟨mb, 0, none⟩)] W fun e W' => e = .returned (.bool true) ∧ (∃ lv' mv' tv' sv', MSp R xs en hs a ea ha ac ec hc w0 mb W' { c with pc := c.pc + 1 } lv' mv' tv' sv') := by
  obtain ⟨c0, c1, c2, c3, c4, c5, c6, c7⟩ := h.cells
  have f7 := h.frz 7
  have hlt := h.lt
  have hpl := (List.getElem?_eq_some_iff.1 hx).1
  obtain ⟨l1, l2, l60⟩ := nestO_length v.nest
  obtain ⟨b, off, rfl, hat⟩ := hT.at (by intro h0; rw [h0] at hpl; simp at hpl)
  obtain ⟨op', n', t', ta, tc, x0, x1, x2, hbw, hts, HTR, HX⟩ := hat W h.bel c.pc hpl
  obtain ⟨e1, e2, e3⟩ : op' = 15 ∧ n' = n ∧ t' = t := by have := HX.out; rw [hx] at this; simpa using this.symm
  subst op'
  subst n'
  subst t'
  have hbb : ¬ b = mb := by omega
  have hbb' : ¬ mb = b := by omega
  have hbW : b < W.heap.size := Nat.lt_of_lt_of_le hbw h.bel.size
  have hp60 : c.pc < 60 := by omega
  have hpI : (c.pc : Int) < xs.length := by omega
  have h4 := ok.le4 v
  have HP := hid (h.pre (.int .i64 15) (.int .i64 n) (.slice ta t.length tc))
  have HOK := hid (And.intro v (And.intro ok (And.intro hT (And.intro hR (And.intro hH hx)))))
  have hmw : ¬ mb = W.heap.size := by omega
  have hwm : ¬ W.heap.size = mb := by omega
  have HSV : Hid (∀ k, sv.ownBlock = some k → k < W.heap.size) := fun k hk => (h.rows.2.2.2.lt k hk).2
  have HTV : Hid (∀ k, tv.ownBlock = some k → k < W.heap.size) := fun k hk => (h.rows.2.2.1.lt k hk).2
  clear c1 c2 c3 c4 c5 c6 h hat HX l1 l2 hT hR hH v
  go_enter Tryd.func42, Tryd.ntmps42
  have hin : ∀ w, Calls Tryd.prog 40 #[.int .i64 15, .int .i64 4, .int .i64 9] w fun e w' => e = .returned (.bool false) ∧ w' = w := fun w => l1In_any 15 4 9 w
  obtain ⟨MX, y0, y1, y2, hlX⟩ := HP.out
  have HM := hid MX
  clear MX HP
  go_wp2_with (go_at_call 40; refine (hin _).mono ?_; rintro e w' ⟨rfl, rfl⟩)
  go_ret
  exact ⟨rfl, _, _, _, _, HM.out⟩

set_option maxHeartbeats 4000000 in
theorem sStep16 {R : List OR} (xs : List Stp) (en d hs : List Int) (rs : List Bool) (a ea ha : Option Addr) (ac ec hc : Nat) (w0 : World) (mb : Nat) (W : World) (c : Cf) (lv mv tv sv : Value) (h : MSp R xs en hs a ea ha ac ec hc w0 mb W c lv mv tv sv) (v : Vld xs en d hs rs) (ok : Okc xs hs rs c) (hT : TRow w0 a xs) (hR : Row w0 ea en) (hH : Row w0 ha hs) (n : Int) (t : List Int) (hx : xs[c.pc]? = some (16, n, t)) :
    Calls Tryd.prog 42 #[.pointer (some ⟨mb, 0, none⟩)] W fun e W' => e = .returned (.bool true) ∧ (∃ lv' mv' tv' sv', MSp R xs en hs a ea ha ac ec hc w0 mb W' { c with pc := c.pc + 1 } lv' mv' tv' sv') := by
  obtain ⟨c0, c1, c2, c3, c4, c5, c6, c7⟩ := h.cells
  have f7 := h.frz 7
  have hlt := h.lt
  have hpl := (List.getElem?_eq_some_iff.1 hx).1
  obtain ⟨l1, l2, l60⟩ := nestO_length v.nest
  obtain ⟨b, off, rfl, hat⟩ := hT.at (by intro h0; rw [h0] at hpl; simp at hpl)
  obtain ⟨op', n', t', ta, tc, x0, x1, x2, hbw, hts, HTR, HX⟩ := hat W h.bel c.pc hpl
  obtain ⟨e1, e2, e3⟩ : op' = 16 ∧ n' = n ∧ t' = t := by have := HX.out; rw [hx] at this; simpa using this.symm
  subst op'
  subst n'
  subst t'
  have hbb : ¬ b = mb := by omega
  have hbb' : ¬ mb = b := by omega
  have hbW : b < W.heap.size := Nat.lt_of_lt_of_le hbw h.bel.size
  have hp60 : c.pc < 60 := by omega
  have hpI : (c.pc : Int) < xs.length := by omega
  have h4 := ok.le4 v
  have HP := hid (h.pre (.int .i64 16) (.int .i64 n) (.slice ta t.length tc))
  have HOK := hid (And.intro v (And.intro ok (And.intro hT (And.intro hR (And.intro hH hx)))))
  have hmw : ¬ mb = W.heap.size := by omega
  have hwm : ¬ W.heap.size = mb := by omega
  have HSV : Hid (∀ k, sv.ownBlock = some k → k < W.heap.size) := fun k hk => (h.rows.2.2.2.lt k hk).2
  have HTV : Hid (∀ k, tv.ownBlock = some k → k < W.heap.size) := fun k hk => (h.rows.2.2.1.lt k hk).2
  clear c1 c2 c3 c4 c5 c6 h hat HX l1 l2 hT hR hH v
  go_enter Tryd.func42, Tryd.ntmps42
  have hin : ∀ w, Calls Tryd.prog 40 #[.int .i64 16, .int .i64 4, .int .i64 9] w fun e w' => e = .returned (.bool false) ∧ w' = w := fun w => l1In_any 16 4 9 w
  obtain ⟨MX, y0, y1, y2, hlX⟩ := HP.out
  have HM := hid MX
  clear MX HP
  go_wp2_with (go_at_call 40; refine (hin _).mono ?_; rintro e w' ⟨rfl, rfl⟩)
  go_ret
  exact ⟨rfl, _, _, _, _, HM.out⟩

set_option maxHeartbeats 4000000 in
theorem sStep19 {R : List OR} (xs : List Stp) (en d hs : List Int) (rs : List Bool) (a ea ha : Option Addr) (ac ec hc : Nat) (w0 : World) (mb : Nat) (W : World) (c : Cf) (lv mv tv sv : Value) (h : MSp R xs en hs a ea ha ac ec hc w0 mb W c lv mv tv sv) (v : Vld xs en d hs rs) (ok : Okc xs hs rs c) (hT : TRow w0 a xs) (hR : Row w0 ea en) (hH : Row w0 ha hs) (n : Int) (t : List Int) (hx : xs[c.pc]? = some (19, n, t)) :
    Calls Tryd.prog 42 #[.pointer (some ⟨mb, 0, none⟩)] W fun e W' => e = .returned (.bool true) ∧ (∃ lv' mv' tv' sv', MSp R xs en hs a ea ha ac ec hc w0 mb W' { c with pc := c.pc + 1 } lv' mv' tv' sv') := by
  obtain ⟨c0, c1, c2, c3, c4, c5, c6, c7⟩ := h.cells
  have f7 := h.frz 7
  have hlt := h.lt
  have hpl := (List.getElem?_eq_some_iff.1 hx).1
  obtain ⟨l1, l2, l60⟩ := nestO_length v.nest
  obtain ⟨b, off, rfl, hat⟩ := hT.at (by intro h0; rw [h0] at hpl; simp at hpl)
  obtain ⟨op', n', t', ta, tc, x0, x1, x2, hbw, hts, HTR, HX⟩ := hat W h.bel c.pc hpl
  obtain ⟨e1, e2, e3⟩ : op' = 19 ∧ n' = n ∧ t' = t := by have := HX.out; rw [hx] at this; simpa using this.symm
  subst op'
  subst n'
  subst t'
  have hbb : ¬ b = mb := by omega
  have hbb' : ¬ mb = b := by omega
  have hbW : b < W.heap.size := Nat.lt_of_lt_of_le hbw h.bel.size
  have hp60 : c.pc < 60 := by omega
  have hpI : (c.pc : Int) < xs.length := by omega
  have h4 := ok.le4 v
  have HP := hid (h.pre (.int .i64 19) (.int .i64 n) (.slice ta t.length tc))
  have HOK := hid (And.intro v (And.intro ok (And.intro hT (And.intro hR (And.intro hH hx)))))
  have hmw : ¬ mb = W.heap.size := by omega
  have hwm : ¬ W.heap.size = mb := by omega
  have HSV : Hid (∀ k, sv.ownBlock = some k → k < W.heap.size) := fun k hk => (h.rows.2.2.2.lt k hk).2
  have HTV : Hid (∀ k, tv.ownBlock = some k → k < W.heap.size) := fun k hk => (h.rows.2.2.1.lt k hk).2
  clear c1 c2 c3 c4 c5 c6 h hat HX l1 l2 hT hR hH v
  go_enter Tryd.func42, Tryd.ntmps42
  have hin : ∀ w, Calls Tryd.prog 40 #[.int .i64 19, .int .i64 4, .int .i64 9] w fun e w' => e = .returned (.bool false) ∧ w' = w := fun w => l1In_any 19 4 9 w
  obtain ⟨MX, y0, y1, y2, hlX⟩ := HP.out
  have HM := hid MX
  clear MX HP
  go_wp2_with (go_at_call 40; refine (hin _).mono ?_; rintro e w' ⟨rfl, rfl⟩)
  go_ret
  exact ⟨rfl, _, _, _, _, HM.out⟩

set_option maxHeartbeats 4000000 in
theorem sTrap14 {R : List OR} (xs : List Stp) (en d hs : List Int) (rs : List Bool) (a ea ha : Option Addr) (ac ec hc : Nat) (w0 : World) (mb : Nat) (W : World) (c : Cf) (lv mv tv sv : Value) (h : MSp R xs en hs a ea ha ac ec hc w0 mb W c lv mv tv sv) (v : Vld xs en d hs rs) (ok : Okc xs hs rs c) (hT : TRow w0 a xs) (hR : Row w0 ea en) (hH : Row w0 ha hs) (n : Int) (t : List Int) (hx : xs[c.pc]? = some (14, n, t)) :
    Calls Tryd.prog 42 #[.pointer (some ⟨mb, 0, none⟩)] W fun e W' => e = .returned (.bool false) ∧ (∃ c' lv' mv' tv' sv', MSp R xs en hs a ea ha ac ec hc w0 mb W' c' lv' mv' tv' sv' ∧ c'.L = c.L ∧ c'.M = c.M ∧ c'.T = c.T) := by
  obtain ⟨c0, c1, c2, c3, c4, c5, c6, c7⟩ := h.cells
  have f7 := h.frz 7
  have hlt := h.lt
  have hpl := (List.getElem?_eq_some_iff.1 hx).1
  obtain ⟨l1, l2, l60⟩ := nestO_length v.nest
  obtain ⟨b, off, rfl, hat⟩ := hT.at (by intro h0; rw [h0] at hpl; simp at hpl)
  obtain ⟨op', n', t', ta, tc, x0, x1, x2, hbw, hts, HTR, HX⟩ := hat W h.bel c.pc hpl
  obtain ⟨e1, e2, e3⟩ : op' = 14 ∧ n' = n ∧ t' = t := by have := HX.out; rw [hx] at this; simpa using this.symm
  subst op'
  subst n'
  subst t'
  have hbb : ¬ b = mb := by omega
  have hbb' : ¬ mb = b := by omega
  have hbW : b < W.heap.size := Nat.lt_of_lt_of_le hbw h.bel.size
  have hp60 : c.pc < 60 := by omega
  have hpI : (c.pc : Int) < xs.length := by omega
  have h4 := ok.le4 v
  have HP := hid (h.pre (.int .i64 14) (.int .i64 n) (.slice ta t.length tc))
  have HOK := hid (And.intro v (And.intro ok (And.intro hT (And.intro hR (And.intro hH hx)))))
  have hmw : ¬ mb = W.heap.size := by omega
  have hwm : ¬ W.heap.size = mb := by omega
  have HSV : Hid (∀ k, sv.ownBlock = some k → k < W.heap.size) := fun k hk => (h.rows.2.2.2.lt k hk).2
  have HTV : Hid (∀ k, tv.ownBlock = some k → k < W.heap.size) := fun k hk => (h.rows.2.2.1.lt k hk).2
  clear c1 c2 c3 c4 c5 c6 h hat HX l1 l2 hT hR hH v
  go_enter Tryd.func42, Tryd.ntmps42
  obtain ⟨MX, y0, y1, y2, hlX⟩ := HP.out
  have HM := hid MX
  clear MX HP
  go_wp2
  go_ret
  exact ⟨rfl, _, _, _, _, _, HM.out, rfl, rfl, rfl⟩

set_option maxHeartbeats 4000000 in
theorem sStep2 {R : List OR} (xs : List Stp) (en d hs : List Int) (rs : List Bool) (a ea ha : Option Addr) (ac ec hc : Nat) (w0 : World) (mb : Nat) (W : World) (c : Cf) (lv mv tv sv : Value) (h : MSp R xs en hs a ea ha ac ec hc w0 mb W c lv mv tv sv) (v : Vld xs en d hs rs) (ok : Okc xs hs rs c) (hT : TRow w0 a xs) (hR : Row w0 ea en) (hH : Row w0 ha hs) (n : Int) (t : List Int) (hx : xs[c.pc]? = some (2, n, t)) :
    Calls Tryd.prog 42 #[.pointer (some ⟨mb, 0, none⟩)] W fun e W' => e = .returned (.bool true) ∧ (∃ lv' mv' tv' sv', MSp R xs en hs a ea ha ac ec hc w0 mb W' { c with pc := c.pc + 1, st := c.st ++ [c.L[n.toNat]?.getD 0] } lv' mv' tv' sv') := by
  obtain ⟨c0, c1, c2, c3, c4, c5, c6, c7⟩ := h.cells
  have f7 := h.frz 7
  have hlt := h.lt
  have hpl := (List.getElem?_eq_some_iff.1 hx).1
  obtain ⟨l1, l2, l60⟩ := nestO_length v.nest
  obtain ⟨b, off, rfl, hat⟩ := hT.at (by intro h0; rw [h0] at hpl; simp at hpl)
  obtain ⟨op', n', t', ta, tc, x0, x1, x2, hbw, hts, HTR, HX⟩ := hat W h.bel c.pc hpl
  obtain ⟨e1, e2, e3⟩ : op' = 2 ∧ n' = n ∧ t' = t := by have := HX.out; rw [hx] at this; simpa using this.symm
  subst op'
  subst n'
  subst t'
  have hbb : ¬ b = mb := by omega
  have hbb' : ¬ mb = b := by omega
  have hbW : b < W.heap.size := Nat.lt_of_lt_of_le hbw h.bel.size
  have hp60 : c.pc < 60 := by omega
  have hpI : (c.pc : Int) < xs.length := by omega
  have h4 := ok.le4 v
  have hn8 : 0 ≤ n ∧ n ≤ 7 := by
    obtain ⟨_, hd⟩ : ∃ m : Nat, d[c.pc]? = some (m : Int) := by obtain ⟨o, _, _, _, m, _, _, h3, _⟩ := ok.tr v hx; exact ⟨m, h3⟩
    have h1 := (within_dep v.nest hx hd).1
    simp [oneS, fitsB, mostN] at h1
    omega
  obtain ⟨m, rfl⟩ := Int.eq_ofNat_of_zero_le hn8.1
  have hm8 : m < 8 := by omega
  have hmI : (m : Int) < 8 := by omega
  have HP := hid (h.pre (.int .i64 2) (.int .i64 (m : Int)) (.slice ta t.length tc))
  have HOK := hid (And.intro v (And.intro ok (And.intro hT (And.intro hR (And.intro hH hx)))))
  have hmw : ¬ mb = W.heap.size := by omega
  have hwm : ¬ W.heap.size = mb := by omega
  have HSV : Hid (∀ k, sv.ownBlock = some k → k < W.heap.size) := fun k hk => (h.rows.2.2.2.lt k hk).2
  have HTV : Hid (∀ k, tv.ownBlock = some k → k < W.heap.size) := fun k hk => (h.rows.2.2.1.lt k hk).2
  clear c1 c2 c3 c4 c5 c6 h hat HX l1 l2 hT hR hH v
  go_enter Tryd.func42, Tryd.ntmps42
  have hin : ∀ w, Calls Tryd.prog 40 #[.int .i64 2, .int .i64 4, .int .i64 9] w fun e w' => e = .returned (.bool false) ∧ w' = w := fun w => l1In_any 2 4 9 w
  go_wp2
  obtain ⟨MX, y0, y1, y2, hlX⟩ := HP.out
  generalize ((W.setCell ⟨mb, 7, none⟩ (.int .i64 ((c.pc : Int) + 1))).alloc (.cells #[.int .i64 2, .int .i64 (m : Int), .slice ta t.length tc] 59)) = X at MX y0 y1 y2 hlX
  clear c0 c7 f7 x0 x1 x2 HP
  have hL8 : c.L.length = 8 := HOK.out.2.1.L8
  obtain ⟨gl, lc, rfl, hgl, hBl, hcl⟩ := row_some MX.rows.1 (by simp only []; omega)
  obtain ⟨u, hu⟩ : ∃ u, c.L[m]? = some u := ⟨_, List.getElem?_eq_getElem (by omega)⟩
  have kl := row_cell MX.rows.1 hu
  have k3 := MX.cells.2.2.2.1
  have flz := row_frz MX.rows.1 m
  have hgm : ¬ gl = mb := fun e => by
    have := MX.sep.2
    rw [List.pairwise_cons] at this
    rcases this.1 _ (List.mem_cons_self ..) with h1 | h1
    · cases h1
    · exact h1 (by rw [← e]; rfl)
  have hmL : (m : Int) < c.L.length := by omega
  have hmN : m < c.L.length := by omega
  clear hL8
  obtain ⟨sa, sc, rfl⟩ := slice_of_owned MX.rows.2.2.2
  have hown : X.ownsRow w0.heap.size 3 1 (.slice sa c.st.length sc) c.st.length (ints c.st) := MX.rows.2.2.2
  have k6 := MX.cells.2.2.2.2.2.2.1
  have hmX := MX.lt.2
  obtain ⟨i3, hi3, hz30, hz31, hz32⟩ := info_parts info3
  have HPU : Hid (∀ w1 g cap, w1.ownsRow w0.heap.size 3 1 (.slice (some ⟨g, 0, none⟩) (c.st.length + 1) cap) (c.st.length + 1) (ints c.st ++ [.int .i64 u]) → ((X.alloc (.cells #[.int .i64 u] 3)).drew).grownBy w1 (Value.slice sa c.st.length sc).ownBlock → ((Value.slice sa c.st.length sc).ownBlock = some g ∨ g = X.heap.size + 1) → Hid (MSp R xs en hs (some ⟨b, off, none⟩) ea ha ac ec hc w0 mb (w1.setCell ⟨mb, 6, none⟩ (.slice (some ⟨g, 0, none⟩) (c.st.length + 1) cap)) { c with pc := c.pc + 1, st := c.st ++ [u] } (.slice (some ⟨gl, 0, none⟩) c.L.length lc) mv tv (.slice (some ⟨g, 0, none⟩) (c.st.length + 1) cap)) ∧ w1.cell? ⟨mb, 6, none⟩ = some (.slice sa c.st.length sc) ∧ w1.frozen? ⟨mb, 6, none⟩ = false ∧ mb < w1.heap.size ∧ w1.cell? ⟨W.heap.size, 0, none⟩ = some (.int .i64 2)) := by
    intro w1 g cap q1 q2 q3
    obtain ⟨z1, z2, z3, z4⟩ := MX.pushSt (below1 X _).drew q1 q2 q3 (by omega)
    refine ⟨z1, z2, z3, z4, grown_far q2 ?_ (fun e => by have := HSV.out _ e; omega)⟩
    have := (below1 X (.cells #[.int .i64 u] 3)).cell (p := ⟨W.heap.size, 0, none⟩) hlX
    exact this.trans y0
  have HU : Hid (c.L[((m : Int)).toNat]?.getD 0 = u) := by show _ = _; rw [Int.toNat_natCast, hu]; rfl
  clear MX hu
  go_region_law
    ((refine step_append_lies _ (by rfl) _ _ _ (by rfl) w0.heap.size 3 i3 _ 1 8 Tryd.underlying23 hi3 hz30 hz31 hz32 rfl (by omega) _ _ _ (by rfl) ((hown.alloc _).drew)
        ⟨X.heap.size, 0, none⟩ 1 1 [.int .i64 u] (by rfl) (by rfl) (news_d X _ 3) (by simp [Value.oneCell'])
        (by omega) (by unfold maxLen; omega) (by omega) (by simp; omega) (X.heap.size + 1) (by simp) ?_; intro g cap w1 hown1 hgrow hat hlt1; obtain ⟨HMP, k61, f61, m61, y01⟩ := HPU.out _ _ _ hown1 hgrow hat; clear hown1 hgrow hat hlt1))
  all_goals
    go_wp2_with (go_at_call 40; refine (hin _).mono ?_; rintro e w' ⟨rfl, rfl⟩)
    go_ret
    exact ⟨rfl, _, _, _, _, by rw [HU.out]; exact HMP.out⟩
end Go.Proofs.YthkkhinmdlmhkaaDoor
