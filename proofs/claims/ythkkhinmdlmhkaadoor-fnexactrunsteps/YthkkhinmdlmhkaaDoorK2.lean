/- What one step makes of the model's machine: words put to memory and told, two words, ways out. -/
import Derived.Test.YthkkhinmdlmhkaaDoorStep
namespace Go.Proofs.YthkkhinmdlmhkaaDoor
section
open Go.RowKit
set_option linter.unusedVariables false
set_option linter.unusedSimpArgs false
set_option maxRecDepth 100000


set_option maxHeartbeats 4000000 in
theorem sStep11 {R : List OR} (xs : List Stp) (en d hs : List Int) (rs : List Bool) (a ea ha : Option Addr) (ac ec hc : Nat) (w0 : World) (mb : Nat) (W : World) (c : Cf) (lv mv tv sv : Value) (h : MSp R xs en hs a ea ha ac ec hc w0 mb W c lv mv tv sv) (v : Vld xs en d hs rs) (ok : Okc xs hs rs c) (hT : TRow w0 a xs) (hR : Row w0 ea en) (hH : Row w0 ha hs) (n : Int) (t : List Int) (hx : xs[c.pc]? = some (11, n, t)) (hlt16 : top c.st.dropLast < 16) :
    Calls Tryd.prog 42 #[.pointer (some ⟨mb, 0, none⟩)] W fun e W' => e = .returned (.bool true) ∧ (∃ lv' mv' tv' sv', MSp R xs en hs a ea ha ac ec hc w0 mb W' { c with pc := c.pc + 1, st := c.st.dropLast.dropLast, M := c.M.set (top c.st.dropLast).toNat (top c.st) } lv' mv' tv' sv') := by
  obtain ⟨c0, c1, c2, c3, c4, c5, c6, c7⟩ := h.cells
  have f7 := h.frz 7
  have hlt := h.lt
  have hpl := (List.getElem?_eq_some_iff.1 hx).1
  obtain ⟨l1, l2, l60⟩ := nestO_length v.nest
  obtain ⟨b, off, rfl, hat⟩ := hT.at (by intro h0; rw [h0] at hpl; simp at hpl)
  obtain ⟨op', n', t', ta, tc, x0, x1, x2, hbw, hts, HTR, HX⟩ := hat W h.bel c.pc hpl
  obtain ⟨e1, e2, e3⟩ : op' = 11 ∧ n' = n ∧ t' = t := by have := HX.out; rw [hx] at this; simpa using this.symm
  subst op'
  subst n'
  subst t'
  have hbb : ¬ b = mb := by omega
  have hbb' : ¬ mb = b := by omega
  have hbW : b < W.heap.size := Nat.lt_of_lt_of_le hbw h.bel.size
  have hp60 : c.pc < 60 := by omega
  have hpI : (c.pc : Int) < xs.length := by omega
  have h4 := ok.le4 v
  have hnd : 2 ≤ c.st.length := by have := ok.need v hx; simp [offN] at this; omega
  have HP := hid (h.pre (.int .i64 11) (.int .i64 n) (.slice ta t.length tc))
  have htw := top_word (wds_drop ok.st)
  have HOK := hid (And.intro v (And.intro ok (And.intro hT (And.intro hR (And.intro hH hx)))))
  have hmw : ¬ mb = W.heap.size := by omega
  have hwm : ¬ W.heap.size = mb := by omega
  have HSV : Hid (∀ k, sv.ownBlock = some k → k < W.heap.size) := fun k hk => (h.rows.2.2.2.lt k hk).2
  have HTV : Hid (∀ k, tv.ownBlock = some k → k < W.heap.size) := fun k hk => (h.rows.2.2.1.lt k hk).2
  have HMV0 : Hid (∀ k, mv.ownBlock = some k → k < W.heap.size) := fun k hk => (h.rows.2.1.lt k hk).2
  clear c1 c2 c3 c4 c5 c6 h hat HX l1 l2 hT hR hH v
  go_enter Tryd.func42, Tryd.ntmps42
  have hin : ∀ w, Calls Tryd.prog 40 #[.int .i64 11, .int .i64 4, .int .i64 9] w fun e w' => e = .returned (.bool false) ∧ w' = w := fun w => l1In_any 11 4 9 w
  go_wp2_with fail
  obtain ⟨MX, y0, y1, y2, hlX⟩ := HP.out
  generalize ((W.setCell ⟨mb, 7, none⟩ (.int .i64 ((c.pc : Int) + 1))).alloc (.cells #[.int .i64 11, .int .i64 n, .slice ta t.length tc] 59)) = X at MX y0 y1 y2 hlX
  clear c0 c7 f7 x0 x1 x2 HP
  refine (sPop_any _ _ _ _ _ _ _ _ _ _ _ X _ _ _ _ _ MX (by simp only [List.length_dropLast]; omega) (by simp only [List.length_dropLast]; omega)).mono ?_
  rintro e X2 ⟨rfl, ⟨sv2, MX2, ebX2⟩, g2⟩
  simp only [] at MX2 ⊢
  replace y0 := grown_far g2 y0 (by simp; omega)
  replace y1 := grown_far g2 y1 (by simp; omega)
  replace y2 := grown_far g2 y2 (by simp; omega)
  have hlX2 : W.heap.size < X2.heap.size := Nat.lt_of_lt_of_le hlX g2.size
  go_wp2_with fail
  refine (sPop_any _ _ _ _ _ _ _ _ _ _ _ X2 _ _ _ _ _ MX2 (by simp only [List.length_dropLast]; omega) (by simp only [List.length_dropLast]; omega)).mono ?_
  rintro e X3 ⟨rfl, ⟨sv3, MX3, ebX3⟩, g3⟩
  simp only [] at MX3 ⊢
  replace y0 := grown_far g3 y0 (by simp; omega)
  replace y1 := grown_far g3 y1 (by simp; omega)
  replace y2 := grown_far g3 y2 (by simp; omega)
  have hlX3 : W.heap.size < X3.heap.size := Nat.lt_of_lt_of_le hlX2 g3.size
  obtain ⟨m, hm⟩ := Int.eq_ofNat_of_zero_le htw.1
  have HTO := hid hm
  rw [hm] at hlt16 ⊢
  have hm16 : m < 16 := by omega
  clear hm htw
  have hM16 : c.M.length = 16 := HOK.out.2.1.M16
  have HMV : Hid (∀ k, mv.ownBlock = some k → k < W.heap.size) := HMV0
  obtain ⟨gl, lc, rfl, hgl, hBl, hcl⟩ := row_some MX3.rows.2.1 (by simp only []; omega)
  obtain ⟨u, hu⟩ : ∃ u, c.M[m]? = some u := ⟨_, List.getElem?_eq_getElem (by omega)⟩
  have kl := row_cell MX3.rows.2.1 hu
  have k4 := MX3.cells.2.2.2.2.1
  have flz := row_frz MX3.rows.2.1 m
  have hgm : ¬ gl = mb := fun e => by
    have := MX3.sep.2
    rw [List.pairwise_cons] at this
    rcases this.1 _ (List.mem_cons_of_mem _ (List.mem_cons_self ..)) with h1 | h1
    · cases h1
    · exact h1 (by rw [← e]; rfl)
  have hmL : (m : Int) < c.M.length := by omega
  have hmN : m < c.M.length := by omega
  clear hM16
  have HM := hid (MX3.setM m (top c.st))
  have HL2 := hid (show (X3.setCell ⟨gl, m, none⟩ (.int .i64 (top c.st))).cell? ⟨W.heap.size, 0, none⟩ = some (.int .i64 11) by
    have hgw : gl ≠ W.heap.size := fun e => by
      have h1 := HMV.out gl rfl
      omega
    exact (World.cell?_setCell_other X3 _ _ _ (by intro e; cases e; exact hgw rfl)).trans y0)
  obtain ⟨w1, hw1⟩ : ∃ w1, top c.st = w1 := ⟨_, rfl⟩
  rw [hw1] at HM HL2 ⊢
  have HW1 := hid hw1
  have hgw2 : ¬ gl = W.heap.size := fun e => by have h1 := HMV.out gl rfl; omega
  have hgw3 : ¬ W.heap.size = gl := fun e => hgw2 e.symm
  clear hw1 MX3 MX2 MX hu g2 g3 y1 y2
  go_wp2_with (go_at_call 40; refine (hin _).mono ?_; rintro e w' ⟨rfl, rfl⟩)
  go_ret
  exact ⟨rfl, _, _, _, _, by rw [HTO.out, Int.toNat_natCast, HW1.out]; exact HM.out⟩

set_option maxHeartbeats 4000000 in
theorem sTrap11 {R : List OR} (xs : List Stp) (en d hs : List Int) (rs : List Bool) (a ea ha : Option Addr) (ac ec hc : Nat) (w0 : World) (mb : Nat) (W : World) (c : Cf) (lv mv tv sv : Value) (h : MSp R xs en hs a ea ha ac ec hc w0 mb W c lv mv tv sv) (v : Vld xs en d hs rs) (ok : Okc xs hs rs c) (hT : TRow w0 a xs) (hR : Row w0 ea en) (hH : Row w0 ha hs) (n : Int) (t : List Int) (hx : xs[c.pc]? = some (11, n, t)) (hlt16 : ¬ top c.st.dropLast < 16) :
    Calls Tryd.prog 42 #[.pointer (some ⟨mb, 0, none⟩)] W fun e W' => e = .returned (.bool false) ∧ (∃ c' lv' mv' tv' sv', MSp R xs en hs a ea ha ac ec hc w0 mb W' c' lv' mv' tv' sv' ∧ c'.L = c.L ∧ c'.M = c.M ∧ c'.T = c.T) := by
  obtain ⟨c0, c1, c2, c3, c4, c5, c6, c7⟩ := h.cells
  have f7 := h.frz 7
  have hlt := h.lt
  have hpl := (List.getElem?_eq_some_iff.1 hx).1
  obtain ⟨l1, l2, l60⟩ := nestO_length v.nest
  obtain ⟨b, off, rfl, hat⟩ := hT.at (by intro h0; rw [h0] at hpl; simp at hpl)
  obtain ⟨op', n', t', ta, tc, x0, x1, x2, hbw, hts, HTR, HX⟩ := hat W h.bel c.pc hpl
  obtain ⟨e1, e2, e3⟩ : op' = 11 ∧ n' = n ∧ t' = t := by have := HX.out; rw [hx] at this; simpa using this.symm
  subst op'
  subst n'
  subst t'
  have hbb : ¬ b = mb := by omega
  have hbb' : ¬ mb = b := by omega
  have hbW : b < W.heap.size := Nat.lt_of_lt_of_le hbw h.bel.size
  have hp60 : c.pc < 60 := by omega
  have hpI : (c.pc : Int) < xs.length := by omega
  have h4 := ok.le4 v
  have hnd : 2 ≤ c.st.length := by have := ok.need v hx; simp [offN] at this; omega
  have HP := hid (h.pre (.int .i64 11) (.int .i64 n) (.slice ta t.length tc))
  have HOK := hid (And.intro v (And.intro ok (And.intro hT (And.intro hR (And.intro hH hx)))))
  have hmw : ¬ mb = W.heap.size := by omega
  have hwm : ¬ W.heap.size = mb := by omega
  have HSV : Hid (∀ k, sv.ownBlock = some k → k < W.heap.size) := fun k hk => (h.rows.2.2.2.lt k hk).2
  have HTV : Hid (∀ k, tv.ownBlock = some k → k < W.heap.size) := fun k hk => (h.rows.2.2.1.lt k hk).2
  clear c1 c2 c3 c4 c5 c6 h hat HX l1 l2 hT hR hH v
  go_enter Tryd.func42, Tryd.ntmps42
  go_wp2_with fail
  obtain ⟨MX, y0, y1, y2, hlX⟩ := HP.out
  generalize ((W.setCell ⟨mb, 7, none⟩ (.int .i64 ((c.pc : Int) + 1))).alloc (.cells #[.int .i64 11, .int .i64 n, .slice ta t.length tc] 59)) = X at MX y0 y1 y2 hlX
  clear c0 c7 f7 x0 x1 x2 HP
  refine (sPop_any _ _ _ _ _ _ _ _ _ _ _ X _ _ _ _ _ MX (by simp only [List.length_dropLast]; omega) (by simp only [List.length_dropLast]; omega)).mono ?_
  rintro e X2 ⟨rfl, ⟨sv2, MX2, ebX2⟩, g2⟩
  simp only [] at MX2 ⊢
  replace y0 := grown_far g2 y0 (by simp; omega)
  replace y1 := grown_far g2 y1 (by simp; omega)
  replace y2 := grown_far g2 y2 (by simp; omega)
  have hlX2 : W.heap.size < X2.heap.size := Nat.lt_of_lt_of_le hlX g2.size
  go_wp2_with fail
  refine (sPop_any _ _ _ _ _ _ _ _ _ _ _ X2 _ _ _ _ _ MX2 (by simp only [List.length_dropLast]; omega) (by simp only [List.length_dropLast]; omega)).mono ?_
  rintro e X3 ⟨rfl, ⟨sv3, MX3, ebX3⟩, g3⟩
  simp only [] at MX3 ⊢
  replace y0 := grown_far g3 y0 (by simp; omega)
  replace y1 := grown_far g3 y1 (by simp; omega)
  replace y2 := grown_far g3 y2 (by simp; omega)
  have hlX3 : W.heap.size < X3.heap.size := Nat.lt_of_lt_of_le hlX2 g3.size
  have HM := hid MX3
  clear MX3 MX2 MX g2 g3
  generalize top c.st.dropLast = w1 at hlt16 ⊢
  go_wp2
  go_ret
  first | exact ⟨rfl, _, _, _, _, _, HM.out, rfl, rfl, rfl⟩ | exact ⟨rfl, _, ⟨_, _, _, _, HM.out⟩, rfl, rfl, rfl⟩

set_option maxHeartbeats 4000000 in
theorem sTrap12 {R : List OR} (xs : List Stp) (en d hs : List Int) (rs : List Bool) (a ea ha : Option Addr) (ac ec hc : Nat) (w0 : World) (mb : Nat) (W : World) (c : Cf) (lv mv tv sv : Value) (h : MSp R xs en hs a ea ha ac ec hc w0 mb W c lv mv tv sv) (v : Vld xs en d hs rs) (ok : Okc xs hs rs c) (hT : TRow w0 a xs) (hR : Row w0 ea en) (hH : Row w0 ha hs) (n : Int) (t : List Int) (hx : xs[c.pc]? = some (12, n, t)) (h100 : ¬ c.T.length < 100) :
    Calls Tryd.prog 42 #[.pointer (some ⟨mb, 0, none⟩)] W fun e W' => e = .returned (.bool false) ∧ (∃ c' lv' mv' tv' sv', MSp R xs en hs a ea ha ac ec hc w0 mb W' c' lv' mv' tv' sv' ∧ c'.L = c.L ∧ c'.M = c.M ∧ c'.T = c.T) := by
  obtain ⟨c0, c1, c2, c3, c4, c5, c6, c7⟩ := h.cells
  have f7 := h.frz 7
  have hlt := h.lt
  have hpl := (List.getElem?_eq_some_iff.1 hx).1
  obtain ⟨l1, l2, l60⟩ := nestO_length v.nest
  obtain ⟨b, off, rfl, hat⟩ := hT.at (by intro h0; rw [h0] at hpl; simp at hpl)
  obtain ⟨op', n', t', ta, tc, x0, x1, x2, hbw, hts, HTR, HX⟩ := hat W h.bel c.pc hpl
  obtain ⟨e1, e2, e3⟩ : op' = 12 ∧ n' = n ∧ t' = t := by have := HX.out; rw [hx] at this; simpa using this.symm
  subst op'
  subst n'
  subst t'
  have hbb : ¬ b = mb := by omega
  have hbb' : ¬ mb = b := by omega
  have hbW : b < W.heap.size := Nat.lt_of_lt_of_le hbw h.bel.size
  have hp60 : c.pc < 60 := by omega
  have hpI : (c.pc : Int) < xs.length := by omega
  have h4 := ok.le4 v
  have HP := hid (h.pre (.int .i64 12) (.int .i64 n) (.slice ta t.length tc))
  have HOK := hid (And.intro v (And.intro ok (And.intro hT (And.intro hR (And.intro hH hx)))))
  have hmw : ¬ mb = W.heap.size := by omega
  have hwm : ¬ W.heap.size = mb := by omega
  have HSV : Hid (∀ k, sv.ownBlock = some k → k < W.heap.size) := fun k hk => (h.rows.2.2.2.lt k hk).2
  have HTV : Hid (∀ k, tv.ownBlock = some k → k < W.heap.size) := fun k hk => (h.rows.2.2.1.lt k hk).2
  clear c1 c2 c3 c4 c5 c6 h hat HX l1 l2 hT hR hH v
  go_enter Tryd.func42, Tryd.ntmps42
  obtain ⟨MX, y0, y1, y2, hlX⟩ := HP.out
  obtain ⟨ta2, tc2, rfl⟩ := slice_of_owned MX.rows.2.2.1
  have hT : (c.T.length : Int) = 100 := by have := HOK.out.2.1.T100; omega
  have k5 := MX.cells.2.2.2.2.2.1
  have HM := hid MX
  simp only [] at k5
  obtain ⟨nT, hnT⟩ : ∃ nT, c.T.length = nT := ⟨_, rfl⟩
  rw [hnT] at k5 hT
  obtain rfl : nT = 100 := by omega
  clear MX HP HTV h100 hnT hT
  go_wp2
  go_ret
  first | exact ⟨rfl, _, _, _, _, _, HM.out, rfl, rfl, rfl⟩ | exact ⟨rfl, _, ⟨_, _, _, _, HM.out⟩, rfl, rfl, rfl⟩

set_option maxHeartbeats 4000000 in
theorem sStep12 {R : List OR} (xs : List Stp) (en d hs : List Int) (rs : List Bool) (a ea ha : Option Addr) (ac ec hc : Nat) (w0 : World) (mb : Nat) (W : World) (c : Cf) (lv mv tv sv : Value) (h : MSp R xs en hs a ea ha ac ec hc w0 mb W c lv mv tv sv) (v : Vld xs en d hs rs) (ok : Okc xs hs rs c) (hT : TRow w0 a xs) (hR : Row w0 ea en) (hH : Row w0 ha hs) (n : Int) (t : List Int) (hx : xs[c.pc]? = some (12, n, t)) (h100 : c.T.length < 100) :
    Calls Tryd.prog 42 #[.pointer (some ⟨mb, 0, none⟩)] W fun e W' => e = .returned (.bool true) ∧ (∃ lv' mv' tv' sv', MSp R xs en hs a ea ha ac ec hc w0 mb W' { c with pc := c.pc + 1, st := c.st.dropLast, T := c.T ++ [top c.st] } lv' mv' tv' sv') := by
  obtain ⟨c0, c1, c2, c3, c4, c5, c6, c7⟩ := h.cells
  have f7 := h.frz 7
  have hlt := h.lt
  have hpl := (List.getElem?_eq_some_iff.1 hx).1
  obtain ⟨l1, l2, l60⟩ := nestO_length v.nest
  obtain ⟨b, off, rfl, hat⟩ := hT.at (by intro h0; rw [h0] at hpl; simp at hpl)
  obtain ⟨op', n', t', ta, tc, x0, x1, x2, hbw, hts, HTR, HX⟩ := hat W h.bel c.pc hpl
  obtain ⟨e1, e2, e3⟩ : op' = 12 ∧ n' = n ∧ t' = t := by have := HX.out; rw [hx] at this; simpa using this.symm
  subst op'
  subst n'
  subst t'
  have hbb : ¬ b = mb := by omega
  have hbb' : ¬ mb = b := by omega
  have hbW : b < W.heap.size := Nat.lt_of_lt_of_le hbw h.bel.size
  have hp60 : c.pc < 60 := by omega
  have hpI : (c.pc : Int) < xs.length := by omega
  have h4 := ok.le4 v
  have hnd : 1 ≤ c.st.length := by have := ok.need v hx; simp [offN] at this; omega
  have HP := hid (h.pre (.int .i64 12) (.int .i64 n) (.slice ta t.length tc))
  have HOK := hid (And.intro v (And.intro ok (And.intro hT (And.intro hR (And.intro hH hx)))))
  have hmw : ¬ mb = W.heap.size := by omega
  have hwm : ¬ W.heap.size = mb := by omega
  have HSV : Hid (∀ k, sv.ownBlock = some k → k < W.heap.size) := fun k hk => (h.rows.2.2.2.lt k hk).2
  have HTV : Hid (∀ k, tv.ownBlock = some k → k < W.heap.size) := fun k hk => (h.rows.2.2.1.lt k hk).2
  clear c1 c2 c3 c4 c5 c6 h hat HX l1 l2 hT hR hH v
  go_enter Tryd.func42, Tryd.ntmps42
  have hin : ∀ w, Calls Tryd.prog 40 #[.int .i64 12, .int .i64 4, .int .i64 9] w fun e w' => e = .returned (.bool false) ∧ w' = w := fun w => l1In_any 12 4 9 w
  obtain ⟨MX, y0, y1, y2, hlX⟩ := HP.out
  have k5' := MX.cells.2.2.2.2.2.1
  obtain ⟨ta2, tc2, htv⟩ := slice_of_owned MX.rows.2.2.1
  rw [htv] at k5'
  simp only [] at k5'
  have hne100 : ¬ (c.T.length : Int) = 100 := by omega
  go_wp2_with fail
  generalize ((W.setCell ⟨mb, 7, none⟩ (.int .i64 ((c.pc : Int) + 1))).alloc (.cells #[.int .i64 12, .int .i64 n, .slice ta t.length tc] 59)) = X at MX y0 y1 y2 hlX k5'
  clear c0 c7 f7 x0 x1 x2 HP k5' htv
  refine (sPop_any _ _ _ _ _ _ _ _ _ _ _ X _ _ _ _ _ MX (by simp only [List.length_dropLast]; omega) (by simp only [List.length_dropLast]; omega)).mono ?_
  rintro e X2 ⟨rfl, ⟨sv2, MX2, ebX2⟩, g2⟩
  simp only [] at MX2 ⊢
  replace y0 := grown_far g2 y0 (by simp; omega)
  replace y1 := grown_far g2 y1 (by simp; omega)
  replace y2 := grown_far g2 y2 (by simp; omega)
  have hlX2 : W.heap.size < X2.heap.size := Nat.lt_of_lt_of_le hlX g2.size
  obtain ⟨w1', hw1⟩ : ∃ w1', top c.st = w1' := ⟨_, rfl⟩
  rw [hw1]
  have HW1 := hid hw1
  clear hw1
  obtain ⟨sa, sc, rfl⟩ := slice_of_owned MX2.rows.2.2.1
  have hown : X2.ownsRow w0.heap.size 3 1 (.slice sa c.T.length sc) c.T.length (ints c.T) := MX2.rows.2.2.1
  have k5 := MX2.cells.2.2.2.2.2.1
  have hmX := MX2.lt.2
  obtain ⟨i3, hi3, hz30, hz31, hz32⟩ := info_parts info3
  have HPU : Hid (∀ w1 g cap, w1.ownsRow w0.heap.size 3 1 (.slice (some ⟨g, 0, none⟩) (c.T.length + 1) cap) (c.T.length + 1) (ints c.T ++ [.int .i64 w1']) → (X2.alloc (.cells #[.int .i64 w1'] 3)).grownBy w1 (Value.slice sa c.T.length sc).ownBlock → ((Value.slice sa c.T.length sc).ownBlock = some g ∨ g = X2.heap.size + 1) → Hid (MSp R xs en hs (some ⟨b, off, none⟩) ea ha ac ec hc w0 mb (w1.setCell ⟨mb, 5, none⟩ (.slice (some ⟨g, 0, none⟩) (c.T.length + 1) cap)) { c with pc := c.pc + 1, st := c.st.dropLast, T := c.T ++ [w1'] } lv mv (.slice (some ⟨g, 0, none⟩) (c.T.length + 1) cap) sv2) ∧ w1.cell? ⟨mb, 5, none⟩ = some (.slice sa c.T.length sc) ∧ w1.frozen? ⟨mb, 5, none⟩ = false ∧ mb < w1.heap.size ∧ w1.cell? ⟨W.heap.size, 0, none⟩ = some (.int .i64 12)) := by
    intro w1 g cap q1 q2 q3
    obtain ⟨z1, z2, z3, z4⟩ := MX2.pushT (below1 X2 _) q1 q2 q3 (by omega)
    refine ⟨z1, z2, z3, z4, grown_far q2 ?_ (fun e => by have := HTV.out _ e; omega)⟩
    have := (below1 X2 (.cells #[.int .i64 w1'] 3)).cell (p := ⟨W.heap.size, 0, none⟩) hlX2
    exact this.trans y0
  clear MX2 MX g2 y1 y2
  go_wp2_with (at_builtin; refine wpList_append_lies _ rfl _ _ 23 rfl w0.heap.size 3 i3 (.int .i64 0) 1 8 Tryd.underlying23 hi3 hz30 hz31 hz32 rfl (by decide) _ _ _ rfl (hown.alloc _) ⟨X2.heap.size, 0, none⟩ 1 1 [.int .i64 w1'] rfl rfl (news_at0 X2 _ 3) (by simp [Value.oneCell']) (by decide) (by unfold maxLen; omega) (by omega) (by simp; omega) (X2.heap.size + 1) (by simp) ?_)
  intro g cap w1 hown1 hgrow hat hlt1
  obtain ⟨HMP, k61, f61, m61, y01⟩ := HPU.out _ _ _ hown1 hgrow hat
  clear hown1 hgrow hat hlt1
  go_wp2_with (go_at_call 40; refine (hin _).mono ?_; rintro e w' ⟨rfl, rfl⟩)
  go_ret
  exact ⟨rfl, _, _, _, _, by rw [HW1.out]; exact HMP.out⟩

set_option maxHeartbeats 4000000 in
theorem sStep18 {R : List OR} (xs : List Stp) (en d hs : List Int) (rs : List Bool) (a ea ha : Option Addr) (ac ec hc : Nat) (w0 : World) (mb : Nat) (W : World) (c : Cf) (lv mv tv sv : Value) (h : MSp R xs en hs a ea ha ac ec hc w0 mb W c lv mv tv sv) (v : Vld xs en d hs rs) (ok : Okc xs hs rs c) (hT : TRow w0 a xs) (hR : Row w0 ea en) (hH : Row w0 ha hs) (n : Int) (t : List Int) (hx : xs[c.pc]? = some (18, n, t)) :
    Calls Tryd.prog 42 #[.pointer (some ⟨mb, 0, none⟩)] W fun e W' => e = .returned (.bool true) ∧ (∃ lv' mv' tv' sv', MSp R xs en hs a ea ha ac ec hc w0 mb W' { c with pc := (en[c.pc]?.getD 0).toNat + 1 } lv' mv' tv' sv') := by
  obtain ⟨c0, c1, c2, c3, c4, c5, c6, c7⟩ := h.cells
  have f7 := h.frz 7
  have hlt := h.lt
  have hpl := (List.getElem?_eq_some_iff.1 hx).1
  obtain ⟨l1, l2, l60⟩ := nestO_length v.nest
  obtain ⟨b, off, rfl, hat⟩ := hT.at (by intro h0; rw [h0] at hpl; simp at hpl)
  obtain ⟨op', n', t', ta, tc, x0, x1, x2, hbw, hts, HTR, HX⟩ := hat W h.bel c.pc hpl
  obtain ⟨e1, e2, e3⟩ : op' = 18 ∧ n' = n ∧ t' = t := by have := HX.out; rw [hx] at this; simpa using this.symm
  subst op'
  subst n'
  subst t'
  have hbb : ¬ b = mb := by omega
  have hbb' : ¬ mb = b := by omega
  have hbW : b < W.heap.size := Nat.lt_of_lt_of_le hbw h.bel.size
  have hp60 : c.pc < 60 := by omega
  have hpI : (c.pc : Int) < xs.length := by omega
  have h4 := ok.le4 v
  obtain ⟨eb', eoff, rfl, hec⟩ : ∃ eb' eoff, ea = some ⟨eb', eoff, none⟩ ∧ ∀ i w, en[i]? = some w → w0.cell? ⟨eb', eoff + i, none⟩ = some (.int .i64 w) := by
    rcases hR with h0 | ⟨b1, o1, rfl, hc1⟩
    · have := (nestO_length v.nest).1; rw [h0] at this; simp at this; omega
    · exact ⟨b1, o1, rfl, fun i w hv => by have := hc1 i (List.getElem?_eq_some_iff.1 hv).1; rw [hv] at this; exact this⟩
  obtain ⟨p, hpe, hpn⟩ : ∃ p : Nat, en[c.pc]? = some (p : Int) ∧ p < 60 := by
    obtain ⟨s, p, y, s1, s2, s3, s4, s5, s6⟩ := else_if v.nest hx rfl
    obtain ⟨p', _, z, q1, q2, q3, q4, _⟩ := span v.nest s3 (by rw [s4]; decide)
    have := (List.getElem?_eq_some_iff.1 q4).1
    rw [s5] at q1
    have := Option.some.inj q1
    exact ⟨p, s6, by omega⟩
  have hce := hec c.pc _ hpe
  have hbe : eb' < w0.heap.size := World.block_lt_of_cell? w0 _ hce
  have HCE : Hid (∀ X, Below w0.heap.size w0 X → X.cell? ⟨eb', eoff + c.pc, none⟩ = some (.int .i64 p)) := fun X hb => by rw [hb.cell (p := ⟨eb', eoff + c.pc, none⟩) hbe]; exact hce
  have hen : (c.pc : Int) < en.length := by have := (List.getElem?_eq_some_iff.1 hpe).1; omega
  have HPE := hid hpe
  have HCW := hid (HCE.out W h.bel)
  have HC1 := hid c1
  have HBE := hid (And.intro hbe h.bel.size)
  have hM18 := ((h.setPc (c.pc + 1)).setPc (p + 1)).below (below1 _ (.cells #[.int .i64 18, .int .i64 n, .slice ta t.length tc] 59))
  rw [show ((c.pc + 1 : Nat) : Int) = (c.pc : Int) + 1 by simp, show ((p + 1 : Nat) : Int) = (p : Int) + 1 by simp] at hM18
  have HM18 := hid hM18
  clear hM18
  clear hec hce hpe
  have HP := hid (h.pre (.int .i64 18) (.int .i64 n) (.slice ta t.length tc))
  have HOK := hid (And.intro v (And.intro ok (And.intro hT (And.intro hR (And.intro hH hx)))))
  have hmw : ¬ mb = W.heap.size := by omega
  have hwm : ¬ W.heap.size = mb := by omega
  have HSV : Hid (∀ k, sv.ownBlock = some k → k < W.heap.size) := fun k hk => (h.rows.2.2.2.lt k hk).2
  have HTV : Hid (∀ k, tv.ownBlock = some k → k < W.heap.size) := fun k hk => (h.rows.2.2.1.lt k hk).2
  clear c1 c2 c3 c4 c5 c6 h hat HX l1 l2 hT hR hH v
  go_enter Tryd.func42, Tryd.ntmps42
  have hin : ∀ w, Calls Tryd.prog 40 #[.int .i64 18, .int .i64 4, .int .i64 9] w fun e w' => e = .returned (.bool false) ∧ w' = w := fun w => l1In_any 18 4 9 w
  have hbe2 : ¬ eb' = mb := by omega
  have hbe3 : ¬ mb = eb' := by omega
  have hes : eb' < W.heap.size := Nat.lt_of_lt_of_le HBE.out.1 HBE.out.2
  have hwe : ¬ W.heap.size = eb' := by omega
  have hwe' : ¬ eb' = W.heap.size := by omega
  have kxW := HCW.out
  have k1W := HC1.out
  clear HP
  go_wp2_with (go_at_call 40; refine (hin _).mono ?_; rintro e w' ⟨rfl, rfl⟩)
  go_ret
  exact ⟨rfl, _, _, _, _, by rw [HPE.out]; exact HM18.out⟩

set_option maxHeartbeats 4000000 in
theorem sStep20 {R : List OR} (xs : List Stp) (en d hs : List Int) (rs : List Bool) (a ea ha : Option Addr) (ac ec hc : Nat) (w0 : World) (mb : Nat) (W : World) (c : Cf) (lv mv tv sv : Value) (h : MSp R xs en hs a ea ha ac ec hc w0 mb W c lv mv tv sv) (v : Vld xs en d hs rs) (ok : Okc xs hs rs c) (hT : TRow w0 a xs) (hR : Row w0 ea en) (hH : Row w0 ha hs) (n : Int) (t : List Int) (hx : xs[c.pc]? = some (20, n, t)) :
    Calls Tryd.prog 42 #[.pointer (some ⟨mb, 0, none⟩)] W fun e W' => e = .returned (.bool true) ∧ (∃ lv' mv' tv' sv', MSp R xs en hs a ea ha ac ec hc w0 mb W' (leave xs en hs c c.st n) lv' mv' tv' sv') := by
  obtain ⟨c0, c1, c2, c3, c4, c5, c6, c7⟩ := h.cells
  have f7 := h.frz 7
  have hlt := h.lt
  have hpl := (List.getElem?_eq_some_iff.1 hx).1
  obtain ⟨l1, l2, l60⟩ := nestO_length v.nest
  obtain ⟨b, off, rfl, hat⟩ := hT.at (by intro h0; rw [h0] at hpl; simp at hpl)
  obtain ⟨op', n', t', ta, tc, x0, x1, x2, hbw, hts, HTR, HX⟩ := hat W h.bel c.pc hpl
  obtain ⟨e1, e2, e3⟩ : op' = 20 ∧ n' = n ∧ t' = t := by have := HX.out; rw [hx] at this; simpa using this.symm
  subst op'
  subst n'
  subst t'
  have hbb : ¬ b = mb := by omega
  have hbb' : ¬ mb = b := by omega
  have hbW : b < W.heap.size := Nat.lt_of_lt_of_le hbw h.bel.size
  have hp60 : c.pc < 60 := by omega
  have hpI : (c.pc : Int) < xs.length := by omega
  have h4 := ok.le4 v
  obtain ⟨dn, hdn⟩ : ∃ m : Nat, d[c.pc]? = some (m : Int) := by obtain ⟨o, _, _, _, m, _, _, h3, _⟩ := ok.tr v hx; exact ⟨m, h3⟩
  have hwd := within_dep v.nest hx hdn
  have hE : ∀ w ∈ en, w ≤ 60 ∧ -60 ≤ w := ends_small v.nest
  have HEV := hid (And.intro hE (And.intro l1 (And.intro l60 (v.len))))
  have hn0 : 0 ≤ n ∧ n ≤ 8 := by
    have h1 := hwd.1
    simp [oneS, fitsB, mostN] at h1
    omega
  obtain ⟨m, rfl⟩ := Int.eq_ofNat_of_zero_le hn0.1
  obtain ⟨okl, q, bq, q1, q2, q3, q4, q5⟩ := leave_ok v ok hx ok.st (by simp [offN]) hdn (hwd.2.1 (by simp))
  obtain ⟨b1, rfl⟩ := Int.eq_ofNat_of_zero_le q4
  rw [Int.toNat_natCast] at q1
  have HQ := hid (And.intro q1 (And.intro q2 (And.intro q3 q5)))
  have HLE : Hid (leave xs en hs c c.st (m : Int) = { c with pc := q, st := c.st.take b1 }) := by show _ = _; unfold leave; rw [Int.toNat_natCast, q1]; simp [q3]
  clear q1 q2 q3 q4 q5 okl hwd hdn hE
  have HP := hid (h.pre (.int .i64 20) (.int .i64 (m : Int)) (.slice ta t.length tc))
  have HOK := hid (And.intro v (And.intro ok (And.intro hT (And.intro hR (And.intro hH hx)))))
  have hmw : ¬ mb = W.heap.size := by omega
  have hwm : ¬ W.heap.size = mb := by omega
  have HSV : Hid (∀ k, sv.ownBlock = some k → k < W.heap.size) := fun k hk => (h.rows.2.2.2.lt k hk).2
  have HTV : Hid (∀ k, tv.ownBlock = some k → k < W.heap.size) := fun k hk => (h.rows.2.2.1.lt k hk).2
  clear c1 c2 c3 c4 c5 c6 h hat HX l1 l2 hT hR hH v
  go_enter Tryd.func42, Tryd.ntmps42
  have hin : ∀ w, Calls Tryd.prog 40 #[.int .i64 20, .int .i64 4, .int .i64 9] w fun e w' => e = .returned (.bool false) ∧ w' = w := fun w => l1In_any 20 4 9 w
  go_wp2_with fail
  obtain ⟨MX, y0, y1, y2, hlX⟩ := HP.out
  generalize ((W.setCell ⟨mb, 7, none⟩ (.int .i64 ((c.pc : Int) + 1))).alloc (.cells #[.int .i64 20, .int .i64 (m : Int), .slice ta t.length tc] 59)) = X at MX y0 y1 y2 hlX
  clear c0 c7 f7 x0 x1 x2 HP
  refine (sBranch_any _ _ _ _ _ _ _ _ _ _ _ X _ _ _ _ _ MX c.pc m q b1 HOK.out.2.2.1 HOK.out.2.2.2.1 HOK.out.2.2.2.2.1 HEV.out.2.2.1 HEV.out.2.1 (by have := HEV.out.2.2.2; omega) HEV.out.1 (by omega) (by omega) HQ.out.1 HQ.out.2.2.1 (by have := HQ.out.2.2.2; simp only []; omega) (by simp only []; omega)).mono ?_
  rintro e X2 ⟨rfl, ⟨sv2, MX2⟩, g2⟩
  replace y0 := grown_far g2 y0 (by simp; omega)
  have hlX2 : W.heap.size < X2.heap.size := Nat.lt_of_lt_of_le hlX g2.size
  have HM := hid MX2
  clear MX2 MX g2 y1 y2
  go_wp2_with (go_at_call 40; refine (hin _).mono ?_; rintro e w' ⟨rfl, rfl⟩)
  go_ret
  exact ⟨rfl, _, _, _, _, by rw [HLE.out]; exact HM.out⟩

set_option maxHeartbeats 4000000 in
theorem sStep21y {R : List OR} (xs : List Stp) (en d hs : List Int) (rs : List Bool) (a ea ha : Option Addr) (ac ec hc : Nat) (w0 : World) (mb : Nat) (W : World) (c : Cf) (lv mv tv sv : Value) (h : MSp R xs en hs a ea ha ac ec hc w0 mb W c lv mv tv sv) (v : Vld xs en d hs rs) (ok : Okc xs hs rs c) (hT : TRow w0 a xs) (hR : Row w0 ea en) (hH : Row w0 ha hs) (n : Int) (t : List Int) (hx : xs[c.pc]? = some (21, n, t)) (hz0 : ¬ top c.st = 0) :
    Calls Tryd.prog 42 #[.pointer (some ⟨mb, 0, none⟩)] W fun e W' => e = .returned (.bool true) ∧ (∃ lv' mv' tv' sv', MSp R xs en hs a ea ha ac ec hc w0 mb W' (leave xs en hs c c.st.dropLast n) lv' mv' tv' sv') := by
  obtain ⟨c0, c1, c2, c3, c4, c5, c6, c7⟩ := h.cells
  have f7 := h.frz 7
  have hlt := h.lt
  have hpl := (List.getElem?_eq_some_iff.1 hx).1
  obtain ⟨l1, l2, l60⟩ := nestO_length v.nest
  obtain ⟨b, off, rfl, hat⟩ := hT.at (by intro h0; rw [h0] at hpl; simp at hpl)
  obtain ⟨op', n', t', ta, tc, x0, x1, x2, hbw, hts, HTR, HX⟩ := hat W h.bel c.pc hpl
  obtain ⟨e1, e2, e3⟩ : op' = 21 ∧ n' = n ∧ t' = t := by have := HX.out; rw [hx] at this; simpa using this.symm
  subst op'
  subst n'
  subst t'
  have hbb : ¬ b = mb := by omega
  have hbb' : ¬ mb = b := by omega
  have hbW : b < W.heap.size := Nat.lt_of_lt_of_le hbw h.bel.size
  have hp60 : c.pc < 60 := by omega
  have hpI : (c.pc : Int) < xs.length := by omega
  have h4 := ok.le4 v
  have hnd : 1 ≤ c.st.length := by have := ok.need v hx; simp [offN] at this; omega
  obtain ⟨dn, hdn⟩ : ∃ m : Nat, d[c.pc]? = some (m : Int) := by obtain ⟨o, _, _, _, m, _, _, h3, _⟩ := ok.tr v hx; exact ⟨m, h3⟩
  have hwd := within_dep v.nest hx hdn
  have hE : ∀ w ∈ en, w ≤ 60 ∧ -60 ≤ w := ends_small v.nest
  have HEV := hid (And.intro hE (And.intro l1 (And.intro l60 (v.len))))
  have hn0 : 0 ≤ n ∧ n ≤ 8 := by
    have h1 := hwd.1
    simp [oneS, fitsB, mostN] at h1
    omega
  obtain ⟨m, rfl⟩ := Int.eq_ofNat_of_zero_le hn0.1
  obtain ⟨okl, q, bq, q1, q2, q3, q4, q5⟩ := leave_ok v ok hx (wds_drop ok.st) (st := c.st.dropLast) (by rw [List.length_dropLast]; simp [offN]; omega) hdn (hwd.2.1 (by simp))
  obtain ⟨b1, rfl⟩ := Int.eq_ofNat_of_zero_le q4
  rw [Int.toNat_natCast] at q1
  have HQ := hid (And.intro q1 (And.intro q2 (And.intro q3 q5)))
  have HLE : Hid (leave xs en hs c c.st.dropLast (m : Int) = { c with pc := q, st := c.st.dropLast.take b1 }) := by show _ = _; unfold leave; rw [Int.toNat_natCast, q1]; simp [q3]
  clear q1 q2 q3 q4 q5 okl hwd hdn hE
  have HP := hid (h.pre (.int .i64 21) (.int .i64 (m : Int)) (.slice ta t.length tc))
  have HOK := hid (And.intro v (And.intro ok (And.intro hT (And.intro hR (And.intro hH hx)))))
  have hmw : ¬ mb = W.heap.size := by omega
  have hwm : ¬ W.heap.size = mb := by omega
  have HSV : Hid (∀ k, sv.ownBlock = some k → k < W.heap.size) := fun k hk => (h.rows.2.2.2.lt k hk).2
  have HTV : Hid (∀ k, tv.ownBlock = some k → k < W.heap.size) := fun k hk => (h.rows.2.2.1.lt k hk).2
  clear c1 c2 c3 c4 c5 c6 h hat HX l1 l2 hT hR hH v
  go_enter Tryd.func42, Tryd.ntmps42
  have hin : ∀ w, Calls Tryd.prog 40 #[.int .i64 21, .int .i64 4, .int .i64 9] w fun e w' => e = .returned (.bool false) ∧ w' = w := fun w => l1In_any 21 4 9 w
  go_wp2_with fail
  obtain ⟨MX, y0, y1, y2, hlX⟩ := HP.out
  generalize ((W.setCell ⟨mb, 7, none⟩ (.int .i64 ((c.pc : Int) + 1))).alloc (.cells #[.int .i64 21, .int .i64 (m : Int), .slice ta t.length tc] 59)) = X at MX y0 y1 y2 hlX
  clear c0 c7 f7 x0 x1 x2 HP
  refine (sPop_any _ _ _ _ _ _ _ _ _ _ _ X _ _ _ _ _ MX (by simp only [List.length_dropLast]; omega) (by simp only [List.length_dropLast]; omega)).mono ?_
  rintro e X2 ⟨rfl, ⟨sv2, MX2, ebX2⟩, g2⟩
  simp only [] at MX2 ⊢
  replace y0 := grown_far g2 y0 (by simp; omega)
  replace y1 := grown_far g2 y1 (by simp; omega)
  replace y2 := grown_far g2 y2 (by simp; omega)
  have hlX2 : W.heap.size < X2.heap.size := Nat.lt_of_lt_of_le hlX g2.size
  obtain ⟨w1, hw1⟩ : ∃ w1, top c.st = w1 := ⟨_, rfl⟩
  rw [hw1] at hz0 ⊢
  have HW1 := hid hw1
  clear hw1
  go_wp2_with fail
  refine (sBranch_any _ _ _ _ _ _ _ _ _ _ _ X2 _ _ _ _ _ MX2 c.pc m q b1 HOK.out.2.2.1 HOK.out.2.2.2.1 HOK.out.2.2.2.2.1 HEV.out.2.2.1 HEV.out.2.1 (by have := HEV.out.2.2.2; omega) HEV.out.1 (by omega) (by omega) HQ.out.1 HQ.out.2.2.1 (by have := HQ.out.2.2.2; simp only [List.length_dropLast] at this ⊢; omega) (by simp only [List.length_dropLast]; omega)).mono ?_
  rintro e X3 ⟨rfl, ⟨sv3, MX3⟩, g3⟩
  replace y0 := grown_far g3 y0 (by simp; omega)
  have hlX3 : W.heap.size < X3.heap.size := Nat.lt_of_lt_of_le hlX2 g3.size
  have HM := hid MX3
  clear MX3 MX2 g3
  go_wp2_with (go_at_call 40; refine (hin _).mono ?_; rintro e w' ⟨rfl, rfl⟩)
  go_ret
  exact ⟨rfl, _, _, _, _, by rw [HLE.out]; exact HM.out⟩

set_option maxHeartbeats 4000000 in
theorem sStep21n {R : List OR} (xs : List Stp) (en d hs : List Int) (rs : List Bool) (a ea ha : Option Addr) (ac ec hc : Nat) (w0 : World) (mb : Nat) (W : World) (c : Cf) (lv mv tv sv : Value) (h : MSp R xs en hs a ea ha ac ec hc w0 mb W c lv mv tv sv) (v : Vld xs en d hs rs) (ok : Okc xs hs rs c) (hT : TRow w0 a xs) (hR : Row w0 ea en) (hH : Row w0 ha hs) (n : Int) (t : List Int) (hx : xs[c.pc]? = some (21, n, t)) (hz0 : top c.st = 0) :
    Calls Tryd.prog 42 #[.pointer (some ⟨mb, 0, none⟩)] W fun e W' => e = .returned (.bool true) ∧ (∃ lv' mv' tv' sv', MSp R xs en hs a ea ha ac ec hc w0 mb W' { c with pc := c.pc + 1, st := c.st.dropLast } lv' mv' tv' sv') := by
  obtain ⟨c0, c1, c2, c3, c4, c5, c6, c7⟩ := h.cells
  have f7 := h.frz 7
  have hlt := h.lt
  have hpl := (List.getElem?_eq_some_iff.1 hx).1
  obtain ⟨l1, l2, l60⟩ := nestO_length v.nest
  obtain ⟨b, off, rfl, hat⟩ := hT.at (by intro h0; rw [h0] at hpl; simp at hpl)
  obtain ⟨op', n', t', ta, tc, x0, x1, x2, hbw, hts, HTR, HX⟩ := hat W h.bel c.pc hpl
  obtain ⟨e1, e2, e3⟩ : op' = 21 ∧ n' = n ∧ t' = t := by have := HX.out; rw [hx] at this; simpa using this.symm
  subst op'
  subst n'
  subst t'
  have hbb : ¬ b = mb := by omega
  have hbb' : ¬ mb = b := by omega
  have hbW : b < W.heap.size := Nat.lt_of_lt_of_le hbw h.bel.size
  have hp60 : c.pc < 60 := by omega
  have hpI : (c.pc : Int) < xs.length := by omega
  have h4 := ok.le4 v
  have hnd : 1 ≤ c.st.length := by have := ok.need v hx; simp [offN] at this; omega
  have HP := hid (h.pre (.int .i64 21) (.int .i64 n) (.slice ta t.length tc))
  have HOK := hid (And.intro v (And.intro ok (And.intro hT (And.intro hR (And.intro hH hx)))))
  have hmw : ¬ mb = W.heap.size := by omega
  have hwm : ¬ W.heap.size = mb := by omega
  have HSV : Hid (∀ k, sv.ownBlock = some k → k < W.heap.size) := fun k hk => (h.rows.2.2.2.lt k hk).2
  have HTV : Hid (∀ k, tv.ownBlock = some k → k < W.heap.size) := fun k hk => (h.rows.2.2.1.lt k hk).2
  clear c1 c2 c3 c4 c5 c6 h hat HX l1 l2 hT hR hH v
  go_enter Tryd.func42, Tryd.ntmps42
  have hin : ∀ w, Calls Tryd.prog 40 #[.int .i64 21, .int .i64 4, .int .i64 9] w fun e w' => e = .returned (.bool false) ∧ w' = w := fun w => l1In_any 21 4 9 w
  go_wp2_with fail
  obtain ⟨MX, y0, y1, y2, hlX⟩ := HP.out
  generalize ((W.setCell ⟨mb, 7, none⟩ (.int .i64 ((c.pc : Int) + 1))).alloc (.cells #[.int .i64 21, .int .i64 n, .slice ta t.length tc] 59)) = X at MX y0 y1 y2 hlX
  clear c0 c7 f7 x0 x1 x2 HP
  refine (sPop_any _ _ _ _ _ _ _ _ _ _ _ X _ _ _ _ _ MX (by simp only [List.length_dropLast]; omega) (by simp only [List.length_dropLast]; omega)).mono ?_
  rintro e X2 ⟨rfl, ⟨sv2, MX2, ebX2⟩, g2⟩
  simp only [] at MX2 ⊢
  replace y0 := grown_far g2 y0 (by simp; omega)
  replace y1 := grown_far g2 y1 (by simp; omega)
  replace y2 := grown_far g2 y2 (by simp; omega)
  have hlX2 : W.heap.size < X2.heap.size := Nat.lt_of_lt_of_le hlX g2.size
  rw [hz0]
  have HM := hid MX2
  clear MX2 MX g2 hz0
  go_wp2_with (go_at_call 40; refine (hin _).mono ?_; rintro e w' ⟨rfl, rfl⟩)
  go_ret
  exact ⟨rfl, _, _, _, _, HM.out⟩

set_option maxHeartbeats 4000000 in
theorem sStep22n {R : List OR} (xs : List Stp) (en d hs : List Int) (rs : List Bool) (a ea ha : Option Addr) (ac ec hc : Nat) (w0 : World) (mb : Nat) (W : World) (c : Cf) (lv mv tv sv : Value) (h : MSp R xs en hs a ea ha ac ec hc w0 mb W c lv mv tv sv) (v : Vld xs en d hs rs) (ok : Okc xs hs rs c) (hT : TRow w0 a xs) (hR : Row w0 ea en) (hH : Row w0 ha hs) (n : Int) (t : List Int) (hx : xs[c.pc]? = some (22, n, t)) (hz0 : ¬ top c.st < t.length) :
    Calls Tryd.prog 42 #[.pointer (some ⟨mb, 0, none⟩)] W fun e W' => e = .returned (.bool true) ∧ (∃ lv' mv' tv' sv', MSp R xs en hs a ea ha ac ec hc w0 mb W' (leave xs en hs c c.st.dropLast n) lv' mv' tv' sv') := by
  obtain ⟨c0, c1, c2, c3, c4, c5, c6, c7⟩ := h.cells
  have f7 := h.frz 7
  have hlt := h.lt
  have hpl := (List.getElem?_eq_some_iff.1 hx).1
  obtain ⟨l1, l2, l60⟩ := nestO_length v.nest
  obtain ⟨b, off, rfl, hat⟩ := hT.at (by intro h0; rw [h0] at hpl; simp at hpl)
  obtain ⟨op', n', t', ta, tc, x0, x1, x2, hbw, hts, HTR, HX⟩ := hat W h.bel c.pc hpl
  obtain ⟨e1, e2, e3⟩ : op' = 22 ∧ n' = n ∧ t' = t := by have := HX.out; rw [hx] at this; simpa using this.symm
  subst op'
  subst n'
  subst t'
  have hbb : ¬ b = mb := by omega
  have hbb' : ¬ mb = b := by omega
  have hbW : b < W.heap.size := Nat.lt_of_lt_of_le hbw h.bel.size
  have hp60 : c.pc < 60 := by omega
  have hpI : (c.pc : Int) < xs.length := by omega
  have h4 := ok.le4 v
  have hnd : 1 ≤ c.st.length := by have := ok.need v hx; simp [offN] at this; omega
  obtain ⟨dn, hdn⟩ : ∃ m : Nat, d[c.pc]? = some (m : Int) := by obtain ⟨o, _, _, _, m, _, _, h3, _⟩ := ok.tr v hx; exact ⟨m, h3⟩
  have hwd := within_dep v.nest hx hdn
  have hE : ∀ w ∈ en, w ≤ 60 ∧ -60 ≤ w := ends_small v.nest
  have HEV := hid (And.intro hE (And.intro l1 (And.intro l60 (v.len))))
  have hn0 : 0 ≤ n ∧ n ≤ 8 := by
    have h1 := hwd.1
    simp [oneS, fitsB, mostN] at h1
    omega
  obtain ⟨m, rfl⟩ := Int.eq_ofNat_of_zero_le hn0.1
  obtain ⟨okl, q, bq, q1, q2, q3, q4, q5⟩ := leave_ok v ok hx (wds_drop ok.st) (st := c.st.dropLast) (by rw [List.length_dropLast]; simp [offN]; omega) hdn (hwd.2.1 (by simp))
  obtain ⟨b1, rfl⟩ := Int.eq_ofNat_of_zero_le q4
  rw [Int.toNat_natCast] at q1
  have HQ := hid (And.intro q1 (And.intro q2 (And.intro q3 q5)))
  have HLE : Hid (leave xs en hs c c.st.dropLast (m : Int) = { c with pc := q, st := c.st.dropLast.take b1 }) := by show _ = _; unfold leave; rw [Int.toNat_natCast, q1]; simp [q3]
  clear q1 q2 q3 q4 q5 okl hwd hdn hE
  have HP := hid (h.pre (.int .i64 22) (.int .i64 (m : Int)) (.slice ta t.length tc))
  have HOK := hid (And.intro v (And.intro ok (And.intro hT (And.intro hR (And.intro hH hx)))))
  have hmw : ¬ mb = W.heap.size := by omega
  have hwm : ¬ W.heap.size = mb := by omega
  have HSV : Hid (∀ k, sv.ownBlock = some k → k < W.heap.size) := fun k hk => (h.rows.2.2.2.lt k hk).2
  have HTV : Hid (∀ k, tv.ownBlock = some k → k < W.heap.size) := fun k hk => (h.rows.2.2.1.lt k hk).2
  clear c1 c2 c3 c4 c5 c6 h hat HX l1 l2 hT hR hH v
  go_enter Tryd.func42, Tryd.ntmps42
  have hin : ∀ w, Calls Tryd.prog 40 #[.int .i64 22, .int .i64 4, .int .i64 9] w fun e w' => e = .returned (.bool false) ∧ w' = w := fun w => l1In_any 22 4 9 w
  go_wp2_with fail
  obtain ⟨MX, y0, y1, y2, hlX⟩ := HP.out
  generalize ((W.setCell ⟨mb, 7, none⟩ (.int .i64 ((c.pc : Int) + 1))).alloc (.cells #[.int .i64 22, .int .i64 (m : Int), .slice ta t.length tc] 59)) = X at MX y0 y1 y2 hlX
  clear c0 c7 f7 x0 x1 x2 HP
  refine (sPop_any _ _ _ _ _ _ _ _ _ _ _ X _ _ _ _ _ MX (by simp only [List.length_dropLast]; omega) (by simp only [List.length_dropLast]; omega)).mono ?_
  rintro e X2 ⟨rfl, ⟨sv2, MX2, ebX2⟩, g2⟩
  simp only [] at MX2 ⊢
  replace y0 := grown_far g2 y0 (by simp; omega)
  replace y1 := grown_far g2 y1 (by simp; omega)
  replace y2 := grown_far g2 y2 (by simp; omega)
  have hlX2 : W.heap.size < X2.heap.size := Nat.lt_of_lt_of_le hlX g2.size
  obtain ⟨w1, hw1⟩ : ∃ w1, top c.st = w1 := ⟨_, rfl⟩
  rw [hw1] at hz0 ⊢
  have HW1 := hid hw1
  clear hw1
  go_wp2_with fail
  refine (sBranch_any _ _ _ _ _ _ _ _ _ _ _ X2 _ _ _ _ _ MX2 c.pc m q b1 HOK.out.2.2.1 HOK.out.2.2.2.1 HOK.out.2.2.2.2.1 HEV.out.2.2.1 HEV.out.2.1 (by have := HEV.out.2.2.2; omega) HEV.out.1 (by omega) (by omega) HQ.out.1 HQ.out.2.2.1 (by have := HQ.out.2.2.2; simp only [List.length_dropLast] at this ⊢; omega) (by simp only [List.length_dropLast]; omega)).mono ?_
  rintro e X3 ⟨rfl, ⟨sv3, MX3⟩, g3⟩
  replace y0 := grown_far g3 y0 (by simp; omega)
  have hlX3 : W.heap.size < X3.heap.size := Nat.lt_of_lt_of_le hlX2 g3.size
  have HM := hid MX3
  clear MX3 MX2 g3
  go_wp2_with (go_at_call 40; refine (hin _).mono ?_; rintro e w' ⟨rfl, rfl⟩)
  go_ret
  exact ⟨rfl, _, _, _, _, by rw [HLE.out]; exact HM.out⟩

set_option maxHeartbeats 4000000 in
theorem sStep22y {R : List OR} (xs : List Stp) (en d hs : List Int) (rs : List Bool) (a ea ha : Option Addr) (ac ec hc : Nat) (w0 : World) (mb : Nat) (W : World) (c : Cf) (lv mv tv sv : Value) (h : MSp R xs en hs a ea ha ac ec hc w0 mb W c lv mv tv sv) (v : Vld xs en d hs rs) (ok : Okc xs hs rs c) (hT : TRow w0 a xs) (hR : Row w0 ea en) (hH : Row w0 ha hs) (n : Int) (t : List Int) (hx : xs[c.pc]? = some (22, n, t)) (hz0 : top c.st < t.length) :
    Calls Tryd.prog 42 #[.pointer (some ⟨mb, 0, none⟩)] W fun e W' => e = .returned (.bool true) ∧ (∃ lv' mv' tv' sv', MSp R xs en hs a ea ha ac ec hc w0 mb W' (leave xs en hs c c.st.dropLast (t[(top c.st).toNat]?.getD 0)) lv' mv' tv' sv') := by
  obtain ⟨c0, c1, c2, c3, c4, c5, c6, c7⟩ := h.cells
  have f7 := h.frz 7
  have hlt := h.lt
  have hpl := (List.getElem?_eq_some_iff.1 hx).1
  obtain ⟨l1, l2, l60⟩ := nestO_length v.nest
  obtain ⟨b, off, rfl, hat⟩ := hT.at (by intro h0; rw [h0] at hpl; simp at hpl)
  obtain ⟨op', n', t', ta, tc, x0, x1, x2, hbw, hts, HTR, HX⟩ := hat W h.bel c.pc hpl
  obtain ⟨e1, e2, e3⟩ : op' = 22 ∧ n' = n ∧ t' = t := by have := HX.out; rw [hx] at this; simpa using this.symm
  subst op'
  subst n'
  subst t'
  have hbb : ¬ b = mb := by omega
  have hbb' : ¬ mb = b := by omega
  have hbW : b < W.heap.size := Nat.lt_of_lt_of_le hbw h.bel.size
  have hp60 : c.pc < 60 := by omega
  have hpI : (c.pc : Int) < xs.length := by omega
  have h4 := ok.le4 v
  have hnd : 1 ≤ c.st.length := by have := ok.need v hx; simp [offN] at this; omega
  obtain ⟨dn, hdn⟩ : ∃ m : Nat, d[c.pc]? = some (m : Int) := by obtain ⟨o, _, _, _, m, _, _, h3, _⟩ := ok.tr v hx; exact ⟨m, h3⟩
  have hwd := within_dep v.nest hx hdn
  have hE : ∀ w ∈ en, w ≤ 60 ∧ -60 ≤ w := ends_small v.nest
  have HEV := hid (And.intro hE (And.intro l1 (And.intro l60 (v.len))))
  have htw := top_word ok.st
  obtain ⟨j, hj⟩ := Int.eq_ofNat_of_zero_le htw.1
  have hjt : j < t.length := by omega
  obtain ⟨dv, hdv⟩ : ∃ dv, t[j]? = some dv := ⟨_, List.getElem?_eq_getElem hjt⟩
  have hdvn : 0 ≤ dv ∧ dv ≤ 8 := by
    have h1 := hwd.1
    simp [oneS, allFit, fitsB, mostN] at h1
    exact h1.2.2 dv (List.mem_of_getElem? hdv)
  have hdl := hwd.2.2 dv (List.mem_of_getElem? hdv)
  obtain ⟨dm, rfl⟩ := Int.eq_ofNat_of_zero_le hdvn.1
  have hdm : dm ≤ 8 := by omega
  have HTD : Hid (t[(top c.st).toNat]?.getD 0 = (dm : Int)) := by show _ = _; rw [hj, Int.toNat_natCast, hdv]; rfl
  have HJ := hid (And.intro hj hdv)
  obtain ⟨okl, q, bq, q1, q2, q3, q4, q5⟩ := leave_ok v ok hx (wds_drop ok.st) (st := c.st.dropLast) (by rw [List.length_dropLast]; simp [offN]; omega) hdn hdl
  obtain ⟨b1, rfl⟩ := Int.eq_ofNat_of_zero_le q4
  rw [Int.toNat_natCast] at q1
  have HQ := hid (And.intro q1 (And.intro q2 (And.intro q3 q5)))
  have HLE : Hid (leave xs en hs c c.st.dropLast (dm : Int) = { c with pc := q, st := c.st.dropLast.take b1 }) := by show _ = _; unfold leave; rw [Int.toNat_natCast, q1]; simp [q3]
  clear q1 q2 q3 q4 q5 okl hwd hdn hE
  obtain ⟨tb, toff, rfl, htc⟩ : ∃ tb toff, ta = some ⟨tb, toff, none⟩ ∧ w0.cell? ⟨tb, toff + j, none⟩ = some (.int .i64 (dm : Int)) := by
    rcases HTR.out with h0 | ⟨b9, o9, rfl, hc9⟩
    · rw [h0] at hjt; simp at hjt
    · have := hc9 j hjt; rw [hdv] at this; exact ⟨b9, o9, rfl, this⟩
  have htb : tb < w0.heap.size := World.block_lt_of_cell? w0 _ htc
  have HTC : Hid (∀ X, Below w0.heap.size w0 X → X.cell? ⟨tb, toff + j, none⟩ = some (.int .i64 (dm : Int))) := fun X hb => by rw [hb.cell (p := ⟨tb, toff + j, none⟩) htb]; exact htc
  clear htc hdl hdvn hdv
  have HP := hid (h.pre (.int .i64 22) (.int .i64 n) (.slice (some ⟨tb, toff, none⟩) t.length tc))
  have HOK := hid (And.intro v (And.intro ok (And.intro hT (And.intro hR (And.intro hH hx)))))
  have hmw : ¬ mb = W.heap.size := by omega
  have hwm : ¬ W.heap.size = mb := by omega
  have HSV : Hid (∀ k, sv.ownBlock = some k → k < W.heap.size) := fun k hk => (h.rows.2.2.2.lt k hk).2
  have HTV : Hid (∀ k, tv.ownBlock = some k → k < W.heap.size) := fun k hk => (h.rows.2.2.1.lt k hk).2
  clear c1 c2 c3 c4 c5 c6 h hat HX l1 l2 hT hR hH v
  go_enter Tryd.func42, Tryd.ntmps42
  have hin : ∀ w, Calls Tryd.prog 40 #[.int .i64 22, .int .i64 4, .int .i64 9] w fun e w' => e = .returned (.bool false) ∧ w' = w := fun w => l1In_any 22 4 9 w
  go_wp2_with fail
  obtain ⟨MX, y0, y1, y2, hlX⟩ := HP.out
  generalize ((W.setCell ⟨mb, 7, none⟩ (.int .i64 ((c.pc : Int) + 1))).alloc (.cells #[.int .i64 22, .int .i64 n, .slice (some ⟨tb, toff, none⟩) t.length tc] 59)) = X at MX y0 y1 y2 hlX
  clear c0 c7 f7 x0 x1 x2 HP
  refine (sPop_any _ _ _ _ _ _ _ _ _ _ _ X _ _ _ _ _ MX (by simp only [List.length_dropLast]; omega) (by simp only [List.length_dropLast]; omega)).mono ?_
  rintro e X2 ⟨rfl, ⟨sv2, MX2, ebX2⟩, g2⟩
  simp only [] at MX2 ⊢
  replace y0 := grown_far g2 y0 (by simp; omega)
  replace y1 := grown_far g2 y1 (by simp; omega)
  replace y2 := grown_far g2 y2 (by simp; omega)
  have hlX2 : W.heap.size < X2.heap.size := Nat.lt_of_lt_of_le hlX g2.size
  have ktb := HTC.out _ MX2.bel
  rw [HJ.out.1] at hz0 ⊢
  go_wp2_with fail
  refine (sBranch_any _ _ _ _ _ _ _ _ _ _ _ X2 _ _ _ _ _ MX2 c.pc dm q b1 HOK.out.2.2.1 HOK.out.2.2.2.1 HOK.out.2.2.2.2.1 HEV.out.2.2.1 HEV.out.2.1 (by have := HEV.out.2.2.2; omega) HEV.out.1 (by omega) (by omega) HQ.out.1 HQ.out.2.2.1 (by have := HQ.out.2.2.2; simp only [List.length_dropLast] at this ⊢; omega) (by simp only [List.length_dropLast]; omega)).mono ?_
  rintro e X3 ⟨rfl, ⟨sv3, MX3⟩, g3⟩
  replace y0 := grown_far g3 y0 (by simp; omega)
  have hlX3 : W.heap.size < X3.heap.size := Nat.lt_of_lt_of_le hlX2 g3.size
  have HM := hid MX3
  clear MX3 MX2 g3
  go_wp2_with (go_at_call 40; refine (hin _).mono ?_; rintro e w' ⟨rfl, rfl⟩)
  go_ret
  exact ⟨rfl, _, _, _, _, by rw [HTD.out, HLE.out]; exact HM.out⟩
end

section
open Go.RowKit
set_option linter.unusedVariables false
set_option linter.unusedSimpArgs false
set_option maxRecDepth 100000

set_option maxHeartbeats 4000000 in
theorem sStep3 {R : List OR} (xs : List Stp) (en d hs : List Int) (rs : List Bool) (a ea ha : Option Addr) (ac ec hc : Nat) (w0 : World) (mb : Nat) (W : World) (c : Cf) (lv mv tv sv : Value) (h : MSp R xs en hs a ea ha ac ec hc w0 mb W c lv mv tv sv) (v : Vld xs en d hs rs) (ok : Okc xs hs rs c) (hT : TRow w0 a xs) (hR : Row w0 ea en) (hH : Row w0 ha hs) (n : Int) (t : List Int) (hx : xs[c.pc]? = some (3, n, t)) :
    Calls Tryd.prog 42 #[.pointer (some ⟨mb, 0, none⟩)] W fun e W' => e = .returned (.bool true) ∧ (∃ lv' mv' tv' sv', MSp R xs en hs a ea ha ac ec hc w0 mb W' { c with pc := c.pc + 1, st := c.st.dropLast, L := c.L.set n.toNat (top c.st) } lv' mv' tv' sv') := by
  obtain ⟨c0, c1, c2, c3, c4, c5, c6, c7⟩ := h.cells
  have f7 := h.frz 7
  have hlt := h.lt
  have hpl := (List.getElem?_eq_some_iff.1 hx).1
  obtain ⟨l1, l2, l60⟩ := nestO_length v.nest
  obtain ⟨b, off, rfl, hat⟩ := hT.at (by intro h0; rw [h0] at hpl; simp at hpl)
  obtain ⟨op', n', t', ta, tc, x0, x1, x2, hbw, hts, HTR, HX⟩ := hat W h.bel c.pc hpl
  obtain ⟨e1, e2, e3⟩ : op' = 3 ∧ n' = n ∧ t' = t := by have := HX.out; rw [hx] at this; simpa using this.symm
  subst op'
  subst n'
  subst t'
  have hbb : ¬ b = mb := by omega
  have hbb' : ¬ mb = b := by omega
  have hbW : b < W.heap.size := Nat.lt_of_lt_of_le hbw h.bel.size
  have hp60 : c.pc < 60 := by omega
  have hpI : (c.pc : Int) < xs.length := by omega
  have h4 := ok.le4 v
  have hn8 : 0 ≤ n ∧ n ≤ 7 := by
    obtain ⟨_, hd⟩ : ∃ m : Nat, d[c.pc]? = some (m : Int) := by obtain ⟨o, _, _, _, m, _, _, h3, _⟩ := ok.tr v hx; exact ⟨m, h3⟩
    have h1 := (within_dep v.nest hx hd).1
    simp [oneS, fitsB, mostN] at h1
    omega
  obtain ⟨m, rfl⟩ := Int.eq_ofNat_of_zero_le hn8.1
  have hm8 : m < 8 := by omega
  have hmI : (m : Int) < 8 := by omega
  have hnd : 1 ≤ c.st.length := by have := ok.need v hx; simp [offN] at this; omega
  have HP := hid (h.pre (.int .i64 3) (.int .i64 (m : Int)) (.slice ta t.length tc))
  have HOK := hid (And.intro v (And.intro ok (And.intro hT (And.intro hR (And.intro hH hx)))))
  have hmw : ¬ mb = W.heap.size := by omega
  have hwm : ¬ W.heap.size = mb := by omega
  have HSV : Hid (∀ k, sv.ownBlock = some k → k < W.heap.size) := fun k hk => (h.rows.2.2.2.lt k hk).2
  have HTV : Hid (∀ k, tv.ownBlock = some k → k < W.heap.size) := fun k hk => (h.rows.2.2.1.lt k hk).2
  have HLV0 : Hid (∀ k, lv.ownBlock = some k → k < W.heap.size) := fun k hk => (h.rows.1.lt k hk).2
  clear c1 c2 c3 c4 c5 c6 h hat HX l1 l2 hT hR hH v
  go_enter Tryd.func42, Tryd.ntmps42
  have hin : ∀ w, Calls Tryd.prog 40 #[.int .i64 3, .int .i64 4, .int .i64 9] w fun e w' => e = .returned (.bool false) ∧ w' = w := fun w => l1In_any 3 4 9 w
  go_wp2_with fail
  obtain ⟨MX, y0, y1, y2, hlX⟩ := HP.out
  generalize ((W.setCell ⟨mb, 7, none⟩ (.int .i64 ((c.pc : Int) + 1))).alloc (.cells #[.int .i64 3, .int .i64 (m : Int), .slice ta t.length tc] 59)) = X at MX y0 y1 y2 hlX
  clear c0 c7 f7 x0 x1 x2 HP
  refine (sPop_any _ _ _ _ _ _ _ _ _ _ _ X _ _ _ _ _ MX (by simp only [List.length_dropLast]; omega) (by simp only [List.length_dropLast]; omega)).mono ?_
  rintro e X2 ⟨rfl, ⟨sv2, MX2, ebX2⟩, g2⟩
  simp only [] at MX2 ⊢
  replace y0 := grown_far g2 y0 (by simp; omega)
  replace y1 := grown_far g2 y1 (by simp; omega)
  replace y2 := grown_far g2 y2 (by simp; omega)
  have hlX2 : W.heap.size < X2.heap.size := Nat.lt_of_lt_of_le hlX g2.size
  have hL8 : c.L.length = 8 := HOK.out.2.1.L8
  have HLV : Hid (∀ k, lv.ownBlock = some k → k < W.heap.size) := HLV0
  obtain ⟨gl, lc, rfl, hgl, hBl, hcl⟩ := row_some MX2.rows.1 (by simp only []; omega)
  obtain ⟨u, hu⟩ : ∃ u, c.L[m]? = some u := ⟨_, List.getElem?_eq_getElem (by omega)⟩
  have kl := row_cell MX2.rows.1 hu
  have k3 := MX2.cells.2.2.2.1
  have flz := row_frz MX2.rows.1 m
  have hgm : ¬ gl = mb := fun e => by
    have := MX2.sep.2
    rw [List.pairwise_cons] at this
    rcases this.1 _ (List.mem_cons_self ..) with h1 | h1
    · cases h1
    · exact h1 (by rw [← e]; rfl)
  have hmL : (m : Int) < c.L.length := by omega
  have hmN : m < c.L.length := by omega
  clear hL8
  have HM := hid ((MX2.setL m (top c.st)).below (Below.refl _ _).drew)
  have HL2 := hid (show (X2.setCell ⟨gl, m, none⟩ (.int .i64 (top c.st))).drew.cell? ⟨W.heap.size, 0, none⟩ = some (.int .i64 3) by
    have hgw : gl ≠ W.heap.size := fun e => by
      have h1 := HLV.out gl rfl
      omega
    exact (World.cell?_setCell_other X2 _ _ _ (by intro e; cases e; exact hgw rfl)).trans y0)
  obtain ⟨w1, hw1⟩ : ∃ w1, top c.st = w1 := ⟨_, rfl⟩
  rw [hw1] at HM HL2 ⊢
  have HW1 := hid hw1
  clear hw1
  clear MX2 MX hu g2
  go_wp2
  go_region
  all_goals
    generalize (X2.setCell ⟨gl, m, none⟩ (.int .i64 w1)).drew = X3 at HM HL2 ⊢
    have y9 := HL2.out
    go_wp2_with (go_at_call 40; refine (hin _).mono ?_; rintro e w' ⟨rfl, rfl⟩)
    go_ret
    exact ⟨rfl, _, _, _, _, by rw [Int.toNat_natCast, HW1.out]; exact HM.out⟩

set_option maxHeartbeats 4000000 in
theorem sStep10 {R : List OR} (xs : List Stp) (en d hs : List Int) (rs : List Bool) (a ea ha : Option Addr) (ac ec hc : Nat) (w0 : World) (mb : Nat) (W : World) (c : Cf) (lv mv tv sv : Value) (h : MSp R xs en hs a ea ha ac ec hc w0 mb W c lv mv tv sv) (v : Vld xs en d hs rs) (ok : Okc xs hs rs c) (hT : TRow w0 a xs) (hR : Row w0 ea en) (hH : Row w0 ha hs) (n : Int) (t : List Int) (hx : xs[c.pc]? = some (10, n, t)) (hlt16 : top c.st < 16) :
    Calls Tryd.prog 42 #[.pointer (some ⟨mb, 0, none⟩)] W fun e W' => e = .returned (.bool true) ∧ (∃ lv' mv' tv' sv', MSp R xs en hs a ea ha ac ec hc w0 mb W' { c with pc := c.pc + 1, st := c.st.dropLast ++ [c.M[(top c.st).toNat]?.getD 0] } lv' mv' tv' sv') := by
  obtain ⟨c0, c1, c2, c3, c4, c5, c6, c7⟩ := h.cells
  have f7 := h.frz 7
  have hlt := h.lt
  have hpl := (List.getElem?_eq_some_iff.1 hx).1
  obtain ⟨l1, l2, l60⟩ := nestO_length v.nest
  obtain ⟨b, off, rfl, hat⟩ := hT.at (by intro h0; rw [h0] at hpl; simp at hpl)
  obtain ⟨op', n', t', ta, tc, x0, x1, x2, hbw, hts, HTR, HX⟩ := hat W h.bel c.pc hpl
  obtain ⟨e1, e2, e3⟩ : op' = 10 ∧ n' = n ∧ t' = t := by have := HX.out; rw [hx] at this; simpa using this.symm
  subst op'
  subst n'
  subst t'
  have hbb : ¬ b = mb := by omega
  have hbb' : ¬ mb = b := by omega
  have hbW : b < W.heap.size := Nat.lt_of_lt_of_le hbw h.bel.size
  have hp60 : c.pc < 60 := by omega
  have hpI : (c.pc : Int) < xs.length := by omega
  have h4 := ok.le4 v
  have hnd : 1 ≤ c.st.length := by have := ok.need v hx; simp [offN] at this; omega
  have HP := hid (h.pre (.int .i64 10) (.int .i64 n) (.slice ta t.length tc))
  have htw := top_word ok.st
  have HOK := hid (And.intro v (And.intro ok (And.intro hT (And.intro hR (And.intro hH hx)))))
  have hmw : ¬ mb = W.heap.size := by omega
  have hwm : ¬ W.heap.size = mb := by omega
  have HSV : Hid (∀ k, sv.ownBlock = some k → k < W.heap.size) := fun k hk => (h.rows.2.2.2.lt k hk).2
  have HTV : Hid (∀ k, tv.ownBlock = some k → k < W.heap.size) := fun k hk => (h.rows.2.2.1.lt k hk).2
  clear c1 c2 c3 c4 c5 c6 h hat HX l1 l2 hT hR hH v
  go_enter Tryd.func42, Tryd.ntmps42
  have hin : ∀ w, Calls Tryd.prog 40 #[.int .i64 10, .int .i64 4, .int .i64 9] w fun e w' => e = .returned (.bool false) ∧ w' = w := fun w => l1In_any 10 4 9 w
  go_wp2_with fail
  obtain ⟨MX, y0, y1, y2, hlX⟩ := HP.out
  generalize ((W.setCell ⟨mb, 7, none⟩ (.int .i64 ((c.pc : Int) + 1))).alloc (.cells #[.int .i64 10, .int .i64 n, .slice ta t.length tc] 59)) = X at MX y0 y1 y2 hlX
  clear c0 c7 f7 x0 x1 x2 HP
  refine (sPop_any _ _ _ _ _ _ _ _ _ _ _ X _ _ _ _ _ MX (by simp only [List.length_dropLast]; omega) (by simp only [List.length_dropLast]; omega)).mono ?_
  rintro e X2 ⟨rfl, ⟨sv2, MX2, ebX2⟩, g2⟩
  simp only [] at MX2 ⊢
  replace y0 := grown_far g2 y0 (by simp; omega)
  replace y1 := grown_far g2 y1 (by simp; omega)
  replace y2 := grown_far g2 y2 (by simp; omega)
  have hlX2 : W.heap.size < X2.heap.size := Nat.lt_of_lt_of_le hlX g2.size
  obtain ⟨m, hm⟩ := Int.eq_ofNat_of_zero_le htw.1
  have HTO := hid hm
  rw [hm] at hlt16 ⊢
  have hm16 : m < 16 := by omega
  clear hm htw
  obtain ⟨s1, hs1⟩ : ∃ s1, c.st.dropLast = s1 := ⟨_, rfl⟩
  rw [hs1] at MX2
  have hs14 : s1.length ≤ 4 := by rw [← hs1]; simp; omega
  have HS1 := hid hs1
  clear hs1
  have hM16 : c.M.length = 16 := HOK.out.2.1.M16
  obtain ⟨gl, lc, rfl, hgl, hBl, hcl⟩ := row_some MX2.rows.2.1 (by simp only []; omega)
  obtain ⟨u, hu⟩ : ∃ u, c.M[m]? = some u := ⟨_, List.getElem?_eq_getElem (by omega)⟩
  have kl := row_cell MX2.rows.2.1 hu
  have k4 := MX2.cells.2.2.2.2.1
  have flz := row_frz MX2.rows.2.1 m
  have hgm : ¬ gl = mb := fun e => by
    have := MX2.sep.2
    rw [List.pairwise_cons] at this
    rcases this.1 _ (List.mem_cons_of_mem _ (List.mem_cons_self ..)) with h1 | h1
    · cases h1
    · exact h1 (by rw [← e]; rfl)
  have hmL : (m : Int) < c.M.length := by omega
  have hmN : m < c.M.length := by omega
  clear hM16
  have HSV2 : Hid (∀ k, sv2.ownBlock = some k → k = W.heap.size → False) := by
    intro k hk he
    rw [ebX2] at hk
    have h1 := HSV.out _ hk
    omega
  obtain ⟨sa, sc, rfl⟩ := slice_of_owned MX2.rows.2.2.2
  have hown : X2.ownsRow w0.heap.size 3 1 (.slice sa s1.length sc) s1.length (ints s1) := MX2.rows.2.2.2
  have k6 := MX2.cells.2.2.2.2.2.2.1
  have hmX := MX2.lt.2
  obtain ⟨i3, hi3, hz30, hz31, hz32⟩ := info_parts info3
  have HPU : Hid (∀ w1 g cap, w1.ownsRow w0.heap.size 3 1 (.slice (some ⟨g, 0, none⟩) (s1.length + 1) cap) (s1.length + 1) (ints s1 ++ [.int .i64 u]) → ((X2.alloc (.cells #[.int .i64 u] 3)).drew).grownBy w1 (Value.slice sa s1.length sc).ownBlock → ((Value.slice sa s1.length sc).ownBlock = some g ∨ g = X2.heap.size + 1) → Hid (MSp R xs en hs (some ⟨b, off, none⟩) ea ha ac ec hc w0 mb (w1.setCell ⟨mb, 6, none⟩ (.slice (some ⟨g, 0, none⟩) (s1.length + 1) cap)) { c with pc := c.pc + 1, st := s1 ++ [u] } lv (.slice (some ⟨gl, 0, none⟩) c.M.length lc) tv (.slice (some ⟨g, 0, none⟩) (s1.length + 1) cap)) ∧ w1.cell? ⟨mb, 6, none⟩ = some (.slice sa s1.length sc) ∧ w1.frozen? ⟨mb, 6, none⟩ = false ∧ mb < w1.heap.size ∧ w1.cell? ⟨W.heap.size, 0, none⟩ = some (.int .i64 10)) := by
    intro w1 g cap q1 q2 q3
    obtain ⟨z1, z2, z3, z4⟩ := MX2.pushSt (below1 X2 _).drew q1 q2 q3 (by omega)
    refine ⟨z1, z2, z3, z4, grown_far q2 ?_ (fun e => HSV2.out _ e rfl)⟩
    have := (below1 X2 (.cells #[.int .i64 u] 3)).cell (p := ⟨W.heap.size, 0, none⟩) hlX2
    exact this.trans y0
  have HU : Hid (c.M[(top c.st).toNat]?.getD 0 = u) := by show _ = _; rw [HTO.out, Int.toNat_natCast, hu]; rfl
  clear MX2 MX hu g2 ebX2 y1 y2
  go_wp2
  go_region_law
    ((refine step_append_lies _ (by rfl) _ _ _ (by rfl) w0.heap.size 3 i3 _ 1 8 Tryd.underlying23 hi3 hz30 hz31 hz32 rfl (by omega) _ _ _ (by rfl) ((hown.alloc _).drew)
        ⟨X2.heap.size, 0, none⟩ 1 1 [.int .i64 u] (by rfl) (by rfl) (news_d X2 _ 3) (by simp [Value.oneCell'])
        (by omega) (by unfold maxLen; omega) (by omega) (by simp; omega) (X2.heap.size + 1) (by simp) ?_; intro g cap w1 hown1 hgrow hat hlt1; obtain ⟨HMP, k61, f61, m61, y01⟩ := HPU.out _ _ _ hown1 hgrow hat; clear hown1 hgrow hat hlt1))
  all_goals
    go_wp2_with (go_at_call 40; refine (hin _).mono ?_; rintro e w' ⟨rfl, rfl⟩)
    go_ret
    exact ⟨rfl, _, _, _, _, by rw [HU.out, HS1.out]; exact HMP.out⟩

set_option maxHeartbeats 4000000 in
theorem sTrap10 {R : List OR} (xs : List Stp) (en d hs : List Int) (rs : List Bool) (a ea ha : Option Addr) (ac ec hc : Nat) (w0 : World) (mb : Nat) (W : World) (c : Cf) (lv mv tv sv : Value) (h : MSp R xs en hs a ea ha ac ec hc w0 mb W c lv mv tv sv) (v : Vld xs en d hs rs) (ok : Okc xs hs rs c) (hT : TRow w0 a xs) (hR : Row w0 ea en) (hH : Row w0 ha hs) (n : Int) (t : List Int) (hx : xs[c.pc]? = some (10, n, t)) (hlt16 : ¬ top c.st < 16) :
    Calls Tryd.prog 42 #[.pointer (some ⟨mb, 0, none⟩)] W fun e W' => e = .returned (.bool false) ∧ (∃ c' lv' mv' tv' sv', MSp R xs en hs a ea ha ac ec hc w0 mb W' c' lv' mv' tv' sv' ∧ c'.L = c.L ∧ c'.M = c.M ∧ c'.T = c.T) := by
  obtain ⟨c0, c1, c2, c3, c4, c5, c6, c7⟩ := h.cells
  have f7 := h.frz 7
  have hlt := h.lt
  have hpl := (List.getElem?_eq_some_iff.1 hx).1
  obtain ⟨l1, l2, l60⟩ := nestO_length v.nest
  obtain ⟨b, off, rfl, hat⟩ := hT.at (by intro h0; rw [h0] at hpl; simp at hpl)
  obtain ⟨op', n', t', ta, tc, x0, x1, x2, hbw, hts, HTR, HX⟩ := hat W h.bel c.pc hpl
  obtain ⟨e1, e2, e3⟩ : op' = 10 ∧ n' = n ∧ t' = t := by have := HX.out; rw [hx] at this; simpa using this.symm
  subst op'
  subst n'
  subst t'
  have hbb : ¬ b = mb := by omega
  have hbb' : ¬ mb = b := by omega
  have hbW : b < W.heap.size := Nat.lt_of_lt_of_le hbw h.bel.size
  have hp60 : c.pc < 60 := by omega
  have hpI : (c.pc : Int) < xs.length := by omega
  have h4 := ok.le4 v
  have hnd : 1 ≤ c.st.length := by have := ok.need v hx; simp [offN] at this; omega
  have HP := hid (h.pre (.int .i64 10) (.int .i64 n) (.slice ta t.length tc))
  have HOK := hid (And.intro v (And.intro ok (And.intro hT (And.intro hR (And.intro hH hx)))))
  have hmw : ¬ mb = W.heap.size := by omega
  have hwm : ¬ W.heap.size = mb := by omega
  have HSV : Hid (∀ k, sv.ownBlock = some k → k < W.heap.size) := fun k hk => (h.rows.2.2.2.lt k hk).2
  have HTV : Hid (∀ k, tv.ownBlock = some k → k < W.heap.size) := fun k hk => (h.rows.2.2.1.lt k hk).2
  clear c1 c2 c3 c4 c5 c6 h hat HX l1 l2 hT hR hH v
  go_enter Tryd.func42, Tryd.ntmps42
  go_wp2_with fail
  obtain ⟨MX, y0, y1, y2, hlX⟩ := HP.out
  generalize ((W.setCell ⟨mb, 7, none⟩ (.int .i64 ((c.pc : Int) + 1))).alloc (.cells #[.int .i64 10, .int .i64 n, .slice ta t.length tc] 59)) = X at MX y0 y1 y2 hlX
  clear c0 c7 f7 x0 x1 x2 HP
  refine (sPop_any _ _ _ _ _ _ _ _ _ _ _ X _ _ _ _ _ MX (by simp only [List.length_dropLast]; omega) (by simp only [List.length_dropLast]; omega)).mono ?_
  rintro e X2 ⟨rfl, ⟨sv2, MX2, ebX2⟩, g2⟩
  simp only [] at MX2 ⊢
  replace y0 := grown_far g2 y0 (by simp; omega)
  replace y1 := grown_far g2 y1 (by simp; omega)
  replace y2 := grown_far g2 y2 (by simp; omega)
  have hlX2 : W.heap.size < X2.heap.size := Nat.lt_of_lt_of_le hlX g2.size
  have HM := hid MX2
  clear MX2 MX g2
  generalize top c.st = w1 at hlt16 ⊢
  go_wp2
  go_ret
  exact ⟨rfl, _, _, _, _, _, HM.out, rfl, rfl, rfl⟩
end

section
open Go.RowKit
set_option linter.unusedVariables false
set_option linter.unusedSimpArgs false
set_option maxRecDepth 100000

set_option maxHeartbeats 4000000 in
theorem sStep4 {R : List OR} (xs : List Stp) (en d hs : List Int) (rs : List Bool) (a ea ha : Option Addr) (ac ec hc : Nat) (w0 : World) (mb : Nat) (W : World) (c : Cf) (lv mv tv sv : Value) (h : MSp R xs en hs a ea ha ac ec hc w0 mb W c lv mv tv sv) (v : Vld xs en d hs rs) (ok : Okc xs hs rs c) (hT : TRow w0 a xs) (hR : Row w0 ea en) (hH : Row w0 ha hs) (n : Int) (t : List Int) (hx : xs[c.pc]? = some (4, n, t)) :
    Calls Tryd.prog 42 #[.pointer (some ⟨mb, 0, none⟩)] W fun e W' => e = .returned (.bool (doB 4 (top c.st))) ∧ (∃ lv' mv' tv' sv', MSp R xs en hs a ea ha ac ec hc w0 mb W' { c with pc := c.pc + 1, st := c.st.dropLast.dropLast ++ [doN 4 (top c.st.dropLast) (top c.st)] } lv' mv' tv' sv') := by
  obtain ⟨c0, c1, c2, c3, c4, c5, c6, c7⟩ := h.cells
  have f7 := h.frz 7
  have hlt := h.lt
  have hpl := (List.getElem?_eq_some_iff.1 hx).1
  obtain ⟨l1, l2, l60⟩ := nestO_length v.nest
  obtain ⟨b, off, rfl, hat⟩ := hT.at (by intro h0; rw [h0] at hpl; simp at hpl)
  obtain ⟨op', n', t', ta, tc, x0, x1, x2, hbw, hts, HTR, HX⟩ := hat W h.bel c.pc hpl
  obtain ⟨e1, e2, e3⟩ : op' = 4 ∧ n' = n ∧ t' = t := by have := HX.out; rw [hx] at this; simpa using this.symm
  subst op'
  subst n'
  subst t'
  have hbb : ¬ b = mb := by omega
  have hbb' : ¬ mb = b := by omega
  have hbW : b < W.heap.size := Nat.lt_of_lt_of_le hbw h.bel.size
  have hp60 : c.pc < 60 := by omega
  have hpI : (c.pc : Int) < xs.length := by omega
  have h4 := ok.le4 v
  have hnd : 2 ≤ c.st.length := by have := ok.need v hx; simp [offN] at this; omega
  have HP := hid (h.pre (.int .i64 4) (.int .i64 n) (.slice ta t.length tc))
  have hdo := fun w => l5Do_any 4 (top c.st.dropLast) (top c.st) w (top_word (wds_drop ok.st)) (top_word ok.st)
  have HOK := hid (And.intro v (And.intro ok (And.intro hT (And.intro hR (And.intro hH hx)))))
  have hmw : ¬ mb = W.heap.size := by omega
  have hwm : ¬ W.heap.size = mb := by omega
  have HSV : Hid (∀ k, sv.ownBlock = some k → k < W.heap.size) := fun k hk => (h.rows.2.2.2.lt k hk).2
  have HTV : Hid (∀ k, tv.ownBlock = some k → k < W.heap.size) := fun k hk => (h.rows.2.2.1.lt k hk).2
  clear c1 c2 c3 c4 c5 c6 h hat HX l1 l2 hT hR hH v
  go_enter Tryd.func42, Tryd.ntmps42
  have hin : ∀ w, Calls Tryd.prog 40 #[.int .i64 4, .int .i64 4, .int .i64 9] w fun e w' => e = .returned (.bool true) ∧ w' = w := fun w => l1In_any 4 4 9 w
  have hD1 : Hid (_) := hid (rfl : doB 4 (top c.st) = doB 4 (top c.st))
  obtain ⟨dN, hdN⟩ : ∃ z, doN 4 (top c.st.dropLast) (top c.st) = z := ⟨_, rfl⟩
  obtain ⟨dB, hdB⟩ : ∃ z, doB 4 (top c.st) = z := ⟨_, rfl⟩
  rw [hdN, hdB] at hdo
  have HDN := hid (And.intro hdN hdB)
  have HDO := hid hdo
  clear hdN hdB hdo hD1
  obtain ⟨MX, y0, y1, y2, hlX⟩ := HP.out
  go_wp2_with (go_at_call 40; refine (hin _).mono ?_; rintro e w' ⟨rfl, hw'⟩; subst w')
  generalize ((W.setCell ⟨mb, 7, none⟩ (.int .i64 ((c.pc : Int) + 1))).alloc (.cells #[.int .i64 4, .int .i64 n, .slice ta t.length tc] 59)) = X at MX y0 y1 y2 hlX
  clear c0 c7 f7 x0 x1 x2 HP
  refine (sPop_any _ _ _ _ _ _ _ _ _ _ _ X _ _ _ _ _ MX (by simp only [List.length_dropLast]; omega) (by simp only [List.length_dropLast]; omega)).mono ?_
  rintro e X2 ⟨rfl, ⟨sv2, MX2, ebX2⟩, g2⟩
  simp only [] at MX2 ⊢
  replace y0 := grown_far g2 y0 (by simp; omega)
  replace y1 := grown_far g2 y1 (by simp; omega)
  replace y2 := grown_far g2 y2 (by simp; omega)
  have hlX2 : W.heap.size < X2.heap.size := Nat.lt_of_lt_of_le hlX g2.size
  go_wp2_with fail
  refine (sPop_any _ _ _ _ _ _ _ _ _ _ _ X2 _ _ _ _ _ MX2 (by simp only [List.length_dropLast]; omega) (by simp only [List.length_dropLast]; omega)).mono ?_
  rintro e X3 ⟨rfl, ⟨sv3, MX3, ebX3⟩, g3⟩
  simp only [] at MX3 ⊢
  replace y0 := grown_far g3 y0 (by simp; omega)
  replace y1 := grown_far g3 y1 (by simp; omega)
  replace y2 := grown_far g3 y2 (by simp; omega)
  have hlX3 : W.heap.size < X3.heap.size := Nat.lt_of_lt_of_le hlX2 g3.size
  go_wp2_with fail
  refine (HDO.out _).mono ?_
  rintro e X4 ⟨rfl, hX4⟩
  subst X4
  obtain ⟨s1, hs1⟩ : ∃ s1, c.st.dropLast.dropLast = s1 := ⟨_, rfl⟩
  rw [hs1] at MX3
  have hs14 : s1.length ≤ 4 := by rw [← hs1]; simp; omega
  have HS1 := hid hs1
  clear hs1
  have HSV2 : Hid (∀ k, sv3.ownBlock = some k → k = W.heap.size → False) := by
    intro k hk he
    rw [ebX3, ebX2] at hk
    have h1 := HSV.out _ hk
    omega
  obtain ⟨sa, sc, rfl⟩ := slice_of_owned MX3.rows.2.2.2
  have hown : X3.ownsRow w0.heap.size 3 1 (.slice sa s1.length sc) s1.length (ints s1) := MX3.rows.2.2.2
  have k6 := MX3.cells.2.2.2.2.2.2.1
  have hmX := MX3.lt.2
  obtain ⟨i3, hi3, hz30, hz31, hz32⟩ := info_parts info3
  have HPU : Hid (∀ w1 g cap, w1.ownsRow w0.heap.size 3 1 (.slice (some ⟨g, 0, none⟩) (s1.length + 1) cap) (s1.length + 1) (ints s1 ++ [.int .i64 dN]) → ((X3.alloc (.cells #[.int .i64 dN] 3))).grownBy w1 (Value.slice sa s1.length sc).ownBlock → ((Value.slice sa s1.length sc).ownBlock = some g ∨ g = X3.heap.size + 1) → Hid (MSp R xs en hs (some ⟨b, off, none⟩) ea ha ac ec hc w0 mb (w1.setCell ⟨mb, 6, none⟩ (.slice (some ⟨g, 0, none⟩) (s1.length + 1) cap)) { c with pc := c.pc + 1, st := s1 ++ [dN] } lv mv tv (.slice (some ⟨g, 0, none⟩) (s1.length + 1) cap)) ∧ w1.cell? ⟨mb, 6, none⟩ = some (.slice sa s1.length sc) ∧ w1.frozen? ⟨mb, 6, none⟩ = false ∧ mb < w1.heap.size ∧ w1.cell? ⟨W.heap.size, 0, none⟩ = some (.int .i64 4)) := by
    intro w1 g cap q1 q2 q3
    obtain ⟨z1, z2, z3, z4⟩ := MX3.pushSt (below1 X3 _) q1 q2 q3 (by omega)
    refine ⟨z1, z2, z3, z4, grown_far q2 ?_ (fun e => HSV2.out _ e rfl)⟩
    have := (below1 X3 (.cells #[.int .i64 dN] 3)).cell (p := ⟨W.heap.size, 0, none⟩) hlX3
    exact this.trans y0
  clear MX3 MX2 MX g2 g3 ebX2 ebX3 y1 y2
  go_wp2_with (at_builtin; refine wpList_append_lies _ rfl _ _ 23 rfl w0.heap.size 3 i3 (.int .i64 0) 1 8 Tryd.underlying23 hi3 hz30 hz31 hz32 rfl (by decide) _ _ _ rfl (hown.alloc _) ⟨X3.heap.size, 0, none⟩ 1 1 [.int .i64 dN] rfl rfl (news_at0 X3 _ 3) (by simp [Value.oneCell']) (by decide) (by unfold maxLen; omega) (by omega) (by simp; omega) (X3.heap.size + 1) (by simp) ?_)
  intro g cap w1 hown1 hgrow hat hlt1
  obtain ⟨HMP, k61, f61, m61, y01⟩ := HPU.out _ _ _ hown1 hgrow hat
  clear hown1 hgrow hat hlt1
  go_wp2
  go_ret
  exact ⟨ret_bool (by rw [HDN.out.2]), _, _, _, _, by rw [HDN.out.1, HS1.out]; exact HMP.out⟩

set_option maxHeartbeats 4000000 in
theorem sStep5 {R : List OR} (xs : List Stp) (en d hs : List Int) (rs : List Bool) (a ea ha : Option Addr) (ac ec hc : Nat) (w0 : World) (mb : Nat) (W : World) (c : Cf) (lv mv tv sv : Value) (h : MSp R xs en hs a ea ha ac ec hc w0 mb W c lv mv tv sv) (v : Vld xs en d hs rs) (ok : Okc xs hs rs c) (hT : TRow w0 a xs) (hR : Row w0 ea en) (hH : Row w0 ha hs) (n : Int) (t : List Int) (hx : xs[c.pc]? = some (5, n, t)) :
    Calls Tryd.prog 42 #[.pointer (some ⟨mb, 0, none⟩)] W fun e W' => e = .returned (.bool (doB 5 (top c.st))) ∧ (∃ lv' mv' tv' sv', MSp R xs en hs a ea ha ac ec hc w0 mb W' { c with pc := c.pc + 1, st := c.st.dropLast.dropLast ++ [doN 5 (top c.st.dropLast) (top c.st)] } lv' mv' tv' sv') := by
  obtain ⟨c0, c1, c2, c3, c4, c5, c6, c7⟩ := h.cells
  have f7 := h.frz 7
  have hlt := h.lt
  have hpl := (List.getElem?_eq_some_iff.1 hx).1
  obtain ⟨l1, l2, l60⟩ := nestO_length v.nest
  obtain ⟨b, off, rfl, hat⟩ := hT.at (by intro h0; rw [h0] at hpl; simp at hpl)
  obtain ⟨op', n', t', ta, tc, x0, x1, x2, hbw, hts, HTR, HX⟩ := hat W h.bel c.pc hpl
  obtain ⟨e1, e2, e3⟩ : op' = 5 ∧ n' = n ∧ t' = t := by have := HX.out; rw [hx] at this; simpa using this.symm
  subst op'
  subst n'
  subst t'
  have hbb : ¬ b = mb := by omega
  have hbb' : ¬ mb = b := by omega
  have hbW : b < W.heap.size := Nat.lt_of_lt_of_le hbw h.bel.size
  have hp60 : c.pc < 60 := by omega
  have hpI : (c.pc : Int) < xs.length := by omega
  have h4 := ok.le4 v
  have hnd : 2 ≤ c.st.length := by have := ok.need v hx; simp [offN] at this; omega
  have HP := hid (h.pre (.int .i64 5) (.int .i64 n) (.slice ta t.length tc))
  have hdo := fun w => l5Do_any 5 (top c.st.dropLast) (top c.st) w (top_word (wds_drop ok.st)) (top_word ok.st)
  have HOK := hid (And.intro v (And.intro ok (And.intro hT (And.intro hR (And.intro hH hx)))))
  have hmw : ¬ mb = W.heap.size := by omega
  have hwm : ¬ W.heap.size = mb := by omega
  have HSV : Hid (∀ k, sv.ownBlock = some k → k < W.heap.size) := fun k hk => (h.rows.2.2.2.lt k hk).2
  have HTV : Hid (∀ k, tv.ownBlock = some k → k < W.heap.size) := fun k hk => (h.rows.2.2.1.lt k hk).2
  clear c1 c2 c3 c4 c5 c6 h hat HX l1 l2 hT hR hH v
  go_enter Tryd.func42, Tryd.ntmps42
  have hin : ∀ w, Calls Tryd.prog 40 #[.int .i64 5, .int .i64 4, .int .i64 9] w fun e w' => e = .returned (.bool true) ∧ w' = w := fun w => l1In_any 5 4 9 w
  have hD1 : Hid (_) := hid (rfl : doB 5 (top c.st) = doB 5 (top c.st))
  obtain ⟨dN, hdN⟩ : ∃ z, doN 5 (top c.st.dropLast) (top c.st) = z := ⟨_, rfl⟩
  obtain ⟨dB, hdB⟩ : ∃ z, doB 5 (top c.st) = z := ⟨_, rfl⟩
  rw [hdN, hdB] at hdo
  have HDN := hid (And.intro hdN hdB)
  have HDO := hid hdo
  clear hdN hdB hdo hD1
  obtain ⟨MX, y0, y1, y2, hlX⟩ := HP.out
  go_wp2_with (go_at_call 40; refine (hin _).mono ?_; rintro e w' ⟨rfl, hw'⟩; subst w')
  generalize ((W.setCell ⟨mb, 7, none⟩ (.int .i64 ((c.pc : Int) + 1))).alloc (.cells #[.int .i64 5, .int .i64 n, .slice ta t.length tc] 59)) = X at MX y0 y1 y2 hlX
  clear c0 c7 f7 x0 x1 x2 HP
  refine (sPop_any _ _ _ _ _ _ _ _ _ _ _ X _ _ _ _ _ MX (by simp only [List.length_dropLast]; omega) (by simp only [List.length_dropLast]; omega)).mono ?_
  rintro e X2 ⟨rfl, ⟨sv2, MX2, ebX2⟩, g2⟩
  simp only [] at MX2 ⊢
  replace y0 := grown_far g2 y0 (by simp; omega)
  replace y1 := grown_far g2 y1 (by simp; omega)
  replace y2 := grown_far g2 y2 (by simp; omega)
  have hlX2 : W.heap.size < X2.heap.size := Nat.lt_of_lt_of_le hlX g2.size
  go_wp2_with fail
  refine (sPop_any _ _ _ _ _ _ _ _ _ _ _ X2 _ _ _ _ _ MX2 (by simp only [List.length_dropLast]; omega) (by simp only [List.length_dropLast]; omega)).mono ?_
  rintro e X3 ⟨rfl, ⟨sv3, MX3, ebX3⟩, g3⟩
  simp only [] at MX3 ⊢
  replace y0 := grown_far g3 y0 (by simp; omega)
  replace y1 := grown_far g3 y1 (by simp; omega)
  replace y2 := grown_far g3 y2 (by simp; omega)
  have hlX3 : W.heap.size < X3.heap.size := Nat.lt_of_lt_of_le hlX2 g3.size
  go_wp2_with fail
  refine (HDO.out _).mono ?_
  rintro e X4 ⟨rfl, hX4⟩
  subst X4
  obtain ⟨s1, hs1⟩ : ∃ s1, c.st.dropLast.dropLast = s1 := ⟨_, rfl⟩
  rw [hs1] at MX3
  have hs14 : s1.length ≤ 4 := by rw [← hs1]; simp; omega
  have HS1 := hid hs1
  clear hs1
  have HSV2 : Hid (∀ k, sv3.ownBlock = some k → k = W.heap.size → False) := by
    intro k hk he
    rw [ebX3, ebX2] at hk
    have h1 := HSV.out _ hk
    omega
  obtain ⟨sa, sc, rfl⟩ := slice_of_owned MX3.rows.2.2.2
  have hown : X3.ownsRow w0.heap.size 3 1 (.slice sa s1.length sc) s1.length (ints s1) := MX3.rows.2.2.2
  have k6 := MX3.cells.2.2.2.2.2.2.1
  have hmX := MX3.lt.2
  obtain ⟨i3, hi3, hz30, hz31, hz32⟩ := info_parts info3
  have HPU : Hid (∀ w1 g cap, w1.ownsRow w0.heap.size 3 1 (.slice (some ⟨g, 0, none⟩) (s1.length + 1) cap) (s1.length + 1) (ints s1 ++ [.int .i64 dN]) → ((X3.alloc (.cells #[.int .i64 dN] 3))).grownBy w1 (Value.slice sa s1.length sc).ownBlock → ((Value.slice sa s1.length sc).ownBlock = some g ∨ g = X3.heap.size + 1) → Hid (MSp R xs en hs (some ⟨b, off, none⟩) ea ha ac ec hc w0 mb (w1.setCell ⟨mb, 6, none⟩ (.slice (some ⟨g, 0, none⟩) (s1.length + 1) cap)) { c with pc := c.pc + 1, st := s1 ++ [dN] } lv mv tv (.slice (some ⟨g, 0, none⟩) (s1.length + 1) cap)) ∧ w1.cell? ⟨mb, 6, none⟩ = some (.slice sa s1.length sc) ∧ w1.frozen? ⟨mb, 6, none⟩ = false ∧ mb < w1.heap.size ∧ w1.cell? ⟨W.heap.size, 0, none⟩ = some (.int .i64 5)) := by
    intro w1 g cap q1 q2 q3
    obtain ⟨z1, z2, z3, z4⟩ := MX3.pushSt (below1 X3 _) q1 q2 q3 (by omega)
    refine ⟨z1, z2, z3, z4, grown_far q2 ?_ (fun e => HSV2.out _ e rfl)⟩
    have := (below1 X3 (.cells #[.int .i64 dN] 3)).cell (p := ⟨W.heap.size, 0, none⟩) hlX3
    exact this.trans y0
  clear MX3 MX2 MX g2 g3 ebX2 ebX3 y1 y2
  go_wp2_with (at_builtin; refine wpList_append_lies _ rfl _ _ 23 rfl w0.heap.size 3 i3 (.int .i64 0) 1 8 Tryd.underlying23 hi3 hz30 hz31 hz32 rfl (by decide) _ _ _ rfl (hown.alloc _) ⟨X3.heap.size, 0, none⟩ 1 1 [.int .i64 dN] rfl rfl (news_at0 X3 _ 3) (by simp [Value.oneCell']) (by decide) (by unfold maxLen; omega) (by omega) (by simp; omega) (X3.heap.size + 1) (by simp) ?_)
  intro g cap w1 hown1 hgrow hat hlt1
  obtain ⟨HMP, k61, f61, m61, y01⟩ := HPU.out _ _ _ hown1 hgrow hat
  clear hown1 hgrow hat hlt1
  go_wp2
  go_ret
  exact ⟨ret_bool (by rw [HDN.out.2]), _, _, _, _, by rw [HDN.out.1, HS1.out]; exact HMP.out⟩

set_option maxHeartbeats 4000000 in
theorem sStep6 {R : List OR} (xs : List Stp) (en d hs : List Int) (rs : List Bool) (a ea ha : Option Addr) (ac ec hc : Nat) (w0 : World) (mb : Nat) (W : World) (c : Cf) (lv mv tv sv : Value) (h : MSp R xs en hs a ea ha ac ec hc w0 mb W c lv mv tv sv) (v : Vld xs en d hs rs) (ok : Okc xs hs rs c) (hT : TRow w0 a xs) (hR : Row w0 ea en) (hH : Row w0 ha hs) (n : Int) (t : List Int) (hx : xs[c.pc]? = some (6, n, t)) :
    Calls Tryd.prog 42 #[.pointer (some ⟨mb, 0, none⟩)] W fun e W' => e = .returned (.bool (doB 6 (top c.st))) ∧ (∃ lv' mv' tv' sv', MSp R xs en hs a ea ha ac ec hc w0 mb W' { c with pc := c.pc + 1, st := c.st.dropLast.dropLast ++ [doN 6 (top c.st.dropLast) (top c.st)] } lv' mv' tv' sv') := by
  obtain ⟨c0, c1, c2, c3, c4, c5, c6, c7⟩ := h.cells
  have f7 := h.frz 7
  have hlt := h.lt
  have hpl := (List.getElem?_eq_some_iff.1 hx).1
  obtain ⟨l1, l2, l60⟩ := nestO_length v.nest
  obtain ⟨b, off, rfl, hat⟩ := hT.at (by intro h0; rw [h0] at hpl; simp at hpl)
  obtain ⟨op', n', t', ta, tc, x0, x1, x2, hbw, hts, HTR, HX⟩ := hat W h.bel c.pc hpl
  obtain ⟨e1, e2, e3⟩ : op' = 6 ∧ n' = n ∧ t' = t := by have := HX.out; rw [hx] at this; simpa using this.symm
  subst op'
  subst n'
  subst t'
  have hbb : ¬ b = mb := by omega
  have hbb' : ¬ mb = b := by omega
  have hbW : b < W.heap.size := Nat.lt_of_lt_of_le hbw h.bel.size
  have hp60 : c.pc < 60 := by omega
  have hpI : (c.pc : Int) < xs.length := by omega
  have h4 := ok.le4 v
  have hnd : 2 ≤ c.st.length := by have := ok.need v hx; simp [offN] at this; omega
  have HP := hid (h.pre (.int .i64 6) (.int .i64 n) (.slice ta t.length tc))
  have hdo := fun w => l5Do_any 6 (top c.st.dropLast) (top c.st) w (top_word (wds_drop ok.st)) (top_word ok.st)
  have HOK := hid (And.intro v (And.intro ok (And.intro hT (And.intro hR (And.intro hH hx)))))
  have hmw : ¬ mb = W.heap.size := by omega
  have hwm : ¬ W.heap.size = mb := by omega
  have HSV : Hid (∀ k, sv.ownBlock = some k → k < W.heap.size) := fun k hk => (h.rows.2.2.2.lt k hk).2
  have HTV : Hid (∀ k, tv.ownBlock = some k → k < W.heap.size) := fun k hk => (h.rows.2.2.1.lt k hk).2
  clear c1 c2 c3 c4 c5 c6 h hat HX l1 l2 hT hR hH v
  go_enter Tryd.func42, Tryd.ntmps42
  have hin : ∀ w, Calls Tryd.prog 40 #[.int .i64 6, .int .i64 4, .int .i64 9] w fun e w' => e = .returned (.bool true) ∧ w' = w := fun w => l1In_any 6 4 9 w
  have hD1 : Hid (_) := hid (rfl : doB 6 (top c.st) = doB 6 (top c.st))
  obtain ⟨dN, hdN⟩ : ∃ z, doN 6 (top c.st.dropLast) (top c.st) = z := ⟨_, rfl⟩
  obtain ⟨dB, hdB⟩ : ∃ z, doB 6 (top c.st) = z := ⟨_, rfl⟩
  rw [hdN, hdB] at hdo
  have HDN := hid (And.intro hdN hdB)
  have HDO := hid hdo
  clear hdN hdB hdo hD1
  obtain ⟨MX, y0, y1, y2, hlX⟩ := HP.out
  go_wp2_with (go_at_call 40; refine (hin _).mono ?_; rintro e w' ⟨rfl, hw'⟩; subst w')
  generalize ((W.setCell ⟨mb, 7, none⟩ (.int .i64 ((c.pc : Int) + 1))).alloc (.cells #[.int .i64 6, .int .i64 n, .slice ta t.length tc] 59)) = X at MX y0 y1 y2 hlX
  clear c0 c7 f7 x0 x1 x2 HP
  refine (sPop_any _ _ _ _ _ _ _ _ _ _ _ X _ _ _ _ _ MX (by simp only [List.length_dropLast]; omega) (by simp only [List.length_dropLast]; omega)).mono ?_
  rintro e X2 ⟨rfl, ⟨sv2, MX2, ebX2⟩, g2⟩
  simp only [] at MX2 ⊢
  replace y0 := grown_far g2 y0 (by simp; omega)
  replace y1 := grown_far g2 y1 (by simp; omega)
  replace y2 := grown_far g2 y2 (by simp; omega)
  have hlX2 : W.heap.size < X2.heap.size := Nat.lt_of_lt_of_le hlX g2.size
  go_wp2_with fail
  refine (sPop_any _ _ _ _ _ _ _ _ _ _ _ X2 _ _ _ _ _ MX2 (by simp only [List.length_dropLast]; omega) (by simp only [List.length_dropLast]; omega)).mono ?_
  rintro e X3 ⟨rfl, ⟨sv3, MX3, ebX3⟩, g3⟩
  simp only [] at MX3 ⊢
  replace y0 := grown_far g3 y0 (by simp; omega)
  replace y1 := grown_far g3 y1 (by simp; omega)
  replace y2 := grown_far g3 y2 (by simp; omega)
  have hlX3 : W.heap.size < X3.heap.size := Nat.lt_of_lt_of_le hlX2 g3.size
  go_wp2_with fail
  refine (HDO.out _).mono ?_
  rintro e X4 ⟨rfl, hX4⟩
  subst X4
  obtain ⟨s1, hs1⟩ : ∃ s1, c.st.dropLast.dropLast = s1 := ⟨_, rfl⟩
  rw [hs1] at MX3
  have hs14 : s1.length ≤ 4 := by rw [← hs1]; simp; omega
  have HS1 := hid hs1
  clear hs1
  have HSV2 : Hid (∀ k, sv3.ownBlock = some k → k = W.heap.size → False) := by
    intro k hk he
    rw [ebX3, ebX2] at hk
    have h1 := HSV.out _ hk
    omega
  obtain ⟨sa, sc, rfl⟩ := slice_of_owned MX3.rows.2.2.2
  have hown : X3.ownsRow w0.heap.size 3 1 (.slice sa s1.length sc) s1.length (ints s1) := MX3.rows.2.2.2
  have k6 := MX3.cells.2.2.2.2.2.2.1
  have hmX := MX3.lt.2
  obtain ⟨i3, hi3, hz30, hz31, hz32⟩ := info_parts info3
  have HPU : Hid (∀ w1 g cap, w1.ownsRow w0.heap.size 3 1 (.slice (some ⟨g, 0, none⟩) (s1.length + 1) cap) (s1.length + 1) (ints s1 ++ [.int .i64 dN]) → ((X3.alloc (.cells #[.int .i64 dN] 3))).grownBy w1 (Value.slice sa s1.length sc).ownBlock → ((Value.slice sa s1.length sc).ownBlock = some g ∨ g = X3.heap.size + 1) → Hid (MSp R xs en hs (some ⟨b, off, none⟩) ea ha ac ec hc w0 mb (w1.setCell ⟨mb, 6, none⟩ (.slice (some ⟨g, 0, none⟩) (s1.length + 1) cap)) { c with pc := c.pc + 1, st := s1 ++ [dN] } lv mv tv (.slice (some ⟨g, 0, none⟩) (s1.length + 1) cap)) ∧ w1.cell? ⟨mb, 6, none⟩ = some (.slice sa s1.length sc) ∧ w1.frozen? ⟨mb, 6, none⟩ = false ∧ mb < w1.heap.size ∧ w1.cell? ⟨W.heap.size, 0, none⟩ = some (.int .i64 6)) := by
    intro w1 g cap q1 q2 q3
    obtain ⟨z1, z2, z3, z4⟩ := MX3.pushSt (below1 X3 _) q1 q2 q3 (by omega)
    refine ⟨z1, z2, z3, z4, grown_far q2 ?_ (fun e => HSV2.out _ e rfl)⟩
    have := (below1 X3 (.cells #[.int .i64 dN] 3)).cell (p := ⟨W.heap.size, 0, none⟩) hlX3
    exact this.trans y0
  clear MX3 MX2 MX g2 g3 ebX2 ebX3 y1 y2
  go_wp2_with (at_builtin; refine wpList_append_lies _ rfl _ _ 23 rfl w0.heap.size 3 i3 (.int .i64 0) 1 8 Tryd.underlying23 hi3 hz30 hz31 hz32 rfl (by decide) _ _ _ rfl (hown.alloc _) ⟨X3.heap.size, 0, none⟩ 1 1 [.int .i64 dN] rfl rfl (news_at0 X3 _ 3) (by simp [Value.oneCell']) (by decide) (by unfold maxLen; omega) (by omega) (by simp; omega) (X3.heap.size + 1) (by simp) ?_)
  intro g cap w1 hown1 hgrow hat hlt1
  obtain ⟨HMP, k61, f61, m61, y01⟩ := HPU.out _ _ _ hown1 hgrow hat
  clear hown1 hgrow hat hlt1
  go_wp2
  go_ret
  exact ⟨ret_bool (by rw [HDN.out.2]), _, _, _, _, by rw [HDN.out.1, HS1.out]; exact HMP.out⟩

set_option maxHeartbeats 4000000 in
theorem sStep7 {R : List OR} (xs : List Stp) (en d hs : List Int) (rs : List Bool) (a ea ha : Option Addr) (ac ec hc : Nat) (w0 : World) (mb : Nat) (W : World) (c : Cf) (lv mv tv sv : Value) (h : MSp R xs en hs a ea ha ac ec hc w0 mb W c lv mv tv sv) (v : Vld xs en d hs rs) (ok : Okc xs hs rs c) (hT : TRow w0 a xs) (hR : Row w0 ea en) (hH : Row w0 ha hs) (n : Int) (t : List Int) (hx : xs[c.pc]? = some (7, n, t)) :
    Calls Tryd.prog 42 #[.pointer (some ⟨mb, 0, none⟩)] W fun e W' => e = .returned (.bool (doB 7 (top c.st))) ∧ (∃ lv' mv' tv' sv', MSp R xs en hs a ea ha ac ec hc w0 mb W' { c with pc := c.pc + 1, st := c.st.dropLast.dropLast ++ [doN 7 (top c.st.dropLast) (top c.st)] } lv' mv' tv' sv') := by
  obtain ⟨c0, c1, c2, c3, c4, c5, c6, c7⟩ := h.cells
  have f7 := h.frz 7
  have hlt := h.lt
  have hpl := (List.getElem?_eq_some_iff.1 hx).1
  obtain ⟨l1, l2, l60⟩ := nestO_length v.nest
  obtain ⟨b, off, rfl, hat⟩ := hT.at (by intro h0; rw [h0] at hpl; simp at hpl)
  obtain ⟨op', n', t', ta, tc, x0, x1, x2, hbw, hts, HTR, HX⟩ := hat W h.bel c.pc hpl
  obtain ⟨e1, e2, e3⟩ : op' = 7 ∧ n' = n ∧ t' = t := by have := HX.out; rw [hx] at this; simpa using this.symm
  subst op'
  subst n'
  subst t'
  have hbb : ¬ b = mb := by omega
  have hbb' : ¬ mb = b := by omega
  have hbW : b < W.heap.size := Nat.lt_of_lt_of_le hbw h.bel.size
  have hp60 : c.pc < 60 := by omega
  have hpI : (c.pc : Int) < xs.length := by omega
  have h4 := ok.le4 v
  have hnd : 2 ≤ c.st.length := by have := ok.need v hx; simp [offN] at this; omega
  have HP := hid (h.pre (.int .i64 7) (.int .i64 n) (.slice ta t.length tc))
  have hdo := fun w => l5Do_any 7 (top c.st.dropLast) (top c.st) w (top_word (wds_drop ok.st)) (top_word ok.st)
  have HOK := hid (And.intro v (And.intro ok (And.intro hT (And.intro hR (And.intro hH hx)))))
  have hmw : ¬ mb = W.heap.size := by omega
  have hwm : ¬ W.heap.size = mb := by omega
  have HSV : Hid (∀ k, sv.ownBlock = some k → k < W.heap.size) := fun k hk => (h.rows.2.2.2.lt k hk).2
  have HTV : Hid (∀ k, tv.ownBlock = some k → k < W.heap.size) := fun k hk => (h.rows.2.2.1.lt k hk).2
  clear c1 c2 c3 c4 c5 c6 h hat HX l1 l2 hT hR hH v
  go_enter Tryd.func42, Tryd.ntmps42
  have hin : ∀ w, Calls Tryd.prog 40 #[.int .i64 7, .int .i64 4, .int .i64 9] w fun e w' => e = .returned (.bool true) ∧ w' = w := fun w => l1In_any 7 4 9 w
  have hD1 : Hid (_) := hid (rfl : doB 7 (top c.st) = doB 7 (top c.st))
  obtain ⟨dN, hdN⟩ : ∃ z, doN 7 (top c.st.dropLast) (top c.st) = z := ⟨_, rfl⟩
  obtain ⟨dB, hdB⟩ : ∃ z, doB 7 (top c.st) = z := ⟨_, rfl⟩
  rw [hdN, hdB] at hdo
  have HDN := hid (And.intro hdN hdB)
  have HDO := hid hdo
  clear hdN hdB hdo hD1
  obtain ⟨MX, y0, y1, y2, hlX⟩ := HP.out
  go_wp2_with (go_at_call 40; refine (hin _).mono ?_; rintro e w' ⟨rfl, hw'⟩; subst w')
  generalize ((W.setCell ⟨mb, 7, none⟩ (.int .i64 ((c.pc : Int) + 1))).alloc (.cells #[.int .i64 7, .int .i64 n, .slice ta t.length tc] 59)) = X at MX y0 y1 y2 hlX
  clear c0 c7 f7 x0 x1 x2 HP
  refine (sPop_any _ _ _ _ _ _ _ _ _ _ _ X _ _ _ _ _ MX (by simp only [List.length_dropLast]; omega) (by simp only [List.length_dropLast]; omega)).mono ?_
  rintro e X2 ⟨rfl, ⟨sv2, MX2, ebX2⟩, g2⟩
  simp only [] at MX2 ⊢
  replace y0 := grown_far g2 y0 (by simp; omega)
  replace y1 := grown_far g2 y1 (by simp; omega)
  replace y2 := grown_far g2 y2 (by simp; omega)
  have hlX2 : W.heap.size < X2.heap.size := Nat.lt_of_lt_of_le hlX g2.size
  go_wp2_with fail
  refine (sPop_any _ _ _ _ _ _ _ _ _ _ _ X2 _ _ _ _ _ MX2 (by simp only [List.length_dropLast]; omega) (by simp only [List.length_dropLast]; omega)).mono ?_
  rintro e X3 ⟨rfl, ⟨sv3, MX3, ebX3⟩, g3⟩
  simp only [] at MX3 ⊢
  replace y0 := grown_far g3 y0 (by simp; omega)
  replace y1 := grown_far g3 y1 (by simp; omega)
  replace y2 := grown_far g3 y2 (by simp; omega)
  have hlX3 : W.heap.size < X3.heap.size := Nat.lt_of_lt_of_le hlX2 g3.size
  go_wp2_with fail
  refine (HDO.out _).mono ?_
  rintro e X4 ⟨rfl, hX4⟩
  subst X4
  obtain ⟨s1, hs1⟩ : ∃ s1, c.st.dropLast.dropLast = s1 := ⟨_, rfl⟩
  rw [hs1] at MX3
  have hs14 : s1.length ≤ 4 := by rw [← hs1]; simp; omega
  have HS1 := hid hs1
  clear hs1
  have HSV2 : Hid (∀ k, sv3.ownBlock = some k → k = W.heap.size → False) := by
    intro k hk he
    rw [ebX3, ebX2] at hk
    have h1 := HSV.out _ hk
    omega
  obtain ⟨sa, sc, rfl⟩ := slice_of_owned MX3.rows.2.2.2
  have hown : X3.ownsRow w0.heap.size 3 1 (.slice sa s1.length sc) s1.length (ints s1) := MX3.rows.2.2.2
  have k6 := MX3.cells.2.2.2.2.2.2.1
  have hmX := MX3.lt.2
  obtain ⟨i3, hi3, hz30, hz31, hz32⟩ := info_parts info3
  have HPU : Hid (∀ w1 g cap, w1.ownsRow w0.heap.size 3 1 (.slice (some ⟨g, 0, none⟩) (s1.length + 1) cap) (s1.length + 1) (ints s1 ++ [.int .i64 dN]) → ((X3.alloc (.cells #[.int .i64 dN] 3))).grownBy w1 (Value.slice sa s1.length sc).ownBlock → ((Value.slice sa s1.length sc).ownBlock = some g ∨ g = X3.heap.size + 1) → Hid (MSp R xs en hs (some ⟨b, off, none⟩) ea ha ac ec hc w0 mb (w1.setCell ⟨mb, 6, none⟩ (.slice (some ⟨g, 0, none⟩) (s1.length + 1) cap)) { c with pc := c.pc + 1, st := s1 ++ [dN] } lv mv tv (.slice (some ⟨g, 0, none⟩) (s1.length + 1) cap)) ∧ w1.cell? ⟨mb, 6, none⟩ = some (.slice sa s1.length sc) ∧ w1.frozen? ⟨mb, 6, none⟩ = false ∧ mb < w1.heap.size ∧ w1.cell? ⟨W.heap.size, 0, none⟩ = some (.int .i64 7)) := by
    intro w1 g cap q1 q2 q3
    obtain ⟨z1, z2, z3, z4⟩ := MX3.pushSt (below1 X3 _) q1 q2 q3 (by omega)
    refine ⟨z1, z2, z3, z4, grown_far q2 ?_ (fun e => HSV2.out _ e rfl)⟩
    have := (below1 X3 (.cells #[.int .i64 dN] 3)).cell (p := ⟨W.heap.size, 0, none⟩) hlX3
    exact this.trans y0
  clear MX3 MX2 MX g2 g3 ebX2 ebX3 y1 y2
  go_wp2_with (at_builtin; refine wpList_append_lies _ rfl _ _ 23 rfl w0.heap.size 3 i3 (.int .i64 0) 1 8 Tryd.underlying23 hi3 hz30 hz31 hz32 rfl (by decide) _ _ _ rfl (hown.alloc _) ⟨X3.heap.size, 0, none⟩ 1 1 [.int .i64 dN] rfl rfl (news_at0 X3 _ 3) (by simp [Value.oneCell']) (by decide) (by unfold maxLen; omega) (by omega) (by simp; omega) (X3.heap.size + 1) (by simp) ?_)
  intro g cap w1 hown1 hgrow hat hlt1
  obtain ⟨HMP, k61, f61, m61, y01⟩ := HPU.out _ _ _ hown1 hgrow hat
  clear hown1 hgrow hat hlt1
  go_wp2
  go_ret
  exact ⟨ret_bool (by rw [HDN.out.2]), _, _, _, _, by rw [HDN.out.1, HS1.out]; exact HMP.out⟩

set_option maxHeartbeats 4000000 in
theorem sStep8 {R : List OR} (xs : List Stp) (en d hs : List Int) (rs : List Bool) (a ea ha : Option Addr) (ac ec hc : Nat) (w0 : World) (mb : Nat) (W : World) (c : Cf) (lv mv tv sv : Value) (h : MSp R xs en hs a ea ha ac ec hc w0 mb W c lv mv tv sv) (v : Vld xs en d hs rs) (ok : Okc xs hs rs c) (hT : TRow w0 a xs) (hR : Row w0 ea en) (hH : Row w0 ha hs) (n : Int) (t : List Int) (hx : xs[c.pc]? = some (8, n, t)) :
    Calls Tryd.prog 42 #[.pointer (some ⟨mb, 0, none⟩)] W fun e W' => e = .returned (.bool (doB 8 (top c.st))) ∧ (∃ lv' mv' tv' sv', MSp R xs en hs a ea ha ac ec hc w0 mb W' { c with pc := c.pc + 1, st := c.st.dropLast.dropLast ++ [doN 8 (top c.st.dropLast) (top c.st)] } lv' mv' tv' sv') := by
  obtain ⟨c0, c1, c2, c3, c4, c5, c6, c7⟩ := h.cells
  have f7 := h.frz 7
  have hlt := h.lt
  have hpl := (List.getElem?_eq_some_iff.1 hx).1
  obtain ⟨l1, l2, l60⟩ := nestO_length v.nest
  obtain ⟨b, off, rfl, hat⟩ := hT.at (by intro h0; rw [h0] at hpl; simp at hpl)
  obtain ⟨op', n', t', ta, tc, x0, x1, x2, hbw, hts, HTR, HX⟩ := hat W h.bel c.pc hpl
  obtain ⟨e1, e2, e3⟩ : op' = 8 ∧ n' = n ∧ t' = t := by have := HX.out; rw [hx] at this; simpa using this.symm
  subst op'
  subst n'
  subst t'
  have hbb : ¬ b = mb := by omega
  have hbb' : ¬ mb = b := by omega
  have hbW : b < W.heap.size := Nat.lt_of_lt_of_le hbw h.bel.size
  have hp60 : c.pc < 60 := by omega
  have hpI : (c.pc : Int) < xs.length := by omega
  have h4 := ok.le4 v
  have hnd : 2 ≤ c.st.length := by have := ok.need v hx; simp [offN] at this; omega
  have HP := hid (h.pre (.int .i64 8) (.int .i64 n) (.slice ta t.length tc))
  have hdo := fun w => l5Do_any 8 (top c.st.dropLast) (top c.st) w (top_word (wds_drop ok.st)) (top_word ok.st)
  have HOK := hid (And.intro v (And.intro ok (And.intro hT (And.intro hR (And.intro hH hx)))))
  have hmw : ¬ mb = W.heap.size := by omega
  have hwm : ¬ W.heap.size = mb := by omega
  have HSV : Hid (∀ k, sv.ownBlock = some k → k < W.heap.size) := fun k hk => (h.rows.2.2.2.lt k hk).2
  have HTV : Hid (∀ k, tv.ownBlock = some k → k < W.heap.size) := fun k hk => (h.rows.2.2.1.lt k hk).2
  clear c1 c2 c3 c4 c5 c6 h hat HX l1 l2 hT hR hH v
  go_enter Tryd.func42, Tryd.ntmps42
  have hin : ∀ w, Calls Tryd.prog 40 #[.int .i64 8, .int .i64 4, .int .i64 9] w fun e w' => e = .returned (.bool true) ∧ w' = w := fun w => l1In_any 8 4 9 w
  have hD1 : Hid (_) := hid (rfl : doB 8 (top c.st) = doB 8 (top c.st))
  obtain ⟨dN, hdN⟩ : ∃ z, doN 8 (top c.st.dropLast) (top c.st) = z := ⟨_, rfl⟩
  obtain ⟨dB, hdB⟩ : ∃ z, doB 8 (top c.st) = z := ⟨_, rfl⟩
  rw [hdN, hdB] at hdo
  have HDN := hid (And.intro hdN hdB)
  have HDO := hid hdo
  clear hdN hdB hdo hD1
  obtain ⟨MX, y0, y1, y2, hlX⟩ := HP.out
  go_wp2_with (go_at_call 40; refine (hin _).mono ?_; rintro e w' ⟨rfl, hw'⟩; subst w')
  generalize ((W.setCell ⟨mb, 7, none⟩ (.int .i64 ((c.pc : Int) + 1))).alloc (.cells #[.int .i64 8, .int .i64 n, .slice ta t.length tc] 59)) = X at MX y0 y1 y2 hlX
  clear c0 c7 f7 x0 x1 x2 HP
  refine (sPop_any _ _ _ _ _ _ _ _ _ _ _ X _ _ _ _ _ MX (by simp only [List.length_dropLast]; omega) (by simp only [List.length_dropLast]; omega)).mono ?_
  rintro e X2 ⟨rfl, ⟨sv2, MX2, ebX2⟩, g2⟩
  simp only [] at MX2 ⊢
  replace y0 := grown_far g2 y0 (by simp; omega)
  replace y1 := grown_far g2 y1 (by simp; omega)
  replace y2 := grown_far g2 y2 (by simp; omega)
  have hlX2 : W.heap.size < X2.heap.size := Nat.lt_of_lt_of_le hlX g2.size
  go_wp2_with fail
  refine (sPop_any _ _ _ _ _ _ _ _ _ _ _ X2 _ _ _ _ _ MX2 (by simp only [List.length_dropLast]; omega) (by simp only [List.length_dropLast]; omega)).mono ?_
  rintro e X3 ⟨rfl, ⟨sv3, MX3, ebX3⟩, g3⟩
  simp only [] at MX3 ⊢
  replace y0 := grown_far g3 y0 (by simp; omega)
  replace y1 := grown_far g3 y1 (by simp; omega)
  replace y2 := grown_far g3 y2 (by simp; omega)
  have hlX3 : W.heap.size < X3.heap.size := Nat.lt_of_lt_of_le hlX2 g3.size
  go_wp2_with fail
  refine (HDO.out _).mono ?_
  rintro e X4 ⟨rfl, hX4⟩
  subst X4
  obtain ⟨s1, hs1⟩ : ∃ s1, c.st.dropLast.dropLast = s1 := ⟨_, rfl⟩
  rw [hs1] at MX3
  have hs14 : s1.length ≤ 4 := by rw [← hs1]; simp; omega
  have HS1 := hid hs1
  clear hs1
  have HSV2 : Hid (∀ k, sv3.ownBlock = some k → k = W.heap.size → False) := by
    intro k hk he
    rw [ebX3, ebX2] at hk
    have h1 := HSV.out _ hk
    omega
  obtain ⟨sa, sc, rfl⟩ := slice_of_owned MX3.rows.2.2.2
  have hown : X3.ownsRow w0.heap.size 3 1 (.slice sa s1.length sc) s1.length (ints s1) := MX3.rows.2.2.2
  have k6 := MX3.cells.2.2.2.2.2.2.1
  have hmX := MX3.lt.2
  obtain ⟨i3, hi3, hz30, hz31, hz32⟩ := info_parts info3
  have HPU : Hid (∀ w1 g cap, w1.ownsRow w0.heap.size 3 1 (.slice (some ⟨g, 0, none⟩) (s1.length + 1) cap) (s1.length + 1) (ints s1 ++ [.int .i64 dN]) → ((X3.alloc (.cells #[.int .i64 dN] 3))).grownBy w1 (Value.slice sa s1.length sc).ownBlock → ((Value.slice sa s1.length sc).ownBlock = some g ∨ g = X3.heap.size + 1) → Hid (MSp R xs en hs (some ⟨b, off, none⟩) ea ha ac ec hc w0 mb (w1.setCell ⟨mb, 6, none⟩ (.slice (some ⟨g, 0, none⟩) (s1.length + 1) cap)) { c with pc := c.pc + 1, st := s1 ++ [dN] } lv mv tv (.slice (some ⟨g, 0, none⟩) (s1.length + 1) cap)) ∧ w1.cell? ⟨mb, 6, none⟩ = some (.slice sa s1.length sc) ∧ w1.frozen? ⟨mb, 6, none⟩ = false ∧ mb < w1.heap.size ∧ w1.cell? ⟨W.heap.size, 0, none⟩ = some (.int .i64 8)) := by
    intro w1 g cap q1 q2 q3
    obtain ⟨z1, z2, z3, z4⟩ := MX3.pushSt (below1 X3 _) q1 q2 q3 (by omega)
    refine ⟨z1, z2, z3, z4, grown_far q2 ?_ (fun e => HSV2.out _ e rfl)⟩
    have := (below1 X3 (.cells #[.int .i64 dN] 3)).cell (p := ⟨W.heap.size, 0, none⟩) hlX3
    exact this.trans y0
  clear MX3 MX2 MX g2 g3 ebX2 ebX3 y1 y2
  go_wp2_with (at_builtin; refine wpList_append_lies _ rfl _ _ 23 rfl w0.heap.size 3 i3 (.int .i64 0) 1 8 Tryd.underlying23 hi3 hz30 hz31 hz32 rfl (by decide) _ _ _ rfl (hown.alloc _) ⟨X3.heap.size, 0, none⟩ 1 1 [.int .i64 dN] rfl rfl (news_at0 X3 _ 3) (by simp [Value.oneCell']) (by decide) (by unfold maxLen; omega) (by omega) (by simp; omega) (X3.heap.size + 1) (by simp) ?_)
  intro g cap w1 hown1 hgrow hat hlt1
  obtain ⟨HMP, k61, f61, m61, y01⟩ := HPU.out _ _ _ hown1 hgrow hat
  clear hown1 hgrow hat hlt1
  go_wp2
  go_ret
  exact ⟨ret_bool (by rw [HDN.out.2]), _, _, _, _, by rw [HDN.out.1, HS1.out]; exact HMP.out⟩

set_option maxHeartbeats 4000000 in
theorem sStep9 {R : List OR} (xs : List Stp) (en d hs : List Int) (rs : List Bool) (a ea ha : Option Addr) (ac ec hc : Nat) (w0 : World) (mb : Nat) (W : World) (c : Cf) (lv mv tv sv : Value) (h : MSp R xs en hs a ea ha ac ec hc w0 mb W c lv mv tv sv) (v : Vld xs en d hs rs) (ok : Okc xs hs rs c) (hT : TRow w0 a xs) (hR : Row w0 ea en) (hH : Row w0 ha hs) (n : Int) (t : List Int) (hx : xs[c.pc]? = some (9, n, t)) :
    Calls Tryd.prog 42 #[.pointer (some ⟨mb, 0, none⟩)] W fun e W' => e = .returned (.bool (doB 9 (top c.st))) ∧ (∃ lv' mv' tv' sv', MSp R xs en hs a ea ha ac ec hc w0 mb W' { c with pc := c.pc + 1, st := c.st.dropLast.dropLast ++ [doN 9 (top c.st.dropLast) (top c.st)] } lv' mv' tv' sv') := by
  obtain ⟨c0, c1, c2, c3, c4, c5, c6, c7⟩ := h.cells
  have f7 := h.frz 7
  have hlt := h.lt
  have hpl := (List.getElem?_eq_some_iff.1 hx).1
  obtain ⟨l1, l2, l60⟩ := nestO_length v.nest
  obtain ⟨b, off, rfl, hat⟩ := hT.at (by intro h0; rw [h0] at hpl; simp at hpl)
  obtain ⟨op', n', t', ta, tc, x0, x1, x2, hbw, hts, HTR, HX⟩ := hat W h.bel c.pc hpl
  obtain ⟨e1, e2, e3⟩ : op' = 9 ∧ n' = n ∧ t' = t := by have := HX.out; rw [hx] at this; simpa using this.symm
  subst op'
  subst n'
  subst t'
  have hbb : ¬ b = mb := by omega
  have hbb' : ¬ mb = b := by omega
  have hbW : b < W.heap.size := Nat.lt_of_lt_of_le hbw h.bel.size
  have hp60 : c.pc < 60 := by omega
  have hpI : (c.pc : Int) < xs.length := by omega
  have h4 := ok.le4 v
  have hnd : 2 ≤ c.st.length := by have := ok.need v hx; simp [offN] at this; omega
  have HP := hid (h.pre (.int .i64 9) (.int .i64 n) (.slice ta t.length tc))
  have hdo := fun w => l5Do_any 9 (top c.st.dropLast) (top c.st) w (top_word (wds_drop ok.st)) (top_word ok.st)
  have HOK := hid (And.intro v (And.intro ok (And.intro hT (And.intro hR (And.intro hH hx)))))
  have hmw : ¬ mb = W.heap.size := by omega
  have hwm : ¬ W.heap.size = mb := by omega
  have HSV : Hid (∀ k, sv.ownBlock = some k → k < W.heap.size) := fun k hk => (h.rows.2.2.2.lt k hk).2
  have HTV : Hid (∀ k, tv.ownBlock = some k → k < W.heap.size) := fun k hk => (h.rows.2.2.1.lt k hk).2
  clear c1 c2 c3 c4 c5 c6 h hat HX l1 l2 hT hR hH v
  go_enter Tryd.func42, Tryd.ntmps42
  have hin : ∀ w, Calls Tryd.prog 40 #[.int .i64 9, .int .i64 4, .int .i64 9] w fun e w' => e = .returned (.bool true) ∧ w' = w := fun w => l1In_any 9 4 9 w
  have hD1 : Hid (_) := hid (rfl : doB 9 (top c.st) = doB 9 (top c.st))
  obtain ⟨dN, hdN⟩ : ∃ z, doN 9 (top c.st.dropLast) (top c.st) = z := ⟨_, rfl⟩
  obtain ⟨dB, hdB⟩ : ∃ z, doB 9 (top c.st) = z := ⟨_, rfl⟩
  rw [hdN, hdB] at hdo
  have HDN := hid (And.intro hdN hdB)
  have HDO := hid hdo
  clear hdN hdB hdo hD1
  obtain ⟨MX, y0, y1, y2, hlX⟩ := HP.out
  go_wp2_with (go_at_call 40; refine (hin _).mono ?_; rintro e w' ⟨rfl, hw'⟩; subst w')
  generalize ((W.setCell ⟨mb, 7, none⟩ (.int .i64 ((c.pc : Int) + 1))).alloc (.cells #[.int .i64 9, .int .i64 n, .slice ta t.length tc] 59)) = X at MX y0 y1 y2 hlX
  clear c0 c7 f7 x0 x1 x2 HP
  refine (sPop_any _ _ _ _ _ _ _ _ _ _ _ X _ _ _ _ _ MX (by simp only [List.length_dropLast]; omega) (by simp only [List.length_dropLast]; omega)).mono ?_
  rintro e X2 ⟨rfl, ⟨sv2, MX2, ebX2⟩, g2⟩
  simp only [] at MX2 ⊢
  replace y0 := grown_far g2 y0 (by simp; omega)
  replace y1 := grown_far g2 y1 (by simp; omega)
  replace y2 := grown_far g2 y2 (by simp; omega)
  have hlX2 : W.heap.size < X2.heap.size := Nat.lt_of_lt_of_le hlX g2.size
  go_wp2_with fail
  refine (sPop_any _ _ _ _ _ _ _ _ _ _ _ X2 _ _ _ _ _ MX2 (by simp only [List.length_dropLast]; omega) (by simp only [List.length_dropLast]; omega)).mono ?_
  rintro e X3 ⟨rfl, ⟨sv3, MX3, ebX3⟩, g3⟩
  simp only [] at MX3 ⊢
  replace y0 := grown_far g3 y0 (by simp; omega)
  replace y1 := grown_far g3 y1 (by simp; omega)
  replace y2 := grown_far g3 y2 (by simp; omega)
  have hlX3 : W.heap.size < X3.heap.size := Nat.lt_of_lt_of_le hlX2 g3.size
  go_wp2_with fail
  refine (HDO.out _).mono ?_
  rintro e X4 ⟨rfl, hX4⟩
  subst X4
  obtain ⟨s1, hs1⟩ : ∃ s1, c.st.dropLast.dropLast = s1 := ⟨_, rfl⟩
  rw [hs1] at MX3
  have hs14 : s1.length ≤ 4 := by rw [← hs1]; simp; omega
  have HS1 := hid hs1
  clear hs1
  have HSV2 : Hid (∀ k, sv3.ownBlock = some k → k = W.heap.size → False) := by
    intro k hk he
    rw [ebX3, ebX2] at hk
    have h1 := HSV.out _ hk
    omega
  obtain ⟨sa, sc, rfl⟩ := slice_of_owned MX3.rows.2.2.2
  have hown : X3.ownsRow w0.heap.size 3 1 (.slice sa s1.length sc) s1.length (ints s1) := MX3.rows.2.2.2
  have k6 := MX3.cells.2.2.2.2.2.2.1
  have hmX := MX3.lt.2
  obtain ⟨i3, hi3, hz30, hz31, hz32⟩ := info_parts info3
  have HPU : Hid (∀ w1 g cap, w1.ownsRow w0.heap.size 3 1 (.slice (some ⟨g, 0, none⟩) (s1.length + 1) cap) (s1.length + 1) (ints s1 ++ [.int .i64 dN]) → ((X3.alloc (.cells #[.int .i64 dN] 3))).grownBy w1 (Value.slice sa s1.length sc).ownBlock → ((Value.slice sa s1.length sc).ownBlock = some g ∨ g = X3.heap.size + 1) → Hid (MSp R xs en hs (some ⟨b, off, none⟩) ea ha ac ec hc w0 mb (w1.setCell ⟨mb, 6, none⟩ (.slice (some ⟨g, 0, none⟩) (s1.length + 1) cap)) { c with pc := c.pc + 1, st := s1 ++ [dN] } lv mv tv (.slice (some ⟨g, 0, none⟩) (s1.length + 1) cap)) ∧ w1.cell? ⟨mb, 6, none⟩ = some (.slice sa s1.length sc) ∧ w1.frozen? ⟨mb, 6, none⟩ = false ∧ mb < w1.heap.size ∧ w1.cell? ⟨W.heap.size, 0, none⟩ = some (.int .i64 9)) := by
    intro w1 g cap q1 q2 q3
    obtain ⟨z1, z2, z3, z4⟩ := MX3.pushSt (below1 X3 _) q1 q2 q3 (by omega)
    refine ⟨z1, z2, z3, z4, grown_far q2 ?_ (fun e => HSV2.out _ e rfl)⟩
    have := (below1 X3 (.cells #[.int .i64 dN] 3)).cell (p := ⟨W.heap.size, 0, none⟩) hlX3
    exact this.trans y0
  clear MX3 MX2 MX g2 g3 ebX2 ebX3 y1 y2
  go_wp2_with (at_builtin; refine wpList_append_lies _ rfl _ _ 23 rfl w0.heap.size 3 i3 (.int .i64 0) 1 8 Tryd.underlying23 hi3 hz30 hz31 hz32 rfl (by decide) _ _ _ rfl (hown.alloc _) ⟨X3.heap.size, 0, none⟩ 1 1 [.int .i64 dN] rfl rfl (news_at0 X3 _ 3) (by simp [Value.oneCell']) (by decide) (by unfold maxLen; omega) (by omega) (by simp; omega) (X3.heap.size + 1) (by simp) ?_)
  intro g cap w1 hown1 hgrow hat hlt1
  obtain ⟨HMP, k61, f61, m61, y01⟩ := HPU.out _ _ _ hown1 hgrow hat
  clear hown1 hgrow hat hlt1
  go_wp2
  go_ret
  exact ⟨ret_bool (by rw [HDN.out.2]), _, _, _, _, by rw [HDN.out.1, HS1.out]; exact HMP.out⟩

set_option maxHeartbeats 4000000 in
theorem sStep17y {R : List OR} (xs : List Stp) (en d hs : List Int) (rs : List Bool) (a ea ha : Option Addr) (ac ec hc : Nat) (w0 : World) (mb : Nat) (W : World) (c : Cf) (lv mv tv sv : Value) (h : MSp R xs en hs a ea ha ac ec hc w0 mb W c lv mv tv sv) (v : Vld xs en d hs rs) (ok : Okc xs hs rs c) (hT : TRow w0 a xs) (hR : Row w0 ea en) (hH : Row w0 ha hs) (n : Int) (t : List Int) (hx : xs[c.pc]? = some (17, n, t)) (hz0 : ¬ top c.st = 0) :
    Calls Tryd.prog 42 #[.pointer (some ⟨mb, 0, none⟩)] W fun e W' => e = .returned (.bool true) ∧ (∃ lv' mv' tv' sv', MSp R xs en hs a ea ha ac ec hc w0 mb W' { c with pc := c.pc + 1, st := c.st.dropLast } lv' mv' tv' sv') := by
  obtain ⟨c0, c1, c2, c3, c4, c5, c6, c7⟩ := h.cells
  have f7 := h.frz 7
  have hlt := h.lt
  have hpl := (List.getElem?_eq_some_iff.1 hx).1
  obtain ⟨l1, l2, l60⟩ := nestO_length v.nest
  obtain ⟨b, off, rfl, hat⟩ := hT.at (by intro h0; rw [h0] at hpl; simp at hpl)
  obtain ⟨op', n', t', ta, tc, x0, x1, x2, hbw, hts, HTR, HX⟩ := hat W h.bel c.pc hpl
  obtain ⟨e1, e2, e3⟩ : op' = 17 ∧ n' = n ∧ t' = t := by have := HX.out; rw [hx] at this; simpa using this.symm
  subst op'
  subst n'
  subst t'
  have hbb : ¬ b = mb := by omega
  have hbb' : ¬ mb = b := by omega
  have hbW : b < W.heap.size := Nat.lt_of_lt_of_le hbw h.bel.size
  have hp60 : c.pc < 60 := by omega
  have hpI : (c.pc : Int) < xs.length := by omega
  have h4 := ok.le4 v
  have hnd : 1 ≤ c.st.length := by have := ok.need v hx; simp [offN] at this; omega
  have HP := hid (h.pre (.int .i64 17) (.int .i64 n) (.slice ta t.length tc))
  have HOK := hid (And.intro v (And.intro ok (And.intro hT (And.intro hR (And.intro hH hx)))))
  have hmw : ¬ mb = W.heap.size := by omega
  have hwm : ¬ W.heap.size = mb := by omega
  have HSV : Hid (∀ k, sv.ownBlock = some k → k < W.heap.size) := fun k hk => (h.rows.2.2.2.lt k hk).2
  have HTV : Hid (∀ k, tv.ownBlock = some k → k < W.heap.size) := fun k hk => (h.rows.2.2.1.lt k hk).2
  clear c1 c2 c3 c4 c5 c6 h hat HX l1 l2 hT hR hH v
  go_enter Tryd.func42, Tryd.ntmps42
  have hin : ∀ w, Calls Tryd.prog 40 #[.int .i64 17, .int .i64 4, .int .i64 9] w fun e w' => e = .returned (.bool false) ∧ w' = w := fun w => l1In_any 17 4 9 w
  go_wp2_with fail
  obtain ⟨MX, y0, y1, y2, hlX⟩ := HP.out
  generalize ((W.setCell ⟨mb, 7, none⟩ (.int .i64 ((c.pc : Int) + 1))).alloc (.cells #[.int .i64 17, .int .i64 n, .slice ta t.length tc] 59)) = X at MX y0 y1 y2 hlX
  clear c0 c7 f7 x0 x1 x2 HP
  refine (sPop_any _ _ _ _ _ _ _ _ _ _ _ X _ _ _ _ _ MX (by simp only [List.length_dropLast]; omega) (by simp only [List.length_dropLast]; omega)).mono ?_
  rintro e X2 ⟨rfl, ⟨sv2, MX2, ebX2⟩, g2⟩
  simp only [] at MX2 ⊢
  replace y0 := grown_far g2 y0 (by simp; omega)
  replace y1 := grown_far g2 y1 (by simp; omega)
  replace y2 := grown_far g2 y2 (by simp; omega)
  have hlX2 : W.heap.size < X2.heap.size := Nat.lt_of_lt_of_le hlX g2.size
  obtain ⟨w1, hw1⟩ : ∃ w1, top c.st = w1 := ⟨_, rfl⟩
  rw [hw1] at hz0 ⊢
  have HM := hid MX2
  clear MX2 MX g2 hw1
  go_wp2_with (go_at_call 40; refine (hin _).mono ?_; rintro e w' ⟨rfl, rfl⟩)
  go_ret
  exact ⟨rfl, _, _, _, _, HM.out⟩
end

section
open Go.RowKit
set_option linter.unusedVariables false
set_option linter.unusedSimpArgs false
set_option maxRecDepth 100000

set_option maxHeartbeats 4000000 in
theorem sStep17n {R : List OR} (xs : List Stp) (en d hs : List Int) (rs : List Bool) (a ea ha : Option Addr) (ac ec hc : Nat) (w0 : World) (mb : Nat) (W : World) (c : Cf) (lv mv tv sv : Value) (h : MSp R xs en hs a ea ha ac ec hc w0 mb W c lv mv tv sv) (v : Vld xs en d hs rs) (ok : Okc xs hs rs c) (hT : TRow w0 a xs) (hR : Row w0 ea en) (hH : Row w0 ha hs) (n : Int) (t : List Int) (hx : xs[c.pc]? = some (17, n, t)) (hz0 : top c.st = 0) :
    Calls Tryd.prog 42 #[.pointer (some ⟨mb, 0, none⟩)] W fun e W' => e = .returned (.bool true) ∧ (∃ lv' mv' tv' sv', MSp R xs en hs a ea ha ac ec hc w0 mb W' { c with pc := oth en c.pc + 1, st := c.st.dropLast } lv' mv' tv' sv') := by
  obtain ⟨c0, c1, c2, c3, c4, c5, c6, c7⟩ := h.cells
  have f7 := h.frz 7
  have hlt := h.lt
  have hpl := (List.getElem?_eq_some_iff.1 hx).1
  obtain ⟨l1, l2, l60⟩ := nestO_length v.nest
  obtain ⟨b, off, rfl, hat⟩ := hT.at (by intro h0; rw [h0] at hpl; simp at hpl)
  obtain ⟨op', n', t', ta, tc, x0, x1, x2, hbw, hts, HTR, HX⟩ := hat W h.bel c.pc hpl
  obtain ⟨e1, e2, e3⟩ : op' = 17 ∧ n' = n ∧ t' = t := by have := HX.out; rw [hx] at this; simpa using this.symm
  subst op'
  subst n'
  subst t'
  have hbb : ¬ b = mb := by omega
  have hbb' : ¬ mb = b := by omega
  have hbW : b < W.heap.size := Nat.lt_of_lt_of_le hbw h.bel.size
  have hp60 : c.pc < 60 := by omega
  have hpI : (c.pc : Int) < xs.length := by omega
  have h4 := ok.le4 v
  obtain ⟨eb', eoff, rfl, hec⟩ : ∃ eb' eoff, ea = some ⟨eb', eoff, none⟩ ∧ ∀ i w, en[i]? = some w → w0.cell? ⟨eb', eoff + i, none⟩ = some (.int .i64 w) := by
    rcases hR with h0 | ⟨b1, o1, rfl, hc1⟩
    · have := (nestO_length v.nest).1; rw [h0] at this; simp at this; omega
    · exact ⟨b1, o1, rfl, fun i w hv => by have := hc1 i (List.getElem?_eq_some_iff.1 hv).1; rw [hv] at this; exact this⟩
  obtain ⟨p, pn, pz, hpe, hkp, hpk, hpz, _⟩ := span v.nest hx rfl
  have hpl2 := (List.getElem?_eq_some_iff.1 hpz).1
  have hce := hec c.pc _ hpe
  have hbe : eb' < w0.heap.size := World.block_lt_of_cell? w0 _ hce
  have HCE : Hid (∀ X, Below w0.heap.size w0 X → X.cell? ⟨eb', eoff + c.pc, none⟩ = some (.int .i64 p)) := fun X hb => by rw [hb.cell (p := ⟨eb', eoff + c.pc, none⟩) hbe]; exact hce
  have hen : (c.pc : Int) < en.length := by have := (List.getElem?_eq_some_iff.1 hpe).1; omega
  have HEL : Hid (∀ X, Below w0.heap.size w0 X → Calls Tryd.prog 55 #[.slice (some ⟨b, off, none⟩) xs.length ac, .slice (some ⟨eb', eoff, none⟩) en.length ec, .int .i64 c.pc] X fun e W' => e = .returned (.int .i64 (if oth en c.pc = p then 0 else oth en c.pc)) ∧ ∃ q, W' = X.drewN q) := fun X hb => l5Else_any xs en d _ _ ac ec X c.pc p v.nest (hT.below hb) (hR.below hb) hpe hkp hpl2 hpk
  have hoth := othN_spec en (p : Int) (p - (c.pc + 1)) (c.pc + 1)
  rw [← oth_eq hpe] at hoth
  have hp59 : p < 60 := by omega
  clear hec hce hpe hpk hpz
  have hnd : 1 ≤ c.st.length := by have := ok.need v hx; simp [offN] at this; omega
  have HP := hid (h.pre (.int .i64 17) (.int .i64 n) (.slice ta t.length tc))
  have HOK := hid (And.intro v (And.intro ok (And.intro hT (And.intro hR (And.intro hH hx)))))
  have hmw : ¬ mb = W.heap.size := by omega
  have hwm : ¬ W.heap.size = mb := by omega
  have HSV : Hid (∀ k, sv.ownBlock = some k → k < W.heap.size) := fun k hk => (h.rows.2.2.2.lt k hk).2
  have HTV : Hid (∀ k, tv.ownBlock = some k → k < W.heap.size) := fun k hk => (h.rows.2.2.1.lt k hk).2
  clear c1 c2 c3 c4 c5 c6 h hat HX l1 l2 hT hR hH v
  go_enter Tryd.func42, Tryd.ntmps42
  have hin : ∀ w, Calls Tryd.prog 40 #[.int .i64 17, .int .i64 4, .int .i64 9] w fun e w' => e = .returned (.bool false) ∧ w' = w := fun w => l1In_any 17 4 9 w
  go_wp2_with fail
  obtain ⟨MX, y0, y1, y2, hlX⟩ := HP.out
  generalize ((W.setCell ⟨mb, 7, none⟩ (.int .i64 ((c.pc : Int) + 1))).alloc (.cells #[.int .i64 17, .int .i64 n, .slice ta t.length tc] 59)) = X at MX y0 y1 y2 hlX
  clear c0 c7 f7 x0 x1 x2 HP
  refine (sPop_any _ _ _ _ _ _ _ _ _ _ _ X _ _ _ _ _ MX (by simp only [List.length_dropLast]; omega) (by simp only [List.length_dropLast]; omega)).mono ?_
  rintro e X2 ⟨rfl, ⟨sv2, MX2, ebX2⟩, g2⟩
  simp only [] at MX2 ⊢
  replace y0 := grown_far g2 y0 (by simp; omega)
  replace y1 := grown_far g2 y1 (by simp; omega)
  replace y2 := grown_far g2 y2 (by simp; omega)
  have hlX2 : W.heap.size < X2.heap.size := Nat.lt_of_lt_of_le hlX g2.size
  rw [hz0]
  have kx := HCE.out _ MX2.bel
  have k1 := MX2.cells.2.1
  have k7 := MX2.cells.2.2.2.2.2.2.2
  have f77 := MX2.frz 7
  have hmX := MX2.lt.2
  have HM := hid (MX2.setPc (p + 1))
  have HY := hid (grown_far (grown_set X2 mb 7 (.int .i64 ((p : Int) + 1))) y0 (by simp; omega))
  have hbe2 : ¬ eb' = mb := by omega
  have hbe3 : ¬ mb = eb' := by omega
  have heX : eb' < X2.heap.size := Nat.lt_of_lt_of_le hbe MX2.bel.size
  simp only [] at k7
  clear MX2 MX g2 hz0
  rw [show ((p + 1 : Nat) : Int) = (p : Int) + 1 by simp] at HM
  go_wp2
  have MY := HM.out
  have hlY : W.heap.size < (X2.setCell ⟨mb, 7, none⟩ (.int .i64 ((p : Int) + 1))).heap.size := by simp; omega
  have y9 := HY.out
  generalize (X2.setCell ⟨mb, 7, none⟩ (.int .i64 ((p : Int) + 1))) = Y at MY y9 hlY
  have k0 := MY.cells.1
  have k1' := MY.cells.2.1
  have k7' := MY.cells.2.2.2.2.2.2.2
  have f7' := MY.frz 7
  have hmY := MY.lt.2
  have HE2 := hid (HEL.out Y.drew ⟨MY.bel.os, MY.bel.tape, MY.bel.output, MY.bel.size, MY.bel.block⟩)
  have HMY := hid MY
  simp only [] at k7'
  clear MY HM HY HEL kx k1 k7 f77 hmX y0 y1 y2
  have HKD : Hid (∀ q : Nat, (Y.drew.drewN q).cell? ⟨mb, 0, none⟩ = some (.slice (some ⟨b, off, none⟩) xs.length ac) ∧ (Y.drew.drewN q).cell? ⟨mb, 1, none⟩ = some (.slice (some ⟨eb', eoff, none⟩) en.length ec)) := fun q => ⟨k0, k1'⟩
  by_cases hop : oth en c.pc = p
  · have he3 := HE2.out
    rw [if_pos hop] at he3
    have HE3 := hid he3
    have HOP := hid hop
    clear he3 HE2 hop hoth
    go_region_held (fun w' => w'.cell? ⟨mb, 0, none⟩ = some (.slice (some ⟨b, off, none⟩) xs.length ac) ∧ w'.cell? ⟨mb, 1, none⟩ = some (.slice (some ⟨eb', eoff, none⟩) en.length ec)) ((first | exact HKD.out _ | go_keep)) ((go_at_call 55; refine Calls.mono HE3.out ?_; rintro e w1 ⟨rfl, qn, rfl⟩))
    all_goals
      go_wp2_with (go_at_call 40; refine (hin _).mono ?_; rintro e w' ⟨rfl, rfl⟩)
      go_ret
      exact ⟨rfl, _, _, _, _, by rw [HOP.out]; exact HMY.out.below (below_drewN (Below.refl _ _) _)⟩
  · have he3 := HE2.out
    rw [if_neg hop] at he3
    obtain ⟨j, hj⟩ : ∃ j, oth en c.pc = j := ⟨_, rfl⟩
    rw [hj] at he3 hoth
    have HE3 := hid he3
    have HOP := hid hj
    have hj0 : (0 : Int) < (j : Int) := by omega
    have hj60 : j < 60 := by omega
    have HMJ : Hid (∀ q : Nat, MSp R xs en hs (some ⟨b, off, none⟩) (some ⟨eb', eoff, none⟩) ha ac ec hc w0 mb ((Y.drewN q).setCell ⟨mb, 7, none⟩ (.int .i64 ((j : Int) + 1))) { c with pc := j + 1, st := c.st.dropLast } lv mv tv sv2) := by
      intro q
      have := (HMY.out.below (below_drewN (Below.refl _ _) q)).setPc (j + 1)
      rw [show ((j + 1 : Nat) : Int) = (j : Int) + 1 by simp] at this
      exact this
    clear he3 HE2 hop hoth hj
    go_region_held (fun w' => w'.cell? ⟨mb, 0, none⟩ = some (.slice (some ⟨b, off, none⟩) xs.length ac) ∧ w'.cell? ⟨mb, 1, none⟩ = some (.slice (some ⟨eb', eoff, none⟩) en.length ec)) ((first | exact HKD.out _ | go_keep)) ((go_at_call 55; refine Calls.mono HE3.out ?_; rintro e w1 ⟨rfl, qn, rfl⟩))
    all_goals
      go_wp2_with (go_at_call 40; refine (hin _).mono ?_; rintro e w' ⟨rfl, rfl⟩)
      go_ret
      exact ⟨rfl, _, _, _, _, by rw [HOP.out]; first | exact HMJ.out _ | exact (HMJ.out _).below (below_drewN (Below.refl _ _) _)⟩

/-- what a step of the model's machine answers and leaves -/
def stepAns (R : List OR) (xs : List Stp) (en hs : List Int) (a ea ha : Option Addr) (ac ec hc : Nat) (w0 : World) (mb : Nat) (W' : World) (c : Cf) (e : Ending) : Option Cf → Prop
  | some c' => e = .returned (.bool true) ∧ ∃ lv' mv' tv' sv', MSp R xs en hs a ea ha ac ec hc w0 mb W' c' lv' mv' tv' sv'
  | none => e = .returned (.bool false) ∧ ∃ c' lv' mv' tv' sv', MSp R xs en hs a ea ha ac ec hc w0 mb W' c' lv' mv' tv' sv' ∧ c'.L = c.L ∧ c'.M = c.M ∧ c'.T = c.T

/-- the model's step -/
theorem sStep_any {R : List OR} (xs : List Stp) (en d hs : List Int) (rs : List Bool) (a ea ha : Option Addr) (ac ec hc : Nat) (w0 : World) (mb : Nat) (W : World) (c : Cf) (lv mv tv sv : Value) (h : MSp R xs en hs a ea ha ac ec hc w0 mb W c lv mv tv sv) (v : Vld xs en d hs rs) (ok : Okc xs hs rs c) (hT : TRow w0 a xs) (hR : Row w0 ea en) (hH : Row w0 ha hs) (x : Stp) (hx : xs[c.pc]? = some x) :
    Calls Tryd.prog 42 #[.pointer (some ⟨mb, 0, none⟩)] W fun e W' => stepAns R xs en hs a ea ha ac ec hc w0 mb W' c e (eff xs en hs c x) := by
  obtain ⟨op, n, t⟩ := x
  have hop : 1 ≤ op ∧ op ≤ 22 := by
    obtain ⟨o, _, _, _, m, _, _, h3, _⟩ := ok.tr v hx
    have h1 := (within_dep v.nest hx h3).1
    simp [oneS, isOpB] at h1
    exact h1.1.1
  by_cases h1 : op = 1
  · subst h1; rw [eff_1 _ _ _ _ _ rfl]; exact sStep1 xs en d hs rs a ea ha ac ec hc w0 mb W c lv mv tv sv h v ok hT hR hH n t hx
  by_cases h2 : op = 2
  · subst h2; rw [eff_2 _ _ _ _ _ rfl]; exact sStep2 xs en d hs rs a ea ha ac ec hc w0 mb W c lv mv tv sv h v ok hT hR hH n t hx
  by_cases h3 : op = 3
  · subst h3; rw [eff_3 _ _ _ _ _ rfl]; exact sStep3 xs en d hs rs a ea ha ac ec hc w0 mb W c lv mv tv sv h v ok hT hR hH n t hx
  by_cases hw : 4 ≤ op ∧ op ≤ 9
  · rw [eff_w _ _ _ _ _ hw]
    have key : Calls Tryd.prog 42 #[.pointer (some ⟨mb, 0, none⟩)] W fun e W' => e = .returned (.bool (doB op (top c.st))) ∧ (∃ lv' mv' tv' sv', MSp R xs en hs a ea ha ac ec hc w0 mb W' { c with pc := c.pc + 1, st := c.st.dropLast.dropLast ++ [doN op (top c.st.dropLast) (top c.st)] } lv' mv' tv' sv') := by
      have h6 : op = 4 ∨ op = 5 ∨ op = 6 ∨ op = 7 ∨ op = 8 ∨ op = 9 := by omega
      rcases h6 with rfl | rfl | rfl | rfl | rfl | rfl
      · exact sStep4 xs en d hs rs a ea ha ac ec hc w0 mb W c lv mv tv sv h v ok hT hR hH n t hx
      · exact sStep5 xs en d hs rs a ea ha ac ec hc w0 mb W c lv mv tv sv h v ok hT hR hH n t hx
      · exact sStep6 xs en d hs rs a ea ha ac ec hc w0 mb W c lv mv tv sv h v ok hT hR hH n t hx
      · exact sStep7 xs en d hs rs a ea ha ac ec hc w0 mb W c lv mv tv sv h v ok hT hR hH n t hx
      · exact sStep8 xs en d hs rs a ea ha ac ec hc w0 mb W c lv mv tv sv h v ok hT hR hH n t hx
      · exact sStep9 xs en d hs rs a ea ha ac ec hc w0 mb W c lv mv tv sv h v ok hT hR hH n t hx
    refine key.mono ?_
    rintro e W' ⟨rfl, lv', mv', tv', sv', hm⟩
    by_cases hb : doB op (top c.st) = true
    · rw [if_pos hb, hb]; exact ⟨rfl, _, _, _, _, hm⟩
    · rw [if_neg hb, show doB op (top c.st) = false by simpa using hb]; exact ⟨rfl, _, _, _, _, _, hm, rfl, rfl, rfl⟩
  by_cases h10 : op = 10
  · subst h10
    rw [eff_10 _ _ _ _ _ rfl]
    by_cases hb : top c.st < 16
    · rw [if_pos hb]; exact sStep10 xs en d hs rs a ea ha ac ec hc w0 mb W c lv mv tv sv h v ok hT hR hH n t hx hb
    · rw [if_neg hb]; exact sTrap10 xs en d hs rs a ea ha ac ec hc w0 mb W c lv mv tv sv h v ok hT hR hH n t hx hb
  by_cases h11 : op = 11
  · subst h11
    rw [eff_11 _ _ _ _ _ rfl]
    by_cases hb : top c.st.dropLast < 16
    · rw [if_pos hb]; exact sStep11 xs en d hs rs a ea ha ac ec hc w0 mb W c lv mv tv sv h v ok hT hR hH n t hx hb
    · rw [if_neg hb]; exact sTrap11 xs en d hs rs a ea ha ac ec hc w0 mb W c lv mv tv sv h v ok hT hR hH n t hx hb
  by_cases h12 : op = 12
  · subst h12
    rw [eff_12 _ _ _ _ _ rfl]
    by_cases hb : c.T.length < 100
    · rw [if_pos hb]; exact sStep12 xs en d hs rs a ea ha ac ec hc w0 mb W c lv mv tv sv h v ok hT hR hH n t hx hb
    · rw [if_neg hb]; exact sTrap12 xs en d hs rs a ea ha ac ec hc w0 mb W c lv mv tv sv h v ok hT hR hH n t hx hb
  by_cases h13 : op = 13
  · subst h13; rw [eff_13 _ _ _ _ _ rfl]; exact sStep13 xs en d hs rs a ea ha ac ec hc w0 mb W c lv mv tv sv h v ok hT hR hH n t hx
  by_cases h14 : op = 14
  · subst h14; rw [eff_14 _ _ _ _ _ rfl]; exact sTrap14 xs en d hs rs a ea ha ac ec hc w0 mb W c lv mv tv sv h v ok hT hR hH n t hx
  by_cases h17 : op = 17
  · subst h17
    rw [eff_17 _ _ _ _ _ rfl]
    by_cases hb : top c.st = 0
    · rw [if_pos hb]; exact sStep17n xs en d hs rs a ea ha ac ec hc w0 mb W c lv mv tv sv h v ok hT hR hH n t hx hb
    · rw [if_neg hb]; exact sStep17y xs en d hs rs a ea ha ac ec hc w0 mb W c lv mv tv sv h v ok hT hR hH n t hx hb
  by_cases h18 : op = 18
  · subst h18; rw [eff_18 _ _ _ _ _ rfl]; exact sStep18 xs en d hs rs a ea ha ac ec hc w0 mb W c lv mv tv sv h v ok hT hR hH n t hx
  by_cases h20 : op = 20
  · subst h20; rw [eff_20 _ _ _ _ _ rfl]; exact sStep20 xs en d hs rs a ea ha ac ec hc w0 mb W c lv mv tv sv h v ok hT hR hH n t hx
  by_cases h21 : op = 21
  · subst h21
    rw [eff_21 _ _ _ _ _ rfl]
    by_cases hb : top c.st = 0
    · rw [if_pos hb]; exact sStep21n xs en d hs rs a ea ha ac ec hc w0 mb W c lv mv tv sv h v ok hT hR hH n t hx hb
    · rw [if_neg hb]; exact sStep21y xs en d hs rs a ea ha ac ec hc w0 mb W c lv mv tv sv h v ok hT hR hH n t hx hb
  by_cases h22 : op = 22
  · subst h22
    rw [eff_22 _ _ _ _ _ rfl]
    by_cases hb : top c.st < t.length
    · rw [if_pos hb]; exact sStep22y xs en d hs rs a ea ha ac ec hc w0 mb W c lv mv tv sv h v ok hT hR hH n t hx hb
    · rw [if_neg hb]; exact sStep22n xs en d hs rs a ea ha ac ec hc w0 mb W c lv mv tv sv h v ok hT hR hH n t hx hb
  have hl : op = 15 ∨ op = 16 ∨ op = 19 := by omega
  rw [eff_n _ _ _ _ _ hl]
  rcases hl with rfl | rfl | rfl
  · exact sStep15 xs en d hs rs a ea ha ac ec hc w0 mb W c lv mv tv sv h v ok hT hR hH n t hx
  · exact sStep16 xs en d hs rs a ea ha ac ec hc w0 mb W c lv mv tv sv h v ok hT hR hH n t hx
  · exact sStep19 xs en d hs rs a ea ha ac ec hc w0 mb W c lv mv tv sv h v ok hT hR hH n t hx
end
end Go.Proofs.YthkkhinmdlmhkaaDoor
