/- What the program makes of each step of code: all Ops. -/
import Derived.Test.YthkkhinmdlmhkaaDoorNest2
import Derived.Test.YthkkhinmdlmhkaaDoorEnds1
namespace Go.Proofs.YthkkhinmdlmhkaaDoor
open Go.RowKit
set_option linter.unusedVariables false
set_option linter.unusedSimpArgs false
set_option maxRecDepth 100000

/-- what the program's pass answers -/
def passAns (B : Nat) (w w' : World) (nb : Nat) (ev dv : Value) (x : Stp) (o : List Spn) (e0 rest ds : List Int) (e : Ending) : Prop := Below B w w' ∧ ∃ b, e = .returned (.bool b) ∧ (match stp x o e0 with | none => b = false | some (o', e') => b = true ∧ ∃ ov', NS B w' nb ov' ev dv o' (e' ++ rest) ds)
theorem pass_no {B : Nat} {w w' : World} {nb : Nat} {ev dv : Value} {x : Stp} {o : List Spn} {e0 rest ds : List Int} (hb : Below B w w') (h : stp x o e0 = none) : passAns B w w' nb ev dv x o e0 rest ds (.returned (.bool false)) := ⟨hb, false, rfl, by rw [h]⟩
theorem pass_yes {B : Nat} {w w' : World} {nb : Nat} {ov' ev dv : Value} {x : Stp} {o o' : List Spn} {e0 e' rest ds : List Int} (hb : Below B w w') (h : stp x o e0 = some (o', e')) (hn : NS B w' nb ov' ev dv o' (e' ++ rest) ds) : passAns B w w' nb ev dv x o e0 rest ds (.returned (.bool true)) := ⟨hb, true, rfl, by rw [h]; exact ⟨rfl, ov', hn⟩⟩

set_option maxHeartbeats 4000000 in
theorem pass_else (B nb : Nat) (ov ev dv : Value) (o : List Spn) (e0 rest ds : List Int) (k : Nat) (n : Int) (t : List Int) (ta : Option Addr) (tc : Nat) (w : World) (h : NS B w nb ov ev dv o (e0 ++ -1 :: rest) ds) (hB : B ≤ w.heap.size) (h8 : o.length ≤ 8) (hk : e0.length = k) (h1 : oneS (18, n, t) = true) (h2 : withinB (18, n, t) o.length = true) :
    Calls Tryd.prog 73 #[.pointer (some ⟨nb, 0, none⟩), .agg #[.int .i64 18, .int .i64 n, .slice ta t.length tc], .int .i64 k] w fun e w' => passAns B w w' nb ev dv (18, n, t) o e0 rest ds e := by
  have h3 : opensB 18 = false := by decide
  have hn := h.heap (below1 w (.cells #[.int .i64 18, .int .i64 n, .slice ta t.length tc] 59))
  have hb1 : Below B w (w.alloc (.cells #[.int .i64 18, .int .i64 n, .slice ta t.length tc] 59)) := (Below.refl B w).alloc hB _
  cases hl : o.getLast? with
  | none =>
    obtain rfl : o = [] := List.getLast?_eq_none_iff.1 hl
    have HT : Hid (Calls Tryd.prog 98 #[.pointer (some ⟨nb, 0, none⟩), .int .i64 k] (w.alloc (.cells #[.int .i64 18, .int .i64 n, .slice ta t.length tc] 59)) fun e w' => e = .returned (.bool false) ∧ w' = (w.alloc (.cells #[.int .i64 18, .int .i64 n, .slice ta t.length tc] 59))) := turn_none B nb ov ev dv _ ds k _ hn
    clear h hn
    go_enter Tryd.func73, Tryd.ntmps73
    go_wp2_with (go_at_call 98; refine HT.out.mono ?_; rintro e w' ⟨rfl, hw⟩; subst w')
    go_ret
    exact pass_no hb1 (stp_else0 rfl rfl)
  | some z =>
    obtain ⟨q, s, u⟩ := z
    by_cases hq : q = 17 ∧ u = -1
    · obtain ⟨rfl, rfl⟩ := hq
      have HT : Hid (Calls Tryd.prog 98 #[.pointer (some ⟨nb, 0, none⟩), .int .i64 k] (w.alloc (.cells #[.int .i64 18, .int .i64 n, .slice ta t.length tc] 59)) fun e w' => e = .returned (.bool true) ∧ NS B w' nb ov ev dv (o.dropLast ++ [(17, s, (k : Int))]) (e0 ++ -1 :: rest) ds ∧ Below B (w.alloc (.cells #[.int .i64 18, .int .i64 n, .slice ta t.length tc] 59)) w') := turn_good B nb ov ev dv o _ ds k s _ hn h8 hl
      have HS : Hid (_) := stp_else2 (x := (18, n, t)) (e := e0) h1 h2 h3 rfl hl
      clear h hn
      go_enter Tryd.func73, Tryd.ntmps73
      go_wp2_with (go_at_call 98; refine HT.out.mono ?_; rintro e w' ⟨rfl, hnn, hbb⟩)
      go_ret
      refine pass_yes (hb1.trans hbb) HS.out (ov' := ov) ?_
      rw [hk]
      simpa using hnn
    · have HT : Hid (Calls Tryd.prog 98 #[.pointer (some ⟨nb, 0, none⟩), .int .i64 k] (w.alloc (.cells #[.int .i64 18, .int .i64 n, .slice ta t.length tc] 59)) fun e w' => e = .returned (.bool false) ∧ ∃ q, w' = (w.alloc (.cells #[.int .i64 18, .int .i64 n, .slice ta t.length tc] 59)).drewN q) := turn_bad B nb ov ev dv o _ ds k q s u _ hn h8 hl hq
      clear h hn
      go_enter Tryd.func73, Tryd.ntmps73
      go_wp2_with (go_at_call 98; refine HT.out.mono ?_; rintro e w' ⟨rfl, qq, hw⟩; subst w')
      go_ret
      exact pass_no (below_drewN hb1 qq) (stp_else1 h3 rfl hl hq)

theorem put_end0 {e0 rest : List Int} {s k : Nat} (hk : e0.length = k) (hs : s < k) : ((e0 ++ -1 :: rest).set k s).set s k = putE (e0 ++ [(s : Int)]) s (-1) k ++ rest := by
  subst hk
  unfold putE
  rw [if_pos rfl, List.set_append_right _ _ (Nat.le_refl _), List.set_append_left _ _ hs, List.set_append_left _ _ hs]
  simp
theorem put_end1 {e0 rest : List Int} {s k tt : Nat} (hk : e0.length = k) (hs : s < k) (ht : tt < k) : (((e0 ++ -1 :: rest).set k s).set s k).set tt k = putE (e0 ++ [(s : Int)]) s tt k ++ rest := by
  subst hk
  unfold putE
  rw [if_neg (by omega), Int.toNat_natCast, List.set_append_right _ _ (Nat.le_refl _), List.set_append_left _ _ hs, List.set_append_left _ _ hs, List.set_append_left _ _ (by simpa using ht), List.set_append_left _ _ (by simpa using ht)]
  simp

set_option maxHeartbeats 4000000 in
theorem pass_end (B nb : Nat) (ov ev dv : Value) (o : List Spn) (e0 rest ds : List Int) (k : Nat) (n : Int) (t : List Int) (ta : Option Addr) (tc : Nat) (w : World) (h : NS B w nb ov ev dv o (e0 ++ -1 :: rest) ds) (hB : B ≤ w.heap.size) (h8 : o.length ≤ 8) (hk : e0.length = k) (h60 : (e0 ++ -1 :: rest).length ≤ 60) (ho : okO o k) (h1 : oneS (19, n, t) = true) (h2 : withinB (19, n, t) o.length = true) :
    Calls Tryd.prog 73 #[.pointer (some ⟨nb, 0, none⟩), .agg #[.int .i64 19, .int .i64 n, .slice ta t.length tc], .int .i64 k] w fun e w' => passAns B w w' nb ev dv (19, n, t) o e0 rest ds e := by
  have h3 : opensB 19 = false := by decide
  have hn := h.heap (below1 w (.cells #[.int .i64 19, .int .i64 n, .slice ta t.length tc] 59))
  have hb1 : Below B w (w.alloc (.cells #[.int .i64 19, .int .i64 n, .slice ta t.length tc] 59)) := (Below.refl B w).alloc hB _
  cases hl : o.getLast? with
  | none =>
    obtain rfl : o = [] := List.getLast?_eq_none_iff.1 hl
    have HT : Hid (Calls Tryd.prog 99 #[.pointer (some ⟨nb, 0, none⟩), .int .i64 k] (w.alloc (.cells #[.int .i64 19, .int .i64 n, .slice ta t.length tc] 59)) fun e w' => e = .returned (.bool false) ∧ w' = (w.alloc (.cells #[.int .i64 19, .int .i64 n, .slice ta t.length tc] 59))) := shut_none B nb ov ev dv _ ds k _ hn
    clear h hn
    go_enter Tryd.func73, Tryd.ntmps73
    go_wp2_with (go_at_call 99; refine HT.out.mono ?_; rintro e w' ⟨rfl, hw⟩; subst w')
    go_ret
    exact pass_no hb1 (stp_end0 rfl rfl)
  | some z =>
    obtain ⟨q, s, u⟩ := z
    have hz := ho.2 _ (List.mem_of_getLast? hl)
    have hsk : s < k := hz.1
    have hzu : u = -1 ∨ ((s : Int) < u ∧ u < k) := hz.2.1
    have hlen : (e0 ++ -1 :: rest).length = k + 1 + rest.length := by simp; omega
    have HS : Hid (_) := stp_end1 (x := (19, n, t)) (e := e0) h1 h2 h3 rfl hl
    by_cases hu : u = -1
    · subst hu
      have HT : Hid (Calls Tryd.prog 99 #[.pointer (some ⟨nb, 0, none⟩), .int .i64 k] (w.alloc (.cells #[.int .i64 19, .int .i64 n, .slice ta t.length tc] 59)) fun e w' => e = .returned (.bool true) ∧ (∃ ov', NS B w' nb ov' ev dv o.dropLast (((e0 ++ -1 :: rest).set k s).set s k) ds) ∧ Below B (w.alloc (.cells #[.int .i64 19, .int .i64 n, .slice ta t.length tc] 59)) w') := shut_good0 B nb ov ev dv o _ ds k s q _ hn h8 hl (by omega) (by omega) h60
      clear h hn hz hzu
      go_enter Tryd.func73, Tryd.ntmps73
      go_wp2_with (go_at_call 99; refine HT.out.mono ?_; rintro e w' ⟨rfl, ⟨ov', hnn⟩, hbb⟩)
      go_ret
      refine pass_yes (hb1.trans hbb) HS.out (ov' := ov') ?_
      rw [put_end0 hk hsk] at hnn
      rw [hk]; exact hnn
    · obtain ⟨tt, rfl⟩ : ∃ tt : Nat, u = tt := ⟨u.toNat, by omega⟩
      have HT : Hid (Calls Tryd.prog 99 #[.pointer (some ⟨nb, 0, none⟩), .int .i64 k] (w.alloc (.cells #[.int .i64 19, .int .i64 n, .slice ta t.length tc] 59)) fun e w' => e = .returned (.bool true) ∧ (∃ ov', NS B w' nb ov' ev dv o.dropLast ((((e0 ++ -1 :: rest).set k s).set s k).set tt k) ds) ∧ Below B (w.alloc (.cells #[.int .i64 19, .int .i64 n, .slice ta t.length tc] 59)) w') := shut_good1 B nb ov ev dv o _ ds k s q tt _ hn h8 hl (by omega) (by omega) h60 (by omega)
      have htk : tt < k := by omega
      clear h hn hz hzu
      go_enter Tryd.func73, Tryd.ntmps73
      go_wp2_with (go_at_call 99; refine HT.out.mono ?_; rintro e w' ⟨rfl, ⟨ov', hnn⟩, hbb⟩)
      go_ret
      refine pass_yes (hb1.trans hbb) HS.out (ov' := ov') ?_
      rw [put_end1 hk hsk htk] at hnn
      rw [hk]; exact hnn

set_option maxHeartbeats 4000000 in
theorem pass_rest (B nb : Nat) (ov ev dv : Value) (o : List Spn) (e0 rest ds : List Int) (k : Nat) (p n : Int) (t : List Int) (ta : Option Addr) (tc : Nat) (w : World) (h : NS B w nb ov ev dv o (e0 ++ -1 :: rest) ds) (hB : B ≤ w.heap.size) (h1 : oneS (p, n, t) = true) (h2 : withinB (p, n, t) o.length = true) (h15 : p < 15) :
    Calls Tryd.prog 73 #[.pointer (some ⟨nb, 0, none⟩), .agg #[.int .i64 p, .int .i64 n, .slice ta t.length tc], .int .i64 k] w fun e w' => passAns B w w' nb ev dv (p, n, t) o e0 rest ds e := by
  have h3 : opensB p = false := by simp [opensB]; omega
  have HS : Hid (_) := stp_rest (x := (p, n, t)) (e := e0) h1 h2 h3 (by simp only []; omega) (by simp only []; omega)
  have HN : Hid (_) := h.heap (below1 w (.cells #[.int .i64 p, .int .i64 n, .slice ta t.length tc] 59))
  have hb1 : Below B w (w.alloc (.cells #[.int .i64 p, .int .i64 n, .slice ta t.length tc] 59)) := (Below.refl B w).alloc hB _
  clear h h1 h2 h3
  go_enter Tryd.func73, Tryd.ntmps73
  go_wp2
  go_ret
  refine pass_yes hb1 HS.out (ov' := ov) ?_
  have := HN.out
  simpa using this

set_option maxHeartbeats 4000000 in
theorem pass_br20 (B nb : Nat) (ov ev dv : Value) (o : List Spn) (e0 rest ds : List Int) (k : Nat) (n : Int) (t : List Int) (ta : Option Addr) (tc : Nat) (w : World) (h : NS B w nb ov ev dv o (e0 ++ -1 :: rest) ds) (hB : B ≤ w.heap.size) (hl : t.length ≤ 9223372036854775807) (hR : Row w ta t) (h1 : oneS (20, n, t) = true) :
    Calls Tryd.prog 73 #[.pointer (some ⟨nb, 0, none⟩), .agg #[.int .i64 20, .int .i64 n, .slice ta t.length tc], .int .i64 k] w fun e w' => passAns B w w' nb ev dv (20, n, t) o e0 rest ds e := by
  obtain ⟨n0, n1, n2⟩ := h.cells
  obtain ⟨oa, oc, hov⟩ := h.slice
  have hlt : nb < w.heap.size := (Array.getElem?_eq_some_iff.1 h.blk).1
  have e1 := World.new_ne w ⟨nb, 0, none⟩ n0
  have HR : Hid (Row w ta t) := hR
  have H : Hid (NS B w nb ov ev dv o (e0 ++ -1 :: rest) ds ∧ oneS (20, n, t) = true) := ⟨h, h1⟩
  clear h n1 n2 hR h1
  subst hov
  have HF : Hid (∀ W, Below w.heap.size w W → Calls Tryd.prog 100 #[.agg #[.int .i64 20, .int .i64 n, .slice ta t.length tc]] W fun e w' => (∃ r : Int, e = .returned (.int .i64 r) ∧ ∀ m : Int, r ≤ m ↔ (n ≤ m ∧ ∀ v ∈ t, v ≤ m)) ∧ Below W.heap.size W w') := fun W hW => farthest_any 20 n t ta tc W hl (HR.out.below hW)
  go_enter Tryd.func73, Tryd.ntmps73
  go_wp2
  go_region_held (fun w' => w'.cell? ⟨nb, 0, none⟩ = some (.slice oa o.length oc) ∧ w'.cell? ⟨w.heap.size, 0, none⟩ = some (.int .i64 20) ∧ w'.cell? ⟨w.heap.size, 1, none⟩ = some (.int .i64 n) ∧ w'.cell? ⟨w.heap.size, 2, none⟩ = some (.slice ta t.length tc))
    (first | go_keep | (go_split_ands; refine ⟨?_, ?_, ?_, ?_⟩ <;> (rw [hb1.cell (by simp <;> omega)]; assumption)))
    ((go_at_call 100; refine (HF.out _ (below1 w _).drew).mono ?_; rintro e w1 ⟨⟨r, rfl, hr0⟩, hb1⟩; have hr : Hid (∀ m : Int, r ≤ m ↔ (n ≤ m ∧ ∀ v ∈ t, v ≤ m)) := hr0; clear hr0))
  go_wp2
  go_ret
  have hb2 : Below w.heap.size w w1 := bstep' (below1 w _).drew hb1
  obtain ⟨hn, h1⟩ := H.out
  have hw := within_far (op := 20) (n := n) (t := t) (m := o.length) (by decide) hr.out
  have hn2 := hn.heap hb2
  suffices hfin : passAns B w w1 nb ev dv (20, n, t) o e0 rest ds (.returned (.bool (decide (r ≤ (o.length : Int))))) from hfin
  rw [← hw]
  cases hw2 : withinB (20, n, t) o.length with
  | false => exact pass_no (hb2.mono hB) (stp_far hw2)
  | true =>
    have HS := stp_rest (x := (20, n, t)) (e := e0) h1 hw2 (show opensB 20 = false by decide) (by simp) (by simp)
    refine pass_yes (hb2.mono hB) HS (ov' := .slice oa o.length oc) ?_
    simpa using hn2

set_option maxHeartbeats 4000000 in
theorem pass_br21 (B nb : Nat) (ov ev dv : Value) (o : List Spn) (e0 rest ds : List Int) (k : Nat) (n : Int) (t : List Int) (ta : Option Addr) (tc : Nat) (w : World) (h : NS B w nb ov ev dv o (e0 ++ -1 :: rest) ds) (hB : B ≤ w.heap.size) (hl : t.length ≤ 9223372036854775807) (hR : Row w ta t) (h1 : oneS (21, n, t) = true) :
    Calls Tryd.prog 73 #[.pointer (some ⟨nb, 0, none⟩), .agg #[.int .i64 21, .int .i64 n, .slice ta t.length tc], .int .i64 k] w fun e w' => passAns B w w' nb ev dv (21, n, t) o e0 rest ds e := by
  obtain ⟨n0, n1, n2⟩ := h.cells
  obtain ⟨oa, oc, hov⟩ := h.slice
  have hlt : nb < w.heap.size := (Array.getElem?_eq_some_iff.1 h.blk).1
  have e1 := World.new_ne w ⟨nb, 0, none⟩ n0
  have HR : Hid (Row w ta t) := hR
  have H : Hid (NS B w nb ov ev dv o (e0 ++ -1 :: rest) ds ∧ oneS (21, n, t) = true) := ⟨h, h1⟩
  clear h n1 n2 hR h1
  subst hov
  have HF : Hid (∀ W, Below w.heap.size w W → Calls Tryd.prog 100 #[.agg #[.int .i64 21, .int .i64 n, .slice ta t.length tc]] W fun e w' => (∃ r : Int, e = .returned (.int .i64 r) ∧ ∀ m : Int, r ≤ m ↔ (n ≤ m ∧ ∀ v ∈ t, v ≤ m)) ∧ Below W.heap.size W w') := fun W hW => farthest_any 21 n t ta tc W hl (HR.out.below hW)
  go_enter Tryd.func73, Tryd.ntmps73
  go_wp2
  go_region_held (fun w' => w'.cell? ⟨nb, 0, none⟩ = some (.slice oa o.length oc) ∧ w'.cell? ⟨w.heap.size, 0, none⟩ = some (.int .i64 21) ∧ w'.cell? ⟨w.heap.size, 1, none⟩ = some (.int .i64 n) ∧ w'.cell? ⟨w.heap.size, 2, none⟩ = some (.slice ta t.length tc))
    (first | go_keep | (go_split_ands; refine ⟨?_, ?_, ?_, ?_⟩ <;> (rw [hb1.cell (by simp <;> omega)]; assumption)))
    ((go_at_call 100; refine (HF.out _ (below1 w _).drew).mono ?_; rintro e w1 ⟨⟨r, rfl, hr0⟩, hb1⟩; have hr : Hid (∀ m : Int, r ≤ m ↔ (n ≤ m ∧ ∀ v ∈ t, v ≤ m)) := hr0; clear hr0))
  go_wp2
  go_ret
  have hb2 : Below w.heap.size w w1 := bstep' (below1 w _).drew hb1
  obtain ⟨hn, h1⟩ := H.out
  have hw := within_far (op := 21) (n := n) (t := t) (m := o.length) (by decide) hr.out
  have hn2 := hn.heap hb2
  suffices hfin : passAns B w w1 nb ev dv (21, n, t) o e0 rest ds (.returned (.bool (decide (r ≤ (o.length : Int))))) from hfin
  rw [← hw]
  cases hw2 : withinB (21, n, t) o.length with
  | false => exact pass_no (hb2.mono hB) (stp_far hw2)
  | true =>
    have HS := stp_rest (x := (21, n, t)) (e := e0) h1 hw2 (show opensB 21 = false by decide) (by simp) (by simp)
    refine pass_yes (hb2.mono hB) HS (ov' := .slice oa o.length oc) ?_
    simpa using hn2

set_option maxHeartbeats 4000000 in
theorem pass_br22 (B nb : Nat) (ov ev dv : Value) (o : List Spn) (e0 rest ds : List Int) (k : Nat) (n : Int) (t : List Int) (ta : Option Addr) (tc : Nat) (w : World) (h : NS B w nb ov ev dv o (e0 ++ -1 :: rest) ds) (hB : B ≤ w.heap.size) (hl : t.length ≤ 9223372036854775807) (hR : Row w ta t) (h1 : oneS (22, n, t) = true) :
    Calls Tryd.prog 73 #[.pointer (some ⟨nb, 0, none⟩), .agg #[.int .i64 22, .int .i64 n, .slice ta t.length tc], .int .i64 k] w fun e w' => passAns B w w' nb ev dv (22, n, t) o e0 rest ds e := by
  obtain ⟨n0, n1, n2⟩ := h.cells
  obtain ⟨oa, oc, hov⟩ := h.slice
  have hlt : nb < w.heap.size := (Array.getElem?_eq_some_iff.1 h.blk).1
  have e1 := World.new_ne w ⟨nb, 0, none⟩ n0
  have HR : Hid (Row w ta t) := hR
  have H : Hid (NS B w nb ov ev dv o (e0 ++ -1 :: rest) ds ∧ oneS (22, n, t) = true) := ⟨h, h1⟩
  clear h n1 n2 hR h1
  subst hov
  have HF : Hid (∀ W, Below w.heap.size w W → Calls Tryd.prog 100 #[.agg #[.int .i64 22, .int .i64 n, .slice ta t.length tc]] W fun e w' => (∃ r : Int, e = .returned (.int .i64 r) ∧ ∀ m : Int, r ≤ m ↔ (n ≤ m ∧ ∀ v ∈ t, v ≤ m)) ∧ Below W.heap.size W w') := fun W hW => farthest_any 22 n t ta tc W hl (HR.out.below hW)
  go_enter Tryd.func73, Tryd.ntmps73
  go_wp2
  go_region_held (fun w' => w'.cell? ⟨nb, 0, none⟩ = some (.slice oa o.length oc) ∧ w'.cell? ⟨w.heap.size, 0, none⟩ = some (.int .i64 22) ∧ w'.cell? ⟨w.heap.size, 1, none⟩ = some (.int .i64 n) ∧ w'.cell? ⟨w.heap.size, 2, none⟩ = some (.slice ta t.length tc))
    (first | go_keep | (go_split_ands; refine ⟨?_, ?_, ?_, ?_⟩ <;> (rw [hb1.cell (by simp <;> omega)]; assumption)))
    ((go_at_call 100; refine (HF.out _ (below1 w _).drew).mono ?_; rintro e w1 ⟨⟨r, rfl, hr0⟩, hb1⟩; have hr : Hid (∀ m : Int, r ≤ m ↔ (n ≤ m ∧ ∀ v ∈ t, v ≤ m)) := hr0; clear hr0))
  go_wp2
  go_ret
  have hb2 : Below w.heap.size w w1 := bstep' (below1 w _).drew hb1
  obtain ⟨hn, h1⟩ := H.out
  have hw := within_far (op := 22) (n := n) (t := t) (m := o.length) (by decide) hr.out
  have hn2 := hn.heap hb2
  suffices hfin : passAns B w w1 nb ev dv (22, n, t) o e0 rest ds (.returned (.bool (decide (r ≤ (o.length : Int))))) from hfin
  rw [← hw]
  cases hw2 : withinB (22, n, t) o.length with
  | false => exact pass_no (hb2.mono hB) (stp_far hw2)
  | true =>
    have HS := stp_rest (x := (22, n, t)) (e := e0) h1 hw2 (show opensB 22 = false by decide) (by simp) (by simp)
    refine pass_yes (hb2.mono hB) HS (ov' := .slice oa o.length oc) ?_
    simpa using hn2

theorem owns_base {w : World} {nb B : Nat} {ov ev dv : Value} {o : List Spn} {es ds : List Int} (h : NS B w nb ov ev dv o es ds) : B ≤ w.heap.size := Nat.le_trans h.low (Nat.le_of_lt (Array.getElem?_eq_some_iff.1 h.blk).1)
/-- the program's pass, at every step that may stand -/
theorem pass_any (B nb : Nat) (ov ev dv : Value) (o : List Spn) (e0 rest ds : List Int) (k : Nat) (p n : Int) (t : List Int) (ta : Option Addr) (tc : Nat) (w : World) (h : NS B w nb ov ev dv o (e0 ++ -1 :: rest) ds) (h8 : o.length ≤ 8) (hk : e0.length = k) (h60 : (e0 ++ -1 :: rest).length ≤ 60) (ho : okO o k) (hl : t.length ≤ 9223372036854775807) (hR : Row w ta t) (h1 : oneS (p, n, t) = true) :
    Calls Tryd.prog 73 #[.pointer (some ⟨nb, 0, none⟩), .agg #[.int .i64 p, .int .i64 n, .slice ta t.length tc], .int .i64 k] w fun e w' => passAns B w w' nb ev dv (p, n, t) o e0 rest ds e := by
  have hB := owns_base h
  have hop : 1 ≤ p ∧ p ≤ 22 := by
    have := h1
    simp only [oneS, Bool.and_eq_true] at this
    simpa [isOpB] using this.1.1
  have ht0 : p ≠ 22 → t.length = 0 := by
    intro hne
    have := h1
    simp only [oneS, Bool.and_eq_true, if_neg hne, decide_eq_true_eq] at this
    exact this.2
  by_cases h20 : p < 20
  · have h2 : withinB (p, n, t) o.length = true := within_plain h20 (ht0 (by omega))
    cases h3 : opensB p with
    | true =>
      have hp : p = 15 ∨ p = 16 ∨ p = 17 := by simp [opensB] at h3; omega
      have key : ∀ e w', (e = .returned (.bool (decide (o.length < 8))) ∧ (∃ ov', NS B w' nb ov' ev dv (o ++ [(p, k, -1)]) (e0 ++ -1 :: rest) ds) ∧ Below B w w') → passAns B w w' nb ev dv (p, n, t) o e0 rest ds e := by
        rintro e w' ⟨rfl, ⟨ov', hn⟩, hb⟩
        by_cases h88 : o.length < 8
        · rw [decide_eq_true h88]
          refine pass_yes hb (stp_push (x := (p, n, t)) h1 h2 h3 h88) (ov' := ov') ?_
          simp only [hk]
          simpa using hn
        · rw [decide_eq_false h88]
          exact pass_no hb (stp_full (x := (p, n, t)) h3 h88)
      rcases hp with rfl | rfl | rfl
      · exact (pass_push15 B nb ov ev dv o _ ds k n t ta tc w h h8).mono key
      · exact (pass_push16 B nb ov ev dv o _ ds k n t ta tc w h h8).mono key
      · exact (pass_push17 B nb ov ev dv o _ ds k n t ta tc w h h8).mono key
    | false =>
      have hp : p < 15 ∨ p = 18 ∨ p = 19 := by simp [opensB] at h3; omega
      rcases hp with hp | rfl | rfl
      · exact pass_rest B nb ov ev dv o e0 rest ds k p n t ta tc w h hB h1 h2 hp
      · exact pass_else B nb ov ev dv o e0 rest ds k n t ta tc w h hB h8 hk h1 h2
      · exact pass_end B nb ov ev dv o e0 rest ds k n t ta tc w h hB h8 hk h60 ho h1 h2
  · have hp : p = 20 ∨ p = 21 ∨ p = 22 := by omega
    rcases hp with rfl | rfl | rfl
    · exact pass_br20 B nb ov ev dv o e0 rest ds k n t ta tc w h hB hl hR h1
    · exact pass_br21 B nb ov ev dv o e0 rest ds k n t ta tc w h hB hl hR h1
    · exact pass_br22 B nb ov ev dv o e0 rest ds k n t ta tc w h hB hl hR h1
end Go.Proofs.YthkkhinmdlmhkaaDoor
