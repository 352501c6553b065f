/- Slices of slices of texts: held against each other, marked, and asked for the marks. -/
import Derived.Test.YtpjhmminbndgiaaConf
import Derived.Test.YtpjhmminbndgiaaMarkT
import Derived.Deep.RegionWith
namespace Go.Proofs.Ytpjhmminbndgiaa
open Go.RowKit
set_option linter.unusedVariables false
set_option linter.unusedSimpArgs false
set_option maxHeartbeats 4000000
set_option maxRecDepth 100000

/-- a pair's list, as it can be read -/
theorem arow_pair {w : World} {ib : Nat} {x y : Tx} (c1 : w.cell? ⟨ib, 0, none⟩ = some (.string (Sb x))) (c2 : w.cell? ⟨ib, 1, none⟩ = some (.string (Sb y))) : ARow w (some ⟨ib, 0, none⟩) [Sb x, Sb y] := by
  refine .inr ⟨ib, 0, rfl, fun i s hi => ?_⟩
  match i, hi with
  | 0, hi => simp at hi; subst hi; simpa using c1
  | 1, hi => simp at hi; subst hi; simpa using c2
  | i + 2, hi => simp at hi
theorem eqPairs_same (a a' : Option Addr) (c c' : Nat) (ps : List (Tx × Tx)) (w : World) (hl : ps.length ≤ 9223372036854775807) (h : PRow w a ps) (h' : PRow w a' ps) :
    Calls Try.prog 42 #[.slice a ps.length c, .slice a' ps.length c'] w fun e w' => e = .returned (.bool true) ∧ Below w.heap.size w w' := by
  have H := hid h
  have H' := hid h'
  clear h h'
  go_enter Try.func42, Try.ntmps42
  go_wp2
  go_loopw [5] (fun t wr => ∃ (k : Nat), t = .int .i64 k ∧ k ≤ ps.length ∧ Below w.heap.size w wr) (fun t _ => ps.length - (intOf t).toNat)
  case atStart => exact ⟨0, rfl, by omega, Below.refl _ _⟩
  case round =>
    obtain ⟨V0, rfl⟩ : ∃ V0, V0 = wr := ⟨_, rfl⟩
    obtain ⟨k, rfl, hk, hB⟩ := hrel
    by_cases hlt : k < ps.length
    · obtain ⟨b, off, rfl, hc⟩ := H.out.resolve_left (by intro e; subst e; simp at hlt)
      obtain ⟨b', off', rfl, hc'⟩ := H'.out.resolve_left (by intro e; subst e; simp at hlt)
      obtain ⟨⟨x, y⟩, hx⟩ : ∃ x, ps[k]? = some x := ⟨_, List.getElem?_eq_getElem hlt⟩
      obtain ⟨ib, ic, c0, c1, c2⟩ := hc k x y hx
      obtain ⟨ib', ic', c0', c1', c2'⟩ := hc' k x y hx
      have d0 := cell_below c0 hB
      have d0' := cell_below c0' hB
      have hbd : Below V0.heap.size V0 V0.drew := (Below.refl _ _).drew
      have HE := hid (eqStr_same (some ⟨ib, 0, none⟩) (some ⟨ib', 0, none⟩) ic ic' [Sb x, Sb y] V0.drew (by simp) ((arow_pair c1 c2).below (bstep' hB hbd)) ((arow_pair c1' c2').below (bstep' hB hbd)))
      simp only [List.length_cons, List.length_nil] at HE
      have HBD := hid (bstep' hB hbd)
      clear hc hc' c0 c0' c1 c2 c1' c2' hbd hx
      go_wp2
      go_region_held (fun W => W.cell? ⟨b, off + k, none⟩ = some (.slice (some ⟨ib, 0, none⟩) 2 ic) ∧ W.cell? ⟨b', off' + k, none⟩ = some (.slice (some ⟨ib', 0, none⟩) 2 ic')) ((first | exact hc9 | go_keep)) ((first | (go_at_call 38; refine HE.out.mono ?_; rintro e w3 ⟨rfl, hb3⟩; have hc9 := And.intro (cell_below (w := V0.drew) d0 hb3) (cell_below (w := V0.drew) d0' hb3))))
      all_goals
        go_wp2
        go_roundw
        case rel => exact ⟨k + 1, by go_num, by omega, HBD.out.trans (hb3.mono HBD.out.size)⟩
        case measure => simp [intOf]; omega
    · go_wp2
      go_ret
      exact ⟨rfl, hB⟩
/-- pairs that are marked, from a number on -/
def rowsM (s : Nat) : List PV → List OR
  | [] => []
  | y :: r => ⟨9, 1, y.v, 2, strV (markA (1 + 2 * (s : Int)) 2)⟩ :: rowsM (s + 1) r
theorem rowsM_append (s : Nat) (l m : List PV) : rowsM s (l ++ m) = rowsM s l ++ rowsM (s + l.length) m := by
  induction l generalizing s with
  | nil => simp [rowsM]
  | cons y r ih =>
    simp only [List.cons_append, rowsM, ih, List.length_cons]
    have : s + 1 + r.length = s + (r.length + 1) := by omega
    rw [this]
theorem rowsM_mem {s : Nat} {ys : List PV} {k : Nat} {y : PV} (h : ys[k]? = some y) : (⟨9, 1, y.v, 2, strV (markA (1 + 2 * ((s + k : Nat) : Int)) 2)⟩ : OR) ∈ rowsM s ys := by
  induction ys generalizing s k with
  | nil => simp at h
  | cons z r ih =>
    cases k with
    | zero => simp at h; subst h; simp [rowsM]
    | succ k =>
      simp at h
      have := ih (s := s + 1) h
      rw [show s + 1 + k = s + (k + 1) by omega] at this
      exact List.mem_cons_of_mem _ this
def MarkedP (w : World) (B : Nat) (pre : List OR) (ov : Value) (n : Nat) (ys : List PV) (j : Nat) : Prop := Sep w B (pre ++ ⟨32, 1, ov, n, pvals ys⟩ :: (rowsM 0 (ys.take j) ++ (ys.drop j).map rowP))
theorem MadeP.marked {w : World} {B n : Nat} {pre : List OR} {ov : Value} {ys : List PV} (h : MadeP w B pre ov n ys) : MarkedP w B pre ov n ys 0 := by
  unfold MarkedP; simpa [rowsM] using h.2
theorem markPairs_any (B n : Nat) (pre : List OR) (v : Value) (ys : List PV) (w : World) (hn : n = ys.length) (hn1 : n ≤ 1000000) (hB : B ≤ w.heap.size) (h : MarkedP w B pre v n ys 0) :
    Calls Try.prog 43 #[v, .int .i64 1] w fun e w' => e = .returned (.int .i64 (1 + 2 * (n : Int))) ∧ MarkedP w' B pre v n ys n ∧ Below B w w' := by
  have ho := h.1 ⟨32, 1, v, n, pvals ys⟩ (by simp)
  obtain ⟨a, c, hv⟩ := slice_of_owned ho
  simp only [] at hv
  subst hv
  have H := hid h
  clear ho h
  subst hn
  go_enter Try.func43, Try.ntmps43
  go_wp2
  go_loopw [1, 5] (fun t1 t5 wr => ∃ (j : Nat), t1 = .int .i64 (1 + 2 * (j : Int)) ∧ t5 = .int .i64 (j : Int) ∧ j ≤ ys.length ∧ MarkedP wr B pre (.slice a ys.length c) ys.length ys j ∧ Below B w wr) (fun _ t5 _ => ys.length - (intOf t5).toNat)
  case atStart => exact ⟨0, by simp, rfl, by omega, H.out, Below.refl _ _⟩
  case round =>
    clear H
    obtain ⟨V0, rfl⟩ : ∃ V0, V0 = wr := ⟨_, rfl⟩
    obtain ⟨j, rfl, rfl, hj, hM, hBW⟩ := hrel
    by_cases hlt : j < ys.length
    · obtain ⟨y, hy⟩ : ∃ y, ys[j]? = some y := ⟨_, List.getElem?_eq_getElem hlt⟩
      have hd : ys.drop j = y :: ys.drop (j + 1) := drop_at hy
      have hM' : Sep V0 B ((pre ++ ⟨32, 1, .slice a ys.length c, ys.length, pvals ys⟩ :: rowsM 0 (ys.take j)) ++ rowP y :: (ys.drop (j + 1)).map rowP) := by
        unfold MarkedP at hM
        rw [hd] at hM
        simpa using hM
      have ho := hM'.1 (rowP y) (by simp)
      have hrow := hM'.1 ⟨32, 1, .slice a ys.length c, ys.length, pvals ys⟩ (by simp)
      obtain ⟨g, cap, cur, he, _⟩ := hrow.2.resolve_left (by rintro ⟨_, h0⟩; simp only [] at h0; omega)
      simp only [] at he
      injection he with he _ hcc
      subst he
      subst hcc
      have c0 : V0.cell? ⟨g, j, none⟩ = some y.v := hM'.cell (x := ⟨32, 1, .slice (some ⟨g, 0, none⟩) ys.length c, ys.length, pvals ys⟩) (by simp) rfl (by simp [pvals, hy])
      have c0' : V0.cell? ⟨g, 0 + j, none⟩ = some y.v := by rw [Nat.zero_add]; exact c0
      have HM := hid hM'
      have CM := hid (markStr_any B 2 y.v (strs [y.x, y.y]) (1 + 2 * (j : Int)) V0 (by omega) (by omega) ho)
      have HT : Hid (rowsM 0 (ys.take (j + 1)) = rowsM 0 (ys.take j) ++ [⟨9, 1, y.v, 2, strV (markA (1 + 2 * (j : Int)) 2)⟩]) := by
        show _ = _
        rw [List.take_add_one, hy, rowsM_append]
        simp only [Option.toList_some, rowsM, List.length_take, Nat.zero_add]
        rw [Nat.min_eq_left (by omega)]
      have hoB := ho
      clear hM hM' ho hrow hd
      go_wp2_with fail
      refine CM.out.mono ?_
      rintro e w3 ⟨rfl, ho3, hg3⟩
      have HS3 := hid (Sep.turn _ HM.out (Below.refl _ _) hg3 ⟨9, 1, y.v, 2, strV (markA (1 + 2 * (j : Int)) 2)⟩ ho3 (fun k hk => .inl hk))
      have HB3 := hid (hBW.grown hg3 (Nat.le_trans hB hBW.size) (fun k e => (hoB.lt k e).1))
      clear ho3 hg3 c0 c0'
      go_wp2
      go_roundw
      case rel =>
        refine ⟨j + 1, by go_num, by go_num, by omega, ?_, HB3.out⟩
        unfold MarkedP
        rw [HT.out]
        have := HS3.out
        simpa using this
      case measure => simp [intOf]; omega
    · obtain rfl : j = ys.length := by omega
      have HM := hid hM
      clear hM
      go_wp2
      go_ret
      exact ⟨rfl, HM.out, hBW⟩
/-- marked pairs, as they can be read -/
def MRow (w : World) (a : Option Addr) (n : Nat) : Prop := n = 0 ∨ ∃ b off, a = some ⟨b, off, none⟩ ∧ ∀ k, k < n → ∃ ib ic, w.cell? ⟨b, off + k, none⟩ = some (.slice ib 2 ic) ∧ ARow w ib (markA (1 + 2 * (k : Int)) 2)
theorem MRow.below {w w' : World} {a : Option Addr} {n : Nat} (h : MRow w a n) (hb : Below w.heap.size w w') : MRow w' a n := by
  rcases h with h | ⟨b, off, rfl, hc⟩
  · exact .inl h
  · refine .inr ⟨b, off, rfl, fun k hk => ?_⟩
    obtain ⟨ib, ic, h1, h2⟩ := hc k hk
    exact ⟨ib, ic, cell_below h1 hb, h2.below hb⟩
theorem MarkedP.row {w : World} {B n c : Nat} {pre : List OR} {a : Option Addr} {ys : List PV} (h : MarkedP w B pre (.slice a n c) n ys n) (hn : n = ys.length) : MRow w a n := by
  have hrow := h.1 ⟨32, 1, .slice a n c, n, pvals ys⟩ (by simp)
  rcases hrow.2 with ⟨_, h0⟩ | ⟨g, cap, cur, he, _⟩
  · exact .inl h0
  · simp only [] at he
    injection he with he _ _
    subst he
    refine .inr ⟨g, 0, rfl, fun k hk => ?_⟩
    obtain ⟨y, hy⟩ : ∃ y, ys[k]? = some y := ⟨_, List.getElem?_eq_getElem (by omega)⟩
    have hm : (⟨9, 1, y.v, 2, strV (markA (1 + 2 * ((0 + k : Nat) : Int)) 2)⟩ : OR) ∈ rowsM 0 (ys.take n) := by
      rw [List.take_of_length_le (by omega)]
      exact rowsM_mem hy
    have ho := h.1 _ (List.mem_append_right _ (List.mem_cons_of_mem _ (List.mem_append_left _ hm)))
    rw [Nat.zero_add] at ho
    obtain ⟨ib, ic, hv⟩ := slice_of_owned ho
    simp only [] at hv
    have c0 := h.cell (x := ⟨32, 1, .slice (some ⟨g, 0, none⟩) n c, n, pvals ys⟩) (by simp) rfl (j := k) (u := y.v) (by simp [pvals, hy])
    rw [hv] at c0 ho
    refine ⟨ib, ic, by rw [Nat.zero_add]; exact c0, ?_⟩
    obtain ⟨a', c', e, r⟩ := ARow.of_owned ho (markA_length _ _).symm
    injection e with e1 e2 e3
    rw [e1]; exact r
theorem heldPairs_any (a : Option Addr) (c n : Nat) (w : World) (hn : n ≤ 1000000) (h : MRow w a n) :
    Calls Try.prog 44 #[.slice a n c, .int .i64 1] w fun e w' => e = .returned (.int .i64 (1 + 2 * (n : Int))) ∧ Below w.heap.size w w' := by
  have H := hid h
  clear h
  go_enter Try.func44, Try.ntmps44
  go_wp2
  go_loopw [1, 5] (fun t1 t5 wr => ∃ (j : Nat), t1 = .int .i64 (1 + 2 * (j : Int)) ∧ t5 = .int .i64 (j : Int) ∧ j ≤ n ∧ Below w.heap.size w wr) (fun _ t5 _ => n - (intOf t5).toNat)
  case atStart => exact ⟨0, by simp, rfl, by omega, Below.refl _ _⟩
  case round =>
    obtain ⟨V0, rfl⟩ : ∃ V0, V0 = wr := ⟨_, rfl⟩
    obtain ⟨j, rfl, rfl, hj, hB⟩ := hrel
    by_cases hlt : j < n
    · obtain ⟨b, off, rfl, hc⟩ := H.out.resolve_left (by omega)
      obtain ⟨ib, ic, c0, hA⟩ := hc j hlt
      have d0 := cell_below c0 hB
      have CH := hid (heldStr_any ib ic 2 (1 + 2 * (j : Int)) V0 (by omega) (by omega) (hA.below hB))
      clear hc c0 hA
      go_wp2_with fail
      refine CH.out.mono ?_
      rintro e w3 ⟨rfl, hb3⟩
      go_wp2
      go_roundw
      case rel => exact ⟨j + 1, by go_num, by go_num, by omega, bstep' hB hb3⟩
      case measure => simp [intOf]; omega
    · obtain rfl : j = n := by omega
      go_wp2
      go_ret
      exact ⟨rfl, hB⟩
end Go.Proofs.Ytpjhmminbndgiaa
