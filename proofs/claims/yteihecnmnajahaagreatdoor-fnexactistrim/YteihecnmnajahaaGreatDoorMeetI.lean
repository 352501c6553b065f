/- What sets of any numbers both have; whether one has all of another. -/
import Derived.Test.YteihecnmnajahaaGreatDoorSetI
import Derived.Test.YteihecnmnajahaaGreatDoorNodes7
import Derived.Deep.RegionHeld
import Derived.Deep.CutRange
import Derived.Deep.DeepCutAuto
namespace Go.Proofs.YteihecnmnajahaaGreatDoor
open Go Go.RowKit Go.Shelf
attribute [local go_sem] Oper.semAt_some
set_option linter.unusedVariables false
set_option linter.unusedSimpArgs false
set_option maxRecDepth 100000

def posLI (s : List Int) (k : Int) : Nat := s.countP (· < k)
theorem search_anyI (a : Option Addr) (c : Nat) (s : List Int) (k : Int) (w : World) (hl : s.length ≤ 100000) (h : Row w a s) (hs : s.Pairwise (· < ·)) :
    Calls Tryz.prog 135 #[.slice a s.length c, .int .i64 k] w fun e w' => e = .returned (.tuple #[.int .i64 (posLI s k : Nat), .bool (decide (k ∈ s))]) ∧ ∃ q, w' = w.drewN q := by
  rcases h with h | ⟨b, off, rfl, hc⟩
  · subst h
    refine (Tryz.slices_BinarySearch_int_empty a c k w).mono ?_
    rintro e w' ⟨rfl, rfl⟩
    exact ⟨by simp [posLI], 0, rfl⟩
  · have := Tryz.slices_BinarySearch_int b off s.length c s k w (Nat.le_refl _) (by omega) (fun j hj => by rw [hc j hj, List.getD_eq_getElem?_getD]) (by rw [List.take_of_length_le (Nat.le_refl _)]; exact hs.imp fun h => by omega)
    rw [List.take_of_length_le (Nat.le_refl _)] at this
    simpa [posLI] using this
theorem has_anyI (a : Option Addr) (c : Nat) (s : List Int) (k : Int) (w : World) (hl : s.length ≤ 100000) (h : Row w a s) (hs : s.Pairwise (· < ·)) :
    Calls Tryz.prog 121 #[.agg #[.slice a s.length c], .int .i64 k] w fun e w' => e = .returned (.bool (decide (k ∈ s))) ∧ Below w.heap.size w w' := by
  have H := hid (fun W (hb : Below w.heap.size w W) => search_anyI a c s k W hl (h.below hb) hs)
  clear h hs
  go_enter Tryz.func121, Tryz.ntmps121
  go_wp2_with fail
  refine (H.out _ (below1 w _)).mono ?_
  rintro e w1 ⟨rfl, q, rfl⟩
  go_wp2
  go_ret
  exact ⟨rfl, below_drewN (below1 w _) q⟩
def meetLI (s t : List Int) : List Int := s.filter (fun x => decide (x ∈ t))
theorem meetLI_in {s t : List Int} {x : Int} (h : x ∈ t) : meetLI (s ++ [x]) t = meetLI s t ++ [x] := by simp [meetLI, h]
theorem meetLI_out {s t : List Int} {x : Int} (h : x ∉ t) : meetLI (s ++ [x]) t = meetLI s t := by simp [meetLI, h]
theorem meetLI_len (s t : List Int) : (meetLI s t).length ≤ s.length := List.length_filter_le _ _
theorem meetLI_rising {s t : List Int} (h : s.Pairwise (· < ·)) : (meetLI s t).Pairwise (· < ·) := h.filter _
theorem mem_meetLI {s t : List Int} {x : Int} : x ∈ meetLI s t ↔ x ∈ s ∧ x ∈ t := by simp [meetLI]
def allInI (s t : List Int) : Bool := t.all fun x => decide (x ∈ s)
theorem meet_allI {s t : List Int} (hs : s.Pairwise (· < ·)) (ht : t.Pairwise (· < ·)) : decide (meetLI s t = t) = allInI s t := by
  rw [Bool.eq_iff_iff, decide_eq_true_iff]
  unfold allInI
  rw [List.all_eq_true]
  constructor
  · intro h x hx
    rw [← h] at hx
    exact decide_eq_true (mem_meetLI.1 hx).1
  · intro h
    refine rising_int (meetLI_rising hs) ht fun x => ?_
    rw [mem_meetLI]
    exact ⟨fun k => k.2, fun k => ⟨of_decide_eq_true (h x k), k⟩⟩
theorem equal_anyI (a b : Option Addr) (c d : Nat) (s t : List Int) (w : World) (hs : s.length ≤ 1000) (ht : t.length ≤ 100000) (h1 : Row w a s) (h2 : Row w b t) :
    Calls Tryz.prog 137 #[.slice a s.length c, .slice b t.length d] w fun e w' => e = .returned (.bool (decide (s = t))) ∧ ∃ q, w' = w.drewN q := by
  by_cases hl : s.length = t.length
  · rcases h1 with h1 | ⟨b1, o1, rfl, c1⟩
    · obtain rfl : s = [] := by cases s with | nil => rfl | cons x r => simp at h1
      obtain rfl : t = [] := List.eq_nil_of_length_eq_zero (by simpa using hl.symm)
      refine (Tryz.slices_Equal_int_empty a b c 0 d w (by omega)).mono ?_
      rintro e w' ⟨rfl, rfl⟩
      exact ⟨by simp, 0, rfl⟩
    · rcases h2 with h2 | ⟨b2, o2, rfl, c2⟩
      · obtain rfl : t = [] := by cases t with | nil => rfl | cons x r => simp at h2
        obtain rfl : s = [] := List.eq_nil_of_length_eq_zero (by simpa using hl)
        refine (Tryz.slices_Equal_int_empty (some ⟨b1, o1, none⟩) b c 0 d w (by omega)).mono ?_
        rintro e w' ⟨rfl, rfl⟩
        exact ⟨by simp, 0, rfl⟩
      · refine (Tryz.slices_Equal_int b1 o1 s.length c b2 o2 t.length d s t w (by omega) (by omega) (by omega) (by omega) (fun j hj => by rw [List.getD_eq_getElem?_getD]; exact c1 j hj) (fun j hj => by rw [List.getD_eq_getElem?_getD]; exact c2 j hj)).mono ?_
        rintro e w' ⟨rfl, hq⟩
        refine ⟨?_, hq⟩
        rw [List.take_of_length_le (by omega), List.take_of_length_le (by omega)]
        have e1 : (s = t) ↔ s = t := Iff.rfl
        congr 2
        rw [Bool.eq_iff_iff, beq_iff_eq, decide_eq_true_iff]
  · refine (Tryz.slices_Equal_int_lens a b s.length c t.length d w hl).mono ?_
    rintro e w' ⟨rfl, rfl⟩
    exact ⟨by simp [show s ≠ t from fun h => hl (by rw [h])], 0, rfl⟩
set_option maxHeartbeats 1000000 in
theorem equals_anyI (a b : Option Addr) (c d : Nat) (s t : List Int) (w : World) (hs : s.length ≤ 1000) (ht : t.length ≤ 100000) (h1 : Row w a s) (h2 : Row w b t) :
    Calls Tryz.prog 117 #[.agg #[.slice a s.length c], .agg #[.slice b t.length d]] w fun e w' => e = .returned (.bool (decide (s = t))) ∧ Below w.heap.size w w' := by
  have b0 := below2 w (.cells #[.slice a s.length c] 112) (.cells #[.slice b t.length d] 112)
  have HE := hid (equal_anyI a b c d s t _ hs ht (h1.below b0) (h2.below b0))
  have HB := hid b0
  clear h1 h2 b0
  go_enter Tryz.func117, Tryz.ntmps117
  go_wp2_with fail
  refine HE.out.mono ?_
  rintro e w1 ⟨rfl, q, rfl⟩
  go_wp2
  go_ret
  exact ⟨rfl, below_drewN HB.out q⟩
set_option maxHeartbeats 4000000 in
theorem meet_anyI (a a2 : Option Addr) (c c2 : Nat) (s t : List Int) (w : World) (hs : s.length ≤ 1000) (ht : t.length ≤ 100000) (h1 : Row w a s) (h2 : Row w a2 t) (hr : t.Pairwise (· < ·)) :
    Calls Tryz.prog 115 #[.agg #[.slice a s.length c], .agg #[.slice a2 t.length c2]] w fun e w' => ∃ va vc, e = .returned (.agg #[.slice va (meetLI s t).length vc]) ∧ w'.ownsRow w.heap.size 3 1 (.slice va (meetLI s t).length vc) (meetLI s t).length (ints (meetLI s t)) ∧ Below w.heap.size w w' := by
  obtain ⟨i0, hi, hz0, hz1, hz2⟩ := info_parts info3
  have HH := hid (fun W (hb : Below w.heap.size w W) x => has_anyI a2 c2 t x W ht (h2.below hb) hr)
  have H1 := hid h1
  clear h1 h2 hr
  refine (callsIn_wide (n := 5)).1 ?_
  refine callsIn_of_wp_marks Tryz.func115 rfl trivial ?_ rfl
  simp only [Tryz.ntmps115, List.size_toArray, List.length_cons, List.length_nil, Nat.reduceAdd, Nat.reduceSub, Array.replicate_succ, Array.replicate_zero, List.push_toArray, List.append_toArray, List.nil_append, List.cons_append]
  gi_wp2_with (refine ⟨trivial, ?_⟩; gi_at_call 114; refine (callsIn_wide.2 (all_any _ _ _ _)).mono ?_; rintro e w' ⟨rfl, rfl⟩)
  obtain ⟨W0, hW0⟩ : ∃ W0, ((((((w.alloc (Obj.cells #[Value.slice a s.length c] 112)).alloc (Obj.cells #[Value.slice a2 t.length c2] 112)).alloc (Obj.cells #[Value.slice none 0 0] 112)).alloc (Obj.cells #[Value.slice none 0 0] 112)).alloc (Obj.cells #[Value.slice a s.length c] 112)).alloc (Obj.cells #[Value.slice a s.length c] 35)) = W0 := ⟨_, rfl⟩
  have hsz : W0.heap.size = w.heap.size + 6 := by rw [← hW0]; simp
  have B0 : Below w.heap.size w W0 := by
    rw [← hW0]
    exact (((((below1 w _).alloc (by simp) _).alloc (by simp; omega) _).alloc (by simp; omega) _).alloc (by simp; omega) _).alloc (by simp; omega) _
  have x3 : Boxed W0 (w.heap.size + 1) 112 (.slice a2 t.length c2) := by
    rw [← hW0]
    have := Boxed.new (w.alloc (Obj.cells #[Value.slice a s.length c] 112)) 112 (.slice a2 t.length c2)
    rw [World.size_alloc] at this
    exact (((this.alloc _).alloc _).alloc _).alloc _
  have x4 : Boxed W0 (w.heap.size + 1 + 1) 112 (.slice none 0 0) := by
    rw [← hW0]
    have := Boxed.new ((w.alloc (Obj.cells #[Value.slice a s.length c] 112)).alloc (Obj.cells #[Value.slice a2 t.length c2] 112)) 112 (.slice none 0 0)
    rw [World.size_alloc, World.size_alloc] at this
    exact ((this.alloc _).alloc _).alloc _
  have x5 : Boxed W0 (w.heap.size + 1 + 1 + 1) 112 (.slice none 0 0) := by
    rw [← hW0]
    have := Boxed.new (((w.alloc (Obj.cells #[Value.slice a s.length c] 112)).alloc (Obj.cells #[Value.slice a2 t.length c2] 112)).alloc (Obj.cells #[Value.slice none 0 0] 112)) 112 (.slice none 0 0)
    rw [World.size_alloc, World.size_alloc, World.size_alloc] at this
    exact (this.alloc _).alloc _
  have x7 : W0.cell? ⟨w.heap.size + 1 + 1 + 1 + 1 + 1, 0, none⟩ = some (.slice a s.length c) := by
    rw [← hW0]
    have := Boxed.new (((((w.alloc (Obj.cells #[Value.slice a s.length c] 112)).alloc (Obj.cells #[Value.slice a2 t.length c2] 112)).alloc (Obj.cells #[Value.slice none 0 0] 112)).alloc (Obj.cells #[Value.slice none 0 0] 112)).alloc (Obj.cells #[Value.slice a s.length c] 112)) 35 (.slice a s.length c)
    simp only [World.size_alloc] at this
    exact this.cell
  rw [hW0]
  clear hW0
  refine wpIn_rangeFunc_ownF rfl (by omega) (gf := 145) (lb := #[.pointer (some ⟨w.heap.size + 1 + 1 + 1 + 1 + 1, 0, none⟩)]) rfl trivial (enters_of Tryz.func145 (by kernel_rfl) rfl)
    (values_stops (fun x : Int => x) _ (by omega) (w.heap.size + 1 + 1 + 1 + 1 + 1) a c s hs w W0 B0 (by simpa using H1.out) (by omega) x7) (fun {_ _ _} h k => Below.trans h k) (belowK_b (w := W0) (n₀ := w.heap.size) (by omega)) (Below.refl _ _) (fun _ => rfl)
    (fun pre W => (∃ v, Boxed W (w.heap.size + 1 + 1 + 1) 112 v ∧ W.ownsRow w.heap.size 3 1 v (meetLI pre t).length (ints (meetLI pre t)) ∧ True) ∧ Boxed W (w.heap.size + 1) 112 (.slice a2 t.length c2) ∧ Boxed W (w.heap.size + 1 + 1) 112 (.slice none 0 0) ∧ Below w.heap.size w W)
    (fun _ _ _ => False)
    (OwnFrom.and (Own.from (holdsRow_own w.heap.size (w.heap.size + 1 + 1 + 1) 112 3 1 (fun pre => (meetLI pre t).length) (fun pre => ints (meetLI pre t)) (fun _ _ => True)) _) (OwnFrom.and (Own.from (boxed_own _ _ _) _) (OwnFrom.and (Own.from (boxed_own _ _ _) _) (ownFrom_below (Nat.le_refl _) (by omega)))))
    (fun _ _ _ _ _ hs _ _ => hs)
    ⟨⟨_, x5, World.ownsRow_nil _ _ _ _, trivial⟩, x3, x4, B0⟩
    (fun x => { tmps := #[Value.agg #[Value.slice a s.length c], Value.agg #[Value.slice a2 t.length c2], Value.pointer (some { block := w.heap.size, off := 0 }), Value.pointer (some { block := w.heap.size + 1, off := 0 }), Value.pointer (some { block := w.heap.size + 1 + 1, off := 0 }), Value.pointer (some { block := w.heap.size + 1 + 1 + 1, off := 0 }), .int .i64 (x : Int), Value.agg #[Value.slice a s.length c], Value.func (Fn.func 145) #[] #[Value.pointer (some { block := w.heap.size + 1 + 1 + 1 + 1 + 1, off := 0 })], .int .i64 (x : Int), undef, undef, undef, undef, undef, undef, undef, undef, undef, undef], defers := [] }) ?assign ?body ?done ?stop
  case assign =>
    intro l x W K hK
    gi_wp2
    exact hK
  case body =>
    rintro l pre x W ⟨⟨v, hv, hrow, _⟩, y3, y4, hB⟩ hlen
    have hWs := hB.size
    have hpl := meetLI_len pre t
    have y3c := y3.cell
    have HHx := HH.out W hB x
    have HI := hid (And.intro hv (And.intro hrow (And.intro y3 (And.intro y4 hB))))
    clear hv hrow y3 y4 hB
    by_cases hx : x ∈ t
    · have tx : decide (x ∈ t) = true := decide_eq_true hx
      rw [tx] at HHx
      have HH2 := hid HHx
      clear HHx tx
      gi_wp2_with (first | (refine ⟨trivial, ?_⟩; gi_at_call 121; refine (CallsIn.inRound l (callsIn_wide.2 HH2.out)).mono ?_; rintro e w1 ⟨rfl, hb1⟩; have hv := boxed_below HI.out.1 hb1; have hvc := hv.cell; have hrow := owns_below HI.out.2.1 hb1; have hB1 : Below w.heap.size w w1 := HI.out.2.2.2.2.trans (hb1.mono hWs)) | (gi_at_builtin; refine wpListIn_append_own _ rfl _ _ 35 rfl w.heap.size 3 i0 (.int .i64 0) 1 8 Tryz.underlying35 hi hz0 hz1 hz2 rfl (by decide) _ _ _ rfl (hrow.alloc _) ⟨w1.heap.size, 0, none⟩ 1 1 [.int .i64 (x : Int)] rfl rfl (cell_one_new _ _ _) (by simp [Value.oneCell']) (by unfold maxLen; omega) (by omega) (by have := hB1.size; simp; omega) ?_; intro v' w2 hown' hgrow _; obtain ⟨g', cap', rfl⟩ := ownsRow_succ hown'; obtain ⟨hv1, hv2, hr2, hk2, hb2⟩ := hv.appended (by decide) hrow hB1.size (by omega) hown' hgrow; have hc1 := hv1.cell; have hf1 := hv1.frozen))
      have e1 : meetLI (pre ++ [x]) t = meetLI pre t ++ [x] := meetLI_in hx
      have z3 := boxed_below HI.out.2.2.1 hb1
      have z4 := boxed_below HI.out.2.2.2.1 hb1
      refine ⟨(keeps_below hb1).trans hk2, (hb1.mono hWs).trans hb2, ?_⟩
      simp only [e1]
      refine ⟨⟨_, hv2, ?_, trivial⟩, ((z3.alloc _).kept hgrow (z3.not_row (by decide) hrow)).other (by omega) _, ((z4.alloc _).kept hgrow (z4.not_row (by decide) hrow)).other (by omega) _, hB1.trans hb2⟩
      have e2 : ints (meetLI pre t ++ [x]) = ints (meetLI pre t) ++ [.int .i64 (x : Int)] := by simp [ints]
      rw [e2, List.length_append]
      exact hr2
    · have tx : decide (x ∈ t) = false := decide_eq_false hx
      rw [tx] at HHx
      have HH2 := hid HHx
      clear HHx tx
      gi_wp2_with (refine ⟨trivial, ?_⟩; gi_at_call 121; refine (CallsIn.inRound l (callsIn_wide.2 HH2.out)).mono ?_; rintro e w1 ⟨rfl, hb1⟩)
      have e1 : meetLI (pre ++ [x]) t = meetLI pre t := meetLI_out hx
      refine ⟨keeps_below hb1, hb1.mono hWs, ?_⟩
      simp only [e1]
      exact ⟨⟨v, boxed_below HI.out.1 hb1, owns_below HI.out.2.1 hb1, trivial⟩, boxed_below HI.out.2.2.1 hb1, boxed_below HI.out.2.2.2.1 hb1, HI.out.2.2.2.2.trans (hb1.mono hWs)⟩
  case done =>
    rintro D ys W hD rfl ⟨⟨v, hv, hrow, _⟩, y3, y4, hB⟩ hK
    have hvc := hv.cell
    have y4c := y4.cell
    have y4f := y4.frozen
    obtain ⟨va, vc, rfl⟩ : ∃ va vc, v = .slice va (meetLI ys t).length vc := by
      rcases hrow.2 with ⟨h0, h1⟩ | ⟨g', cap, cur, he, _⟩
      · exact ⟨none, 0, by rw [h0, h1]⟩
      · exact ⟨_, _, he⟩
    gi_wp2
    have hK' : (W.setCell ⟨w.heap.size + 1 + 1, 0, none⟩ (Value.slice va (meetLI ys t).length vc)).heap[D]? = some (.deferred (some [])) := (KeepsOthers.setCell _ _ _).same D _ hK rfl
    have q4 := (y4.set (Value.slice va (meetLI ys t).length vc)).cell
    have qr := hrow.kept (grownBy_setCell' W (w.heap.size + 1 + 1) (Value.slice va (meetLI ys t).length vc)) (.inr (y4.not_row (by decide) hrow).symm)
    have qB := hB.setCell (p := ⟨w.heap.size + 1 + 1, 0, none⟩) (by show w.heap.size ≤ w.heap.size + 1 + 1; omega) (Value.slice va (meetLI ys t).length vc)
    refine ⟨by simp, .inl ⟨_, _, rfl, run_takeDeferred hK', ?_⟩⟩
    have q5 := cell_kept q4 (grownBy_putObj' _ D (.deferred none)) (fun r e => by cases e; exact ⟨_, hK', rfl⟩)
    exact ⟨.agg #[.slice va (meetLI ys t).length vc], by simp [results, Tryz.results115, go_sem, q5], va, vc, rfl, ownsRow_putObj qr _ hK' rfl, qB.trans (belowK_b (w := w) (Nat.le_refl _) _ D _ _ (by omega) hK' rfl rfl)⟩
  case stop =>
    rintro D c pre W _ _ h _
    exact h.elim
set_option maxHeartbeats 2000000 in
theorem hasAll_anyI (a b : Option Addr) (c d : Nat) (s t : List Int) (w : World) (hs : s.length ≤ 1000) (ht : t.length ≤ 100000) (h1 : Row w a s) (h2 : Row w b t) (hrs : s.Pairwise (· < ·)) (hrt : t.Pairwise (· < ·)) :
    Calls Tryz.prog 118 #[.agg #[.slice a s.length c], .agg #[.slice b t.length d]] w fun e w' => e = .returned (.bool (allInI s t)) ∧ Below w.heap.size w w' := by
  obtain ⟨A, hA⟩ : ∃ A, (w.alloc (.cells #[.slice a s.length c] 112)).alloc (.cells #[.slice b t.length d] 112) = A := ⟨_, rfl⟩
  have bA : Below w.heap.size w A := by rw [← hA]; exact below2 _ _ _
  have a0 : A.cell? ⟨w.heap.size, 0, none⟩ = some (.slice a s.length c) := by rw [← hA]; exact ((Boxed.new w 112 (.slice a s.length c)).alloc _).cell
  have a1 : A.cell? ⟨w.heap.size + 1, 0, none⟩ = some (.slice b t.length d) := by
    rw [← hA]
    have := Boxed.new (w.alloc (.cells #[.slice a s.length c] 112)) 112 (.slice b t.length d)
    rw [World.size_alloc] at this
    exact this.cell
  have HM := hid (fun W (hb : Below A.heap.size A W) => meet_anyI a b c d s t W hs ht (h1.below (bstep' bA hb)) (h2.below (bstep' bA hb)) hrt)
  have HE : Hid (∀ W va vc, Below A.heap.size A W → W.ownsRow A.heap.size 3 1 (.slice va (meetLI s t).length vc) (meetLI s t).length (ints (meetLI s t)) → Calls Tryz.prog 117 #[.agg #[.slice va (meetLI s t).length vc], .agg #[.slice b t.length d]] W fun e w' => e = .returned (.bool (allInI s t)) ∧ Below W.heap.size W w') := fun W va vc hb ho => by
    have := equals_anyI va b vc d (meetLI s t) t W (by have := meetLI_len s t; omega) ht (own_row (xs := meetLI s t) (by exact ho)) (h2.below (bstep' bA hb))
    rw [meet_allI hrs hrt] at this
    exact this
  have HK := hid (fun W (hb : Below A.heap.size A W) => And.intro (cell_below a0 hb) (cell_below a1 hb))
  clear h1 h2 hrs hrt
  obtain ⟨R, hR⟩ : ∃ R, allInI s t = R := ⟨_, rfl⟩
  rw [hR] at HE ⊢
  obtain ⟨m, hm⟩ : ∃ m, meetLI s t = m := ⟨_, rfl⟩
  rw [hm] at HE HM
  clear hR hm
  go_enter Tryz.func118, Tryz.ntmps118
  go_upto_region 1 with fail
  try rw [hA]
  clear hA
  go_region_held (fun W => W.cell? ⟨w.heap.size, 0, none⟩ = some (.slice a s.length c) ∧ W.cell? ⟨w.heap.size + 1, 0, none⟩ = some (.slice b t.length d)) ((first | exact HK.out _ hb2 | exact HK.out _ hb1 | go_keep)) ((first | (go_at_call 115; refine (HM.out _ (Below.refl _ _).drew).mono ?_; rintro e w1 ⟨va, vc, rfl, ho1, hb1'⟩; have hb1 : Below A.heap.size A w1 := below_of_drew hb1') | (go_at_call 117; refine (HE.out _ va vc hb1 ho1).mono ?_; rintro e w2 ⟨rfl, hb2'⟩; have hb2 := bstep' hb1 hb2')))
  have B2 := bstep' bA hb2
  clear hb1 hb1' hb2 hb2' ho1 HK HE HM
  go_wp2
  go_ret
  exact ⟨rfl, B2⟩
end Go.Proofs.YteihecnmnajahaaGreatDoor
