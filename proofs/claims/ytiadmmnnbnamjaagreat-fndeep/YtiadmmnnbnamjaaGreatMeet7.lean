/- What two sets both have. -/
import Derived.Test.YtiadmmnnbnamjaaGreatValues7
import Derived.Test.YtiadmmnnbnamjaaGreatSdom8
namespace Go.Proofs.YtiadmmnnbnamjaaGreat
open Go.RowKit Go.Shelf
attribute [local go_sem] Oper.semAt_some
set_option linter.unusedVariables false
set_option linter.unusedSimpArgs false
set_option maxRecDepth 100000

theorem boxed_below {W W' : World} {B : Nat} {t : TypeId} {v : Value} (h : Boxed W B t v) (hb : Below W.heap.size W W') : Boxed W' B t v := (hb.block B h.lt).trans h
def meetL (s t : List Nat) : List Nat := s.filter (fun x => decide (x ∈ t))
theorem meetL_in {s t : List Nat} {x : Nat} (h : x ∈ t) : meetL (s ++ [x]) t = meetL s t ++ [x] := by simp [meetL, h]
theorem meetL_out {s t : List Nat} {x : Nat} (h : x ∉ t) : meetL (s ++ [x]) t = meetL s t := by simp [meetL, h]
theorem meetL_len (s t : List Nat) : (meetL s t).length ≤ s.length := List.length_filter_le _ _
theorem meetL_rising {s t : List Nat} (h : s.Pairwise (· < ·)) : (meetL s t).Pairwise (· < ·) := h.filter _
theorem mem_meetL {s t : List Nat} {x : Nat} : x ∈ meetL s t ↔ x ∈ s ∧ x ∈ t := by simp [meetL]
set_option maxHeartbeats 4000000 in
theorem meet_any (a a2 : Option Addr) (c c2 : Nat) (s t : List Nat) (w : World) (hs : s.length ≤ 1000) (ht : t.length ≤ 1000) (h1 : Row w a (nats s)) (h2 : Row w a2 (nats t)) (hr : t.Pairwise (· < ·)) :
    Calls Tryz.prog 73 #[.agg #[.slice a s.length c], .agg #[.slice a2 t.length c2]] w fun e w' => ∃ va vc, e = .returned (.agg #[.slice va (meetL s t).length vc]) ∧ w'.ownsRow w.heap.size 3 1 (.slice va (meetL s t).length vc) (meetL s t).length (ints (nats (meetL s t))) ∧ Below w.heap.size w w' := by
  obtain ⟨i0, hi, hz0, hz1, hz2⟩ := info_parts info3
  have HH := hid (fun W (hb : Below w.heap.size w W) x => has_any a2 c2 t x W ht (h2.below hb) hr)
  have H1 := hid h1
  clear h1 h2 hr
  refine (callsIn_wide (n := 5)).1 ?_
  refine callsIn_of_wp_marks Tryz.func73 rfl trivial ?_ rfl
  simp only [Tryz.ntmps73, List.size_toArray, List.length_cons, List.length_nil, Nat.reduceAdd, Nat.reduceSub, Array.replicate_succ, Array.replicate_zero, List.push_toArray, List.append_toArray, List.nil_append, List.cons_append]
  gi_wp2_with (refine ⟨trivial, ?_⟩; gi_at_call 37; refine (callsIn_wide.2 (all_any _ _ _ _)).mono ?_; rintro e w' ⟨rfl, rfl⟩)
  obtain ⟨W0, hW0⟩ : ∃ W0, ((((((w.alloc (Obj.cells #[Value.slice a s.length c] 60)).alloc (Obj.cells #[Value.slice a2 t.length c2] 60)).alloc (Obj.cells #[Value.slice none 0 0] 60)).alloc (Obj.cells #[Value.slice none 0 0] 60)).alloc (Obj.cells #[Value.slice a s.length c] 60)).alloc (Obj.cells #[Value.slice a s.length c] 35)) = W0 := ⟨_, rfl⟩
  have hsz : W0.heap.size = w.heap.size + 6 := by rw [← hW0]; simp
  have B0 : Below w.heap.size w W0 := by
    rw [← hW0]
    exact (((((below1 w _).alloc (by simp) _).alloc (by simp; omega) _).alloc (by simp; omega) _).alloc (by simp; omega) _).alloc (by simp; omega) _
  have x3 : Boxed W0 (w.heap.size + 1) 60 (.slice a2 t.length c2) := by
    rw [← hW0]
    have := Boxed.new (w.alloc (Obj.cells #[Value.slice a s.length c] 60)) 60 (.slice a2 t.length c2)
    rw [World.size_alloc] at this
    exact (((this.alloc _).alloc _).alloc _).alloc _
  have x4 : Boxed W0 (w.heap.size + 1 + 1) 60 (.slice none 0 0) := by
    rw [← hW0]
    have := Boxed.new ((w.alloc (Obj.cells #[Value.slice a s.length c] 60)).alloc (Obj.cells #[Value.slice a2 t.length c2] 60)) 60 (.slice none 0 0)
    rw [World.size_alloc, World.size_alloc] at this
    exact ((this.alloc _).alloc _).alloc _
  have x5 : Boxed W0 (w.heap.size + 1 + 1 + 1) 60 (.slice none 0 0) := by
    rw [← hW0]
    have := Boxed.new (((w.alloc (Obj.cells #[Value.slice a s.length c] 60)).alloc (Obj.cells #[Value.slice a2 t.length c2] 60)).alloc (Obj.cells #[Value.slice none 0 0] 60)) 60 (.slice none 0 0)
    rw [World.size_alloc, World.size_alloc, World.size_alloc] at this
    exact (this.alloc _).alloc _
  have x7 : W0.cell? ⟨w.heap.size + 1 + 1 + 1 + 1 + 1, 0, none⟩ = some (.slice a s.length c) := by
    rw [← hW0]
    have := Boxed.new (((((w.alloc (Obj.cells #[Value.slice a s.length c] 60)).alloc (Obj.cells #[Value.slice a2 t.length c2] 60)).alloc (Obj.cells #[Value.slice none 0 0] 60)).alloc (Obj.cells #[Value.slice none 0 0] 60)).alloc (Obj.cells #[Value.slice a s.length c] 60)) 35 (.slice a s.length c)
    simp only [World.size_alloc] at this
    exact this.cell
  rw [hW0]
  clear hW0
  refine wpIn_rangeFunc_ownF rfl (by omega) (gf := 94) (lb := #[.pointer (some ⟨w.heap.size + 1 + 1 + 1 + 1 + 1, 0, none⟩)]) rfl trivial (enters_of Tryz.func94 (by kernel_rfl) rfl)
    (values_stops (fun x : Nat => (x : Int)) _ (by omega) (w.heap.size + 1 + 1 + 1 + 1 + 1) a c s hs w W0 B0 H1.out (by omega) x7) (fun {_ _ _} h k => Below.trans h k) (belowK_b (w := W0) (n₀ := w.heap.size) (by omega)) (Below.refl _ _) (fun _ => rfl)
    (fun pre W => (∃ v, Boxed W (w.heap.size + 1 + 1 + 1) 60 v ∧ W.ownsRow w.heap.size 3 1 v (meetL pre t).length (ints (nats (meetL pre t))) ∧ True) ∧ Boxed W (w.heap.size + 1) 60 (.slice a2 t.length c2) ∧ Boxed W (w.heap.size + 1 + 1) 60 (.slice none 0 0) ∧ Below w.heap.size w W)
    (fun _ _ _ => False)
    (OwnFrom.and (Own.from (holdsRow_own w.heap.size (w.heap.size + 1 + 1 + 1) 60 3 1 (fun pre => (meetL pre t).length) (fun pre => ints (nats (meetL pre t))) (fun _ _ => True)) _) (OwnFrom.and (Own.from (boxed_own _ _ _) _) (OwnFrom.and (Own.from (boxed_own _ _ _) _) (ownFrom_below (Nat.le_refl _) (by omega)))))
    (fun _ _ _ _ _ hs _ _ => hs)
    ⟨⟨_, x5, World.ownsRow_nil _ _ _ _, trivial⟩, x3, x4, B0⟩
    (fun x => { tmps := #[Value.agg #[Value.slice a s.length c], Value.agg #[Value.slice a2 t.length c2], Value.pointer (some { block := w.heap.size, off := 0 }), Value.pointer (some { block := w.heap.size + 1, off := 0 }), Value.pointer (some { block := w.heap.size + 1 + 1, off := 0 }), Value.pointer (some { block := w.heap.size + 1 + 1 + 1, off := 0 }), .int .i64 (x : Int), Value.agg #[Value.slice a s.length c], Value.func (Fn.func 94) #[] #[Value.pointer (some { block := w.heap.size + 1 + 1 + 1 + 1 + 1, off := 0 })], .int .i64 (x : Int), undef, undef, undef, undef, undef, undef, undef, undef, undef, undef], defers := [] }) ?assign ?body ?done ?stop
  case assign =>
    intro l x W K hK
    gi_wp2
    exact hK
  case body =>
    rintro l pre x W ⟨⟨v, hv, hrow, _⟩, y3, y4, hB⟩ hlen
    have hWs := hB.size
    have hpl := meetL_len pre t
    have y3c := y3.cell
    have HHx := HH.out W hB x
    have HI := hid (And.intro hv (And.intro hrow (And.intro y3 (And.intro y4 hB))))
    clear hv hrow y3 y4 hB
    by_cases hx : x ∈ t
    · have tx : decide (x ∈ t) = true := decide_eq_true hx
      rw [tx] at HHx
      have HH2 := hid HHx
      clear HHx tx
      gi_wp2_with (first | (refine ⟨trivial, ?_⟩; gi_at_call 38; refine (CallsIn.inRound l (callsIn_wide.2 HH2.out)).mono ?_; rintro e w1 ⟨rfl, hb1⟩; have hv := boxed_below HI.out.1 hb1; have hvc := hv.cell; have hrow := owns_below HI.out.2.1 hb1; have hB1 : Below w.heap.size w w1 := HI.out.2.2.2.2.trans (hb1.mono hWs)) | (gi_at_builtin; refine wpListIn_append_own _ rfl _ _ 35 rfl w.heap.size 3 i0 (.int .i64 0) 1 8 Tryz.underlying35 hi hz0 hz1 hz2 rfl (by decide) _ _ _ rfl (hrow.alloc _) ⟨w1.heap.size, 0, none⟩ 1 1 [.int .i64 (x : Int)] rfl rfl (cell_one_new _ _ _) (by simp [Value.oneCell']) (by unfold maxLen; omega) (by omega) (by have := hB1.size; simp; omega) ?_; intro v' w2 hown' hgrow _; obtain ⟨g', cap', rfl⟩ := ownsRow_succ hown'; obtain ⟨hv1, hv2, hr2, hk2, hb2⟩ := hv.appended (by decide) hrow hB1.size (by omega) hown' hgrow; have hc1 := hv1.cell; have hf1 := hv1.frozen))
      have e1 : meetL (pre ++ [x]) t = meetL pre t ++ [x] := meetL_in hx
      have z3 := boxed_below HI.out.2.2.1 hb1
      have z4 := boxed_below HI.out.2.2.2.1 hb1
      refine ⟨(keeps_below hb1).trans hk2, (hb1.mono hWs).trans hb2, ?_⟩
      simp only [e1]
      refine ⟨⟨_, hv2, ?_, trivial⟩, ((z3.alloc _).kept hgrow (z3.not_row (by decide) hrow)).other (by omega) _, ((z4.alloc _).kept hgrow (z4.not_row (by decide) hrow)).other (by omega) _, hB1.trans hb2⟩
      have e2 : ints (nats (meetL pre t ++ [x])) = ints (nats (meetL pre t)) ++ [.int .i64 (x : Int)] := by simp [ints, nats]
      rw [e2, List.length_append]
      exact hr2
    · have tx : decide (x ∈ t) = false := decide_eq_false hx
      rw [tx] at HHx
      have HH2 := hid HHx
      clear HHx tx
      gi_wp2_with (refine ⟨trivial, ?_⟩; gi_at_call 38; refine (CallsIn.inRound l (callsIn_wide.2 HH2.out)).mono ?_; rintro e w1 ⟨rfl, hb1⟩)
      have e1 : meetL (pre ++ [x]) t = meetL pre t := meetL_out hx
      refine ⟨keeps_below hb1, hb1.mono hWs, ?_⟩
      simp only [e1]
      exact ⟨⟨v, boxed_below HI.out.1 hb1, owns_below HI.out.2.1 hb1, trivial⟩, boxed_below HI.out.2.2.1 hb1, boxed_below HI.out.2.2.2.1 hb1, HI.out.2.2.2.2.trans (hb1.mono hWs)⟩
  case done =>
    rintro D ys W hD rfl ⟨⟨v, hv, hrow, _⟩, y3, y4, hB⟩ hK
    have hvc := hv.cell
    have y4c := y4.cell
    have y4f := y4.frozen
    obtain ⟨va, vc, rfl⟩ : ∃ va vc, v = .slice va (meetL ys t).length vc := by
      rcases hrow.2 with ⟨h0, h1⟩ | ⟨g', cap, cur, he, _⟩
      · exact ⟨none, 0, by rw [h0, h1]⟩
      · exact ⟨_, _, he⟩
    gi_wp2
    have hK' : (W.setCell ⟨w.heap.size + 1 + 1, 0, none⟩ (Value.slice va (meetL ys t).length vc)).heap[D]? = some (.deferred (some [])) := (KeepsOthers.setCell _ _ _).same D _ hK rfl
    have q4 := (y4.set (Value.slice va (meetL ys t).length vc)).cell
    have qr := hrow.kept (grownBy_setCell' W (w.heap.size + 1 + 1) (Value.slice va (meetL ys t).length vc)) (.inr (y4.not_row (by decide) hrow).symm)
    have qB := hB.setCell (p := ⟨w.heap.size + 1 + 1, 0, none⟩) (by show w.heap.size ≤ w.heap.size + 1 + 1; omega) (Value.slice va (meetL ys t).length vc)
    refine ⟨by simp, .inl ⟨_, _, rfl, run_takeDeferred hK', ?_⟩⟩
    have q5 := cell_kept q4 (grownBy_putObj' _ D (.deferred none)) (fun r e => by cases e; exact ⟨_, hK', rfl⟩)
    exact ⟨.agg #[.slice va (meetL ys t).length vc], by simp [results, Tryz.results73, go_sem, q5], va, vc, rfl, ownsRow_putObj qr _ hK' rfl, qB.trans (belowK_b (w := w) (Nat.le_refl _) _ D _ _ (by omega) hK' rfl rfl)⟩
  case stop =>
    rintro D c pre W _ _ h _
    exact h.elim
end Go.Proofs.YtiadmmnnbnamjaaGreat
