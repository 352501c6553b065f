/- Needless params: what stands in for one. -/
import Derived.Test.YteihecnmnajahaaGreatDoorTrim11
namespace Go.Proofs.YteihecnmnajahaaGreatDoor
open Go Go.RowKit
attribute [local go_sem] Oper.semAt_some
set_option linter.unusedVariables false
set_option linter.unusedSimpArgs false
set_option maxRecDepth 100000

theorem scanP_stop {v o x : Int} (h1 : ¬ (x = v ∨ x = o)) (h2 : o ≠ -1) (rest : List Int) : scanP v o (x :: rest) = -1 := by
  rw [scanP, if_neg h1, if_pos h2]
set_option maxHeartbeats 1000000 in
theorem argsFor_any (a : Option Addr) (len cap : Nat) (k i : Int) (w : World) :
    Calls Tryz.prog 122 #[.slice a len cap, .int .i64 k, .int .i64 i] w fun e w' => e = .returned (.func (.func 138) #[] #[.pointer (some ⟨w.heap.size, 0, none⟩), .pointer (some ⟨w.heap.size + 1, 0, none⟩), .pointer (some ⟨w.heap.size + 1 + 1, 0, none⟩)]) ∧ w' = ((w.alloc (.cells #[.slice a len cap] 56)).alloc (.cells #[.int .i64 k] 3)).alloc (.cells #[.int .i64 i] 3) := by
  go_enter Tryz.func122, Tryz.ntmps122
  go_wp2
  go_ret
  exact ⟨by simp, rfl⟩
set_option maxHeartbeats 4000000 in
theorem standIn_any (xs : List Prt) (a : Option Addr) (c k i : Nat) (v : Int) (p : Prt) (w : World) (hxl : xs.length ≤ 11) (hE : ∀ p ∈ xs, ArgIn xs p) (hp : xs[k]? = some p) (hv : p.params[i]? = some v) (hX : CRow w a xs) :
    Calls Tryz.prog 85 #[.slice a xs.length c, .int .i64 k, .int .i64 i] w fun e w' => e = .returned (.int .i64 (scanP v (-1) (argsAt xs k i))) ∧ Below w.heap.size w w' := by
  have HX := hid hX
  have HE := hid hE
  have hkx : k < xs.length := (List.getElem?_eq_some_iff.1 hp).1
  have hit0 : i < p.params.length := (List.getElem?_eq_some_iff.1 hv).1
  have HKI := hid (show ∃ q, xs[k]? = some q ∧ i < q.params.length from ⟨p, hp, hit0⟩)
  obtain ⟨b, off, rfl, hbw, hat⟩ := hX.at (by intro e; subst e; simp at hkx)
  obtain ⟨ps, cs, go, test, ns, rs, pa, pc, ca, cc, na, nc, ra, rc, c0, c1, c2, c3, c4, c5, l1, l2, l3, l4, HI, HXK⟩ := hat w (Below.refl _ _) k hkx
  obtain rfl : p = ⟨ps, cs, go, test, ns, rs⟩ := by have := HXK.out; rw [hp] at this; exact Option.some.inj this
  simp only [] at hv hit0
  obtain ⟨tb, toff, rfl, htb, htat⟩ := HI.out.params.at (by intro e; subst e; simp at hit0)
  obtain ⟨v', cv, HV⟩ := htat w (Below.refl _ _) i hit0
  obtain rfl : v = v' := by have := HV.out; rw [hv] at this; exact Option.some.inj this
  clear hat hX hE HI htat c0 c1 c2 c3 c5 hp hv HXK
  refine (callsIn_wide (n := 5)).1 ?_
  refine callsIn_of_wp_marks Tryz.func85 rfl trivial ?_ rfl
  simp only [Tryz.ntmps85, List.size_toArray, List.length_cons, List.length_nil, Nat.reduceAdd, Nat.reduceSub, Array.replicate_succ, Array.replicate_zero, List.push_toArray, List.append_toArray, List.nil_append, List.cons_append]
  gi_wp2_with (refine ⟨trivial, ?_⟩; gi_at_call 122; refine (callsIn_wide.2 (argsFor_any _ _ _ _ _ _)).mono ?_; rintro e w' ⟨rfl, rfl⟩)
  obtain ⟨W0, hW0⟩ : ∃ W0, ((((((w.alloc (Obj.cells #[Value.int .i64 0] 3)).alloc (Obj.cells #[Value.int .i64 v] 3)).alloc (Obj.cells #[Value.int .i64 (-1)] 3)).alloc (Obj.cells #[Value.slice (some ⟨b, off, none⟩) xs.length c] 56)).alloc (Obj.cells #[Value.int .i64 k] 3)).alloc (Obj.cells #[Value.int .i64 i] 3)) = W0 := ⟨_, rfl⟩
  have hsz : W0.heap.size = w.heap.size + 6 := by rw [← hW0]; simp
  have B0 : Below w.heap.size w W0 := by
    rw [← hW0]
    exact (((((below1 w _).alloc (by simp) _).alloc (by simp; omega) _).alloc (by simp; omega) _).alloc (by simp; omega) _).alloc (by simp; omega) _
  have x6 : Boxed W0 w.heap.size 3 (.int .i64 0) := by
    rw [← hW0]
    have := Boxed.new w 3 (.int .i64 0)
    exact ((((this.alloc _).alloc _).alloc _).alloc _).alloc _
  have x7 : Boxed W0 (w.heap.size + 1) 3 (.int .i64 v) := by
    rw [← hW0]
    have := Boxed.new (w.alloc (Obj.cells #[Value.int .i64 0] 3)) 3 (.int .i64 v)
    rw [World.size_alloc] at this
    exact (((this.alloc _).alloc _).alloc _).alloc _
  have x8 : Boxed W0 (w.heap.size + 1 + 1) 3 (.int .i64 (-1)) := by
    rw [← hW0]
    have := Boxed.new ((w.alloc (Obj.cells #[Value.int .i64 0] 3)).alloc (Obj.cells #[Value.int .i64 v] 3)) 3 (.int .i64 (-1))
    rw [World.size_alloc, World.size_alloc] at this
    exact ((this.alloc _).alloc _).alloc _
  have y1 : W0.cell? ⟨w.heap.size + 1 + 1 + 1, 0, none⟩ = some (.slice (some ⟨b, off, none⟩) xs.length c) := by
    rw [← hW0]
    have := Boxed.new (((w.alloc (Obj.cells #[Value.int .i64 0] 3)).alloc (Obj.cells #[Value.int .i64 v] 3)).alloc (Obj.cells #[Value.int .i64 (-1)] 3)) 56 (.slice (some ⟨b, off, none⟩) xs.length c)
    simp only [World.size_alloc] at this
    exact ((this.alloc _).alloc _).cell
  have y2 : W0.cell? ⟨w.heap.size + 1 + 1 + 1 + 1, 0, none⟩ = some (.int .i64 k) := by
    rw [← hW0]
    have := Boxed.new ((((w.alloc (Obj.cells #[Value.int .i64 0] 3)).alloc (Obj.cells #[Value.int .i64 v] 3)).alloc (Obj.cells #[Value.int .i64 (-1)] 3)).alloc (Obj.cells #[Value.slice (some ⟨b, off, none⟩) xs.length c] 56)) 3 (.int .i64 k)
    simp only [World.size_alloc] at this
    exact (this.alloc _).cell
  have y3 : W0.cell? ⟨w.heap.size + 1 + 1 + 1 + 1 + 1, 0, none⟩ = some (.int .i64 i) := by
    rw [← hW0]
    have := Boxed.new (((((w.alloc (Obj.cells #[Value.int .i64 0] 3)).alloc (Obj.cells #[Value.int .i64 v] 3)).alloc (Obj.cells #[Value.int .i64 (-1)] 3)).alloc (Obj.cells #[Value.slice (some ⟨b, off, none⟩) xs.length c] 56)).alloc (Obj.cells #[Value.int .i64 k] 3)) 3 (.int .i64 i)
    simp only [World.size_alloc] at this
    exact this.cell
  rw [hW0]
  clear hW0 c4 cv
  have HSEQ : SeqStopsK Fence.wide 4 Tryz.prog 138 #[.pointer (some ⟨w.heap.size + 1 + 1 + 1, 0, none⟩), .pointer (some ⟨w.heap.size + 1 + 1 + 1 + 1, 0, none⟩), .pointer (some ⟨w.heap.size + 1 + 1 + 1 + 1 + 1, 0, none⟩)] (fun x : Int => #[Value.int .i64 x]) (KpE w.heap.size (w.heap.size + 1 + 1)) (fun ys => ys = argsAt xs k i) (fun pre => pre <+: argsAt xs k i) (argsAt xs k i).length W0 :=
    fun l J Jx W hW hJ hJx hY h0 => argsForF_in 4 (by omega) l _ _ _ (w.heap.size + 1 + 1) xs _ c k i w hxl HE.out HX.out HKI.out (by omega) (by omega) (by omega) J Jx W (by have := hW.size; omega) (B0.trans (hW.mono (by omega))) hJ ((hW.cell (p := ⟨w.heap.size + 1 + 1 + 1, 0, none⟩) (by show w.heap.size + 1 + 1 + 1 < W0.heap.size; omega)).trans y1) ((hW.cell (p := ⟨w.heap.size + 1 + 1 + 1 + 1, 0, none⟩) (by show w.heap.size + 1 + 1 + 1 + 1 < W0.heap.size; omega)).trans y2) ((hW.cell (p := ⟨w.heap.size + 1 + 1 + 1 + 1 + 1, 0, none⟩) (by show w.heap.size + 1 + 1 + 1 + 1 + 1 < W0.heap.size; omega)).trans y3) hY h0
  refine wpIn_rangeFunc_ownF rfl (by omega) (gf := 138) (lb := #[.pointer (some ⟨w.heap.size + 1 + 1 + 1, 0, none⟩), .pointer (some ⟨w.heap.size + 1 + 1 + 1 + 1, 0, none⟩), .pointer (some ⟨w.heap.size + 1 + 1 + 1 + 1 + 1, 0, none⟩)]) rfl trivial (enters_of Tryz.func138 (by kernel_rfl) rfl)
    HSEQ (fun {_ _ _} h k => KpE.trans h k) (KpE.b (by omega)) (Below.refl _ _) (fun _ => rfl)
    (fun pre W => ∃ o : Int, Boxed W (w.heap.size + 1 + 1) 3 (.int .i64 o) ∧ (∀ rest, scanP v (-1) (pre ++ rest) = scanP v o rest) ∧ Boxed W (w.heap.size + 1) 3 (.int .i64 v) ∧ Boxed W w.heap.size 3 (.int .i64 0) ∧ Below w.heap.size w W)
    (fun cd pre W => cd = .ret ∧ Boxed W w.heap.size 3 (.int .i64 (-1)) ∧ (∀ rest, scanP v (-1) (pre ++ rest) = -1) ∧ Below w.heap.size w W)
    (fun s A B row ⟨o, h1, h2, h3, h4, h5⟩ hg hr => ⟨o, h1.kept hg (fun e => by have := (hr _ e.symm).1; omega), h2, h3.kept hg (fun e => by have := (hr _ e.symm).1; omega), h4.kept hg (fun e => by have := (hr _ e.symm).1; omega), h5.grown hg (by have := h5.size; omega) (fun k e => by have := (hr k e).1; omega)⟩)
    (fun cd s A B row ⟨h1, h2, h3, h5⟩ hg hr => ⟨h1, h2.kept hg (fun e => by have := (hr _ e.symm).1; omega), h3, h5.grown hg (by have := h5.size; omega) (fun k e => by have := (hr k e).1; omega)⟩)
    ⟨-1, x8, fun _ => rfl, x7, x6, B0⟩
    (fun x => { tmps := #[Value.slice (some ⟨b, off, none⟩) xs.length c, .int .i64 k, .int .i64 i, undef, undef, undef, .pointer (some ⟨w.heap.size, 0, none⟩), .pointer (some ⟨w.heap.size + 1, 0, none⟩), .pointer (some ⟨w.heap.size + 1 + 1, 0, none⟩), .int .i64 x, Value.slice (some ⟨b, off, none⟩) xs.length c, .int .i64 k, .pointer (some ⟨b, off + k * 6, none⟩), .pointer (some ⟨b, off + k * 6 + 4, none⟩), .slice (some ⟨tb, toff, none⟩) ps.length pc, .int .i64 i, .pointer (some ⟨tb, toff + i, none⟩), .int .i64 v, Value.slice (some ⟨b, off, none⟩) xs.length c, .int .i64 k, .int .i64 i, Value.func (Fn.func 138) #[] #[.pointer (some ⟨w.heap.size + 1 + 1 + 1, 0, none⟩), .pointer (some ⟨w.heap.size + 1 + 1 + 1 + 1, 0, none⟩), .pointer (some ⟨w.heap.size + 1 + 1 + 1 + 1 + 1, 0, none⟩)], .int .i64 x, undef, undef, undef, undef, undef, undef, undef, undef, undef, undef, undef, undef], defers := [] }) ?assign ?body ?done ?stop
  case assign =>
    intro l x W K hK
    gi_wp2
    exact hK
  case body =>
    rintro l pre x W ⟨o, h8, hsc, h7, h6, hB⟩ hlen
    have q8 := h8.cell
    have q8f := h8.frozen
    have q7 := h7.cell
    have q6 := h6.cell
    have q6f := h6.frozen
    have HI := hid (And.intro h8 (And.intro hsc (And.intro h7 (And.intro h6 hB))))
    clear h8 hsc h7 h6 hB
    by_cases hxv : x = v
    · subst hxv
      gi_wp2
      refine ⟨KeepsOthers.refl _, KpE.refl _ _ _, o, HI.out.1, ?_, HI.out.2.2.1, HI.out.2.2.2.1, HI.out.2.2.2.2⟩
      intro rest
      rw [List.append_assoc, HI.out.2.1]
      simp [scanP]
    · by_cases hxo : x = o
      · subst hxo
        gi_wp2
        refine ⟨KeepsOthers.refl _, KpE.refl _ _ _, x, HI.out.1, ?_, HI.out.2.2.1, HI.out.2.2.2.1, HI.out.2.2.2.2⟩
        intro rest
        rw [List.append_assoc, HI.out.2.1]
        simp [scanP]
      · have d1 : decide (x = v) = false := decide_eq_false hxv
        have d2 : (x == v) = false := by simpa using hxv
        by_cases ho : o = -1
        · subst ho
          have d3 : decide (x = -1) = false := decide_eq_false hxo
          have d4 : (x == -1) = false := by simpa using hxo
          gi_wp2
          refine ⟨KeepsOthers.setCell _ _ _, ⟨(Below.refl _ _).setCell (p := ⟨w.heap.size + 1 + 1, 0, none⟩) (by show w.heap.size ≤ w.heap.size + 1 + 1; omega) _, by simp, ?_⟩, x, HI.out.1.set _, ?_, HI.out.2.2.1.other (by omega) _, HI.out.2.2.2.1.other (by omega) _, HI.out.2.2.2.2.setCell (p := ⟨w.heap.size + 1 + 1, 0, none⟩) (by show w.heap.size ≤ w.heap.size + 1 + 1; omega) _⟩
          · intro p u hpy hpu
            exact (World.cell?_of_block ((grownBy_setCell' W _ _).block p.block (World.block_lt_of_cell? W _ hpu) (fun e => hpy (Option.some.inj e)))).trans hpu
          · intro rest
            rw [List.append_assoc, HI.out.2.1]
            simp [scanP, hxv, hxo]
        · have d3 : decide (x = o) = false := decide_eq_false hxo
          have d4 : (x == o) = false := by simpa using hxo
          have d5 : (o != -1) = true := by simpa using ho
          gi_wp2
          refine ⟨KeepsOthers.setCell _ _ _, rfl, HI.out.2.2.2.1.set _, ?_, HI.out.2.2.2.2.setCell (p := ⟨w.heap.size, 0, none⟩) (Nat.le_refl _) _⟩
          intro rest
          rw [List.append_assoc, HI.out.2.1]
          exact scanP_stop (by rintro (h | h); exact hxv h; exact hxo h) ho rest
  case done =>
    rintro D ys W hD rfl ⟨o, h8, hsc, h7, h6, hB⟩ hK
    have q8 := h8.cell
    have q6 := h6.cell
    have q6f := h6.frozen
    have hsc0 := hsc []
    rw [List.append_nil] at hsc0
    gi_wp2
    have hK' : (W.setCell ⟨w.heap.size, 0, none⟩ (Value.int .i64 o)).heap[D]? = some (.deferred (some [])) := (KeepsOthers.setCell _ _ _).same D _ hK rfl
    have q4 := (h6.set (Value.int .i64 o)).cell
    have qB := hB.setCell (p := ⟨w.heap.size, 0, none⟩) (Nat.le_refl _) (Value.int .i64 o)
    refine ⟨by simp, .inl ⟨_, _, rfl, run_takeDeferred hK', ?_⟩⟩
    have q5 := cell_kept q4 (grownBy_putObj' _ D (.deferred none)) (fun r e => by cases e; exact ⟨_, hK', rfl⟩)
    exact ⟨.int .i64 o, by simp [results, Tryz.results85, go_sem, q5], by rw [hsc0]; rfl, qB.trans (belowK_b (w := w) (Nat.le_refl _) _ D _ _ (by omega) hK' rfl rfl)⟩
  case stop =>
    rintro D cd pre W hD ⟨rest, hpre⟩ ⟨rfl, h6, hsc, hB⟩ hK
    gi_wp2
    refine ⟨by simp, .inl ⟨_, _, rfl, run_takeDeferred hK, ?_⟩⟩
    have hc5 := cell_kept h6.cell (grownBy_putObj' _ D (.deferred none)) (fun r e => by cases e; exact ⟨_, hK, rfl⟩)
    refine ⟨.int .i64 (-1), ?_, by rw [← hpre, hsc], hB.trans (belowK_b (w := w) (Nat.le_refl _) W D _ _ (by omega) hK rfl rfl)⟩
    simp [results, Tryz.results85, go_sem, hc5]
end Go.Proofs.YteihecnmnajahaaGreatDoor
