/- The first one and the last one of the texts that an iterator goes through. -/
import Derived.Test.YtpjhmminbndgiaaMade
namespace Go.Proofs.Ytpjhmminbndgiaa
open Go Go.RowKit
attribute [local go_sem] Oper.semAt_some
set_option linter.unusedVariables false
set_option linter.unusedSimpArgs false
set_option maxRecDepth 100000

/-- the iterator, as a function that the loops lead -/
theorem made_seq (n : Nat) (hn : 1 ≤ n) (b1 b2 : Nat) (xs : List RB) (a : Option Addr) (c : Nat) (s : ByteArray) (w W0 : World) (hg : rulesB (Rs xs) = true) (hss : s.size ≤ 1000) (hX : WRow w a xs)
    (k1 : W0.cell? ⟨b1, 0, none⟩ = some (.slice a xs.length c)) (k2 : W0.cell? ⟨b2, 0, none⟩ = some (.string s)) (hb : Below w.heap.size w W0) :
    SeqStopsK Fence.wide n Try.prog 72 #[.pointer (some ⟨b1, 0, none⟩), .pointer (some ⟨b2, 0, none⟩)] (fun x : Tx => #[Value.string (Sb x)]) (KpW w.heap.size b1 b2) (fun ys => ys = once (Rs xs) (Bt s)) (fun pre => pre <+: once (Rs xs) (Bt s)) (once (Rs xs) (Bt s)).length W0 :=
  fun l J Jx W hW hJ hJx hY h0 => made_in n hn l b1 b2 xs a c s w hg hss hX J Jx W (cell_below k1 hW) (cell_below k2 hW) (hb.trans (hW.mono hb.size)) hJ hY h0
set_option maxHeartbeats 4000000 in
theorem firstIn_any (b1 b2 : Nat) (xs : List RB) (a : Option Addr) (c : Nat) (s : ByteArray) (w : World) (hg : rulesB (Rs xs) = true) (hss : s.size ≤ 1000) (hX : WRow w a xs)
    (k1 : w.cell? ⟨b1, 0, none⟩ = some (.slice a xs.length c)) (k2 : w.cell? ⟨b2, 0, none⟩ = some (.string s)) :
    Calls Try.prog 47 #[.func (.func 72) #[] #[.pointer (some ⟨b1, 0, none⟩), .pointer (some ⟨b2, 0, none⟩)]] w fun e w' => e = .returned (.tuple #[.string (oStr (once (Rs xs) (Bt s)).head?), .bool (once (Rs xs) (Bt s)).head?.isSome]) ∧ Below w.heap.size w w' := by
  refine (callsIn_wide (n := 5)).1 ?_
  refine callsIn_of_wp_marks Try.func47 rfl trivial ?_ rfl
  simp only [Try.ntmps47, List.size_toArray, List.length_cons, List.length_nil, Nat.reduceAdd, Nat.reduceSub, Array.replicate_succ, Array.replicate_zero, List.push_toArray, List.append_toArray, List.nil_append, List.cons_append]
  gi_wp2_with fail
  obtain ⟨W0, hW0⟩ : ∃ W0, (w.alloc (Obj.cells #[Value.string { data := #[] }] 9)).alloc (Obj.cells #[Value.bool false] 4) = W0 := ⟨_, rfl⟩
  have hsz : W0.heap.size = w.heap.size + 2 := by rw [← hW0]; simp
  have B0 : Below w.heap.size w W0 := by rw [← hW0]; exact (below1 w _).alloc (by simp) _
  have x2 : Boxed W0 w.heap.size 9 (.string ⟨#[]⟩) := by rw [← hW0]; exact (Boxed.new w 9 (.string ⟨#[]⟩)).alloc _
  have x3 : Boxed W0 (w.heap.size + 1) 4 (.bool false) := by
    rw [← hW0]
    have := Boxed.new (w.alloc (Obj.cells #[Value.string { data := #[] }] 9)) 4 (.bool false)
    rw [World.size_alloc] at this
    exact this
  rw [hW0]
  clear hW0
  have HSEQ := made_seq 4 (by omega) b1 b2 xs a c s w W0 hg hss hX (cell_below k1 B0) (cell_below k2 B0) B0
  have hl1 := World.block_lt_of_cell? w _ k1
  have hl2 := World.block_lt_of_cell? w _ k2
  simp only [] at hl1 hl2
  clear hX k1 k2
  refine wpIn_rangeFunc_ownF rfl (by omega) (gf := 72) (lb := #[.pointer (some ⟨b1, 0, none⟩), .pointer (some ⟨b2, 0, none⟩)]) rfl trivial (enters_of Try.func72 (by kernel_rfl) rfl)
    HSEQ (fun {_ _ _} h k => KpW.trans h k) (KpW.b (by omega) (by omega) (by omega)) (Below.refl _ _) (fun _ => rfl)
    (fun pre W => pre = [] ∧ Boxed W w.heap.size 9 (.string ⟨#[]⟩) ∧ Boxed W (w.heap.size + 1) 4 (.bool false) ∧ Below w.heap.size w W)
    (fun cd pre W => cd = .ret ∧ ∃ x, pre = [x] ∧ Boxed W w.heap.size 9 (.string (Sb x)) ∧ Boxed W (w.heap.size + 1) 4 (.bool true) ∧ Below w.heap.size w W)
    (fun s A B row ⟨h1, h2, h3, h5⟩ hg hr => ⟨h1, h2.kept hg (fun e => by have := (hr _ e.symm).1; omega), h3.kept hg (fun e => by have := (hr _ e.symm).1; omega), h5.grown hg (by have := h5.size; omega) (fun k e => by have := (hr k e).1; omega)⟩)
    (fun cd s A B row ⟨h1, x, h2, h3, h4, h5⟩ hg hr => ⟨h1, x, h2, h3.kept hg (fun e => by have := (hr _ e.symm).1; omega), h4.kept hg (fun e => by have := (hr _ e.symm).1; omega), h5.grown hg (by have := h5.size; omega) (fun k e => by have := (hr k e).1; omega)⟩)
    ⟨rfl, x2, x3, B0⟩
    (fun x => { tmps := #[.func (.func 72) #[] #[.pointer (some ⟨b1, 0, none⟩), .pointer (some ⟨b2, 0, none⟩)], undef, .pointer (some ⟨w.heap.size, 0, none⟩), .pointer (some ⟨w.heap.size + 1, 0, none⟩), .string (Sb x), .func (.func 72) #[] #[.pointer (some ⟨b1, 0, none⟩), .pointer (some ⟨b2, 0, none⟩)], .string (Sb x), undef], defers := [] }) ?assign ?body ?done ?stop
  case assign =>
    intro l x W K hK
    gi_wp2
    exact hK
  case body =>
    rintro l pre x W ⟨rfl, h2, h3, hB⟩ hlen
    have q2 := h2.cell
    have q2f := h2.frozen
    have q3 := h3.cell
    have q3f := h3.frozen
    have HI := hid (And.intro h2 (And.intro h3 hB))
    clear h2 h3 hB
    gi_wp2
    refine ⟨(KeepsOthers.setCell _ _ _).trans (KeepsOthers.setCell _ _ _), rfl, x, rfl, (HI.out.1.set _).other (by omega) _, (HI.out.2.1.other (by omega) _).set _, (HI.out.2.2.setCell (p := ⟨w.heap.size, 0, none⟩) (Nat.le_refl _) _).setCell (p := ⟨w.heap.size + 1, 0, none⟩) (by show w.heap.size ≤ w.heap.size + 1; omega) _⟩
  case done =>
    rintro D ys W hD he ⟨rfl, h2, h3, hB⟩ hK
    have q2 := h2.cell
    have q2f := h2.frozen
    have q3 := h3.cell
    have q3f := h3.frozen
    gi_wp2
    have hK1 : (W.setCell ⟨w.heap.size, 0, none⟩ (Value.string ⟨#[]⟩)).heap[D]? = some (.deferred (some [])) := (KeepsOthers.setCell _ _ _).same D _ hK rfl
    have hK' : ((W.setCell ⟨w.heap.size, 0, none⟩ (Value.string ⟨#[]⟩)).setCell ⟨w.heap.size + 1, 0, none⟩ (Value.bool false)).heap[D]? = some (.deferred (some [])) := (KeepsOthers.setCell _ _ _).same D _ hK1 rfl
    have p2 := ((h2.set (Value.string ⟨#[]⟩)).other (B' := w.heap.size + 1) (by omega) (Value.bool false)).cell
    have p3 := ((h3.other (B' := w.heap.size) (by omega) (Value.string ⟨#[]⟩)).set (Value.bool false)).cell
    have qB := (hB.setCell (p := ⟨w.heap.size, 0, none⟩) (Nat.le_refl _) (Value.string ⟨#[]⟩)).setCell (p := ⟨w.heap.size + 1, 0, none⟩) (by show w.heap.size ≤ w.heap.size + 1; omega) (Value.bool false)
    refine ⟨by simp, .inl ⟨_, _, rfl, run_takeDeferred hK', ?_⟩⟩
    have c2 := cell_kept p2 (grownBy_putObj' _ D (.deferred none)) (fun r e => by cases e; exact ⟨_, hK', rfl⟩)
    have c3 := cell_kept p3 (grownBy_putObj' _ D (.deferred none)) (fun r e => by cases e; exact ⟨_, hK', rfl⟩)
    exact ⟨.tuple #[.string ⟨#[]⟩, .bool false], by simp [results, Try.results47, go_sem, c2, c3], by rw [← he]; rfl, qB.trans (belowK_b (w := w) (Nat.le_refl _) _ D _ _ (by omega) hK' rfl rfl)⟩
  case stop =>
    rintro D cd pre W hD ⟨rest, hpre⟩ ⟨rfl, x, rfl, h2, h3, hB⟩ hK
    gi_wp2
    refine ⟨by simp, .inl ⟨_, _, rfl, run_takeDeferred hK, ?_⟩⟩
    have c2 := cell_kept h2.cell (grownBy_putObj' _ D (.deferred none)) (fun r e => by cases e; exact ⟨_, hK, rfl⟩)
    have c3 := cell_kept h3.cell (grownBy_putObj' _ D (.deferred none)) (fun r e => by cases e; exact ⟨_, hK, rfl⟩)
    refine ⟨.tuple #[.string (Sb x), .bool true], by simp [results, Try.results47, go_sem, c2, c3], ?_, hB.trans (belowK_b (w := w) (Nat.le_refl _) W D _ _ (by omega) hK rfl rfl)⟩
    rw [← hpre]
    rfl
set_option maxHeartbeats 4000000 in
theorem lastIn_any (b1 b2 : Nat) (xs : List RB) (a : Option Addr) (c : Nat) (s : ByteArray) (w : World) (hg : rulesB (Rs xs) = true) (hss : s.size ≤ 1000) (hX : WRow w a xs)
    (k1 : w.cell? ⟨b1, 0, none⟩ = some (.slice a xs.length c)) (k2 : w.cell? ⟨b2, 0, none⟩ = some (.string s)) :
    Calls Try.prog 50 #[.func (.func 72) #[] #[.pointer (some ⟨b1, 0, none⟩), .pointer (some ⟨b2, 0, none⟩)]] w fun e w' => e = .returned (.tuple #[.string (oStr (once (Rs xs) (Bt s)).getLast?), .bool (once (Rs xs) (Bt s)).getLast?.isSome]) ∧ Below w.heap.size w w' := by
  refine (callsIn_wide (n := 5)).1 ?_
  refine callsIn_of_wp_marks Try.func50 rfl trivial ?_ rfl
  simp only [Try.ntmps50, List.size_toArray, List.length_cons, List.length_nil, Nat.reduceAdd, Nat.reduceSub, Array.replicate_succ, Array.replicate_zero, List.push_toArray, List.append_toArray, List.nil_append, List.cons_append]
  gi_wp2_with fail
  obtain ⟨W0, hW0⟩ : ∃ W0, (w.alloc (Obj.cells #[Value.string { data := #[] }] 9)).alloc (Obj.cells #[Value.bool false] 4) = W0 := ⟨_, rfl⟩
  have hsz : W0.heap.size = w.heap.size + 2 := by rw [← hW0]; simp
  have B0 : Below w.heap.size w W0 := by rw [← hW0]; exact (below1 w _).alloc (by simp) _
  have x2 : Boxed W0 w.heap.size 9 (.string ⟨#[]⟩) := by rw [← hW0]; exact (Boxed.new w 9 (.string ⟨#[]⟩)).alloc _
  have x3 : Boxed W0 (w.heap.size + 1) 4 (.bool false) := by
    rw [← hW0]
    have := Boxed.new (w.alloc (Obj.cells #[Value.string { data := #[] }] 9)) 4 (.bool false)
    rw [World.size_alloc] at this
    exact this
  rw [hW0]
  clear hW0
  have HSEQ := made_seq 4 (by omega) b1 b2 xs a c s w W0 hg hss hX (cell_below k1 B0) (cell_below k2 B0) B0
  have hl1 := World.block_lt_of_cell? w _ k1
  have hl2 := World.block_lt_of_cell? w _ k2
  simp only [] at hl1 hl2
  clear hX k1 k2
  refine wpIn_rangeFunc_ownF rfl (by omega) (gf := 72) (lb := #[.pointer (some ⟨b1, 0, none⟩), .pointer (some ⟨b2, 0, none⟩)]) rfl trivial (enters_of Try.func72 (by kernel_rfl) rfl)
    HSEQ (fun {_ _ _} h k => KpW.trans h k) (KpW.b (by omega) (by omega) (by omega)) (Below.refl _ _) (fun _ => rfl)
    (fun pre W => Boxed W w.heap.size 9 (.string (oStr pre.getLast?)) ∧ Boxed W (w.heap.size + 1) 4 (.bool pre.getLast?.isSome) ∧ Below w.heap.size w W)
    (fun _ _ _ => False)
    (fun s A B row ⟨h2, h3, h5⟩ hg hr => ⟨h2.kept hg (fun e => by have := (hr _ e.symm).1; omega), h3.kept hg (fun e => by have := (hr _ e.symm).1; omega), h5.grown hg (by have := h5.size; omega) (fun k e => by have := (hr k e).1; omega)⟩)
    (fun _ _ _ _ _ h _ _ => h)
    ⟨x2, x3, B0⟩
    (fun x => { tmps := #[.func (.func 72) #[] #[.pointer (some ⟨b1, 0, none⟩), .pointer (some ⟨b2, 0, none⟩)], undef, .string ⟨#[]⟩, .bool false, .pointer (some ⟨w.heap.size, 0, none⟩), .pointer (some ⟨w.heap.size + 1, 0, none⟩), .string (Sb x), .func (.func 72) #[] #[.pointer (some ⟨b1, 0, none⟩), .pointer (some ⟨b2, 0, none⟩)], .string (Sb x), undef, undef, undef], defers := [] }) ?assign ?body ?done ?stop
  case assign =>
    intro l x W K hK
    gi_wp2
    exact hK
  case body =>
    rintro l pre x W ⟨h2, h3, hB⟩ hlen
    have q2 := h2.cell
    have q2f := h2.frozen
    have q3 := h3.cell
    have q3f := h3.frozen
    have HI := hid (And.intro h2 (And.intro h3 hB))
    have hsW := hB.size
    have n2 : ∀ cs z, W.heap[w.heap.size]? ≠ some (Obj.cells cs 92 z) := fun cs z h => by rw [show W.heap[w.heap.size]? = _ from h2] at h; cases h
    have n3 : ∀ cs z, (W.setCell ⟨w.heap.size, 0, none⟩ (Value.string (Sb x))).heap[w.heap.size + 1]? ≠ some (Obj.cells cs 92 z) := fun cs z h => by rw [show (W.setCell ⟨w.heap.size, 0, none⟩ (Value.string (Sb x))).heap[w.heap.size + 1]? = _ from h3.other (by omega) _] at h; cases h
    have HN := hid (And.intro n2 n3)
    clear h2 h3 hB n2 n3
    gi_wp2
    refine ⟨(KeepsOthers.setCell _ _ _).trans (KeepsOthers.setCell _ _ _), ?_, ?_⟩
    · exact (KpW.of_grown hsW (grownBy_setCell' W w.heap.size _) (fun r e => by cases e; exact ⟨Nat.le_refl _, by omega, by omega, HN.out.1⟩)).trans (KpW.of_grown (by simp; exact hsW) (grownBy_setCell' _ (w.heap.size + 1) _) (fun r e => by cases e; exact ⟨by omega, by omega, by omega, HN.out.2⟩))
    · have e : (pre ++ [x]).getLast? = some x := by simp
      simp only [e]
      exact ⟨(HI.out.1.set _).other (by omega) _, (HI.out.2.1.other (by omega) _).set _, (HI.out.2.2.setCell (p := ⟨w.heap.size, 0, none⟩) (Nat.le_refl _) _).setCell (p := ⟨w.heap.size + 1, 0, none⟩) (by show w.heap.size ≤ w.heap.size + 1; omega) _⟩
  case done =>
    rintro D ys W hD he ⟨h2, h3, hB⟩ hK
    have q2 := h2.cell
    have q3 := h3.cell
    subst he
    gi_upto_region 5 with fail
    refine wpIn_wide.2 ?_
    go_quiet (fail)
    gi_wp2
    have hK' : (W.drewN nq).heap[D]? = some (.deferred (some [])) := hK
    have qB : Below w.heap.size w (W.drewN nq) := below_drewN hB nq
    refine ⟨by simp, .inl ⟨_, _, rfl, run_takeDeferred hK', ?_⟩⟩
    exact ⟨.tuple #[.string (oStr (once (Rs xs) (Bt s)).getLast?), .bool (once (Rs xs) (Bt s)).getLast?.isSome], by simp [results, Try.results50, go_sem], rfl, qB.trans (belowK_b (w := w) (Nat.le_refl _) _ D _ _ (by omega) hK' rfl rfl)⟩
  case stop =>
    rintro D c pre W _ _ h _
    exact h.elim
end Go.Proofs.Ytpjhmminbndgiaa
