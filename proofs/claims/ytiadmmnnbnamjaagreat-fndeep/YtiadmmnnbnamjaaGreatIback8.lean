/- The program's back edges. -/
import Derived.Test.YtiadmmnnbnamjaaGreatBackMath8
import Derived.OwnWalkIn
namespace Go.Proofs.YtiadmmnnbnamjaaGreat
open Go Go.RowKit Go.Shelf
attribute [local go_sem] Oper.semAt_some
set_option linter.unusedVariables false
set_option linter.unusedSimpArgs false
set_option maxRecDepth 100000

theorem wpListIn_append_sep {F : Fence} {nF : Nat} {T e : TypeId} {size bytes : Nat} (E : Elt T e size bytes) {w : World} {ops : Array Oper} {rest : List Oper} {o : Oper} {a : Act} {Q : Exit → Act → World → Prop} (hgd : o.guard = none) (s x : Operand)
    (ho : o.op = .call { callee := .builtin .append, args := #[s, x], argTypes := #[T, T] })
    (B : Nat) (l1 : List OR) {v : Value} {n : Nat} {xs : List Value} {l2 : List OR} (h : Sep w B (l1 ++ ⟨e, size, v, n, xs⟩ :: l2)) (hs : a.eval s = v) {ad : Option Addr} {m c : Nat} {news : List Value} (hn : News w ad m size news) (hx : a.eval x = .slice ad m c) (hb : n + m ≤ 4000000) (hB : B ≤ w.heap.size)
    (k : ∀ va vc w', Sep w' B (l1 ++ ⟨e, size, .slice va (n + m) vc, n + m, xs ++ news⟩ :: l2) → Below B w w' → w.grownBy w' v.ownBlock → (∀ g, (Value.slice va (n + m) vc).ownBlock = some g → v.ownBlock = some g ∨ w.heap.size ≤ g) → wpListIn F nF Tryz.prog ops Q rest (a.put o.dst (.slice va (n + m) vc)) w') : wpListIn F nF Tryz.prog ops Q (o :: rest) a w := by
  refine wpListIn_plain hgd fun K hK' => ?_
  have ho' := h.1 ⟨e, size, v, n, xs⟩ (by simp)
  obtain ⟨va, vc, w', hr, h2, h3, h4⟩ := run_append_more E w o.type B v n xs ho' ad m c news hn hb hB
  unfold Oper.wpIn
  refine ⟨?_, ?_⟩
  · simp [Oper.about, ho, resolve, Target.leads, Sem.run_pure]
  · rw [Oper.semAt_plain F _ _ (by rw [ho]; intro c hc'; cases hc')]
    simp [execOp, ho, resolve, invoke, builtin, hs, hx, hr, Result.andThen]
    exact hK' _ _ (k va vc w' (h.turn l1 (Below.refl _ _) h3 ⟨e, size, .slice va (n + m) vc, n + m, xs ++ news⟩ h2 h4) ((Below.refl B w).grown h3 hB (fun j hj => (ho'.lt j hj).1)) h3 h4)
/-- what the iterator over back edges is made of -/
structure BackIs (g : List (List Nat)) (a : Option Addr) (c : Nat) (w w' : World) (Bd db dc : Nat) (ys : List LV) (D : List (List Nat)) : Prop where
  doms : IsDoms g D
  are : lists ys = natsL D
  own : OwnS w' (w.heap.size + 1) (.slice (some ⟨db, 0, none⟩) g.length dc) ys
  box : w'.cell? ⟨w.heap.size, 0, none⟩ = some (.slice a g.length c)
  dbox : w'.cell? ⟨Bd, 0, none⟩ = some (.slice (some ⟨db, 0, none⟩) g.length dc)
  far : w.heap.size < Bd
  below : Below w.heap.size w w'
set_option maxHeartbeats 2000000 in
theorem backEdgesIn_any {g : List (List Nat)} (G : Gr g) (a : Option Addr) (c : Nat) (w : World) (h : GRow w a g) :
    Calls Tryz.prog 83 #[.agg #[.slice a g.length c]] w fun e w' => ∃ Bd db dc ys D, e = .returned (.func (.func 100) #[] #[.pointer (some ⟨w.heap.size, 0, none⟩), .pointer (some ⟨Bd, 0, none⟩)]) ∧ BackIs g a c w w' Bd db dc ys D := by
  have b0 := below1 w (.cells #[.slice a g.length c] 25)
  have HO := hid (doms_any G a c (w.alloc (.cells #[.slice a g.length c] 25)) (LRow.below h b0))
  have d0 : (w.alloc (.cells #[.slice a g.length c] 25)).cell? ⟨w.heap.size, 0, none⟩ = some (.slice a g.length c) := by simp [go_sem]
  have z0 : (w.alloc (.cells #[.slice a g.length c] 25)).heap.size = w.heap.size + 1 := by simp
  have hgp := G.pos
  clear h
  refine (callsIn_wide (n := 8)).1 ?_
  refine callsIn_of_wp Tryz.func83 rfl trivial ?_ rfl
  simp only [Tryz.ntmps83, List.size_toArray, List.length_cons, List.length_nil, Nat.reduceAdd, Nat.reduceSub, Array.replicate_succ, Array.replicate_zero, List.push_toArray, List.append_toArray, List.nil_append, List.cons_append]
  gi_wp2_with (refine ⟨trivial, ?_⟩; gi_at_call 34; refine (callsIn_wide.2 HO.out).mono ?_; rintro e w1 ⟨va, vc, ys, D, rfl, ho, hy, hD, hb1⟩)
  obtain ⟨db, rfl⟩ : ∃ b, va = some ⟨b, 0, none⟩ := by
    have hout := ho.1 ⟨60, 1, .slice va g.length vc, ys.length, vals ys⟩ (by simp)
    simp only [OR.own] at hout
    rcases hout.2 with ⟨h0, h1⟩ | ⟨g', cap, cur, he, _⟩
    · injection h0 with _ e2 _; omega
    · injection he with e1 _ _; exact ⟨g', e1⟩
  go_ret
  have b1 := below1 w1 (.cells #[.slice (some ⟨db, 0, none⟩) g.length vc] 68)
  refine ⟨w1.heap.size, db, vc, ys, D, rfl, hD, hy, ?_, cell_below (cell_below d0 hb1) b1, by simp [go_sem], by have := hb1.size; omega, bstep' (bstep' b0 hb1) b1⟩
  rw [← z0]
  exact Sep.below ho b1
end Go.Proofs.YtiadmmnnbnamjaaGreat
