/- Appending a slice of numbers to none; what the program's copyStep and stayWith answer. -/
import Derived.Test.YtnhdhpibdimkbaaDoorEnds2
import Derived.Deep.AppendLies
import Derived.Test.YtnhdhpibdimkbaaDoorCutMath
import Derived.Deep.Upon
namespace Go.Proofs.YtnhdhpibdimkbaaDoor
open Go.RowKit
set_option linter.unusedVariables false
set_option linter.unusedSimpArgs false
set_option maxRecDepth 100000

theorem OwnS.push3 {B : Nat} {wr wp w2 : World} {v tv : Value} {ys : List SV} {x : Stp} {g cap : Nat} (h : OwnS wr B v ys) (hb : Below wr.heap.size wr wp) (hB : B ≤ wr.heap.size) (ht : wp.ownsRow wr.heap.size 3 1 tv x.2.2.length (ints x.2.2))
    (hown : w2.ownsRow B 36 3 (.slice (some ⟨g, 0, none⟩) (ys.length + 1) cap) (ys.length + 1) (flatT ys ++ [.int .i64 x.1, .int .i64 x.2.1, tv])) (hg : wp.grownBy w2 v.ownBlock) (hat : v.ownBlock = some g ∨ g = wp.heap.size) :
    OwnS w2 B (.slice (some ⟨g, 0, none⟩) (ys.length + 1) cap) (ys ++ [(x, tv)]) := by
  have h1 := h.2.snoc hb hB (fun k hk => (h.1.lt k hk).2) x tv ht
  have h2 := h1.kept hg
  refine ⟨?_, ?_, h2.2⟩
  · rw [List.length_append, flatT_append]; exact hown
  · intro y hy
    obtain ⟨k1, k2⟩ := h2.1 y hy
    refine ⟨k1, ?_⟩
    rcases hat with hat | hat
    · rw [hat] at k2; exact k2
    · cases e : y.2.ownBlock with
      | none => exact .inl rfl
      | some j =>
        right
        have := ((h1.1 y hy).1.lt j e).2
        simp [Value.ownBlock]; omega
theorem news_cells (w : World) (cs : Array Value) (t : TypeId) : ∀ j u, cs.toList[j]? = some u → (w.alloc (.cells cs t)).cell? ((⟨w.heap.size, 0, none⟩ : Addr).add j) = some u := World.news_of_block (t := t) (fr := (0, 0)) (heap_alloc_new w _)
theorem OwnS.mono {w : World} {B B' : Nat} {v : Value} {ys : List SV} (h : OwnS w B v ys) (hb : B' ≤ B) : OwnS w B' v ys :=
  ⟨owns_mono h.1 hb, fun y hy => ⟨owns_mono (h.2.1 y hy).1 hb, (h.2.1 y hy).2⟩, h.2.2⟩

/-- appending a slice of numbers to an empty one -/
theorem run_append_row (w : World) (ty : TypeId) (B : Nat) (v : Value) (hown : w.ownsRow B 3 1 v 0 []) (ta : Option Addr) (tc : Nat) (t : List Int) (hR : Row w ta t) (hl : t.length ≤ 1048576) (hB : B ≤ w.heap.size) :
    ∃ va vc w', (Builtin.append_ #[27, 27] ty #[v, .slice ta t.length tc]).run Tryd.prog w = .ok (.slice va t.length vc) w' ∧ w'.ownsRow B 3 1 (.slice va t.length vc) t.length (ints t) ∧ w.grownBy w' v.ownBlock := by
  obtain ⟨i0, hi, hz0, hz1, hz2⟩ := info_parts info3
  obtain ⟨va, vc, hv⟩ : ∃ a c, v = .slice a 0 c := by
    rcases hown.2 with ⟨rfl, h0⟩ | ⟨g, cap, cur, rfl, _⟩
    · exact ⟨none, 0, rfl⟩
    · exact ⟨_, cap, rfl⟩
  by_cases ht : t = []
  · subst ht
    subst hv
    refine ⟨va, vc, w, ?_, by simpa [ints] using hown, ⟨rfl, rfl, rfl, Nat.le_refl _, fun _ _ _ => rfl⟩⟩
    refine run_append_nothing w 27 27 ty 3 i0 Tryd.underlying27 hi va 0 vc (Nat.zero_le _) _ ?_
    rw [hz1]
    cases ta with
    | none => exact Src.ofNil _ Tryd.underlying27 tc
    | some ad => exact Src.ofSlice _ Tryd.underlying27 ad 0 tc [] (by simp) (by simp) (by simp)
  · rcases hR with h | ⟨b, off, rfl, hc⟩
    · exact absurd h ht
    have hpos : 0 < t.length := List.length_pos_iff.2 ht
    obtain ⟨g, cap, w', hr, h2, h3, _, _⟩ := run_append_lies (P := Tryd.prog) w 27 ty B 3 i0 (.int .i64 0) 1 8 Tryd.underlying27 hi hz0 hz1 hz2 rfl (by decide) v 0 [] hown ⟨b, off, none⟩ t.length tc (ints t) (by simp [ints])
      (by
        intro j u hj
        have hjl : j < t.length := by have := (List.getElem?_eq_some_iff.1 hj).1; simpa [ints] using this
        have h1 := hc j hjl
        have h2 : (ints t)[j]? = some (.int .i64 (t[j]?.getD 0)) := by simp [ints, hjl]
        rw [h2] at hj
        rw [← hj]
        cases j with
        | zero => simpa [Addr.add] using h1
        | succ j => simpa [Addr.add] using h1)
      (by simp [ints, Value.oneCell']) hpos (by unfold maxLen; omega) (by omega) hB _ rfl
    rw [Nat.zero_add] at hr h2
    exact ⟨_, cap, w', hr, by simpa using h2, h3⟩

theorem wp_append_row {w : World} {o : Oper} {a : Act} {K : Act → World → Prop} {Q : Exit → Act → World → Prop} (s x : Operand)
    (ho : o.op = .call { callee := .builtin .append, args := #[s, x], argTypes := #[27, 27] })
    (B : Nat) (v : Value) (hs : a.eval s = v) (hown : w.ownsRow B 3 1 v 0 []) (ta : Option Addr) (tc : Nat) (t : List Int) (hx : a.eval x = .slice ta t.length tc) (hR : Row w ta t) (hl : t.length ≤ 1048576) (hB : B ≤ w.heap.size)
    (h : ∀ va vc w', w'.ownsRow B 3 1 (.slice va t.length vc) t.length (ints t) → w.grownBy w' v.ownBlock → K (a.put o.dst (.slice va t.length vc)) w') : o.wp Tryd.prog a w K Q := by
  obtain ⟨va, vc, w', hr, h2, h3⟩ := run_append_row w o.type B v hown ta tc t hR hl hB
  unfold Oper.wp execOp
  simp only [ho, resolve, invoke, builtin, Sem.run_bind, Sem.run_pure, Result.andThen_ok, List.map_toArray, List.map_cons, List.map_nil, hs, hx, hr]
  exact h va vc w' h2 h3
theorem wpList_append_row {w : World} {ops : Array Oper} {rest : List Oper} {o : Oper} {a : Act} {Q : Exit → Act → World → Prop} (hgd : o.guard = none) (s x : Operand)
    (ho : o.op = .call { callee := .builtin .append, args := #[s, x], argTypes := #[27, 27] })
    (B : Nat) (v : Value) (hs : a.eval s = v) (hown : w.ownsRow B 3 1 v 0 []) (ta : Option Addr) (tc : Nat) (t : List Int) (hx : a.eval x = .slice ta t.length tc) (hR : Row w ta t) (hl : t.length ≤ 1048576) (hB : B ≤ w.heap.size)
    (h : ∀ va vc w', w'.ownsRow B 3 1 (.slice va t.length vc) t.length (ints t) → w.grownBy w' v.ownBlock → wpList Tryd.prog ops Q rest (a.put o.dst (.slice va t.length vc)) w') : wpList Tryd.prog ops Q (o :: rest) a w :=
  wpList_plain hgd fun _ hK => wp_append_row s x ho B v hs hown ta tc t hx hR hl hB fun va vc w' h2 h3 => hK _ _ (h va vc w' h2 h3)
theorem step_append_row {w : World} {ops : Array Oper} {o : Oper} {a : Act} {K : Act → World → Prop} {Q : Exit → Act → World → Prop} {E : Prop} (hgd : o.guard = none) (s x : Operand)
    (ho : o.op = .call { callee := .builtin .append, args := #[s, x], argTypes := #[27, 27] })
    (B : Nat) (v : Value) (hs : a.eval s = v) (hown : w.ownsRow B 3 1 v 0 []) (ta : Option Addr) (tc : Nat) (t : List Int) (hx : a.eval x = .slice ta t.length tc) (hR : Row w ta t) (hl : t.length ≤ 1048576) (hB : B ≤ w.heap.size)
    (h : ∀ va vc w', w'.ownsRow B 3 1 (.slice va t.length vc) t.length (ints t) → w.grownBy w' v.ownBlock → K (a.put o.dst (.slice va t.length vc)) w') :
    if Region.wanted o (yielded ops a.tmps) = true then Oper.wp Tryd.prog o a w K Q else E := by
  have hw : Region.wanted o (yielded ops a.tmps) = true := by simp [Region.wanted, hgd]
  rw [if_pos hw]
  exact wp_append_row s x ho B v hs hown ta tc t hx hR hl hB h

set_option maxHeartbeats 1000000 in
/-- the program's copyStep -/
theorem copyStep_any (p n : Int) (t : List Int) (ta : Option Addr) (tc : Nat) (w : World) (hl : t.length ≤ 1048576) (hR : Row w ta t) :
    Calls Tryd.prog 103 #[.agg #[.int .i64 p, .int .i64 n, .slice ta t.length tc]] w fun e w' => ∃ va vc, e = .returned (.agg #[.int .i64 p, .int .i64 n, .slice va t.length vc]) ∧ w'.ownsRow w.heap.size 3 1 (.slice va t.length vc) t.length (ints t) ∧ Below w.heap.size w w' := by
  have HR : Hid (∀ o1 o2, Row ((w.alloc o1).alloc o2) ta t) := fun o1 o2 => hR.below (below2 w o1 o2)
  clear hR
  go_enter Tryd.func103, Tryd.ntmps103
  go_wp2_with (at_builtin; refine wpList_append_row rfl _ _ rfl (w.heap.size + 1 + 1) _ rfl (World.ownsRow_nil _ _ _ _) ta tc t rfl (HR.out _ _) hl (by simp) ?_)
  intro va vc w1 hown hg
  have hb : Below ((w.alloc (.cells #[.int .i64 p, .int .i64 n, .slice ta t.length tc] 36)).alloc (.cells #[.int .i64 0, .int .i64 0, .slice none 0 0] 36)).heap.size _ w1 := (Below.refl _ _).grown hg (Nat.le_refl _) (fun k hk => by cases hk)
  obtain ⟨hc, hf⟩ := bcell hb
  have c10 : w1.cell? ⟨w.heap.size, 0, none⟩ = some (.int .i64 p) := by rw [hc _ _ (by simp <;> omega)]; simp [go_sem]
  have c11 : w1.cell? ⟨w.heap.size, 1, none⟩ = some (.int .i64 n) := by rw [hc _ _ (by simp <;> omega)]; simp [go_sem]
  have c12 : w1.cell? ⟨w.heap.size, 2, none⟩ = some (.slice ta t.length tc) := by rw [hc _ _ (by simp <;> omega)]; simp [go_sem]
  have f12 : w1.frozen? ⟨w.heap.size, 2, none⟩ = false := by rw [hf _ _ (by simp <;> omega)]; simp [go_sem]
  have c20 : w1.cell? ⟨w.heap.size + 1, 0, none⟩ = some (.int .i64 0) := by rw [hc _ _ (by simp <;> omega)]; simp [go_sem]
  have c21 : w1.cell? ⟨w.heap.size + 1, 1, none⟩ = some (.int .i64 0) := by rw [hc _ _ (by simp <;> omega)]; simp [go_sem]
  have c22 : w1.cell? ⟨w.heap.size + 1, 2, none⟩ = some (.slice none 0 0) := by rw [hc _ _ (by simp <;> omega)]; simp [go_sem]
  have f20 : w1.frozen? ⟨w.heap.size + 1, 0, none⟩ = false := by rw [hf _ _ (by simp <;> omega)]; simp [go_sem]
  have f21 : w1.frozen? ⟨w.heap.size + 1, 1, none⟩ = false := by rw [hf _ _ (by simp <;> omega)]; simp [go_sem]
  have f22 : w1.frozen? ⟨w.heap.size + 1, 2, none⟩ = false := by rw [hf _ _ (by simp <;> omega)]; simp [go_sem]
  have HB : Hid (Below w.heap.size w w1) := bstep' (below2 w _ _) hb
  have HO : Hid (w1.ownsRow (w.heap.size + 1 + 1) 3 1 (.slice va t.length vc) t.length (ints t)) := hown
  clear hb hown hc hf hg
  go_wp2
  refine bodyPost_ret (v := .agg #[.int .i64 p, .int .i64 n, .slice va t.length vc]) (by simp [results, Tryd.results103, go_sem, *]) rfl ⟨va, vc, rfl, ?_, ?_⟩
  · refine owns_mono (B := w.heap.size + 1 + 1) ?_ (by omega)
    exact ownsRow_setCell_below (ownsRow_setCell_below (ownsRow_setCell_below (ownsRow_setCell_below HO.out (by simp <;> omega) _) (by simp <;> omega) _) (by simp <;> omega) _) (by simp <;> omega) _
  · exact (((HB.out.setCell (by simp <;> omega) _).setCell (by simp <;> omega) _).setCell (by simp <;> omega) _).setCell (by simp <;> omega) _
end Go.Proofs.YtnhdhpibdimkbaaDoor
