/- Marks of ranges that are over, and rows of sets beside the box that holds them. -/
import Derived.Test.YtiadmmnnbnamjaaGreatLeaders7
import Derived.ControlIn
namespace Go.Proofs.YtiadmmnnbnamjaaGreat
open Go Go.RowKit Go.Shelf
set_option linter.unusedVariables false
set_option maxRecDepth 100000

/-- ranges over functions that are over have left these among the deferred calls -/
def Marks (n0 : Nat) (ds : List Deferred) (W : World) : Prop := ∃ rs : List Nat, ds = rs.map (fun r => (⟨.collected r, #[]⟩ : Deferred)) ∧ rs.Nodup ∧ ∀ r ∈ rs, n0 ≤ r ∧ W.heap[r]? = some (.deferred (some []))
theorem Marks.nil (n0 : Nat) (W : World) : Marks n0 [] W := ⟨[], rfl, List.nodup_nil, by simp⟩
theorem Marks.others {n0 : Nat} {ds : List Deferred} {W W' : World} (h : Marks n0 ds W) (k : KeepsOthers W W') : Marks n0 ds W' := by
  obtain ⟨rs, h1, h2, h3⟩ := h
  exact ⟨rs, h1, h2, fun r hr => ⟨(h3 r hr).1, k.same r _ (h3 r hr).2 rfl⟩⟩
theorem Marks.only {n0 nb : Nat} {ds : List Deferred} {X W : World} (h : Marks n0 ds X) (k : Only (fun b => b = nb) X W) (hc : ∀ o, X.heap[nb]? = some o → o.isCells = true) : Marks n0 ds W := by
  obtain ⟨rs, h1, h2, h3⟩ := h
  refine ⟨rs, h1, h2, fun r hr => ⟨(h3 r hr).1, ?_⟩⟩
  have h4 := (h3 r hr).2
  refine (k.block r (Array.getElem?_eq_some_iff.1 h4).1 (fun e => ?_)).trans h4
  subst e
  have := hc _ h4
  simp [Obj.isCells] at this
theorem Marks.more {n0 nb D : Nat} {ds : List Deferred} {X W : World} (h : Marks n0 ds X) (k : Only (fun b => b = nb) X W) (hc : ∀ o, X.heap[nb]? = some o → o.isCells = true) (hX : X.heap.size ≤ D) (hn : n0 ≤ D) (hD : W.heap[D]? = some (.deferred (some []))) : Marks n0 ({ target := .collected D, args := #[] } :: ds) W := by
  have h5 := h
  obtain ⟨rs, h1, h2, h3⟩ := h5
  obtain ⟨rs', h1', _, h3'⟩ := h.only k hc
  refine ⟨D :: rs, by rw [h1]; rfl, List.nodup_cons.2 ⟨fun hm => ?_, h2⟩, fun r hr => ?_⟩
  · have := (Array.getElem?_eq_some_iff.1 (h3 D hm).2).1
    omega
  · rcases List.mem_cons.1 hr with rfl | hr
    · exact ⟨hn, hD⟩
    · refine ⟨(h3 r hr).1, ?_⟩
      have h4 := (h3 r hr).2
      refine (k.block r (Array.getElem?_eq_some_iff.1 h4).1 (fun e => ?_)).trans h4
      subst e
      have := hc _ h4
      simp [Obj.isCells] at this
theorem leaves_marks {F : Fence} {n n0 : Nat} {P : Program} {fn : Func} {tmps : Array Value} {R : Ending → World → Prop} (I : World → Prop)
    (hI : ∀ W W' row, I W → W.grownBy W' row → (∀ r, row = some r → n0 ≤ r ∧ ∃ o : Obj, W.heap[r]? = some o ∧ o.isCells = false) → I W')
    (hend : ∀ W, I W → LeavesInM F n P fn tmps R [] .returning W) {ds : List Deferred} {W : World} (hm : Marks n0 ds W) (h : I W) : LeavesInM F n P fn tmps R ds .returning W := by
  obtain ⟨rs, rfl, hn, hr⟩ := hm
  induction rs generalizing W with
  | nil => exact hend W h
  | cons r rs ih =>
    have h1 := hr r (by simp)
    have h2 := List.nodup_cons.1 hn
    refine ⟨by simp, .inl ⟨r, W.putObj r (.deferred none), rfl, run_takeDeferred h1.2, ?_⟩⟩
    refine ih (hI W _ (some r) h (grownBy_putObj' W r _) (fun q e => by cases e; exact ⟨h1.1, _, h1.2, rfl⟩)) h2.2 (fun q hq => ?_)
    have h3 := hr q (List.mem_cons_of_mem _ hq)
    exact ⟨h3.1, (World.putObj_heap_other (fun e => h2.1 (by rw [← e]; exact hq))).trans h3.2⟩
/-- what a body must come to, where it never panics -/
def calm (Q : Exit → Act → World → Prop) : Exit → Act → World → Prop
  | .panic _, _, _ => False
  | e, a, w => Q e a w
theorem calm_le {Q : Exit → Act → World → Prop} : ∀ e a w, calm Q e a w → Q e a w := by
  intro e a w h
  cases e <;> first | exact h | exact False.elim h
theorem bdr {B : Nat} {a w : World} (h : Below B a w) : Below B a w.drew := ⟨h.os, h.tape, h.output, h.size, h.block⟩
/-- rows of sets, and the box that holds the outer row -/
def OwnB (W : World) (B bx : Nat) (v : Value) (ys : List LV) : Prop := Sep W B (cellOR 68 1 bx [v] :: (⟨60, 1, v, ys.length, vals ys⟩ :: ys.map rowL))
theorem OwnB.box {W : World} {B bx : Nat} {v : Value} {ys : List LV} (h : OwnB W B bx v ys) : W.cell? ⟨bx, 0, none⟩ = some v := Sep.cell h (List.mem_cons_self ..) rfl rfl
theorem OwnB.plain {W : World} {B bx : Nat} {v : Value} {ys : List LV} (h : OwnB W B bx v ys) : OwnS W B v ys := Sep.tail h
theorem OwnB.below {W W' : World} {B bx : Nat} {v : Value} {ys : List LV} (h : OwnB W B bx v ys) (hb : Below W.heap.size W W') : OwnB W' B bx v ys := Sep.below h hb
theorem OwnB.cell {W : World} {B bx s n c : Nat} {ys : List LV} (h : OwnB W B bx (.slice (some ⟨s, 0, none⟩) n c) ys) {j : Nat} {y : LV} (hy : ys[j]? = some y) : W.cell? ⟨s, j, none⟩ = some y.v := Sep.cell h (x := ⟨60, 1, .slice (some ⟨s, 0, none⟩) n c, ys.length, vals ys⟩) (by simp) rfl (by simp [vals, hy])
theorem OwnB.frz {W : World} {B bx s n c : Nat} {ys : List LV} (h : OwnB W B bx (.slice (some ⟨s, 0, none⟩) n c) ys) (j : Nat) : W.frozen? ⟨s, j, none⟩ = false := Sep.frozen h (x := ⟨60, 1, .slice (some ⟨s, 0, none⟩) n c, ys.length, vals ys⟩) (by simp) rfl j
theorem OwnB.row {W : World} {B bx : Nat} {v : Value} {ys : List LV} (h : OwnB W B bx v ys) {j : Nat} {y : LV} (hy : ys[j]? = some y) : W.ownsRow B 3 1 y.v y.r.length (ints y.r) := Sep.get h (x := rowL y) (List.mem_cons_of_mem _ (List.mem_cons_of_mem _ (List.mem_map_of_mem (List.mem_of_getElem? hy))))
/-- one set of the row put anew -/
theorem OwnB.put {W : World} {B bx s n c : Nat} {ys : List LV} (h : OwnB W B bx (.slice (some ⟨s, 0, none⟩) n c) ys) {j : Nat} {y y' : LV} (hn : ys.length = n) (hy : ys[j]? = some y) (hs : Sep W B (rowL y' :: (cellOR 68 1 bx [.slice (some ⟨s, 0, none⟩) n c] :: (⟨60, 1, .slice (some ⟨s, 0, none⟩) n c, ys.length, vals ys⟩ :: ys.map rowL)))) : OwnB (W.setCell ⟨s, j, none⟩ y'.v) B bx (.slice (some ⟨s, 0, none⟩) n c) (ys.set j y') := by
  subst hn
  have h1 := Sep.store [rowL y', cellOR 68 1 bx [.slice (some ⟨s, 0, none⟩) ys.length c]] (e := 60) (size := 1) (g := s) (xs := vals ys) (l2 := ys.map rowL) hs j y'.v
  have hj := (List.getElem?_eq_some_iff.1 hy).1
  have e1 : (ys.set j y').map rowL = (ys.take j).map rowL ++ rowL y' :: (ys.drop (j + 1)).map rowL := by
    rw [List.set_eq_take_append_cons_drop, if_pos hj]
    simp
  have e2 : ys.map rowL = (ys.take j).map rowL ++ rowL y :: (ys.drop (j + 1)).map rowL := by
    conv => lhs; rw [splitL hy]
    simp
  have ev : vals (ys.set j y') = (vals ys).set j y'.v := by simp [vals, List.map_set]
  unfold OwnB
  rw [List.length_set, ev, e1]
  rw [e2] at h1
  have hp : ([rowL y', cellOR 68 1 bx [.slice (some ⟨s, 0, none⟩) ys.length c]] ++ ⟨60, 1, .slice (some ⟨s, 0, none⟩) ys.length c, ys.length, (vals ys).set j y'.v⟩ :: ((ys.take j).map rowL ++ rowL y :: (ys.drop (j + 1)).map rowL) : List OR).Perm (rowL y :: (cellOR 68 1 bx [.slice (some ⟨s, 0, none⟩) ys.length c] :: ⟨60, 1, .slice (some ⟨s, 0, none⟩) ys.length c, ys.length, (vals ys).set j y'.v⟩ :: ((ys.take j).map rowL ++ rowL y' :: (ys.drop (j + 1)).map rowL))) := by
    simp only [List.cons_append, List.nil_append]
    refine List.Perm.trans (List.Perm.cons _ (List.Perm.cons _ (List.Perm.cons _ List.perm_middle))) ?_
    refine List.Perm.trans ?_ (List.Perm.cons _ (List.Perm.cons _ (List.Perm.cons _ List.perm_middle.symm)))
    exact ((List.perm_middle (l₁ := [_, _])).cons _).trans ((List.Perm.swap _ _ _).trans ((List.perm_middle (l₁ := [_, _])).symm.cons _))
  have h2 : Sep (W.setCell ⟨s, j, none⟩ y'.v) B (rowL y :: (cellOR 68 1 bx [.slice (some ⟨s, 0, none⟩) ys.length c] :: ⟨60, 1, .slice (some ⟨s, 0, none⟩) ys.length c, ys.length, (vals ys).set j y'.v⟩ :: ((ys.take j).map rowL ++ rowL y' :: (ys.drop (j + 1)).map rowL))) := ⟨fun x hx => h1.1 x (hp.mem_iff.2 hx), hp.pairwise h1.2 (fun {a b} hab => apt.symm hab)⟩
  exact Sep.tail h2
end Go.Proofs.YtiadmmnnbnamjaaGreat
