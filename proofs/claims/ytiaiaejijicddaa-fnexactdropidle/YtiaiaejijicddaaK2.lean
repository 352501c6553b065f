/- The library's iterator over a list, and the program's over a set. -/
import Derived.RangeFuncNested
import Derived.RangeFuncBound
import Derived.RangeFuncCalls
import Derived.RangeFuncLeaves
import Derived.RangeFuncBox
import Derived.Maps.AppendAt
import Derived.Shelf.Abstract
import Derived.Shelf.RegionOpen
import Derived.WalkKit
import Derived.OwnWalkIn
import Derived.TacticsInMore
import Derived.LoopNIn
import Derived.LoopIn
import Derived.Test.YtiaiaejijicddaaSet7
import Derived.Test.YtiaiaejijicddaaJ1
import Derived.Deep.RegionHeldLaw
import Derived.Deep.RegionLaw
import Derived.Test.YtiaiaejijicddaaShelf2
import Derived.Lib.RowBridge
namespace Go.Proofs.Ytiaiaejijicddaa
section
open Go.RowKit Go.Shelf
attribute [local go_sem] Oper.semAt_some
set_option linter.unusedVariables false
set_option linter.unusedSimpArgs false
set_option maxRecDepth 100000

theorem row_in {w0 W W' : World} {sa : Option Addr} {xs : List Int} (h0 : Row w0 sa xs) (h : Row W sa xs) (hb : Below w0.heap.size W W') : Row W' sa xs := by
  by_cases hne : xs = []
  · exact .inl hne
  · obtain ⟨b, off, rfl, hb0, _⟩ := h0.at hne
    rcases h with h | ⟨b', off', e, hc⟩
    · exact .inl h
    · cases e
      exact .inr ⟨b, off, rfl, fun i hi => by rw [hb.cell (p := ⟨b, off + i, none⟩) hb0]; exact hc i hi⟩
theorem keeps_below {W W' : World} (h : Below W.heap.size W W') : KeepsOthers W W' := ⟨h.size, fun k o hk _ => by rw [← hk]; exact h.block k (Array.getElem?_eq_some_iff.1 hk).1⟩
end

section
open Go.RowKit
set_option linter.unusedVariables false
set_option linter.unusedSimpArgs false
set_option maxRecDepth 100000

/-- lists that are owned, beside rows that stay -/
def OwnR (w : World) (B : Nat) (v : Value) (ys : List LV) (R : List OR) : Prop := Sep w B (rowsL v ys ++ R)
theorem Sep.left {w : World} {B : Nat} {l m : List OR} (h : Sep w B (l ++ m)) : Sep w B l := ⟨fun x hx => h.1 x (List.mem_append_left _ hx), (List.pairwise_append.1 h.2).1⟩
theorem OwnR.plain {w : World} {B : Nat} {v : Value} {ys : List LV} {R : List OR} (h : OwnR w B v ys R) : OwnL w B v ys := Sep.left h
theorem OwnR.below {w w' : World} {B : Nat} {v : Value} {ys : List LV} {R : List OR} (h : OwnR w B v ys R) (hb : Below w.heap.size w w') : OwnR w' B v ys R := Sep.below h hb
theorem OwnR.rest {w : World} {B : Nat} {v : Value} {ys : List LV} {R : List OR} (h : OwnR w B v ys R) {x : OR} (hx : x ∈ R) : w.ownsRow B x.e x.size x.v x.n x.xs := h.1 x (List.mem_append_right _ hx)
theorem OwnR.split {w : World} {B : Nat} {v : Value} {ys : List LV} {R : List OR} (h : OwnR w B v ys R) {j : Nat} {y : LV} (hy : ys[j]? = some y) : Sep w B ((⟨34, 1, v, ys.length, vals ys⟩ :: (ys.take j).map rowL) ++ ⟨3, 1, y.v, y.r.length, ints y.r⟩ :: ((ys.drop (j + 1)).map rowL ++ R)) := by
  have e : rowsL v ys ++ R = (⟨34, 1, v, ys.length, vals ys⟩ :: (ys.take j).map rowL) ++ ⟨3, 1, y.v, y.r.length, ints y.r⟩ :: ((ys.drop (j + 1)).map rowL ++ R) := by
    conv => lhs; arg 1; rw [rowsL]
    conv => lhs; arg 1; arg 2; rw [splitL hy]
    simp [rowL]
  unfold OwnR at h
  rw [e] at h
  exact h
theorem OwnR.join {w : World} {B g cap : Nat} {ys : List LV} {R : List OR} {j : Nat} {y y' : LV} (hy : ys[j]? = some y) (h : Sep w B ((⟨34, 1, .slice (some ⟨g, 0, none⟩) ys.length cap, ys.length, vals ys⟩ :: (ys.take j).map rowL) ++ ⟨3, 1, y'.v, y'.r.length, ints y'.r⟩ :: ((ys.drop (j + 1)).map rowL ++ R))) :
    OwnR (w.setCell ⟨g, j, none⟩ y'.v) B (.slice (some ⟨g, 0, none⟩) ys.length cap) (ys.set j y') R := by
  have hj := (List.getElem?_eq_some_iff.1 hy).1
  have h2 := Sep.store [] h j y'.v
  have e : rowsL (.slice (some ⟨g, 0, none⟩) ys.length cap) (ys.set j y') ++ R = [] ++ ⟨34, 1, .slice (some ⟨g, 0, none⟩) ys.length cap, ys.length, (vals ys).set j y'.v⟩ :: ((ys.take j).map rowL ++ ⟨3, 1, y'.v, y'.r.length, ints y'.r⟩ :: ((ys.drop (j + 1)).map rowL ++ R)) := by
    rw [rowsL, List.length_set, show vals (ys.set j y') = (vals ys).set j y'.v by simp [vals, List.map_set], List.set_eq_take_append_cons_drop (l := ys), if_pos hj]
    simp [rowL]
  unfold OwnR
  rw [e]
  exact h2
def noLists (n : Nat) : List LV := List.replicate n ⟨[], .slice none 0 0⟩
theorem made_lists (n : Nat) : (madeCells #[Value.slice none 0 0] n).toList = vals (noLists n) := by
  rw [toList_madeCells_one]
  simp [vals, noLists]
theorem own_start {w : World} {B n g cap : Nat} (h : w.ownsRow B 34 1 (.slice (some ⟨g, 0, none⟩) n cap) n (vals (noLists n))) : OwnL w B (.slice (some ⟨g, 0, none⟩) n cap) (noLists n) := by
  refine ⟨fun x hx => ?_, List.pairwise_cons.2 ⟨fun x hx => ?_, ?_⟩⟩
  · rcases List.mem_cons.1 hx with rfl | hx
    · show World.ownsRow _ _ _ _ _ _ _
      rw [show (noLists n).length = n by simp [noLists]]
      exact h
    · obtain ⟨y, hy, rfl⟩ := List.mem_map.1 hx
      obtain rfl : y = ⟨[], .slice none 0 0⟩ := List.eq_of_mem_replicate hy
      exact World.ownsRow_nil _ _ _ _
  · obtain ⟨y, hy, rfl⟩ := List.mem_map.1 hx
    obtain rfl : y = ⟨[], .slice none 0 0⟩ := List.eq_of_mem_replicate hy
    right; intro he; cases he
  · rw [List.pairwise_map]
    refine List.Pairwise.imp_of_mem (R := fun _ _ => True) (fun {a b} ha hb _ => ?_) (List.pairwise_of_forall (fun _ _ => trivial))
    obtain rfl : a = ⟨[], .slice none 0 0⟩ := List.eq_of_mem_replicate ha
    exact .inl rfl
def natsL (P : List (List Nat)) : List (List Int) := P.map nats
theorem natsL_at {P : List (List Nat)} {x : Nat} {r : List Nat} (h : P[x]? = some r) : (natsL P)[x]? = some (nats r) := by simp [natsL, h]
theorem natsL_set (P : List (List Nat)) (x : Nat) (r : List Nat) : (natsL P).set x (nats r) = natsL (P.set x r) := by simp [natsL, List.map_set]
theorem lists_set (ys : List LV) (x : Nat) (y : LV) : lists (ys.set x y) = (lists ys).set x y.r := by simp [lists, List.map_set]
theorem lists_noLists (n : Nat) : lists (noLists n) = natsL (List.replicate n []) := by simp [lists, noLists, natsL, nats]
theorem own_of_lists {ys : List LV} {P : List (List Nat)} (h : lists ys = natsL P) {x : Nat} {r : List Nat} (hr : P[x]? = some r) : ∃ v, ys[x]? = some ⟨nats r, v⟩ := by
  have h1 := congrArg (·[x]?) h
  simp only [natsL_at hr] at h1
  simp only [lists, List.getElem?_map] at h1
  cases hy : ys[x]? with
  | none => rw [hy] at h1; cases h1
  | some y =>
    rw [hy] at h1
    have := Option.some.inj h1
    exact ⟨y.v, by rw [← this]⟩

theorem OwnR.kept {w w' : World} {B : Nat} {v : Value} {ys : List LV} {R : List OR} (h : OwnR w B v ys R) (hb : Below w.heap.size w w') (hB : B ≤ w.heap.size) (x : OR) (hx : x.own w' w.heap.size) : OwnR w' B v ys (R ++ [x]) := by
  have := Sep.append h hb hB (m := [x]) ⟨by intro y hy; simp at hy; subst hy; exact hx, by simp⟩
  unfold OwnR
  rw [← List.append_assoc]
  exact this
theorem OwnR.less {w : World} {B : Nat} {v : Value} {ys : List LV} {R S : List OR} (h : OwnR w B v ys (R ++ S)) : OwnR w B v ys R := by
  unfold OwnR at h ⊢
  rw [← List.append_assoc] at h
  exact Sep.left h
theorem dom_iff {g : List (List Nat)} {L M : List Nat} {d k : Nat} (hL : IsW g (-1) L) (hM : IsW g d M) (hk : k ∈ L) : Dom g d k ↔ (d ∈ L ∧ k ∉ M) := by
  unfold Dom Come
  rw [← hL.2, ← hL.2, ← hM.2]
  exact ⟨fun h => ⟨h.2.1, h.2.2⟩, fun h => ⟨hk, h.1, h.2⟩⟩
/-- the answer: rows of dominators -/
def DomAns (w w' : World) (g : List (List Nat)) (e : Ending) : Prop := ∃ va vc ys P, e = .returned (.slice va g.length vc) ∧ OwnL w' w.heap.size (.slice va g.length vc) ys ∧ lists ys = natsL P ∧ IsDoms g P ∧ Below w.heap.size w w'
theorem hasN_any (a : Option Addr) (c : Nat) (S : List Nat) (x : Nat) (w : World) (hl : S.length ≤ 1000) (B : Nat) (ho : w.ownsRow B 3 1 (.slice a S.length c) S.length (ints (nats S))) :
    Calls Try.prog 45 #[.slice a S.length c, .int .i64 (x : Int)] w fun e w' => e = .returned (.bool (decide (x ∈ S))) ∧ w' = w := by
  have := l1Has_any a c (nats S) x w (by rw [nats_length]; omega) (own_row (c := c) (B := B) (by rw [nats_length]; exact ho))
  rw [nats_length] at this
  have e : hasB (nats S) x = decide (x ∈ S) := by rw [Bool.eq_iff_iff]; simp [hasB, nats_mem]
  rw [e] at this
  exact this
theorem boxed_below {W W' : World} {B : Nat} {t : TypeId} {v : Value} (h : Boxed W B t v) (hb : Below W.heap.size W W') : Boxed W' B t v := (hb.block B h.lt).trans h
def meetL (s t : List Nat) : List Nat := s.filter (fun x => decide (x ∈ t))
theorem meetL_in {s t : List Nat} {x : Nat} (h : x ∈ t) : meetL (s ++ [x]) t = meetL s t ++ [x] := by simp [meetL, h]
theorem meetL_out {s t : List Nat} {x : Nat} (h : x ∉ t) : meetL (s ++ [x]) t = meetL s t := by simp [meetL, h]
theorem meetL_len (s t : List Nat) : (meetL s t).length ≤ s.length := List.length_filter_le _ _
theorem meetL_rising {s t : List Nat} (h : s.Pairwise (· < ·)) : (meetL s t).Pairwise (· < ·) := h.filter _
theorem mem_meetL {s t : List Nat} {x : Nat} : x ∈ meetL s t ↔ x ∈ s ∧ x ∈ t := by simp [meetL]
theorem step_append_sep {T e : TypeId} {size bytes : Nat} (E : Elt T e size bytes) {w : World} {ops : Array Oper} {o : Oper} {a : Act} {K : Act → World → Prop} {Q : Exit → Act → World → Prop} {F : Prop} (hgd : o.guard = none) (s x : Operand)
    (ho : o.op = .call { callee := .builtin .append, args := #[s, x], argTypes := #[T, T] })
    (B : Nat) (l1 : List OR) {v : Value} {n : Nat} {xs : List Value} {l2 : List OR} (h : Sep w B (l1 ++ ⟨e, size, v, n, xs⟩ :: l2)) (hs : a.eval s = v) {ad : Option Addr} {m c : Nat} {news : List Value} (hn : News w ad m size news) (hx : a.eval x = .slice ad m c) (hb : n + m ≤ 4000000) (hB : B ≤ w.heap.size)
    (k : ∀ va vc w', Sep w' B (l1 ++ ⟨e, size, .slice va (n + m) vc, n + m, xs ++ news⟩ :: l2) → Below B w w' → w.grownBy w' v.ownBlock → K (a.put o.dst (.slice va (n + m) vc)) w') :
    if Region.wanted o (yielded ops a.tmps) = true then Oper.wp Try.prog o a w K Q else F := by
  have hw : Region.wanted o (yielded ops a.tmps) = true := by simp [Region.wanted, hgd]
  rw [if_pos hw]
  exact wp_append_sep E s x ho B l1 h hs hn hx hb hB k
theorem own_new0 (w : World) (nb : Nat) (hnb : w.heap.size = nb) : (w.alloc (.cells #[] 3)).ownsRow nb 3 1 (.slice (some ⟨nb, 0, none⟩) 0 0) 0 [] := by
  subst hnb
  exact ⟨rfl, .inr ⟨w.heap.size, 0, #[], rfl, Nat.le_refl _, heap_alloc_new _ _, by omega, by unfold maxLen; omega, by simp, by simp⟩⟩
/-- lists that were made so far, behind other rows -/
def Made (w : World) (B : Nat) (pre : List OR) (ov : Value) (ys : List LV) : Prop := Sep w B (pre ++ ⟨34, 1, ov, ys.length, vals ys⟩ :: ys.map rowL)
theorem Made.below {w w' : World} {B : Nat} {pre : List OR} {ov : Value} {ys : List LV} (h : Made w B pre ov ys) (hb : Below w.heap.size w w') : Made w' B pre ov ys := Sep.below h hb
/-- a new list lies there -/
theorem Made.with {w w' : World} {B : Nat} {pre : List OR} {ov : Value} {ys : List LV} (h : Made w B pre ov ys) (hb : Below w.heap.size w w') (hB : B ≤ w.heap.size) (y : LV) (hy : w'.ownsRow w.heap.size 3 1 y.v y.r.length (ints y.r)) : Sep w' B (pre ++ ⟨34, 1, ov, ys.length, vals ys⟩ :: (ys ++ [y]).map rowL) := by
  have := Sep.append h hb hB (m := [rowL y]) ⟨by intro x hx; simp at hx; subst hx; exact hy, by simp⟩
  simpa using this
theorem Made.grown {w : World} {B n : Nat} {pre : List OR} {va : Option Addr} {vc : Nat} {ys : List LV} {y : LV} (h : Sep w B (pre ++ ⟨34, 1, .slice va (ys.length + 1) vc, ys.length + 1, vals ys ++ [y.v]⟩ :: (ys ++ [y]).map rowL)) : Made w B pre (.slice va (ys.length + 1) vc) (ys ++ [y]) := by
  unfold Made
  have e : vals (ys ++ [y]) = vals ys ++ [y.v] := by simp [vals]
  rw [e, List.length_append]
  exact h
/-- a list without a number -/
def dropL (l : List Int) (k : Int) : List Int := l.filter fun x => !decide (x = k)
theorem dropL_snoc (l : List Int) (x k : Int) : dropL (l ++ [x]) k = if x = k then dropL l k else dropL l k ++ [x] := by
  unfold dropL
  rw [List.filter_append]
  by_cases h : x = k <;> simp [h]
theorem dropL_len (l : List Int) (k : Int) : (dropL l k).length ≤ l.length := List.length_filter_le _ _
/-- what a list without a number is, in a set -/
theorem dropL_pos {s : List Nat} (h : s.Pairwise (· < ·)) {k : Nat} (hk : k ∈ s) : dropL (nats s) k = (nats s).take (posL s k) ++ (nats s).drop (posL s k + 1) ∧ posL s k < s.length := by
  induction s with
  | nil => simp at hk
  | cons y r ih =>
    have hy := List.pairwise_cons.1 h
    by_cases hyk : y < k
    · have e : posL (y :: r) k = posL r k + 1 := by simp [posL, hyk]
      have hk' : k ∈ r := by rcases List.mem_cons.1 hk with e | e; · omega
                             · exact e
      obtain ⟨h1, h2⟩ := ih hy.2 hk'
      rw [e]
      refine ⟨?_, by simp; omega⟩
      have hne : ¬ ((y : Int) = (k : Int)) := by omega
      simp only [nats, List.map_cons, dropL, List.filter_cons, hne, decide_false, Bool.not_false, if_true, List.take_succ_cons, List.drop_succ_cons, List.cons_append]
      congr 1
    · have e0 : y = k := by rcases List.mem_cons.1 hk with e | e; · exact e.symm
                            · have := hy.1 k e; omega
      subst e0
      have e : posL (y :: r) y = 0 := by
        simp only [posL, List.countP_eq_zero]
        intro x hx
        rcases List.mem_cons.1 hx with e | e
        · simp; omega
        · have := hy.1 x e; simp; omega
      rw [e]
      refine ⟨?_, by simp⟩
      simp only [nats, List.map_cons, dropL, List.filter_cons, decide_true, Bool.not_true, Bool.false_eq_true, if_false, List.take_zero, List.nil_append, Nat.zero_add, List.drop_succ_cons, List.drop_zero]
      rw [List.filter_eq_self]
      intro x hx
      obtain ⟨z, hz, rfl⟩ := List.mem_map.1 hx
      have := hy.1 z hz
      simp; omega
end

section
open Go.RowKit
set_option linter.unusedVariables false
set_option linter.unusedSimpArgs false
set_option maxRecDepth 100000

/-- the model's way: each number is put to its place -/
def setL (s : List Nat) : List Nat := s.foldl putL []
theorem setL_snoc (s : List Nat) (x : Nat) : setL (s ++ [x]) = putL (setL s) x := by unfold setL; rw [List.foldl_append]; rfl
theorem foldl_put (s t : List Nat) (ht : t.Pairwise (· < ·)) : (s.foldl putL t).Pairwise (· < ·) ∧ ∀ x, x ∈ s.foldl putL t ↔ x ∈ t ∨ x ∈ s := by
  induction s generalizing t with
  | nil => exact ⟨ht, by simp⟩
  | cons y r ih =>
    obtain ⟨h1, h2⟩ := ih (putL t y) (putL_rising ht y)
    refine ⟨h1, fun x => ?_⟩
    rw [List.foldl_cons, h2, putL_mem, List.mem_cons]
    constructor
    · rintro ((h | h) | h)
      · exact .inr (.inl h)
      · exact .inl h
      · exact .inr (.inr h)
    · rintro (h | h | h)
      · exact .inl (.inr h)
      · exact .inl (.inl h)
      · exact .inr h
theorem setL_rising (s : List Nat) : (setL s).Pairwise (· < ·) := (foldl_put s [] List.Pairwise.nil).1
theorem setL_mem (s : List Nat) (x : Nat) : x ∈ setL s ↔ x ∈ s := by
  have := (foldl_put s [] List.Pairwise.nil).2 x
  simpa [setL] using this
theorem setL_len (s : List Nat) : (setL s).length ≤ s.length := by
  have : ∀ t : List Nat, (s.foldl putL t).length ≤ t.length + s.length := by
    induction s with
    | nil => intro t; simp
    | cons y r ih =>
      intro t
      have h1 := ih (putL t y)
      have h2 := putL_len t y
      simp only [List.foldl_cons, List.length_cons]
      omega
  simpa [setL] using this []
theorem rising_int {l m : List Int} (hl : l.Pairwise (· < ·)) (hm : m.Pairwise (· < ·)) (h : ∀ k, k ∈ l ↔ k ∈ m) : l = m := by
  induction l generalizing m with
  | nil =>
    cases m with
    | nil => rfl
    | cons y r => exact absurd ((h y).2 (by simp)) (by simp)
  | cons x l ih =>
    cases m with
    | nil => exact absurd ((h x).1 (by simp)) (by simp)
    | cons y m =>
      have hx := List.pairwise_cons.1 hl
      have hy := List.pairwise_cons.1 hm
      have hxy : x = y := by
        rcases List.mem_cons.1 ((h x).1 (by simp)) with e | e
        · exact e
        · rcases List.mem_cons.1 ((h y).2 (by simp)) with e' | e'
          · exact e'.symm
          · have := hy.1 x e; have := hx.1 y e'; omega
      subst hxy
      rw [ih hx.2 hy.2 (fun k => ?_)]
      constructor
      · intro hk
        rcases List.mem_cons.1 ((h k).1 (by simp [hk])) with e | e
        · have := hx.1 k hk; omega
        · exact e
      · intro hk
        rcases List.mem_cons.1 ((h k).2 (by simp [hk])) with e | e
        · have := hy.1 k hk; omega
        · exact e
theorem compact_upto (zs : List Int) (hs : zs.Pairwise (· ≤ ·)) (m : Nat) (hm : m ≤ zs.length) : (Lib.compactUpTo zs.toArray m).Pairwise (· < ·) ∧ ∀ x, x ∈ Lib.compactUpTo zs.toArray m ↔ ∃ j, j < m ∧ zs[j]? = some x := by
  have hle : ∀ i j (hi : i < zs.length) (hj : j < zs.length), i ≤ j → zs[i] ≤ zs[j] := fun i j hi hj hij => by
    rcases Nat.lt_or_ge i j with h | h
    · exact List.pairwise_iff_getElem.1 hs i j hi hj h
    · obtain rfl : i = j := by omega
      exact Int.le_refl _
  induction m with
  | zero => exact ⟨by simp [Lib.compactUpTo], by simp [Lib.compactUpTo]⟩
  | succ m ih =>
    obtain ⟨h1, h2⟩ := ih (by omega)
    have hd : zs.toArray[m]! = zs[m] := by rw [getElem!_pos _ m (by simp; omega)]; simp
    rw [Lib.compactUpTo_succ, hd]
    by_cases hk : Lib.keeps zs.toArray m = true
    · rw [if_pos hk]
      refine ⟨List.pairwise_append.2 ⟨h1, by simp, fun a ha b hb => ?_⟩, fun x => ?_⟩
      · simp at hb; subst hb
        obtain ⟨j, hj, hja⟩ := (h2 a).1 ha
        obtain ⟨hjl, rfl⟩ := List.getElem?_eq_some_iff.1 hja
        have hne : zs[m] ≠ zs[m - 1] := by
          intro e
          have := Lib.keeps_neg (d := zs.toArray) (m := m) (by omega) (by rw [hd, getElem!_pos _ (m - 1) (by simp; omega)]; simpa using e)
          rw [this] at hk; cases hk
        have a1 := hle j (m - 1) hjl (by omega) (by omega)
        have a2 := hle (m - 1) m (by omega) (by omega) (by omega)
        omega
      · rw [List.mem_append, h2]
        constructor
        · rintro (⟨j, hj, hx⟩ | hx)
          · exact ⟨j, by omega, hx⟩
          · simp at hx; subst hx; exact ⟨m, by omega, List.getElem?_eq_getElem (by omega)⟩
        · rintro ⟨j, hj, hx⟩
          rcases Nat.lt_or_ge j m with h | h
          · exact .inl ⟨j, h, hx⟩
          · obtain rfl : j = m := by omega
            right
            rw [List.getElem?_eq_getElem (by omega)] at hx
            simpa using (Option.some.inj hx).symm
    · rw [if_neg hk, List.append_nil]
      refine ⟨h1, fun x => ?_⟩
      rw [h2]
      constructor
      · rintro ⟨j, hj, hx⟩; exact ⟨j, by omega, hx⟩
      · rintro ⟨j, hj, hx⟩
        rcases Nat.lt_or_ge j m with h | h
        · exact ⟨j, h, hx⟩
        · obtain rfl : j = m := by omega
          have hm0 : 0 < j := by
            rcases Nat.eq_zero_or_pos j with h0 | h0
            · subst h0; exact absurd (Lib.keeps_lt_one zs.toArray 0 (by omega)) hk
            · exact h0
          have he : zs[j] = zs[j - 1] := Classical.byContradiction fun hne => hk (Lib.keeps_pos (by rw [hd, getElem!_pos _ (j - 1) (by simp; omega)]; simpa using hne))
          refine ⟨j - 1, by omega, ?_⟩
          rw [List.getElem?_eq_getElem (by omega)] at hx ⊢
          rw [← he]; exact hx
theorem compact_rising (zs : List Int) (hs : zs.Pairwise (· ≤ ·)) : (Lib.compact zs).Pairwise (· < ·) ∧ ∀ x, x ∈ Lib.compact zs ↔ x ∈ zs := by
  obtain ⟨h1, h2⟩ := compact_upto zs hs zs.length (Nat.le_refl _)
  refine ⟨h1, fun x => ?_⟩
  rw [show Lib.compact zs = Lib.compactUpTo zs.toArray zs.length from rfl, h2, List.mem_iff_getElem?]
  constructor
  · rintro ⟨j, _, hx⟩; exact ⟨j, hx⟩
  · rintro ⟨j, hx⟩; exact ⟨j, (List.getElem?_eq_some_iff.1 hx).1, hx⟩
def sortI (zs : List Int) : List Int := zs.mergeSort fun x y => decide (x ≤ y)
theorem sortI_sorted (zs : List Int) : (sortI zs).Pairwise (· ≤ ·) := by
  have := List.pairwise_mergeSort (le := fun (x y : Int) => decide (x ≤ y)) (fun a b c h1 h2 => by simp at *; omega) (fun a b => by simp; omega) zs
  exact this.imp fun h => by simpa using h
theorem sortI_mem (zs : List Int) (x : Int) : x ∈ sortI zs ↔ x ∈ zs := by unfold sortI; exact List.mem_mergeSort
theorem sortI_len (zs : List Int) : (sortI zs).length = zs.length := by unfold sortI; exact List.length_mergeSort _
theorem nats_lt {s : List Nat} (h : s.Pairwise (· < ·)) : (nats s).Pairwise (· < ·) := by
  rw [nats, List.pairwise_map]
  exact h.imp fun h => by omega
/-- both ways come to one list -/
theorem set_eq (s : List Nat) : Lib.compact (sortI (nats s)) = nats (setL s) := by
  obtain ⟨h1, h2⟩ := compact_rising _ (sortI_sorted (nats s))
  refine rising_int h1 (nats_lt (setL_rising s)) fun x => ?_
  rw [h2, sortI_mem]
  constructor
  · intro h
    obtain ⟨n, rfl, hn⟩ := nats_mem' h
    exact nats_mem.2 ((setL_mem s n).2 hn)
  · intro h
    obtain ⟨n, rfl, hn⟩ := nats_mem' h
    exact nats_mem.2 ((setL_mem s n).1 hn)
/-- a row is sorted -/
theorem sort_own (B : Nat) (v : Value) (zs : List Int) (w : World) (hl : zs.length ≤ 1000) (h : w.ownsRow B 3 1 v zs.length (ints zs)) :
    Calls Try.prog 65 #[v] w fun e w' => e = .returned (.tuple #[]) ∧ w'.ownsRow B 3 1 v zs.length (ints (sortI zs)) ∧ w.grownBy w' v.ownBlock := by
  rcases h.2 with ⟨rfl, h0⟩ | ⟨g, cap, cur, rfl, hBg, hg, hn, hm, hsz, htk⟩
  · have : zs = [] := List.eq_nil_of_length_eq_zero h0
    subst this
    refine (Try.slices_Sort_int_none none 0 w).mono ?_
    rintro e w' ⟨rfl, rfl⟩
    exact ⟨rfl, by simpa [sortI] using h, World.grownBy.refl _ _⟩
  · have hH := Lib.holds_of_ints (w := w) (b := g) (off := 0) (zs := zs) (n := zs.length) (Nat.le_refl _) (fun j hj => by rw [Nat.zero_add]; exact rowT_at h rfl (by simp [ints, hj, List.getD])) (fun j hj => by rw [Nat.zero_add]; exact h.frozenAt j)
    rw [List.take_of_length_le (Nat.le_refl _)] at hH
    refine (Try.slices_Sort_int g 0 cap zs w hH (h.lt g rfl).2 (by omega)).mono ?_
    rintro e w' ⟨rfl, q, os, rfl⟩
    have hp := Lib.putRow_eq_setCells (Value.int .i64) w g 0 zs.toArray (sortI zs) q hH (by simp [sortI_len])
    obtain ⟨h1, h2⟩ := own_setCells (ints (sortI zs)) (w.drewN q) 0 (ints zs) h (by simp [ints, sortI_len])
    have e1 : (ints zs).drop (0 + (ints (sortI zs)).length) = [] := List.drop_of_length_le (by simp [ints, sortI_len])
    rw [e1, List.take_zero, List.nil_append, List.append_nil] at h1
    have hb : Below ((w.drewN q).setCells g 0 (ints (sortI zs))).heap.size ((w.drewN q).setCells g 0 (ints (sortI zs))) (Go.Sort.grow ((w.drewN q).setCells g 0 (ints (sortI zs))) os) :=
      ⟨rfl, rfl, rfl, by simp [Go.Sort.grow], fun k hk => by simp only [Go.Sort.grow]; rw [Array.getElem?_append_left hk]⟩
    have hp' : Go.Sort.putRow (Value.int .i64) (Go.Sort.ahead w q) g 0 (zs.mergeSort fun x y => decide (x ≤ y)).toArray = (w.drewN q).setCells g 0 (ints (sortI zs)) := hp
    rw [hp']
    exact ⟨rfl, owns_below h1 hb, ((show w.grownBy (w.drewN q) (some g) from grownBy_of_below (below_drewN (Below.refl _ _) q) _).trans h2).trans (grownBy_of_below hb _)⟩
/-- a row is made to have each number once -/
theorem compact_own (B : Nat) (v : Value) (zs : List Int) (w : World) (hl : zs.length ≤ 1000) (h : w.ownsRow B 3 1 v zs.length (ints zs)) :
    Calls Try.prog 66 #[v] w fun e w' => ∃ va vc, e = .returned (.slice va (Lib.compact zs).length vc) ∧ w'.ownsRow B 3 1 (.slice va (Lib.compact zs).length vc) (Lib.compact zs).length (ints (Lib.compact zs)) ∧ w.grownBy w' v.ownBlock := by
  rcases h.2 with ⟨rfl, h0⟩ | ⟨g, cap, cur, rfl, hBg, hg, hn, hm, hsz, htk⟩
  · have : zs = [] := List.eq_nil_of_length_eq_zero h0
    subst this
    refine (Try.slices_Compact_int_empty none 0 w).mono ?_
    rintro e w' ⟨rfl, rfl⟩
    exact ⟨none, 0, by simp [Lib.compact, Lib.compactUpTo], by simpa [Lib.compact, Lib.compactUpTo] using h, World.grownBy.refl _ _⟩
  · refine (Try.slices_Compact_int_cells g 0 zs.length cap zs w (Nat.le_refl _) (by omega) hn (fun j hj => by rw [Nat.zero_add]; exact rowT_at h rfl (by simp [ints, hj, List.getD])) (fun j hj => by rw [Nat.zero_add]; exact h.frozenAt j)).mono ?_
    rintro e w' ⟨rfl, q, rfl⟩
    rw [List.take_of_length_le (Nat.le_refl _)]
    have hle := Lib.compact_length_le zs
    obtain ⟨L, hL⟩ : ∃ L, L = Lib.compact zs := ⟨_, rfl⟩
    rw [← hL] at hle ⊢
    have e0 : ((L ++ List.replicate (zs.length - L.length) 0).map (Value.int .i64)) = ints L ++ ints (List.replicate (zs.length - L.length) 0) := by simp [ints]
    rw [e0]
    have hl2 : (ints L ++ ints (List.replicate (zs.length - L.length) 0)).length = zs.length := by simp [ints]; omega
    obtain ⟨h1, h2⟩ := own_setCells (ints L ++ ints (List.replicate (zs.length - L.length) 0)) (w.drewN q) 0 (ints zs) h (by omega)
    have e1 : (ints zs).drop (0 + (ints L ++ ints (List.replicate (zs.length - L.length) 0)).length) = [] := List.drop_of_length_le (by rw [hl2]; simp [ints])
    rw [e1, List.take_zero, List.nil_append, List.append_nil] at h1
    refine ⟨_, _, rfl, ?_, (show w.grownBy (w.drewN q) (some g) from grownBy_of_below (below_drewN (Below.refl _ _) q) _).trans h2⟩
    have h3 := own_cut h1 (m := L.length) hle
    have e3 : (ints L ++ ints (List.replicate (zs.length - L.length) 0)).take L.length = ints L := by
      rw [List.take_append_of_le_length (by simp [ints]), List.take_of_length_le (by simp [ints])]
    first
      | (rw [e3] at h3; exact h3)
      | (rw [Nat.mul_one, e3] at h3; exact h3)
set_option maxHeartbeats 1000000 in
/-- the program's set of a list -/
theorem setOf_any (a : Option Addr) (c : Nat) (s : List Nat) (w : World) (hl : s.length ≤ 1000) (h : Row w a (nats s)) :
    Calls Try.prog 47 #[.slice a s.length c] w fun e w' => ∃ va vc, e = .returned (.agg #[.slice va (setL s).length vc]) ∧ w'.ownsRow w.heap.size 3 1 (.slice va (setL s).length vc) (setL s).length (ints (nats (setL s))) ∧ Below w.heap.size w w' := by
  have b0 := below1 w (.cells #[.slice none 0 0] 74)
  have z0 : (w.alloc (.cells #[.slice none 0 0] 74)).heap.size = w.heap.size + 1 := by simp
  have x0 : (w.alloc (.cells #[.slice none 0 0] 74)).cell? ⟨w.heap.size, 0, none⟩ = some (.slice none 0 0) := by simp [go_sem]
  have f0 : (w.alloc (.cells #[.slice none 0 0] 74)).frozen? ⟨w.heap.size, 0, none⟩ = false := by simp [go_sem]
  have HS0 : Hid (Sep (w.alloc (.cells #[.slice none 0 0] 74)) (w.alloc (.cells #[.slice none 0 0] 74)).heap.size ([] ++ ⟨3, 1, .slice none 0 0, 0, []⟩ :: [])) := sep_one (World.ownsRow_nil _ _ _ _)
  have HN0 := hid (News.ints (h.below b0))
  rw [nats_length] at HN0
  clear h
  go_enter Try.func47, Try.ntmps47
  go_wp2_with (at_builtin; refine wpList_append_sep eltInt rfl _ _ rfl (w.alloc (.cells #[.slice none 0 0] 74)).heap.size [] HS0.out rfl HN0.out rfl (by omega) (Nat.le_refl _) ?_)
  intro va vc w1 hs1 hb1' hg1
  have hb1 : Below (w.heap.size + 1) (w.alloc (.cells #[.slice none 0 0] 74)) w1 := by first | exact hb1' | (rw [← z0]; exact hb1')
  have ho1 : w1.ownsRow (w.heap.size + 1) 3 1 (.slice va s.length vc) s.length (ints (nats s)) := by have := one_sep (l2 := []) (by simpa using hs1); first | exact this | (rw [← z0]; exact this)
  have x1 : w1.cell? ⟨w.heap.size, 0, none⟩ = some (.slice none 0 0) := by rw [hb1.cell (p := ⟨w.heap.size, 0, none⟩) (by show w.heap.size < _; omega)]; exact x0
  have f1 : w1.frozen? ⟨w.heap.size, 0, none⟩ = false := by rw [hb1.frozen (p := ⟨w.heap.size, 0, none⟩) (by show w.heap.size < _; omega)]; exact f0
  have HB1 := hid (b0.trans (hb1.mono (by omega)))
  have z1 : w.heap.size + 1 ≤ w1.heap.size := by have := hb1.size; omega
  have HSO := hid (sort_own (w.heap.size + 1) (.slice va s.length vc) (nats s) w1 (by rw [nats_length]; exact hl) (by rw [nats_length]; exact ho1))
  have HGE : Hid (∀ j, (Value.slice va s.length vc).ownBlock = some j → w.heap.size + 1 ≤ j) := fun j hj => (ho1.lt j hj).1
  clear hs1 hb1 hb1' hg1 ho1 x0 f0 b0 HS0 HN0
  go_wp2_with fail
  refine HSO.out.mono ?_
  rintro e w2 ⟨rfl, ho2, hg2⟩
  have hbw : Below (w.heap.size + 1) w1 w2 := (Below.refl _ w1).grown hg2 z1 (fun j hj => HGE.out j hj)
  have x2 : w2.cell? ⟨w.heap.size, 0, none⟩ = some (.slice none 0 0) := by rw [hbw.cell (p := ⟨w.heap.size, 0, none⟩) (by show w.heap.size < _; omega)]; exact x1
  have f2 : w2.frozen? ⟨w.heap.size, 0, none⟩ = false := by rw [hbw.frozen (p := ⟨w.heap.size, 0, none⟩) (by show w.heap.size < _; omega)]; exact f1
  have z2 : w.heap.size + 1 ≤ w2.heap.size := Nat.le_trans z1 hbw.size
  have HB2 := hid (HB1.out.trans (hbw.mono (by omega)))
  have HCO : Hid (Calls Try.prog 66 #[.slice va s.length vc] w2 fun e w' => ∃ va vc', e = .returned (.slice va (setL s).length vc') ∧ w'.ownsRow (w.heap.size + 1) 3 1 (.slice va (setL s).length vc') (setL s).length (ints (nats (setL s))) ∧ Below (w.heap.size + 1) w2 w') := by
    have h1 : w2.ownsRow (w.heap.size + 1) 3 1 (.slice va s.length vc) (sortI (nats s)).length (ints (sortI (nats s))) := by rw [sortI_len]; exact ho2
    refine (compact_own (w.heap.size + 1) (.slice va s.length vc) (sortI (nats s)) w2 (by rw [sortI_len, nats_length]; exact hl) h1).mono ?_
    rintro e w' ⟨va', vc', rfl, h2, h3⟩
    rw [set_eq, nats_length] at h2 ⊢
    exact ⟨va', vc', rfl, h2, (Below.refl _ w2).grown h3 z2 (fun j hj => HGE.out j hj)⟩
  clear ho2 hg2 hbw x1 f1 HSO
  go_wp2_with fail
  refine HCO.out.mono ?_
  rintro e w3 ⟨va3, vc3, rfl, ho3, hb3⟩
  have x3 : w3.cell? ⟨w.heap.size, 0, none⟩ = some (.slice none 0 0) := by rw [hb3.cell (p := ⟨w.heap.size, 0, none⟩) (by show w.heap.size < _; omega)]; exact x2
  have f3 : w3.frozen? ⟨w.heap.size, 0, none⟩ = false := by rw [hb3.frozen (p := ⟨w.heap.size, 0, none⟩) (by show w.heap.size < _; omega)]; exact f2
  have H3 := hid (And.intro ho3 (HB2.out.trans (hb3.mono (by omega))))
  clear ho3 hb3 x2 f2 HCO
  go_wp2
  refine bodyPost_ret (v := .agg #[.slice va3 (setL s).length vc3]) (by simp [results, Try.results47, go_sem, *]) rfl ⟨va3, vc3, rfl, ?_, ?_⟩
  · exact owns_mono (ownsRow_setCell_below H3.out.1 (by show w.heap.size < w.heap.size + 1; omega) _) (by omega)
  · exact H3.out.2.setCell (Nat.le_refl _) _
set_option maxHeartbeats 1000000 in
/-- the program's list of a set -/
theorem list_any (a : Option Addr) (c : Nat) (s : List Nat) (w : World) (hl : s.length ≤ 1000) (h : Row w a (nats s)) :
    Calls Try.prog 50 #[.agg #[.slice a s.length c]] w fun e w' => ∃ va vc, e = .returned (.slice va s.length vc) ∧ w'.ownsRow w.heap.size 3 1 (.slice va s.length vc) s.length (ints (nats s)) ∧ Below w.heap.size w w' := by
  have b0 := below1 w (.cells #[.slice a s.length c] 74)
  have z0 : (w.alloc (.cells #[.slice a s.length c] 74)).heap.size = w.heap.size + 1 := by simp
  have HS0 : Hid (Sep (w.alloc (.cells #[.slice a s.length c] 74)) (w.alloc (.cells #[.slice a s.length c] 74)).heap.size ([] ++ ⟨3, 1, .slice none 0 0, 0, []⟩ :: [])) := sep_one (World.ownsRow_nil _ _ _ _)
  have HN0 := hid (News.ints (h.below b0))
  rw [nats_length] at HN0
  have HB0 := hid b0
  clear h b0
  go_enter Try.func50, Try.ntmps50
  go_wp2_with (at_builtin; refine wpList_append_sep eltInt rfl _ _ rfl (w.alloc (.cells #[.slice a s.length c] 74)).heap.size [] HS0.out rfl HN0.out rfl (by omega) (Nat.le_refl _) ?_)
  intro va vc w1 hs1 hb1' hg1
  have hb1 : Below (w.heap.size + 1) (w.alloc (.cells #[.slice a s.length c] 74)) w1 := by first | exact hb1' | (rw [← z0]; exact hb1')
  have ho1 : w1.ownsRow (w.heap.size + 1) 3 1 (.slice va s.length vc) s.length (ints (nats s)) := by have := one_sep (l2 := []) (by simpa using hs1); first | exact this | (rw [← z0]; exact this)
  have H1 := hid (And.intro ho1 (HB0.out.trans (hb1.mono (by omega))))
  clear hs1 hb1 hb1' hg1 ho1 HS0 HN0
  go_wp2
  go_ret
  exact ⟨va, vc, rfl, owns_mono H1.out.1 (by omega), H1.out.2⟩
end
end Go.Proofs.Ytiaiaejijicddaa
