/- Rows that are written; lists of lists that grow; what an answer with a graph is. -/
import Derived.Test.YtjnlhffmahfekaaDoorGraph1
import Derived.Test.YtjnlhffmahfekaaDoorGood7
import Derived.Deep.RegionLaw
import Derived.Deep.RegionHeldLaw
namespace Go.Proofs.YtjnlhffmahfekaaDoor
open Go.RowKit
set_option linter.unusedVariables false
set_option linter.unusedSimpArgs false
set_option maxRecDepth 100000
/-- a row with one of its spare cells -/
theorem own_more {w : World} {B g n c : Nat} {xs : List Value} (h : w.ownsRow B 3 1 (.slice (some ⟨g, 0, none⟩) n c) n xs) (hc : n + 1 ≤ c) : ∃ u, w.ownsRow B 3 1 (.slice (some ⟨g, 0, none⟩) (n + 1) c) (n + 1) (xs ++ [u]) := by
  rcases h.2 with ⟨h0, _⟩ | ⟨g', cap, cur, hv, hB, hg, hn, hm, hsz, htk⟩
  · cases h0
  · cases hv
    have hlt : n < cur.toList.length := by simp; omega
    refine ⟨cur.toList[n], ?_, .inr ⟨g, c, cur, rfl, hB, hg, hc, hm, hsz, ?_⟩⟩
    · have := h.1; simp; omega
    · rw [Nat.mul_one] at htk ⊢
      rw [List.take_add_one, htk, List.getElem?_eq_getElem hlt]
      rfl
/-- cells of a row are written, one after the other -/
theorem own_setCells {B g c n : Nat} (vs : List Value) : ∀ (w : World) (o : Nat) (xs : List Value), w.ownsRow B 3 1 (.slice (some ⟨g, 0, none⟩) n c) n xs → o + vs.length ≤ n → (w.setCells g o vs).ownsRow B 3 1 (.slice (some ⟨g, 0, none⟩) n c) n (xs.take o ++ vs ++ xs.drop (o + vs.length)) ∧ w.grownBy (w.setCells g o vs) (some g) := by
  induction vs with
  | nil => intro w o xs h ho; exact ⟨by simpa [World.setCells] using h, World.grownBy.refl _ _⟩
  | cons v r ih =>
    intro w o xs h ho
    simp at ho
    have h1 := World.ownsRow.stored h o v
    obtain ⟨h2, h3⟩ := ih (w.setCell ⟨g, o, none⟩ v) (o + 1) _ h1.1 (by omega)
    have hl : xs.length = n := by have := h.1; omega
    refine ⟨?_, h1.2.trans h3⟩
    have e : (xs.set o v).take (o + 1) ++ r ++ (xs.set o v).drop (o + 1 + r.length) = xs.take o ++ v :: r ++ xs.drop (o + (v :: r).length) := by
      rw [take_set_succ _ _ _ (by omega), List.drop_set_of_lt (by omega), show o + (v :: r).length = o + 1 + r.length by simp; omega]
      simp
    rw [e] at h2
    exact h2
theorem own_alloc (w : World) (arr : Array Value) (n cap : Nat) (hc : arr.size = cap) (hn : n ≤ cap) (hm : cap ≤ maxLen) : (w.alloc (.cells arr 3)).ownsRow w.heap.size 3 1 (.slice (some ⟨w.heap.size, 0, none⟩) n cap) n (arr.toList.take n) :=
  ⟨by simp; omega, .inr ⟨w.heap.size, cap, arr, rfl, Nat.le_refl _, heap_alloc_new _ _, hn, hm, by omega, by rw [Nat.mul_one]⟩⟩
theorem ints_len (s : List Nat) : (ints (nats s)).length = s.length := by simp [ints, nats]
theorem eltLists : Elt 24 38 1 24 := by
  obtain ⟨i0, hi, hz0, hz1, hz2⟩ := info_parts info40
  exact ⟨i0, .slice none 0 0, Tryd.underlying24, hi, hz0, hz1, hz2, by simp [Value.cells], by omega, by omega⟩
theorem step_append_sep {T e : TypeId} {size bytes : Nat} (E : Elt T e size bytes) {w : World} {ops : Array Oper} {o : Oper} {a : Act} {K : Act → World → Prop} {Q : Exit → Act → World → Prop} {F : Prop} (hgd : o.guard = none) (s x : Operand)
    (ho : o.op = .call { callee := .builtin .append, args := #[s, x], argTypes := #[T, T] })
    (B : Nat) (l1 : List OR) {v : Value} {n : Nat} {xs : List Value} {l2 : List OR} (h : Sep w B (l1 ++ ⟨e, size, v, n, xs⟩ :: l2)) (hs : a.eval s = v) {ad : Option Addr} {m c : Nat} {news : List Value} (hn : News w ad m size news) (hx : a.eval x = .slice ad m c) (hb : n + m ≤ 4000000) (hB : B ≤ w.heap.size)
    (k : ∀ va vc w', Sep w' B (l1 ++ ⟨e, size, .slice va (n + m) vc, n + m, xs ++ news⟩ :: l2) → Below B w w' → w.grownBy w' v.ownBlock → K (a.put o.dst (.slice va (n + m) vc)) w') :
    if Region.wanted o (yielded ops a.tmps) = true then Oper.wp Tryd.prog o a w K Q else F := by
  have hw : Region.wanted o (yielded ops a.tmps) = true := by simp [Region.wanted, hgd]
  rw [if_pos hw]
  exact wp_append_sep E s x ho B l1 h hs hn hx hb hB k
theorem own_new0 (w : World) (nb : Nat) (hnb : w.heap.size = nb) : (w.alloc (.cells #[] 3)).ownsRow nb 3 1 (.slice (some ⟨nb, 0, none⟩) 0 0) 0 [] := by
  subst hnb
  exact ⟨rfl, .inr ⟨w.heap.size, 0, #[], rfl, Nat.le_refl _, heap_alloc_new _ _, by omega, by unfold maxLen; omega, by simp, by simp⟩⟩
/-- lists that were made so far, behind other rows -/
def Made (w : World) (B : Nat) (pre : List OR) (ov : Value) (ys : List LV) : Prop := Sep w B (pre ++ ⟨38, 1, ov, ys.length, vals ys⟩ :: ys.map rowL)
theorem Made.below {w w' : World} {B : Nat} {pre : List OR} {ov : Value} {ys : List LV} (h : Made w B pre ov ys) (hb : Below w.heap.size w w') : Made w' B pre ov ys := Sep.below h hb
/-- a new list lies there -/
theorem Made.with {w w' : World} {B : Nat} {pre : List OR} {ov : Value} {ys : List LV} (h : Made w B pre ov ys) (hb : Below w.heap.size w w') (hB : B ≤ w.heap.size) (y : LV) (hy : w'.ownsRow w.heap.size 3 1 y.v y.r.length (ints y.r)) : Sep w' B (pre ++ ⟨38, 1, ov, ys.length, vals ys⟩ :: (ys ++ [y]).map rowL) := by
  have := Sep.append h hb hB (m := [rowL y]) ⟨by intro x hx; simp at hx; subst hx; exact hy, by simp⟩
  simpa using this
theorem Made.grown {w : World} {B n : Nat} {pre : List OR} {va : Option Addr} {vc : Nat} {ys : List LV} {y : LV} (h : Sep w B (pre ++ ⟨38, 1, .slice va (ys.length + 1) vc, ys.length + 1, vals ys ++ [y.v]⟩ :: (ys ++ [y]).map rowL)) : Made w B pre (.slice va (ys.length + 1) vc) (ys ++ [y]) := by
  unfold Made
  have e : vals (ys ++ [y]) = vals ys ++ [y.v] := by simp [vals]
  rw [e, List.length_append]
  exact h
theorem own_lrow {w : World} {B n c : Nat} {a : Option Addr} {ys : List LV} {yy : List (List Int)} (h : OwnL w B (.slice a n c) ys) (hy : lists ys = yy) : LRow w a yy := by
  obtain ⟨a', c', e, r⟩ := h.row
  injection e with e1 e2 e3
  rw [e1, ← hy]; exact r
/-- what an answer with a graph is -/
def GAns (e : Ending) (w w' : World) (yy : List (List Int)) (G : Bool) : Prop := ∃ va vc ys, e = .returned (.tuple #[.agg #[.slice va yy.length vc], .bool G]) ∧ OwnL w' w.heap.size (.slice va yy.length vc) ys ∧ lists ys = yy ∧ Below w.heap.size w w'
theorem gans_of {e : Ending} {w w' : World} {yy : List (List Int)} {G : Bool} {v : Value} {ys : List LV} (he : e = .returned (.tuple #[.agg #[v], .bool G])) (ho : OwnL w' w.heap.size v ys) (hy : lists ys = yy) (hb : Below w.heap.size w w') : GAns e w w' yy G := by
  obtain ⟨a, c, rfl, _⟩ := ho.row
  rw [hy] at he ho
  exact ⟨a, c, ys, he, ho, hy, hb⟩
theorem own_none (w : World) (B : Nat) : OwnL w B (.slice none 0 0) [] := ⟨by intro x hx; simp [rowsL, vals] at hx; subst hx; exact World.ownsRow_nil _ _ _ _, by simp [rowsL]⟩
theorem gans_none {e : Ending} {w w' : World} (he : e = .returned (.tuple #[.agg #[.slice none 0 0], .bool false])) (hb : Below w.heap.size w w') : GAns e w w' [] false := ⟨none, 0, [], he, own_none _ _, rfl, hb⟩
theorem sum_good {xs : List (List Int)} {n m : Nat} (hn : xs.length ≤ n) (hm : ∀ l ∈ xs, l.length ≤ m) : sumL xs ≤ n * m := by
  have : sumL xs ≤ xs.length * m := by
    clear hn
    induction xs with
    | nil => simp [sumL]
    | cons x r ih =>
      have h1 := ih fun l hl => hm l (List.mem_cons_of_mem _ hl)
      have h2 := hm x (by simp)
      have e : sumL (x :: r) = x.length + sumL r := by simp [sumL]
      rw [e, List.length_cons, Nat.succ_mul]
      omega
  exact Nat.le_trans this (Nat.mul_le_mul_right _ hn)
theorem Marked.cell {ys : List LV} {w w' : World} (h : Marked ys w w') {k j : Nat} {u : Value} (hu : w.cell? ⟨k, j, none⟩ = some u) (hn : ∀ y ∈ ys, y.v.ownBlock ≠ some k) : w'.cell? ⟨k, j, none⟩ = some u := by
  rw [World.cell?_of_block (a := ⟨k, j, none⟩) (h.1 k (World.block_lt_of_cell? w _ hu) hn)]; exact hu
theorem good_len {xs : List (List Int)} (h : GoodG xs) {i : Nat} {l : List Int} (hl : xs[i]? = some l) : l.length ≤ 12 := by
  obtain ⟨ks, rfl, hr, hb⟩ := (h.1 i l hl).nats
  have := Seen.len (N := xs.length) ⟨hr, hb⟩
  have := h.2.2
  rw [nats_length]; omega
end Go.Proofs.YtjnlhffmahfekaaDoor
