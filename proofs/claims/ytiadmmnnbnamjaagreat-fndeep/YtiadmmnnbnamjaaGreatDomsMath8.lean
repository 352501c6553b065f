/- What the rounds of the program's sets of dominators come to, as plain lists. -/
import Derived.Test.YtiadmmnnbnamjaaGreatMarks8
namespace Go.Proofs.YtiadmmnnbnamjaaGreat
open Go Go.RowKit Go.Shelf
set_option linter.unusedVariables false
set_option maxRecDepth 100000

theorem OwnB.fresh {W W' : World} {B bx s n c : Nat} {ys : List LV} (h : OwnB W B bx (.slice (some ⟨s, 0, none⟩) n c) ys) (hb : Below W.heap.size W W') (hB : B ≤ W.heap.size) (hn : ys.length = n) {j : Nat} {y : LV} (hy : ys[j]? = some y) {v : Value} {r : List Nat} (ho : W'.ownsRow W.heap.size 3 1 v r.length (ints (nats r))) : OwnB (W'.setCell ⟨s, j, none⟩ v) B bx (.slice (some ⟨s, 0, none⟩) n c) (ys.set j ⟨nats r, v⟩) := by
  refine OwnB.put (y' := ⟨nats r, v⟩) (h.below hb) hn hy (Sep.add h hb _ ?_ (fun k hk => (ho.lt k hk).1))
  show World.ownsRow _ _ _ _ _ _ _
  simp only [rowL, nats_length]
  exact owns_mono ho hB
theorem lists_len {ys : List LV} {P : List (List Nat)} (h : lists ys = natsL P) : ys.length = P.length := by
  have := congrArg List.length h
  rw [lists_length] at this
  simpa [natsL] using this
/-- all nodes are taken for dominators of the first so many -/
def Begun (g : List (List Nat)) (q : Nat) (P : List (List Nat)) : Prop := P.length = g.length ∧ ∀ (k : Nat) r, P[k]? = some r → r = if k ∈ (order7 g).take q then setL (order7 g) else []
theorem Begun.begin (g : List (List Nat)) : Begun g 0 (List.replicate g.length []) := by
  refine ⟨by simp, fun k r hr => ?_⟩
  rw [List.take_zero, if_neg (by simp)]
  exact List.eq_of_mem_replicate (List.mem_of_getElem? hr)
theorem Begun.step {g : List (List Nat)} {q x : Nat} {P : List (List Nat)} (h : Begun g q P) (hx : (order7 g)[q]? = some x) (hl : x < g.length) : Begun g (q + 1) (P.set x (setL (order7 g))) := by
  have e1 : (order7 g).take (q + 1) = (order7 g).take q ++ [x] := by rw [List.take_add_one, hx]; rfl
  refine ⟨by simp [h.1], fun k r hr => ?_⟩
  rw [e1]
  by_cases e : k = x
  · subst e
    rw [List.getElem?_set_self (by rw [h.1]; exact hl)] at hr
    rw [if_pos (by simp)]
    exact (Option.some.inj hr).symm
  · rw [List.getElem?_set_ne (fun h => e h.symm)] at hr
    rw [h.2 k r hr]
    simp [e]
theorem Begun.ub {g : List (List Nat)} (G : Gr g) {P : List (List Nat)} (h : Begun g (order7 g).length P) : UB g (P.set 0 [0]) := by
  have hp := G.pos
  have c0 : Come g 0 := .start (by omega)
  have hat : ∀ (j : Nat) s, (P.set 0 [0])[j]? = some s → (j = 0 ∧ s = [0]) ∨ (j ≠ 0 ∧ P[j]? = some s) := by
    intro j s hs
    by_cases e : j = 0
    · subst e
      rw [List.getElem?_set_self (by rw [h.1]; exact hp)] at hs
      exact .inl ⟨rfl, (Option.some.inj hs).symm⟩
    · rw [List.getElem?_set_ne (fun h => e h.symm)] at hs
      exact .inr ⟨e, hs⟩
  have hh : ∀ (k : Nat) r, P[k]? = some r → r = if k ∈ order7 g then setL (order7 g) else [] := by
    intro k r hr
    have := h.2 k r hr
    rwa [List.take_of_length_le (Nat.le_refl _)] at this
  refine ⟨by simp [h.1], fun j s hs => ?_, fun j s hs x hx => ?_, fun j s hs x hx => ?_, List.getElem?_set_self (by rw [h.1]; exact hp)⟩
  · rcases hat j s hs with ⟨rfl, rfl⟩ | ⟨_, hs⟩
    · simp
    · rw [hh j s hs]
      split
      · exact setL_rising _
      · exact List.Pairwise.nil
  · rcases hat j s hs with ⟨rfl, rfl⟩ | ⟨_, hs⟩
    · simp at hx
      subst hx
      exact ⟨c0, c0⟩
    · rw [hh j s hs] at hx
      split at hx
      · rename_i hj
        exact ⟨(order_come G x).1 ((setL_mem _ _).1 hx), (order_come G j).1 hj⟩
      · simp at hx
  · rcases hat j s hs with ⟨rfl, rfl⟩ | ⟨_, hs⟩
    · simp [hx.zero]
    · rw [hh j s hs, if_pos ((order_come G j).2 hx.1)]
      exact (setL_mem _ _).2 ((order_come G x).2 hx.2.1)
/-- what all of some sets have, and a first one -/
def meetAll (P : List (List Nat)) (r pre : List Nat) : List Nat := pre.foldl (fun s u => meetL s (P.getD u [])) r
theorem meetAll_snoc (P : List (List Nat)) (r pre : List Nat) (x : Nat) : meetAll P r (pre ++ [x]) = meetL (meetAll P r pre) (P.getD x []) := by unfold meetAll; rw [List.foldl_append]; rfl
theorem meetAll_mem (P : List (List Nat)) (r pre : List Nat) (x : Nat) : x ∈ meetAll P r pre ↔ x ∈ r ∧ ∀ u ∈ pre, x ∈ P.getD u [] := by
  induction pre generalizing r with
  | nil => simp [meetAll]
  | cons u t ih =>
    show x ∈ meetAll P (meetL r (P.getD u [])) t ↔ _
    rw [ih, mem_meetL]
    simp only [List.mem_cons, forall_eq_or_imp]
    exact ⟨fun ⟨⟨a, b⟩, c⟩ => ⟨a, b, c⟩, fun ⟨a, b, c⟩ => ⟨⟨a, b⟩, c⟩⟩
theorem meetAll_rising (P : List (List Nat)) {r : List Nat} (h : r.Pairwise (· < ·)) (pre : List Nat) : (meetAll P r pre).Pairwise (· < ·) := by
  induction pre generalizing r with
  | nil => exact h
  | cons u t ih => exact ih (meetL_rising h)
theorem meetAll_len (P : List (List Nat)) (r pre : List Nat) : (meetAll P r pre).length ≤ r.length := by
  induction pre generalizing r with
  | nil => exact Nat.le_refl _
  | cons u t ih => exact Nat.le_trans (ih _) (meetL_len _ _)
theorem meetAll_next {g P LP : List (List Nat)} (G : Gr g) (h : UB g P) (hl : Came g.length (edgesL g) LP) {k : Nat} {r L : List Nat} (hr : P[k]? = some r) (hL : LP[k]? = some L) : Next1 g P k r (putL (meetAll P r L) k) := by
  refine ⟨putL_rising (meetAll_rising P (h.rising k r hr) L) k, fun x => ?_⟩
  rw [putL_mem, meetAll_mem]
  constructor
  · rintro (e | ⟨h1, h2⟩)
    · exact .inr e
    · refine .inl ⟨h1, fun u s hu hs => ?_⟩
      have := h2 u (((hl.2 k L hL).2 u).2 ((edges_all G u k).2 hu))
      rwa [List.getD_eq_getElem?_getD, hs] at this
  · rintro (⟨h1, h2⟩ | e)
    · refine .inr ⟨h1, fun u hu => ?_⟩
      have hu' := (edges_all G u k).1 (((hl.2 k L hL).2 u).1 hu)
      obtain ⟨s, hs⟩ : ∃ s, P[u]? = some s := ⟨_, List.getElem?_eq_getElem (by rw [h.len]; exact RchW.lt G hu'.1)⟩
      rw [List.getD_eq_getElem?_getD, hs]
      exact h2 u s hu' hs
    · exact .inl e
theorem UB.few {g P : List (List Nat)} (G : Gr g) (h : UB g P) {k : Nat} {r : List Nat} (hr : P[k]? = some r) : r.length ≤ 12 := by
  have h8 := nodup_le (n := g.length) (rising_nodup (h.rising k r hr)) (fun x hx => RchW.lt G (h.come k r hr x hx).1)
  have := G.most
  omega
theorem came_few {g LP : List (List Nat)} (G : Gr g) (hl : Came g.length (edgesL g) LP) {k : Nat} {L : List Nat} (hL : LP[k]? = some L) : L.length ≤ 12 := by
  have h8 := nodup_le (n := g.length) (rising_nodup (hl.2 k L hL).1) (fun x hx => RchW.lt G ((edges_all G x k).1 (((hl.2 k L hL).2 x).1 hx)).1)
  have := G.most
  omega
theorem came_some {g LP : List (List Nat)} (G : Gr g) (hl : Came g.length (edgesL g) LP) {k : Nat} {L : List Nat} (hL : LP[k]? = some L) (hc : Come g k) (hk : k ≠ 0) : L ≠ [] := by
  rintro rfl
  cases hc with
  | start _ => exact hk rfl
  | @step i _ l hi hli hj _ => exact absurd (((hl.2 k [] hL).2 i).2 ((edges_all G i k).2 ⟨hi, l, hli, hj⟩)) (by simp)
/-- how much all sets of a row have, read off the memory -/
def lenAt (W : World) (s k : Nat) : Nat := match W.cell? ⟨s, k, none⟩ with | some (.slice _ n _) => n | _ => 0
def massW (W : World) (s n : Nat) : Nat := ((List.range n).map (lenAt W s)).sum
theorem mass_of {W : World} {B bx s n c : Nat} {ys : List LV} {P : List (List Nat)} (h : OwnB W B bx (.slice (some ⟨s, 0, none⟩) n c) ys) (hy : lists ys = natsL P) (hn : P.length = n) : massW W s n = mass P := by
  unfold massW mass
  congr 1
  refine List.ext_getElem? fun k => ?_
  rw [List.getElem?_map, List.getElem?_map]
  by_cases hk : k < n
  · obtain ⟨r, hr⟩ : ∃ r, P[k]? = some r := ⟨_, List.getElem?_eq_getElem (by omega)⟩
    obtain ⟨v, hv⟩ := own_of_lists hy hr
    obtain ⟨a, c', e⟩ := slice_of_owned (h.row hv)
    have hc := h.cell hv
    simp only [] at e hc
    rw [List.getElem?_range hk, hr]
    simp only [Option.map_some, lenAt, hc, e, nats_length]
  · rw [List.getElem?_eq_none (by simp; omega), List.getElem?_eq_none (by omega)]
    rfl
theorem Sep.cons {V : World} {B : Nat} {l : List OR} {y : OR} (h : Sep V B l) (hy : y.own V B) (hne : ∀ k, y.v.ownBlock = some k → ∀ x ∈ l, x.v.ownBlock ≠ some k) : Sep V B (y :: l) := by
  refine ⟨fun x hx => ?_, List.pairwise_cons.2 ⟨fun x hx => ?_, h.2⟩⟩
  · rcases List.mem_cons.1 hx with rfl | hx
    · exact hy
    · exact h.1 x hx
  · cases e : y.v.ownBlock with
    | none => exact .inl e
    | some k =>
      right
      rw [e]
      exact fun e2 => hne k e x hx e2.symm
theorem keeps_only {P : Nat → Prop} {V Z : World} (h : Only P V Z) (hc : ∀ k, P k → ∀ o, V.heap[k]? = some o → o.isCells = true) : KeepsOthers V Z :=
  ⟨h.size, fun k o hk ho => (h.block k (Array.getElem?_eq_some_iff.1 hk).1 (fun hp => by rw [hc k hp o hk] at ho; cases ho)).trans hk⟩
theorem Marks.next {n0 D : Nat} {ds : List Deferred} {X W : World} (h : Marks n0 ds X) (hb : Below X.heap.size X W) (hX : X.heap.size ≤ D) (hn : n0 ≤ D) (hD : W.heap[D]? = some (.deferred (some []))) : Marks n0 ({ target := .collected D, args := #[] } :: ds) W := by
  obtain ⟨rs, h1, h2, h3⟩ := h
  refine ⟨D :: rs, by rw [h1]; rfl, List.nodup_cons.2 ⟨fun hm => ?_, h2⟩, fun r hr => ?_⟩
  · have := (Array.getElem?_eq_some_iff.1 (h3 D hm).2).1
    omega
  · rcases List.mem_cons.1 hr with rfl | hr
    · exact ⟨hn, hD⟩
    · exact ⟨(h3 r hr).1, (hb.block r (Array.getElem?_eq_some_iff.1 (h3 r hr).2).1).trans (h3 r hr).2⟩
def meetS (Q : List (List Nat)) (r : List Nat) {n : Nat} (pre : List { u : Nat // u < n }) : List Nat := meetAll Q r (pre.map (·.1))
theorem meetS_snoc (Q : List (List Nat)) (r : List Nat) {n : Nat} (pre : List { u : Nat // u < n }) (y : { u : Nat // u < n }) {t : List Nat} (ht : Q[y.1]? = some t) : meetS Q r (pre ++ [y]) = meetL (meetS Q r pre) t := by
  unfold meetS
  rw [List.map_append]
  show meetAll Q r (_ ++ [y.1]) = _
  rw [meetAll_snoc, List.getD_eq_getElem?_getD, ht]
  rfl
theorem meetS_len (Q : List (List Nat)) (r : List Nat) {n : Nat} (pre : List { u : Nat // u < n }) : (meetS Q r pre).length ≤ r.length := meetAll_len _ _ _
theorem order_next {g : List (List Nat)} (G : Gr g) {q x : Nat} (hx : (order7 g)[q + 1]? = some x) : x ≠ 0 := by
  obtain ⟨r, e⟩ := order_zero G
  have h1 := order_once G
  rw [e] at hx h1
  rintro rfl
  exact (List.nodup_cons.1 h1).1 (List.mem_of_getElem? (by simpa using hx))
theorem set_same {Q : List (List Nat)} {x : Nat} {r : List Nat} (hr : Q[x]? = some r) : Q.set x r = Q := by
  refine List.ext_getElem? fun k => ?_
  by_cases e : k = x
  · subst e
    rw [List.getElem?_set_self (List.getElem?_eq_some_iff.1 hr).1, hr]
  · rw [List.getElem?_set_ne (fun h => e h.symm)]
theorem round3 {g P Q LP : List (List Nat)} (G : Gr g) (hub : UB g Q) (hl : Came g.length (edgesL g) LP) {ch : Bool} {q x : Nat} {r L : List Nat} (h1 : mass Q ≤ mass P) (h2 : ch = true → mass Q < mass P) (h3 : ch = false → Q = P ∧ ∀ k ∈ ((order7 g).drop 1).take q, Fixed g P k) (hx : (order7 g)[q + 1]? = some x) (hr : Q[x]? = some r) (hL : LP[x]? = some L) :
    UB g (Q.set x (putL (meetAll Q r L) x)) ∧ mass (Q.set x (putL (meetAll Q r L) x)) ≤ mass P ∧ ((ch || !decide (putL (meetAll Q r L) x = r)) = true → mass (Q.set x (putL (meetAll Q r L) x)) < mass P) ∧ ((ch || !decide (putL (meetAll Q r L) x = r)) = false → Q.set x (putL (meetAll Q r L) x) = P ∧ ∀ k ∈ ((order7 g).drop 1).take (q + 1), Fixed g P k) := by
  have hc : Come g x := (order_come G x).1 (List.mem_of_getElem? hx)
  have n := meetAll_next G hub hl hr hL
  have hless := hub.less hc hr n
  have hms := mass_set (r' := putL (meetAll Q r L) x) hr
  refine ⟨hub.next (order_next G hx) hc hr n, by omega, fun h => ?_, fun h => ?_⟩
  · cases ch with
    | true => have := h2 rfl; omega
    | false =>
      have : putL (meetAll Q r L) x ≠ r := by simpa using h
      have := hless.2 this
      omega
  · cases ch with
    | true => simp at h
    | false =>
      have he : putL (meetAll Q r L) x = r := by simpa using h
      obtain ⟨rfl, h4⟩ := h3 rfl
      rw [he] at n ⊢
      refine ⟨set_same hr, fun k hk => ?_⟩
      have e1 : ((order7 g).drop 1)[q]? = some x := by rw [List.getElem?_drop, Nat.add_comm]; exact hx
      rw [List.take_add_one, e1] at hk
      rcases List.mem_append.1 hk with hk | hk
      · exact h4 k hk
      · simp at hk
        subst hk
        exact n.fixed hr
theorem all_fixed {g P : List (List Nat)} (G : Gr g) {q : Nat} (hq : (order7 g).length - 1 ≤ q) (h : ∀ k ∈ ((order7 g).drop 1).take q, Fixed g P k) : ∀ k, Come g k → k ≠ 0 → Fixed g P k := by
  intro k hk hk0
  refine h k ?_
  rw [List.take_of_length_le (by rw [List.length_drop]; exact hq)]
  have := (order_come G k).2 hk
  obtain ⟨r, e⟩ := order_zero G
  rw [e] at this ⊢
  rcases List.mem_cons.1 this with h1 | h1
  · exact absurd h1 hk0
  · simpa using h1
def flag (v : Value) : Nat := match v with | .bool true => 1 | _ => 0
end Go.Proofs.YtiadmmnnbnamjaaGreat
