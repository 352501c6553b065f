/- The model's limit of a graph. -/
import Derived.Test.YthcenlplfcbfjaaShrMath8
import Derived.Test.YthcenlplfcbfjaaDom7
import Derived.Test.YthcenlplfcbfjaaSdom7
namespace Go.Proofs.Ythcenlplfcbfjaa
open Go Go.RowKit
set_option linter.unusedVariables false
set_option linter.unusedSimpArgs false
set_option maxRecDepth 100000

theorem dropL_nats (l : List Nat) (k : Nat) : dropL (nats l) (k : Int) = nats (dropN l k) := by
  unfold dropL dropN nats
  rw [List.filter_map]
  congr 1
  refine List.filter_congr fun x _ => ?_
  have e : ((x : Int) = (k : Int)) ↔ x = k := by omega
  simp [e]
/-- the graph as a plain relation -/
def lst0 (g : List (List Nat)) : Lst := ⟨Come g, fun a b => Come g a ∧ a ≠ b ∧ b ∈ g.getD a []⟩
/-- to how many nodes a graph comes -/
def LimIs (g : List (List Nat)) (R : Nat) : Prop := ∃ (L : List Nat) (m : Nat) (t : Lst), (L.Nodup ∧ ∀ x, x ∈ L ↔ Come g x) ∧ Lst.Goes m (lst0 g) t ∧ t.End ∧ R + m = L.length
theorem lst0_ok {g : List (List Nat)} (G : Gr g) : (lst0 g).Ok := by
  have next : ∀ a b, Come g a → b ∈ g.getD a [] → Come g b := fun a b ha hb => by
    obtain ⟨l, hl⟩ : ∃ l, g[a]? = some l := ⟨_, List.getElem?_eq_getElem (RchW.lt G ha)⟩
    rw [getD_some hl] at hb
    exact Lead.come' ⟨ha, l, hl, hb⟩
  refine ⟨fun a b h => ⟨h.1, next a b h.1 h.2.2, h.2.1⟩, fun a ha => ?_⟩
  have key : ∀ x, RchW g (-1) x → (lst0 g).Reach x := by
    intro x hx
    induction hx with
    | start h0 => exact .zero (.start h0)
    | @step u v l hu hl hv hne ih =>
      by_cases e : u = v
      · subst e; exact ih
      · exact .step ih ⟨hu, e, by rw [getD_some hl]; exact hv⟩
  exact key a ha
theorem nodup_len : ∀ {L L' : List Nat}, L.Nodup → L'.Nodup → (∀ x ∈ L, x ∈ L') → L.length ≤ L'.length
  | [], L', _, _, _ => by simp
  | x :: r, L', h, h', hs => by
    have hx := hs x (by simp)
    have h1 := List.nodup_cons.1 h
    have := nodup_len (L := r) (L' := L'.erase x) h1.2 (h'.erase x) (fun y hy => (h'.mem_erase_iff).2 ⟨fun e => h1.1 (e ▸ hy), hs y (by simp [hy])⟩)
    rw [List.length_erase_of_mem hx] at this
    have := List.length_pos_of_mem hx
    simp
    omega
theorem LimIs.unique {g : List (List Nat)} (G : Gr g) {R R' : Nat} (h : LimIs g R) (k : LimIs g R') : R = R' := by
  obtain ⟨L, m, t, hL, hg, he, hr⟩ := h
  obtain ⟨L', m', t', hL', hg', he', hr'⟩ := k
  have e1 := (hg.unique (lst0_ok G) he hg' he').1
  have e2 : L.length = L'.length := Nat.le_antisymm (nodup_len hL.1 hL'.1 (fun x hx => (hL'.2 x).2 ((hL.2 x).1 hx))) (nodup_len hL'.1 hL.1 (fun x hx => (hL.2 x).2 ((hL'.2 x).1 hx)))
  omega
/-- the sets of so many nodes are laid -/
def NextIs (g : List (List Nat)) (pre : List Nat) (N : List (List Nat)) : Prop := N.length = g.length ∧ ∀ (a : Nat) l, g[a]? = some l → N[a]? = some (if a ∈ pre then dropN l a else [])
theorem NextIs.begin (g : List (List Nat)) : NextIs g [] (List.replicate g.length []) := ⟨by simp, fun a l hl => by
  have := (List.getElem?_eq_some_iff.1 hl).1
  simp [List.getElem?_replicate, this]⟩
theorem NextIs.step {g : List (List Nat)} {pre : List Nat} {N : List (List Nat)} (h : NextIs g pre N) {k : Nat} {l : List Nat} (hl : g[k]? = some l) : NextIs g (pre ++ [k]) (N.set k (dropN l k)) := by
  have hk : k < N.length := by rw [h.1]; exact (List.getElem?_eq_some_iff.1 hl).1
  refine ⟨by simp [h.1], fun a m hm => ?_⟩
  by_cases e : a = k
  · subst e
    rw [hl] at hm
    obtain rfl := Option.some.inj hm
    rw [List.getElem?_set_self hk, if_pos (by simp)]
  · rw [List.getElem?_set_ne (fun h => e h.symm), h.2 a m hm]
    have : (a ∈ pre ++ [k]) ↔ a ∈ pre := by simp [e]
    simp only [this]
theorem NextIs.isN {g : List (List Nat)} (G : Gr g) {pre : List Nat} {N : List (List Nat)} (h : NextIs g pre N) : IsN g.length N := by
  refine ⟨h.1, fun a r hr => ?_⟩
  obtain ⟨l, hl⟩ : ∃ l, g[a]? = some l := ⟨_, List.getElem?_eq_getElem (by rw [← h.1]; exact (List.getElem?_eq_some_iff.1 hr).1)⟩
  rw [h.2 a l hl] at hr
  obtain rfl := Option.some.inj hr
  split
  · exact ⟨dropN_rising (G.rising a l hl) a, fun x hx => G.below a l hl x (mem_dropN.1 hx).1⟩
  · exact ⟨List.Pairwise.nil, by simp⟩
theorem NextIs.getD {g : List (List Nat)} (G : Gr g) {L : List Nat} {N : List (List Nat)} (h : NextIs g L N) {a : Nat} (ha : a ∈ L) (hg : a < g.length) : N.getD a [] = dropN (g.getD a []) a := by
  obtain ⟨l, hl⟩ : ∃ l, g[a]? = some l := ⟨_, List.getElem?_eq_getElem hg⟩
  rw [getD_some (h.2 a l hl), if_pos ha, getD_some hl]
theorem NextIs.lst {g : List (List Nat)} (G : Gr g) {L : List Nat} {N : List (List Nat)} (h : NextIs g L N) (hL : ∀ x, x ∈ L ↔ Come g x) : lst L N = lst0 g ∧ NoSelf L N ∧ EndsN L N := by
  have hd : ∀ a ∈ L, N.getD a [] = dropN (g.getD a []) a := fun a ha => h.getD G ha (RchW.lt G ((hL a).1 ha))
  refine ⟨Lst.ext' (fun x => hL x) (fun a b => ?_), fun a ha hm => ?_, fun a ha b hb => ?_⟩
  · unfold Go.Proofs.Ythcenlplfcbfjaa.lst lst0
    simp only []
    constructor
    · rintro ⟨h1, h2, h3⟩
      rw [hd a h1, mem_dropN] at h3
      exact ⟨(hL a).1 h1, h2, h3.1⟩
    · rintro ⟨h1, h2, h3⟩
      have ha := (hL a).2 h1
      exact ⟨ha, h2, by rw [hd a ha, mem_dropN]; exact ⟨h3, fun e => h2 e.symm⟩⟩
  · rw [hd a ha, mem_dropN] at hm
    exact hm.2 rfl
  · rw [hd a ha, mem_dropN] at hb
    exact (hL b).2 ((lst0_ok G).ends a b ⟨(hL a).1 ha, fun e => hb.2 e.symm, hb.1⟩).2.1
theorem dropN_nodup {L : List Nat} (h : L.Nodup) {k : Nat} (hk : k ∈ L) : (dropN L k).Nodup ∧ (dropN L k).length + 1 = L.length := by
  refine ⟨h.filter _, ?_⟩
  induction L with
  | nil => simp at hk
  | cons y r ih =>
    have h1 := List.nodup_cons.1 h
    by_cases e : y = k
    · subst e
      have : dropN (y :: r) y = r := by
        show List.filter _ (y :: r) = r
        rw [List.filter_cons, if_neg (by simp)]
        exact dropN_none h1.1
      rw [this]; simp
    · have hk' : k ∈ r := by
        rcases List.mem_cons.1 hk with e2 | e2
        · exact absurd e2.symm e
        · exact e2
      have : dropN (y :: r) k = y :: dropN r k := by
        show List.filter _ (y :: r) = _
        rw [List.filter_cons, if_pos (by simpa using e)]
        rfl
      rw [this, List.length_cons, List.length_cons, ih h1.2 hk']
/-- the nodes that are left and the row of sets, as they lie -/
def MS (w : World) (B pb n : Nat) (la : Option Addr) (lc : Nat) (L : List Nat) (ys : List LV) : Prop := Sep w B (⟨3, 1, .slice la L.length lc, L.length, ints (nats L)⟩ :: rowsL (.slice (some ⟨pb, 0, none⟩) n n) ys)
theorem MS.below {w w' : World} {B pb n : Nat} {la : Option Addr} {lc : Nat} {L : List Nat} {ys : List LV} (h : MS w B pb n la lc L ys) (hb : Below w.heap.size w w') : MS w' B pb n la lc L ys := Sep.below h hb
theorem MS.left {w : World} {B pb n : Nat} {la : Option Addr} {lc : Nat} {L : List Nat} {ys : List LV} (h : MS w B pb n la lc L ys) : Row w la (nats L) := own_row (c := lc) (by rw [nats_length]; exact Sep.get h (x := ⟨3, 1, .slice la L.length lc, L.length, ints (nats L)⟩) (by simp))
theorem MS.at {w : World} {B pb n : Nat} {la : Option Addr} {lc : Nat} {L : List Nat} {ys : List LV} {N : List (List Nat)} (h : MS w B pb n la lc L ys) (hl : lists ys = natsL N) {a : Nat} {r : List Nat} (hr : N[a]? = some r) : ∃ sa sc, ys[a]? = some ⟨nats r, .slice sa r.length sc⟩ ∧ w.cell? ⟨pb, a, none⟩ = some (.slice sa r.length sc) ∧ w.frozen? ⟨pb, a, none⟩ = false ∧ Row w sa (nats r) := by
  obtain ⟨sv, hsv⟩ := own_of_lists hl hr
  have ho := Sep.get h (x := rowL ⟨nats r, sv⟩) (by unfold rowsL; simp; exact .inr (.inr ⟨_, List.mem_of_getElem? hsv, rfl⟩))
  obtain ⟨sa, sc, e⟩ := slice_of_owned ho
  simp only [rowL, nats_length] at e ho
  subst e
  have hx : (⟨42, 1, .slice (some ⟨pb, 0, none⟩) n n, ys.length, vals ys⟩ : OR) ∈ (⟨3, 1, .slice la L.length lc, L.length, ints (nats L)⟩ :: rowsL (.slice (some ⟨pb, 0, none⟩) n n) ys : List OR) := by simp [rowsL]
  exact ⟨sa, sc, hsv, Sep.cell h hx rfl (by simp [vals, hsv]), Sep.frozen h hx rfl a, own_row (c := sc) (by rw [nats_length]; exact ho)⟩
/-- a new list is stored -/
theorem MS.put {w w1 : World} {B pb n : Nat} {la : Option Addr} {lc : Nat} {L : List Nat} {ys : List LV} (h : MS w B pb n la lc L ys) (hn : ys.length = n) (hb : Below w.heap.size w w1) (hB : B ≤ w.heap.size) {a : Nat} {y : LV} (hy : ys[a]? = some y) {r : List Nat} {v : Value} (ho : w1.ownsRow w.heap.size 3 1 v r.length (ints (nats r))) : MS (w1.setCell ⟨pb, a, none⟩ v) B pb n la lc L (ys.set a ⟨nats r, v⟩) := by
  subst hn
  have hj := (List.getElem?_eq_some_iff.1 hy).1
  have e : rowsL (.slice (some ⟨pb, 0, none⟩) ys.length ys.length) ys = ⟨42, 1, .slice (some ⟨pb, 0, none⟩) ys.length ys.length, ys.length, vals ys⟩ :: ((ys.take a).map rowL ++ rowL y :: (ys.drop (a + 1)).map rowL) := by
    conv => lhs; rw [rowsL]
    conv => lhs; arg 2; rw [splitL hy]
    simp
  unfold MS at h
  rw [e] at h
  have h1 := Sep.turn (⟨3, 1, .slice la L.length lc, L.length, ints (nats L)⟩ :: ⟨42, 1, .slice (some ⟨pb, 0, none⟩) ys.length ys.length, ys.length, vals ys⟩ :: (ys.take a).map rowL) (x := rowL y) (l2 := (ys.drop (a + 1)).map rowL) h hb (World.grownBy.refl w1 _) (rowL ⟨nats r, v⟩) (by show World.ownsRow _ _ _ _ _ _ _; simp only [rowL, nats_length]; exact owns_mono ho hB) (fun k hk => .inr (ho.lt k hk).1)
  have h2 := Sep.store [⟨3, 1, .slice la L.length lc, L.length, ints (nats L)⟩] h1 a v
  have e2 : rowsL (.slice (some ⟨pb, 0, none⟩) ys.length ys.length) (ys.set a ⟨nats r, v⟩) = ⟨42, 1, .slice (some ⟨pb, 0, none⟩) ys.length ys.length, ys.length, (vals ys).set a v⟩ :: ((ys.take a).map rowL ++ rowL ⟨nats r, v⟩ :: (ys.drop (a + 1)).map rowL) := by
    rw [rowsL, List.length_set, show vals (ys.set a ⟨nats r, v⟩) = (vals ys).set a v by simp [vals, List.map_set], List.set_eq_take_append_cons_drop (l := ys), if_pos hj]
    simp
  unfold MS
  rw [e2]
  exact h2
/-- another list is left -/
theorem MS.other {w w1 : World} {B pb n : Nat} {la : Option Addr} {lc : Nat} {L : List Nat} {ys : List LV} (h : MS w B pb n la lc L ys) (hb : Below w.heap.size w w1) (hB : B ≤ w.heap.size) {r : List Nat} {va : Option Addr} {vc : Nat} (ho : w1.ownsRow w.heap.size 3 1 (.slice va r.length vc) r.length (ints (nats r))) : MS w1 B pb n va vc r ys :=
  Sep.turn [] h hb (World.grownBy.refl w1 _) ⟨3, 1, .slice va r.length vc, r.length, ints (nats r)⟩ (owns_mono ho hB) (fun k hk => .inr (ho.lt k hk).1)
end Go.Proofs.Ythcenlplfcbfjaa
