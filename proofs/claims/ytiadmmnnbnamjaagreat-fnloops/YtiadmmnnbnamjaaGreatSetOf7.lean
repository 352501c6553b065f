/- A set made of a list: sorted, each number once; as the model puts the numbers one after the other. -/
import Derived.Test.YtiadmmnnbnamjaaGreatQ1
import Derived.Test.YtiadmmnnbnamjaaGreatCopy7
import Derived.Test.YtiadmmnnbnamjaaGreatShelf2
import Derived.Lib.RowBridge
namespace Go.Proofs.YtiadmmnnbnamjaaGreat
open Go.RowKit
set_option linter.unusedVariables false
set_option linter.unusedSimpArgs false
set_option maxRecDepth 100000

/-- the model's way: each number is put to its place -/
def setL (s : List Nat) : List Nat := s.foldl putL []
theorem setL_snoc (s : List Nat) (x : Nat) : setL (s ++ [x]) = putL (setL s) x := by unfold setL; rw [List.foldl_append]; rfl
theorem foldl_put (s t : List Nat) (ht : t.Pairwise (· < ·)) : (s.foldl putL t).Pairwise (· < ·) ∧ ∀ x, x ∈ s.foldl putL t ↔ x ∈ t ∨ x ∈ s := by
  induction s generalizing t with
  | nil => exact ⟨ht, by simp⟩
  | cons y r ih =>
    obtain ⟨h1, h2⟩ := ih (putL t y) (putL_rising ht y)
    refine ⟨h1, fun x => ?_⟩
    rw [List.foldl_cons, h2, putL_mem, List.mem_cons]
    constructor
    · rintro ((h | h) | h)
      · exact .inr (.inl h)
      · exact .inl h
      · exact .inr (.inr h)
    · rintro (h | h | h)
      · exact .inl (.inr h)
      · exact .inl (.inl h)
      · exact .inr h
theorem setL_rising (s : List Nat) : (setL s).Pairwise (· < ·) := (foldl_put s [] List.Pairwise.nil).1
theorem setL_mem (s : List Nat) (x : Nat) : x ∈ setL s ↔ x ∈ s := by
  have := (foldl_put s [] List.Pairwise.nil).2 x
  simpa [setL] using this
theorem setL_len (s : List Nat) : (setL s).length ≤ s.length := by
  have : ∀ t : List Nat, (s.foldl putL t).length ≤ t.length + s.length := by
    induction s with
    | nil => intro t; simp
    | cons y r ih =>
      intro t
      have h1 := ih (putL t y)
      have h2 := putL_len t y
      simp only [List.foldl_cons, List.length_cons]
      omega
  simpa [setL] using this []
theorem rising_int {l m : List Int} (hl : l.Pairwise (· < ·)) (hm : m.Pairwise (· < ·)) (h : ∀ k, k ∈ l ↔ k ∈ m) : l = m := by
  induction l generalizing m with
  | nil =>
    cases m with
    | nil => rfl
    | cons y r => exact absurd ((h y).2 (by simp)) (by simp)
  | cons x l ih =>
    cases m with
    | nil => exact absurd ((h x).1 (by simp)) (by simp)
    | cons y m =>
      have hx := List.pairwise_cons.1 hl
      have hy := List.pairwise_cons.1 hm
      have hxy : x = y := by
        rcases List.mem_cons.1 ((h x).1 (by simp)) with e | e
        · exact e
        · rcases List.mem_cons.1 ((h y).2 (by simp)) with e' | e'
          · exact e'.symm
          · have := hy.1 x e; have := hx.1 y e'; omega
      subst hxy
      rw [ih hx.2 hy.2 (fun k => ?_)]
      constructor
      · intro hk
        rcases List.mem_cons.1 ((h k).1 (by simp [hk])) with e | e
        · have := hx.1 k hk; omega
        · exact e
      · intro hk
        rcases List.mem_cons.1 ((h k).2 (by simp [hk])) with e | e
        · have := hy.1 k hk; omega
        · exact e
theorem compact_upto (zs : List Int) (hs : zs.Pairwise (· ≤ ·)) (m : Nat) (hm : m ≤ zs.length) : (Lib.compactUpTo zs.toArray m).Pairwise (· < ·) ∧ ∀ x, x ∈ Lib.compactUpTo zs.toArray m ↔ ∃ j, j < m ∧ zs[j]? = some x := by
  have hle : ∀ i j (hi : i < zs.length) (hj : j < zs.length), i ≤ j → zs[i] ≤ zs[j] := fun i j hi hj hij => by
    rcases Nat.lt_or_ge i j with h | h
    · exact List.pairwise_iff_getElem.1 hs i j hi hj h
    · obtain rfl : i = j := by omega
      exact Int.le_refl _
  induction m with
  | zero => exact ⟨by simp [Lib.compactUpTo], by simp [Lib.compactUpTo]⟩
  | succ m ih =>
    obtain ⟨h1, h2⟩ := ih (by omega)
    have hd : zs.toArray[m]! = zs[m] := by rw [getElem!_pos _ m (by simp; omega)]; simp
    rw [Lib.compactUpTo_succ, hd]
    by_cases hk : Lib.keeps zs.toArray m = true
    · rw [if_pos hk]
      refine ⟨List.pairwise_append.2 ⟨h1, by simp, fun a ha b hb => ?_⟩, fun x => ?_⟩
      · simp at hb; subst hb
        obtain ⟨j, hj, hja⟩ := (h2 a).1 ha
        obtain ⟨hjl, rfl⟩ := List.getElem?_eq_some_iff.1 hja
        have hne : zs[m] ≠ zs[m - 1] := by
          intro e
          have := Lib.keeps_neg (d := zs.toArray) (m := m) (by omega) (by rw [hd, getElem!_pos _ (m - 1) (by simp; omega)]; simpa using e)
          rw [this] at hk; cases hk
        have a1 := hle j (m - 1) hjl (by omega) (by omega)
        have a2 := hle (m - 1) m (by omega) (by omega) (by omega)
        omega
      · rw [List.mem_append, h2]
        constructor
        · rintro (⟨j, hj, hx⟩ | hx)
          · exact ⟨j, by omega, hx⟩
          · simp at hx; subst hx; exact ⟨m, by omega, List.getElem?_eq_getElem (by omega)⟩
        · rintro ⟨j, hj, hx⟩
          rcases Nat.lt_or_ge j m with h | h
          · exact .inl ⟨j, h, hx⟩
          · obtain rfl : j = m := by omega
            right
            rw [List.getElem?_eq_getElem (by omega)] at hx
            simpa using (Option.some.inj hx).symm
    · rw [if_neg hk, List.append_nil]
      refine ⟨h1, fun x => ?_⟩
      rw [h2]
      constructor
      · rintro ⟨j, hj, hx⟩; exact ⟨j, by omega, hx⟩
      · rintro ⟨j, hj, hx⟩
        rcases Nat.lt_or_ge j m with h | h
        · exact ⟨j, h, hx⟩
        · obtain rfl : j = m := by omega
          have hm0 : 0 < j := by
            rcases Nat.eq_zero_or_pos j with h0 | h0
            · subst h0; exact absurd (Lib.keeps_lt_one zs.toArray 0 (by omega)) hk
            · exact h0
          have he : zs[j] = zs[j - 1] := Classical.byContradiction fun hne => hk (Lib.keeps_pos (by rw [hd, getElem!_pos _ (j - 1) (by simp; omega)]; simpa using hne))
          refine ⟨j - 1, by omega, ?_⟩
          rw [List.getElem?_eq_getElem (by omega)] at hx ⊢
          rw [← he]; exact hx
theorem compact_rising (zs : List Int) (hs : zs.Pairwise (· ≤ ·)) : (Lib.compact zs).Pairwise (· < ·) ∧ ∀ x, x ∈ Lib.compact zs ↔ x ∈ zs := by
  obtain ⟨h1, h2⟩ := compact_upto zs hs zs.length (Nat.le_refl _)
  refine ⟨h1, fun x => ?_⟩
  rw [show Lib.compact zs = Lib.compactUpTo zs.toArray zs.length from rfl, h2, List.mem_iff_getElem?]
  constructor
  · rintro ⟨j, _, hx⟩; exact ⟨j, hx⟩
  · rintro ⟨j, hx⟩; exact ⟨j, (List.getElem?_eq_some_iff.1 hx).1, hx⟩
def sortI (zs : List Int) : List Int := zs.mergeSort fun x y => decide (x ≤ y)
theorem sortI_sorted (zs : List Int) : (sortI zs).Pairwise (· ≤ ·) := by
  have := List.pairwise_mergeSort (le := fun (x y : Int) => decide (x ≤ y)) (fun a b c h1 h2 => by simp at *; omega) (fun a b => by simp; omega) zs
  exact this.imp fun h => by simpa using h
theorem sortI_mem (zs : List Int) (x : Int) : x ∈ sortI zs ↔ x ∈ zs := by unfold sortI; exact List.mem_mergeSort
theorem sortI_len (zs : List Int) : (sortI zs).length = zs.length := by unfold sortI; exact List.length_mergeSort _
theorem nats_lt {s : List Nat} (h : s.Pairwise (· < ·)) : (nats s).Pairwise (· < ·) := by
  rw [nats, List.pairwise_map]
  exact h.imp fun h => by omega
/-- both ways come to one list -/
theorem set_eq (s : List Nat) : Lib.compact (sortI (nats s)) = nats (setL s) := by
  obtain ⟨h1, h2⟩ := compact_rising _ (sortI_sorted (nats s))
  refine rising_int h1 (nats_lt (setL_rising s)) fun x => ?_
  rw [h2, sortI_mem]
  constructor
  · intro h
    obtain ⟨n, rfl, hn⟩ := nats_mem' h
    exact nats_mem.2 ((setL_mem s n).2 hn)
  · intro h
    obtain ⟨n, rfl, hn⟩ := nats_mem' h
    exact nats_mem.2 ((setL_mem s n).1 hn)
/-- a row is sorted -/
theorem sort_own (B : Nat) (v : Value) (zs : List Int) (w : World) (hl : zs.length ≤ 1000) (h : w.ownsRow B 3 1 v zs.length (ints zs)) :
    Calls Tryz.prog 91 #[v] w fun e w' => e = .returned (.tuple #[]) ∧ w'.ownsRow B 3 1 v zs.length (ints (sortI zs)) ∧ w.grownBy w' v.ownBlock := by
  rcases h.2 with ⟨rfl, h0⟩ | ⟨g, cap, cur, rfl, hBg, hg, hn, hm, hsz, htk⟩
  · have : zs = [] := List.eq_nil_of_length_eq_zero h0
    subst this
    refine (Tryz.slices_Sort_int_none none 0 w).mono ?_
    rintro e w' ⟨rfl, rfl⟩
    exact ⟨rfl, by simpa [sortI] using h, World.grownBy.refl _ _⟩
  · have hH := Lib.holds_of_ints (w := w) (b := g) (off := 0) (zs := zs) (n := zs.length) (Nat.le_refl _) (fun j hj => by rw [Nat.zero_add]; exact rowT_at h rfl (by simp [ints, hj, List.getD])) (fun j hj => by rw [Nat.zero_add]; exact h.frozenAt j)
    rw [List.take_of_length_le (Nat.le_refl _)] at hH
    refine (Tryz.slices_Sort_int g 0 cap zs w hH (h.lt g rfl).2 (by omega)).mono ?_
    rintro e w' ⟨rfl, q, os, rfl⟩
    have hp := Lib.putRow_eq_setCells (Value.int .i64) w g 0 zs.toArray (sortI zs) q hH (by simp [sortI_len])
    obtain ⟨h1, h2⟩ := own_setCells (ints (sortI zs)) (w.drewN q) 0 (ints zs) h (by simp [ints, sortI_len])
    have e1 : (ints zs).drop (0 + (ints (sortI zs)).length) = [] := List.drop_of_length_le (by simp [ints, sortI_len])
    rw [e1, List.take_zero, List.nil_append, List.append_nil] at h1
    have hb : Below ((w.drewN q).setCells g 0 (ints (sortI zs))).heap.size ((w.drewN q).setCells g 0 (ints (sortI zs))) (Go.Sort.grow ((w.drewN q).setCells g 0 (ints (sortI zs))) os) :=
      ⟨rfl, rfl, rfl, by simp [Go.Sort.grow], fun k hk => by simp only [Go.Sort.grow]; rw [Array.getElem?_append_left hk]⟩
    have hp' : Go.Sort.putRow (Value.int .i64) (Go.Sort.ahead w q) g 0 (zs.mergeSort fun x y => decide (x ≤ y)).toArray = (w.drewN q).setCells g 0 (ints (sortI zs)) := hp
    rw [hp']
    exact ⟨rfl, owns_below h1 hb, ((show w.grownBy (w.drewN q) (some g) from grownBy_of_below (below_drewN (Below.refl _ _) q) _).trans h2).trans (grownBy_of_below hb _)⟩
/-- a row is made to have each number once -/
theorem compact_own (B : Nat) (v : Value) (zs : List Int) (w : World) (hl : zs.length ≤ 1000) (h : w.ownsRow B 3 1 v zs.length (ints zs)) :
    Calls Tryz.prog 92 #[v] w fun e w' => ∃ va vc, e = .returned (.slice va (Lib.compact zs).length vc) ∧ w'.ownsRow B 3 1 (.slice va (Lib.compact zs).length vc) (Lib.compact zs).length (ints (Lib.compact zs)) ∧ w.grownBy w' v.ownBlock := by
  rcases h.2 with ⟨rfl, h0⟩ | ⟨g, cap, cur, rfl, hBg, hg, hn, hm, hsz, htk⟩
  · have : zs = [] := List.eq_nil_of_length_eq_zero h0
    subst this
    refine (Tryz.slices_Compact_int_empty none 0 w).mono ?_
    rintro e w' ⟨rfl, rfl⟩
    exact ⟨none, 0, by simp [Lib.compact, Lib.compactUpTo], by simpa [Lib.compact, Lib.compactUpTo] using h, World.grownBy.refl _ _⟩
  · refine (Tryz.slices_Compact_int_cells g 0 zs.length cap zs w (Nat.le_refl _) (by omega) hn (fun j hj => by rw [Nat.zero_add]; exact rowT_at h rfl (by simp [ints, hj, List.getD])) (fun j hj => by rw [Nat.zero_add]; exact h.frozenAt j)).mono ?_
    rintro e w' ⟨rfl, q, rfl⟩
    rw [List.take_of_length_le (Nat.le_refl _)]
    have hle := Lib.compact_length_le zs
    obtain ⟨L, hL⟩ : ∃ L, L = Lib.compact zs := ⟨_, rfl⟩
    rw [← hL] at hle ⊢
    have e0 : ((L ++ List.replicate (zs.length - L.length) 0).map (Value.int .i64)) = ints L ++ ints (List.replicate (zs.length - L.length) 0) := by simp [ints]
    rw [e0]
    have hl2 : (ints L ++ ints (List.replicate (zs.length - L.length) 0)).length = zs.length := by simp [ints]; omega
    obtain ⟨h1, h2⟩ := own_setCells (ints L ++ ints (List.replicate (zs.length - L.length) 0)) (w.drewN q) 0 (ints zs) h (by omega)
    have e1 : (ints zs).drop (0 + (ints L ++ ints (List.replicate (zs.length - L.length) 0)).length) = [] := List.drop_of_length_le (by rw [hl2]; simp [ints])
    rw [e1, List.take_zero, List.nil_append, List.append_nil] at h1
    refine ⟨_, _, rfl, ?_, (show w.grownBy (w.drewN q) (some g) from grownBy_of_below (below_drewN (Below.refl _ _) q) _).trans h2⟩
    have h3 := own_cut h1 (m := L.length) hle
    have e3 : (ints L ++ ints (List.replicate (zs.length - L.length) 0)).take L.length = ints L := by
      rw [List.take_append_of_le_length (by simp [ints]), List.take_of_length_le (by simp [ints])]
    first
      | (rw [e3] at h3; exact h3)
      | (rw [Nat.mul_one, e3] at h3; exact h3)
set_option maxHeartbeats 1000000 in
/-- the program's set of a list -/
theorem setOf_any (a : Option Addr) (c : Nat) (s : List Nat) (w : World) (hl : s.length ≤ 1000) (h : Row w a (nats s)) :
    Calls Tryz.prog 72 #[.slice a s.length c] w fun e w' => ∃ va vc, e = .returned (.agg #[.slice va (setL s).length vc]) ∧ w'.ownsRow w.heap.size 3 1 (.slice va (setL s).length vc) (setL s).length (ints (nats (setL s))) ∧ Below w.heap.size w w' := by
  have b0 := below1 w (.cells #[.slice none 0 0] 60)
  have z0 : (w.alloc (.cells #[.slice none 0 0] 60)).heap.size = w.heap.size + 1 := by simp
  have x0 : (w.alloc (.cells #[.slice none 0 0] 60)).cell? ⟨w.heap.size, 0, none⟩ = some (.slice none 0 0) := by simp [go_sem]
  have f0 : (w.alloc (.cells #[.slice none 0 0] 60)).frozen? ⟨w.heap.size, 0, none⟩ = false := by simp [go_sem]
  have HS0 : Hid (Sep (w.alloc (.cells #[.slice none 0 0] 60)) (w.alloc (.cells #[.slice none 0 0] 60)).heap.size ([] ++ ⟨3, 1, .slice none 0 0, 0, []⟩ :: [])) := sep_one (World.ownsRow_nil _ _ _ _)
  have HN0 := hid (News.ints (h.below b0))
  rw [nats_length] at HN0
  clear h
  go_enter Tryz.func72, Tryz.ntmps72
  go_wp2_with (at_builtin; refine wpList_append_sep eltInt rfl _ _ rfl (w.alloc (.cells #[.slice none 0 0] 60)).heap.size [] HS0.out rfl HN0.out rfl (by omega) (Nat.le_refl _) ?_)
  intro va vc w1 hs1 hb1' hg1
  have hb1 : Below (w.heap.size + 1) (w.alloc (.cells #[.slice none 0 0] 60)) w1 := by first | exact hb1' | (rw [← z0]; exact hb1')
  have ho1 : w1.ownsRow (w.heap.size + 1) 3 1 (.slice va s.length vc) s.length (ints (nats s)) := by have := one_sep (l2 := []) (by simpa using hs1); first | exact this | (rw [← z0]; exact this)
  have x1 : w1.cell? ⟨w.heap.size, 0, none⟩ = some (.slice none 0 0) := by rw [hb1.cell (p := ⟨w.heap.size, 0, none⟩) (by show w.heap.size < _; omega)]; exact x0
  have f1 : w1.frozen? ⟨w.heap.size, 0, none⟩ = false := by rw [hb1.frozen (p := ⟨w.heap.size, 0, none⟩) (by show w.heap.size < _; omega)]; exact f0
  have HB1 := hid (b0.trans (hb1.mono (by omega)))
  have z1 : w.heap.size + 1 ≤ w1.heap.size := by have := hb1.size; omega
  have HSO := hid (sort_own (w.heap.size + 1) (.slice va s.length vc) (nats s) w1 (by rw [nats_length]; exact hl) (by rw [nats_length]; exact ho1))
  have HGE : Hid (∀ j, (Value.slice va s.length vc).ownBlock = some j → w.heap.size + 1 ≤ j) := fun j hj => (ho1.lt j hj).1
  clear hs1 hb1 hb1' hg1 ho1 x0 f0 b0 HS0 HN0
  go_wp2_with fail
  refine HSO.out.mono ?_
  rintro e w2 ⟨rfl, ho2, hg2⟩
  have hbw : Below (w.heap.size + 1) w1 w2 := (Below.refl _ w1).grown hg2 z1 (fun j hj => HGE.out j hj)
  have x2 : w2.cell? ⟨w.heap.size, 0, none⟩ = some (.slice none 0 0) := by rw [hbw.cell (p := ⟨w.heap.size, 0, none⟩) (by show w.heap.size < _; omega)]; exact x1
  have f2 : w2.frozen? ⟨w.heap.size, 0, none⟩ = false := by rw [hbw.frozen (p := ⟨w.heap.size, 0, none⟩) (by show w.heap.size < _; omega)]; exact f1
  have z2 : w.heap.size + 1 ≤ w2.heap.size := Nat.le_trans z1 hbw.size
  have HB2 := hid (HB1.out.trans (hbw.mono (by omega)))
  have HCO : Hid (Calls Tryz.prog 92 #[.slice va s.length vc] w2 fun e w' => ∃ va vc', e = .returned (.slice va (setL s).length vc') ∧ w'.ownsRow (w.heap.size + 1) 3 1 (.slice va (setL s).length vc') (setL s).length (ints (nats (setL s))) ∧ Below (w.heap.size + 1) w2 w') := by
    have h1 : w2.ownsRow (w.heap.size + 1) 3 1 (.slice va s.length vc) (sortI (nats s)).length (ints (sortI (nats s))) := by rw [sortI_len]; exact ho2
    refine (compact_own (w.heap.size + 1) (.slice va s.length vc) (sortI (nats s)) w2 (by rw [sortI_len, nats_length]; exact hl) h1).mono ?_
    rintro e w' ⟨va', vc', rfl, h2, h3⟩
    rw [set_eq, nats_length] at h2 ⊢
    exact ⟨va', vc', rfl, h2, (Below.refl _ w2).grown h3 z2 (fun j hj => HGE.out j hj)⟩
  clear ho2 hg2 hbw x1 f1 HSO
  go_wp2_with fail
  refine HCO.out.mono ?_
  rintro e w3 ⟨va3, vc3, rfl, ho3, hb3⟩
  have x3 : w3.cell? ⟨w.heap.size, 0, none⟩ = some (.slice none 0 0) := by rw [hb3.cell (p := ⟨w.heap.size, 0, none⟩) (by show w.heap.size < _; omega)]; exact x2
  have f3 : w3.frozen? ⟨w.heap.size, 0, none⟩ = false := by rw [hb3.frozen (p := ⟨w.heap.size, 0, none⟩) (by show w.heap.size < _; omega)]; exact f2
  have H3 := hid (And.intro ho3 (HB2.out.trans (hb3.mono (by omega))))
  clear ho3 hb3 x2 f2 HCO
  go_wp2
  refine bodyPost_ret (v := .agg #[.slice va3 (setL s).length vc3]) (by simp [results, Tryz.results72, go_sem, *]) rfl ⟨va3, vc3, rfl, ?_, ?_⟩
  · exact owns_mono (ownsRow_setCell_below H3.out.1 (by show w.heap.size < w.heap.size + 1; omega) _) (by omega)
  · exact H3.out.2.setCell (Nat.le_refl _) _
set_option maxHeartbeats 1000000 in
/-- the program's list of a set -/
theorem list_any (a : Option Addr) (c : Nat) (s : List Nat) (w : World) (hl : s.length ≤ 1000) (h : Row w a (nats s)) :
    Calls Tryz.prog 28 #[.agg #[.slice a s.length c]] w fun e w' => ∃ va vc, e = .returned (.slice va s.length vc) ∧ w'.ownsRow w.heap.size 3 1 (.slice va s.length vc) s.length (ints (nats s)) ∧ Below w.heap.size w w' := by
  have b0 := below1 w (.cells #[.slice a s.length c] 60)
  have z0 : (w.alloc (.cells #[.slice a s.length c] 60)).heap.size = w.heap.size + 1 := by simp
  have HS0 : Hid (Sep (w.alloc (.cells #[.slice a s.length c] 60)) (w.alloc (.cells #[.slice a s.length c] 60)).heap.size ([] ++ ⟨3, 1, .slice none 0 0, 0, []⟩ :: [])) := sep_one (World.ownsRow_nil _ _ _ _)
  have HN0 := hid (News.ints (h.below b0))
  rw [nats_length] at HN0
  have HB0 := hid b0
  clear h b0
  go_enter Tryz.func28, Tryz.ntmps28
  go_wp2_with (at_builtin; refine wpList_append_sep eltInt rfl _ _ rfl (w.alloc (.cells #[.slice a s.length c] 60)).heap.size [] HS0.out rfl HN0.out rfl (by omega) (Nat.le_refl _) ?_)
  intro va vc w1 hs1 hb1' hg1
  have hb1 : Below (w.heap.size + 1) (w.alloc (.cells #[.slice a s.length c] 60)) w1 := by first | exact hb1' | (rw [← z0]; exact hb1')
  have ho1 : w1.ownsRow (w.heap.size + 1) 3 1 (.slice va s.length vc) s.length (ints (nats s)) := by have := one_sep (l2 := []) (by simpa using hs1); first | exact this | (rw [← z0]; exact this)
  have H1 := hid (And.intro ho1 (HB0.out.trans (hb1.mono (by omega))))
  clear hs1 hb1 hb1' hg1 ho1 HS0 HN0
  go_wp2
  go_ret
  exact ⟨va, vc, rfl, owns_mono H1.out.1 (by omega), H1.out.2⟩
end Go.Proofs.YtiadmmnnbnamjaaGreat
