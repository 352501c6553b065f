/- A set made of a list of any numbers. -/
import Derived.Test.YteihecnmnajahaaGreatDoorK2
namespace Go.Proofs.YteihecnmnajahaaGreatDoor
open Go.RowKit
set_option linter.unusedVariables false
set_option linter.unusedSimpArgs false
set_option maxRecDepth 100000

def setIL (s : List Int) : List Int := Lib.compact (sortI s)
theorem setIL_rising (s : List Int) : (setIL s).Pairwise (· < ·) := (compact_rising _ (sortI_sorted s)).1
theorem setIL_mem (s : List Int) (x : Int) : x ∈ setIL s ↔ x ∈ s := by
  unfold setIL; rw [(compact_rising _ (sortI_sorted s)).2, sortI_mem]
theorem setIL_len (s : List Int) : (setIL s).length ≤ s.length := by
  unfold setIL; exact Nat.le_trans (Lib.compact_length_le _) (by rw [sortI_len]; exact Nat.le_refl _)
theorem setIL_nats (s : List Nat) : setIL (nats s) = nats (setL s) := set_eq s
/-- a row is sorted -/
theorem sort_ownI (B : Nat) (v : Value) (zs : List Int) (w : World) (hl : zs.length ≤ 100000) (h : w.ownsRow B 3 1 v zs.length (ints zs)) :
    Calls Tryz.prog 123 #[v] w fun e w' => e = .returned (.tuple #[]) ∧ w'.ownsRow B 3 1 v zs.length (ints (sortI zs)) ∧ w.grownBy w' v.ownBlock := by
  rcases h.2 with ⟨rfl, h0⟩ | ⟨g, cap, cur, rfl, hBg, hg, hn, hm, hsz, htk⟩
  · have : zs = [] := List.eq_nil_of_length_eq_zero h0
    subst this
    refine (Tryz.slices_Sort_int_none none 0 w).mono ?_
    rintro e w' ⟨rfl, rfl⟩
    exact ⟨rfl, by simpa [sortI] using h, World.grownBy.refl _ _⟩
  · have hH := Lib.holds_of_ints (w := w) (b := g) (off := 0) (zs := zs) (n := zs.length) (Nat.le_refl _) (fun j hj => by rw [Nat.zero_add]; exact rowT_at h rfl (by simp [ints, hj, List.getD])) (fun j hj => by rw [Nat.zero_add]; exact h.frozenAt j)
    rw [List.take_of_length_le (Nat.le_refl _)] at hH
    refine (Tryz.slices_Sort_int g 0 cap zs w hH (h.lt g rfl).2 (by omega)).mono ?_
    rintro e w' ⟨rfl, q, os, rfl⟩
    have hp := Lib.putRow_eq_setCells (Value.int .i64) w g 0 zs.toArray (sortI zs) q hH (by simp [sortI_len])
    obtain ⟨h1, h2⟩ := own_setCells (ints (sortI zs)) (w.drewN q) 0 (ints zs) h (by simp [ints, sortI_len])
    have e1 : (ints zs).drop (0 + (ints (sortI zs)).length) = [] := List.drop_of_length_le (by simp [ints, sortI_len])
    rw [e1, List.take_zero, List.nil_append, List.append_nil] at h1
    have hb : Below ((w.drewN q).setCells g 0 (ints (sortI zs))).heap.size ((w.drewN q).setCells g 0 (ints (sortI zs))) (Go.Sort.grow ((w.drewN q).setCells g 0 (ints (sortI zs))) os) :=
      ⟨rfl, rfl, rfl, by simp [Go.Sort.grow], fun k hk => by simp only [Go.Sort.grow]; rw [Array.getElem?_append_left hk]⟩
    have hp' : Go.Sort.putRow (Value.int .i64) (Go.Sort.ahead w q) g 0 (zs.mergeSort fun x y => decide (x ≤ y)).toArray = (w.drewN q).setCells g 0 (ints (sortI zs)) := hp
    rw [hp']
    exact ⟨rfl, owns_below h1 hb, ((show w.grownBy (w.drewN q) (some g) from grownBy_of_below (below_drewN (Below.refl _ _) q) _).trans h2).trans (grownBy_of_below hb _)⟩
/-- a row is made to have each number once -/
theorem compact_ownI (B : Nat) (v : Value) (zs : List Int) (w : World) (hl : zs.length ≤ 100000) (h : w.ownsRow B 3 1 v zs.length (ints zs)) :
    Calls Tryz.prog 124 #[v] w fun e w' => ∃ va vc, e = .returned (.slice va (Lib.compact zs).length vc) ∧ w'.ownsRow B 3 1 (.slice va (Lib.compact zs).length vc) (Lib.compact zs).length (ints (Lib.compact zs)) ∧ w.grownBy w' v.ownBlock := by
  rcases h.2 with ⟨rfl, h0⟩ | ⟨g, cap, cur, rfl, hBg, hg, hn, hm, hsz, htk⟩
  · have : zs = [] := List.eq_nil_of_length_eq_zero h0
    subst this
    refine (Tryz.slices_Compact_int_empty none 0 w).mono ?_
    rintro e w' ⟨rfl, rfl⟩
    exact ⟨none, 0, by simp [Lib.compact, Lib.compactUpTo], by simpa [Lib.compact, Lib.compactUpTo] using h, World.grownBy.refl _ _⟩
  · refine (Tryz.slices_Compact_int_cells g 0 zs.length cap zs w (Nat.le_refl _) (by omega) hn (fun j hj => by rw [Nat.zero_add]; exact rowT_at h rfl (by simp [ints, hj, List.getD])) (fun j hj => by rw [Nat.zero_add]; exact h.frozenAt j)).mono ?_
    rintro e w' ⟨rfl, q, rfl⟩
    rw [List.take_of_length_le (Nat.le_refl _)]
    have hle := Lib.compact_length_le zs
    obtain ⟨L, hL⟩ : ∃ L, L = Lib.compact zs := ⟨_, rfl⟩
    rw [← hL] at hle ⊢
    have e0 : ((L ++ List.replicate (zs.length - L.length) 0).map (Value.int .i64)) = ints L ++ ints (List.replicate (zs.length - L.length) 0) := by simp [ints]
    rw [e0]
    have hl2 : (ints L ++ ints (List.replicate (zs.length - L.length) 0)).length = zs.length := by simp [ints]; omega
    obtain ⟨h1, h2⟩ := own_setCells (ints L ++ ints (List.replicate (zs.length - L.length) 0)) (w.drewN q) 0 (ints zs) h (by omega)
    have e1 : (ints zs).drop (0 + (ints L ++ ints (List.replicate (zs.length - L.length) 0)).length) = [] := List.drop_of_length_le (by rw [hl2]; simp [ints])
    rw [e1, List.take_zero, List.nil_append, List.append_nil] at h1
    refine ⟨_, _, rfl, ?_, (show w.grownBy (w.drewN q) (some g) from grownBy_of_below (below_drewN (Below.refl _ _) q) _).trans h2⟩
    have h3 := own_cut h1 (m := L.length) hle
    have e3 : (ints L ++ ints (List.replicate (zs.length - L.length) 0)).take L.length = ints L := by
      rw [List.take_append_of_le_length (by simp [ints]), List.take_of_length_le (by simp [ints])]
    first
      | (rw [e3] at h3; exact h3)
      | (rw [Nat.mul_one, e3] at h3; exact h3)
set_option maxHeartbeats 1000000 in
/-- the program's set of a list -/
theorem setOf_anyI (a : Option Addr) (c : Nat) (s : List Int) (w : World) (hl : s.length ≤ 100000) (h : Row w a (s)) :
    Calls Tryz.prog 87 #[.slice a s.length c] w fun e w' => ∃ va vc, e = .returned (.agg #[.slice va (setIL s).length vc]) ∧ w'.ownsRow w.heap.size 3 1 (.slice va (setIL s).length vc) (setIL s).length (ints (setIL s)) ∧ Below w.heap.size w w' := by
  have b0 := below1 w (.cells #[.slice none 0 0] 112)
  have z0 : (w.alloc (.cells #[.slice none 0 0] 112)).heap.size = w.heap.size + 1 := by simp
  have x0 : (w.alloc (.cells #[.slice none 0 0] 112)).cell? ⟨w.heap.size, 0, none⟩ = some (.slice none 0 0) := by simp [go_sem]
  have f0 : (w.alloc (.cells #[.slice none 0 0] 112)).frozen? ⟨w.heap.size, 0, none⟩ = false := by simp [go_sem]
  have HS0 : Hid (Sep (w.alloc (.cells #[.slice none 0 0] 112)) (w.alloc (.cells #[.slice none 0 0] 112)).heap.size ([] ++ ⟨3, 1, .slice none 0 0, 0, []⟩ :: [])) := sep_one (World.ownsRow_nil _ _ _ _)
  have HN0 := hid (News.ints (h.below b0))
  clear h
  go_enter Tryz.func87, Tryz.ntmps87
  go_wp2_with (at_builtin; refine wpList_append_sep eltInt rfl _ _ rfl (w.alloc (.cells #[.slice none 0 0] 112)).heap.size [] HS0.out rfl HN0.out rfl (by omega) (Nat.le_refl _) ?_)
  intro va vc w1 hs1 hb1' hg1
  have hb1 : Below (w.heap.size + 1) (w.alloc (.cells #[.slice none 0 0] 112)) w1 := by first | exact hb1' | (rw [← z0]; exact hb1')
  have ho1 : w1.ownsRow (w.heap.size + 1) 3 1 (.slice va s.length vc) s.length (ints (s)) := by have := one_sep (l2 := []) (by simpa using hs1); first | exact this | (rw [← z0]; exact this)
  have x1 : w1.cell? ⟨w.heap.size, 0, none⟩ = some (.slice none 0 0) := by rw [hb1.cell (p := ⟨w.heap.size, 0, none⟩) (by show w.heap.size < _; omega)]; exact x0
  have f1 : w1.frozen? ⟨w.heap.size, 0, none⟩ = false := by rw [hb1.frozen (p := ⟨w.heap.size, 0, none⟩) (by show w.heap.size < _; omega)]; exact f0
  have HB1 := hid (b0.trans (hb1.mono (by omega)))
  have z1 : w.heap.size + 1 ≤ w1.heap.size := by have := hb1.size; omega
  have HSO := hid (sort_ownI (w.heap.size + 1) (.slice va s.length vc) (s) w1 hl ho1)
  have HGE : Hid (∀ j, (Value.slice va s.length vc).ownBlock = some j → w.heap.size + 1 ≤ j) := fun j hj => (ho1.lt j hj).1
  clear hs1 hb1 hb1' hg1 ho1 x0 f0 b0 HS0 HN0
  go_wp2_with fail
  refine HSO.out.mono ?_
  rintro e w2 ⟨rfl, ho2, hg2⟩
  have hbw : Below (w.heap.size + 1) w1 w2 := (Below.refl _ w1).grown hg2 z1 (fun j hj => HGE.out j hj)
  have x2 : w2.cell? ⟨w.heap.size, 0, none⟩ = some (.slice none 0 0) := by rw [hbw.cell (p := ⟨w.heap.size, 0, none⟩) (by show w.heap.size < _; omega)]; exact x1
  have f2 : w2.frozen? ⟨w.heap.size, 0, none⟩ = false := by rw [hbw.frozen (p := ⟨w.heap.size, 0, none⟩) (by show w.heap.size < _; omega)]; exact f1
  have z2 : w.heap.size + 1 ≤ w2.heap.size := Nat.le_trans z1 hbw.size
  have HB2 := hid (HB1.out.trans (hbw.mono (by omega)))
  have HCO : Hid (Calls Tryz.prog 124 #[.slice va s.length vc] w2 fun e w' => ∃ va vc', e = .returned (.slice va (setIL s).length vc') ∧ w'.ownsRow (w.heap.size + 1) 3 1 (.slice va (setIL s).length vc') (setIL s).length (ints (setIL s)) ∧ Below (w.heap.size + 1) w2 w') := by
    have h1 : w2.ownsRow (w.heap.size + 1) 3 1 (.slice va s.length vc) (sortI (s)).length (ints (sortI (s))) := by rw [sortI_len]; exact ho2
    refine (compact_ownI (w.heap.size + 1) (.slice va s.length vc) (sortI (s)) w2 (by rw [sortI_len]; exact hl) h1).mono ?_
    rintro e w' ⟨va', vc', rfl, h2, h3⟩
    rw [show Lib.compact (sortI s) = setIL s from rfl] at h2 ⊢
    exact ⟨va', vc', rfl, h2, (Below.refl _ w2).grown h3 z2 (fun j hj => HGE.out j hj)⟩
  clear ho2 hg2 hbw x1 f1 HSO
  go_wp2_with fail
  refine HCO.out.mono ?_
  rintro e w3 ⟨va3, vc3, rfl, ho3, hb3⟩
  have x3 : w3.cell? ⟨w.heap.size, 0, none⟩ = some (.slice none 0 0) := by rw [hb3.cell (p := ⟨w.heap.size, 0, none⟩) (by show w.heap.size < _; omega)]; exact x2
  have f3 : w3.frozen? ⟨w.heap.size, 0, none⟩ = false := by rw [hb3.frozen (p := ⟨w.heap.size, 0, none⟩) (by show w.heap.size < _; omega)]; exact f2
  have H3 := hid (And.intro ho3 (HB2.out.trans (hb3.mono (by omega))))
  clear ho3 hb3 x2 f2 HCO
  go_wp2
  refine bodyPost_ret (v := .agg #[.slice va3 (setIL s).length vc3]) (by simp [results, Tryz.results87, go_sem, *]) rfl ⟨va3, vc3, rfl, ?_, ?_⟩
  · exact owns_mono (ownsRow_setCell_below H3.out.1 (by show w.heap.size < w.heap.size + 1; omega) _) (by omega)
  · exact H3.out.2.setCell (Nat.le_refl _) _
end Go.Proofs.YteihecnmnajahaaGreatDoor
