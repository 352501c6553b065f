/- The nodes that are come to, as a set; whether two sets are alike. -/
import Derived.Test.YteihecnmnajahaaGreatDoorK2
import Derived.Test.YteihecnmnajahaaGreatDoorVisit7
namespace Go.Proofs.YteihecnmnajahaaGreatDoor
open Go.RowKit
set_option linter.unusedVariables false
set_option linter.unusedSimpArgs false
set_option maxRecDepth 100000

set_option maxHeartbeats 1000000 in
/-- the program's nodes -/
theorem nodesIn_any {g : List (List Nat)} (G : Gr g) (a : Option Addr) (c : Nat) (w : World) (h : GRow w a g) (hl : (order7 g).length ≤ 1000) :
    Calls Tryz.prog 144 #[.agg #[.slice a g.length c]] w fun e w' => ∃ va vc, e = .returned (.agg #[.slice va (setL (order7 g)).length vc]) ∧ w'.ownsRow w.heap.size 3 1 (.slice va (setL (order7 g)).length vc) (setL (order7 g)).length (ints (nats (setL (order7 g)))) ∧ Below w.heap.size w w' := by
  have HO := hid (fun W (hb : Below w.heap.size w W) => iOrder_any G a c W (LRow.below h hb))
  clear h
  have b0 := below2 w (.cells #[.slice a g.length c] 43) (.cells #[.slice none 0 0] 112)
  have z0 : ((w.alloc (.cells #[.slice a g.length c] 43)).alloc (.cells #[.slice none 0 0] 112)).heap.size = w.heap.size + 2 := by simp
  have x0 : ((w.alloc (.cells #[.slice a g.length c] 43)).alloc (.cells #[.slice none 0 0] 112)).cell? ⟨w.heap.size + 1, 0, none⟩ = some (.slice none 0 0) := by simp [go_sem]
  have f0 : ((w.alloc (.cells #[.slice a g.length c] 43)).alloc (.cells #[.slice none 0 0] 112)).frozen? ⟨w.heap.size + 1, 0, none⟩ = false := by simp [go_sem]
  go_enter Tryz.func144, Tryz.ntmps144
  go_wp2_with fail
  refine (HO.out _ b0).mono ?_
  rintro e w1 ⟨va, vc, rfl, ho1, hb1⟩
  have x1 := cell_below x0 hb1
  have f1 : w1.frozen? ⟨w.heap.size + 1, 0, none⟩ = false := by rw [hb1.frozen (p := ⟨w.heap.size + 1, 0, none⟩) (by show w.heap.size + 1 < _; omega)]; exact f0
  have B1 := bstep' b0 hb1
  have z1 : w.heap.size + 2 ≤ w1.heap.size := by have := hb1.size; omega
  have HS := hid (setOf_any va vc (order7 g) w1 hl (own_row (c := vc) (by rw [nats_length]; exact ho1)))
  clear ho1 hb1 x0 f0 b0
  go_wp2_with fail
  refine HS.out.mono ?_
  rintro e w2 ⟨ua, uc, rfl, ho2, hb2⟩
  have x2 := cell_below x1 hb2
  have f2 : w2.frozen? ⟨w.heap.size + 1, 0, none⟩ = false := by rw [hb2.frozen (p := ⟨w.heap.size + 1, 0, none⟩) (by show w.heap.size + 1 < _; omega)]; exact f1
  have H2 := hid (And.intro ho2 (bstep' B1 hb2))
  clear ho2 hb2 x1 f1 HS
  go_wp2
  refine bodyPost_ret (v := .agg #[.slice ua (setL (order7 g)).length uc]) (by simp [results, Tryz.results144, go_sem, *]) rfl ⟨ua, uc, rfl, ?_, ?_⟩
  · exact owns_mono (ownsRow_setCell_below H2.out.1 (by show w.heap.size + 1 < w1.heap.size; omega) _) (by omega)
  · exact H2.out.2.setCell (by show w.heap.size ≤ w.heap.size + 1; omega) _
theorem nats_one : ∀ {s t : List Nat}, nats s = nats t → s = t
  | [], [], _ => rfl
  | [], _ :: _, h => by simp [nats] at h
  | _ :: _, [], h => by simp [nats] at h
  | x :: s, y :: t, h => by
    have h' : (x : Int) = y ∧ nats s = nats t := by simpa [nats] using h
    rw [nats_one h'.2, show x = y by omega]
set_option maxHeartbeats 1000000 in
/-- slices.Equal, over rows -/
theorem equal_any (a b : Option Addr) (c d : Nat) (s t : List Nat) (w : World) (hs : s.length ≤ 1000) (ht : t.length ≤ 1000) (h1 : Row w a (nats s)) (h2 : Row w b (nats t)) :
    Calls Tryz.prog 137 #[.slice a s.length c, .slice b t.length d] w fun e w' => e = .returned (.bool (decide (s = t))) ∧ ∃ q, w' = w.drewN q := by
  by_cases hl : s.length = t.length
  · rcases h1 with h1 | ⟨b1, o1, rfl, c1⟩
    · obtain rfl : s = [] := by cases s with | nil => rfl | cons x r => simp [nats] at h1
      obtain rfl : t = [] := List.eq_nil_of_length_eq_zero (by simpa using hl.symm)
      refine (Tryz.slices_Equal_int_empty a b c 0 d w (by omega)).mono ?_
      rintro e w' ⟨rfl, rfl⟩
      exact ⟨by simp, 0, rfl⟩
    · rcases h2 with h2 | ⟨b2, o2, rfl, c2⟩
      · obtain rfl : t = [] := by cases t with | nil => rfl | cons x r => simp [nats] at h2
        obtain rfl : s = [] := List.eq_nil_of_length_eq_zero (by simpa using hl)
        refine (Tryz.slices_Equal_int_empty (some ⟨b1, o1, none⟩) b c 0 d w (by omega)).mono ?_
        rintro e w' ⟨rfl, rfl⟩
        exact ⟨by simp, 0, rfl⟩
      · refine (Tryz.slices_Equal_int b1 o1 s.length c b2 o2 t.length d (nats s) (nats t) w (by rw [nats_length]; omega) (by rw [nats_length]; omega) (by omega) (by omega) (fun j hj => by rw [List.getD_eq_getElem?_getD]; exact c1 j hj) (fun j hj => by rw [List.getD_eq_getElem?_getD]; exact c2 j hj)).mono ?_
        rintro e w' ⟨rfl, hq⟩
        refine ⟨?_, hq⟩
        rw [List.take_of_length_le (by rw [nats_length]; omega), List.take_of_length_le (by rw [nats_length]; omega)]
        have e1 : (nats s = nats t) ↔ s = t := ⟨nats_one, fun h => by rw [h]⟩
        congr 2
        rw [Bool.eq_iff_iff, beq_iff_eq, decide_eq_true_iff]
        exact e1
  · refine (Tryz.slices_Equal_int_lens a b s.length c t.length d w hl).mono ?_
    rintro e w' ⟨rfl, rfl⟩
    exact ⟨by simp [show s ≠ t from fun h => hl (by rw [h])], 0, rfl⟩
set_option maxHeartbeats 1000000 in
theorem equals_any (a b : Option Addr) (c d : Nat) (s t : List Nat) (w : World) (hs : s.length ≤ 1000) (ht : t.length ≤ 1000) (h1 : Row w a (nats s)) (h2 : Row w b (nats t)) :
    Calls Tryz.prog 117 #[.agg #[.slice a s.length c], .agg #[.slice b t.length d]] w fun e w' => e = .returned (.bool (decide (s = t))) ∧ Below w.heap.size w w' := by
  have b0 := below2 w (.cells #[.slice a s.length c] 112) (.cells #[.slice b t.length d] 112)
  have HE := hid (equal_any a b c d s t _ hs ht (h1.below b0) (h2.below b0))
  have HB := hid b0
  clear h1 h2 b0
  go_enter Tryz.func117, Tryz.ntmps117
  go_wp2_with fail
  refine HE.out.mono ?_
  rintro e w1 ⟨rfl, q, rfl⟩
  go_wp2
  go_ret
  exact ⟨rfl, below_drewN HB.out q⟩
end Go.Proofs.YteihecnmnajahaaGreatDoor
