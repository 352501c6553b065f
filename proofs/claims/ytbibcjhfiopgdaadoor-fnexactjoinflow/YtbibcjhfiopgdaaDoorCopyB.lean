/- Copies of a block: the program's and the model's. -/
import Derived.Test.YtbibcjhfiopgdaaDoorApp
namespace Go.Proofs.YtbibcjhfiopgdaaDoor
open Go.RowKit
set_option linter.unusedVariables false
set_option linter.unusedSimpArgs false
set_option maxRecDepth 100000

set_option maxHeartbeats 4000000 in
theorem copyBlock_any (go test : Int) (cs : List Flt) (ns : List Int) (ca na : Option Addr) (cc nc : Nat) (w : World) (hc : cs.length ≤ 1048576) (hn : ns.length ≤ 1048576) (hC : FRow w ca cs) (hN : Row w na ns) :
    Calls Tryd.prog 86 #[.agg #[.slice ca cs.length cc, .int .i64 go, .int .i64 test, .slice na ns.length nc]] w fun e w' => ∃ va vc ua uc, e = .returned (.agg #[.slice va cs.length vc, .int .i64 go, .int .i64 test, .slice ua ns.length uc]) ∧ Sep w' w.heap.size (rowsOf ⟨⟨cs, go, test, ns⟩, .slice va cs.length vc, .slice ua ns.length uc⟩) ∧ Below w.heap.size w w' := by
  have HR := hid (And.intro hC hN)
  clear hC hN
  obtain ⟨W0, hW0⟩ : ∃ W0, (w.alloc (.cells #[.slice ca cs.length cc, .int .i64 go, .int .i64 test, .slice na ns.length nc] 60)).alloc (.cells #[.slice none 0 0, .int .i64 0, .int .i64 0, .slice none 0 0] 60) = W0 := ⟨_, rfl⟩
  have HS0 : Hid (Sep W0 W0.heap.size ([] ++ ⟨86, 6, .slice none 0 0, 0, []⟩ :: [])) := sep_one (World.ownsRow_nil _ _ _ _)
  have HB0 : Hid (Below w.heap.size w W0) := by show Below _ _ _; rw [← hW0]; exact below2 w _ _
  have hsz0 : W0.heap.size = w.heap.size + 1 + 1 := by rw [← hW0]; simp
  have HW0 := hid hW0
  have HSZ0 := hid hsz0
  have HN0 := hid (News.flats (HR.out.1.below HB0.out))
  have c00 : W0.cell? ⟨w.heap.size, 0, none⟩ = some (.slice ca cs.length cc) := by rw [← hW0]; simp [go_sem]
  have c01 : W0.cell? ⟨w.heap.size, 1, none⟩ = some (.int .i64 go) := by rw [← hW0]; simp [go_sem]
  have c02 : W0.cell? ⟨w.heap.size, 2, none⟩ = some (.int .i64 test) := by rw [← hW0]; simp [go_sem]
  have c03 : W0.cell? ⟨w.heap.size, 3, none⟩ = some (.slice na ns.length nc) := by rw [← hW0]; simp [go_sem]
  have c10 : W0.cell? ⟨w.heap.size + 1, 0, none⟩ = some (.slice none 0 0) := by rw [← hW0]; simp [go_sem]
  have c11 : W0.cell? ⟨w.heap.size + 1, 1, none⟩ = some (.int .i64 0) := by rw [← hW0]; simp [go_sem]
  have c12 : W0.cell? ⟨w.heap.size + 1, 2, none⟩ = some (.int .i64 0) := by rw [← hW0]; simp [go_sem]
  have c13 : W0.cell? ⟨w.heap.size + 1, 3, none⟩ = some (.slice none 0 0) := by rw [← hW0]; simp [go_sem]
  have f00 : W0.frozen? ⟨w.heap.size, 0, none⟩ = false := by rw [← hW0]; simp [go_sem]
  have f01 : W0.frozen? ⟨w.heap.size, 1, none⟩ = false := by rw [← hW0]; simp [go_sem]
  have f02 : W0.frozen? ⟨w.heap.size, 2, none⟩ = false := by rw [← hW0]; simp [go_sem]
  have f03 : W0.frozen? ⟨w.heap.size, 3, none⟩ = false := by rw [← hW0]; simp [go_sem]
  have f10 : W0.frozen? ⟨w.heap.size + 1, 0, none⟩ = false := by rw [← hW0]; simp [go_sem]
  have f11 : W0.frozen? ⟨w.heap.size + 1, 1, none⟩ = false := by rw [← hW0]; simp [go_sem]
  have f12 : W0.frozen? ⟨w.heap.size + 1, 2, none⟩ = false := by rw [← hW0]; simp [go_sem]
  have f13 : W0.frozen? ⟨w.heap.size + 1, 3, none⟩ = false := by rw [← hW0]; simp [go_sem]
  clear hW0 hsz0
  go_enter Tryd.func86, Tryd.ntmps86
  go_wp2_with (at_builtin; rw [HW0.out]; refine wpList_append_sep eltFlat rfl _ _ rfl W0.heap.size [] HS0.out rfl HN0.out rfl (by omega) (Nat.le_refl _) ?_)
  intro va vc w1 hs1 hb1 hg1
  obtain ⟨hcc, hff⟩ := bcell hb1
  have hsz := HSZ0.out
  have d00 : w1.cell? ⟨w.heap.size, 0, none⟩ = some (.slice ca cs.length cc) := by rw [hcc _ _ (by omega)]; exact c00
  have d01 : w1.cell? ⟨w.heap.size, 1, none⟩ = some (.int .i64 go) := by rw [hcc _ _ (by omega)]; exact c01
  have d02 : w1.cell? ⟨w.heap.size, 2, none⟩ = some (.int .i64 test) := by rw [hcc _ _ (by omega)]; exact c02
  have d03 : w1.cell? ⟨w.heap.size, 3, none⟩ = some (.slice na ns.length nc) := by rw [hcc _ _ (by omega)]; exact c03
  have d10 : w1.cell? ⟨w.heap.size + 1, 0, none⟩ = some (.slice none 0 0) := by rw [hcc _ _ (by omega)]; exact c10
  have d11 : w1.cell? ⟨w.heap.size + 1, 1, none⟩ = some (.int .i64 0) := by rw [hcc _ _ (by omega)]; exact c11
  have d12 : w1.cell? ⟨w.heap.size + 1, 2, none⟩ = some (.int .i64 0) := by rw [hcc _ _ (by omega)]; exact c12
  have d13 : w1.cell? ⟨w.heap.size + 1, 3, none⟩ = some (.slice none 0 0) := by rw [hcc _ _ (by omega)]; exact c13
  have g00 : w1.frozen? ⟨w.heap.size, 0, none⟩ = false := by rw [hff _ _ (by omega)]; exact f00
  have g01 : w1.frozen? ⟨w.heap.size, 1, none⟩ = false := by rw [hff _ _ (by omega)]; exact f01
  have g02 : w1.frozen? ⟨w.heap.size, 2, none⟩ = false := by rw [hff _ _ (by omega)]; exact f02
  have g03 : w1.frozen? ⟨w.heap.size, 3, none⟩ = false := by rw [hff _ _ (by omega)]; exact f03
  have g10 : w1.frozen? ⟨w.heap.size + 1, 0, none⟩ = false := by rw [hff _ _ (by omega)]; exact f10
  have g11 : w1.frozen? ⟨w.heap.size + 1, 1, none⟩ = false := by rw [hff _ _ (by omega)]; exact f11
  have g12 : w1.frozen? ⟨w.heap.size + 1, 2, none⟩ = false := by rw [hff _ _ (by omega)]; exact f12
  have g13 : w1.frozen? ⟨w.heap.size + 1, 3, none⟩ = false := by rw [hff _ _ (by omega)]; exact f13
  have HO1 := hid (one_sep (l2 := []) hs1)
  have HB1 := hid ((bstep' HB0.out hb1).setCell (p := ⟨w.heap.size, 0, none⟩) (Nat.le_refl _) (.slice va cs.length vc))
  have hs1z := hb1.size
  clear hs1 hb1 hg1 hcc hff c00 c01 c02 c03 c10 c11 c12 c13 f00 f01 f02 f03 f10 f11 f12 f13 HN0
  obtain ⟨W1, hW1⟩ : ∃ W1, w1.setCell ⟨w.heap.size, 0, none⟩ (.slice va cs.length vc) = W1 := ⟨_, rfl⟩
  rw [hW1] at HB1
  have HS1 : Hid (Sep W1 W1.heap.size ([] ++ ⟨3, 1, .slice none 0 0, 0, []⟩ :: [])) := sep_one (World.ownsRow_nil _ _ _ _)
  have HN1 := hid (News.ints (HR.out.2.below HB1.out))
  have HO2 : Hid (W1.ownsRow W0.heap.size 86 6 (.slice va cs.length vc) cs.length (flatF cs)) := by
    show World.ownsRow _ _ _ _ _ _ _
    rw [← hW1]
    exact ownsRow_setCell_below HO1.out (by simp; omega) _
  have hz1 : W1.heap.size = w1.heap.size := by rw [← hW1]; simp
  have HW1 := hid hW1
  have HZ1 := hid hz1
  clear hW1 hz1 HO1
  go_wp2_with (at_builtin; rw [HW1.out]; refine wpList_append_sep eltInt rfl _ _ rfl W1.heap.size [] HS1.out rfl HN1.out rfl (by omega) (Nat.le_refl _) ?_)
  intro ua uc w2 hs2 hb2 hg2
  have hsz1 := HZ1.out
  obtain ⟨hcc, hff⟩ := bcell hb2
  have e00 : w2.cell? ⟨w.heap.size, 0, none⟩ = some (.slice va cs.length vc) := by rw [hcc _ _ (by omega), ← HW1.out]; simp [go_sem, d00]
  have e01 : w2.cell? ⟨w.heap.size, 1, none⟩ = some (.int .i64 go) := by rw [hcc _ _ (by omega), ← HW1.out]; simp [go_sem, d01]
  have e02 : w2.cell? ⟨w.heap.size, 2, none⟩ = some (.int .i64 test) := by rw [hcc _ _ (by omega), ← HW1.out]; simp [go_sem, d02]
  have e03 : w2.cell? ⟨w.heap.size, 3, none⟩ = some (.slice na ns.length nc) := by rw [hcc _ _ (by omega), ← HW1.out]; simp [go_sem, d03]
  have k03 : w2.frozen? ⟨w.heap.size, 3, none⟩ = false := by rw [hff _ _ (by omega), ← HW1.out]; simp [go_sem, g03]
  have e10 : w2.cell? ⟨w.heap.size + 1, 0, none⟩ = some (.slice none 0 0) := by rw [hcc _ _ (by omega), ← HW1.out]; simp [go_sem, d10]
  have e11 : w2.cell? ⟨w.heap.size + 1, 1, none⟩ = some (.int .i64 0) := by rw [hcc _ _ (by omega), ← HW1.out]; simp [go_sem, d11]
  have e12 : w2.cell? ⟨w.heap.size + 1, 2, none⟩ = some (.int .i64 0) := by rw [hcc _ _ (by omega), ← HW1.out]; simp [go_sem, d12]
  have e13 : w2.cell? ⟨w.heap.size + 1, 3, none⟩ = some (.slice none 0 0) := by rw [hcc _ _ (by omega), ← HW1.out]; simp [go_sem, d13]
  have k10 : w2.frozen? ⟨w.heap.size + 1, 0, none⟩ = false := by rw [hff _ _ (by omega), ← HW1.out]; simp [go_sem, g10]
  have k11 : w2.frozen? ⟨w.heap.size + 1, 1, none⟩ = false := by rw [hff _ _ (by omega), ← HW1.out]; simp [go_sem, g11]
  have k12 : w2.frozen? ⟨w.heap.size + 1, 2, none⟩ = false := by rw [hff _ _ (by omega), ← HW1.out]; simp [go_sem, g12]
  have k13 : w2.frozen? ⟨w.heap.size + 1, 3, none⟩ = false := by rw [hff _ _ (by omega), ← HW1.out]; simp [go_sem, g13]
  have hoa : w2.ownsRow W0.heap.size 86 6 (.slice va cs.length vc) cs.length (flatF cs) := owns_below HO2.out hb2
  have hob : w2.ownsRow W1.heap.size 3 1 (.slice ua ns.length uc) ns.length (ints ns) := one_sep (l2 := []) hs2
  have HS : Hid (w2.ownsRow W0.heap.size 86 6 (.slice va cs.length vc) cs.length (flatF cs) ∧ w2.ownsRow W0.heap.size 3 1 (.slice ua ns.length uc) ns.length (ints ns) ∧ ∀ g, (Value.slice va cs.length vc).ownBlock = some g → g < W1.heap.size) := ⟨hoa, owns_mono hob (by omega), fun g e => (HO2.out.lt g e).2⟩
  have HN : Hid (∀ g, (Value.slice ua ns.length uc).ownBlock = some g → W1.heap.size ≤ g) := fun g e => (hob.lt g e).1
  have HB2 := hid (bstep' HB1.out hb2)
  clear hs2 hb2 hg2 hcc hff hoa hob d00 d01 d02 d03 d10 d11 d12 d13 g00 g01 g02 g03 g10 g11 g12 g13
  go_wp2
  refine bodyPost_ret (v := .agg #[.slice va cs.length vc, .int .i64 go, .int .i64 test, .slice ua ns.length uc]) (by simp [results, Tryd.results86, go_sem, *]) rfl ⟨va, vc, ua, uc, rfl, ⟨?_, ?_⟩, ?_⟩
  · have k1 : ∀ {t n : Nat} {v : Value} {xs : List Value} {s : Nat}, w2.ownsRow W0.heap.size t s v n xs → (((((w2.setCell ⟨w.heap.size, 3, none⟩ (.slice ua ns.length uc)).setCell ⟨w.heap.size + 1, 0, none⟩ (.slice va cs.length vc)).setCell ⟨w.heap.size + 1, 1, none⟩ (.int .i64 go)).setCell ⟨w.heap.size + 1, 2, none⟩ (.int .i64 test)).setCell ⟨w.heap.size + 1, 3, none⟩ (.slice ua ns.length uc)).ownsRow w.heap.size t s v n xs := fun h => owns_mono (ownsRow_setCell_below (ownsRow_setCell_below (ownsRow_setCell_below (ownsRow_setCell_below (ownsRow_setCell_below h (by simp; omega) _) (by simp; omega) _) (by simp; omega) _) (by simp; omega) _) (by simp; omega) _) (by omega)
    intro x hx
    simp only [rowsOf, List.mem_cons, List.not_mem_nil, or_false] at hx
    rcases hx with rfl | rfl
    · exact k1 HS.out.1
    · exact k1 HS.out.2.1
  · simp only [rowsOf, List.pairwise_cons, List.mem_cons, List.not_mem_nil, or_false, forall_eq, false_implies, implies_true, List.Pairwise.nil, and_true]
    cases e : (Value.slice va cs.length vc).ownBlock with
    | none => exact .inl e
    | some g =>
      right; intro he
      have h1 := HS.out.2.2 g e
      have h2 := HN.out g (he.symm.trans e)
      omega
  · exact ((((HB2.out.setCell (by simp) _).setCell (by simp) _).setCell (by simp) _).setCell (by simp) _).setCell (by simp) _
theorem bcellB {B : Nat} {W w1 : World} (hb : Below B W w1) : (∀ b o, b < B → w1.cell? ⟨b, o, none⟩ = W.cell? ⟨b, o, none⟩) ∧ (∀ b o, b < B → w1.frozen? ⟨b, o, none⟩ = W.frozen? ⟨b, o, none⟩) :=
  ⟨fun b o h => hb.cell (p := ⟨b, o, none⟩) h, fun b o h => hb.frozen (p := ⟨b, o, none⟩) h⟩
theorem owns_belowB {w w' : World} {B B' : Nat} {e : TypeId} {size : Nat} {v : Value} {n : Nat} {xs : List Value} (h : w.ownsRow B e size v n xs) (hb : Below B' w w') (hB : B' ≤ w.heap.size) (hlt : ∀ g, v.ownBlock = some g → g < B') : w'.ownsRow B e size v n xs := by
  refine ⟨h.1, ?_⟩
  rcases h.2 with hn | ⟨g, cap, cur, rfl, hg1, hgg, rest⟩
  · exact .inl hn
  · refine .inr ⟨g, cap, cur, rfl, hg1, ?_, rest⟩
    rw [hb.block g (hlt g rfl)]
    exact hgg
set_option maxHeartbeats 4000000 in
theorem sOwn_any (go test : Int) (cs : List Flt) (ns : List Int) (ca na : Option Addr) (cc nc : Nat) (w : World) (hc : cs.length ≤ 1048576) (hn : ns.length ≤ 1048576) (hC : FRow w ca cs) (hN : Row w na ns) :
    Calls Tryd.prog 84 #[.agg #[.slice ca cs.length cc, .int .i64 go, .int .i64 test, .slice na ns.length nc]] w fun e w' => ∃ va vc ua uc, e = .returned (.agg #[.slice va cs.length vc, .int .i64 go, .int .i64 test, .slice ua ns.length uc]) ∧ Sep w' w.heap.size (rowsOf ⟨⟨cs, go, test, ns⟩, .slice va cs.length vc, .slice ua ns.length uc⟩) ∧ Below w.heap.size w w' := by
  have HR := hid (And.intro hC hN)
  clear hC hN
  obtain ⟨W0, hW0⟩ : ∃ W0, ((w.alloc (.cells #[.slice ca cs.length cc, .int .i64 go, .int .i64 test, .slice na ns.length nc] 60)).alloc (.cells #[.slice none 0 0, .int .i64 0, .int .i64 0, .slice none 0 0] 60)).alloc (.cells #[] 86) = W0 := ⟨_, rfl⟩
  have HS0 : Hid (Sep W0 (w.heap.size + 1 + 1) ([] ++ ⟨86, 6, .slice (some ⟨w.heap.size + 1 + 1, 0, none⟩) 0 0, 0, []⟩ :: [])) := by
    refine sep_one ⟨rfl, .inr ⟨w.heap.size + 1 + 1, 0, #[], rfl, Nat.le_refl _, ?_, Nat.le_refl _, by unfold maxLen; omega, rfl, rfl⟩⟩
    have := heap_alloc_new ((w.alloc (.cells #[.slice ca cs.length cc, .int .i64 go, .int .i64 test, .slice na ns.length nc] 60)).alloc (.cells #[.slice none 0 0, .int .i64 0, .int .i64 0, .slice none 0 0] 60)) (.cells #[] 86)
    rw [hW0] at this
    simpa using this
  have HB0 : Hid (Below w.heap.size w W0) := by show Below _ _ _; rw [← hW0]; exact below3 w _ _ _
  have hsz0 : W0.heap.size = w.heap.size + 1 + 1 + 1 := by rw [← hW0]; simp
  have HW0 := hid hW0
  have HSZ0 := hid hsz0
  have HN0 := hid (News.flats (HR.out.1.below HB0.out))
  have c00 : W0.cell? ⟨w.heap.size, 0, none⟩ = some (.slice ca cs.length cc) := by rw [← hW0]; simp [go_sem]
  have c01 : W0.cell? ⟨w.heap.size, 1, none⟩ = some (.int .i64 go) := by rw [← hW0]; simp [go_sem]
  have c02 : W0.cell? ⟨w.heap.size, 2, none⟩ = some (.int .i64 test) := by rw [← hW0]; simp [go_sem]
  have c03 : W0.cell? ⟨w.heap.size, 3, none⟩ = some (.slice na ns.length nc) := by rw [← hW0]; simp [go_sem]
  have c10 : W0.cell? ⟨w.heap.size + 1, 0, none⟩ = some (.slice none 0 0) := by rw [← hW0]; simp [go_sem]
  have c11 : W0.cell? ⟨w.heap.size + 1, 1, none⟩ = some (.int .i64 0) := by rw [← hW0]; simp [go_sem]
  have c12 : W0.cell? ⟨w.heap.size + 1, 2, none⟩ = some (.int .i64 0) := by rw [← hW0]; simp [go_sem]
  have c13 : W0.cell? ⟨w.heap.size + 1, 3, none⟩ = some (.slice none 0 0) := by rw [← hW0]; simp [go_sem]
  have f00 : W0.frozen? ⟨w.heap.size, 0, none⟩ = false := by rw [← hW0]; simp [go_sem]
  have f01 : W0.frozen? ⟨w.heap.size, 1, none⟩ = false := by rw [← hW0]; simp [go_sem]
  have f02 : W0.frozen? ⟨w.heap.size, 2, none⟩ = false := by rw [← hW0]; simp [go_sem]
  have f03 : W0.frozen? ⟨w.heap.size, 3, none⟩ = false := by rw [← hW0]; simp [go_sem]
  have f10 : W0.frozen? ⟨w.heap.size + 1, 0, none⟩ = false := by rw [← hW0]; simp [go_sem]
  have f11 : W0.frozen? ⟨w.heap.size + 1, 1, none⟩ = false := by rw [← hW0]; simp [go_sem]
  have f12 : W0.frozen? ⟨w.heap.size + 1, 2, none⟩ = false := by rw [← hW0]; simp [go_sem]
  have f13 : W0.frozen? ⟨w.heap.size + 1, 3, none⟩ = false := by rw [← hW0]; simp [go_sem]
  clear hW0 hsz0
  go_enter Tryd.func84, Tryd.ntmps84
  go_wp2_with (at_builtin; rw [HW0.out]; refine wpList_append_sep eltFlat rfl _ _ rfl (w.heap.size + 1 + 1) [] HS0.out rfl HN0.out rfl (by omega) (by have := HSZ0.out; omega) ?_)
  intro va vc w1 hs1 hb1 hg1
  obtain ⟨hcc, hff⟩ := bcellB hb1
  have hsz := HSZ0.out
  have d00 : w1.cell? ⟨w.heap.size, 0, none⟩ = some (.slice ca cs.length cc) := by rw [hcc _ _ (by omega)]; exact c00
  have d01 : w1.cell? ⟨w.heap.size, 1, none⟩ = some (.int .i64 go) := by rw [hcc _ _ (by omega)]; exact c01
  have d02 : w1.cell? ⟨w.heap.size, 2, none⟩ = some (.int .i64 test) := by rw [hcc _ _ (by omega)]; exact c02
  have d03 : w1.cell? ⟨w.heap.size, 3, none⟩ = some (.slice na ns.length nc) := by rw [hcc _ _ (by omega)]; exact c03
  have d10 : w1.cell? ⟨w.heap.size + 1, 0, none⟩ = some (.slice none 0 0) := by rw [hcc _ _ (by omega)]; exact c10
  have d11 : w1.cell? ⟨w.heap.size + 1, 1, none⟩ = some (.int .i64 0) := by rw [hcc _ _ (by omega)]; exact c11
  have d12 : w1.cell? ⟨w.heap.size + 1, 2, none⟩ = some (.int .i64 0) := by rw [hcc _ _ (by omega)]; exact c12
  have d13 : w1.cell? ⟨w.heap.size + 1, 3, none⟩ = some (.slice none 0 0) := by rw [hcc _ _ (by omega)]; exact c13
  have g00 : w1.frozen? ⟨w.heap.size, 0, none⟩ = false := by rw [hff _ _ (by omega)]; exact f00
  have g01 : w1.frozen? ⟨w.heap.size, 1, none⟩ = false := by rw [hff _ _ (by omega)]; exact f01
  have g02 : w1.frozen? ⟨w.heap.size, 2, none⟩ = false := by rw [hff _ _ (by omega)]; exact f02
  have g03 : w1.frozen? ⟨w.heap.size, 3, none⟩ = false := by rw [hff _ _ (by omega)]; exact f03
  have g10 : w1.frozen? ⟨w.heap.size + 1, 0, none⟩ = false := by rw [hff _ _ (by omega)]; exact f10
  have g11 : w1.frozen? ⟨w.heap.size + 1, 1, none⟩ = false := by rw [hff _ _ (by omega)]; exact f11
  have g12 : w1.frozen? ⟨w.heap.size + 1, 2, none⟩ = false := by rw [hff _ _ (by omega)]; exact f12
  have g13 : w1.frozen? ⟨w.heap.size + 1, 3, none⟩ = false := by rw [hff _ _ (by omega)]; exact f13
  have HO1 := hid (one_sep (l2 := []) hs1)
  have HB1 := hid ((HB0.out.trans (hb1.mono (by omega))).setCell (p := ⟨w.heap.size, 0, none⟩) (Nat.le_refl _) (.slice va cs.length vc))
  have hs1z := hb1.size
  clear hs1 hb1 hg1 hcc hff c00 c01 c02 c03 c10 c11 c12 c13 f00 f01 f02 f03 f10 f11 f12 f13 HN0
  have HB1 := hid (bstep' HB1.out (below1 _ (.cells #[] 3)))
  obtain ⟨W1, hW1⟩ : ∃ W1, (w1.setCell ⟨w.heap.size, 0, none⟩ (.slice va cs.length vc)).alloc (.cells #[] 3) = W1 := ⟨_, rfl⟩
  rw [hW1] at HB1
  have HS1 : Hid (Sep W1 w1.heap.size ([] ++ ⟨3, 1, .slice (some ⟨w1.heap.size, 0, none⟩) 0 0, 0, []⟩ :: [])) := by
    refine sep_one ⟨rfl, .inr ⟨w1.heap.size, 0, #[], rfl, Nat.le_refl _, ?_, Nat.le_refl _, by unfold maxLen; omega, rfl, rfl⟩⟩
    have := heap_alloc_new (w1.setCell ⟨w.heap.size, 0, none⟩ (.slice va cs.length vc)) (.cells #[] 3)
    rw [hW1] at this
    simpa using this
  have HN1 := hid (News.ints (HR.out.2.below HB1.out))
  have HO2 : Hid (W1.ownsRow (w.heap.size + 1 + 1) 86 6 (.slice va cs.length vc) cs.length (flatF cs)) := by
    show World.ownsRow _ _ _ _ _ _ _
    rw [← hW1]
    exact (ownsRow_setCell_below HO1.out (by simp <;> omega) _).alloc _
  have hlt1 : w.heap.size < w1.heap.size := by omega
  have HLT : Hid (∀ g, (Value.slice va cs.length vc).ownBlock = some g → g < w1.heap.size) := fun g e => (HO1.out.lt g e).2
  have hz1 : W1.heap.size = w1.heap.size + 1 := by rw [← hW1]; simp
  have HW1 := hid hW1
  have HZ1 := hid hz1
  clear hW1 hz1 HO1
  go_wp2_with (at_builtin; rw [HW1.out]; refine wpList_append_sep eltInt rfl _ _ rfl w1.heap.size [] HS1.out rfl HN1.out rfl (by omega) (by have := HZ1.out; omega) ?_)
  intro ua uc w2 hs2 hb2 hg2
  have hsz1 := HZ1.out
  obtain ⟨hcc, hff⟩ := bcellB hb2
  obtain ⟨acc, aff⟩ := bcell (below1 (w1.setCell ⟨w.heap.size, 0, none⟩ (.slice va cs.length vc)) (.cells #[] 3))
  have e00 : w2.cell? ⟨w.heap.size, 0, none⟩ = some (.slice va cs.length vc) := by rw [hcc _ _ (by omega), ← HW1.out, acc _ _ (by simp <;> omega)]; simp [go_sem, d00]
  have e01 : w2.cell? ⟨w.heap.size, 1, none⟩ = some (.int .i64 go) := by rw [hcc _ _ (by omega), ← HW1.out, acc _ _ (by simp <;> omega)]; simp [go_sem, d01]
  have e02 : w2.cell? ⟨w.heap.size, 2, none⟩ = some (.int .i64 test) := by rw [hcc _ _ (by omega), ← HW1.out, acc _ _ (by simp <;> omega)]; simp [go_sem, d02]
  have e03 : w2.cell? ⟨w.heap.size, 3, none⟩ = some (.slice na ns.length nc) := by rw [hcc _ _ (by omega), ← HW1.out, acc _ _ (by simp <;> omega)]; simp [go_sem, d03]
  have k03 : w2.frozen? ⟨w.heap.size, 3, none⟩ = false := by rw [hff _ _ (by omega), ← HW1.out, aff _ _ (by simp <;> omega)]; simp [go_sem, g03]
  have e10 : w2.cell? ⟨w.heap.size + 1, 0, none⟩ = some (.slice none 0 0) := by rw [hcc _ _ (by omega), ← HW1.out, acc _ _ (by simp <;> omega)]; simp [go_sem, d10]
  have e11 : w2.cell? ⟨w.heap.size + 1, 1, none⟩ = some (.int .i64 0) := by rw [hcc _ _ (by omega), ← HW1.out, acc _ _ (by simp <;> omega)]; simp [go_sem, d11]
  have e12 : w2.cell? ⟨w.heap.size + 1, 2, none⟩ = some (.int .i64 0) := by rw [hcc _ _ (by omega), ← HW1.out, acc _ _ (by simp <;> omega)]; simp [go_sem, d12]
  have e13 : w2.cell? ⟨w.heap.size + 1, 3, none⟩ = some (.slice none 0 0) := by rw [hcc _ _ (by omega), ← HW1.out, acc _ _ (by simp <;> omega)]; simp [go_sem, d13]
  have k10 : w2.frozen? ⟨w.heap.size + 1, 0, none⟩ = false := by rw [hff _ _ (by omega), ← HW1.out, aff _ _ (by simp <;> omega)]; simp [go_sem, g10]
  have k11 : w2.frozen? ⟨w.heap.size + 1, 1, none⟩ = false := by rw [hff _ _ (by omega), ← HW1.out, aff _ _ (by simp <;> omega)]; simp [go_sem, g11]
  have k12 : w2.frozen? ⟨w.heap.size + 1, 2, none⟩ = false := by rw [hff _ _ (by omega), ← HW1.out, aff _ _ (by simp <;> omega)]; simp [go_sem, g12]
  have k13 : w2.frozen? ⟨w.heap.size + 1, 3, none⟩ = false := by rw [hff _ _ (by omega), ← HW1.out, aff _ _ (by simp <;> omega)]; simp [go_sem, g13]
  have hoa : w2.ownsRow (w.heap.size + 1 + 1) 86 6 (.slice va cs.length vc) cs.length (flatF cs) := owns_belowB HO2.out hb2 (by omega) HLT.out
  have hob : w2.ownsRow w1.heap.size 3 1 (.slice ua ns.length uc) ns.length (ints ns) := one_sep (l2 := []) hs2
  have HS : Hid (w2.ownsRow (w.heap.size + 1 + 1) 86 6 (.slice va cs.length vc) cs.length (flatF cs) ∧ w2.ownsRow (w.heap.size + 1 + 1) 3 1 (.slice ua ns.length uc) ns.length (ints ns) ∧ ∀ g, (Value.slice va cs.length vc).ownBlock = some g → g < w1.heap.size) := ⟨hoa, owns_mono hob (by omega), HLT.out⟩
  have HN : Hid (∀ g, (Value.slice ua ns.length uc).ownBlock = some g → w1.heap.size ≤ g) := fun g e => (hob.lt g e).1
  have HB2 := hid (HB1.out.trans (hb2.mono (by omega)))
  clear hs2 hb2 hg2 hcc hff acc aff hoa hob d00 d01 d02 d03 d10 d11 d12 d13 g00 g01 g02 g03 g10 g11 g12 g13
  go_wp2
  refine bodyPost_ret (v := .agg #[.slice va cs.length vc, .int .i64 go, .int .i64 test, .slice ua ns.length uc]) (by simp [results, Tryd.results84, go_sem, *]) rfl ⟨va, vc, ua, uc, rfl, ⟨?_, ?_⟩, ?_⟩
  · have k1 : ∀ {t n : Nat} {v : Value} {xs : List Value} {s : Nat}, w2.ownsRow (w.heap.size + 1 + 1) t s v n xs → (((((w2.setCell ⟨w.heap.size, 3, none⟩ (.slice ua ns.length uc)).setCell ⟨w.heap.size + 1, 0, none⟩ (.slice va cs.length vc)).setCell ⟨w.heap.size + 1, 1, none⟩ (.int .i64 go)).setCell ⟨w.heap.size + 1, 2, none⟩ (.int .i64 test)).setCell ⟨w.heap.size + 1, 3, none⟩ (.slice ua ns.length uc)).ownsRow w.heap.size t s v n xs := fun h => owns_mono (ownsRow_setCell_below (ownsRow_setCell_below (ownsRow_setCell_below (ownsRow_setCell_below (ownsRow_setCell_below h (by simp <;> omega) _) (by simp <;> omega) _) (by simp <;> omega) _) (by simp <;> omega) _) (by simp <;> omega) _) (by omega)
    intro x hx
    simp only [rowsOf, List.mem_cons, List.not_mem_nil, or_false] at hx
    rcases hx with rfl | rfl
    · exact k1 HS.out.1
    · exact k1 HS.out.2.1
  · simp only [rowsOf, List.pairwise_cons, List.mem_cons, List.not_mem_nil, or_false, forall_eq, false_implies, implies_true, List.Pairwise.nil, and_true]
    cases e : (Value.slice va cs.length vc).ownBlock with
    | none => exact .inl e
    | some g =>
      right; intro he
      have h1 := HS.out.2.2 g e
      have h2 := HN.out g (he.symm.trans e)
      omega
  · exact ((((HB2.out.setCell (by simp) _).setCell (by simp) _).setCell (by simp) _).setCell (by simp) _).setCell (by simp) _
end Go.Proofs.YtbibcjhfiopgdaaDoor
