/- The program's IsPure, and the law on it. -/
import Derived.Test.YtahjkhnlkglmpaaPureI
import Derived.Test.YtahjkhnlkglmpaaPureS
import Derived.Deep.Slices
import Derived.OpenShut
namespace Go.Proofs.Ytahjkhnlkglmpaa
open Go.RowKit Go.ChangeShapes Go.WideShapes Go.Deep
set_option linter.unusedVariables false
set_option linter.unusedSimpArgs false
set_option maxRecDepth 100000

set_option maxHeartbeats 2000000 in
theorem iPure_any (p d t x y n : Int) (w : World) :
    Calls Try.prog 6 #[.agg #[.int .i64 p, .int .i64 d, .int .i64 t, .int .i64 x, .int .i64 y, .int .i64 n]] w fun e w' => e = .returned (.bool (goodFm 250 ⟨p, d, t, x, y, n⟩ && pureB p d)) ∧ Below w.heap.size w w' := by
  obtain ⟨G, hG⟩ : ∃ G, (goodFm 250 ⟨p, d, t, x, y, n⟩ && pureB p d) = G := ⟨_, rfl⟩
  rw [hG]
  have HG := hid hG
  clear hG
  go_enter Try.func6, Try.ntmps6
  go_wp2_with fail
  refine (goodFlat_any 250 p d t x y n _).mono ?_
  rintro e w1 ⟨rfl, hb1⟩
  obtain ⟨hcc, hff⟩ := bcell hb1
  have c0 : w1.cell? ⟨w.heap.size, 0, none⟩ = some (.int .i64 p) := by rw [hcc _ _ (by simp)]; simp [go_sem]
  have c1 : w1.cell? ⟨w.heap.size, 1, none⟩ = some (.int .i64 d) := by rw [hcc _ _ (by simp)]; simp [go_sem]
  have HB := hid (bstep' (below1 w _) hb1)
  clear hcc hff hb1
  obtain ⟨u, hu⟩ : ∃ u, goodFm 250 ⟨p, d, t, x, y, n⟩ = u := ⟨_, rfl⟩
  rw [hu]
  have HU := hid hu
  clear hu
  cases u
  · go_wp2
    go_ret
    exact ⟨ret_bool (by rw [← HG.out]; simp [HU.out]), HB.out⟩
  have hP : pureB p d = G := by rw [← HG.out, HU.out]; simp
  have HP := hid hP
  clear hP
  by_cases h1 : p = 1
  · subst h1
    go_wp2
    go_ret
    exact ⟨ret_bool (by rw [← HP.out]; rfl), HB.out⟩
  by_cases h2 : p = 2
  · subst h2
    go_wp2
    go_ret
    exact ⟨ret_bool (by rw [← HP.out]; rfl), HB.out⟩
  by_cases h3 : p = 3
  · subst h3
    go_wp2
    go_ret
    exact ⟨ret_bool (by rw [← HP.out]; simp [pureB] <;> (rw [Bool.eq_iff_iff]; simp)), HB.out⟩
  go_wp2
  go_ret
  exact ⟨ret_bool (by rw [← HP.out]; simp [pureB, h1, h2, h3]), HB.out⟩
theorem same_pure (p d t x y n : Int) : (goodFm 250 ⟨p, d, t, x, y, n⟩ && pureB p d) = purS p d t x y n := by
  by_cases h1 : p = 1
  · subst h1
    rw [Bool.eq_iff_iff]
    simp [goodFm, purS, goodFlt, pureB, zB, belB, nameB, inB]
    constructor
    · rintro ⟨⟨a1, a2⟩, a3, a4, ⟨a5, a6⟩, a7⟩
      subst a3 a4
      simp_all
    · intro h
      simp_all
  by_cases h2 : p = 2
  · subst h2
    rw [Bool.eq_iff_iff]
    simp [goodFm, purS, goodFlt, pureB, zB, belB, nameB, inB]
    constructor
    · intro h
      simp_all
    · intro h
      simp_all
  by_cases h3 : p = 3
  · subst h3
    rw [Bool.eq_iff_iff]
    simp [goodFm, purS, goodFlt, pureB, zB, belB, nameB, inB]
    constructor
    · intro h
      simp_all
    · intro h
      simp_all
  have e : pureB p d = false := by simp [pureB, h1, h2, h3]
  simp [purS, e]
set_option maxHeartbeats 2000000 in
theorem toFlat_any (p d t x y n : Int) (w : World) :
    Calls Try.prog 5 #[.agg #[.int .i64 p, .int .i64 d, .int .i64 t, .int .i64 x, .int .i64 y, .int .i64 n]] w fun e w' => e = .returned (.agg #[.int .i64 p, .int .i64 d, .int .i64 t, .int .i64 x, .int .i64 y, .int .i64 n]) ∧ Below w.heap.size w w' := by
  go_enter Try.func5, Try.ntmps5
  go_wp2
  refine bodyPost_ret (v := .agg #[.int .i64 p, .int .i64 d, .int .i64 t, .int .i64 x, .int .i64 y, .int .i64 n]) (by simp [results, Try.results5, go_sem, *]) rfl ⟨rfl, ?_⟩
  exact (below2 w _ _).alloc (by simp; omega) _
set_option maxHeartbeats 2000000 in
theorem lawPure (p d t x y n : Int) (w : World) :
    Calls Try.prog 3 #[.agg #[.int .i64 p, .int .i64 d, .int .i64 t, .int .i64 x, .int .i64 y, .int .i64 n]] w fun e w' => e = .returned (.bool true) ∧ Below w.heap.size w w' := by
  have HI := hid (fun W => iPure_any p d t x y n W)
  have HS := hid (fun W => sPure_any p d t x y n W)
  rw [same_pure] at HI
  generalize purS p d t x y n = G at HI HS
  have b0 := below1 w (.cells #[.int .i64 p, .int .i64 d, .int .i64 t, .int .i64 x, .int .i64 y, .int .i64 n] 23)
  go_enter Try.func3, Try.ntmps3
  go_wp2_with fail
  refine (toFlat_any p d t x y n _).mono ?_
  rintro e w1 ⟨rfl, hb1⟩
  obtain ⟨hcc, hff⟩ := bcell hb1
  have HB1 := hid (bstep' b0 hb1)
  have HC1 : Hid (w.heap.size < w1.heap.size ∧ w1.cell? ⟨w.heap.size, 0, none⟩ = some (.int .i64 p) ∧ w1.cell? ⟨w.heap.size, 1, none⟩ = some (.int .i64 d) ∧ w1.cell? ⟨w.heap.size, 2, none⟩ = some (.int .i64 t) ∧ w1.cell? ⟨w.heap.size, 3, none⟩ = some (.int .i64 x) ∧ w1.cell? ⟨w.heap.size, 4, none⟩ = some (.int .i64 y) ∧ w1.cell? ⟨w.heap.size, 5, none⟩ = some (.int .i64 n)) := by
    refine ⟨by have := hb1.size; simp at this; omega, ?_, ?_, ?_, ?_, ?_, ?_⟩
    all_goals rw [hcc _ _ (by simp)]; simp [go_sem]
  clear hcc hff hb1 b0
  go_wp2_with fail
  refine (HS.out _).mono ?_
  rintro e w2 ⟨rfl, hb2⟩
  obtain ⟨kc, _⟩ := bcell hb2
  have c0 := (kc _ _ HC1.out.1).trans HC1.out.2.1
  have c1 := (kc _ _ HC1.out.1).trans HC1.out.2.2.1
  have c2 := (kc _ _ HC1.out.1).trans HC1.out.2.2.2.1
  have c3 := (kc _ _ HC1.out.1).trans HC1.out.2.2.2.2.1
  have c4 := (kc _ _ HC1.out.1).trans HC1.out.2.2.2.2.2.1
  have c5 := (kc _ _ HC1.out.1).trans HC1.out.2.2.2.2.2.2
  have HB2 := hid (bstep' HB1.out hb2)
  clear kc hb2 HC1 HB1
  go_wp2_with fail
  refine (toFlat_any p d t x y n _).mono ?_
  rintro e w3 ⟨rfl, hb3⟩
  have HB3 := hid (bstep' HB2.out hb3)
  clear hb3
  go_wp2_with fail
  refine (HI.out _).mono ?_
  rintro e w4 ⟨rfl, hb4⟩
  have HB4 := hid (bstep' HB3.out hb4)
  clear hb4
  go_wp2
  go_ret
  exact ⟨rfl, HB4.out⟩
theorem cells3 : Try.prog.cellsOf 3 = 1 := by kernel_rfl
theorem cells23 : Try.prog.cellsOf 23 = 6 := by kernel_rfl
theorem flat_of_arg {H : Type} {enc : TypeId × Value → H} {w : World} {base : Nat} {held : Bool} {v : Value} {dd : DataW H} {pp : List MemPlace} (h : DataW.Trod enc Try.prog w base (fun _ => true) held 23 v dd pp) (hv : ∃ cs, v = .agg cs ∧ cs.size = Try.prog.cellsOf 23) :
    ∃ (p d t x y n : Int), v = .agg #[.int .i64 p, .int .i64 d, .int .i64 t, .int .i64 x, .int .i64 y, .int .i64 n] := by
  obtain ⟨cs, rfl, hs⟩ := hv
  obtain ⟨fuel, hf⟩ := h
  obtain ⟨gs, k, hk, hxy, hlen, hxl, hf⟩ := DataW.trod_struct Try.underlying23 hf
  have hcs : (Value.agg cs).cells.toList = cs.toList := by simp [Value.cells]
  rw [hcs] at hlen hf
  rw [cells23] at hlen
  obtain ⟨l⟩ := cs
  simp only [] at hlen hf
  match gs, hxl, l, hlen with
  | [y0, y1, y2, y3, y4, y5], _, [v0, v1, v2, v3, v4, v5], _ =>
    have g0 := hf 0 _ rfl
    have g1 := hf 1 _ rfl
    have g2 := hf 2 _ rfl
    have g3 := hf 3 _ rfl
    have g4 := hf 4 _ rfl
    have g5 := hf 5 _ rfl
    simp [cells3] at g0 g1 g2 g3 g4 g5
    obtain ⟨p, e0, _, _⟩ := DataW.trod_int Try.underlying3 g0
    obtain ⟨d, e1, _, _⟩ := DataW.trod_int Try.underlying3 g1
    obtain ⟨t, e2, _, _⟩ := DataW.trod_int Try.underlying3 g2
    obtain ⟨x, e3, _, _⟩ := DataW.trod_int Try.underlying3 g3
    obtain ⟨y, e4, _, _⟩ := DataW.trod_int Try.underlying3 g4
    obtain ⟨n, e5, _, _⟩ := DataW.trod_int Try.underlying3 g5
    simp at e0 e1 e2 e3 e4 e5
    exact ⟨p, d, t, x, y, n, by rw [e0, e1, e2, e3, e4, e5]⟩
end Go.Proofs.Ytahjkhnlkglmpaa
