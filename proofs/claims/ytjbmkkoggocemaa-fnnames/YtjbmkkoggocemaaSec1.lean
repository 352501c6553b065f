/- What the model's draw of a section answers, whatever the bytes are. -/
import Derived.Test.YtjbmkkoggocemaaSec0
import Derived.Test.YtjbmkkoggocemaaSect3
import Derived.Deep.RegionWith
namespace Go.Proofs.Ytjbmkkoggocemaa
open Go.RowKit
set_option linter.unusedVariables false
set_option linter.unusedSimpArgs false
set_option maxRecDepth 100000

theorem strs_cells {w : World} (ss : List ByteArray) {t : TypeId} (hs : ∀ s ∈ ss, s.size ≤ 10) : ∀ i, i < ss.length → ∃ s, (w.alloc (.cells (ss.map Value.string).toArray t)).cell? ⟨w.heap.size, 0 + i, none⟩ = some (.string s) ∧ s.size ≤ 10 := by
  intro i hi
  have hb : (w.alloc (.cells (ss.map Value.string).toArray t)).heap[w.heap.size]? = some (.cells (ss.map Value.string).toArray t) := heap_alloc_new w _
  refine ⟨ss[i], ?_, hs _ (List.getElem_mem hi)⟩
  rw [Lib.cell_of_heap hb]
  simp [hi]
theorem fin2 {W : World} {n0 B K R : Nat} (hc : Cur W n0 B K) (hR : R ≠ B) (hn : n0 ≤ R) (v0 v1 : Value) : Cur ((W.setCell ⟨R, 0, none⟩ v0).setCell ⟨R, 1, none⟩ v1) n0 B K ∧ W.grownBy ((W.setCell ⟨R, 0, none⟩ v0).setCell ⟨R, 1, none⟩ v1) (some R) :=
  have g := grownBy_trans (grownBy_set' W R 0 v0) (grownBy_set' (W.setCell ⟨R, 0, none⟩ v0) R 1 v1)
  ⟨hc.grown g (fun r e => by cases e; exact ⟨hn, hR⟩), g⟩
theorem info5 : (Try.prog.info? 5).map (fun i => (i.zero, i.size, i.bytes)) = some (some (.int .u8 0), 1, 1) := by kernel_rfl
theorem make_zs (n : Nat) (h : n ≤ 300) : (∀ W : World, (Instr.makeSlice 22 (.int .i64 n) (.int .i64 n)).run Try.prog W = .ok (.slice (some ⟨W.heap.size, 0, none⟩) n n) (W.alloc (.cells (madeCells #[.int .u8 0] n) 5))) ∧
    (∀ W : World, (convert 22 9 (.slice (some ⟨W.heap.size, 0, none⟩) n n)).run Try.prog (W.alloc (.cells (madeCells #[.int .u8 0] n) 5)) = .ok (.string (strOfNums (List.replicate n 0))) (W.alloc (.cells (madeCells #[.int .u8 0] n) 5))) := by
  constructor
  · intro W
    obtain ⟨i0, hi, hz0, hz1, hz2⟩ := info_parts info5
    have := run_make (P := Try.prog) W 22 5 i0 (.int .u8 0) Try.underlying22 hi hz0 .i64 .i64 n n (by omega) (by omega) (by rw [hz2]; omega) (by omega)
    rw [hz1] at this
    simpa [Value.cells] using this
  · intro W
    refine run_convert_bytes_arg (P := Try.prog) _ 22 5 Try.underlying22 Try.underlying5 W.heap.size 0 n n (List.replicate n 0) (by simp) ?_ 9 Try.underlying9
    intro i hi
    have hb : (W.alloc (.cells (madeCells #[.int .u8 0] n) 5)).heap[W.heap.size]? = some (.cells (madeCells #[.int .u8 0] n) 5) := heap_alloc_new W _
    rw [Lib.cell_of_heap hb]
    simp [madeCells, hi, Nat.mod_one]

set_option maxHeartbeats 4000000 in
/-- a section that is not custom -/
theorem section_one (n0 B K : Nat) (id : Int) (w : World) (h : Cur w n0 B K) (hK : K ≤ 600000) (hid : id ≠ 0) :
    Calls Try.prog 42 #[.pointer (some ⟨B, 0, none⟩), .int .i64 id] w fun e w' => ∃ s, e = .returned (.agg #[.int .i64 id, .string s]) ∧ s.size ≤ 300 ∧ Cur w' n0 B (K + 20) ∧ w.grownBy w' (some B) := by
  have hB := h.lt
  have hn0 := h.1
  go_enter Try.func42, Try.ntmps42
  go_wp2_with fail
  have c2 := (h.grown (World.grownBy_alloc w (.cells #[.int .i64 0, .string ⟨#[]⟩] 31) none) (fun r e => by cases e)).grown (World.grownBy_alloc _ (.cells #[.string ⟨#[]⟩, .string ⟨#[97, 98]⟩, .string ⟨#[98, 111, 100, 121]⟩, .string ⟨#[0, 255]⟩] 9) none) (fun r e => by cases e)
  refine (of_any n0 B K (w.heap.size + 1) 4 [⟨#[]⟩, ⟨#[97, 98]⟩, ⟨#[98, 111, 100, 121]⟩, ⟨#[0, 255]⟩] _ c2 (by omega) (by simp) (by simp) (by omega) (by simpa using strs_cells (w := w.alloc (.cells #[.int .i64 0, .string ⟨#[]⟩] 31)) [⟨#[]⟩, ⟨#[97, 98]⟩, ⟨#[98, 111, 100, 121]⟩, ⟨#[0, 255]⟩] (t := 9) (by decide))).mono ?_
  rintro e w1 ⟨s, rfl, hs, hc1, hg1⟩
  have hs1 := hg1.size
  simp at hs1
  obtain ⟨g, hg⟩ : ∃ g, w1.heap.size = g := ⟨_, rfl⟩
  have hgl : w.heap.size < g := by omega
  have hcW := hc1.grown (World.grownBy_alloc w1 (.cells #[.int .i64 id, .string s] 31) none) (fun r e => by cases e)
  have hgW : w.grownBy (w1.alloc (.cells #[.int .i64 id, .string s] 31)) (some B) := grownBy_trans (grownBy_trans (grownBy_trans (World.grownBy_alloc w _ _) (World.grownBy_alloc _ _ _)) hg1) (World.grownBy_alloc w1 _ _)
  have bx : Box (w1.alloc (.cells #[.int .i64 id, .string s] 31)) g id s := by rw [← hg]; exact Box.new w1 id s
  have br : Box (w1.alloc (.cells #[.int .i64 id, .string s] 31)) w.heap.size 0 ⟨#[]⟩ := (((Box.new w 0 ⟨#[]⟩).grown (World.grownBy_alloc _ _ none) (fun e => by cases e)).grown hg1 (fun e => by cases e; omega)).grown (World.grownBy_alloc w1 _ none) (fun e => by cases e)
  have HGE : Hid (w1.heap.size = g) := hg
  clear hc1 hg1 c2 hs1 hg
  go_wp2_with fail
  rw [HGE.out]
  clear HGE
  refine (one_any n0 B _ 30 _ hcW (by omega) (by decide) (by decide)).mono ?_
  rintro e wA ⟨r, rfl, hcA, hgA⟩
  have bxA := bx.grown hgA (fun e => by cases e; omega)
  have brA := br.grown hgA (fun e => by cases e; omega)
  have hgwA := grownBy_trans hgW hgA
  cases r with
  | false =>
    have HF : Hid (_) := fin2 hcA (R := w.heap.size) (by omega) (by omega) (.int .i64 id) (.string s)
    obtain ⟨x0, x1, f0, f1⟩ := bxA.facts
    obtain ⟨y0, y1, z0, z1⟩ := brA.facts
    have HG : Hid (w.grownBy wA (some B)) := hgwA
    clear bxA brA bx br hgwA hgA hcA hcW hgW
    go_wp2
    refine bodyPost_ret (v := .agg #[.int .i64 id, .string s]) (by simp [results, Try.results42, go_sem, *]) rfl ⟨s, rfl, by omega, HF.out.1.more (by omega), grownBy_mix HG.out HF.out.2 (fun r e => by cases e; exact Nat.le_refl _)⟩
  | true =>
    go_wp2_with fail
    refine (pick_any n0 B _ 2 _ hcA (by omega) (by decide) (by decide)).mono ?_
    rintro e wB ⟨x, rfl, hx, hcB, hgB⟩
    have hgwB := grownBy_trans hgwA hgB
    have bxB := bxA.grown hgB (fun e => by cases e; omega)
    have brB := brA.grown hgB (fun e => by cases e; omega)
    obtain ⟨j, rfl⟩ := Int.eq_ofNat_of_zero_le hx.1
    have hj : j ≤ 1 := by omega
    obtain ⟨hmk, hcv⟩ := make_zs (200 + j) (by omega)
    have hcast : ((200 + j : Nat) : Int) = 200 + (j : Int) := by omega
    rw [hcast] at hmk
    clear hcast
    generalize hZ : madeCells #[Value.int .u8 0] (200 + j) = Z at hmk hcv
    have hzs := strOfNums_size (List.replicate (200 + j) 0)
    generalize strOfNums (List.replicate (200 + j) 0) = zs at hcv hzs
    have hzl : zs.size ≤ 201 := by rw [hzs]; simp; omega
    have bxC := bxB.grown (World.grownBy_alloc wB (.cells Z 5) none) (fun e => by cases e)
    have brC := brB.grown (World.grownBy_alloc wB (.cells Z 5) none) (fun e => by cases e)
    have bxD := (bxB.set zs).grown (World.grownBy_alloc _ (.cells Z 5) none) (fun e => by cases e)
    have brD := (brB.grown (grownBy_set' wB g 1 (.string zs)) (fun e => by cases e; omega)).grown (World.grownBy_alloc _ (.cells Z 5) none) (fun e => by cases e)
    have hcD := (hcB.grown (grownBy_set' wB g 1 (.string zs)) (fun r e => by cases e; exact ⟨by omega, by omega⟩)).grown (World.grownBy_alloc _ (.cells Z 5) none) (fun r e => by cases e)
    have HF : Hid (_) := fin2 hcD (R := w.heap.size) (by omega) (by omega) (.int .i64 id) (.string zs)
    have HG : Hid (w.grownBy ((wB.setCell ⟨g, 1, none⟩ (.string zs)).alloc (.cells Z 5)) (some B)) := grownBy_trans (grownBy_mix hgwB (grownBy_set' wB g 1 (.string zs)) (fun r e => by cases e; omega)) (World.grownBy_alloc _ _ _)
    obtain ⟨x0, x1, f0, f1⟩ := bxB.facts
    obtain ⟨p0, p1, q0, q1⟩ := bxC.facts
    obtain ⟨s0, s1, t0, t1⟩ := bxD.facts
    obtain ⟨y0, y1, z0, z1⟩ := brD.facts
    have hgW := bxB.lt
    clear bxA brA bx br bxB brB bxC brC bxD brD hgwA hgA hcA hcW hgwB hgB hcB hcD hZ hzs hx
    go_wp2
    refine bodyPost_ret (v := .agg #[.int .i64 id, .string zs]) (by simp [results, Try.results42, go_sem, *]) rfl ⟨zs, rfl, by omega, HF.out.1.more (by omega), grownBy_mix HG.out HF.out.2 (fun r e => by cases e; exact Nat.le_refl _)⟩

set_option maxHeartbeats 8000000 in
/-- a custom section -/
theorem section_zero (n0 B K : Nat) (w : World) (h : Cur w n0 B K) (hK : K ≤ 600000) :
    Calls Try.prog 42 #[.pointer (some ⟨B, 0, none⟩), .int .i64 0] w fun e w' => ∃ s, e = .returned (.agg #[.int .i64 0, .string s]) ∧ s.size ≤ 300 ∧ Cur w' n0 B (K + 20) ∧ w.grownBy w' (some B) := by
  have hB := h.lt
  have hn0 := h.1
  go_enter Try.func42, Try.ntmps42
  go_wp2_with fail
  have c2 := (h.grown (World.grownBy_alloc w (.cells #[.int .i64 0, .string ⟨#[]⟩] 31) none) (fun r e => by cases e)).grown (World.grownBy_alloc _ (.cells #[.string ⟨#[]⟩, .string ⟨#[97, 98]⟩, .string ⟨#[98, 111, 100, 121]⟩, .string ⟨#[0, 255]⟩] 9) none) (fun r e => by cases e)
  refine (of_any n0 B K (w.heap.size + 1) 4 [⟨#[]⟩, ⟨#[97, 98]⟩, ⟨#[98, 111, 100, 121]⟩, ⟨#[0, 255]⟩] _ c2 (by omega) (by simp) (by simp) (by omega) (by simpa using strs_cells (w := w.alloc (.cells #[.int .i64 0, .string ⟨#[]⟩] 31)) [⟨#[]⟩, ⟨#[97, 98]⟩, ⟨#[98, 111, 100, 121]⟩, ⟨#[0, 255]⟩] (t := 9) (by decide))).mono ?_
  rintro e w1 ⟨s, rfl, hs, hc1, hg1⟩
  have hs1 := hg1.size
  simp at hs1
  obtain ⟨g, hg⟩ : ∃ g, w1.heap.size = g := ⟨_, rfl⟩
  have hgl : w.heap.size < g := by omega
  have hc1 := hc1.grown (World.grownBy_alloc w1 (.cells #[.int .i64 0, .string s] 31) none) (fun r e => by cases e)
  have hg1' : w.grownBy (w1.alloc (.cells #[.int .i64 0, .string s] 31)) (some B) := grownBy_trans (grownBy_trans (grownBy_trans (World.grownBy_alloc w _ _) (World.grownBy_alloc _ _ _)) hg1) (World.grownBy_alloc w1 _ _)
  have bx1 : Box (w1.alloc (.cells #[.int .i64 0, .string s] 31)) g 0 s := by rw [← hg]; exact Box.new w1 0 s
  have br1 : Box (w1.alloc (.cells #[.int .i64 0, .string s] 31)) w.heap.size 0 ⟨#[]⟩ := (((Box.new w 0 ⟨#[]⟩).grown (World.grownBy_alloc _ _ none) (fun e => by cases e)).grown hg1 (fun e => by cases e; omega)).grown (World.grownBy_alloc w1 _ none) (fun e => by cases e)
  obtain ⟨W1, hW1⟩ : ∃ W, w1.alloc (.cells #[.int .i64 0, .string s] 31) = W := ⟨_, rfl⟩
  have HW1 : Hid (w1.alloc (.cells #[.int .i64 0, .string s] 31) = W1 ∧ W1.heap.size = g + 1 ∧ w1.heap.size = g) := ⟨hW1, by rw [← hW1]; simp [hg], hg⟩
  rw [hW1] at hc1 hg1' bx1 br1
  clear hg1 c2 hs1 hg hW1
  go_wp2_with fail
  rw [HW1.out.1, HW1.out.2.2]
  have hW1s := HW1.out.2.1
  have c3 := hc1.grown (World.grownBy_alloc W1 (.cells #[.string ⟨#[110]⟩, .string ⟨#[110, 97, 109, 101]⟩, .string ⟨#[195, 169]⟩, .string ⟨#[226, 130, 172]⟩, .string ⟨#[]⟩] 9) none) (fun r e => by cases e)
  refine (of_any n0 B (K + 2) (g + 1) 5 [⟨#[110]⟩, ⟨#[110, 97, 109, 101]⟩, ⟨#[195, 169]⟩, ⟨#[226, 130, 172]⟩, ⟨#[]⟩] _ c3 (by omega) (by simp) (by simp) (by omega) (by
    have := strs_cells (w := W1) [⟨#[110]⟩, ⟨#[110, 97, 109, 101]⟩, ⟨#[195, 169]⟩, ⟨#[226, 130, 172]⟩, ⟨#[]⟩] (t := 9) (by decide)
    rw [hW1s] at this
    simpa using this)).mono ?_
  rintro e w2 ⟨t, rfl, ht, hc2, hg2⟩
  have bx2 := (bx1.grown (World.grownBy_alloc W1 _ none) (fun e => by cases e)).grown hg2 (fun e => by cases e; omega)
  have br2 := (br1.grown (World.grownBy_alloc W1 _ none) (fun e => by cases e)).grown hg2 (fun e => by cases e; omega)
  have hgw2 := grownBy_trans (grownBy_trans hg1' (World.grownBy_alloc W1 _ _)) hg2
  have hpu := l1PutU_any (t.size : Int) w2.drew (by omega) (by omega)
  have h5 := encU_len_le 4 (t.size : Int)
  generalize encU 4 (t.size : Int) = L at hpu h5
  obtain ⟨en, hen⟩ : ∃ en : ByteArray, (⟨L.toArray⟩ : ByteArray) = en := ⟨_, rfl⟩
  have hel : en.size ≤ 5 := by rw [← hen]; simpa [ByteArray.size] using h5
  rw [hen] at hpu
  have HPU : Hid (Calls Try.prog 53 #[.int .i64 (t.size : Int)] w2.drew fun e w' => e = .returned (.string en) ∧ (w'.cell? ⟨g, 1, none⟩ = some (.string s) ∧ w'.frozen? ⟨g, 1, none⟩ = false) ∧ Hid (Below w2.heap.size w2 w')) := hpu.mono fun e w' ⟨he, hb⟩ => ⟨he, by
    have hb' := below_of_drew hb
    have := (bx2.grown (grownBy_of_below hb' none) (fun e => by cases e)).facts
    exact ⟨this.2.1, this.2.2.2⟩, below_of_drew hb⟩
  obtain ⟨x0, x1, f0, f1⟩ := bx2.facts
  have HC : Hid (Cur w2 n0 B (K + 2 + 2) ∧ w.grownBy w2 (some B) ∧ Box w2 g 0 s ∧ Box w2 w.heap.size 0 ⟨#[]⟩) := ⟨hc2, hgw2, bx2, br2⟩
  clear hpu hen h5 hc1 hg1' bx1 br1 HW1 hW1s c3 hc2 hg2 hgw2 bx2 br2
  go_wp2
  go_region_with (go_at_call 53; refine HPU.out.mono ?_; rintro e w3 ⟨rfl, ⟨cx, fx⟩, HB3⟩)
  all_goals
    obtain ⟨hc2, hgw2, bx2, br2⟩ := HC.out
    have hb3 := HB3.out
    have g3 := grownBy_of_below hb3 none
    obtain ⟨s3, hs3⟩ : ∃ s3, en ++ t ++ s = s3 := ⟨_, rfl⟩
    have hsz3 : s3.size ≤ 25 := by rw [← hs3, ByteArray.size_append, ByteArray.size_append]; omega
    have bx3 := (bx2.grown g3 (fun e => by cases e)).set s3
    have br3 := (br2.grown g3 (fun e => by cases e)).grown (grownBy_set' w3 g 1 (.string s3)) (fun e => by cases e; omega)
    have hc3 := (hc2.grown g3 (fun r e => by cases e)).grown (grownBy_set' w3 g 1 (.string s3)) (fun r e => by cases e; exact ⟨by omega, by omega⟩)
    have hgw3 := grownBy_mix (grownBy_trans hgw2 (grownBy_of_below hb3 (some B))) (grownBy_set' w3 g 1 (.string s3)) (fun r e => by cases e; omega)
    obtain ⟨W3, hW3⟩ : ∃ W, w3.setCell ⟨g, 1, none⟩ (.string s3) = W := ⟨_, rfl⟩
    rw [hW3] at bx3 br3 hc3 hgw3
    have HW3 : Hid (w3.setCell ⟨g, 1, none⟩ (.string (en ++ t ++ s)) = W3) := by show _ = _; rw [hs3]; exact hW3
    have hgb3 := bx3.lt
    clear hc2 hgw2 bx2 br2 hb3 g3 hs3 hW3 HC HPU HB3 x0 x1 f0 f1 cx fx
    go_wp2_with fail
    rw [HW3.out]
    clear HW3
    refine (one_any n0 B _ 12 _ hc3 (by omega) (by decide) (by decide)).mono ?_
    rintro e w4 ⟨r, rfl, hc4, hg4⟩
    have bx4 := bx3.grown hg4 (fun e => by cases e; omega)
    have br4 := br3.grown hg4 (fun e => by cases e; omega)
    have hgw4 := grownBy_trans hgw3 hg4
    clear hc3 hg4 hgw3 bx3 br3
    cases r with
    | false =>
      go_wp2_with fail
      obtain ⟨hcW, hgW, bx, br⟩ := And.intro hc4 (And.intro hgw4 (And.intro bx4 br4))
      clear hc4 hgw4 bx4 br4
      refine (one_any n0 B _ 30 _ hcW (by omega) (by decide) (by decide)).mono ?_
      rintro e wA ⟨r, rfl, hcA, hgA⟩
      have bxA := bx.grown hgA (fun e => by cases e; omega)
      have brA := br.grown hgA (fun e => by cases e; omega)
      have hgwA := grownBy_trans hgW hgA
      cases r with
      | false =>
        have HF : Hid (_) := fin2 hcA (R := w.heap.size) (by omega) (by omega) (.int .i64 0) (.string s3)
        obtain ⟨x0, x1, f0, f1⟩ := bxA.facts
        obtain ⟨y0, y1, z0, z1⟩ := brA.facts
        have HG : Hid (w.grownBy wA (some B)) := hgwA
        clear bxA brA bx br hgwA hgA hcA hcW hgW
        go_wp2
        refine bodyPost_ret (v := .agg #[.int .i64 0, .string s3]) (by simp [results, Try.results42, go_sem, *]) rfl ⟨s3, rfl, by omega, HF.out.1.more (by omega), grownBy_mix HG.out HF.out.2 (fun r e => by cases e; exact Nat.le_refl _)⟩
      | true =>
        go_wp2_with fail
        refine (pick_any n0 B _ 2 _ hcA (by omega) (by decide) (by decide)).mono ?_
        rintro e wB ⟨x, rfl, hx, hcB, hgB⟩
        have hgwB := grownBy_trans hgwA hgB
        have bxB := bxA.grown hgB (fun e => by cases e; omega)
        have brB := brA.grown hgB (fun e => by cases e; omega)
        obtain ⟨j, rfl⟩ := Int.eq_ofNat_of_zero_le hx.1
        have hj : j ≤ 1 := by omega
        obtain ⟨hmk, hcv⟩ := make_zs (200 + j) (by omega)
        have hcast : ((200 + j : Nat) : Int) = 200 + (j : Int) := by omega
        rw [hcast] at hmk
        clear hcast
        generalize hZ : madeCells #[Value.int .u8 0] (200 + j) = Z at hmk hcv
        have hzs := strOfNums_size (List.replicate (200 + j) 0)
        generalize strOfNums (List.replicate (200 + j) 0) = zs at hcv hzs
        have hzl : zs.size ≤ 201 := by rw [hzs]; simp; omega
        have bxC := bxB.grown (World.grownBy_alloc wB (.cells Z 5) none) (fun e => by cases e)
        have brC := brB.grown (World.grownBy_alloc wB (.cells Z 5) none) (fun e => by cases e)
        have bxD := (bxB.set zs).grown (World.grownBy_alloc _ (.cells Z 5) none) (fun e => by cases e)
        have brD := (brB.grown (grownBy_set' wB g 1 (.string zs)) (fun e => by cases e; omega)).grown (World.grownBy_alloc _ (.cells Z 5) none) (fun e => by cases e)
        have hcD := (hcB.grown (grownBy_set' wB g 1 (.string zs)) (fun r e => by cases e; exact ⟨by omega, by omega⟩)).grown (World.grownBy_alloc _ (.cells Z 5) none) (fun r e => by cases e)
        have HF : Hid (_) := fin2 hcD (R := w.heap.size) (by omega) (by omega) (.int .i64 0) (.string zs)
        have HG : Hid (w.grownBy ((wB.setCell ⟨g, 1, none⟩ (.string zs)).alloc (.cells Z 5)) (some B)) := grownBy_trans (grownBy_mix hgwB (grownBy_set' wB g 1 (.string zs)) (fun r e => by cases e; omega)) (World.grownBy_alloc _ _ _)
        obtain ⟨x0, x1, f0, f1⟩ := bxB.facts
        obtain ⟨p0, p1, q0, q1⟩ := bxC.facts
        obtain ⟨s0, s1, t0, t1⟩ := bxD.facts
        obtain ⟨y0, y1, z0, z1⟩ := brD.facts
        have hgW := bxB.lt
        clear bxA brA bx br bxB brB bxC brC bxD brD hgwA hgA hcA hcW hgwB hgB hcB hcD hZ hzs hx
        go_wp2
        refine bodyPost_ret (v := .agg #[.int .i64 0, .string zs]) (by simp [results, Try.results42, go_sem, *]) rfl ⟨zs, rfl, by omega, HF.out.1.more (by omega), grownBy_mix HG.out HF.out.2 (fun r e => by cases e; exact Nat.le_refl _)⟩
    | true =>
      go_wp2_with fail
      have hgb4 := bx4.lt
      have c5 := hc4.grown (World.grownBy_alloc w4 (.cells #[.string ⟨#[]⟩, .string ⟨#[2, 97]⟩, .string ⟨#[2, 192, 128]⟩, .string ⟨#[3, 237, 160, 128]⟩] 9) none) (fun r e => by cases e)
      refine (of_any n0 B _ w4.heap.size 4 [⟨#[]⟩, ⟨#[2, 97]⟩, ⟨#[2, 192, 128]⟩, ⟨#[3, 237, 160, 128]⟩] _ c5 (by omega) (by simp) (by simp) (by have := hc4.lt; omega) (by simpa using strs_cells (w := w4) [⟨#[]⟩, ⟨#[2, 97]⟩, ⟨#[2, 192, 128]⟩, ⟨#[3, 237, 160, 128]⟩] (t := 9) (by decide))).mono ?_
      rintro e w5 ⟨s5, rfl, hs5, hc5, hg5⟩
      have bx5 := (bx4.grown (World.grownBy_alloc w4 _ none) (fun e => by cases e)).grown hg5 (fun e => by cases e; omega)
      have br5 := (br4.grown (World.grownBy_alloc w4 _ none) (fun e => by cases e)).grown hg5 (fun e => by cases e; omega)
      have hgw5 := grownBy_trans (grownBy_trans hgw4 (World.grownBy_alloc w4 _ _)) hg5
      obtain ⟨x0, x1, f0, f1⟩ := bx5.facts
      have bx := bx5.set s5
      have br := br5.grown (grownBy_set' w5 g 1 (.string s5)) (fun e => by cases e; omega)
      have hcW := hc5.grown (grownBy_set' w5 g 1 (.string s5)) (fun r e => by cases e; exact ⟨by omega, by omega⟩)
      have hgW := grownBy_mix hgw5 (grownBy_set' w5 g 1 (.string s5)) (fun r e => by cases e; omega)
      clear hc4 hgw4 bx4 br4 c5 hc5 hg5 bx5 br5 hgw5
      go_wp2_with fail
      clear x0 x1 f0 f1
      refine (one_any n0 B _ 30 _ hcW (by omega) (by decide) (by decide)).mono ?_
      rintro e wA ⟨r, rfl, hcA, hgA⟩
      have bxA := bx.grown hgA (fun e => by cases e; omega)
      have brA := br.grown hgA (fun e => by cases e; omega)
      have hgwA := grownBy_trans hgW hgA
      cases r with
      | false =>
        have HF : Hid (_) := fin2 hcA (R := w.heap.size) (by omega) (by omega) (.int .i64 0) (.string s5)
        obtain ⟨x0, x1, f0, f1⟩ := bxA.facts
        obtain ⟨y0, y1, z0, z1⟩ := brA.facts
        have HG : Hid (w.grownBy wA (some B)) := hgwA
        clear bxA brA bx br hgwA hgA hcA hcW hgW
        go_wp2
        refine bodyPost_ret (v := .agg #[.int .i64 0, .string s5]) (by simp [results, Try.results42, go_sem, *]) rfl ⟨s5, rfl, by omega, HF.out.1.more (by omega), grownBy_mix HG.out HF.out.2 (fun r e => by cases e; exact Nat.le_refl _)⟩
      | true =>
        go_wp2_with fail
        refine (pick_any n0 B _ 2 _ hcA (by omega) (by decide) (by decide)).mono ?_
        rintro e wB ⟨x, rfl, hx, hcB, hgB⟩
        have hgwB := grownBy_trans hgwA hgB
        have bxB := bxA.grown hgB (fun e => by cases e; omega)
        have brB := brA.grown hgB (fun e => by cases e; omega)
        obtain ⟨j, rfl⟩ := Int.eq_ofNat_of_zero_le hx.1
        have hj : j ≤ 1 := by omega
        obtain ⟨hmk, hcv⟩ := make_zs (200 + j) (by omega)
        have hcast : ((200 + j : Nat) : Int) = 200 + (j : Int) := by omega
        rw [hcast] at hmk
        clear hcast
        generalize hZ : madeCells #[Value.int .u8 0] (200 + j) = Z at hmk hcv
        have hzs := strOfNums_size (List.replicate (200 + j) 0)
        generalize strOfNums (List.replicate (200 + j) 0) = zs at hcv hzs
        have hzl : zs.size ≤ 201 := by rw [hzs]; simp; omega
        have bxC := bxB.grown (World.grownBy_alloc wB (.cells Z 5) none) (fun e => by cases e)
        have brC := brB.grown (World.grownBy_alloc wB (.cells Z 5) none) (fun e => by cases e)
        have bxD := (bxB.set zs).grown (World.grownBy_alloc _ (.cells Z 5) none) (fun e => by cases e)
        have brD := (brB.grown (grownBy_set' wB g 1 (.string zs)) (fun e => by cases e; omega)).grown (World.grownBy_alloc _ (.cells Z 5) none) (fun e => by cases e)
        have hcD := (hcB.grown (grownBy_set' wB g 1 (.string zs)) (fun r e => by cases e; exact ⟨by omega, by omega⟩)).grown (World.grownBy_alloc _ (.cells Z 5) none) (fun r e => by cases e)
        have HF : Hid (_) := fin2 hcD (R := w.heap.size) (by omega) (by omega) (.int .i64 0) (.string zs)
        have HG : Hid (w.grownBy ((wB.setCell ⟨g, 1, none⟩ (.string zs)).alloc (.cells Z 5)) (some B)) := grownBy_trans (grownBy_mix hgwB (grownBy_set' wB g 1 (.string zs)) (fun r e => by cases e; omega)) (World.grownBy_alloc _ _ _)
        obtain ⟨x0, x1, f0, f1⟩ := bxB.facts
        obtain ⟨p0, p1, q0, q1⟩ := bxC.facts
        obtain ⟨s0, s1, t0, t1⟩ := bxD.facts
        obtain ⟨y0, y1, z0, z1⟩ := brD.facts
        have hgW := bxB.lt
        clear bxA brA bx br bxB brB bxC brC bxD brD hgwA hgA hcA hcW hgwB hgB hcB hcD hZ hzs hx
        go_wp2
        refine bodyPost_ret (v := .agg #[.int .i64 0, .string zs]) (by simp [results, Try.results42, go_sem, *]) rfl ⟨zs, rfl, by omega, HF.out.1.more (by omega), grownBy_mix HG.out HF.out.2 (fun r e => by cases e; exact Nat.le_refl _)⟩

theorem section_any (n0 B K : Nat) (id : Int) (w : World) (h : Cur w n0 B K) (hK : K ≤ 600000) :
    Calls Try.prog 42 #[.pointer (some ⟨B, 0, none⟩), .int .i64 id] w fun e w' => ∃ s, e = .returned (.agg #[.int .i64 id, .string s]) ∧ s.size ≤ 300 ∧ Cur w' n0 B (K + 20) ∧ w.grownBy w' (some B) := by
  by_cases hid : id = 0
  · subst hid; exact section_zero n0 B K w h hK
  · exact section_one n0 B K id w h hK hid
end Go.Proofs.Ytjbmkkoggocemaa
