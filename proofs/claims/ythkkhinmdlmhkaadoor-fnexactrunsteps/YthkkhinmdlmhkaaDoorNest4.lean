/- What the program tells of the parts within code: as the plain walk through it. -/
import Derived.Test.YthkkhinmdlmhkaaDoorNest3
import Derived.Deep.DeepCutAuto
namespace Go.Proofs.YthkkhinmdlmhkaaDoor
open Go.RowKit
set_option linter.unusedVariables false
set_option linter.unusedSimpArgs false
set_option maxRecDepth 100000

theorem make_ints (n : Nat) (h : n ≤ 60) : ∀ W : World, (Instr.makeSlice 23 (.int .i64 n) (.int .i64 n)).run Tryd.prog W = .ok (.slice (some ⟨W.heap.size, 0, none⟩) n n) (W.alloc (.cells (madeCells #[.int .i64 0] n) 3)) := by
  intro W
  obtain ⟨i0, hi, hz0, hz1, hz2⟩ := info_parts info3
  have := run_make (P := Tryd.prog) W 23 3 i0 (.int .i64 0) Tryd.underlying23 hi hz0 .i64 .i64 n n (by omega) (by omega) (by rw [hz2]; omega) (by omega)
  rw [hz1] at this
  simpa [Value.cells] using this
theorem owns_made {W : World} {B j n : Nat} {Z : Array Value} (hZ : madeCells #[Value.int .i64 0] n = Z) (hn : n ≤ 60) (hB : B ≤ j) (hj : W.heap[j]? = some (.cells Z 3 (0, 0))) : W.ownsRow B 3 1 (.slice (some ⟨j, 0, none⟩) n n) n (ints (List.replicate n 0)) := by
  have h1 : Z.toList = ints (List.replicate n 0) := by rw [← hZ]; exact made_ints n
  refine ⟨by simp [ints], .inr ⟨j, n, Z, rfl, hB, hj, Nat.le_refl _, by unfold maxLen; omega, ?_, ?_⟩⟩
  · have := congrArg List.length h1
    simp [ints] at this
    omega
  · rw [h1, List.take_of_length_le (by simp [ints])]
theorem NS.made {W : World} {B nb i j n : Nat} {Z : Array Value} (hZ : madeCells #[Value.int .i64 0] n = Z) (hn : n ≤ 60) (hb : W.heap[nb]? = some (.cells #[.slice none 0 0, .slice (some ⟨i, 0, none⟩) n n, .slice (some ⟨j, 0, none⟩) n n] 96 (0, 0)))
    (hi : W.heap[i]? = some (.cells Z 3 (0, 0))) (hj : W.heap[j]? = some (.cells Z 3 (0, 0))) (h1 : B ≤ nb) (h2 : B ≤ i) (h3 : B ≤ j) (d1 : i ≠ nb) (d2 : j ≠ nb) (d3 : i ≠ j) :
    NS B W nb (.slice none 0 0) (.slice (some ⟨i, 0, none⟩) n n) (.slice (some ⟨j, 0, none⟩) n n) [] (List.replicate n 0) (List.replicate n 0) := by
  refine ⟨hb, h1, World.ownsRow_nil _ _ _ _, ?_, ?_, by simp [Value.ownBlock], by simpa [Value.ownBlock] using d1, by simpa [Value.ownBlock] using d2, .inl rfl, .inl rfl, .inr (by simpa [Value.ownBlock] using d3)⟩
  · rw [List.length_replicate]; exact owns_made hZ hn h2 hi
  · rw [List.length_replicate]; exact owns_made hZ hn h3 hj

theorem stp_le8 {x : Stp} {o o' : List Spn} {e e' : List Int} (h : stp x o e = some (o', e')) (h8 : o.length ≤ 8) : o'.length ≤ 8 := by
  cases stp_went h with
  | push ho h => simp; omega
  | turn s ho h hl => have := congrArg List.length (last_split hl); simp at this ⊢; omega
  | shut p s t ho h hl => simp; omega
  | plain ho h h' => exact h8
theorem zeros_set {e : List Int} {n k : Nat} {v : Int} (he : e.length = k) (hk : k < n) : (e ++ List.replicate (n - k) 0).set k v = e ++ v :: List.replicate (n - (k + 1)) 0 := by
  subst he
  obtain ⟨q, hq⟩ : ∃ q, n - e.length = q + 1 := ⟨n - e.length - 1, by omega⟩
  rw [hq, show n - (e.length + 1) = q by omega, List.set_append_right _ _ (Nat.le_refl _)]
  simp [List.replicate_succ]

/-- what nestOf answers -/
def nestAns (B : Nat) (w' : World) (xs : List Stp) (e : Ending) : Prop := ∃ oa ol oc ea el ec da dl dc b, e = .returned (.tuple #[.agg #[.slice oa ol oc, .slice ea el ec, .slice da dl dc], .bool b]) ∧ (match nestO xs with
  | some (en, d) => b = true ∧ w'.ownsRow B 3 1 (.slice ea el ec) xs.length (ints en) ∧ w'.ownsRow B 3 1 (.slice da dl dc) xs.length (ints d) ∧ ((Value.slice ea el ec).ownBlock = none ∨ (Value.slice ea el ec).ownBlock ≠ (Value.slice da dl dc).ownBlock)
  | none => b = false)
theorem nest_no {B : Nat} {w' : World} {xs : List Stp} (h : nestO xs = none) : nestAns B w' xs (.returned (.tuple #[.agg #[.slice none 0 0, .slice none 0 0, .slice none 0 0], .bool false])) := ⟨none, 0, 0, none, 0, 0, none, 0, 0, false, rfl, by rw [h]⟩
theorem nest_none {xs : List Stp} {o : List Spn} {e d : List Int} {k : Nat} {x : Stp} (h : runN xs [] [] [] = runN (xs.drop k) o e d) (hx : xs[k]? = some x) (hs : stp x o e = none) : nestO xs = none := by
  have hd : xs.drop k = x :: xs.drop (k + 1) := by
    obtain ⟨hk, rfl⟩ := List.getElem?_eq_some_iff.1 hx
    exact List.drop_eq_getElem_cons hk
  unfold nestO
  rw [h, hd, runN_snoc_none hs]
  split <;> rfl

/-- what the rounds of the program's loop hold -/
def PS (xs : List Stp) (w0 wr : World) (B nb k : Nat) : Prop := ∃ (ov ev dv : Value) (o : List Spn) (e d : List Int), NS B wr nb ov ev dv o (e ++ List.replicate (xs.length - k) 0) (d ++ List.replicate (xs.length - k) 0) ∧ okO o k ∧ e.length = k ∧ d.length = k ∧ o.length ≤ 8 ∧ runN xs [] [] [] = runN (xs.drop k) o e d ∧ Below B w0 wr

theorem below_set3 {B : Nat} {a w : World} (h : Below B a w) (g : Nat) (hg : B ≤ g) (u v x : Value) : Below B a (((w.setCell ⟨g, 0, none⟩ u).setCell ⟨g, 1, none⟩ v).setCell ⟨g, 2, none⟩ x) := ((h.setCell (p := ⟨g, 0, none⟩) hg u).setCell (p := ⟨g, 1, none⟩) hg v).setCell (p := ⟨g, 2, none⟩) hg x
theorem bel4 (w : World) (o0 o1 o2 o3 : Obj) : Below (w.heap.size + 1) (w.alloc o0) ((((w.alloc o0).alloc o1).alloc o2).alloc o3).drew :=
  ((((Below.refl _ (w.alloc o0)).alloc (by simp) o1).alloc (by simp) o2).alloc (by simp <;> omega) o3).drew
theorem look4 (w : World) (o0 o1 o2 o3 : Obj) : ((((w.alloc o0).alloc o1).alloc o2).alloc o3).drew.heap[w.heap.size + 1]? = some o1 ∧ ((((w.alloc o0).alloc o1).alloc o2).alloc o3).drew.heap[w.heap.size + 1 + 1]? = some o2 ∧ ((((w.alloc o0).alloc o1).alloc o2).alloc o3).drew.heap[w.heap.size + 1 + 1 + 1]? = some o3 := by
  have s0 := size_alloc1 w o0
  have s1 := size_alloc1 (w.alloc o0) o1
  have s2 := size_alloc1 ((w.alloc o0).alloc o1) o2
  rw [s0] at s1
  rw [s1] at s2
  refine ⟨?_, ?_, ?_⟩
  · show ((((w.alloc o0).alloc o1).alloc o2).alloc o3).heap[w.heap.size + 1]? = some o1
    rw [Below.heap_alloc _ _ _ (by omega), Below.heap_alloc _ _ _ (by omega)]
    have := heap_alloc_new (w.alloc o0) o1
    rw [s0] at this; exact this
  · show ((((w.alloc o0).alloc o1).alloc o2).alloc o3).heap[w.heap.size + 1 + 1]? = some o2
    rw [Below.heap_alloc _ _ _ (by omega)]
    have := heap_alloc_new ((w.alloc o0).alloc o1) o2
    rw [s1] at this; exact this
  · show ((((w.alloc o0).alloc o1).alloc o2).alloc o3).heap[w.heap.size + 1 + 1 + 1]? = some o3
    have := heap_alloc_new (((w.alloc o0).alloc o1).alloc o2) o3
    rw [s2] at this; exact this
theorem PS.start {xs : List Stp} {w0 W : World} {B nb : Nat} (i j : Nat) {Z : Array Value} (hZ : madeCells #[Value.int .i64 0] xs.length = Z) (hn : xs.length ≤ 60) (hb : W.heap[nb]? = some (.cells #[.slice none 0 0, .slice (some ⟨i, 0, none⟩) xs.length xs.length, .slice (some ⟨j, 0, none⟩) xs.length xs.length] 96 (0, 0)))
    (hi : W.heap[i]? = some (.cells Z 3 (0, 0))) (hj : W.heap[j]? = some (.cells Z 3 (0, 0))) (h1 : B ≤ nb ∧ B ≤ i ∧ B ≤ j ∧ i ≠ nb ∧ j ≠ nb ∧ i ≠ j) (hbel : Below B w0 W) : PS xs w0 W B nb 0 :=
  ⟨_, _, _, [], [], [], by rw [List.nil_append]; exact NS.made hZ hn hb hi hj h1.1 h1.2.1 h1.2.2.1 h1.2.2.2.1 h1.2.2.2.2.1 h1.2.2.2.2.2, okO_nil _, rfl, rfl, by simp, rfl, hbel⟩

theorem nest_long (a : Option Addr) (c : Nat) (xs : List Stp) (w : World) (h60 : ¬ xs.length ≤ 60) (hl : xs.length ≤ 9223372036854775807) :
    Calls Tryd.prog 60 #[.slice a xs.length c] w fun e w' => nestAns w.heap.size w' xs e ∧ Below w.heap.size w w' := by
  have hn : nestO xs = none := by unfold nestO; rw [if_neg h60]
  go_enter Tryd.func60, Tryd.ntmps60
  go_wp2
  exact bodyPost_ret (v := .tuple #[.agg #[.slice none 0 0, .slice none 0 0, .slice none 0 0], .bool false]) (by simp [results, Tryd.results60, go_sem]) rfl ⟨nest_no hn, below1 w _⟩

set_option maxHeartbeats 16000000 in
/-- the program's nestOf -/
theorem nest_any (a : Option Addr) (c : Nat) (xs : List Stp) (w : World) (h60 : xs.length ≤ 60) (h : TRow w a xs) (hT : Tab w) :
    Calls Tryd.prog 60 #[.slice a xs.length c] w fun e w' => nestAns w.heap.size w' xs e ∧ Below w.heap.size w w' := by
  have hmk := make_ints xs.length h60
  obtain ⟨Z, hZ⟩ : ∃ Z, madeCells #[Value.int .i64 0] xs.length = Z := ⟨_, rfl⟩
  rw [hZ] at hmk
  have HZ : Hid (madeCells #[Value.int .i64 0] xs.length = Z) := hZ
  have HT : Hid (Tab w) := hT
  have H : Hid (TRow w a xs) := h
  clear h hZ hT
  go_enter Tryd.func60, Tryd.ntmps60
  go_wp2
  go_cut [4] (fun t4 wx => ∃ nb : Nat, t4 = .pointer (some ⟨nb, 0, none⟩) ∧ PS xs (w.alloc (.cells #[.slice none 0 0, .slice none 0 0, .slice none 0 0] 96)) wx (w.heap.size + 1) nb 0)
  case first =>
    go_region
    all_goals
      go_wp2_with fail
      go_meet
      case rel =>
        refine ⟨_, rfl, ?_⟩
        first
          | exact PS.start (w.heap.size + 1) (w.heap.size + 1 + 1) HZ.out h60 (look4 w _ _ _ _).2.2 (look4 w _ _ _ _).1 (look4 w _ _ _ _).2.1 (by omega) (bel4 w _ _ _ _)
          | exact PS.start (w.heap.size + 1) (w.heap.size + 1 + 1 + 1) HZ.out h60 (look4 w _ _ _ _).2.1 (look4 w _ _ _ _).1 (look4 w _ _ _ _).2.2 (by omega) (bel4 w _ _ _ _)
          | exact PS.start (w.heap.size + 1 + 1) (w.heap.size + 1) HZ.out h60 (look4 w _ _ _ _).2.2 (look4 w _ _ _ _).2.1 (look4 w _ _ _ _).1 (by omega) (bel4 w _ _ _ _)
          | exact PS.start (w.heap.size + 1 + 1) (w.heap.size + 1 + 1 + 1) HZ.out h60 (look4 w _ _ _ _).1 (look4 w _ _ _ _).2.1 (look4 w _ _ _ _).2.2 (by omega) (bel4 w _ _ _ _)
          | exact PS.start (w.heap.size + 1 + 1 + 1) (w.heap.size + 1) HZ.out h60 (look4 w _ _ _ _).2.1 (look4 w _ _ _ _).2.2 (look4 w _ _ _ _).1 (by omega) (bel4 w _ _ _ _)
          | exact PS.start (w.heap.size + 1 + 1 + 1) (w.heap.size + 1 + 1) HZ.out h60 (look4 w _ _ _ _).1 (look4 w _ _ _ _).2.2 (look4 w _ _ _ _).2.1 (by omega) (bel4 w _ _ _ _)
  case rest =>
    clear hmk
    obtain ⟨nb, rfl, hps⟩ := hcut
    have HP0 : Hid (_) := hps
    clear hps
    have HRC : Hid (∀ W, Below (w.heap.size + 1) (w.alloc (.cells #[.slice none 0 0, .slice none 0 0, .slice none 0 0] 96)) W → (W.cell? ⟨w.heap.size, 0, none⟩ = some (.slice none 0 0) ∧ W.cell? ⟨w.heap.size, 1, none⟩ = some (.slice none 0 0) ∧ W.cell? ⟨w.heap.size, 2, none⟩ = some (.slice none 0 0)) ∧ W.frozen? ⟨w.heap.size, 0, none⟩ = false ∧ W.frozen? ⟨w.heap.size, 1, none⟩ = false ∧ W.frozen? ⟨w.heap.size, 2, none⟩ = false) := by
      intro W hW
      have hc : ∀ j, W.cell? ⟨w.heap.size, j, none⟩ = (w.alloc (.cells #[.slice none 0 0, .slice none 0 0, .slice none 0 0] 96)).cell? ⟨w.heap.size, j, none⟩ := fun j => hW.cell (p := ⟨w.heap.size, j, none⟩) (by simp)
      have hf : ∀ j, W.frozen? ⟨w.heap.size, j, none⟩ = (w.alloc (.cells #[.slice none 0 0, .slice none 0 0, .slice none 0 0] 96)).frozen? ⟨w.heap.size, j, none⟩ := fun j => hW.frozen (p := ⟨w.heap.size, j, none⟩) (by simp)
      refine ⟨⟨?_, ?_, ?_⟩, ?_, ?_, ?_⟩
      · rw [hc]; simp [go_sem]
      · rw [hc]; simp [go_sem]
      · rw [hc]; simp [go_sem]
      · rw [hf]; simp [go_sem]
      · rw [hf]; simp [go_sem]
      · rw [hf]; simp [go_sem]
    go_wp2
    go_loopw [20] (fun t20 wr => ∃ (k : Nat), t20 = .int .i64 k ∧ k ≤ xs.length ∧ PS xs (w.alloc (.cells #[.slice none 0 0, .slice none 0 0, .slice none 0 0] 96)) wr (w.heap.size + 1) nb k) (fun t20 _ => xs.length - (intOf t20).toNat)
    case atStart => exact ⟨0, rfl, by omega, HP0.out⟩
    case round =>
      obtain ⟨k, rfl, hk, ov, ev, dv, o, e, d, hns, hok, he, hd, ho8, hrun, hB⟩ := hrel
      have HK : Hid (okO o k) := hok
      have HE : Hid (e.length = k ∧ d.length = k) := ⟨he, hd⟩
      have HRun : Hid (runN xs [] [] [] = runN (xs.drop k) o e d) := hrun
      clear hok hrun
      have hesl : (e ++ List.replicate (xs.length - k) 0).length = xs.length := by simp; omega
      have hdsl : (d ++ List.replicate (xs.length - k) 0).length = xs.length := by simp; omega
      obtain ⟨oa, oc, rfl⟩ := hns.slice
      by_cases hlt : k < xs.length
      · obtain ⟨b, off, rfl, hat⟩ := H.out.at (by intro h0; rw [h0] at hlt; simp at hlt)
        have hBw : Below w.heap.size w wr := (below1 w _).trans (hB.mono (by omega))
        obtain ⟨p, n, t, ta, tc, c1, c2, c3, hbw, hs, HR, HX⟩ := hat wr hBw k hlt
        obtain ⟨ge, ce, rfl⟩ : ∃ ge ce, ev = .slice (some ⟨ge, 0, none⟩) xs.length ce := by
          have := hns.ends; rw [hesl] at this
          rcases this.2 with ⟨rfl, h0⟩ | ⟨g, cap, cur, rfl, _⟩
          · omega
          · exact ⟨g, cap, rfl⟩
        obtain ⟨gd, cd, rfl⟩ : ∃ gd cd, dv = .slice (some ⟨gd, 0, none⟩) xs.length cd := by
          have := hns.deps; rw [hdsl] at this
          rcases this.2 with ⟨rfl, h0⟩ | ⟨g, cap, cur, rfl, _⟩
          · omega
          · exact ⟨g, cap, rfl⟩
        obtain ⟨n0, n1, n2⟩ := hns.cells
        have hnl : nb < wr.heap.size := (Array.getElem?_eq_some_iff.1 hns.blk).1
        have hgl : ge < wr.heap.size := (hns.ends.lt ge rfl).2
        have hgdl : gd < wr.heap.size := (hns.deps.lt gd rfl).2
        obtain ⟨vk, hvk⟩ : ∃ v, (ints (e ++ List.replicate (xs.length - k) 0))[k]? = some v := ⟨_, List.getElem?_eq_getElem (by rw [ints_length]; omega)⟩
        have q1 := rowT_at hns.ends rfl hvk
        have r1 := rowT_frz hns.ends rfl k
        have x1 := hns.putE hesl.symm k (-1)
        have y1 := x1.1.heap (below1 _ (.cells #[.int .i64 p, .int .i64 n, .slice ta t.length tc] 59))
        obtain ⟨m0, m1, m2⟩ := y1.cells
        obtain ⟨vd, hvd⟩ : ∃ v, (ints (d ++ List.replicate (xs.length - k) 0))[k]? = some v := ⟨_, List.getElem?_eq_getElem (by rw [ints_length]; omega)⟩
        have q2 := rowT_at y1.deps rfl hvd
        have r2 := rowT_frz y1.deps rfl k
        have x2 := x1.1.putD hdsl.symm k o.length
        have y2 := x2.1.heap (below1 _ (.cells #[.int .i64 p, .int .i64 n, .slice ta t.length tc] 59))
        rw [zeros_set he hlt, zeros_set hd hlt] at y2
        have hbW2 : Below w.heap.size w (((wr.setCell ⟨ge, k, none⟩ (.int .i64 (-1))).setCell ⟨gd, k, none⟩ (.int .i64 o.length)).alloc (.cells #[.int .i64 p, .int .i64 n, .slice ta t.length tc] 59)) := (hBw.trans ((x1.2.trans x2.2).mono (by omega))).alloc (by have := hBw.size; simp; omega) _
        have HY2 : Hid (NS (w.heap.size + 1) (((wr.setCell ⟨ge, k, none⟩ (.int .i64 (-1))).setCell ⟨gd, k, none⟩ (.int .i64 o.length)).alloc (.cells #[.int .i64 p, .int .i64 n, .slice ta t.length tc] 59)) nb (.slice oa o.length oc) (.slice (some ⟨ge, 0, none⟩) xs.length ce) (.slice (some ⟨gd, 0, none⟩) xs.length cd) o (e ++ -1 :: List.replicate (xs.length - (k + 1)) 0) (d ++ (o.length : Int) :: List.replicate (xs.length - (k + 1)) 0)) := y2
        have hbB : Below (w.heap.size + 1) (w.alloc (.cells #[.slice none 0 0, .slice none 0 0, .slice none 0 0] 96)) (((wr.setCell ⟨ge, k, none⟩ (.int .i64 (-1))).setCell ⟨gd, k, none⟩ (.int .i64 o.length)).alloc (.cells #[.int .i64 p, .int .i64 n, .slice ta t.length tc] 59)) := (hB.trans (x1.2.trans x2.2)).alloc (by have := hB.size; simp at this; simp; omega) _
        have HBW : Hid (Below w.heap.size w (((wr.setCell ⟨ge, k, none⟩ (.int .i64 (-1))).setCell ⟨gd, k, none⟩ (.int .i64 o.length)).alloc (.cells #[.int .i64 p, .int .i64 n, .slice ta t.length tc] 59)) ∧ Below (w.heap.size + 1) (w.alloc (.cells #[.slice none 0 0, .slice none 0 0, .slice none 0 0] 96)) (((wr.setCell ⟨ge, k, none⟩ (.int .i64 (-1))).setCell ⟨gd, k, none⟩ (.int .i64 o.length)).alloc (.cells #[.int .i64 p, .int .i64 n, .slice ta t.length tc] 59))) := ⟨hbW2, hbB⟩
        have hbx : ∀ j v, (((wr.setCell ⟨ge, k, none⟩ (.int .i64 (-1))).setCell ⟨gd, k, none⟩ (.int .i64 o.length)).alloc (.cells #[.int .i64 p, .int .i64 n, .slice ta t.length tc] 59)).cell? ⟨wr.heap.size, j, none⟩ = some v → ∀ W, Below (((wr.setCell ⟨ge, k, none⟩ (.int .i64 (-1))).setCell ⟨gd, k, none⟩ (.int .i64 o.length)).alloc (.cells #[.int .i64 p, .int .i64 n, .slice ta t.length tc] 59)).heap.size (((wr.setCell ⟨ge, k, none⟩ (.int .i64 (-1))).setCell ⟨gd, k, none⟩ (.int .i64 o.length)).alloc (.cells #[.int .i64 p, .int .i64 n, .slice ta t.length tc] 59)) W → W.cell? ⟨wr.heap.size, j, none⟩ = some v := by
          intro j v hv W hW
          rw [hW.cell (by simp)]; exact hv
        have HBX : Hid (_) := hbx
        have hk60 : k < 60 := by omega
        have hkI : (k : Int) < xs.length := by omega
        clear hns x1 y1 x2 y2 hvk hvd hbW2 hbB hbx m1 hat hB
        go_wp2_with fail
        refine (mayStand_any p n t ta tc _ hs (HR.out.below HBW.out.1) (HT.out.below HBW.out.1)).mono ?_
        cases h1 : oneS (p, n, t) with
        | false =>
          rintro e' w3 ⟨rfl, hb3⟩
          have hb3w : Below (w.heap.size + 1) (w.alloc (.cells #[.slice none 0 0, .slice none 0 0, .slice none 0 0] 96)) w3 := HBW.out.2.trans (hb3.mono (by have := HBW.out.2.size; simp at this ⊢; omega))
          obtain ⟨⟨zc0, zc1, zc2⟩, zf0, zf1, zf2⟩ := HRC.out w3 hb3w
          have HSN : Hid (stp (p, n, t) o e = none) := stp_one h1
          have HBE : Hid (Below (w.heap.size + 1) (w.alloc (.cells #[.slice none 0 0, .slice none 0 0, .slice none 0 0] 96)) w3) := hb3w
          clear hb3 hb3w
          go_wp2
          exact bodyPost_ret (v := .tuple #[.agg #[.slice none 0 0, .slice none 0 0, .slice none 0 0], .bool false]) (by simp [results, Tryd.results60, go_sem, *]) rfl ⟨nest_no (nest_none HRun.out HX.out HSN.out), below_set3 ((below1 w _).trans (HBE.out.mono (by omega))) w.heap.size (Nat.le_refl _) _ _ _⟩
        | true =>
          rintro e' w3 ⟨rfl, hb3⟩
          have hb3w : Below (w.heap.size + 1) (w.alloc (.cells #[.slice none 0 0, .slice none 0 0, .slice none 0 0] 96)) w3 := HBW.out.2.trans (hb3.mono (by have := HBW.out.2.size; simp at this ⊢; omega))
          have v0 := HBX.out 0 (.int .i64 p) (by simp [go_sem]) w3 hb3
          have v1 := HBX.out 1 (.int .i64 n) (by simp [go_sem]) w3 hb3
          have v2 := HBX.out 2 (.slice ta t.length tc) (by simp [go_sem]) w3 hb3
          have HY3 : Hid (NS (w.heap.size + 1) w3 nb (.slice oa o.length oc) (.slice (some ⟨ge, 0, none⟩) xs.length ce) (.slice (some ⟨gd, 0, none⟩) xs.length cd) o (e ++ -1 :: List.replicate (xs.length - (k + 1)) 0) (d ++ (o.length : Int) :: List.replicate (xs.length - (k + 1)) 0)) := HY2.out.heap hb3
          have HR3 : Hid (Row w3 ta t) := HR.out.below (bstep' HBW.out.1 hb3)
          have HB3 : Hid (Below (w.heap.size + 1) (w.alloc (.cells #[.slice none 0 0, .slice none 0 0, .slice none 0 0] 96)) w3) := hb3w
          clear hb3 hb3w
          go_wp2_with fail
          refine (pass_any (w.heap.size + 1) nb _ _ _ o e (List.replicate (xs.length - (k + 1)) 0) _ k p n t ta tc w3 HY3.out ho8 HE.out.1 (by have := HE.out.1; simp; omega) HK.out hs HR3.out h1).mono ?_
          rintro e' w4 ⟨hb4, bb, rfl, hm⟩
          have hb4w : Below (w.heap.size + 1) (w.alloc (.cells #[.slice none 0 0, .slice none 0 0, .slice none 0 0] 96)) w4 := HB3.out.trans hb4
          cases hst : stp (p, n, t) o e with
          | none =>
            rw [hst] at hm
            obtain rfl : bb = false := hm
            obtain ⟨⟨zc0, zc1, zc2⟩, zf0, zf1, zf2⟩ := HRC.out w4 hb4w
            have HSN : Hid (stp (p, n, t) o e = none) := hst
            have HBE : Hid (Below (w.heap.size + 1) (w.alloc (.cells #[.slice none 0 0, .slice none 0 0, .slice none 0 0] 96)) w4) := hb4w
            clear hb4 hb4w hst
            go_wp2
            exact bodyPost_ret (v := .tuple #[.agg #[.slice none 0 0, .slice none 0 0, .slice none 0 0], .bool false]) (by simp [results, Tryd.results60, go_sem, *]) rfl ⟨nest_no (nest_none HRun.out HX.out HSN.out), below_set3 ((below1 w _).trans (HBE.out.mono (by omega))) w.heap.size (Nat.le_refl _) _ _ _⟩
          | some oe =>
            obtain ⟨o', e2⟩ := oe
            rw [hst] at hm
            obtain ⟨hbb, ov', hn4⟩ := hm
            subst hbb
            have HN4 : Hid (_) := hn4
            have HBE : Hid (Below (w.heap.size + 1) (w.alloc (.cells #[.slice none 0 0, .slice none 0 0, .slice none 0 0] 96)) w4) := hb4w
            have HST : Hid (stp (p, n, t) o e = some (o', e2)) := hst
            clear hb4 hb4w hst hn4
            go_wp2
            go_roundw
            case rel =>
              have hl2 := stp_length HST.out
              refine ⟨k + 1, by go_num, by omega, ov', .slice (some ⟨ge, 0, none⟩) xs.length ce, .slice (some ⟨gd, 0, none⟩) xs.length cd, o', e2, d ++ [(o.length : Int)], ?_, ?_, by rw [hl2, HE.out.1], by simp [HE.out.2], stp_le8 HST.out ho8, run_next HRun.out HX.out HST.out, HBE.out⟩
              · rw [List.append_assoc]; exact HN4.out
              · have := stp_ok HST.out (by rw [HE.out.1]; exact HK.out)
                rw [hl2, HE.out.1] at this; exact this
            case measure => simp [intOf]; omega
      · obtain rfl : k = xs.length := by omega
        have hsl : ∀ {v : Value} {n : Nat} {zs : List Int}, wr.ownsRow (w.heap.size + 1) 3 1 v n (ints zs) → ∃ va vl vc, v = .slice va vl vc := by
          intro v n zs hv
          rcases hv.2 with ⟨rfl, _⟩ | ⟨g, cap, cur, rfl, _⟩
          · exact ⟨none, 0, 0, rfl⟩
          · exact ⟨_, _, cap, rfl⟩
        obtain ⟨ea, el, ec, rfl⟩ := hsl hns.ends
        obtain ⟨da, dl, dc, rfl⟩ := hsl hns.deps
        obtain ⟨n0, n1, n2⟩ := hns.cells
        have hnl : nb < wr.heap.size := (Array.getElem?_eq_some_iff.1 hns.blk).1
        have hne : ¬ nb = w.heap.size := by have := hns.low; omega
        have hne' : ¬ w.heap.size = nb := by omega
        obtain ⟨⟨zc0, zc1, zc2⟩, zf0, zf1, zf2⟩ := HRC.out wr hB
        have HN : Hid (_) := hns
        have HBE : Hid (_) := hB
        have HR2 : Hid (runN xs [] [] [] = some (o, e, d)) := by
          show _ = _
          rw [HRun.out, List.drop_of_length_le (Nat.le_refl _)]; rfl
        clear hns hB hsl
        go_wp2
        go_region
        go_wp2
        refine bodyPost_ret (v := .tuple #[.agg #[.slice oa o.length oc, .slice ea el ec, .slice da dl dc], .bool ((o.length : Int) == 0)]) (by simp [results, Tryd.results60, go_sem, *]) rfl ⟨⟨_, _, _, _, _, _, _, _, _, _, rfl, ?_⟩, below_set3 ((below1 w _).trans (HBE.out.drew.mono (by omega))) w.heap.size (Nat.le_refl _) _ _ _⟩
        by_cases ho : o = []
        · subst ho
          have hn : nestO xs = some (e, d) := by unfold nestO; rw [if_pos h60, HR2.out]
          rw [hn]
          have k1 := HN.out.ends
          have k2 := HN.out.deps
          rw [hesl] at k1
          rw [hdsl] at k2
          simp only [Nat.sub_self, List.replicate_zero, List.append_nil] at k1 k2
          have low : ∀ {v : Value} {n : Nat} {zs : List Value} (u1 u2 u3 : Value), wr.ownsRow (w.heap.size + 1) 3 1 v n zs → (((wr.drew.setCell ⟨w.heap.size, 0, none⟩ u1).setCell ⟨w.heap.size, 1, none⟩ u2).setCell ⟨w.heap.size, 2, none⟩ u3).ownsRow w.heap.size 3 1 v n zs := by
            intro v n zs u1 u2 u3 hv
            exact owns_mono (ownsRow_setCell_below (ownsRow_setCell_below (ownsRow_setCell_below (owns_below hv (Below.refl _ _).drew) (by simp) _) (by simp) _) (by simp) _) (by omega)
          exact ⟨rfl, low _ _ _ k1, low _ _ _ k2, HN.out.b3⟩
        · have hne0 : ¬ o.length = 0 := fun h => ho (List.eq_nil_of_length_eq_zero h)
          have hz : ((o.length : Int) == 0) = false := beq_eq_false_iff_ne.2 (by omega)
          have hn : nestO xs = none := by
            unfold nestO
            rw [HR2.out]
            cases o with
            | nil => exact absurd rfl ho
            | cons => split <;> rfl
          rw [hn]
          exact hz
end Go.Proofs.YthkkhinmdlmhkaaDoor
