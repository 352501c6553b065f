/- Marks on steps, by the laws' own helpers, and that they are found again. -/
import Derived.Test.YthkkhinmdlmhkaaDoorSteps3
import Derived.Test.YthkkhinmdlmhkaaDoorNest1
namespace Go.Proofs.YthkkhinmdlmhkaaDoor
open Go.RowKit
set_option linter.unusedVariables false
set_option linter.unusedSimpArgs false
set_option maxRecDepth 100000

theorem ret_int {k : IntKind} {a b : Int} (h : a = b) : Ending.returned (.int k a) = .returned (.int k b) := by rw [h]
/-- marking a row that is owned -/
theorem markI_any (B : Nat) (v : Value) (xs : List Int) (k0 : Int) (w : World) (hk0 : 0 ≤ k0) (hk1 : k0 ≤ 40000000) (hl : xs.length ≤ 1048576) (h : w.ownsRow B 3 1 v xs.length (ints xs)) :
    Calls Tryd.prog 20 #[v, .int .i64 k0] w fun e w' => e = .returned (.int .i64 (k0 + (xs.length : Int))) ∧ w'.ownsRow B 3 1 v xs.length (ints (marks k0 xs.length)) ∧ w.grownBy w' v.ownBlock := by
  rcases h.2 with ⟨rfl, h0⟩ | ⟨g, cap, cur, rfl, hB, hg, hn, hm, hs, htk⟩
  · have hx : xs = [] := List.eq_nil_of_length_eq_zero h0
    subst hx
    clear h h0 hl
    go_enter Tryd.func20, Tryd.ntmps20
    go_wp2
    go_loopw [1, 5] (fun t1 t wr => t1 = .int .i64 k0 ∧ t = .int .i64 0 ∧ wr = w) (fun _ t _ => 0)
    case atStart => exact ⟨rfl, rfl, rfl⟩
    case round =>
      obtain ⟨rfl, rfl, rfl⟩ := hrel
      go_wp2
      go_ret
      exact ⟨ret_int (by simp), World.ownsRow_nil _ _ _ _, World.grownBy.refl _ _⟩
  · clear hg hn hm hs htk
    go_enter Tryd.func20, Tryd.ntmps20
    go_wp2
    go_loopw [1, 5] (fun t1 t5 wr => ∃ (j : Nat), t1 = .int .i64 (k0 + (j : Int)) ∧ t5 = .int .i64 j ∧ j ≤ xs.length ∧ wr.ownsRow B 3 1 (.slice (some ⟨g, 0, none⟩) xs.length cap) xs.length (ints (marks k0 j ++ xs.drop j)) ∧ w.grownBy wr (some g)) (fun _ t5 _ => xs.length - (intOf t5).toNat)
    case atStart => exact ⟨0, by simp, rfl, by omega, by simpa [marks] using h, World.grownBy.refl _ _⟩
    case round =>
      obtain ⟨j, rfl, rfl, hj, hown, hgr⟩ := hrel
      by_cases hlt : j < xs.length
      · have hcl := hown.cellAt j (by omega)
        have hfz := hown.frozenAt j
        have hx : (ints (marks k0 j ++ xs.drop j))[j]? = some (.int .i64 xs[j]) := mid_at _ _ _ (marks_length k0 j) hlt
        rw [hx] at hcl
        clear hx
        go_wp2
        go_roundw
        case rel =>
          have hst := hown.stored j (.int .i64 (k0 + (j : Int)))
          refine ⟨j + 1, by go_num, by go_num, by omega, ?_, ?_⟩
          · have e1 : (ints (marks k0 j ++ xs.drop j)).set j (.int .i64 (k0 + (j : Int))) = ints (marks k0 (j + 1) ++ xs.drop (j + 1)) := by
              rw [mid_set _ _ _ (marks_length k0 j) hlt, marks_succ]
            rw [← e1]
            exact hst.1
          · exact ⟨hgr.os, hgr.tape, hgr.output, Nat.le_trans hgr.size hst.2.size, fun k hk hne => (hst.2.block k (Nat.lt_of_lt_of_le hk hgr.size) hne).trans (hgr.block k hk hne)⟩
        case measure => simp [intOf]; omega
      · obtain rfl : j = xs.length := by omega
        go_wp2
        go_ret
        refine ⟨rfl, ?_, hgr⟩
        simpa using hown

/-- asking for the marks -/
theorem heldI_any (a : Option Addr) (c n : Nat) (k0 : Int) (w : World) (hk0 : 0 ≤ k0) (hk1 : k0 ≤ 40000000) (hl : n ≤ 1048576) (h : Row w a (marks k0 n)) :
    Calls Tryd.prog 21 #[.slice a n c, .int .i64 k0] w fun e w' => e = .returned (.int .i64 (k0 + (n : Int))) ∧ w' = w := by
  rcases h with h | ⟨b, off, rfl, hc⟩
  · have hn : n = 0 := by have := marks_length k0 n; rw [h] at this; simpa using this.symm
    subst hn
    clear h hl
    go_enter Tryd.func21, Tryd.ntmps21
    go_wp2
    go_loop [1, 5] (fun t1 t => t1 = .int .i64 k0 ∧ t = .int .i64 0) (fun _ t => 0)
    case atStart => exact ⟨rfl, rfl⟩
    case round =>
      obtain ⟨rfl, rfl⟩ := hrel
      go_wp2
      go_ret
      exact ⟨rfl, rfl⟩
  · rw [marks_length] at hc
    have HC : Hid (∀ i, i < n → w.cell? ⟨b, off + i, none⟩ = some (.int .i64 ((marks k0 n)[i]?.getD 0))) := hc
    clear hc
    go_enter Tryd.func21, Tryd.ntmps21
    go_wp2
    go_loop [1, 5] (fun t1 t5 => ∃ (j : Nat), t1 = .int .i64 (k0 + (j : Int)) ∧ t5 = .int .i64 j ∧ j ≤ n) (fun _ t5 => n - (intOf t5).toNat)
    case atStart => exact ⟨0, by simp, rfl, by omega⟩
    case round =>
      obtain ⟨j, rfl, rfl, hj⟩ := hrel
      by_cases hlt : j < n
      · have hcj := HC.out j hlt
        rw [marks_at k0 n j hlt] at hcj
        go_wp2
        go_round
        case rel => exact ⟨j + 1, by go_num, by go_num, by omega⟩
        case measure => simp [intOf]; omega
      · obtain rfl : j = n := by omega
        go_wp2
        go_ret
        exact ⟨rfl, rfl⟩

theorem own_row {w : World} {B c : Nat} {a : Option Addr} {xs : List Int} (h : w.ownsRow B 3 1 (.slice a xs.length c) xs.length (ints xs)) : Row w a xs := by
  obtain ⟨a', c', e, r⟩ := Row.of_owned h
  injection e with e1 e2 e3
  rw [e1]; exact r
theorem row_marks {w : World} {B : Nat} {a : Option Addr} {n c : Nat} (h : w.ownsRow B 3 1 (.slice a n c) n (ints (marks 1 n))) : Row w a (marks 1 n) := by
  have h2 : w.ownsRow B 3 1 (.slice a n c) (marks 1 n).length (ints (marks 1 n)) := by rw [marks_length]; exact h
  obtain ⟨a', c', e, r⟩ := Row.of_owned h2
  rw [marks_length] at e
  cases e
  exact r
/-- only blocks from B up to C may have turned -/
structure Touch (B C : Nat) (w w' : World) : Prop where
  os : w'.os = w.os
  tape : w'.tape = w.tape
  output : w'.output = w.output
  size : w.heap.size ≤ w'.heap.size
  block : ∀ k, k < w.heap.size → (k < B ∨ C ≤ k) → w'.heap[k]? = w.heap[k]?
theorem Touch.refl (B C : Nat) (w : World) : Touch B C w w := ⟨rfl, rfl, rfl, Nat.le_refl _, fun _ _ _ => rfl⟩
theorem Touch.trans {B C : Nat} {a b c : World} (h : Touch B C a b) (k : Touch B C b c) : Touch B C a c := ⟨k.os.trans h.os, k.tape.trans h.tape, k.output.trans h.output, Nat.le_trans h.size k.size, fun i hi hn => (k.block i (Nat.lt_of_lt_of_le hi h.size) hn).trans (h.block i hi hn)⟩
theorem Touch.of_grown {B C : Nat} {w w' : World} {row : Option Nat} (h : w.grownBy w' row) (hr : ∀ k, row = some k → B ≤ k ∧ k < C) : Touch B C w w' := ⟨h.os, h.tape, h.output, h.size, fun k hk hn => h.block k hk (fun e => by have := hr k e.symm; omega)⟩
theorem Touch.below {B C : Nat} {w0 w w' : World} (h : Touch B C w w') (hb : Below w0.heap.size w0 w) (hB : w0.heap.size ≤ B) : Below w0.heap.size w0 w' := ⟨h.os.trans hb.os, h.tape.trans hb.tape, h.output.trans hb.output, Nat.le_trans hb.size h.size, fun k hk => (h.block k (Nat.lt_of_lt_of_le hk hb.size) (.inl (by omega))).trans (hb.block k hk)⟩
theorem owns_touch {w w' : World} {B C B' : Nat} {e : TypeId} {size : Nat} {v : Value} {n : Nat} {xs : List Value} (h : w.ownsRow B' e size v n xs) (ht : Touch B C w w') (hne : ∀ k, v.ownBlock = some k → k < B ∨ C ≤ k) : w'.ownsRow B' e size v n xs := by
  refine ⟨h.1, ?_⟩
  rcases h.2 with hn | ⟨g, cap, cur, rfl, hb, hgg, rest⟩
  · exact .inl hn
  · refine .inr ⟨g, cap, cur, rfl, hb, ?_, rest⟩
    rw [ht.block g (Array.getElem?_eq_some_iff.1 hgg).1 (hne g rfl)]
    exact hgg

/-- the marked steps -/
def markY : Int → List Stp → List Stp
  | _, [] => []
  | k, x :: r => (k, k + 1, marks (k + 2) x.2.2.length) :: markY (k + 2 + x.2.2.length) r
theorem markY_length (k : Int) (xs : List Stp) : (markY k xs).length = xs.length := by
  induction xs generalizing k with
  | nil => rfl
  | cons x r ih => simp [markY, ih]
theorem markY_snoc (k : Int) (xs : List Stp) (x : Stp) : markY k (xs ++ [x]) = markY k xs ++ [(k + 2 * xs.length + sumT xs, k + 2 * xs.length + sumT xs + 1, marks (k + 2 * xs.length + sumT xs + 2) x.2.2.length)] := by
  induction xs generalizing k with
  | nil => simp [markY, sumT]
  | cons y r ih =>
    simp only [List.cons_append, markY, ih]
    have e : k + 2 + (y.2.2.length : Int) + 2 * (r.length : Int) + (sumT r : Int) = k + 2 * ((y :: r).length : Int) + (sumT (y :: r) : Int) := by simp [sumT]; omega
    rw [e]
theorem markY_sum (k : Int) (xs : List Stp) : sumT (markY k xs) = sumT xs := by
  induction xs generalizing k with
  | nil => rfl
  | cons x r ih => simp [markY, sumT, marks_length] at ih ⊢; rw [ih]

theorem flatT_set {zs : List SV} {j : Nat} {p n : Int} {t : List Int} {v : Value} {p' n' : Int} {t' : List Int} (h : zs[j]? = some ((p, n, t), v)) : ((flatT zs).set (j * 3) (.int .i64 p')).set (j * 3 + 1) (.int .i64 n') = flatT (zs.set j ((p', n', t'), v)) := by
  induction zs generalizing j with
  | nil => simp at h
  | cons y r ih =>
    have hf : ∀ y : SV, ∀ r, flatT (y :: r) = .int .i64 y.1.1 :: .int .i64 y.1.2.1 :: y.2 :: flatT r := by intro y r; simp [flatT]
    cases j with
    | zero => simp at h; subst h; simp [hf]
    | succ j =>
      simp at h
      have := ih h
      rw [hf, show (j + 1) * 3 = j * 3 + 3 by omega, show j * 3 + 3 + 1 = (j * 3 + 1) + 3 by omega]
      simp only [List.set_cons_succ, hf]
      rw [← this]

theorem OwnT.at {w : World} {B : Nat} {blk : Option Nat} {ys : List SV} (h : OwnT w B blk ys) {j : Nat} {y : SV} (hy : ys[j]? = some y) : w.ownsRow B 3 1 y.2 y.1.2.2.length (ints y.1.2.2) ∧ (y.2.ownBlock = none ∨ y.2.ownBlock ≠ blk) := h.1 y (List.mem_of_getElem? hy)
/-- one Table marked, all others as they were -/
theorem OwnT.turn {w w' : World} {B : Nat} {blk : Option Nat} {ys : List SV} (h : OwnT w B blk ys) {j : Nat} {y : SV} (hy : ys[j]? = some y) (x' : Stp) (hl : x'.2.2.length = y.1.2.2.length) (hg : w.grownBy w' y.2.ownBlock) (ho : w'.ownsRow B 3 1 y.2 x'.2.2.length (ints x'.2.2)) : OwnT w' B blk (ys.set j (x', y.2)) := by
  obtain ⟨hj, rfl⟩ := List.getElem?_eq_some_iff.1 hy
  have hp := List.pairwise_iff_getElem.1 h.2
  refine ⟨fun z hz => ?_, ?_⟩
  · obtain ⟨i, hi, rfl⟩ := List.mem_iff_getElem.1 hz
    simp at hi
    rw [List.getElem_set]
    split
    · exact ⟨ho, (h.1 _ (List.getElem_mem hj)).2⟩
    · rename_i hne
      obtain ⟨h1, h2⟩ := h.1 _ (List.getElem_mem hi)
      refine ⟨h1.kept hg ?_, h2⟩
      rcases Nat.lt_or_ge i j with hij | hij
      · exact ne_swap (hp i j hi hj hij)
      · exact hp j i hj hi (by omega)
  · rw [List.pairwise_iff_getElem]
    intro a b ha hb hab
    simp at ha hb
    have := hp a b ha hb hab
    rw [List.getElem_set, List.getElem_set]
    split <;> split <;> simp_all

theorem hown_fix {w : World} {B g cap n : Nat} {zs : List SV} (h : OwnS w B (.slice (some ⟨g, 0, none⟩) n cap) zs) (hn : zs.length = n) : OwnS w B (.slice (some ⟨g, 0, none⟩) n cap) zs := h
set_option maxHeartbeats 4000000 in
/-- marking steps that are owned -/
theorem markSteps_any (B C : Nat) (v : Value) (ys : List SV) (w : World) (h : OwnS w B v ys) (hl : ys.length ≤ 1048576) (hs : sumT (ys.map (·.1)) ≤ 1048576) (hC : ∀ k, v.ownBlock = some k → k < C) (hC2 : ∀ y ∈ ys, ∀ k, y.2.ownBlock = some k → k < C) :
    Calls Tryd.prog 14 #[v, .int .i64 1] w fun e w' => ∃ ys', e = .returned (.int .i64 (1 + 2 * (ys.length : Int) + (sumT (ys.map (·.1)) : Int))) ∧ OwnS w' B v ys' ∧ ys'.map (·.1) = markY 1 (ys.map (·.1)) ∧ Touch B C w w' := by
  rcases h.1.2 with ⟨rfl, h0⟩ | ⟨g, cap, cur, rfl, hB, hg, hn, hm, hsz, htk⟩
  · obtain rfl : ys = [] := List.eq_nil_of_length_eq_zero h0
    have HH : Hid (OwnS w B (.slice none 0 0) []) := h
    clear h h0 hC hC2 hs
    go_enter Tryd.func14, Tryd.ntmps14
    go_wp2
    go_loopw [1, 5] (fun t1 t wr => t1 = .int .i64 1 ∧ t = .int .i64 0 ∧ wr = w) (fun _ t _ => 0)
    case atStart => exact ⟨rfl, rfl, rfl⟩
    case round =>
      obtain ⟨rfl, rfl, rfl⟩ := hrel
      go_wp2
      go_ret
      exact ⟨[], ret_int (by simp [sumT]), HH.out, rfl, Touch.refl _ _ _⟩
  · have HC : Hid (g < C ∧ ∀ y ∈ ys, ∀ k, y.2.ownBlock = some k → k < C) := ⟨hC g rfl, hC2⟩
    have HS : Hid (sumT (ys.map (·.1)) ≤ 1048576) := hs
    clear hg hn hm hsz htk hC hC2 hs
    go_enter Tryd.func14, Tryd.ntmps14
    go_wp2
    go_loopw [1, 5] (fun t1 t5 wr => ∃ (j : Nat) (zs : List SV), t1 = .int .i64 (1 + 2 * (j : Int) + (sumT ((ys.map (·.1)).take j) : Int)) ∧ t5 = .int .i64 j ∧ j ≤ ys.length ∧ zs.length = ys.length ∧ OwnS wr B (.slice (some ⟨g, 0, none⟩) ys.length cap) zs ∧ zs.map (·.2) = ys.map (·.2) ∧ (zs.take j).map (·.1) = markY 1 ((ys.map (·.1)).take j) ∧ zs.drop j = ys.drop j ∧ Touch B C w wr) (fun _ t5 _ => ys.length - (intOf t5).toNat)
    case atStart => exact ⟨0, ys, by simp [sumT], rfl, by omega, rfl, h, rfl, by simp [markY], rfl, Touch.refl _ _ _⟩
    case round =>
      obtain ⟨j, zs, rfl, rfl, hj, hzl, hown, hsnd, htk, hdr, hto⟩ := hrel
      have HT : Hid (zs.map (·.2) = ys.map (·.2) ∧ (zs.take j).map (·.1) = markY 1 ((ys.map (·.1)).take j) ∧ zs.drop j = ys.drop j ∧ zs.length = ys.length) := ⟨hsnd, htk, hdr, hzl⟩
      clear hsnd htk hdr h
      by_cases hlt : j < ys.length
      · obtain ⟨⟨⟨p, n, t⟩, v⟩, hy⟩ : ∃ y, ys[j]? = some y := ⟨_, List.getElem?_eq_getElem hlt⟩
        have hz : zs[j]? = some ((p, n, t), v) := by
          have h1 := congrArg (·[0]?) HT.out.2.2.1
          simpa [List.getElem?_drop, hy] using h1
        have hxs : (ys.map (·.1))[j]? = some (p, n, t) := by simp [hy]
        have hsum := sumT_at hxs
        have hle : sumT ((ys.map (·.1)).take (j + 1)) ≤ 1048576 := by
          have e : sumT (ys.map (·.1)) = sumT ((ys.map (·.1)).take (j + 1)) + sumT ((ys.map (·.1)).drop (j + 1)) := by
            conv => lhs; rw [← List.take_append_drop (j + 1) (ys.map (·.1))]
            unfold sumT; rw [List.map_append, List.sum_append]
          have := HS.out; omega
        simp only [] at hsum
        obtain ⟨S, hS⟩ : ∃ S, sumT ((ys.map (·.1)).take j) = S := ⟨_, rfl⟩
        rw [hS] at hsum ⊢
        have hSle : S + t.length ≤ 1048576 := by omega
        obtain ⟨f0, f1, f2⟩ := flatT_at zs j _ hz
        have c0 := rowT_at hown.1 rfl f0
        have c1 := rowT_at hown.1 rfl f1
        have c2 := rowT_at hown.1 rfl f2
        have r0 := rowT_frz hown.1 rfl (j * 3)
        have r1 := rowT_frz hown.1 rfl (j * 3 + 1)
        obtain ⟨ho, hne⟩ := hown.2.at hz
        simp only [] at ho hne c2
        obtain ⟨ta, tc, rfl, hrow⟩ := Row.of_owned ho
        have hown1 : wr.ownsRow B 59 3 (.slice (some ⟨g, 0, none⟩) ys.length cap) ys.length (flatT zs) := by have := hown.1; rw [hzl] at this; exact this
        have s0 := hown1.stored (j * 3) (.int .i64 (1 + 2 * (j : Int) + S))
        have s1 := s0.1.stored (j * 3 + 1) (.int .i64 (1 + 2 * (j : Int) + S + 1))
        have hot := (hown.2.kept (w' := wr.setCell ⟨g, j * 3, none⟩ (.int .i64 (1 + 2 * (j : Int) + S))) s0.2).kept s1.2
        have HOT : Hid (OwnT ((wr.setCell ⟨g, j * 3, none⟩ (.int .i64 (1 + 2 * (j : Int) + S))).setCell ⟨g, j * 3 + 1, none⟩ (.int .i64 (1 + 2 * (j : Int) + S + 1))) B (some g) zs) := hot
        have HS1 : Hid (_) := s1.1
        have HTO : Hid (Touch B C w ((wr.setCell ⟨g, j * 3, none⟩ (.int .i64 (1 + 2 * (j : Int) + S))).setCell ⟨g, j * 3 + 1, none⟩ (.int .i64 (1 + 2 * (j : Int) + S + 1)))) := (hto.trans (Touch.of_grown s0.2 (fun k hk => by cases hk; exact ⟨hB, HC.out.1⟩))).trans (Touch.of_grown s1.2 (fun k hk => by cases hk; exact ⟨hB, HC.out.1⟩))
        have HZ : Hid (zs[j]? = some ((p, n, t), .slice ta t.length tc) ∧ ys[j]? = some ((p, n, t), .slice ta t.length tc)) := ⟨hz, hy⟩
        have HX : Hid ((ys.map (·.1))[j]? = some (p, n, t) ∧ sumT ((ys.map (·.1)).take j) = S ∧ sumT ((ys.map (·.1)).take (j + 1)) = S + t.length) := ⟨hxs, hS, hsum⟩
        clear hown hown1 s0 s1 hot hto hz hy hxs hsum hS hle f0 f1 f2 ho hne hrow
        go_wp2_with fail
        refine (markI_any B _ t (1 + 2 * (j : Int) + S + 1 + 1) _ (by omega) (by omega) (by omega) (HOT.out.at HZ.out.1).1).mono ?_
        rintro e w2 ⟨rfl, ho2, hg2⟩
        have HG2 : Hid (_) := hg2
        have HO2 : Hid (_) := ho2
        clear hg2 ho2
        go_wp2
        go_roundw
        case rel =>
          have hvC : ∀ k, (Value.slice ta t.length tc).ownBlock = some k → B ≤ k ∧ k < C := fun k hk => ⟨((HOT.out.at HZ.out.1).1.lt k hk).1, HC.out.2 _ (List.mem_of_getElem? HZ.out.2) k hk⟩
          have hne := (HOT.out.at HZ.out.1).2
          have hT2 := HOT.out.turn HZ.out.1 (1 + 2 * (j : Int) + S, 1 + 2 * (j : Int) + S + 1, marks (1 + 2 * (j : Int) + S + 1 + 1) t.length) (by simp [marks_length]) HG2.out (by simp only [marks_length]; exact HO2.out)
          refine ⟨j + 1, zs.set j ((1 + 2 * (j : Int) + S, 1 + 2 * (j : Int) + S + 1, marks (1 + 2 * (j : Int) + S + 1 + 1) t.length), .slice ta t.length tc), ?_, by go_num, by omega, by rw [List.length_set]; exact HT.out.2.2.2, ⟨?_, hT2⟩, ?_, ?_, ?_, HTO.out.trans (Touch.of_grown HG2.out hvC)⟩
          · rw [HX.out.2.2]; congr 1; simp; omega
          · have k1 := World.ownsRow.kept HS1.out HG2.out (ne_swap hne)
            rw [flatT_set (t' := marks (1 + 2 * (j : Int) + S + 1 + 1) t.length) HZ.out.1] at k1
            rw [List.length_set, HT.out.2.2.2]
            exact k1
          · rw [List.map_set, ← HT.out.1]
            have e2 := HZ.out.1
            apply List.ext_getElem?
            intro i
            rw [List.getElem?_set]
            split
            · rename_i he
              subst he
              have := (List.getElem?_eq_some_iff.1 e2).1
              rw [if_pos (by simpa using this), List.getElem?_map, e2]
              rfl
            · rfl
          · have hjz : j < zs.length := by rw [HT.out.2.2.2]; exact hlt
            rw [List.take_add_one, List.getElem?_set_self hjz, List.take_set_of_le (Nat.le_refl _), List.map_append, HT.out.2.1, List.take_add_one, HX.out.1]
            simp only [Option.toList_some, List.map_cons, List.map_nil]
            rw [markY_snoc, HX.out.2.1]
            have : ((List.take j (ys.map (·.1))).length : Int) = j := by simp; omega
            rw [this]
            rfl
          · rw [List.drop_set_of_lt (by omega)]
            have := congrArg (List.drop 1) HT.out.2.2.1
            simpa using this
        case measure => simp [intOf]; omega
      · obtain rfl : j = ys.length := by omega
        go_wp2
        go_ret
        have e1 : (ys.map (·.1)).take ys.length = ys.map (·.1) := List.take_of_length_le (by simp)
        refine ⟨ret_int (by rw [e1]), zs, hown, ?_, hto⟩
        have := HT.out.2.1
        rw [List.take_of_length_le (by rw [HT.out.2.2.2]; exact Nat.le_refl _), e1] at this
        exact this

theorem markY_at (k : Int) (xs : List Stp) (j : Nat) (x : Stp) (h : xs[j]? = some x) : (markY k xs)[j]? = some (k + 2 * j + sumT (xs.take j), k + 2 * j + sumT (xs.take j) + 1, marks (k + 2 * j + sumT (xs.take j) + 2) x.2.2.length) := by
  induction xs generalizing k j with
  | nil => simp at h
  | cons y r ih =>
    cases j with
    | zero => simp at h; subst h; simp [markY, sumT]
    | succ j =>
      simp at h
      have := ih (k + 2 + y.2.2.length) j h
      have e : k + 2 + (y.2.2.length : Int) + 2 * (j : Int) + (sumT (r.take j) : Int) = k + 2 * ((j + 1 : Nat) : Int) + (sumT ((y :: r).take (j + 1)) : Int) := by simp [sumT]; omega
      rw [e] at this
      simpa [markY] using this

end Go.Proofs.YthkkhinmdlmhkaaDoor
