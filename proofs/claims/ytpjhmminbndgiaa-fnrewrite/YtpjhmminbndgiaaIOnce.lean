/- The program's OnceBy. -/
import Derived.Test.YtpjhmminbndgiaaPick
namespace Go.Proofs.Ytpjhmminbndgiaa
open Go Go.RowKit
attribute [local go_sem] Oper.semAt_some
set_option linter.unusedVariables false
set_option linter.unusedSimpArgs false
set_option maxRecDepth 100000

theorem once_len (l : List Rl) (s : Tx) : (once l s).length ≤ l.length * s.length := by
  induction l with
  | nil => simp [once]
  | cons r l ih =>
    have h1 : (onceR r s).length ≤ s.length := by
      unfold onceR
      exact Nat.le_trans (List.length_filterMap_le _ _) (by simp)
    have h2 : once (r :: l) s = onceR r s ++ once l s := by simp [once]
    rw [h2, List.length_append, List.length_cons, Nat.add_mul, Nat.one_mul]
    omega
theorem own_kind {w : World} {B : Nat} {e : TypeId} {size n : Nat} {v : Value} {xs : List Value} (h : w.ownsRow B e size v n xs) {g : Nat} (hg : v.ownBlock = some g) : B ≤ g ∧ ∃ cur, w.heap[g]? = some (Obj.cells cur e (0, 0)) := by
  rcases h.2 with ⟨rfl, _⟩ | ⟨g', cap, cur, rfl, hB, hgb, _⟩
  · simp [Value.ownBlock] at hg
  · obtain rfl : g' = g := by simpa [Value.ownBlock] using hg
    exact ⟨hB, cur, hgb⟩
theorem one_text (w : World) (s : ByteArray) (nb : Nat) (h : w.heap.size = nb) : TsRow (w.alloc (.cells #[.string s] 9)) (some ⟨nb, 0, none⟩) [s] := by
  subst h
  refine .inr ⟨_, 0, rfl, fun i x hi => ?_⟩
  match i, hi with
  | 0, hi => simp at hi; subst hi; simp [go_sem]
  | i + 1, hi => simp at hi
theorem textsB_one (s : ByteArray) : textsB [s] = okB 40 (Bt s) := by simp [textsB]
set_option maxHeartbeats 4000000 in
theorem iOnceBy_bad (a : Option Addr) (c : Nat) (xs : List RB) (s : ByteArray) (w : World) (hl : xs.length ≤ 9223372036854775807) (hs : ∀ x ∈ xs, Short x) (hz : s.size ≤ 9223372036854775807) (h : RRow w a xs) (hp : (rulesB (Rs xs) && okB 40 (Bt s)) = false) :
    Calls Try.prog 20 #[.slice a xs.length c, .string s] w fun e w' => e = .returned (.tuple #[.slice none 0 0, .bool false]) ∧ Below w.heap.size w w' := by
  go_enter Try.func20, Try.ntmps20
  go_wp2_with fail
  refine (rewritersOf_any a (some ⟨w.heap.size, 0, none⟩) c 1 xs [s] _ hl hs (h.below (below1 w _)) (by simp) (by simpa using hz) (one_text w s _ rfl) false [] (by rw [textsB_one, hp]) rfl).mono ?_
  rintro e w1 ⟨⟨ra, rc, rfl, hw1⟩, hb1⟩
  go_wp2
  go_ret2
  exact ⟨rfl, bstep' (below1 w _) hb1⟩
set_option maxHeartbeats 4000000 in
theorem iOnceBy_good (a : Option Addr) (c : Nat) (xs : List RB) (s : ByteArray) (w : World) (hl : xs.length ≤ 9223372036854775807) (hs : ∀ x ∈ xs, Short x) (h : RRow w a xs) (hg : rulesB (Rs xs) = true) (ho : okB 40 (Bt s) = true) :
    Calls Try.prog 20 #[.slice a xs.length c, .string s] w fun e w' => (∃ v, e = .returned (.tuple #[v, .bool true]) ∧ w'.ownsRow w.heap.size 9 1 v (once (Rs xs) (Bt s)).length (strs (once (Rs xs) (Bt s)))) ∧ Below w.heap.size w w' := by
  have hz := ok_size ho
  refine (callsIn_wide (n := 5)).1 ?_
  refine callsIn_of_wp_marks Try.func20 rfl trivial ?_ rfl
  simp only [Try.ntmps20, List.size_toArray, List.length_cons, List.length_nil, Nat.reduceAdd, Nat.reduceSub, Array.replicate_succ, Array.replicate_zero, List.push_toArray, List.append_toArray, List.nil_append, List.cons_append]
  gi_wp2_with fail
  refine ⟨trivial, ?_⟩
  refine (callsIn_wide.2 (rewritersOf_any a (some ⟨w.heap.size, 0, none⟩) c 1 xs [s] _ hl hs (h.below (below1 w _)) (by simp) (by simp; omega) (one_text w s _ rfl) true xs (by rw [textsB_one, hg, ho]; rfl) rfl)).mono ?_
  rintro e w1 ⟨⟨ra, rc, rfl, hw1⟩, hb1⟩
  have hB1 : Below w.heap.size w w1 := bstep' (below1 w _) hb1
  clear hb1
  gi_wp2_with fail
  refine ⟨trivial, ?_⟩
  refine (callsIn_wide.2 (madeOf_any _ _ _ _ _)).mono ?_
  rintro e w2 ⟨rfl, rfl⟩
  gi_wp2_with fail
  obtain ⟨W0, hW0⟩ : ∃ W0, ((w1.alloc (Obj.cells #[Value.slice none 0 0] 32)).alloc (Obj.cells #[Value.slice ra xs.length rc] 60)).alloc (Obj.cells #[Value.string s] 9) = W0 := ⟨_, rfl⟩
  have hsz : W0.heap.size = w1.heap.size + 3 := by rw [← hW0]; simp
  have B0 : Below w1.heap.size w1 W0 := by rw [← hW0]; exact ((below1 w1 _).alloc (by simp) _).alloc (by simp; omega) _
  have x8 : Boxed W0 w1.heap.size 32 (.slice none 0 0) := by rw [← hW0]; exact ((Boxed.new w1 32 (.slice none 0 0)).alloc _).alloc _
  have y1 : W0.cell? ⟨w1.heap.size + 1, 0, none⟩ = some (.slice ra xs.length rc) := by
    rw [← hW0]
    have := Boxed.new (w1.alloc (Obj.cells #[Value.slice none 0 0] 32)) 60 (.slice ra xs.length rc)
    rw [World.size_alloc] at this
    exact (this.alloc _).cell
  have y2 : W0.cell? ⟨w1.heap.size + 1 + 1, 0, none⟩ = some (.string s) := by
    rw [← hW0]
    have := Boxed.new ((w1.alloc (Obj.cells #[Value.slice none 0 0] 32)).alloc (Obj.cells #[Value.slice ra xs.length rc] 60)) 9 (.string s)
    rw [World.size_alloc, World.size_alloc] at this
    exact this.cell
  rw [hW0]
  clear hW0
  have hNl := once_len (Rs xs) (Bt s)
  have hx8 := good_len hg
  rw [Rs_length, ← Bt_size] at hNl
  have hN : (once (Rs xs) (Bt s)).length ≤ 320 := Nat.le_trans hNl (Nat.mul_le_mul hx8 hz)
  have HSEQ := made_seq 4 (by omega) (w1.heap.size + 1) (w1.heap.size + 1 + 1) xs ra rc s w1 W0 hg (by omega) hw1 y1 y2 B0
  obtain ⟨i0, hi, hz0, hz1, hz2⟩ := info_parts info9
  clear hw1 y1 y2 hNl
  have hB10 := hB1.trans (B0.mono hB1.size)
  have hsw := hB1.size
  refine wpIn_rangeFunc_ownF rfl (by omega) (gf := 72) (lb := #[.pointer (some ⟨w1.heap.size + 1, 0, none⟩), .pointer (some ⟨w1.heap.size + 1 + 1, 0, none⟩)]) rfl trivial (enters_of Try.func72 (by kernel_rfl) rfl)
    HSEQ (fun {_ _ _} h k => KpW.trans h k) (KpW.b (by omega) (by omega) (by omega)) (Below.refl _ _) (fun _ => rfl)
    (fun pre W => (∃ v, Boxed W w1.heap.size 32 v ∧ W.ownsRow W0.heap.size 9 1 v pre.length (strs pre) ∧ True) ∧ Below w1.heap.size w1 W ∧ W0.heap.size ≤ W.heap.size)
    (fun _ _ _ => False)
    (OwnFrom.and (Own.from (holdsRow_own W0.heap.size w1.heap.size 32 9 1 (fun pre : List Tx => pre.length) (fun pre => strs pre) (fun _ _ => True)) _) (fun s A B row ⟨h1, h2⟩ hg hr => ⟨h1.grown hg (by have := h1.size; omega) (fun k e => by have := (hr k e).1; omega), Nat.le_trans h2 hg.size⟩))
    (fun _ _ _ _ _ h _ _ => h)
    ⟨⟨_, x8, World.ownsRow_nil _ _ _ _, trivial⟩, B0, Nat.le_refl _⟩
    (fun x => { tmps := #[Value.slice a xs.length c, Value.string s, undef, undef, Value.slice none 0 0, Value.bool false, Value.slice ra xs.length rc, Value.bool true, Value.pointer (some ⟨w1.heap.size, 0, none⟩), Value.string (Sb x), Value.tuple #[Value.slice ra xs.length rc, Value.bool true], Value.slice a xs.length c, Value.string s, Value.slice (some ⟨w.heap.size, 0, none⟩) 1 1, Value.tuple #[Value.slice ra xs.length rc, Value.bool true], Value.slice ra xs.length rc, Value.bool true, Value.bool true, Value.bool false, Value.slice ra xs.length rc, Value.string s, Value.func (Fn.func 72) #[] #[Value.pointer (some ⟨w1.heap.size + 1, 0, none⟩), Value.pointer (some ⟨w1.heap.size + 1 + 1, 0, none⟩)], Value.string (Sb x), undef, undef, undef, undef, undef], defers := [] }) ?assign ?body ?done ?stop
  case assign =>
    intro l x W K hK
    gi_wp2
    exact hK
  case body =>
    rintro l pre x W ⟨⟨v, hv, hrow, _⟩, hB, hWs⟩ hlen
    have hvc := hv.cell
    have hBs := hB.size
    have HI := hid (And.intro hv (And.intro hrow hB))
    have hrw := owns_mono (B' := w1.heap.size) hrow (by omega)
    clear hB
    gi_wp2_with (gi_at_builtin; refine wpListIn_append_own _ rfl _ _ 32 rfl W0.heap.size 9 i0 (.string ⟨#[]⟩) 1 16 Try.underlying32 hi hz0 hz1 hz2 rfl (by decide) _ _ _ rfl (hrow.alloc _) ⟨W.heap.size, 0, none⟩ 1 1 [.string (Sb x)] rfl rfl (cell_one_new _ _ _) (by simp [Value.oneCell']) (by unfold maxLen; omega) (by omega) (by simp; omega) ?_; intro v' w3 hown' hgrow _; obtain ⟨g', cap', rfl⟩ := ownsRow_succ hown'; obtain ⟨hv1, hv2, hr2, hk2, hb2⟩ := hv.appended (by decide) hrw hBs (Nat.le_refl _) (owns_mono hown' (by omega)) hgrow; have hc1 := hv1.cell; have hf1 := hv1.frozen)
    have hk1 : KpW w1.heap.size (w1.heap.size + 1) (w1.heap.size + 1 + 1) W (W.alloc (.cells #[.string (Sb x)] 9)) := KpW.of_below hBs (below1 W _)
    have hk3 : KpW w1.heap.size (w1.heap.size + 1) (w1.heap.size + 1 + 1) (W.alloc (.cells #[.string (Sb x)] 9)) w3 := KpW.of_grown (by simp; omega) hgrow (fun r e => by
      obtain ⟨h1, cur, h2⟩ := own_kind (hrow.alloc (.cells #[.string (Sb x)] 9)) e
      refine ⟨by omega, by omega, by omega, fun cs z h => ?_⟩
      rw [h2] at h
      cases h)
    have hw3 : W0.heap.size ≤ w3.heap.size := by have := hgrow.size; simp at this; omega
    refine ⟨hk2, (hk1.trans hk3).trans (KpW.of_grown (by omega) (grownBy_setCell' w3 w1.heap.size _) (fun r e => by
      cases e
      refine ⟨Nat.le_refl _, by omega, by omega, fun cs z h => ?_⟩
      rw [show w3.heap[w1.heap.size]? = _ from hv1] at h
      cases h)), ⟨_, hv2, ?_, trivial⟩, HI.out.2.2.trans hb2, by simp; exact hw3⟩
    have e2 : strs (pre ++ [x]) = strs pre ++ [.string (Sb x)] := by simp [strs]
    show World.ownsRow _ _ _ _ _ (pre ++ [x]).length _
    rw [e2, List.length_append]
    exact hown'.kept (grownBy_setCell' w3 w1.heap.size _) (.inr (hv1.not_row (by decide) hown').symm)
  case done =>
    rintro D ys W hD he ⟨⟨v, hv, hrow, _⟩, hB, hWs⟩ hK
    subst he
    have hvc := hv.cell
    gi_wp2
    refine ⟨by simp, .inl ⟨_, _, rfl, run_takeDeferred hK, ?_⟩⟩
    exact ⟨.tuple #[v, .bool true], by simp [results, Try.results20, go_sem], ⟨v, rfl, owns_mono (ownsRow_putObj hrow _ hK rfl) (by omega)⟩, (hB1.trans (hB.mono hB1.size)).trans (belowK_b (w := w1) (by omega) _ D _ _ (by omega) hK rfl rfl)⟩
  case stop =>
    rintro D c pre W _ _ h _
    exact h.elim
theorem iOnceBy_any (a : Option Addr) (c : Nat) (xs : List RB) (s : ByteArray) (w : World) (hl : xs.length ≤ 9223372036854775807) (hs : ∀ x ∈ xs, Short x) (hz : s.size ≤ 9223372036854775807) (h : RRow w a xs) :
    Calls Try.prog 20 #[.slice a xs.length c, .string s] w fun e w' => (∃ v, e = .returned (.tuple #[v, .bool (rulesB (Rs xs) && okB 40 (Bt s))]) ∧ w'.ownsRow w.heap.size 9 1 v (onceBy xs s).length (strs (onceBy xs s))) ∧ Below w.heap.size w w' := by
  cases hp : (rulesB (Rs xs) && okB 40 (Bt s)) with
  | false =>
    have e : onceBy xs s = [] := by simp only [onceBy, hp]; rfl
    rw [e]
    refine (iOnceBy_bad a c xs s w hl hs hz h hp).mono ?_
    rintro e w' ⟨rfl, hb⟩
    exact ⟨⟨_, rfl, World.ownsRow_nil _ _ _ _⟩, hb⟩
  | true =>
    have e : onceBy xs s = once (Rs xs) (Bt s) := by simp only [onceBy, hp]; rfl
    rw [e]
    rw [Bool.and_eq_true] at hp
    exact iOnceBy_good a c xs s w hl hs h hp.1 hp.2
end Go.Proofs.Ytpjhmminbndgiaa
