/- What the model's draw of sections, and the functions that draw arguments, answer, whatever the bytes are. -/
import Derived.Test.YtjbmkkoggocemaaSec1
import Derived.Test.YtjbmkkoggocemaaSpoilt
import Derived.Deep.AppendLies
namespace Go.Proofs.Ytjbmkkoggocemaa
open Go.RowKit
set_option linter.unusedVariables false
set_option linter.unusedSimpArgs false
set_option maxRecDepth 100000

theorem below1 (w : World) (o1 : Obj) : Below w.heap.size w (w.alloc o1) := (Below.refl _ w).alloc (Nat.le_refl _) _
theorem news_cells (w : World) (cs : Array Value) (t : TypeId) : ∀ j u, cs.toList[j]? = some u → (w.alloc (.cells cs t)).cell? ((⟨w.heap.size, 0, none⟩ : Addr).add j) = some u := World.news_of_block (t := t) (fr := (0, 0)) (heap_alloc_new w _)
theorem flat_set {xs : List Sec} {j : Nat} {i : Int} {s : ByteArray} (h : xs[j]? = some (i, s)) (i' : Int) : (flat xs).set (j * 2) (.int .i64 i') = flat (xs.set j (i', s)) := by
  induction xs generalizing j with
  | nil => simp at h
  | cons x r ih =>
    have hf : ∀ (y : Sec) l, flat (y :: l) = .int .i64 y.1 :: .string y.2 :: flat l := fun y l => by simp [flat]
    cases j with
    | zero => simp at h; subst h; rw [hf]; simp [hf]
    | succ j =>
      simp at h
      rw [hf, show (j + 1) * 2 = j * 2 + 2 by omega]
      simp [hf, ih h]

/-- what the draw of sections holds -/
def SD (w : World) (n0 B K : Nat) (wr : World) (v : Value) (xs : List Sec) : Prop := wr.ownsRow w.heap.size 31 2 v xs.length (flat xs) ∧ (∀ x ∈ xs, x.2.size ≤ 300) ∧ Cur wr n0 B K ∧ w.grownBy wr (some B)
theorem SD.push {w wr w3 w4 : World} {n0 B K K' : Nat} {v : Value} {xs : List Sec} {i : Int} {s : ByteArray} {g cap : Nat} (h : SD w n0 B K wr v xs) (hB : B < w.heap.size) (hn : n0 ≤ B) (hg3 : wr.grownBy w3 (some B)) (hc3 : Cur w3 n0 B K') (hs : s.size ≤ 300)
    (hown : w4.ownsRow w.heap.size 31 2 (.slice (some ⟨g, 0, none⟩) (xs.length + 1) cap) (xs.length + 1) (flat xs ++ [.int .i64 i, .string s])) (hg : (w3.alloc (.cells #[.int .i64 i, .string s] 31)).grownBy w4 v.ownBlock) :
    SD w n0 B K' w4 (.slice (some ⟨g, 0, none⟩) (xs.length + 1) cap) (xs ++ [(i, s)]) := by
  have hrow : ∀ r, v.ownBlock = some r → w.heap.size ≤ r := fun r e => (h.1.lt r e).1
  refine ⟨?_, ?_, ?_, ?_⟩
  · rw [List.length_append, flat_append]; exact hown
  · intro x hx
    rcases List.mem_append.1 hx with hx | hx
    · exact h.2.1 x hx
    · simp at hx; subst hx; exact hs
  · exact (hc3.grown (World.grownBy_alloc w3 _ none) (fun r e => by cases e)).grown hg (fun r e => by have := hrow r e; exact ⟨by omega, by omega⟩)
  · exact grownBy_mix (grownBy_trans (grownBy_trans h.2.2.2 hg3) (World.grownBy_alloc w3 _ _)) hg (fun r e => hrow r e)
theorem SD.own3 {w wr w3 : World} {n0 B K : Nat} {v : Value} {xs : List Sec} (h : SD w n0 B K wr v xs) (hB : B < w.heap.size) (hg3 : wr.grownBy w3 (some B)) (o : Obj) : (w3.alloc o).ownsRow w.heap.size 31 2 v xs.length (flat xs) := by
  refine (World.ownsRow.kept h.1 hg3 ?_).alloc o
  cases e : v.ownBlock with
  | none => exact .inl rfl
  | some r => right; intro e2; have := (h.1.lt r e).1; simp at e2; omega

theorem SD.kept {w wr w3 : World} {n0 B K K' : Nat} {v : Value} {xs : List Sec} (h : SD w n0 B K wr v xs) (hB : B < w.heap.size) (hg3 : wr.grownBy w3 (some B)) (hc3 : Cur w3 n0 B K') : SD w n0 B K' w3 v xs := by
  refine ⟨World.ownsRow.kept h.1 hg3 ?_, h.2.1, hc3, grownBy_trans h.2.2.2 hg3⟩
  cases e : v.ownBlock with
  | none => exact .inl rfl
  | some r => right; intro e2; have := (h.1.lt r e).1; simp at e2; omega
theorem SD.store {w wr : World} {n0 B K g cap : Nat} {xs : List Sec} (h : SD w n0 B K wr (.slice (some ⟨g, 0, none⟩) xs.length cap) xs) (hB : B < w.heap.size) (hn : n0 ≤ B) {j : Nat} {i : Int} {s : ByteArray} (hx : xs[j]? = some (i, s)) (i' : Int) : SD w n0 B K (wr.setCell ⟨g, j * 2, none⟩ (.int .i64 i')) (.slice (some ⟨g, 0, none⟩) (xs.set j (i', s)).length cap) (xs.set j (i', s)) := by
  obtain ⟨h1, h2⟩ := h.1.stored (j * 2) (.int .i64 i')
  have hg := (h.1.lt g rfl).1
  rw [flat_set hx] at h1
  refine ⟨?_, ?_, h.2.2.1.grown h2 (fun r e => by cases e; exact ⟨by omega, by omega⟩), grownBy_mix h.2.2.2 h2 (fun r e => by cases e; exact hg)⟩
  · rw [List.length_set]; exact h1
  · intro x hm
    rcases List.mem_or_eq_of_mem_set hm with hm | hm
    · exact h.2.1 x hm
    · subst hm; exact h.2.1 (i, s) (List.mem_of_getElem? hx)

set_option maxHeartbeats 4000000 in
/-- the model's draw of sections -/
theorem sections_any (n0 B K : Nat) (w : World) (h : Cur w n0 B K) (hK : K ≤ 500000) :
    Calls Try.prog 63 #[.pointer (some ⟨B, 0, none⟩)] w fun e w' => ∃ v xs, e = .returned v ∧ xs.length ≤ 5 ∧ SD w n0 B (K + 300) w' v xs := by
  obtain ⟨i0, hi, hz0, hz1, hz2⟩ := info_parts info31
  have hB := h.lt
  have hn0 := h.1
  go_enter Try.func63, Try.ntmps63
  go_wp2_with fail
  refine (pick_any n0 B K _ _ h (by omega) (by omega) (by omega)).mono ?_
  rintro e w1 ⟨x, rfl, hx, hc1, hg1⟩
  obtain ⟨k1, rfl⟩ := Int.eq_ofNat_of_zero_le hx.1
  have hk1 : k1 ≤ 5 := by omega
  clear hx
  go_wp2
  go_loopw [3, 4, 5] (fun t3 t4 t5 wr => ∃ (k : Nat) (id : Int) (v : Value) (xs : List Sec), v = t3 ∧ t4 = .int .i64 id ∧ t5 = .int .i64 k ∧ 0 ≤ id ∧ id + 3 * k ≤ 15 ∧ xs.length + k ≤ 5 ∧ SD w n0 B (K + 2 + 30 * (5 - k)) wr v xs) (fun _ _ t5 _ => (intOf t5).toNat)
  case atStart => exact ⟨k1, 0, _, [], rfl, rfl, rfl, by omega, by omega, by simp; omega, World.ownsRow_nil _ _ _ _, by simp, hc1.more (by omega), hg1⟩
  case round =>
    obtain ⟨k, id, v, xs, rfl, rfl, rfl, hid0, hid, hkl, hsd⟩ := hrel
    clear hc1 hg1
    have HSD : Hid (SD w n0 B (K + 2 + 30 * (5 - k)) wr v xs) := hsd
    obtain ⟨va, vc, hva⟩ : ∃ a c, v = .slice a xs.length c := by
      rcases hsd.1.2 with ⟨rfl, h0⟩ | ⟨g, cap, cur, rfl, _⟩
      · rw [h0]; exact ⟨none, 0, rfl⟩
      · exact ⟨_, cap, rfl⟩
    subst hva
    have hcw := hsd.2.2.1
    clear hsd
    by_cases hk : k = 0
    · subst hk
      by_cases hx0 : xs.length = 0
      · have hd : decide (0 < (xs.length : Int)) = false := by rw [hx0]; rfl
        have hle : (xs.length : Int) ≤ 0 := by omega
        clear hx0
        go_wp2
        go_ret
        exact ⟨_, xs, rfl, by omega, HSD.out.1, HSD.out.2.1, HSD.out.2.2.1.more (by omega), HSD.out.2.2.2⟩
      · have hd : decide (0 < (xs.length : Int)) = true := decide_eq_true (by omega)
        have hpos : 0 < xs.length := by omega
        clear hx0
        obtain ⟨g, cap, hv, hbg, hlt⟩ := HSD.out.1.form hpos
        injection hv with hv1 _ hv3
        subst hv1
        subst hv3
        clear hbg hlt
        go_wp2_with fail
        refine (one_any n0 B _ 20 _ hcw (by omega) (by decide) (by decide)).mono ?_
        rintro e w3 ⟨r, rfl, hc3, hg3⟩
        cases r with
        | false =>
          have HS3 : Hid (_) := HSD.out.kept hB hg3 (hc3.more (K' := K + 300) (by omega))
          clear hc3 hg3
          go_wp2
          go_ret
          exact ⟨_, xs, rfl, by omega, HS3.out⟩
        | true =>
          go_wp2_with fail
          refine (pick_any n0 B _ _ _ hc3 (by omega) (by omega) (by omega)).mono ?_
          rintro e w4 ⟨x, rfl, hx, hc4, hg4⟩
          obtain ⟨i, rfl⟩ := Int.eq_ofNat_of_zero_le hx.1
          have hil : i < xs.length := by omega
          go_wp2_with fail
          refine (pick_any n0 B _ _ _ hc4 (by omega) (by omega) (by omega)).mono ?_
          rintro e w5 ⟨y, rfl, hy, hc5, hg5⟩
          obtain ⟨hy0, hy1⟩ := hy
          have hs5 := HSD.out.kept hB (grownBy_trans hg3 (grownBy_trans hg4 hg5)) (hc5.more (K' := K + 300) (by omega))
          obtain ⟨q, hq⟩ : ∃ q, xs[i]? = some q := ⟨_, List.getElem?_eq_getElem hil⟩
          obtain ⟨qi, qs⟩ := q
          have cx := hs5.1.cellAt (i * 2) (by omega)
          rw [(flat_at xs i (qi, qs) hq).1] at cx
          have fx := hs5.1.frozenAt (i * 2)
          have HS5 : Hid (SD w n0 B (K + 300) (w5.setCell ⟨g, i * 2, none⟩ (.int .i64 (y - 1))) (.slice (some ⟨g, 0, none⟩) xs.length vc) (xs.set i (y - 1, qs))) := by
            have := hs5.store hB hn0 hq (y - 1)
            rw [List.length_set] at this
            exact this
          clear hc3 hg3 hc4 hg4 hc5 hg5 hs5 hcw hx
          go_wp2
          go_ret
          exact ⟨_, xs.set i (y - 1, qs), rfl, by rw [List.length_set]; omega, HS5.out⟩
    · obtain ⟨j, rfl⟩ : ∃ j, k = j + 1 := ⟨k - 1, by omega⟩
      clear hk
      go_wp2_with fail
      refine (one_any n0 B _ 4 _ hcw (by omega) (by decide) (by decide)).mono ?_
      rintro e w3 ⟨r, rfl, hc3, hg3⟩
      cases r with
      | true =>
        go_wp2_with fail
        refine (section_any n0 B _ 0 _ hc3 (by omega)).mono ?_
        rintro e w4 ⟨s, rfl, hs, hc4, hg4⟩
        have hg34 := grownBy_trans hg3 hg4
        have hown := HSD.out.own3 hB hg34 (.cells #[.int .i64 0, .string s] 31)
        have hsz : w.heap.size ≤ w4.heap.size := Nat.le_trans HSD.out.2.2.2.size hg34.size
        have HC4 : Hid (Cur w4 n0 B (K + 2 + 30 * (5 - (j + 1)) + 2 + 20)) := hc4
        have HG : Hid (wr.grownBy w4 (some B)) := hg34
        clear hc3 hg3 hg4 hg34 hcw hc4
        go_wp2_with (at_builtin; refine wpList_append_lies _ rfl _ _ 23 rfl w.heap.size 31 i0 (.agg #[.int .i64 0, .string ⟨#[]⟩]) 2 24 Try.underlying23 hi hz0 hz1 hz2 rfl (by decide) _ _ _ rfl hown ⟨w4.heap.size, 0, none⟩ 1 1 [.int .i64 0, .string s] rfl rfl (news_cells w4 #[.int .i64 0, .string s] 31) (by simp [Value.oneCell']) (by decide) (by unfold maxLen; omega) (by omega) (by simp; omega) (w4.heap.size + 1) (by simp) ?_)
        intro g cap w5 hown5 hgrow5 hat5 hlt5
        have HP : Hid (_) := HSD.out.push hB hn0 HG.out HC4.out hs hown5 hgrow5
        clear hown5 hgrow5 hat5 hlt5 hown
        go_wp2
        go_roundw
        case rel => exact ⟨j, id, _, xs ++ [(0, s)], rfl, rfl, by go_num, hid0, by omega, by simp; omega, HP.out.1, HP.out.2.1, HP.out.2.2.1.more (by omega), HP.out.2.2.2⟩
        case measure => simp [intOf]
      | false =>
        go_wp2_with fail
        refine (pick_any n0 B _ _ _ hc3 (by omega) (by decide) (by decide)).mono ?_
        rintro e wp ⟨x, rfl, hx, hcp, hgp⟩
        obtain ⟨hx0, hx1⟩ := hx
        go_wp2_with fail
        refine (section_any n0 B _ _ _ hcp (by omega)).mono ?_
        rintro e w4 ⟨s, rfl, hs, hc4, hg4⟩
        have hg34 := grownBy_trans (grownBy_trans hg3 hgp) hg4
        have hown := HSD.out.own3 hB hg34 (.cells #[.int .i64 (id + (1 + x)), .string s] 31)
        have hsz : w.heap.size ≤ w4.heap.size := Nat.le_trans HSD.out.2.2.2.size hg34.size
        have HC4 : Hid (Cur w4 n0 B (K + 2 + 30 * (5 - (j + 1)) + 2 + 2 + 20)) := hc4
        have HG : Hid (wr.grownBy w4 (some B)) := hg34
        clear hc3 hg3 hg4 hg34 hcw hc4 hcp hgp
        go_wp2_with (at_builtin; refine wpList_append_lies _ rfl _ _ 23 rfl w.heap.size 31 i0 (.agg #[.int .i64 0, .string ⟨#[]⟩]) 2 24 Try.underlying23 hi hz0 hz1 hz2 rfl (by decide) _ _ _ rfl hown ⟨w4.heap.size, 0, none⟩ 1 1 [.int .i64 (id + (1 + x)), .string s] rfl rfl (news_cells w4 #[.int .i64 (id + (1 + x)), .string s] 31) (by simp [Value.oneCell']) (by decide) (by unfold maxLen; omega) (by omega) (by simp; omega) (w4.heap.size + 1) (by simp) ?_)
        intro g cap w5 hown5 hgrow5 hat5 hlt5
        have HP : Hid (_) := HSD.out.push hB hn0 HG.out HC4.out hs hown5 hgrow5
        clear hown5 hgrow5 hat5 hlt5 hown
        go_wp2
        go_roundw
        case rel => exact ⟨j, id + (1 + x), _, xs ++ [(id + (1 + x), s)], rfl, rfl, by go_num, by omega, by omega, by simp; omega, HP.out.1, HP.out.2.1, HP.out.2.2.1.more (by omega), HP.out.2.2.2⟩
        case measure => simp [intOf]

/-- bytes to draw from -/
def Code (w : World) (a : Option Addr) (zs : List Int) : Prop := zs.length ≤ 9223372036854775807 ∧ (∀ z ∈ zs, 0 ≤ z ∧ z ≤ 255) ∧ RowB w w.heap.size a zs
theorem Code.later {w w' : World} {a : Option Addr} {zs : List Int} (h : Code w a zs) (hb : Below w.heap.size w w') : Code w' a zs := by
  refine ⟨h.1, h.2.1, ?_⟩
  rcases h.2.2 with h | ⟨b, off, ha, hlt, hc⟩
  · exact .inl h
  · exact .inr ⟨b, off, ha, Nat.lt_of_lt_of_le hlt hb.size, fun i hi => by rw [hb.cell (p := ⟨b, off + i, none⟩) hlt]; exact hc i hi⟩
/-- a new reader of choices -/
theorem Code.cur {w : World} {a : Option Addr} {zs : List Int} (h : Code w a zs) (cap : Nat) : Cur (w.alloc (.cells #[.slice a zs.length cap, .int .i64 0, .int .u64 0] 59)) w.heap.size w.heap.size 0 := by
  refine ⟨Nat.le_refl _, a, zs, cap, 0, 0, heap_alloc_new w _, by omega, by omega, h.1, h.2.1, ?_⟩
  exact h.2.2.grown (World.grownBy_alloc w _ none) (fun r e => by cases e)
/-- what was made since is new -/
theorem below_of_alloc {w w' : World} {o : Obj} (h : (w.alloc o).grownBy w' (some w.heap.size)) : Below w.heap.size w w' :=
  ((Below.refl w.heap.size w).alloc (Nat.le_refl _) o).grown h (by simp) (fun k e => by cases e; exact Nat.le_refl _)

theorem drawGood_any (a : Option Addr) (zs : List Int) (c : Nat) (w : World) (h : Code w a zs) :
    Calls Try.prog 39 #[.slice a zs.length c] w fun e w' => ∃ v xs, e = .returned v ∧ xs.length ≤ 5 ∧ (∀ x ∈ xs, x.2.size ≤ 300) ∧ w'.ownsRow w.heap.size 31 2 v xs.length (flat xs) ∧ Below w.heap.size w w' := by
  go_enter Try.func39, Try.ntmps39
  go_wp2_with fail
  refine (sections_any w.heap.size w.heap.size 0 _ (h.cur c) (by omega)).mono ?_
  rintro e w1 ⟨v, xs, rfl, hl, hsd⟩
  obtain ⟨h1, h2, h3, h4⟩ := hsd
  obtain ⟨va, vc, hva⟩ : ∃ a c, v = .slice a xs.length c := by
    rcases h1.2 with ⟨rfl, h0⟩ | ⟨g, cap, cur, rfl, _⟩
    · rw [h0]; exact ⟨none, 0, rfl⟩
    · exact ⟨_, cap, rfl⟩
  subst hva
  have HO : Hid (w1.ownsRow w.heap.size 31 2 (.slice va xs.length vc) xs.length (flat xs)) := ⟨h1.1, h1.2.imp id fun ⟨g, cap, cur, q1, q2, q3⟩ => ⟨g, cap, cur, q1, by simp at q2; omega, q3⟩⟩
  clear h1 h3
  go_wp2
  go_ret
  exact ⟨_, xs, rfl, hl, h2, HO.out, below_of_alloc h4⟩
theorem drawDrop_any (a : Option Addr) (zs : List Int) (c : Nat) (w : World) (h : Code w a zs) :
    Calls Try.prog 12 #[.slice a zs.length c] w fun e w' => ∃ v xs, e = .returned v ∧ xs.length ≤ 5 ∧ (∀ x ∈ xs, x.2.size ≤ 300) ∧ w'.ownsRow w.heap.size 31 2 v xs.length (flat xs) ∧ Below w.heap.size w w' := by
  go_enter Try.func12, Try.ntmps12
  go_wp2_with fail
  refine (drawGood_any a zs c _ h).mono ?_
  rintro e w1 ⟨v, xs, rfl, hl, h2, h1, h4⟩
  obtain ⟨va, vc, hva⟩ : ∃ a c, v = .slice a xs.length c := by
    rcases h1.2 with ⟨rfl, h0⟩ | ⟨g, cap, cur, rfl, _⟩
    · rw [h0]; exact ⟨none, 0, rfl⟩
    · exact ⟨_, cap, rfl⟩
  subst hva
  have HO : Hid (w1.ownsRow w.heap.size 31 2 (.slice va xs.length vc) xs.length (flat xs)) := h1
  clear h1
  go_wp2
  go_ret
  exact ⟨_, xs, rfl, hl, h2, HO.out, h4⟩
set_option maxHeartbeats 1000000 in
theorem drawName_any (a : Option Addr) (zs : List Int) (c : Nat) (w : World) (h : Code w a zs) :
    Calls Try.prog 17 #[.slice a zs.length c] w fun e w' => ∃ i s, e = .returned (.agg #[.int .i64 i, .string s]) ∧ s.size ≤ 300 ∧ Below w.heap.size w w' := by
  have h1 : Code (w.alloc (.cells #[.int .i64 0, .string ⟨#[]⟩] 31)) a zs := h.later (below1 w _)
  have hsz : (w.alloc (.cells #[.int .i64 0, .string ⟨#[]⟩] 31)).heap.size = w.heap.size + 1 := by simp
  have hc0 := h1.cur c
  rw [hsz] at hc0
  clear h h1
  go_enter Try.func17, Try.ntmps17
  go_wp2_with fail
  refine (pick_any (w.heap.size + 1) (w.heap.size + 1) 0 _ _ hc0 (by omega) (by omega) (by omega)).mono ?_
  rintro e w1 ⟨x, rfl, hx, hc1, hg1⟩
  obtain ⟨hx0, hx1⟩ := hx
  go_wp2_with fail
  refine (section_any (w.heap.size + 1) (w.heap.size + 1) _ _ _ hc1 (by omega)).mono ?_
  rintro e w2 ⟨s, rfl, hs, hc2, hg2⟩
  have hg := grownBy_trans hg1 hg2
  have br : Box w2 w.heap.size 0 ⟨#[]⟩ := ((Box.new w 0 ⟨#[]⟩).grown (World.grownBy_alloc _ _ none) (fun e => by cases e)).grown hg (fun e => by simp at e)
  obtain ⟨y0, y1, z0, z1⟩ := br.facts
  have HB : Hid (Below w.heap.size w w2) := by
    have h1 : Below w.heap.size w (w.alloc (.cells #[.int .i64 0, .string ⟨#[]⟩] 31)) := below1 w _
    have h2 : Below w.heap.size w ((w.alloc (.cells #[.int .i64 0, .string ⟨#[]⟩] 31)).alloc (.cells #[.slice a zs.length c, .int .i64 0, .int .u64 0] 59)) := h1.alloc (by simp) _
    exact h2.grown hg (by simp; omega) (fun k e => by simp at e; omega)
  clear hc0 hc1 hc2 hg1 hg2 hg br hsz
  generalize x / 4 = i1
  have hb := HB.out.size
  clear hx0 hx1
  go_wp2
  refine bodyPost_ret (v := .agg #[.int .i64 i1, .string s]) (by simp [results, Try.results17, go_sem, *]) rfl ⟨i1, s, rfl, hs, ?_⟩
  exact (HB.out.setCell (by simp) _).setCell (by simp) _
set_option maxHeartbeats 1000000 in
theorem drawUtf_any (a : Option Addr) (zs : List Int) (c : Nat) (w : World) (h : Code w a zs) :
    Calls Try.prog 21 #[.slice a zs.length c] w fun e w' => ∃ s, e = .returned (.string s) ∧ s.size ≤ 300 ∧ Below w.heap.size w w' := by
  go_enter Try.func21, Try.ntmps21
  go_wp2_with fail
  refine (pick_any w.heap.size w.heap.size 0 _ _ (h.cur c) (by omega) (by omega) (by omega)).mono ?_
  rintro e w1 ⟨x, rfl, hx, hc1, hg1⟩
  obtain ⟨k1, rfl⟩ := Int.eq_ofNat_of_zero_le hx.1
  have hk1 : k1 ≤ 3 := by omega
  have hB := hc1.lt
  clear hx
  go_wp2
  go_loopw [4, 5] (fun t4 t5 wr => ∃ (k : Nat) (s : ByteArray), t4 = .string s ∧ t5 = .int .i64 k ∧ k ≤ 3 ∧ s.size + 10 * k ≤ 40 ∧ Cur wr w.heap.size w.heap.size (2 + 2 * (3 - k)) ∧ (w.alloc (.cells #[.slice a zs.length c, .int .i64 0, .int .u64 0] 59)).grownBy wr (some w.heap.size)) (fun _ t5 _ => (intOf t5).toNat)
  case atStart => exact ⟨k1, _, rfl, rfl, hk1, by show 0 + 10 * k1 ≤ 40; omega, hc1.more (by omega), hg1⟩
  case round =>
    obtain ⟨k, s, rfl, rfl, hk3, hsz, hcw, hgw⟩ := hrel
    clear hc1 hg1
    have hlw := hcw.lt
    by_cases hk : k = 0
    · subst hk
      go_wp2_with fail
      refine (one_any _ _ _ 2 _ hcw (by omega) (by decide) (by decide)).mono ?_
      rintro e w3 ⟨r, rfl, hc3, hg3⟩
      cases r with
      | false =>
        have HB : Hid (Below w.heap.size w w3) := below_of_alloc (grownBy_trans hgw hg3)
        clear hc3 hg3 hcw hgw
        go_wp2
        go_ret
        exact ⟨_, rfl, by omega, HB.out⟩
      | true =>
        go_wp2_with fail
        refine (spoilt_any _ _ _ s ⟨#[128, 192, 193, 224, 237, 244, 245, 144]⟩ _ hc3 (by omega) (by omega) (by decide) (by decide)).mono ?_
        rintro e w4 ⟨s', rfl, hs', hc4, hg4⟩
        have HB : Hid (Below w.heap.size w w4) := below_of_alloc (grownBy_trans (grownBy_trans hgw hg3) hg4)
        clear hc3 hg3 hcw hgw hc4 hg4
        go_wp2
        go_ret
        exact ⟨_, rfl, by omega, HB.out⟩
    · obtain ⟨j, rfl⟩ : ∃ j, k = j + 1 := ⟨k - 1, by omega⟩
      clear hk
      go_wp2_with fail
      have c5 := hcw.grown (World.grownBy_alloc wr (.cells #[.string ⟨#[97]⟩, .string ⟨#[195, 169]⟩, .string ⟨#[226, 130, 172]⟩, .string ⟨#[240, 159, 152, 128]⟩, .string ⟨#[244, 143, 191, 191]⟩] 9) none) (fun r e => by cases e)
      refine (of_any _ _ _ wr.heap.size 5 [⟨#[97]⟩, ⟨#[195, 169]⟩, ⟨#[226, 130, 172]⟩, ⟨#[240, 159, 152, 128]⟩, ⟨#[244, 143, 191, 191]⟩] _ c5 (by omega) (by simp) (by simp) (by omega) (by simpa using strs_cells (w := wr) [⟨#[97]⟩, ⟨#[195, 169]⟩, ⟨#[226, 130, 172]⟩, ⟨#[240, 159, 152, 128]⟩, ⟨#[244, 143, 191, 191]⟩] (t := 9) (by decide))).mono ?_
      rintro e w5 ⟨s5, rfl, hs5, hc5, hg5⟩
      have HG : Hid ((w.alloc (.cells #[.slice a zs.length c, .int .i64 0, .int .u64 0] 59)).grownBy w5 (some w.heap.size)) := grownBy_trans (grownBy_trans hgw (World.grownBy_alloc wr _ _)) hg5
      have HC : Hid (Cur w5 w.heap.size w.heap.size (2 + 2 * (3 - (j + 1)) + 2)) := hc5
      clear c5 hcw hgw hc5 hg5
      go_wp2
      go_roundw
      case rel => exact ⟨j, s ++ s5, rfl, by go_num, by omega, by rw [ByteArray.size_append]; omega, HC.out.more (by omega), HG.out⟩
      case measure => simp [intOf]
end Go.Proofs.Ytjbmkkoggocemaa
