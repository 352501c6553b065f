/- Parts of an ssa as they lie in memory: that can be read, and that are owned. -/
import Derived.Test.YteihecnmnajahaaGreatDoorSsaMath
import Derived.Test.YteihecnmnajahaaGreatDoorK6
namespace Go.Proofs.YteihecnmnajahaaGreatDoor
section
open Go.RowKit
set_option linter.unusedVariables false
set_option linter.unusedSimpArgs false
set_option maxRecDepth 100000

theorem LRow.drewN {w : World} {a : Option Addr} {xs : List (List Int)} (h : LRow w a xs) (q : Nat) : LRow (w.drewN q) a xs := h.kept fun p hp => rfl
/-- a slice of parts that can be read -/
def PRow (w : World) (a : Option Addr) (xs : List Prt) : Prop := xs = [] ∨ ∃ b off, a = some ⟨b, off, none⟩ ∧ ∀ k x, xs[k]? = some x → ∃ pa pc ca cc na nc ra rc, x.params.length ≤ 9223372036854775807 ∧ x.code.length ≤ 9223372036854775807 ∧ x.next.length ≤ 9223372036854775807 ∧ x.args.length ≤ 9223372036854775807 ∧ w.cell? ⟨b, off + k * 6, none⟩ = some (.slice pa x.params.length pc) ∧ w.cell? ⟨b, off + k * 6 + 1, none⟩ = some (.slice ca x.code.length cc) ∧ w.cell? ⟨b, off + k * 6 + 2, none⟩ = some (.int .i64 x.go) ∧ w.cell? ⟨b, off + k * 6 + 3, none⟩ = some (.int .i64 x.test) ∧ w.cell? ⟨b, off + k * 6 + 4, none⟩ = some (.slice na x.next.length nc) ∧ w.cell? ⟨b, off + k * 6 + 5, none⟩ = some (.slice ra x.args.length rc) ∧ Row w pa x.params ∧ FRow w ca x.code ∧ Row w na x.next ∧ LRow w ra x.args
theorem PRow.kept {w w' : World} {a : Option Addr} {xs : List Prt} (h : PRow w a xs) (hk : ∀ p : Addr, p.block < w.heap.size → w'.cell? p = w.cell? p) : PRow w' a xs := by
  rcases h with h | ⟨b, off, rfl, hc⟩
  · exact .inl h
  · refine .inr ⟨b, off, rfl, fun k x hx => ?_⟩
    obtain ⟨pa, pc, ca, cc, na, nc, ra, rc, l1, l2, l3, l4, h0, h1, h2, h3, h4, h5, r1, r2, r3, r4⟩ := hc k x hx
    exact ⟨pa, pc, ca, cc, na, nc, ra, rc, l1, l2, l3, l4, by rw [hk _ (World.block_lt_of_cell? w _ h0)]; exact h0, by rw [hk _ (World.block_lt_of_cell? w _ h1)]; exact h1, by rw [hk _ (World.block_lt_of_cell? w _ h2)]; exact h2, by rw [hk _ (World.block_lt_of_cell? w _ h3)]; exact h3, by rw [hk _ (World.block_lt_of_cell? w _ h4)]; exact h4, by rw [hk _ (World.block_lt_of_cell? w _ h5)]; exact h5, r1.kept hk, r2.kept hk, r3.kept hk, r4.kept hk⟩
theorem PRow.below {w w' : World} {a : Option Addr} {xs : List Prt} (h : PRow w a xs) (hb : Below w.heap.size w w') : PRow w' a xs := h.kept fun p hp => hb.cell hp
theorem PRow.drewN {w : World} {a : Option Addr} {xs : List Prt} (h : PRow w a xs) (q : Nat) : PRow (w.drewN q) a xs := h.kept fun p hp => rfl
/-- what lies in one part -/
structure PIn (w : World) (p : Prt) (pa ca na ra : Option Addr) : Prop where
  params : Row w pa p.params
  code : FRow w ca p.code
  next : Row w na p.next
  args : LRow w ra p.args
theorem PIn.below {w w' : World} {p : Prt} {pa ca na ra : Option Addr} (h : PIn w p pa ca na ra) (hb : Below w.heap.size w w') : PIn w' p pa ca na ra := ⟨h.params.below hb, h.code.below hb, h.next.below hb, h.args.below hb⟩
theorem PIn.drewN {w : World} {p : Prt} {pa ca na ra : Option Addr} (h : PIn w p pa ca na ra) (q : Nat) : PIn (w.drewN q) p pa ca na ra := ⟨h.params.drewN q, h.code.drewN q, h.next.drewN q, h.args.drewN q⟩
theorem PRow.at {w : World} {a : Option Addr} {xs : List Prt} (h : PRow w a xs) (hx : xs ≠ []) : ∃ b off, a = some ⟨b, off, none⟩ ∧ b < w.heap.size ∧ ∀ w', Below w.heap.size w w' → ∀ k, k < xs.length → ∃ ps cs go test ns rs pa pc ca cc na nc ra rc, w'.cell? ⟨b, off + k * 6, none⟩ = some (.slice pa ps.length pc) ∧ w'.cell? ⟨b, off + k * 6 + 1, none⟩ = some (.slice ca cs.length cc) ∧ w'.cell? ⟨b, off + k * 6 + 2, none⟩ = some (.int .i64 go) ∧ w'.cell? ⟨b, off + k * 6 + 3, none⟩ = some (.int .i64 test) ∧ w'.cell? ⟨b, off + k * 6 + 4, none⟩ = some (.slice na ns.length nc) ∧ w'.cell? ⟨b, off + k * 6 + 5, none⟩ = some (.slice ra rs.length rc) ∧ ps.length ≤ 9223372036854775807 ∧ cs.length ≤ 9223372036854775807 ∧ ns.length ≤ 9223372036854775807 ∧ rs.length ≤ 9223372036854775807 ∧ Hid (PIn w' ⟨ps, cs, go, test, ns, rs⟩ pa ca na ra) ∧ Hid (xs[k]? = some ⟨ps, cs, go, test, ns, rs⟩) := by
  rcases h with h | ⟨b, off, rfl, hc⟩
  · exact absurd h hx
  · obtain ⟨x0, h0⟩ : ∃ x, xs[0]? = some x := by cases xs with | nil => exact absurd rfl hx | cons y r => exact ⟨y, rfl⟩
    obtain ⟨_, _, _, _, _, _, _, _, _, _, _, _, z0, _⟩ := hc 0 _ h0
    refine ⟨b, off, rfl, World.block_lt_of_cell? w _ z0, fun w' hb k hk => ?_⟩
    have hxk : xs[k]? = some xs[k] := List.getElem?_eq_getElem hk
    obtain ⟨pa, pc, ca, cc, na, nc, ra, rc, l1, l2, l3, l4, h0, h1, h2, h3, h4, h5, r1, r2, r3, r4⟩ := hc k _ hxk
    exact ⟨_, _, _, _, _, _, pa, pc, ca, cc, na, nc, ra, rc, by rw [hb.cell (World.block_lt_of_cell? w _ h0)]; exact h0, by rw [hb.cell (World.block_lt_of_cell? w _ h1)]; exact h1, by rw [hb.cell (World.block_lt_of_cell? w _ h2)]; exact h2, by rw [hb.cell (World.block_lt_of_cell? w _ h3)]; exact h3, by rw [hb.cell (World.block_lt_of_cell? w _ h4)]; exact h4, by rw [hb.cell (World.block_lt_of_cell? w _ h5)]; exact h5, l1, l2, l3, l4, ⟨r1.below hb, r2.below hb, r3.below hb, r4.below hb⟩, hxk⟩
/-- a part with the values of its slices -/
structure QV where
  p : Prt
  pv : Value
  cv : Value
  nv : Value
  rv : Value
  ls : List LV
def cellsQ (y : QV) : List Value := [y.pv, y.cv, .int .i64 y.p.go, .int .i64 y.p.test, y.nv, y.rv]
def flatQ (ys : List QV) : List Value := ys.flatMap cellsQ
def prts (ys : List QV) : List Prt := ys.map (·.p)
theorem prts_length (ys : List QV) : (prts ys).length = ys.length := by simp [prts]
theorem flatQ_length (ys : List QV) : (flatQ ys).length = ys.length * 6 := by
  induction ys with
  | nil => rfl
  | cons x r ih => simp [flatQ, cellsQ] at ih ⊢; omega
theorem flatQ_append (xs ys : List QV) : flatQ (xs ++ ys) = flatQ xs ++ flatQ ys := by simp [flatQ]
theorem flatQ_cons (y : QV) (r : List QV) : flatQ (y :: r) = y.pv :: y.cv :: .int .i64 y.p.go :: .int .i64 y.p.test :: y.nv :: y.rv :: flatQ r := by simp [flatQ, cellsQ]
theorem flatQ_at (ys : List QV) (k : Nat) (y : QV) (h : ys[k]? = some y) : (flatQ ys)[k * 6]? = some y.pv ∧ (flatQ ys)[k * 6 + 1]? = some y.cv ∧ (flatQ ys)[k * 6 + 2]? = some (.int .i64 y.p.go) ∧ (flatQ ys)[k * 6 + 3]? = some (.int .i64 y.p.test) ∧ (flatQ ys)[k * 6 + 4]? = some y.nv ∧ (flatQ ys)[k * 6 + 5]? = some y.rv := by
  induction ys generalizing k with
  | nil => simp at h
  | cons z r ih =>
    cases k with
    | zero => simp at h; subst h; rw [flatQ_cons]; simp
    | succ k =>
      simp at h
      have := ih k h
      rw [flatQ_cons, show (k + 1) * 6 = k * 6 + 6 by omega]
      simpa using this
/-- the rows of a part -/
def rowsQ1 (y : QV) : List OR := ⟨3, 1, y.pv, y.p.params.length, ints y.p.params⟩ :: ⟨64, 6, y.cv, y.p.code.length, flatF y.p.code⟩ :: ⟨3, 1, y.nv, y.p.next.length, ints y.p.next⟩ :: rowsL y.rv y.ls
/-- the rows of parts: their own, and those of each -/
def rowsQ (v : Value) (ys : List QV) : List OR := ⟨51, 6, v, ys.length, flatQ ys⟩ :: ys.flatMap rowsQ1
/-- parts that are owned; of each the lists of its args are as they are told -/
def OwnQ (w : World) (B : Nat) (v : Value) (ys : List QV) : Prop := Sep w B (rowsQ v ys) ∧ ∀ y ∈ ys, lists y.ls = y.p.args
theorem OwnQ.below {w w' : World} {B : Nat} {v : Value} {ys : List QV} (h : OwnQ w B v ys) (hb : Below w.heap.size w w') : OwnQ w' B v ys := ⟨Sep.below h.1 hb, h.2⟩
theorem OwnQ.outer {w : World} {B : Nat} {v : Value} {ys : List QV} (h : OwnQ w B v ys) : w.ownsRow B 51 6 v ys.length (flatQ ys) := h.1.1 ⟨51, 6, v, ys.length, flatQ ys⟩ (by simp [rowsQ])
theorem Sep.sub {w : World} {B : Nat} {l m : List OR} (h : Sep w B l) (hs : m.Sublist l) : Sep w B m := ⟨fun x hx => h.1 x (hs.subset hx), h.2.sublist hs⟩
theorem sublist_flatMap {α β : Type} (f : α → List β) {ys : List α} {y : α} (hy : y ∈ ys) : (f y).Sublist (ys.flatMap f) := by
  induction ys with
  | nil => cases hy
  | cons z r ih =>
    rw [List.flatMap_cons]
    rcases List.mem_cons.1 hy with rfl | h
    · exact List.sublist_append_left _ _
    · exact (ih h).trans (List.sublist_append_right _ _)
theorem OwnQ.inner {w : World} {B : Nat} {v : Value} {ys : List QV} (h : OwnQ w B v ys) {y : QV} (hy : y ∈ ys) : Sep w B (rowsQ1 y) := h.1.sub (List.Sublist.cons _ (sublist_flatMap rowsQ1 hy))
theorem rowsQ1_own {w : World} {B : Nat} {y : QV} (h : Sep w B (rowsQ1 y)) : w.ownsRow B 3 1 y.pv y.p.params.length (ints y.p.params) ∧ w.ownsRow B 64 6 y.cv y.p.code.length (flatF y.p.code) ∧ w.ownsRow B 3 1 y.nv y.p.next.length (ints y.p.next) ∧ OwnL w B y.rv y.ls := by
  refine ⟨h.1 ⟨3, 1, y.pv, y.p.params.length, ints y.p.params⟩ (by simp [rowsQ1]), h.1 ⟨64, 6, y.cv, y.p.code.length, flatF y.p.code⟩ (by simp [rowsQ1]), h.1 ⟨3, 1, y.nv, y.p.next.length, ints y.p.next⟩ (by simp [rowsQ1]), ?_⟩
  exact h.sub (List.Sublist.cons _ (List.Sublist.cons _ (List.Sublist.cons _ (List.Sublist.refl _))))
theorem OwnQ.row {w : World} {B : Nat} {v : Value} {ys : List QV} (h : OwnQ w B v ys) : ∃ a cap, v = .slice a (prts ys).length cap ∧ PRow w a (prts ys) := by
  have ho := h.outer
  rcases ho.2 with ⟨rfl, h0⟩ | ⟨g, cap, cur, rfl, hB, hg, hn, hm, hsz, htk⟩
  · obtain rfl : ys = [] := List.eq_nil_of_length_eq_zero h0
    exact ⟨none, 0, rfl, .inl rfl⟩
  · refine ⟨_, cap, by rw [prts_length], .inr ⟨g, 0, rfl, fun k x hx => ?_⟩⟩
    obtain ⟨y, hy, rfl⟩ : ∃ y, ys[k]? = some y ∧ y.p = x := by
      simp [prts] at hx; exact hx
    obtain ⟨f0, f1, f2, f3, f4, f5⟩ := flatQ_at ys k y hy
    obtain ⟨i1, i2, i3, i4⟩ := rowsQ1_own (h.inner (List.mem_of_getElem? hy))
    obtain ⟨pa, pc, e1, r1⟩ := Row.of_owned i1
    obtain ⟨ca, cc, e2, r2⟩ := FRow.of_owned i2
    obtain ⟨na, nc, e3, r3⟩ := Row.of_owned i3
    obtain ⟨ra, rc, e4, r4⟩ := i4.row
    have hls := h.2 y (List.mem_of_getElem? hy)
    have i5 := own_len i4.outer
    rw [← lists_length, hls] at i5
    rw [hls] at e4 r4
    refine ⟨pa, pc, ca, cc, na, nc, ra, rc, own_len i1, own_len i2, own_len i3, i5, ?_, ?_, ?_, ?_, ?_, ?_, r1, r2, r3, r4⟩
    · rw [Nat.zero_add, rowT_at ho rfl f0, e1]
    · rw [Nat.zero_add, rowT_at ho rfl f1, e2]
    · rw [Nat.zero_add, rowT_at ho rfl f2]
    · rw [Nat.zero_add, rowT_at ho rfl f3]
    · rw [Nat.zero_add, rowT_at ho rfl f4, e3]
    · rw [Nat.zero_add, rowT_at ho rfl f5, e4]
end

section
open Go.RowKit
set_option linter.unusedVariables false
set_option linter.unusedSimpArgs false
set_option maxRecDepth 100000

set_option maxHeartbeats 2000000 in
theorem szListsR_any (a : Option Addr) (c : Nat) (xs : List (List Int)) (r0 : Int) (w : World) (hl : xs.length ≤ 9223372036854775807) (h0 : 0 ≤ r0) (h1 : r0 ≤ 1048576) (h : LRow w a xs) :
    Calls Tryz.prog 95 #[.slice a xs.length c, .int .i64 r0] w fun e w' => (∃ z : Int, e = .returned (.int .i64 z) ∧ (z = -1 ∨ (0 ≤ z ∧ z + xs.length + sumL xs = r0))) ∧ w' = w := by
  by_cases h20 : r0 < xs.length
  · clear h
    go_enter Tryz.func95, Tryz.ntmps95
    go_wp2
    go_ret
    exact ⟨⟨_, rfl, .inl rfl⟩, rfl⟩
  · obtain ⟨r1, hr1⟩ : ∃ r1 : Int, r0 - (xs.length : Int) = r1 := ⟨_, rfl⟩
    have hr10 : 0 ≤ r1 := by omega
    have HR1 := hid hr1
    by_cases hx : xs = []
    · subst hx
      clear h
      go_enter Tryz.func95, Tryz.ntmps95
      go_wp2
      go_loop [1, 5] (fun t1 t => t1 = .int .i64 r0 ∧ t = .int .i64 0) (fun _ t => 0)
      case atStart => exact ⟨by simp, rfl⟩
      case round =>
        obtain ⟨rfl, rfl⟩ := hrel
        go_wp2
        go_ret
        exact ⟨⟨_, rfl, .inr ⟨h0, by simp [sumL]⟩⟩, rfl⟩
    · obtain ⟨b, off, rfl, hbw, hat⟩ := h.at hx
      have HA := hid hat
      clear hat hx h
      go_enter Tryz.func95, Tryz.ntmps95
      go_wp2
      clear hr1
      go_loop [1, 5] (fun t1 t => ∃ (r : Int) (k : Nat), t1 = .int .i64 r ∧ t = .int .i64 k ∧ 0 ≤ r ∧ r + sumL (xs.take k) = r1 ∧ k ≤ xs.length) (fun _ t => xs.length - (intOf t).toNat)
      case atStart => exact ⟨_, 0, rfl, rfl, by omega, by simp [sumL], by omega⟩
      case round =>
        obtain ⟨r, k, rfl, rfl, hr0, hrr, hk⟩ := hrel
        have HRR := hid hrr
        clear hrr
        have hr20 : r ≤ 1048576 := by have := HRR.out; have := HR1.out; omega
        by_cases hlt : k < xs.length
        · obtain ⟨t, ta, tc, c0, l1, HR, HX⟩ := HA.out w (Below.refl _ _) k hlt
          have HZ : Hid (∀ w, Calls Tryz.prog 93 #[.slice ta t.length tc, .int .i64 r] w fun e w' => (∃ z : Int, e = .returned (.int .i64 z) ∧ (z = -1 ∨ (0 ≤ z ∧ z + t.length = r))) ∧ w' = w) := fun w => by
            refine (szIntS_any ta tc t.length r w l1 hr0 hr20).mono ?_
            rintro e w' ⟨rfl, rfl⟩
            refine ⟨⟨_, rfl, ?_⟩, rfl⟩
            split
            · exact .inl rfl
            · right; omega
          have HN : Hid (∀ z : Int, z + t.length = r → z + sumL (xs.take (k + 1)) = r1) := by intro z hz; have := sumL_at HX.out; have := HRR.out; omega
          go_wp2_with fail
          refine (HZ.out _).mono ?_
          rintro e w1 ⟨⟨z, rfl, hz⟩, hw1⟩
          subst w1
          by_cases hz0 : z = -1
          · subst hz0
            clear hz
            go_wp2
            go_ret
            exact ⟨⟨_, rfl, .inl rfl⟩, rfl⟩
          · obtain ⟨hz1, hz2⟩ := hz.resolve_left hz0
            have HZ2 := hid hz2
            clear hz hz0 hz2
            go_wp2
            go_round
            case rel => exact ⟨z, k + 1, rfl, by go_num, hz1, HN.out z HZ2.out, by omega⟩
            case measure => simp [intOf]; omega
        · obtain rfl : k = xs.length := by omega
          go_wp2
          go_ret
          refine ⟨⟨_, rfl, .inr ⟨hr0, ?_⟩⟩, rfl⟩
          have := HRR.out; rw [List.take_of_length_le (Nat.le_refl _)] at this; have := HR1.out; omega
/-- how many numbers and steps a part has -/
def sizeP (p : Prt) : Nat := p.params.length + p.code.length + p.next.length + p.args.length + sumL p.args
def sumP (xs : List Prt) : Nat := (xs.map sizeP).sum
theorem sumP_at {xs : List Prt} {k : Nat} {x : Prt} (h : xs[k]? = some x) : sumP (xs.take (k + 1)) = sumP (xs.take k) + sizeP x := by
  rw [List.take_add_one, h]; simp [sumP]
theorem sumP_take (xs : List Prt) (k : Nat) : sumP (xs.take k) ≤ sumP xs := by
  have e : sumP xs = sumP (xs.take k) + sumP (xs.drop k) := by
    conv => lhs; rw [← List.take_append_drop k xs]
    unfold sumP; rw [List.map_append, List.sum_append]
  omega
theorem size_le_sumP {xs : List Prt} {k : Nat} {x : Prt} (h : xs[k]? = some x) : sizeP x ≤ sumP xs := by
  have h1 := sumP_at h
  have h2 := sumP_take xs (k + 1)
  omega
theorem sz1 (a : Option Addr) (c n : Nat) (r : Int) (w : World) (hn : n ≤ 9223372036854775807) (h0 : 0 ≤ r) (h1 : r ≤ 1048576) :
    Calls Tryz.prog 93 #[.slice a n c, .int .i64 r] w fun e w' => (∃ z : Int, e = .returned (.int .i64 z) ∧ (z = -1 ∨ (0 ≤ z ∧ z + n = r))) ∧ w' = w := by
  refine (szIntS_any a c n r w hn h0 h1).mono ?_
  rintro e w' ⟨rfl, rfl⟩
  refine ⟨⟨_, rfl, ?_⟩, rfl⟩
  split
  · exact .inl rfl
  · right; omega
theorem sz2 (a : Option Addr) (c n : Nat) (r : Int) (w : World) (hn : n ≤ 9223372036854775807) (h0 : 0 ≤ r) (h1 : r ≤ 1048576) :
    Calls Tryz.prog 94 #[.slice a n c, .int .i64 r] w fun e w' => (∃ z : Int, e = .returned (.int .i64 z) ∧ (z = -1 ∨ (0 ≤ z ∧ z + n = r))) ∧ w' = w := by
  refine (szFlatS_any a c n r w hn h0 h1).mono ?_
  rintro e w' ⟨rfl, rfl⟩
  refine ⟨⟨_, rfl, ?_⟩, rfl⟩
  split
  · exact .inl rfl
  · right; omega
set_option maxHeartbeats 2000000 in
theorem szPart_any (go test : Int) (ps : List Int) (cs : List Flt) (ns : List Int) (rs : List (List Int)) (pa ca na ra : Option Addr) (pc cc nc rc : Nat) (r0 : Int) (w : World) (l1 : ps.length ≤ 9223372036854775807) (l2 : cs.length ≤ 9223372036854775807) (l3 : ns.length ≤ 9223372036854775807) (l4 : rs.length ≤ 9223372036854775807) (h0 : 0 ≤ r0) (h1 : r0 ≤ 1048576) (h : LRow w ra rs) :
    Calls Tryz.prog 60 #[.agg #[.slice pa ps.length pc, .slice ca cs.length cc, .int .i64 go, .int .i64 test, .slice na ns.length nc, .slice ra rs.length rc], .int .i64 r0] w fun e w' => (∃ z : Int, e = .returned (.int .i64 z) ∧ (z = -1 ∨ (0 ≤ z ∧ z + sizeP ⟨ps, cs, go, test, ns, rs⟩ = r0))) ∧ Below w.heap.size w w' := by
  have H := hid (fun W (hb : Below w.heap.size w W) (r : Int) (k0 : 0 ≤ r) (k1 : r ≤ 1048576) => szListsR_any ra rc rs r W l4 k0 k1 (h.below hb))
  have HB := hid (below1 w (.cells #[.slice pa ps.length pc, .slice ca cs.length cc, .int .i64 go, .int .i64 test, .slice na ns.length nc, .slice ra rs.length rc] 90))
  clear h
  go_enter Tryz.func60, Tryz.ntmps60
  go_wp2_with fail
  refine (sz1 pa pc ps.length r0 _ l1 h0 h1).mono ?_
  rintro e w1 ⟨⟨r1, rfl, hz⟩, hw1⟩
  subst w1
  by_cases hz0 : r1 = -1
  · subst hz0
    clear hz
    go_wp2
    go_ret
    exact ⟨⟨_, rfl, .inl rfl⟩, HB.out⟩
  obtain ⟨h1a, h1e⟩ := hz.resolve_left hz0
  have h1b : r1 ≤ 1048576 := by omega
  have E1 : Hid (r1 + ps.length = r0) := h1e
  clear hz hz0 h1e
  go_wp2_with fail
  refine (sz2 ca cc cs.length r1 _ l2 h1a h1b).mono ?_
  rintro e w1 ⟨⟨r2, rfl, hz⟩, hw1⟩
  subst w1
  by_cases hz0 : r2 = -1
  · subst hz0
    clear hz
    go_wp2
    go_ret
    exact ⟨⟨_, rfl, .inl rfl⟩, HB.out⟩
  obtain ⟨h2a, h2e⟩ := hz.resolve_left hz0
  have h2b : r2 ≤ 1048576 := by omega
  have E2 : Hid (r2 + cs.length = r1) := h2e
  clear hz hz0 h2e
  go_wp2_with fail
  refine (sz1 na nc ns.length r2 _ l3 h2a h2b).mono ?_
  rintro e w1 ⟨⟨r3, rfl, hz⟩, hw1⟩
  subst w1
  by_cases hz0 : r3 = -1
  · subst hz0
    clear hz
    go_wp2
    go_ret
    exact ⟨⟨_, rfl, .inl rfl⟩, HB.out⟩
  obtain ⟨h3a, h3e⟩ := hz.resolve_left hz0
  have h3b : r3 ≤ 1048576 := by omega
  have E3 : Hid (r3 + ns.length = r2) := h3e
  clear hz hz0 h3e
  go_wp2_with fail
  refine (H.out _ HB.out r3 h3a h3b).mono ?_
  rintro e w1 ⟨⟨r4, rfl, hz⟩, hw1⟩
  subst w1
  by_cases hz0 : r4 = -1
  · subst hz0
    clear hz
    go_wp2
    go_ret
    exact ⟨⟨_, rfl, .inl rfl⟩, HB.out⟩
  obtain ⟨h4a, h4e⟩ := hz.resolve_left hz0
  have h4b : r4 ≤ 1048576 := by omega
  have E4 : Hid (r4 + rs.length + sumL rs = r3) := h4e
  clear hz hz0 h4e
  go_wp2
  go_ret
  refine ⟨⟨_, rfl, .inr ⟨h4a, ?_⟩⟩, HB.out⟩
  have e1 := E1.out; have e2 := E2.out; have e3 := E3.out; have e4 := E4.out
  simp only [sizeP]
  omega
set_option maxHeartbeats 2000000 in
theorem szParts_any (a : Option Addr) (c : Nat) (xs : List Prt) (w : World) (hl : xs.length ≤ 9223372036854775807) (h : PRow w a xs) :
    Calls Tryz.prog 31 #[.slice a xs.length c, .int .i64 1048576] w fun e w' => (∃ r, e = .returned (.int .i64 r) ∧ r ≤ 1048576 ∧ (r < 0 ∨ (xs.length ≤ 1048576 ∧ sumP xs ≤ 1048576))) ∧ Below w.heap.size w w' := by
  by_cases h20 : xs.length ≤ 1048576
  · by_cases hx : xs = []
    · subst hx
      clear h
      go_enter Tryz.func31, Tryz.ntmps31
      go_wp2
      go_loopw [1, 5] (fun t1 t wr => t1 = .int .i64 1048576 ∧ t = .int .i64 0 ∧ wr = w) (fun _ t _ => 0)
      case atStart => exact ⟨rfl, rfl, rfl⟩
      case round =>
        obtain ⟨rfl, rfl, rfl⟩ := hrel
        go_wp2
        go_ret
        exact ⟨⟨_, rfl, by decide, .inr (by simp [sumP])⟩, Below.refl _ _⟩
    · obtain ⟨b, off, rfl, hbw, hat⟩ := h.at hx
      have HA := hid hat
      clear hat hx h
      go_enter Tryz.func31, Tryz.ntmps31
      go_wp2
      go_loopw [1, 5] (fun t1 t wr => ∃ (r : Int) (k : Nat), t1 = .int .i64 r ∧ t = .int .i64 k ∧ 0 ≤ r ∧ r + sumP (xs.take k) ≤ 1048576 ∧ k ≤ xs.length ∧ Below w.heap.size w wr) (fun _ t _ => xs.length - (intOf t).toNat)
      case atStart => exact ⟨_, 0, rfl, rfl, by omega, by simp [sumP]; omega, by omega, Below.refl _ _⟩
      case round =>
        obtain ⟨r, k, rfl, rfl, hr0, hr1, hk, hB⟩ := hrel
        by_cases hlt : k < xs.length
        · obtain ⟨ps, cs, go, test, ns, rs, pa, pc, ca, cc, na, nc, ra, rc, c0, c1, c2, c3, c4, c5, l1, l2, l3, l4, HI, HX⟩ := HA.out wr hB k hlt
          have HZ := hid (szPart_any go test ps cs ns rs pa ca na ra pc cc nc rc r wr l1 l2 l3 l4 hr0 (by omega) HI.out.args)
          have HN : Hid (∀ z : Int, z + sizeP ⟨ps, cs, go, test, ns, rs⟩ = r → z + sumP (xs.take (k + 1)) ≤ 1048576) := by intro z hz; have := sumP_at HX.out; omega
          clear hr1
          go_wp2_with fail
          refine HZ.out.mono ?_
          rintro e w1 ⟨⟨z, rfl, hz⟩, hb1⟩
          by_cases hz0 : z = -1
          · subst hz0
            clear hz
            go_wp2
            go_ret
            exact ⟨⟨_, rfl, by decide, .inl (by decide)⟩, bstep' hB hb1⟩
          · obtain ⟨hz1, hz2⟩ := hz.resolve_left hz0
            have HZ2 := hid hz2
            clear hz hz0 hz2
            go_wp2
            go_roundw
            case rel => exact ⟨z, k + 1, rfl, by go_num, hz1, HN.out z HZ2.out, by omega, bstep' hB hb1⟩
            case measure => simp [intOf]; omega
        · obtain rfl : k = xs.length := by omega
          rw [List.take_of_length_le (Nat.le_refl _)] at hr1
          have HN : Hid (sumP xs ≤ 1048576 ∧ r ≤ 1048576) := by show _ ∧ _; omega
          clear hr1
          go_wp2
          go_ret
          exact ⟨⟨_, rfl, HN.out.2, .inr ⟨h20, HN.out.1⟩⟩, hB⟩
  · clear h
    go_enter Tryz.func31, Tryz.ntmps31
    go_wp2
    go_ret
    exact ⟨⟨_, rfl, by decide, .inl (by decide)⟩, Below.refl _ _⟩
/-- the laws' measure of an ssa -/
theorem szSsa_any (a : Option Addr) (c : Nat) (V : Int) (xs : List Prt) (w : World) (hl : xs.length ≤ 9223372036854775807) (h : PRow w a xs) :
    Calls Tryz.prog 9 #[.agg #[.slice a xs.length c, .int .i64 V], .int .i64 1048576] w fun e w' => (∃ r, e = .returned (.int .i64 r) ∧ r ≤ 1048576 ∧ (r < 0 ∨ (xs.length ≤ 1048576 ∧ sumP xs ≤ 1048576))) ∧ Below w.heap.size w w' := by
  have HB := hid (below1 w (.cells #[.slice a xs.length c, .int .i64 V] 24))
  have H := hid (szParts_any a c xs _ hl (h.below HB.out))
  clear h
  go_enter Tryz.func9, Tryz.ntmps9
  go_wp2_with fail
  refine H.out.mono ?_
  rintro e w1 ⟨⟨r, rfl, hr1, hr⟩, hb1⟩
  have HR := hid hr
  by_cases hr0 : r < 0
  · clear hr
    go_wp2
    go_ret
    exact ⟨⟨_, rfl, by decide, .inl (by decide)⟩, bstep' HB.out hb1⟩
  · clear hr
    go_wp2
    go_ret
    exact ⟨⟨_, rfl, hr1, HR.out⟩, bstep' HB.out hb1⟩
end

section
open Go.RowKit
set_option linter.unusedVariables false
set_option linter.unusedSimpArgs false
set_option maxRecDepth 100000

theorem sep1 {w : World} {B : Nat} {x : OR} (h : x.own w B) : Sep w B [x] := ⟨fun y hy => by simp at hy; subst hy; exact h, by simp⟩
set_option maxHeartbeats 8000000 in
theorem toPart_any (go test : Int) (ps : List Int) (cs : List Flt) (ns : List Int) (rs : List (List Int)) (pa ca na ra : Option Addr) (pc cc nc rc : Nat) (w : World) (l1 : ps.length ≤ 1048576) (l2 : cs.length ≤ 1048576) (l3 : ns.length ≤ 1048576) (l4 : rs.length ≤ 1048576) (l5 : sumL rs ≤ 1048576) (h : PIn w ⟨ps, cs, go, test, ns, rs⟩ pa ca na ra) :
    Calls Tryz.prog 62 #[.agg #[.slice pa ps.length pc, .slice ca cs.length cc, .int .i64 go, .int .i64 test, .slice na ns.length nc, .slice ra rs.length rc]] w fun e w' => ∃ va vc ua uc ya yc xa xc ls, e = .returned (.agg #[.slice va ps.length vc, .slice ua cs.length uc, .int .i64 go, .int .i64 test, .slice ya ns.length yc, .slice xa ls.length xc]) ∧ lists ls = rs ∧ Sep w' w.heap.size (rowsQ1 ⟨⟨ps, cs, go, test, ns, rs⟩, .slice va ps.length vc, .slice ua cs.length uc, .slice ya ns.length yc, .slice xa ls.length xc, ls⟩) ∧ Below w.heap.size w w' := by
  have H := hid (fun W (hb : Below w.heap.size w W) => h.below hb)
  clear h
  go_enter Tryz.func62, Tryz.ntmps62
  go_wp2_with fail
  refine (toIntS_sl pa pc ps _ l1 (H.out _ (below3 w _ _ _)).params).mono ?_
  rintro e w1 ⟨va, vc, rfl, ho1, hb1⟩
  obtain ⟨hcc, hff⟩ := bcell hb1
  have c1A1 : w1.cell? ⟨w.heap.size, 1, none⟩ = some (.slice ca cs.length cc) := by rw [hcc _ _ (by simp <;> omega)]; simp [go_sem]
  have c1A2 : w1.cell? ⟨w.heap.size, 2, none⟩ = some (.int .i64 go) := by rw [hcc _ _ (by simp <;> omega)]; simp [go_sem]
  have c1A3 : w1.cell? ⟨w.heap.size, 3, none⟩ = some (.int .i64 test) := by rw [hcc _ _ (by simp <;> omega)]; simp [go_sem]
  have c1A4 : w1.cell? ⟨w.heap.size, 4, none⟩ = some (.slice na ns.length nc) := by rw [hcc _ _ (by simp <;> omega)]; simp [go_sem]
  have c1A5 : w1.cell? ⟨w.heap.size, 5, none⟩ = some (.slice ra rs.length rc) := by rw [hcc _ _ (by simp <;> omega)]; simp [go_sem]
  have c1R0 : w1.cell? ⟨w.heap.size + 1, 0, none⟩ = some (.slice none 0 0) := by rw [hcc _ _ (by simp <;> omega)]; simp [go_sem]
  have c1R1 : w1.cell? ⟨w.heap.size + 1, 1, none⟩ = some (.slice none 0 0) := by rw [hcc _ _ (by simp <;> omega)]; simp [go_sem]
  have c1R2 : w1.cell? ⟨w.heap.size + 1, 2, none⟩ = some (.int .i64 0) := by rw [hcc _ _ (by simp <;> omega)]; simp [go_sem]
  have c1R3 : w1.cell? ⟨w.heap.size + 1, 3, none⟩ = some (.int .i64 0) := by rw [hcc _ _ (by simp <;> omega)]; simp [go_sem]
  have c1R4 : w1.cell? ⟨w.heap.size + 1, 4, none⟩ = some (.slice none 0 0) := by rw [hcc _ _ (by simp <;> omega)]; simp [go_sem]
  have c1R5 : w1.cell? ⟨w.heap.size + 1, 5, none⟩ = some (.slice none 0 0) := by rw [hcc _ _ (by simp <;> omega)]; simp [go_sem]
  have c1O0 : w1.cell? ⟨w.heap.size + 1 + 1, 0, none⟩ = some (.slice none 0 0) := by rw [hcc _ _ (by simp <;> omega)]; simp [go_sem]
  have c1O1 : w1.cell? ⟨w.heap.size + 1 + 1, 1, none⟩ = some (.slice none 0 0) := by rw [hcc _ _ (by simp <;> omega)]; simp [go_sem]
  have c1O2 : w1.cell? ⟨w.heap.size + 1 + 1, 2, none⟩ = some (.int .i64 0) := by rw [hcc _ _ (by simp <;> omega)]; simp [go_sem]
  have c1O3 : w1.cell? ⟨w.heap.size + 1 + 1, 3, none⟩ = some (.int .i64 0) := by rw [hcc _ _ (by simp <;> omega)]; simp [go_sem]
  have c1O4 : w1.cell? ⟨w.heap.size + 1 + 1, 4, none⟩ = some (.slice none 0 0) := by rw [hcc _ _ (by simp <;> omega)]; simp [go_sem]
  have c1O5 : w1.cell? ⟨w.heap.size + 1 + 1, 5, none⟩ = some (.slice none 0 0) := by rw [hcc _ _ (by simp <;> omega)]; simp [go_sem]
  have f1R0 : w1.frozen? ⟨w.heap.size + 1, 0, none⟩ = false := by rw [hff _ _ (by simp <;> omega)]; simp [go_sem]
  have f1R1 : w1.frozen? ⟨w.heap.size + 1, 1, none⟩ = false := by rw [hff _ _ (by simp <;> omega)]; simp [go_sem]
  have f1R2 : w1.frozen? ⟨w.heap.size + 1, 2, none⟩ = false := by rw [hff _ _ (by simp <;> omega)]; simp [go_sem]
  have f1R3 : w1.frozen? ⟨w.heap.size + 1, 3, none⟩ = false := by rw [hff _ _ (by simp <;> omega)]; simp [go_sem]
  have f1R4 : w1.frozen? ⟨w.heap.size + 1, 4, none⟩ = false := by rw [hff _ _ (by simp <;> omega)]; simp [go_sem]
  have f1R5 : w1.frozen? ⟨w.heap.size + 1, 5, none⟩ = false := by rw [hff _ _ (by simp <;> omega)]; simp [go_sem]
  have f1O0 : w1.frozen? ⟨w.heap.size + 1 + 1, 0, none⟩ = false := by rw [hff _ _ (by simp <;> omega)]; simp [go_sem]
  have f1O1 : w1.frozen? ⟨w.heap.size + 1 + 1, 1, none⟩ = false := by rw [hff _ _ (by simp <;> omega)]; simp [go_sem]
  have f1O2 : w1.frozen? ⟨w.heap.size + 1 + 1, 2, none⟩ = false := by rw [hff _ _ (by simp <;> omega)]; simp [go_sem]
  have f1O3 : w1.frozen? ⟨w.heap.size + 1 + 1, 3, none⟩ = false := by rw [hff _ _ (by simp <;> omega)]; simp [go_sem]
  have f1O4 : w1.frozen? ⟨w.heap.size + 1 + 1, 4, none⟩ = false := by rw [hff _ _ (by simp <;> omega)]; simp [go_sem]
  have f1O5 : w1.frozen? ⟨w.heap.size + 1 + 1, 5, none⟩ = false := by rw [hff _ _ (by simp <;> omega)]; simp [go_sem]
  clear hcc hff
  have HB := hid (bstep' (below3 w _ _ _) hb1)
  have hsz : w.heap.size + 3 ≤ w1.heap.size := by have := hb1.size; simp at this; omega
  have HS1 : Hid (Sep w1 (w.heap.size + 1 + 1 + 1) [⟨3, 1, .slice va ps.length vc, ps.length, ints ps⟩]) := sep1 (by show World.ownsRow _ _ _ _ _ _ _; simpa using ho1)
  clear hb1 ho1
  go_wp2_with fail
  refine (toFlatS_any ca cc cs _ l2 ?hr).mono ?_
  case hr => exact (H.out _ (HB.out.setCell (by simp <;> omega) _)).code
  rintro e w2 ⟨ua, uc, rfl, ho2, hb2⟩
  have hsz2 : w1.heap.size ≤ w2.heap.size := by have := hb2.size; simpa using this
  obtain ⟨hcc, hff⟩ := bcell hb2
  have c2A2 : w2.cell? ⟨w.heap.size, 2, none⟩ = some (.int .i64 go) := by rw [hcc _ _ (by simp <;> omega)]; simp [go_sem, c1A2]
  have c2A3 : w2.cell? ⟨w.heap.size, 3, none⟩ = some (.int .i64 test) := by rw [hcc _ _ (by simp <;> omega)]; simp [go_sem, c1A3]
  have c2A4 : w2.cell? ⟨w.heap.size, 4, none⟩ = some (.slice na ns.length nc) := by rw [hcc _ _ (by simp <;> omega)]; simp [go_sem, c1A4]
  have c2A5 : w2.cell? ⟨w.heap.size, 5, none⟩ = some (.slice ra rs.length rc) := by rw [hcc _ _ (by simp <;> omega)]; simp [go_sem, c1A5]
  have c2R0 : w2.cell? ⟨w.heap.size + 1, 0, none⟩ = some (.slice none 0 0) := by rw [hcc _ _ (by simp <;> omega)]; simp [go_sem, c1R0]
  have c2R1 : w2.cell? ⟨w.heap.size + 1, 1, none⟩ = some (.slice none 0 0) := by rw [hcc _ _ (by simp <;> omega)]; simp [go_sem, c1R1]
  have c2R2 : w2.cell? ⟨w.heap.size + 1, 2, none⟩ = some (.int .i64 0) := by rw [hcc _ _ (by simp <;> omega)]; simp [go_sem, c1R2]
  have c2R3 : w2.cell? ⟨w.heap.size + 1, 3, none⟩ = some (.int .i64 0) := by rw [hcc _ _ (by simp <;> omega)]; simp [go_sem, c1R3]
  have c2R4 : w2.cell? ⟨w.heap.size + 1, 4, none⟩ = some (.slice none 0 0) := by rw [hcc _ _ (by simp <;> omega)]; simp [go_sem, c1R4]
  have c2R5 : w2.cell? ⟨w.heap.size + 1, 5, none⟩ = some (.slice none 0 0) := by rw [hcc _ _ (by simp <;> omega)]; simp [go_sem, c1R5]
  have c2O0 : w2.cell? ⟨w.heap.size + 1 + 1, 0, none⟩ = some (.slice va ps.length vc) := by rw [hcc _ _ (by simp <;> omega)]; simp [go_sem, c1O0]
  have c2O1 : w2.cell? ⟨w.heap.size + 1 + 1, 1, none⟩ = some (.slice none 0 0) := by rw [hcc _ _ (by simp <;> omega)]; simp [go_sem, c1O1]
  have c2O2 : w2.cell? ⟨w.heap.size + 1 + 1, 2, none⟩ = some (.int .i64 0) := by rw [hcc _ _ (by simp <;> omega)]; simp [go_sem, c1O2]
  have c2O3 : w2.cell? ⟨w.heap.size + 1 + 1, 3, none⟩ = some (.int .i64 0) := by rw [hcc _ _ (by simp <;> omega)]; simp [go_sem, c1O3]
  have c2O4 : w2.cell? ⟨w.heap.size + 1 + 1, 4, none⟩ = some (.slice none 0 0) := by rw [hcc _ _ (by simp <;> omega)]; simp [go_sem, c1O4]
  have c2O5 : w2.cell? ⟨w.heap.size + 1 + 1, 5, none⟩ = some (.slice none 0 0) := by rw [hcc _ _ (by simp <;> omega)]; simp [go_sem, c1O5]
  have f2R0 : w2.frozen? ⟨w.heap.size + 1, 0, none⟩ = false := by rw [hff _ _ (by simp <;> omega)]; simp [go_sem, f1R0]
  have f2R1 : w2.frozen? ⟨w.heap.size + 1, 1, none⟩ = false := by rw [hff _ _ (by simp <;> omega)]; simp [go_sem, f1R1]
  have f2R2 : w2.frozen? ⟨w.heap.size + 1, 2, none⟩ = false := by rw [hff _ _ (by simp <;> omega)]; simp [go_sem, f1R2]
  have f2R3 : w2.frozen? ⟨w.heap.size + 1, 3, none⟩ = false := by rw [hff _ _ (by simp <;> omega)]; simp [go_sem, f1R3]
  have f2R4 : w2.frozen? ⟨w.heap.size + 1, 4, none⟩ = false := by rw [hff _ _ (by simp <;> omega)]; simp [go_sem, f1R4]
  have f2R5 : w2.frozen? ⟨w.heap.size + 1, 5, none⟩ = false := by rw [hff _ _ (by simp <;> omega)]; simp [go_sem, f1R5]
  have f2O1 : w2.frozen? ⟨w.heap.size + 1 + 1, 1, none⟩ = false := by rw [hff _ _ (by simp <;> omega)]; simp [go_sem, f1O1]
  have f2O2 : w2.frozen? ⟨w.heap.size + 1 + 1, 2, none⟩ = false := by rw [hff _ _ (by simp <;> omega)]; simp [go_sem, f1O2]
  have f2O3 : w2.frozen? ⟨w.heap.size + 1 + 1, 3, none⟩ = false := by rw [hff _ _ (by simp <;> omega)]; simp [go_sem, f1O3]
  have f2O4 : w2.frozen? ⟨w.heap.size + 1 + 1, 4, none⟩ = false := by rw [hff _ _ (by simp <;> omega)]; simp [go_sem, f1O4]
  have f2O5 : w2.frozen? ⟨w.heap.size + 1 + 1, 5, none⟩ = false := by rw [hff _ _ (by simp <;> omega)]; simp [go_sem, f1O5]
  clear hcc hff
  have HB2 := hid (bstep' (HB.out.setCell (p := ⟨w.heap.size + 1 + 1, 0, none⟩) (by simp <;> omega) (.slice va ps.length vc)) hb2)
  have HS2 : Hid (Sep w2 (w.heap.size + 1 + 1 + 1) ([⟨3, 1, .slice va ps.length vc, ps.length, ints ps⟩] ++ [⟨64, 6, .slice ua cs.length uc, cs.length, flatF cs⟩])) := (HS1.out.aside (b := w.heap.size + 1 + 1) (j := 0) (by omega) (.slice va ps.length vc)).append hb2 (by simp; omega) (sep1 ho2)
  clear hb2 ho2 HS1 HB
  clear c1A1 c1A2 c1A3 c1A4 c1A5 c1R0 c1R1 c1R2 c1R3 c1R4 c1R5 c1O0 c1O1 c1O2 c1O3 c1O4 c1O5 f1R0 f1R1 f1R2 f1R3 f1R4 f1R5 f1O0 f1O1 f1O2 f1O3 f1O4 f1O5
  go_wp2_with fail
  refine (toIntS_sl na nc ns _ l3 ?hr).mono ?_
  case hr => exact (H.out _ (((HB2.out.setCell (by simp <;> omega) _).setCell (by simp <;> omega) _).setCell (by simp <;> omega) _)).next
  rintro e w3 ⟨ya, yc, rfl, ho3, hb3⟩
  have hsz3 : w2.heap.size ≤ w3.heap.size := by have := hb3.size; simpa using this
  obtain ⟨hcc, hff⟩ := bcell hb3
  have c3A5 : w3.cell? ⟨w.heap.size, 5, none⟩ = some (.slice ra rs.length rc) := by rw [hcc _ _ (by simp <;> omega)]; simp [go_sem, c2A5]
  have c3R0 : w3.cell? ⟨w.heap.size + 1, 0, none⟩ = some (.slice none 0 0) := by rw [hcc _ _ (by simp <;> omega)]; simp [go_sem, c2R0]
  have c3R1 : w3.cell? ⟨w.heap.size + 1, 1, none⟩ = some (.slice none 0 0) := by rw [hcc _ _ (by simp <;> omega)]; simp [go_sem, c2R1]
  have c3R2 : w3.cell? ⟨w.heap.size + 1, 2, none⟩ = some (.int .i64 0) := by rw [hcc _ _ (by simp <;> omega)]; simp [go_sem, c2R2]
  have c3R3 : w3.cell? ⟨w.heap.size + 1, 3, none⟩ = some (.int .i64 0) := by rw [hcc _ _ (by simp <;> omega)]; simp [go_sem, c2R3]
  have c3R4 : w3.cell? ⟨w.heap.size + 1, 4, none⟩ = some (.slice none 0 0) := by rw [hcc _ _ (by simp <;> omega)]; simp [go_sem, c2R4]
  have c3R5 : w3.cell? ⟨w.heap.size + 1, 5, none⟩ = some (.slice none 0 0) := by rw [hcc _ _ (by simp <;> omega)]; simp [go_sem, c2R5]
  have c3O0 : w3.cell? ⟨w.heap.size + 1 + 1, 0, none⟩ = some (.slice va ps.length vc) := by rw [hcc _ _ (by simp <;> omega)]; simp [go_sem, c2O0]
  have c3O1 : w3.cell? ⟨w.heap.size + 1 + 1, 1, none⟩ = some (.slice ua cs.length uc) := by rw [hcc _ _ (by simp <;> omega)]; simp [go_sem, c2O1]
  have c3O2 : w3.cell? ⟨w.heap.size + 1 + 1, 2, none⟩ = some (.int .i64 go) := by rw [hcc _ _ (by simp <;> omega)]; simp [go_sem, c2O2]
  have c3O3 : w3.cell? ⟨w.heap.size + 1 + 1, 3, none⟩ = some (.int .i64 test) := by rw [hcc _ _ (by simp <;> omega)]; simp [go_sem, c2O3]
  have c3O4 : w3.cell? ⟨w.heap.size + 1 + 1, 4, none⟩ = some (.slice none 0 0) := by rw [hcc _ _ (by simp <;> omega)]; simp [go_sem, c2O4]
  have c3O5 : w3.cell? ⟨w.heap.size + 1 + 1, 5, none⟩ = some (.slice none 0 0) := by rw [hcc _ _ (by simp <;> omega)]; simp [go_sem, c2O5]
  have f3R0 : w3.frozen? ⟨w.heap.size + 1, 0, none⟩ = false := by rw [hff _ _ (by simp <;> omega)]; simp [go_sem, f2R0]
  have f3R1 : w3.frozen? ⟨w.heap.size + 1, 1, none⟩ = false := by rw [hff _ _ (by simp <;> omega)]; simp [go_sem, f2R1]
  have f3R2 : w3.frozen? ⟨w.heap.size + 1, 2, none⟩ = false := by rw [hff _ _ (by simp <;> omega)]; simp [go_sem, f2R2]
  have f3R3 : w3.frozen? ⟨w.heap.size + 1, 3, none⟩ = false := by rw [hff _ _ (by simp <;> omega)]; simp [go_sem, f2R3]
  have f3R4 : w3.frozen? ⟨w.heap.size + 1, 4, none⟩ = false := by rw [hff _ _ (by simp <;> omega)]; simp [go_sem, f2R4]
  have f3R5 : w3.frozen? ⟨w.heap.size + 1, 5, none⟩ = false := by rw [hff _ _ (by simp <;> omega)]; simp [go_sem, f2R5]
  have f3O4 : w3.frozen? ⟨w.heap.size + 1 + 1, 4, none⟩ = false := by rw [hff _ _ (by simp <;> omega)]; simp [go_sem, f2O4]
  have f3O5 : w3.frozen? ⟨w.heap.size + 1 + 1, 5, none⟩ = false := by rw [hff _ _ (by simp <;> omega)]; simp [go_sem, f2O5]
  clear hcc hff
  have HB3 := hid (bstep' (((HB2.out.setCell (p := ⟨w.heap.size + 1 + 1, 1, none⟩) (by simp <;> omega) (.slice ua cs.length uc)).setCell (p := ⟨w.heap.size + 1 + 1, 2, none⟩) (by simp <;> omega) (.int .i64 go)).setCell (p := ⟨w.heap.size + 1 + 1, 3, none⟩) (by simp <;> omega) (.int .i64 test)) hb3)
  have HS3 : Hid (Sep w3 (w.heap.size + 1 + 1 + 1) (([⟨3, 1, .slice va ps.length vc, ps.length, ints ps⟩] ++ [⟨64, 6, .slice ua cs.length uc, cs.length, flatF cs⟩]) ++ [⟨3, 1, .slice ya ns.length yc, ns.length, ints ns⟩])) := (((HS2.out.aside (b := w.heap.size + 1 + 1) (j := 1) (by omega) (.slice ua cs.length uc)).aside (b := w.heap.size + 1 + 1) (j := 2) (by omega) (.int .i64 go)).aside (b := w.heap.size + 1 + 1) (j := 3) (by omega) (.int .i64 test)).append hb3 (by simp; omega) (sep1 ho3)
  clear hb3 ho3 HS2 HB2
  clear c2A2 c2A3 c2A4 c2A5 c2R0 c2R1 c2R2 c2R3 c2R4 c2R5 c2O0 c2O1 c2O2 c2O3 c2O4 c2O5 f2R0 f2R1 f2R2 f2R3 f2R4 f2R5 f2O1 f2O2 f2O3 f2O4 f2O5
  go_wp2_with fail
  refine (toLists_any ra rc rs _ l4 l5 ?hr).mono ?_
  case hr => exact (H.out _ (HB3.out.setCell (by simp <;> omega) _)).args
  rintro e w4 ⟨rv, ls, rfl, ho4, hls, hb4⟩
  obtain ⟨xa, xc, rfl⟩ := slice_of_owned ho4.outer
  have hsz4 : w3.heap.size ≤ w4.heap.size := by have := hb4.size; simpa using this
  obtain ⟨hcc, hff⟩ := bcell hb4
  have c4R0 : w4.cell? ⟨w.heap.size + 1, 0, none⟩ = some (.slice none 0 0) := by rw [hcc _ _ (by simp <;> omega)]; simp [go_sem, c3R0]
  have c4R1 : w4.cell? ⟨w.heap.size + 1, 1, none⟩ = some (.slice none 0 0) := by rw [hcc _ _ (by simp <;> omega)]; simp [go_sem, c3R1]
  have c4R2 : w4.cell? ⟨w.heap.size + 1, 2, none⟩ = some (.int .i64 0) := by rw [hcc _ _ (by simp <;> omega)]; simp [go_sem, c3R2]
  have c4R3 : w4.cell? ⟨w.heap.size + 1, 3, none⟩ = some (.int .i64 0) := by rw [hcc _ _ (by simp <;> omega)]; simp [go_sem, c3R3]
  have c4R4 : w4.cell? ⟨w.heap.size + 1, 4, none⟩ = some (.slice none 0 0) := by rw [hcc _ _ (by simp <;> omega)]; simp [go_sem, c3R4]
  have c4R5 : w4.cell? ⟨w.heap.size + 1, 5, none⟩ = some (.slice none 0 0) := by rw [hcc _ _ (by simp <;> omega)]; simp [go_sem, c3R5]
  have c4O0 : w4.cell? ⟨w.heap.size + 1 + 1, 0, none⟩ = some (.slice va ps.length vc) := by rw [hcc _ _ (by simp <;> omega)]; simp [go_sem, c3O0]
  have c4O1 : w4.cell? ⟨w.heap.size + 1 + 1, 1, none⟩ = some (.slice ua cs.length uc) := by rw [hcc _ _ (by simp <;> omega)]; simp [go_sem, c3O1]
  have c4O2 : w4.cell? ⟨w.heap.size + 1 + 1, 2, none⟩ = some (.int .i64 go) := by rw [hcc _ _ (by simp <;> omega)]; simp [go_sem, c3O2]
  have c4O3 : w4.cell? ⟨w.heap.size + 1 + 1, 3, none⟩ = some (.int .i64 test) := by rw [hcc _ _ (by simp <;> omega)]; simp [go_sem, c3O3]
  have c4O4 : w4.cell? ⟨w.heap.size + 1 + 1, 4, none⟩ = some (.slice ya ns.length yc) := by rw [hcc _ _ (by simp <;> omega)]; simp [go_sem, c3O4]
  have c4O5 : w4.cell? ⟨w.heap.size + 1 + 1, 5, none⟩ = some (.slice none 0 0) := by rw [hcc _ _ (by simp <;> omega)]; simp [go_sem, c3O5]
  have f4R0 : w4.frozen? ⟨w.heap.size + 1, 0, none⟩ = false := by rw [hff _ _ (by simp <;> omega)]; simp [go_sem, f3R0]
  have f4R1 : w4.frozen? ⟨w.heap.size + 1, 1, none⟩ = false := by rw [hff _ _ (by simp <;> omega)]; simp [go_sem, f3R1]
  have f4R2 : w4.frozen? ⟨w.heap.size + 1, 2, none⟩ = false := by rw [hff _ _ (by simp <;> omega)]; simp [go_sem, f3R2]
  have f4R3 : w4.frozen? ⟨w.heap.size + 1, 3, none⟩ = false := by rw [hff _ _ (by simp <;> omega)]; simp [go_sem, f3R3]
  have f4R4 : w4.frozen? ⟨w.heap.size + 1, 4, none⟩ = false := by rw [hff _ _ (by simp <;> omega)]; simp [go_sem, f3R4]
  have f4R5 : w4.frozen? ⟨w.heap.size + 1, 5, none⟩ = false := by rw [hff _ _ (by simp <;> omega)]; simp [go_sem, f3R5]
  have f4O5 : w4.frozen? ⟨w.heap.size + 1 + 1, 5, none⟩ = false := by rw [hff _ _ (by simp <;> omega)]; simp [go_sem, f3O5]
  clear hcc hff
  have HB4 := hid (bstep' (HB3.out.setCell (p := ⟨w.heap.size + 1 + 1, 4, none⟩) (by simp <;> omega) (.slice ya ns.length yc)) hb4)
  have HS4 : Hid (Sep w4 (w.heap.size + 1 + 1 + 1) (([⟨3, 1, .slice va ps.length vc, ps.length, ints ps⟩] ++ [⟨64, 6, .slice ua cs.length uc, cs.length, flatF cs⟩] ++ [⟨3, 1, .slice ya ns.length yc, ns.length, ints ns⟩]) ++ rowsL (.slice xa ls.length xc) ls)) := (HS3.out.aside (b := w.heap.size + 1 + 1) (j := 4) (by omega) (.slice ya ns.length yc)).append hb4 (by simp; omega) ho4
  have HLS := hid hls
  clear hb4 ho4 hls HS3 HB3
  clear c3A5 c3R0 c3R1 c3R2 c3R3 c3R4 c3R5 c3O0 c3O1 c3O2 c3O3 c3O4 c3O5 f3R0 f3R1 f3R2 f3R3 f3R4 f3R5 f3O4 f3O5
  go_wp2
  refine bodyPost_ret (v := .agg #[.slice va ps.length vc, .slice ua cs.length uc, .int .i64 go, .int .i64 test, .slice ya ns.length yc, .slice xa ls.length xc]) (by simp [results, Tryz.results62, go_sem, *]) rfl ⟨_, _, _, _, _, _, _, _, ls, rfl, HLS.out, ?_, ?_⟩
  · exact (((((((HS4.out.aside (b := w.heap.size + 1 + 1) (j := 5) (by omega) (.slice xa ls.length xc)).aside (b := w.heap.size + 1) (j := 0) (by omega) (.slice va ps.length vc)).aside (b := w.heap.size + 1) (j := 1) (by omega) (.slice ua cs.length uc)).aside (b := w.heap.size + 1) (j := 2) (by omega) (.int .i64 go)).aside (b := w.heap.size + 1) (j := 3) (by omega) (.int .i64 test)).aside (b := w.heap.size + 1) (j := 4) (by omega) (.slice ya ns.length yc)).aside (b := w.heap.size + 1) (j := 5) (by omega) (.slice xa ls.length xc)).mono (by omega)
  · exact (((((((HB4.out.setCell (p := ⟨w.heap.size + 1 + 1, 5, none⟩) (by simp <;> omega) (.slice xa ls.length xc)).setCell (p := ⟨w.heap.size + 1, 0, none⟩) (by simp <;> omega) (.slice va ps.length vc)).setCell (p := ⟨w.heap.size + 1, 1, none⟩) (by simp <;> omega) (.slice ua cs.length uc)).setCell (p := ⟨w.heap.size + 1, 2, none⟩) (by simp <;> omega) (.int .i64 go)).setCell (p := ⟨w.heap.size + 1, 3, none⟩) (by simp <;> omega) (.int .i64 test)).setCell (p := ⟨w.heap.size + 1, 4, none⟩) (by simp <;> omega) (.slice ya ns.length yc)).setCell (p := ⟨w.heap.size + 1, 5, none⟩) (by simp <;> omega) (.slice xa ls.length xc))
theorem info51 : (Tryz.prog.info? 51).map (fun i => (i.zero, i.size, i.bytes)) = some (some (.agg #[.slice none 0 0, .slice none 0 0, .int .i64 0, .int .i64 0, .slice none 0 0, .slice none 0 0]), 6, 112) := by kernel_rfl
set_option maxHeartbeats 4000000 in
/-- the laws' copy of a slice of parts -/
theorem toParts_any (a : Option Addr) (c : Nat) (xs : List Prt) (w : World) (hl : xs.length ≤ 1048576) (ht : sumP xs ≤ 1048576) (h : PRow w a xs) :
    Calls Tryz.prog 33 #[.slice a xs.length c] w fun e w' => ∃ v ys, e = .returned v ∧ OwnQ w' w.heap.size v ys ∧ prts ys = xs ∧ Below w.heap.size w w' := by
  obtain ⟨i0, hi, hz0, hz1, hz2⟩ := info_parts info51
  by_cases hx : xs = []
  · subst hx
    clear h
    go_enter Tryz.func33, Tryz.ntmps33
    go_wp2_with (at_make; refine wpList_make_full _ rfl _ _ 28 rfl w.heap.size 51 i0 (.agg #[.slice none 0 0, .slice none 0 0, .int .i64 0, .int .i64 0, .slice none 0 0, .slice none 0 0]) 6 Tryz.underlying28 hi hz0 hz1 .i64 .i64 _ _ 0 rfl rfl rfl rfl ?c1 ?c2 ?c3 ?_)
    case c1 => omega
    case c2 => unfold maxLen; omega
    case c3 => omega
    intro w1 hown0 hgrow0
    have hB0 : Below w.heap.size w w1 := (Below.refl _ w).grown hgrow0 (Nat.le_refl _) (fun k hk => by cases hk)
    go_wp2
    go_loopw [4] (fun t wr => t = .int .i64 0 ∧ wr = w1) (fun t _ => 0)
    case atStart => exact ⟨rfl, rfl⟩
    case round =>
      obtain ⟨rfl, rfl⟩ := hrel
      go_wp2
      go_ret
      refine ⟨_, [], rfl, ⟨⟨fun x hx => ?_, by simp [rowsQ]⟩, by simp⟩, rfl, hB0⟩
      simp only [rowsQ, List.flatMap_nil, List.mem_cons, List.not_mem_nil, or_false] at hx
      subst hx
      show World.ownsRow _ _ _ _ _ _ _
      simpa [flatQ, madeCells] using hown0
  · obtain ⟨b, off, rfl, hbw, hat⟩ := h.at hx
    have HA := hid hat
    have HS := hid ht
    clear hat hx h ht
    go_enter Tryz.func33, Tryz.ntmps33
    go_wp2_with (at_make; refine wpList_make_full _ rfl _ _ 28 rfl w.heap.size 51 i0 (.agg #[.slice none 0 0, .slice none 0 0, .int .i64 0, .int .i64 0, .slice none 0 0, .slice none 0 0]) 6 Tryz.underlying28 hi hz0 hz1 .i64 .i64 _ _ xs.length rfl rfl rfl rfl ?c1 ?c2 ?c3 ?_)
    case c1 => rw [hz2]; omega
    case c2 => unfold maxLen; omega
    case c3 => omega
    intro w1 hown0 hgrow0
    have hB0 : Below w.heap.size w w1 := (Below.refl _ w).grown hgrow0 (Nat.le_refl _) (fun k hk => by cases hk)
    go_wp2
    go_loopw [4] (fun t wr => ∃ (j : Nat) (cells : List Value) (ys : List QV), t = .int .i64 j ∧ j ≤ xs.length ∧ Sep wr w.heap.size ([] ++ ⟨51, 6, .slice (some ⟨w.heap.size, 0, none⟩) xs.length xs.length, xs.length, cells⟩ :: ys.flatMap rowsQ1) ∧ cells.take (j * 6) = flatQ ys ∧ prts ys = xs.take j ∧ (∀ y ∈ ys, lists y.ls = y.p.args) ∧ Below w.heap.size w wr) (fun t _ => xs.length - (intOf t).toNat)
    case atStart => exact ⟨0, _, [], rfl, by omega, ⟨by intro x hx; simp at hx; subst hx; exact hown0, by simp⟩, by simp [flatQ], by simp [prts], by simp, hB0⟩
    case round =>
      obtain ⟨j, cells, ys, rfl, hj, hsep, htk, hys, hla, hB⟩ := hrel
      have HT := hid (And.intro htk (And.intro hys hla))
      have hown : wr.ownsRow w.heap.size 51 6 (.slice (some ⟨w.heap.size, 0, none⟩) xs.length xs.length) xs.length cells := hsep.1 ⟨51, 6, .slice (some ⟨w.heap.size, 0, none⟩) xs.length xs.length, xs.length, cells⟩ (by simp)
      have HSEP := hid hsep
      clear hown0 hgrow0 hB0 htk hys hsep hla
      by_cases hlt : j < xs.length
      · obtain ⟨ps, cs, go, test, ns, rs, pa, pc, ca, cc, na, nc, ra, rc, c0, c1, c2, c3, c4, c5, l1, l2, l3, l4, HI, HX⟩ := HA.out wr hB j hlt
        obtain ⟨m1, m2, m3, m4, m5⟩ : ps.length ≤ 1048576 ∧ cs.length ≤ 1048576 ∧ ns.length ≤ 1048576 ∧ rs.length ≤ 1048576 ∧ sumL rs ≤ 1048576 := by have := size_le_sumP HX.out; have := HS.out; simp only [sizeP] at *; omega
        go_wp2_with fail
        refine (toPart_any go test ps cs ns rs pa ca na ra pc cc nc rc _ m1 m2 m3 m4 m5 HI.out).mono ?_
        rintro e w2 ⟨va, vc, ua, uc, ya, yc, xa, xc, ls, rfl, hls, hov, hb2⟩
        have hown2 := owns_below hown hb2
        have hB2 := bstep' hB hb2
        have hlen : cells.length = xs.length * 6 := hown.1
        have HS2 := hid (HSEP.out.append hb2 hB.size hov)
        have HLS := hid hls
        obtain ⟨u0, hu0⟩ : ∃ u, w2.cell? ⟨w.heap.size, j * 6, none⟩ = some u := by rw [hown2.cellAt (j * 6) (by omega)]; exact ⟨_, List.getElem?_eq_getElem (by omega)⟩
        obtain ⟨u1, hu1⟩ : ∃ u, w2.cell? ⟨w.heap.size, j * 6 + 1, none⟩ = some u := by rw [hown2.cellAt (j * 6 + 1) (by omega)]; exact ⟨_, List.getElem?_eq_getElem (by omega)⟩
        obtain ⟨u2, hu2⟩ : ∃ u, w2.cell? ⟨w.heap.size, j * 6 + 2, none⟩ = some u := by rw [hown2.cellAt (j * 6 + 2) (by omega)]; exact ⟨_, List.getElem?_eq_getElem (by omega)⟩
        obtain ⟨u3, hu3⟩ : ∃ u, w2.cell? ⟨w.heap.size, j * 6 + 3, none⟩ = some u := by rw [hown2.cellAt (j * 6 + 3) (by omega)]; exact ⟨_, List.getElem?_eq_getElem (by omega)⟩
        obtain ⟨u4, hu4⟩ : ∃ u, w2.cell? ⟨w.heap.size, j * 6 + 4, none⟩ = some u := by rw [hown2.cellAt (j * 6 + 4) (by omega)]; exact ⟨_, List.getElem?_eq_getElem (by omega)⟩
        obtain ⟨u5, hu5⟩ : ∃ u, w2.cell? ⟨w.heap.size, j * 6 + 5, none⟩ = some u := by rw [hown2.cellAt (j * 6 + 5) (by omega)]; exact ⟨_, List.getElem?_eq_getElem (by omega)⟩
        have f0 := hown2.frozenAt (j * 6)
        have f1 := hown2.frozenAt (j * 6 + 1)
        have f2 := hown2.frozenAt (j * 6 + 2)
        have f3 := hown2.frozenAt (j * 6 + 3)
        have f4 := hown2.frozenAt (j * 6 + 4)
        have f5 := hown2.frozenAt (j * 6 + 5)
        have HL := hid hlen
        clear hlen hown hown2 hov hls
        go_wp2
        go_roundw
        case rel =>
          have s0 := HS2.out.store [] (j * 6) (.slice va ps.length vc)
          have s1 := Sep.store [] s0 (j * 6 + 1) (.slice ua cs.length uc)
          have s2 := Sep.store [] s1 (j * 6 + 2) (.int .i64 go)
          have s3 := Sep.store [] s2 (j * 6 + 3) (.int .i64 test)
          have s4 := Sep.store [] s3 (j * 6 + 4) (.slice ya ns.length yc)
          have s5 := Sep.store [] s4 (j * 6 + 5) (.slice xa ls.length xc)
          refine ⟨j + 1, putAll cells (j * 6) [.slice va ps.length vc, .slice ua cs.length uc, .int .i64 go, .int .i64 test, .slice ya ns.length yc, .slice xa ls.length xc], ys ++ [⟨⟨ps, cs, go, test, ns, rs⟩, .slice va ps.length vc, .slice ua cs.length uc, .slice ya ns.length yc, .slice xa ls.length xc, ls⟩], by go_num, by omega, ?_, ?_, ?_, ?_, ((((((hB2.setCell (p := ⟨w.heap.size, j * 6, none⟩) (Nat.le_refl _) _).setCell (p := ⟨w.heap.size, j * 6 + 1, none⟩) (Nat.le_refl _) _).setCell (p := ⟨w.heap.size, j * 6 + 2, none⟩) (Nat.le_refl _) _).setCell (p := ⟨w.heap.size, j * 6 + 3, none⟩) (Nat.le_refl _) _).setCell (p := ⟨w.heap.size, j * 6 + 4, none⟩) (Nat.le_refl _) _).setCell (p := ⟨w.heap.size, j * 6 + 5, none⟩) (Nat.le_refl _) _)⟩
          · rw [List.flatMap_append]
            have e3 : ([⟨⟨ps, cs, go, test, ns, rs⟩, .slice va ps.length vc, .slice ua cs.length uc, .slice ya ns.length yc, .slice xa ls.length xc, ls⟩] : List QV).flatMap rowsQ1 = rowsQ1 ⟨⟨ps, cs, go, test, ns, rs⟩, .slice va ps.length vc, .slice ua cs.length uc, .slice ya ns.length yc, .slice xa ls.length xc, ls⟩ := by simp
            rw [e3]
            exact s5
          · have e1 := putAll_take cells (j * 6) [.slice va ps.length vc, .slice ua cs.length uc, .int .i64 go, .int .i64 test, .slice ya ns.length yc, .slice xa ls.length xc] _ HT.out.1 (by have := HL.out; simp; omega)
            rw [flatQ_append, show (j + 1) * 6 = j * 6 + 6 by omega]
            exact e1
          · rw [List.take_add_one, HX.out, ← HT.out.2.1]
            simp [prts]
          · intro y hy
            rcases List.mem_append.1 hy with hy | hy
            · exact HT.out.2.2 y hy
            · simp at hy; subst hy; exact HLS.out
        case measure => simp [intOf]; omega
      · obtain rfl : j = xs.length := by omega
        have hlen : cells.length = xs.length * 6 := hown.1
        obtain ⟨e1, e2, e3⟩ := HT.out
        rw [List.take_of_length_le (by omega)] at e1
        rw [List.take_of_length_le (Nat.le_refl _)] at e2
        subst e1
        have HE := hid (And.intro e2 e3)
        clear hown hlen HT e2 e3
        go_wp2
        go_ret
        refine ⟨_, ys, rfl, ⟨?_, HE.out.2⟩, HE.out.1, hB⟩
        have hyl : ys.length = xs.length := by rw [← HE.out.1, prts_length]
        unfold rowsQ
        rw [hyl]
        exact HSEP.out
set_option maxHeartbeats 2000000 in
/-- the laws' copy of an ssa -/
theorem toSsa_any (a : Option Addr) (c : Nat) (V : Int) (xs : List Prt) (w : World) (hl : xs.length ≤ 1048576) (ht : sumP xs ≤ 1048576) (h : PRow w a xs) :
    Calls Tryz.prog 11 #[.agg #[.slice a xs.length c, .int .i64 V]] w fun e w' => ∃ va vc ys, e = .returned (.agg #[.slice va xs.length vc, .int .i64 V]) ∧ OwnQ w' w.heap.size (.slice va xs.length vc) ys ∧ prts ys = xs ∧ Below w.heap.size w w' := by
  have H := hid (fun W (hb : Below w.heap.size w W) => toParts_any a c xs W hl ht (h.below hb))
  clear h
  go_enter Tryz.func11, Tryz.ntmps11
  go_wp2_with fail
  refine (H.out _ (below3 w _ _ _)).mono ?_
  rintro e w1 ⟨v, ys, rfl, ho, hys, hb1⟩
  obtain ⟨va, vc, rfl⟩ := slice_of_owned ho.outer
  have hyl : ys.length = xs.length := by rw [← hys, prts_length]
  rw [hyl] at ho ⊢
  obtain ⟨hcc, hff⟩ := bcell hb1
  have cA1 : w1.cell? ⟨w.heap.size, 1, none⟩ = some (.int .i64 V) := by rw [hcc _ _ (by simp <;> omega)]; simp [go_sem]
  have cR0 : w1.cell? ⟨w.heap.size + 1, 0, none⟩ = some (.slice none 0 0) := by rw [hcc _ _ (by simp <;> omega)]; simp [go_sem]
  have cR1 : w1.cell? ⟨w.heap.size + 1, 1, none⟩ = some (.int .i64 0) := by rw [hcc _ _ (by simp <;> omega)]; simp [go_sem]
  have cO0 : w1.cell? ⟨w.heap.size + 1 + 1, 0, none⟩ = some (.slice none 0 0) := by rw [hcc _ _ (by simp <;> omega)]; simp [go_sem]
  have cO1 : w1.cell? ⟨w.heap.size + 1 + 1, 1, none⟩ = some (.int .i64 0) := by rw [hcc _ _ (by simp <;> omega)]; simp [go_sem]
  have fR0 : w1.frozen? ⟨w.heap.size + 1, 0, none⟩ = false := by rw [hff _ _ (by simp <;> omega)]; simp [go_sem]
  have fR1 : w1.frozen? ⟨w.heap.size + 1, 1, none⟩ = false := by rw [hff _ _ (by simp <;> omega)]; simp [go_sem]
  have fO0 : w1.frozen? ⟨w.heap.size + 1 + 1, 0, none⟩ = false := by rw [hff _ _ (by simp <;> omega)]; simp [go_sem]
  have fO1 : w1.frozen? ⟨w.heap.size + 1 + 1, 1, none⟩ = false := by rw [hff _ _ (by simp <;> omega)]; simp [go_sem]
  have HB := hid (bstep' (below3 w _ _ _) hb1)
  have HO : Hid (Sep w1 (w.heap.size + 1 + 1 + 1) (rowsQ (.slice va xs.length vc) ys)) := by have := ho.1; simp at this; exact this
  have HLS := hid (And.intro ho.2 (And.intro hys hyl))
  clear hcc hff hb1 ho hys hyl
  go_wp2
  refine bodyPost_ret (v := .agg #[.slice va xs.length vc, .int .i64 V]) (by simp [results, Tryz.results11, go_sem, *]) rfl ⟨va, vc, ys, rfl, ⟨?_, HLS.out.1⟩, HLS.out.2.1, ?_⟩
  · exact ((((HO.out.aside (b := w.heap.size + 1 + 1) (j := 0) (by omega) (.slice va xs.length vc)).aside (b := w.heap.size + 1 + 1) (j := 1) (by omega) (.int .i64 V)).aside (b := w.heap.size + 1) (j := 0) (by omega) (.slice va xs.length vc)).aside (b := w.heap.size + 1) (j := 1) (by omega) (.int .i64 V)).mono (by omega)
  · exact (((HB.out.setCell (p := ⟨w.heap.size + 1 + 1, 0, none⟩) (by simp <;> omega) (.slice va xs.length vc)).setCell (p := ⟨w.heap.size + 1 + 1, 1, none⟩) (by simp <;> omega) (.int .i64 V)).setCell (p := ⟨w.heap.size + 1, 0, none⟩) (by simp <;> omega) (.slice va xs.length vc)).setCell (p := ⟨w.heap.size + 1, 1, none⟩) (by simp <;> omega) (.int .i64 V)
end

section
open Go.RowKit
set_option linter.unusedVariables false
set_option linter.unusedSimpArgs false
set_option maxRecDepth 100000

theorem eqInts_b (a a' : Option Addr) (c c' : Nat) (xs : List Int) (w : World) (hl : xs.length ≤ 9223372036854775807) (h : Row w a xs) (h' : Row w a' xs) :
    Calls Tryz.prog 20 #[.slice a xs.length c, .slice a' xs.length c'] w fun e w' => e = .returned (.bool true) ∧ Below w.heap.size w w' := by
  refine (eqIntS_same a a' c c' xs w hl h h').mono ?_
  rintro e w' ⟨rfl, q, rfl⟩
  exact ⟨rfl, below_drewN (Below.refl _ _) q⟩
set_option maxHeartbeats 4000000 in
theorem eqPart_same (go test : Int) (ps : List Int) (cs : List Flt) (ns : List Int) (rs : List (List Int)) (pa ca na ra pa' ca' na' ra' : Option Addr) (pc cc nc rc pc' cc' nc' rc' : Nat) (w : World) (l1 : ps.length ≤ 9223372036854775807) (l2 : cs.length ≤ 9223372036854775807) (l3 : ns.length ≤ 9223372036854775807) (l4 : rs.length ≤ 9223372036854775807) (h : PIn w ⟨ps, cs, go, test, ns, rs⟩ pa ca na ra) (h' : PIn w ⟨ps, cs, go, test, ns, rs⟩ pa' ca' na' ra') :
    Calls Tryz.prog 65 #[.agg #[.slice pa ps.length pc, .slice ca cs.length cc, .int .i64 go, .int .i64 test, .slice na ns.length nc, .slice ra rs.length rc], .agg #[.slice pa' ps.length pc', .slice ca' cs.length cc', .int .i64 go, .int .i64 test, .slice na' ns.length nc', .slice ra' rs.length rc']] w fun e w' => e = .returned (.bool true) ∧ Below w.heap.size w w' := by
  have H := hid (fun W (hb : Below w.heap.size w W) => And.intro (h.below hb) (h'.below hb))
  clear h h'
  go_enter Tryz.func65, Tryz.ntmps65
  go_wp2_with fail
  refine (eqInts_b pa pa' pc pc' ps _ l1 (H.out _ (below2 w _ _)).1.params (H.out _ (below2 w _ _)).2.params).mono ?_
  rintro e w1 ⟨rfl, hb1⟩
  obtain ⟨hcc, hff⟩ := bcell hb1
  have c1A1 : w1.cell? ⟨w.heap.size, 1, none⟩ = some (.slice ca cs.length cc) := by rw [hcc _ _ (by simp <;> omega)]; simp [go_sem]
  have c1A2 : w1.cell? ⟨w.heap.size, 2, none⟩ = some (.int .i64 go) := by rw [hcc _ _ (by simp <;> omega)]; simp [go_sem]
  have c1A3 : w1.cell? ⟨w.heap.size, 3, none⟩ = some (.int .i64 test) := by rw [hcc _ _ (by simp <;> omega)]; simp [go_sem]
  have c1A4 : w1.cell? ⟨w.heap.size, 4, none⟩ = some (.slice na ns.length nc) := by rw [hcc _ _ (by simp <;> omega)]; simp [go_sem]
  have c1A5 : w1.cell? ⟨w.heap.size, 5, none⟩ = some (.slice ra rs.length rc) := by rw [hcc _ _ (by simp <;> omega)]; simp [go_sem]
  have c1B1 : w1.cell? ⟨w.heap.size + 1, 1, none⟩ = some (.slice ca' cs.length cc') := by rw [hcc _ _ (by simp <;> omega)]; simp [go_sem]
  have c1B2 : w1.cell? ⟨w.heap.size + 1, 2, none⟩ = some (.int .i64 go) := by rw [hcc _ _ (by simp <;> omega)]; simp [go_sem]
  have c1B3 : w1.cell? ⟨w.heap.size + 1, 3, none⟩ = some (.int .i64 test) := by rw [hcc _ _ (by simp <;> omega)]; simp [go_sem]
  have c1B4 : w1.cell? ⟨w.heap.size + 1, 4, none⟩ = some (.slice na' ns.length nc') := by rw [hcc _ _ (by simp <;> omega)]; simp [go_sem]
  have c1B5 : w1.cell? ⟨w.heap.size + 1, 5, none⟩ = some (.slice ra' rs.length rc') := by rw [hcc _ _ (by simp <;> omega)]; simp [go_sem]
  clear hcc hff
  have HB1 := hid (bstep' (below2 w _ _) hb1)
  have z1 : w.heap.size + 2 ≤ w1.heap.size := by have := hb1.size; simp at this; omega
  clear hb1
  go_wp2_with fail
  refine (eqFlatS_same ca ca' cc cc' cs _ l2 (H.out _ HB1.out).1.code (H.out _ HB1.out).2.code).mono ?_
  rintro e w2 ⟨rfl, hb2⟩
  obtain ⟨hcc, hff⟩ := bcell hb2
  have c2A2 : w2.cell? ⟨w.heap.size, 2, none⟩ = some (.int .i64 go) := by rw [hcc _ _ (by omega)]; exact c1A2
  have c2A3 : w2.cell? ⟨w.heap.size, 3, none⟩ = some (.int .i64 test) := by rw [hcc _ _ (by omega)]; exact c1A3
  have c2A4 : w2.cell? ⟨w.heap.size, 4, none⟩ = some (.slice na ns.length nc) := by rw [hcc _ _ (by omega)]; exact c1A4
  have c2A5 : w2.cell? ⟨w.heap.size, 5, none⟩ = some (.slice ra rs.length rc) := by rw [hcc _ _ (by omega)]; exact c1A5
  have c2B2 : w2.cell? ⟨w.heap.size + 1, 2, none⟩ = some (.int .i64 go) := by rw [hcc _ _ (by omega)]; exact c1B2
  have c2B3 : w2.cell? ⟨w.heap.size + 1, 3, none⟩ = some (.int .i64 test) := by rw [hcc _ _ (by omega)]; exact c1B3
  have c2B4 : w2.cell? ⟨w.heap.size + 1, 4, none⟩ = some (.slice na' ns.length nc') := by rw [hcc _ _ (by omega)]; exact c1B4
  have c2B5 : w2.cell? ⟨w.heap.size + 1, 5, none⟩ = some (.slice ra' rs.length rc') := by rw [hcc _ _ (by omega)]; exact c1B5
  clear hcc hff
  have HB2 := hid (bstep' HB1.out hb2)
  have z2 : w1.heap.size ≤ w2.heap.size := hb2.size
  clear hb2 c1A1 c1A2 c1A3 c1A4 c1A5 c1B1 c1B2 c1B3 c1B4 c1B5
  go_wp2_with fail
  refine (eqInts_b na na' nc nc' ns _ l3 (H.out _ HB2.out).1.next (H.out _ HB2.out).2.next).mono ?_
  rintro e w3 ⟨rfl, hb3⟩
  obtain ⟨hcc, hff⟩ := bcell hb3
  have c3A5 : w3.cell? ⟨w.heap.size, 5, none⟩ = some (.slice ra rs.length rc) := by rw [hcc _ _ (by omega)]; exact c2A5
  have c3B5 : w3.cell? ⟨w.heap.size + 1, 5, none⟩ = some (.slice ra' rs.length rc') := by rw [hcc _ _ (by omega)]; exact c2B5
  clear hcc hff
  have HB3 := hid (bstep' HB2.out hb3)
  clear hb3 c2A2 c2A3 c2A4 c2A5 c2B2 c2B3 c2B4 c2B5
  go_wp2_with fail
  refine (eqLists_same ra ra' rc rc' rs _ l4 (H.out _ HB3.out).1.args (H.out _ HB3.out).2.args).mono ?_
  rintro e w4 ⟨rfl, hb4⟩
  go_wp2
  go_ret
  exact ⟨rfl, bstep' HB3.out hb4⟩
set_option maxHeartbeats 4000000 in
theorem eqParts_same (a a' : Option Addr) (c c' : Nat) (xs : List Prt) (w : World) (hl : xs.length ≤ 9223372036854775807) (h : PRow w a xs) (h' : PRow w a' xs) :
    Calls Tryz.prog 36 #[.slice a xs.length c, .slice a' xs.length c'] w fun e w' => e = .returned (.bool true) ∧ Below w.heap.size w w' := by
  by_cases hx : xs = []
  · subst hx
    clear h h'
    go_enter Tryz.func36, Tryz.ntmps36
    go_wp2
    go_loopw [5] (fun t wr => t = .int .i64 0 ∧ wr = w) (fun t _ => 0)
    case atStart => exact ⟨rfl, rfl⟩
    case round =>
      obtain ⟨rfl, rfl⟩ := hrel
      go_wp2
      go_ret
      exact ⟨rfl, Below.refl _ _⟩
  · obtain ⟨b, off, rfl, hbw, hat⟩ := h.at hx
    have HA := hid hat
    obtain ⟨b', off', rfl, hbw', hat'⟩ := h'.at hx
    have HA' := hid hat'
    clear hat hat' hx h h'
    go_enter Tryz.func36, Tryz.ntmps36
    go_wp2
    go_loopw [5] (fun t wr => ∃ (k : Nat), t = .int .i64 k ∧ k ≤ xs.length ∧ Below w.heap.size w wr) (fun t _ => xs.length - (intOf t).toNat)
    case atStart => exact ⟨0, rfl, by omega, Below.refl _ _⟩
    case round =>
      obtain ⟨k, rfl, hk, hB⟩ := hrel
      by_cases hlt : k < xs.length
      · obtain ⟨ps, cs, go, test, ns, rs, pa, pc, ca, cc, na, nc, ra, rc, c0, c1, c2, c3, c4, c5, l1, l2, l3, l4, HI, HX⟩ := HA.out wr hB k hlt
        obtain ⟨ps', cs', go', test', ns', rs', pa', pc', ca', cc', na', nc', ra', rc', d0, d1, d2, d3, d4, d5, l1', l2', l3', l4', HI', HX'⟩ := HA'.out wr hB k hlt
        obtain ⟨rfl, rfl, rfl, rfl, rfl, rfl⟩ : ps = ps' ∧ cs = cs' ∧ go = go' ∧ test = test' ∧ ns = ns' ∧ rs = rs' := by
          have := HX.out.symm.trans HX'.out
          simp at this
          exact this
        have HE : Hid (∀ W, Below wr.heap.size wr W → Calls Tryz.prog 65 #[.agg #[.slice pa ps.length pc, .slice ca cs.length cc, .int .i64 go, .int .i64 test, .slice na ns.length nc, .slice ra rs.length rc], .agg #[.slice pa' ps.length pc', .slice ca' cs.length cc', .int .i64 go, .int .i64 test, .slice na' ns.length nc', .slice ra' rs.length rc']] W fun e w' => e = .returned (.bool true) ∧ Below W.heap.size W w') :=
          fun W hW => eqPart_same go test ps cs ns rs pa ca na ra pa' ca' na' ra' pc cc nc rc pc' cc' nc' rc' W l1 l2 l3 l4 (HI.out.below hW) (HI'.out.below hW)
        clear l1' l2' l3' l4'
        go_wp2
        go_region_with (go_at_call 65; refine (HE.out _ ((Below.refl _ _).drew)).mono ?_; rintro e w1 ⟨rfl, hb1⟩)
        all_goals
          go_wp2
          go_roundw
          case rel => exact ⟨k + 1, by go_num, by omega, bstep' hB (below_of_drew hb1)⟩
          case measure => simp [intOf]; omega
      · go_wp2
        go_ret
        exact ⟨rfl, hB⟩
/-- the laws' comparison of two ssas that are alike -/
theorem eqSsa_same (a a' : Option Addr) (c c' : Nat) (V : Int) (xs : List Prt) (w : World) (hl : xs.length ≤ 9223372036854775807) (h : PRow w a xs) (h' : PRow w a' xs) :
    Calls Tryz.prog 13 #[.agg #[.slice a xs.length c, .int .i64 V], .agg #[.slice a' xs.length c', .int .i64 V]] w fun e w' => e = .returned (.bool true) ∧ Below w.heap.size w w' := by
  have H := hid (fun W (hb : Below w.heap.size w W) => eqParts_same a a' c c' xs W hl (h.below hb) (h'.below hb))
  clear h h'
  go_enter Tryz.func13, Tryz.ntmps13
  go_wp2_with fail
  refine (H.out _ (below2 w _ _)).mono ?_
  rintro e w1 ⟨rfl, hb1⟩
  obtain ⟨hcc, hff⟩ := bcell hb1
  have c1 : w1.cell? ⟨w.heap.size, 1, none⟩ = some (.int .i64 V) := by rw [hcc _ _ (by simp <;> omega)]; simp [go_sem]
  have c2 : w1.cell? ⟨w.heap.size + 1, 1, none⟩ = some (.int .i64 V) := by rw [hcc _ _ (by simp <;> omega)]; simp [go_sem]
  have HB := hid (bstep' (below2 w _ _) hb1)
  clear hcc hff hb1
  go_wp2
  go_ret
  exact ⟨rfl, HB.out⟩
end
end Go.Proofs.YteihecnmnajahaaGreatDoor
