/- Lists of lists of numbers: owned, read, compared, marked. -/
import Derived.Test.YthcenlplfcbfjaaPut6
namespace Go.Proofs.Ythcenlplfcbfjaa
open Go.RowKit
set_option linter.unusedVariables false
set_option linter.unusedSimpArgs false
set_option maxRecDepth 100000

/-- a list with the value of its slice -/
structure LV where
  r : List Int
  v : Value
def rowL (y : LV) : OR := ⟨3, 1, y.v, y.r.length, ints y.r⟩
def vals (ys : List LV) : List Value := ys.map (·.v)
def lists (ys : List LV) : List (List Int) := ys.map (·.r)
theorem vals_length (ys : List LV) : (vals ys).length = ys.length := by simp [vals]
theorem lists_length (ys : List LV) : (lists ys).length = ys.length := by simp [lists]
def rowsL (v : Value) (ys : List LV) : List OR := ⟨42, 1, v, ys.length, vals ys⟩ :: ys.map rowL
/-- a list of lists that is owned -/
def OwnL (w : World) (B : Nat) (v : Value) (ys : List LV) : Prop := Sep w B (rowsL v ys)
theorem OwnL.below {w w' : World} {B : Nat} {v : Value} {ys : List LV} (h : OwnL w B v ys) (hb : Below w.heap.size w w') : OwnL w' B v ys := Sep.below h hb
theorem OwnL.outer {w : World} {B : Nat} {v : Value} {ys : List LV} (h : OwnL w B v ys) : w.ownsRow B 42 1 v ys.length (vals ys) := h.1 ⟨42, 1, v, ys.length, vals ys⟩ (by simp [rowsL])
theorem OwnL.inner {w : World} {B : Nat} {v : Value} {ys : List LV} (h : OwnL w B v ys) {y : LV} (hy : y ∈ ys) : w.ownsRow B 3 1 y.v y.r.length (ints y.r) := h.1 (rowL y) (List.mem_cons_of_mem _ (List.mem_map.2 ⟨y, hy, rfl⟩))
theorem splitL {zs : List LV} {j : Nat} {z : LV} (h : zs[j]? = some z) : zs = zs.take j ++ z :: zs.drop (j + 1) := by
  obtain ⟨hj, rfl⟩ := List.getElem?_eq_some_iff.1 h
  rw [← List.drop_eq_getElem_cons hj, List.take_append_drop]
/-- the rows, told at one list -/
theorem OwnL.split {w : World} {B : Nat} {v : Value} {ys : List LV} (h : OwnL w B v ys) {j : Nat} {y : LV} (hy : ys[j]? = some y) : Sep w B ((⟨42, 1, v, ys.length, vals ys⟩ :: (ys.take j).map rowL) ++ ⟨3, 1, y.v, y.r.length, ints y.r⟩ :: (ys.drop (j + 1)).map rowL) := by
  have e : rowsL v ys = (⟨42, 1, v, ys.length, vals ys⟩ :: (ys.take j).map rowL) ++ ⟨3, 1, y.v, y.r.length, ints y.r⟩ :: (ys.drop (j + 1)).map rowL := by
    conv => lhs; rw [rowsL]
    conv => lhs; arg 2; rw [splitL hy]
    simp [rowL]
  unfold OwnL at h
  rw [e] at h
  exact h
/-- one list has turned, and its value is stored -/
theorem OwnL.join {w : World} {B g cap : Nat} {ys : List LV} {j : Nat} {y y' : LV} (hy : ys[j]? = some y) (h : Sep w B ((⟨42, 1, .slice (some ⟨g, 0, none⟩) ys.length cap, ys.length, vals ys⟩ :: (ys.take j).map rowL) ++ ⟨3, 1, y'.v, y'.r.length, ints y'.r⟩ :: (ys.drop (j + 1)).map rowL)) :
    OwnL (w.setCell ⟨g, j, none⟩ y'.v) B (.slice (some ⟨g, 0, none⟩) ys.length cap) (ys.set j y') := by
  have hj := (List.getElem?_eq_some_iff.1 hy).1
  have h2 := Sep.store [] h j y'.v
  have e : rowsL (.slice (some ⟨g, 0, none⟩) ys.length cap) (ys.set j y') = [] ++ ⟨42, 1, .slice (some ⟨g, 0, none⟩) ys.length cap, ys.length, (vals ys).set j y'.v⟩ :: ((ys.take j).map rowL ++ ⟨3, 1, y'.v, y'.r.length, ints y'.r⟩ :: (ys.drop (j + 1)).map rowL) := by
    rw [rowsL, List.length_set, show vals (ys.set j y') = (vals ys).set j y'.v by simp [vals, List.map_set], List.set_eq_take_append_cons_drop (l := ys), if_pos hj]
    simp [rowL]
  unfold OwnL
  rw [e]
  exact h2
/-- one list has turned in place -/
theorem OwnL.turn {w w' : World} {B : Nat} {v : Value} {ys : List LV} (h : OwnL w B v ys) {j : Nat} {y : LV} (hy : ys[j]? = some y) (t : List Int) (hg : w.grownBy w' y.v.ownBlock) (ho : w'.ownsRow B 3 1 y.v t.length (ints t)) : OwnL w' B v (ys.set j ⟨t, y.v⟩) := by
  have hj := (List.getElem?_eq_some_iff.1 hy).1
  have h2 := (h.split hy).turn _ (Below.refl _ _) hg ⟨3, 1, y.v, t.length, ints t⟩ ho (fun k hk => .inl hk)
  have e0 : vals (ys.set j ⟨t, y.v⟩) = vals ys := by
    simp only [vals, List.map_set]
    apply List.ext_getElem?
    intro i
    by_cases e : i = j
    · subst e; rw [List.getElem?_set_self (by simpa using hj), List.getElem?_map, hy]; rfl
    · rw [List.getElem?_set_ne (fun h => e h.symm)]
  have e : rowsL v (ys.set j ⟨t, y.v⟩) = (⟨42, 1, v, ys.length, vals ys⟩ :: (ys.take j).map rowL) ++ ⟨3, 1, y.v, t.length, ints t⟩ :: (ys.drop (j + 1)).map rowL := by
    rw [rowsL, List.length_set, e0, List.set_eq_take_append_cons_drop, if_pos hj]
    simp [rowL]
  unfold OwnL
  rw [e]
  exact h2
/-- a list of lists that can be read -/
def LRow (w : World) (a : Option Addr) (xs : List (List Int)) : Prop := xs = [] ∨ ∃ b off, a = some ⟨b, off, none⟩ ∧ ∀ k t, xs[k]? = some t → ∃ ta tc, t.length ≤ 9223372036854775807 ∧ w.cell? ⟨b, off + k, none⟩ = some (.slice ta t.length tc) ∧ Row w ta t
theorem LRow.kept {w w' : World} {a : Option Addr} {xs : List (List Int)} (h : LRow w a xs) (hk : ∀ p : Addr, p.block < w.heap.size → w'.cell? p = w.cell? p) : LRow w' a xs := by
  rcases h with h | ⟨b, off, rfl, hc⟩
  · exact .inl h
  · refine .inr ⟨b, off, rfl, fun k t ht => ?_⟩
    obtain ⟨ta, tc, h1, h2, h3⟩ := hc k t ht
    exact ⟨ta, tc, h1, by rw [hk _ (World.block_lt_of_cell? w _ h2)]; exact h2, h3.kept hk⟩
theorem LRow.below {w w' : World} {a : Option Addr} {xs : List (List Int)} (h : LRow w a xs) (hb : Below w.heap.size w w') : LRow w' a xs := h.kept fun p hp => hb.cell hp
theorem LRow.at {w : World} {a : Option Addr} {xs : List (List Int)} (h : LRow w a xs) (hx : xs ≠ []) : ∃ b off, a = some ⟨b, off, none⟩ ∧ b < w.heap.size ∧ ∀ w', Below w.heap.size w w' → ∀ k, k < xs.length → ∃ t ta tc, w'.cell? ⟨b, off + k, none⟩ = some (.slice ta t.length tc) ∧ t.length ≤ 9223372036854775807 ∧ Hid (Row w ta t) ∧ Hid (xs[k]? = some t) := by
  rcases h with h | ⟨b, off, rfl, hc⟩
  · exact absurd h hx
  · obtain ⟨x0, h0⟩ : ∃ x, xs[0]? = some x := by cases xs with | nil => exact absurd rfl hx | cons y r => exact ⟨y, rfl⟩
    obtain ⟨_, _, _, z0, _⟩ := hc 0 _ h0
    refine ⟨b, off, rfl, World.block_lt_of_cell? w _ z0, fun w' hb k hk => ?_⟩
    have hxk : xs[k]? = some xs[k] := List.getElem?_eq_getElem hk
    obtain ⟨ta, tc, h1, h2, h3⟩ := hc k _ hxk
    exact ⟨_, ta, tc, by rw [hb.cell (World.block_lt_of_cell? w _ h2)]; exact h2, h1, h3, hxk⟩
theorem OwnL.row {w : World} {B : Nat} {v : Value} {ys : List LV} (h : OwnL w B v ys) : ∃ a cap, v = .slice a (lists ys).length cap ∧ LRow w a (lists ys) := by
  have ho := h.outer
  rcases ho.2 with ⟨rfl, h0⟩ | ⟨g, cap, cur, rfl, hB, hg, hn, hm, hsz, htk⟩
  · obtain rfl : ys = [] := List.eq_nil_of_length_eq_zero h0
    exact ⟨none, 0, rfl, .inl rfl⟩
  · refine ⟨_, cap, by rw [lists_length], .inr ⟨g, 0, rfl, fun k t ht => ?_⟩⟩
    obtain ⟨y, hy, rfl⟩ : ∃ y, ys[k]? = some y ∧ y.r = t := by simp [lists] at ht; exact ht
    have i1 := h.inner (List.mem_of_getElem? hy)
    obtain ⟨ta, tc, e1, r1⟩ := Row.of_owned i1
    refine ⟨ta, tc, own_len i1, ?_, r1⟩
    rw [Nat.zero_add, rowT_at ho rfl (show (vals ys)[k]? = some y.v by simp [vals, hy]), e1]
set_option maxHeartbeats 2000000 in
theorem eqLists_same (a a' : Option Addr) (c c' : Nat) (xs : List (List Int)) (w : World) (hl : xs.length ≤ 9223372036854775807) (h : LRow w a xs) (h' : LRow w a' xs) :
    Calls Try.prog 20 #[.slice a xs.length c, .slice a' xs.length c'] w fun e w' => e = .returned (.bool true) ∧ Below w.heap.size w w' := by
  by_cases hx : xs = []
  · subst hx
    clear h h'
    go_enter Try.func20, Try.ntmps20
    go_wp2
    go_loopw [5] (fun t wr => t = .int .i64 0 ∧ wr = w) (fun t _ => 0)
    case atStart => exact ⟨rfl, rfl⟩
    case round =>
      obtain ⟨rfl, rfl⟩ := hrel
      go_wp2
      go_ret
      exact ⟨rfl, Below.refl _ _⟩
  · obtain ⟨b, off, rfl, hbw, hat⟩ := h.at hx
    have HA := hid hat
    obtain ⟨b', off', rfl, hbw', hat'⟩ := h'.at hx
    have HA' := hid hat'
    clear hat hat' hx h h'
    go_enter Try.func20, Try.ntmps20
    go_wp2
    go_loopw [5] (fun t wr => ∃ (k : Nat), t = .int .i64 k ∧ k ≤ xs.length ∧ Below w.heap.size w wr) (fun t _ => xs.length - (intOf t).toNat)
    case atStart => exact ⟨0, rfl, by omega, Below.refl _ _⟩
    case round =>
      obtain ⟨k, rfl, hk, hB⟩ := hrel
      by_cases hlt : k < xs.length
      · obtain ⟨t, ta, tc, c0, l1, HR, HX⟩ := HA.out wr hB k hlt
        obtain ⟨t', ta', tc', d0, l1', HR', HX'⟩ := HA'.out wr hB k hlt
        obtain rfl : t = t' := by
          have := HX.out.symm.trans HX'.out
          simpa using this
        have HE : Hid (∀ W, Below wr.heap.size wr W → Calls Try.prog 34 #[.slice ta t.length tc, .slice ta' t.length tc'] W fun e w' => e = .returned (.bool true) ∧ Below W.heap.size W w') := fun W hW => by
          refine (eqIntS_same ta ta' tc tc' t W l1 (HR.out.below (bstep' hB hW)) (HR'.out.below (bstep' hB hW))).mono ?_
          rintro e w' ⟨rfl, q, rfl⟩
          exact ⟨rfl, below_drewN (Below.refl _ _) _⟩
        clear l1'
        go_wp2
        go_region_with (go_at_call 34; refine (HE.out _ ((Below.refl _ _).drew)).mono ?_; rintro e w1 ⟨rfl, hb1⟩)
        all_goals
          go_wp2
          go_roundw
          case rel => exact ⟨k + 1, by go_num, by omega, bstep' hB (below_of_drew hb1)⟩
          case measure => simp [intOf]; omega
      · go_wp2
        go_ret
        exact ⟨rfl, hB⟩
/-- how many numbers there are -/
def sumL (xs : List (List Int)) : Nat := (xs.map List.length).sum
theorem sumL_at {xs : List (List Int)} {k : Nat} {x : List Int} (h : xs[k]? = some x) : sumL (xs.take (k + 1)) = sumL (xs.take k) + x.length := by
  rw [List.take_add_one, h]; simp [sumL]
theorem sumL_take (xs : List (List Int)) (k : Nat) : sumL (xs.take k) ≤ sumL xs := by
  have e : sumL xs = sumL (xs.take k) + sumL (xs.drop k) := by
    conv => lhs; rw [← List.take_append_drop k xs]
    unfold sumL; rw [List.map_append, List.sum_append]
  omega
def markLs : Int → List (List Int) → List (List Int)
  | _, [] => []
  | k, x :: r => marks k x.length :: markLs (k + x.length) r
theorem markLs_length (k : Int) (xs : List (List Int)) : (markLs k xs).length = xs.length := by
  induction xs generalizing k with
  | nil => rfl
  | cons x r ih => simp [markLs, ih]
theorem markLs_snoc (k : Int) (xs : List (List Int)) (x : List Int) : markLs k (xs ++ [x]) = markLs k xs ++ [marks (k + sumL xs) x.length] := by
  induction xs generalizing k with
  | nil => simp [markLs, sumL]
  | cons y r ih =>
    simp only [List.cons_append, markLs, ih]
    have e : k + (y.length : Int) + (sumL r : Int) = k + (sumL (y :: r) : Int) := by simp [sumL]; omega
    rw [e]
theorem markLs_at (k : Int) (xs : List (List Int)) (j : Nat) (x : List Int) (h : xs[j]? = some x) : (markLs k xs)[j]? = some (marks (k + sumL (xs.take j)) x.length) := by
  induction xs generalizing k j with
  | nil => simp at h
  | cons y r ih =>
    cases j with
    | zero => simp at h; subst h; simp [markLs, sumL]
    | succ j =>
      simp at h
      have := ih (k + y.length) j h
      rw [markLs, List.getElem?_cons_succ, this]
      congr 2
      simp [sumL]; omega
def ListIn (v : Value) (ys : List LV) (C : Nat) : Prop := (∀ k, v.ownBlock = some k → k < C) ∧ ∀ y ∈ ys, ∀ k, y.v.ownBlock = some k → k < C
theorem lists_at {ys : List LV} {j : Nat} {y : LV} (h : ys[j]? = some y) : (lists ys)[j]? = some y.r := by simp [lists, h]
set_option maxHeartbeats 4000000 in
/-- marking lists that are owned: only their own blocks turn -/
theorem markLists_any (B C : Nat) (v : Value) (ys : List LV) (w : World) (h : OwnL w B v ys) (hl : ys.length ≤ 1048576) (hs : sumL (lists ys) ≤ 1048576) (hC : ∀ y ∈ ys, ∀ k, y.v.ownBlock = some k → B ≤ k ∧ C ≤ k) :
    Calls Try.prog 22 #[v, .int .i64 1] w fun e w' => e = .returned (.int .i64 (1 + (sumL (lists ys) : Int))) ∧ ∃ ys', OwnL w' B v ys' ∧ lists ys' = markLs 1 (lists ys) ∧ (∀ k, k < w.heap.size → k < C → w'.heap[k]? = w.heap[k]?) ∧ (w'.os = w.os ∧ w'.tape = w.tape ∧ w'.output = w.output ∧ w.heap.size ≤ w'.heap.size) := by
  rcases h.outer.2 with ⟨rfl, h0⟩ | ⟨g, cap, cur, rfl, hB, hg, hn, hm, hsz, htk⟩
  · obtain rfl : ys = [] := List.eq_nil_of_length_eq_zero h0
    have HH := hid h
    clear h h0 hC hs
    go_enter Try.func22, Try.ntmps22
    go_wp2
    go_loopw [1, 5] (fun t1 t wr => t1 = .int .i64 1 ∧ t = .int .i64 0 ∧ wr = w) (fun _ t _ => 0)
    case atStart => exact ⟨rfl, rfl, rfl⟩
    case round =>
      obtain ⟨rfl, rfl, rfl⟩ := hrel
      go_wp2
      go_ret
      exact ⟨ret_int (by simp [lists, sumL]), [], HH.out, rfl, fun _ _ _ => rfl, rfl, rfl, rfl, Nat.le_refl _⟩
  · have HC := hid hC
    have HS := hid hs
    clear hg hn hm hsz htk hC hs
    go_enter Try.func22, Try.ntmps22
    go_wp2
    go_loopw [1, 5] (fun t1 t5 wr => ∃ (j : Nat) (zs : List LV), t1 = .int .i64 (1 + (sumL ((lists ys).take j) : Int)) ∧ t5 = .int .i64 j ∧ j ≤ ys.length ∧ zs.length = ys.length ∧ OwnL wr B (.slice (some ⟨g, 0, none⟩) ys.length cap) zs ∧ lists (zs.take j) = markLs 1 ((lists ys).take j) ∧ zs.drop j = ys.drop j ∧ (∀ k, k < w.heap.size → k < C → wr.heap[k]? = w.heap[k]?) ∧ (wr.os = w.os ∧ wr.tape = w.tape ∧ wr.output = w.output ∧ w.heap.size ≤ wr.heap.size)) (fun _ t5 _ => ys.length - (intOf t5).toNat)
    case atStart => exact ⟨0, ys, by simp [sumL], rfl, by omega, rfl, h, by simp [markLs, lists], rfl, fun _ _ _ => rfl, rfl, rfl, rfl, Nat.le_refl _⟩
    case round =>
      obtain ⟨j, zs, rfl, rfl, hj, hzl, hown, htk, hdr, hkp, hfr⟩ := hrel
      have HT := hid (And.intro htk (And.intro hdr (And.intro hzl (And.intro hkp hfr))))
      clear htk h hkp hfr
      by_cases hlt : j < ys.length
      · obtain ⟨⟨t, tv⟩, hy⟩ : ∃ y, ys[j]? = some y := ⟨_, List.getElem?_eq_getElem hlt⟩
        have hz : zs[j]? = some ⟨t, tv⟩ := by
          have h1 := congrArg (·[0]?) hdr
          simpa [List.getElem?_drop, hy] using h1
        have hxs := lists_at hy
        have hsum := sumL_at hxs
        have hle := sumL_take (lists ys) (j + 1)
        simp only [] at hxs hsum
        have hSb := HS.out
        obtain ⟨S, hS, hS1⟩ : ∃ S : Nat, sumL ((lists ys).take j) = S ∧ S + t.length ≤ 1048576 := ⟨_, rfl, by omega⟩
        rw [hS] at hsum ⊢
        have c0 : wr.cell? ⟨g, j, none⟩ = some tv := rowT_at hown.outer rfl (show (vals zs)[j]? = some tv by simp [vals, hz])
        have i1 := hown.inner (List.mem_of_getElem? hz)
        simp only [] at i1
        obtain ⟨ta, tc, rfl⟩ := slice_of_owned i1
        have HZ := hid (And.intro hz (And.intro hy (And.intro hS hsum)))
        have HO := hid hown
        have HI := hid i1
        clear hown i1 hz hy hxs hsum hle hdr hS hSb
        go_wp2_with fail
        refine (markI_any B _ t (1 + (S : Int)) _ (by omega) (by omega) (by omega) HI.out).mono ?_
        rintro e w2 ⟨rfl, ho2, hg2⟩
        have HO2 := hid (HO.out.turn HZ.out.1 (marks (1 + (S : Int)) t.length) hg2 (by simpa [marks_length] using ho2))
        have HG2 := hid hg2
        clear ho2 hg2 HO
        go_wp2
        go_roundw
        case rel =>
          have hjz := (List.getElem?_eq_some_iff.1 HZ.out.1).1
          refine ⟨j + 1, zs.set j ⟨marks (1 + (S : Int)) t.length, .slice ta t.length tc⟩, ?_, by go_num, by omega, by rw [List.length_set]; exact HT.out.2.2.1, HO2.out, ?_, ?_, ?_, ?_⟩
          · rw [HZ.out.2.2.2]; congr 1; simp; omega
          · have e1 : (lists ys).take (j + 1) = (lists ys).take j ++ [t] := by rw [List.take_add_one, lists_at HZ.out.2.1]; rfl
            rw [List.take_add_one, List.getElem?_set_self hjz, List.take_set_of_le (Nat.le_refl _), e1, markLs_snoc, HZ.out.2.2.1, ← HT.out.1]
            simp [lists]
          · rw [List.drop_set_of_lt (by omega)]
            have := congrArg (List.drop 1) HT.out.2.1
            simpa using this
          · intro k hk hkC
            have h5 := HT.out.2.2.2.2.2.2.2
            rw [HG2.out.block k (by omega) (by
              intro he
              have := (HC.out _ (List.mem_of_getElem? HZ.out.2.1) k he.symm).2
              omega)]
            exact HT.out.2.2.2.1 k hk hkC
          · obtain ⟨h1, h2, h3, h4⟩ := HT.out.2.2.2.2
            exact ⟨HG2.out.os.trans h1, HG2.out.tape.trans h2, HG2.out.output.trans h3, Nat.le_trans h4 HG2.out.size⟩
        case measure => simp [intOf]; omega
      · obtain rfl : j = ys.length := by omega
        have e1 : (lists ys).take ys.length = lists ys := List.take_of_length_le (by rw [lists_length]; exact Nat.le_refl _)
        have e2 : zs.take ys.length = zs := List.take_of_length_le (by omega)
        have HE := hid (And.intro e1 e2)
        have HO := hid hown
        clear e1 e2 hown hdr hzl
        go_wp2
        go_ret
        refine ⟨ret_int (by rw [HE.out.1]), zs, HO.out, ?_, HT.out.2.2.2.1, HT.out.2.2.2.2⟩
        have := HT.out.1
        rw [HE.out.1, HE.out.2] at this
        exact this
set_option maxHeartbeats 2000000 in
/-- asking for the marks of lists -/
theorem heldLists_any (a : Option Addr) (c : Nat) (xs : List (List Int)) (w : World) (hl : xs.length ≤ 1048576) (hs : sumL xs ≤ 1048576) (h : LRow w a (markLs 1 xs)) :
    Calls Try.prog 23 #[.slice a xs.length c, .int .i64 1] w fun e w' => e = .returned (.int .i64 (1 + (sumL xs : Int))) ∧ w' = w := by
  have H := hid h
  have HS := hid hs
  clear h hs
  go_enter Try.func23, Try.ntmps23
  go_wp2
  go_loop [1, 5] (fun t1 t5 => ∃ (j : Nat), t1 = .int .i64 (1 + (sumL (xs.take j) : Int)) ∧ t5 = .int .i64 j ∧ j ≤ xs.length) (fun _ t5 => xs.length - (intOf t5).toNat)
  case atStart => exact ⟨0, by simp [sumL], rfl, by omega⟩
  case round =>
    obtain ⟨j, rfl, rfl, hj⟩ := hrel
    by_cases hlt : j < xs.length
    · obtain ⟨b, off, rfl, hbw, hat⟩ := H.out.at (by intro e; have := congrArg List.length e; rw [markLs_length] at this; simp at this; subst this; simp at hlt)
      obtain ⟨t, ta, tc, c0, l1, HR, HX⟩ := hat w (Below.refl _ _) j (by rw [markLs_length]; exact hlt)
      obtain ⟨x, hx⟩ : ∃ x, xs[j]? = some x := ⟨_, List.getElem?_eq_getElem hlt⟩
      have hsum := sumL_at hx
      have hle := sumL_take xs (j + 1)
      have hSb := HS.out
      obtain ⟨S, hS, hS1⟩ : ∃ S : Nat, sumL (xs.take j) = S ∧ S + x.length ≤ 1048576 := ⟨_, rfl, by omega⟩
      have he := HX.out
      rw [markLs_at 1 xs j x hx, hS] at he
      obtain rfl := Option.some.inj he
      rw [marks_length] at c0
      rw [hS] at hsum ⊢
      have HR2 := hid HR.out
      have HQ := hid hsum
      clear hat HX hsum hle hSb he l1 hx hS HR
      go_wp2_with fail
      refine (heldI_any ta tc x.length (1 + (S : Int)) _ (by omega) (by omega) (by omega) HR2.out).mono ?_
      rintro e w1 ⟨rfl, hw1⟩
      subst w1
      go_wp2
      go_round
      case rel => exact ⟨j + 1, by rw [HQ.out]; congr 1; simp; omega, by go_num, by omega⟩
      case measure => simp [intOf]; omega
    · obtain rfl : j = xs.length := by omega
      go_wp2
      go_ret
      exact ⟨ret_int (by simp), rfl⟩
end Go.Proofs.Ythcenlplfcbfjaa
