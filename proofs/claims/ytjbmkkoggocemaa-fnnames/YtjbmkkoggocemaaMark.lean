/- What the laws' own marks on sections are, and that they are found again. -/
import Derived.Test.YtjbmkkoggocemaaSect3
namespace Go.Proofs.Ytjbmkkoggocemaa
open Go.RowKit
set_option linter.unusedVariables false
set_option linter.unusedSimpArgs false

/-- the digits of a number -/
def digs : Nat → Int → List UInt8
  | 0, _ => []
  | f + 1, k => if k ≤ 0 then [] else digs f (k / 10) ++ [by8 (48 + k % 10)]
theorem digs_end (f : Nat) (k : Int) (h : k ≤ 0) : digs f k = [] := by
  cases f with
  | zero => rfl
  | succ f => simp [digs, h]
theorem digs_step (f : Nat) (k : Int) (h : ¬ k ≤ 0) : digs (f + 1) k = digs f (k / 10) ++ [by8 (48 + k % 10)] := by simp [digs, h]
/-- a mark's text -/
def markT (k : Int) : ByteArray := ⟨(109 :: digs k.toNat k).toArray⟩

set_option maxHeartbeats 400000 in
theorem markText_any (k : Int) (w : World) (h1 : 1 ≤ k) (h2 : k ≤ 4000000) :
    Calls Try.prog 62 #[.int .i64 k] w fun e w' => e = .returned (.string (markT k)) ∧ Below w.heap.size w w' := by
  have hcv := conv1
  go_enter Try.func62, Try.ntmps62
  go_wp2
  go_loopw [0, 3] (fun t s wr => ∃ (r : Int) (acc : List UInt8) (f : Nat), t = .int .i64 r ∧ s = .string ⟨acc.toArray⟩ ∧ 0 ≤ r ∧ r ≤ k ∧ r.toNat ≤ f ∧ digs k.toNat k = digs f r ++ acc ∧ acc.length + f = k.toNat ∧ Below w.heap.size w wr) (fun t _ _ => (intOf t).toNat)
  case atStart => exact ⟨k, [], k.toNat, rfl, rfl, by omega, by omega, by omega, by simp, by simp, Below.refl _ _⟩
  case round =>
    obtain ⟨r, acc, f, rfl, rfl, hr0, hr1, hrf, hd, hlen, hb⟩ := hrel
    have hal : acc.length ≤ 4000000 := by omega
    have HD : Hid (digs k.toNat k = digs f r ++ acc) := hd
    have HL : Hid (acc.length + f = k.toNat ∧ r.toNat ≤ f) := ⟨hlen, hrf⟩
    clear hd hlen hrf
    by_cases hlt : 0 < r
    · have hm1 : r.tmod 10 = r % 10 := Int.tmod_eq_emod_of_nonneg hr0
      have hm2 : r.tdiv 10 = r / 10 := Int.tdiv_eq_ediv_of_nonneg hr0
      have hm : (48 + r % 10) % 256 = 48 + r % 10 := by omega
      go_wp2
      obtain ⟨g, rfl⟩ : ∃ g, f = g + 1 := ⟨f - 1, by have := HL.out; omega⟩
      refine ⟨⟨r / 10, by8 (48 + r % 10) :: acc, g, rfl, ?_, by omega, by omega, by have := HL.out; omega, ?_, by have := HL.out; simp; omega, hb.alloc hb.size _⟩, by simp [intOf]; omega⟩
      · exact congrArg Value.string (ByteArray.mk_append_mk [by8 (48 + r % 10)] acc)
      · rw [HD.out, digs_step g r (by omega)]; simp
    · go_wp2
      go_ret
      refine ⟨ret_str ?_, hb⟩
      unfold markT
      rw [HD.out, digs_end f r (by omega)]
      exact ByteArray.mk_append_mk [109] acc

/-- the marks of so many sections -/
def markS (n : Nat) : List Sec := (List.range n).map fun i : Nat => (1 + 2 * (i : Int), markT (2 + 2 * (i : Int)))
theorem markS_length (n : Nat) : (markS n).length = n := by simp [markS]
theorem markS_succ (n : Nat) : markS (n + 1) = markS n ++ [(1 + 2 * (n : Int), markT (2 + 2 * (n : Int)))] := by simp [markS, List.range_succ]
theorem markS_at (n j : Nat) (h : j < n) : (markS n)[j]? = some (1 + 2 * (j : Int), markT (2 + 2 * (j : Int))) := by simp [markS, h]
theorem digs_len (f : Nat) (k : Int) : (digs f k).length ≤ f := by
  induction f generalizing k with
  | zero => simp [digs]
  | succ f ih =>
    unfold digs
    split
    · simp
    · have := ih (k / 10); simp; omega
theorem markT_size (k : Int) (h : k ≤ 4000000) : (markT k).size ≤ 4000001 := by
  have := digs_len k.toNat k
  show (109 :: digs k.toNat k).toArray.size ≤ _
  simp; omega
theorem markS_sizes (n : Nat) (h : n ≤ 1048576) : ∀ x ∈ markS n, x.2.size ≤ 9223372036854775807 := by
  intro x hx
  simp [markS] at hx
  obtain ⟨i, hi, rfl⟩ := hx
  have := markT_size (2 + 2 * (i : Int)) (by omega)
  simp only []
  omega

theorem grownBy_trans {a b c : World} {row : Option Nat} (h : a.grownBy b row) (k : b.grownBy c row) : a.grownBy c row :=
  ⟨k.os.trans h.os, k.tape.trans h.tape, k.output.trans h.output, Nat.le_trans h.size k.size, fun i hi hne => (k.block i (Nat.lt_of_lt_of_le hi h.size) hne).trans (h.block i hi hne)⟩

set_option maxHeartbeats 2000000 in
set_option maxRecDepth 100000 in
/-- marking sections that are owned -/
theorem mark_any (B : Nat) (v : Value) (xs : List Sec) (w : World) (hl : xs.length ≤ 1048576) (h : w.ownsRow B 31 2 v xs.length (flat xs)) :
    Calls Try.prog 32 #[v, .int .i64 1] w fun e w' => e = .returned (.int .i64 (1 + 2 * (xs.length : Int))) ∧ w'.ownsRow B 31 2 v xs.length (flat (markS xs.length)) ∧ w.grownBy w' v.ownBlock := by
  rcases h.2 with ⟨rfl, h0⟩ | ⟨g, cap, cur, rfl, hB, hg, hn, hm, hs, htk⟩
  · have hx : xs = [] := List.eq_nil_of_length_eq_zero h0
    subst hx
    clear h h0 hl
    go_enter Try.func32, Try.ntmps32
    go_wp2
    go_loopw [1, 5] (fun t1 t wr => t1 = .int .i64 1 ∧ t = .int .i64 0 ∧ wr = w) (fun _ t _ => 0)
    case atStart => exact ⟨rfl, rfl, rfl⟩
    case round =>
      obtain ⟨rfl, rfl, rfl⟩ := hrel
      go_wp2
      go_ret
      exact ⟨rfl, World.ownsRow_nil _ _ _ _, World.grownBy.refl _ _⟩
  · clear hg hn hm hs htk
    obtain ⟨n, hn⟩ : ∃ n, xs.length = n := ⟨_, rfl⟩
    rw [hn] at h hl ⊢
    clear hn
    go_enter Try.func32, Try.ntmps32
    go_wp2
    go_loopw [1, 5] (fun t1 t5 wr => ∃ (j : Nat) (cells : List Value), t1 = .int .i64 (1 + 2 * (j : Int)) ∧ t5 = .int .i64 j ∧ j ≤ n ∧ wr.ownsRow B 31 2 (.slice (some ⟨g, 0, none⟩) n cap) n cells ∧ cells.take (j * 2) = flat (markS j) ∧ w.grownBy wr (some g)) (fun _ t5 _ => n - (intOf t5).toNat)
    case atStart => exact ⟨0, _, rfl, rfl, by omega, h, by simp [markS, flat], World.grownBy.refl _ _⟩
    case round =>
      obtain ⟨j, cells, rfl, rfl, hj, hown, htk, hgr⟩ := hrel
      have HT : Hid (cells.take (j * 2) = flat (markS j)) := htk
      have HL : Hid (cells.length = n * 2) := hown.1
      have HG : Hid (w.grownBy wr (some g)) := hgr
      clear htk hgr h
      by_cases hlt : j < n
      · obtain ⟨u0, hu0⟩ : ∃ u, wr.cell? ⟨g, j * 2, none⟩ = some u := by
          rw [hown.cellAt (j * 2) (by omega)]
          exact ⟨_, List.getElem?_eq_getElem (by rw [HL.out]; omega)⟩
        have f0 := hown.frozenAt (j * 2)
        have hst := hown.stored (j * 2) (.int .i64 (1 + 2 * (j : Int)))
        have HST : Hid (_ ∧ _) := hst
        have ht := fun w => markText_any (1 + 2 * (j : Int) + 1) w (by omega) (by omega)
        have HTX : Hid (∀ w, Calls Try.prog 62 #[.int .i64 (1 + 2 * (j : Int) + 1)] w fun e w' => e = .returned (.string (markT (1 + 2 * (j : Int) + 1))) ∧ Below w.heap.size w w') := ht
        clear ht hst hown
        go_wp2_with fail
        refine (HTX.out _).mono ?_
        rintro e w2 ⟨rfl, hb2⟩
        have hown2 := owns_below HST.out.1 hb2
        obtain ⟨u1, hu1⟩ : ∃ u, w2.cell? ⟨g, j * 2 + 1, none⟩ = some u := by
          rw [hown2.cellAt (j * 2 + 1) (by omega)]
          exact ⟨_, List.getElem?_eq_getElem (by rw [List.length_set, HL.out]; omega)⟩
        have f1 := hown2.frozenAt (j * 2 + 1)
        have hst2 := hown2.stored (j * 2 + 1) (.string (markT (1 + 2 * (j : Int) + 1)))
        have HS2 : Hid (_ ∧ _) := hst2
        clear hst2 hown2
        go_wp2
        go_roundw
        case rel =>
          refine ⟨j + 1, _, by go_num, by go_num, by omega, HS2.out.1, ?_, ?_⟩
          · rw [set2_take cells j _ _ _ HT.out (by rw [HL.out]; omega), markS_succ, flat_append]
            have : (1 + 2 * (j : Int) + 1) = 2 + 2 * (j : Int) := by omega
            rw [this]; rfl
          · exact grownBy_trans (grownBy_trans (grownBy_trans HG.out HST.out.2) (grownBy_of_below hb2 _)) HS2.out.2
        case measure => simp [intOf]; omega
      · obtain rfl : j = n := by omega
        go_wp2
        go_ret
        refine ⟨rfl, ?_, HG.out⟩
        have h1 := HT.out
        rw [List.take_of_length_le (by rw [HL.out]; exact Nat.le_refl _)] at h1
        rw [← h1]
        exact hown

set_option maxHeartbeats 2000000 in
set_option maxRecDepth 100000 in
/-- asking for the marks -/
theorem held_any (a : Option Addr) (c n : Nat) (w : World) (hl : n ≤ 1048576) (h : SRow w a (markS n)) :
    Calls Try.prog 33 #[.slice a n c, .int .i64 1] w fun e w' => e = .returned (.int .i64 (1 + 2 * (n : Int))) ∧ Below w.heap.size w w' := by
  by_cases hx : markS n = []
  · have hn : n = 0 := by have := markS_length n; rw [hx] at this; simpa using this.symm
    subst hn
    clear h hl
    go_enter Try.func33, Try.ntmps33
    go_wp2
    go_loopw [1, 5] (fun t1 t wr => t1 = .int .i64 1 ∧ t = .int .i64 0 ∧ wr = w) (fun _ t _ => 0)
    case atStart => exact ⟨rfl, rfl, rfl⟩
    case round =>
      obtain ⟨rfl, rfl, rfl⟩ := hrel
      go_wp2
      go_ret
      exact ⟨rfl, Below.refl _ _⟩
  · obtain ⟨b, off, rfl, hat⟩ := h.at hx
    rw [markS_length] at hat
    have HA : Hid (_) := hat
    clear hat hx h
    go_enter Try.func33, Try.ntmps33
    go_wp2
    go_loopw [1, 5] (fun t1 t5 wr => ∃ (j : Nat), t1 = .int .i64 (1 + 2 * (j : Int)) ∧ t5 = .int .i64 j ∧ j ≤ n ∧ Below w.heap.size w wr) (fun _ t5 _ => n - (intOf t5).toNat)
    case atStart => exact ⟨0, rfl, rfl, by omega, Below.refl _ _⟩
    case round =>
      obtain ⟨j, rfl, rfl, hj, hB⟩ := hrel
      by_cases hlt : j < n
      · obtain ⟨i, s, c1, c2, hs, hbw, HX⟩ := HA.out wr hB j hlt
        obtain ⟨rfl, hse⟩ : i = 1 + 2 * (j : Int) ∧ s = markT (1 + 2 * (j : Int) + 1) := by
          have := HX.out
          rw [markS_at n j hlt] at this
          simp at this
          refine ⟨this.1.symm, ?_⟩
          rw [← this.2]
          congr 1
          omega
        have ht := fun w => markText_any (1 + 2 * (j : Int) + 1) w (by omega) (by omega)
        rw [← hse] at ht
        have HTX : Hid (∀ w, Calls Try.prog 62 #[.int .i64 (1 + 2 * (j : Int) + 1)] w fun e w' => e = .returned (.string s) ∧ Below w.heap.size w w') := ht
        clear ht hse
        have hbr : b < wr.heap.size := Nat.lt_of_lt_of_le hbw hB.size
        go_wp2
        go_region_with (go_at_call 62; refine (HTX.out _).mono ?_; rintro e w1 ⟨rfl, hb1⟩; have c3 : w1.cell? ⟨b, off + j * 2 + 1, none⟩ = some (.string s) := Eq.trans (hb1.cell hbr) c2)
        all_goals
          go_wp2
          go_roundw
          case rel => exact ⟨j + 1, by go_num, by go_num, by omega, bstep hB (Nat.le_refl _) (below_of_drew hb1)⟩
          case measure => simp [intOf]; omega
      · obtain rfl : j = n := by omega
        go_wp2
        go_ret
        exact ⟨rfl, hB⟩
end Go.Proofs.Ytjbmkkoggocemaa
