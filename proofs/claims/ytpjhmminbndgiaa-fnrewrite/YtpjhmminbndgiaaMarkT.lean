/- What the laws' own marks on texts are, and that they are found again; two slices of texts held against each other. -/
import Derived.Test.YtpjhmminbndgiaaSNorm
import Derived.WalkLawsBesides
namespace Go.Proofs.Ytpjhmminbndgiaa
open Go.RowKit
set_option linter.unusedVariables false
set_option linter.unusedSimpArgs false
set_option maxRecDepth 100000

def by8 (x : Int) : UInt8 := UInt8.ofNat x.toNat
theorem ret_str {a b : ByteArray} (h : a = b) : Ending.returned (.string a) = .returned (.string b) := by rw [h]
theorem conv1 (W : World) (x : Int) : (convert 22 9 (.slice (some ⟨W.heap.size, 0, none⟩) 1 1)).run Try.prog (W.alloc (.cells #[.int .u8 x] 5)) = .ok (.string ⟨#[by8 x]⟩) (W.alloc (.cells #[.int .u8 x] 5)) := by
  have := run_convert_bytes_arg (P := Try.prog) (W.alloc (.cells #[.int .u8 x] 5)) 22 5 Try.underlying22 Try.underlying5 W.heap.size 0 1 1 [x] rfl (by
    intro i hi
    obtain rfl : i = 0 := by omega
    simp) 9 Try.underlying9
  rw [this]
  simp [strOfNums, by8]
/-- the digits of a number -/
def digs : Nat → Int → List UInt8
  | 0, _ => []
  | f + 1, k => if k ≤ 0 then [] else digs f (k / 10) ++ [by8 (48 + k % 10)]
theorem digs_end (f : Nat) (k : Int) (h : k ≤ 0) : digs f k = [] := by
  cases f with
  | zero => rfl
  | succ f => simp [digs, h]
theorem digs_step (f : Nat) (k : Int) (h : ¬ k ≤ 0) : digs (f + 1) k = digs f (k / 10) ++ [by8 (48 + k % 10)] := by simp [digs, h]
/-- a mark's text -/
def markT (k : Int) : ByteArray := ⟨(109 :: digs k.toNat k).toArray⟩
set_option maxHeartbeats 400000 in
theorem markText_any (k : Int) (w : World) (h1 : 1 ≤ k) (h2 : k ≤ 4000000) :
    Calls Try.prog 66 #[.int .i64 k] w fun e w' => e = .returned (.string (markT k)) ∧ Below w.heap.size w w' := by
  have hcv := conv1
  go_enter Try.func66, Try.ntmps66
  go_wp2
  go_loopw [0, 3] (fun t s wr => ∃ (r : Int) (acc : List UInt8) (f : Nat), t = .int .i64 r ∧ s = .string ⟨acc.toArray⟩ ∧ 0 ≤ r ∧ r ≤ k ∧ r.toNat ≤ f ∧ digs k.toNat k = digs f r ++ acc ∧ acc.length + f = k.toNat ∧ Below w.heap.size w wr) (fun t _ _ => (intOf t).toNat)
  case atStart => exact ⟨k, [], k.toNat, rfl, rfl, by omega, by omega, by omega, by simp, by simp, Below.refl _ _⟩
  case round =>
    obtain ⟨r, acc, f, rfl, rfl, hr0, hr1, hrf, hd, hlen, hb⟩ := hrel
    have hal : acc.length ≤ 4000000 := by omega
    have HD : Hid (digs k.toNat k = digs f r ++ acc) := hd
    have HL : Hid (acc.length + f = k.toNat ∧ r.toNat ≤ f) := ⟨hlen, hrf⟩
    clear hd hlen hrf
    by_cases hlt : 0 < r
    · have hm1 : r.tmod 10 = r % 10 := Int.tmod_eq_emod_of_nonneg hr0
      have hm2 : r.tdiv 10 = r / 10 := Int.tdiv_eq_ediv_of_nonneg hr0
      have hm : (48 + r % 10) % 256 = 48 + r % 10 := by omega
      go_wp2
      obtain ⟨g, rfl⟩ : ∃ g, f = g + 1 := ⟨f - 1, by have := HL.out; omega⟩
      refine ⟨⟨r / 10, by8 (48 + r % 10) :: acc, g, rfl, ?_, by omega, by omega, by have := HL.out; omega, ?_, by have := HL.out; simp; omega, hb.alloc hb.size _⟩, by simp [intOf]; omega⟩
      · exact congrArg Value.string (ByteArray.mk_append_mk [by8 (48 + r % 10)] acc)
      · rw [HD.out, digs_step g r (by omega)]; simp
    · go_wp2
      go_ret
      refine ⟨ret_str ?_, hb⟩
      unfold markT
      rw [HD.out, digs_end f r (by omega)]
      exact ByteArray.mk_append_mk [109] acc

/-- texts as they lie, as cells -/
def strV (ss : List ByteArray) : List Value := ss.map Value.string
theorem strs_strV (l : List Tx) : strs l = strV (l.map Sb) := by simp [strs, strV]
def ARow (w : World) (a : Option Addr) (ts : List ByteArray) : Prop := ts = [] ∨ ∃ b off, a = some ⟨b, off, none⟩ ∧ ∀ (i : Nat) x, ts[i]? = some x → w.cell? ⟨b, off + i, none⟩ = some (.string x)
theorem ARow.below {w w' : World} {a : Option Addr} {l : List ByteArray} (h : ARow w a l) (hb : Below w.heap.size w w') : ARow w' a l := by
  rcases h with h | ⟨b, off, rfl, hc⟩
  · exact .inl h
  · exact .inr ⟨b, off, rfl, fun i x hi => cell_below (hc i x hi) hb⟩
theorem ARow.of_owned {w : World} {B n : Nat} {v : Value} {l : List ByteArray} (h : w.ownsRow B 9 1 v n (strV l)) (hn : n = l.length) : ∃ a cap, v = .slice a l.length cap ∧ ARow w a l := by
  subst hn
  rcases h.2 with ⟨rfl, h0⟩ | ⟨g, cap, cur, rfl, hB, hg, hn, hm, hsz, htk⟩
  · rw [h0]
    exact ⟨none, 0, rfl, .inl (List.eq_nil_of_length_eq_zero h0)⟩
  · refine ⟨_, cap, rfl, .inr ⟨g, 0, rfl, fun i x hi => ?_⟩⟩
    have hil := (List.getElem?_eq_some_iff.1 hi).1
    rw [Nat.zero_add, h.cellAt _ (by omega)]
    simp [strV, hi]
/-- the marks of so many texts, from a number on -/
def markA (k : Int) (n : Nat) : List ByteArray := (List.range n).map fun i : Nat => markT (k + (i : Int))
theorem markA_length (k : Int) (n : Nat) : (markA k n).length = n := by simp [markA]
theorem markA_succ (k : Int) (n : Nat) : markA k (n + 1) = markA k n ++ [markT (k + (n : Int))] := by simp [markA, List.range_succ]
theorem markA_at (k : Int) (n j : Nat) (h : j < n) : (markA k n)[j]? = some (markT (k + (j : Int))) := by simp [markA, h]
set_option maxHeartbeats 2000000 in
theorem eqStr_same (a a' : Option Addr) (c c' : Nat) (ss : List ByteArray) (w : World) (hl : ss.length ≤ 9223372036854775807) (h : ARow w a ss) (h' : ARow w a' ss) :
    Calls Try.prog 38 #[.slice a ss.length c, .slice a' ss.length c'] w fun e w' => e = .returned (.bool true) ∧ Below w.heap.size w w' := by
  have H := hid h
  have H' := hid h'
  clear h h'
  go_enter Try.func38, Try.ntmps38
  go_wp2
  go_loopw [5] (fun t wr => ∃ (k : Nat), t = .int .i64 k ∧ k ≤ ss.length ∧ Below w.heap.size w wr) (fun t _ => ss.length - (intOf t).toNat)
  case atStart => exact ⟨0, rfl, by omega, Below.refl _ _⟩
  case round =>
    obtain ⟨k, rfl, hk, hB⟩ := hrel
    by_cases hlt : k < ss.length
    · obtain ⟨b, off, rfl, hc⟩ := H.out.resolve_left (by intro e; subst e; simp at hlt)
      obtain ⟨b', off', rfl, hc'⟩ := H'.out.resolve_left (by intro e; subst e; simp at hlt)
      obtain ⟨x, hx⟩ : ∃ x, ss[k]? = some x := ⟨_, List.getElem?_eq_getElem hlt⟩
      have c1 := cell_below (hc k x hx) hB
      have c2 := cell_below (hc' k x hx) hB
      clear hc hc'
      go_wp2
      go_quiet (fail)
      go_wp2
      go_roundw
      case rel => exact ⟨k + 1, by go_num, by omega, below_drewN hB _⟩
      case measure => simp [intOf]; omega
    · go_wp2
      go_ret
      exact ⟨rfl, hB⟩
set_option maxHeartbeats 2000000 in
/-- marking texts that are owned -/
theorem markStr_any (B n : Nat) (v : Value) (xs : List Value) (k : Int) (w : World) (hk : 1 ≤ k) (hl : k + n ≤ 4000000) (h : w.ownsRow B 9 1 v n xs) :
    Calls Try.prog 40 #[v, .int .i64 k] w fun e w' => e = .returned (.int .i64 (k + (n : Int))) ∧ w'.ownsRow B 9 1 v n (strV (markA k n)) ∧ w.grownBy w' v.ownBlock := by
  rcases h.2 with ⟨rfl, h0⟩ | ⟨g, cap, cur, rfl, hB, hg, hn, hm, hs, htk⟩
  · subst h0
    clear h hl
    go_enter Try.func40, Try.ntmps40
    go_wp2
    go_loopw [1, 5] (fun t1 t wr => t1 = .int .i64 k ∧ t = .int .i64 0 ∧ wr = w) (fun _ t _ => 0)
    case atStart => exact ⟨rfl, rfl, rfl⟩
    case round =>
      obtain ⟨rfl, rfl, rfl⟩ := hrel
      go_wp2
      go_ret
      exact ⟨by simp, World.ownsRow_nil _ _ _ _, World.grownBy.refl _ _⟩
  · clear hg hn hm hs htk
    go_enter Try.func40, Try.ntmps40
    go_wp2
    go_loopw [1, 5] (fun t1 t5 wr => ∃ (j : Nat) (cells : List Value), t1 = .int .i64 (k + (j : Int)) ∧ t5 = .int .i64 j ∧ j ≤ n ∧ wr.ownsRow B 9 1 (.slice (some ⟨g, 0, none⟩) n cap) n cells ∧ cells.take j = strV (markA k j) ∧ w.grownBy wr (some g)) (fun _ t5 _ => n - (intOf t5).toNat)
    case atStart => exact ⟨0, _, by simp, rfl, by omega, h, by simp [markA, strV], World.grownBy.refl _ _⟩
    case round =>
      obtain ⟨j, cells, rfl, rfl, hj, hown, htk, hgr⟩ := hrel
      have HT : Hid (cells.take j = strV (markA k j)) := htk
      have HL : Hid (cells.length = n) := by show _ = _; have := hown.1; omega
      have HG : Hid (w.grownBy wr (some g)) := hgr
      clear htk hgr h
      by_cases hlt : j < n
      · have HTX : Hid (∀ w, Calls Try.prog 66 #[.int .i64 (k + (j : Int))] w fun e w' => e = .returned (.string (markT (k + (j : Int)))) ∧ Below w.heap.size w w') := fun w => markText_any (k + (j : Int)) w (by omega) (by omega)
        have HOW := hid hown
        clear hown
        go_wp2_with fail
        refine (HTX.out _).mono ?_
        rintro e w2 ⟨rfl, hb2⟩
        have hown2 := owns_below HOW.out hb2
        obtain ⟨u1, hu1⟩ : ∃ u, w2.cell? ⟨g, j, none⟩ = some u := by
          rw [hown2.cellAt j (by omega)]
          exact ⟨_, List.getElem?_eq_getElem (by rw [HL.out]; omega)⟩
        have f1 := hown2.frozenAt j
        have HS2 := hid (hown2.stored j (.string (markT (k + (j : Int)))))
        clear hown2
        go_wp2
        go_roundw
        case rel =>
          refine ⟨j + 1, _, by go_num, by go_num, by omega, HS2.out.1, ?_, ?_⟩
          · rw [List.take_add_one, List.take_set_of_le (by omega), HT.out, markA_succ]
            have : j < cells.length := by rw [HL.out]; exact hlt
            simp [strV, this]
          · exact ⟨HS2.out.2.os.trans (hb2.os.trans HG.out.os), HS2.out.2.tape.trans (hb2.tape.trans HG.out.tape), HS2.out.2.output.trans (hb2.output.trans HG.out.output), Nat.le_trans HG.out.size (Nat.le_trans hb2.size HS2.out.2.size), fun i hi hne => ((HS2.out.2.block i (Nat.lt_of_lt_of_le (Nat.lt_of_lt_of_le hi HG.out.size) hb2.size) hne).trans (hb2.block i (Nat.lt_of_lt_of_le hi HG.out.size))).trans (HG.out.block i hi hne)⟩
        case measure => simp [intOf]; omega
      · obtain rfl : j = n := by omega
        go_wp2
        go_ret
        refine ⟨rfl, ?_, HG.out⟩
        have h1 := HT.out
        rw [List.take_of_length_le (by rw [HL.out]; exact Nat.le_refl _)] at h1
        rw [← h1]
        exact hown
set_option maxHeartbeats 2000000 in
/-- asking for the marks -/
theorem heldStr_any (a : Option Addr) (c n : Nat) (k : Int) (w : World) (hk : 1 ≤ k) (hl : k + n ≤ 4000000) (h : ARow w a (markA k n)) :
    Calls Try.prog 41 #[.slice a n c, .int .i64 k] w fun e w' => e = .returned (.int .i64 (k + (n : Int))) ∧ Below w.heap.size w w' := by
  have H := hid h
  clear h
  go_enter Try.func41, Try.ntmps41
  go_wp2
  go_loopw [1, 5] (fun t1 t5 wr => ∃ (j : Nat), t1 = .int .i64 (k + (j : Int)) ∧ t5 = .int .i64 j ∧ j ≤ n ∧ Below w.heap.size w wr) (fun _ t5 _ => n - (intOf t5).toNat)
  case atStart => exact ⟨0, by simp, rfl, by omega, Below.refl _ _⟩
  case round =>
    obtain ⟨j, rfl, rfl, hj, hB⟩ := hrel
    by_cases hlt : j < n
    · obtain ⟨b, off, rfl, hc⟩ := H.out.resolve_left (by intro e; have := markA_length k n; rw [e] at this; simp at this; omega)
      have hc1 := hc j _ (markA_at k n j hlt)
      have hbr := World.block_lt_of_cell? w _ hc1
      have hbr' : b < wr.heap.size := Nat.lt_of_lt_of_le hbr hB.size
      have c2 := cell_below hc1 hB
      have ht := fun w => markText_any (k + (j : Int)) w (by omega) (by omega)
      generalize markT (k + (j : Int)) = s at c2 ht
      have HTX : Hid (∀ w, Calls Try.prog 66 #[.int .i64 (k + (j : Int))] w fun e w' => e = .returned (.string s) ∧ Below w.heap.size w w') := ht
      clear ht hc hc1
      go_wp2
      go_region_with (go_at_call 66; refine (HTX.out _).mono ?_; rintro e w1 ⟨rfl, hb1⟩; have c3 : w1.cell? ⟨b, off + j, none⟩ = some (.string s) := Eq.trans (hb1.cell hbr') c2)
      all_goals
        go_wp2
        go_roundw
        case rel => exact ⟨j + 1, by go_num, by go_num, by omega, bstep hB hB.size (below_of_drew hb1)⟩
        case measure => simp [intOf]; omega
    · obtain rfl : j = n := by omega
      go_wp2
      go_ret
      exact ⟨rfl, hB⟩
end Go.Proofs.Ytpjhmminbndgiaa
