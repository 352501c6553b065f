/- To what a text comes, as the model makes it; what the model's OnceBy, NormalOf, LastOf and JoinedBy tell. -/
import Derived.Test.YtpjhmminbndgiaaOnce
namespace Go.Proofs.Ytpjhmminbndgiaa
open Go.RowKit
set_option linter.unusedVariables false
set_option linter.unusedSimpArgs false
set_option maxHeartbeats 4000000
set_option maxRecDepth 100000

/-- a slice of texts that can be read -/
def TRow (w : World) (a : Option Addr) (l : List Tx) : Prop := l = [] ∨ ∃ b off, a = some ⟨b, off, none⟩ ∧ ∀ (i : Nat) x, l[i]? = some x → w.cell? ⟨b, off + i, none⟩ = some (.string (Sb x))
theorem TRow.of_owned {w : World} {B n : Nat} {v : Value} {l : List Tx} (h : w.ownsRow B 9 1 v n (strs l)) (hn : n = l.length) : ∃ a cap, v = .slice a l.length cap ∧ TRow w a l := by
  subst hn
  rcases h.2 with ⟨rfl, h0⟩ | ⟨g, cap, cur, rfl, hB, hg, hn, hm, hsz, htk⟩
  · rw [h0]
    exact ⟨none, 0, rfl, .inl (List.eq_nil_of_length_eq_zero h0)⟩
  · refine ⟨_, cap, rfl, .inr ⟨g, 0, rfl, fun i x hi => ?_⟩⟩
    have hil := (List.getElem?_eq_some_iff.1 hi).1
    rw [Nat.zero_add, h.cellAt _ (by omega)]
    simp [strs, hi]
theorem TRow.below {w w' : World} {a : Option Addr} {l : List Tx} (h : TRow w a l) (hb : Below w.heap.size w w') : TRow w' a l := by
  rcases h with h | ⟨b, off, rfl, hc⟩
  · exact .inl h
  · refine .inr ⟨b, off, rfl, fun i x hi => ?_⟩
    exact cell_below (hc i x hi) hb
/-- an end, and how often; or none -/
def endV : Option (Tx × Nat) → Value
  | some (t, n) => .tuple #[.string (Sb t), .int .i64 n, .bool true]
  | none => .tuple #[.string ⟨#[]⟩, .int .i64 0, .bool false]
def plusB (n : Nat) (o : Option (Tx × Nat)) : Option (Tx × Nat) := o.map fun x => (x.1, x.2 + n)
theorem plusB_plusB (m n : Nat) (o : Option (Tx × Nat)) : plusB m (plusB n o) = plusB (n + m) o := by cases o <;> simp [plusB, Nat.add_assoc]
/-- where one stands behind n times -/
def Stands (last : Bool) (l : List Rl) (s u : Tx) (n : Nat) : Prop := (n ≤ 400 → normB last l 400 s = plusB n (normB last l (400 - n) u)) ∧ (400 < n → normB last l 400 s = none)
theorem stands_start (last : Bool) (l : List Rl) (s : Tx) : Stands last l s s 0 := ⟨fun _ => by cases h : normB last l 400 s <;> simp [plusB, h], fun h => by omega⟩
theorem stands_end {last : Bool} {l : List Rl} {s u : Tx} {n : Nat} (h : Stands last l s u n) (hn : n ≤ 400) (h0 : once l u = []) : normB last l 400 s = some (u, n) := by
  rw [h.1 hn, norm_step]
  have : pickB last (once l u) = none := by rw [h0]; cases last <;> rfl
  rw [this]
  simp [plusB]
theorem stands_step {last : Bool} {l : List Rl} {s u v : Tx} {n : Nat} (h : Stands last l s u n) (hn : n ≤ 400) (hv : pickB last (once l u) = some v) : Stands last l s v (n + 1) := by
  have h1 := h.1 hn
  rw [norm_step last l (400 - n) u, hv] at h1
  refine ⟨fun hn1 => ?_, fun hn1 => ?_⟩
  · obtain ⟨m, hm⟩ : ∃ m, 400 - n = m + 1 := ⟨400 - n - 1, by omega⟩
    have e : 400 - (n + 1) = m := by omega
    rw [hm] at h1
    rw [h1, e]
    show plusB n (plusB 1 _) = _
    rw [plusB_plusB, Nat.add_comm]
  · have e : 400 - n = 0 := by omega
    rw [e] at h1
    rw [h1]; rfl
theorem pick_len {last : Bool} {l : List Rl} {u v : Tx} (hg : rulesB l = true) (hv : pickB last (once l u) = some v) : v.length ≤ u.length := by
  have := once_sl hg (pick_mem hv)
  simp only [slB, Bool.or_eq_true, Bool.and_eq_true, decide_eq_true_eq] at this
  omega
theorem sNormal_any (a : Option Addr) (c : Nat) (xs : List RB) (s : ByteArray) (last : Bool) (w : World) (hg : rulesB (Rs xs) = true) (hss : s.size ≤ 1000) (h : RRow w a xs) :
    Calls Try.prog 49 #[.slice a xs.length c, .string s, .bool last] w fun e w' => e = .returned (endV (normB last (Rs xs) 400 (Bt s))) ∧ Below w.heap.size w w' := by
  have hx8 := good_len hg
  have H := hid h
  clear h
  go_enter Try.func49, Try.ntmps49
  go_wp2
  go_loopw [1, 9] (fun t1 t9 wr => ∃ (n : Nat) (u : ByteArray), t9 = .int .i64 n ∧ t1 = .string u ∧ n ≤ 401 ∧ u.size ≤ 1000 ∧ Stands last (Rs xs) (Bt s) (Bt u) n ∧ Below w.heap.size w wr) (fun _ t9 _ => 401 - (intOf t9).toNat)
  case atStart => exact ⟨0, s, rfl, rfl, by omega, hss, stands_start _ _ _, Below.refl _ _⟩
  case round =>
    obtain ⟨n, u, rfl, rfl, hn, hu, hst, hB⟩ := hrel
    have HST := hid hst
    clear hst
    by_cases hlt : n ≤ 400
    · go_wp2_with fail
      refine (sOnce_any a c xs u _ hg hu (H.out.below hB)).mono ?_
      rintro e w1 ⟨v, rfl, ho, hb1⟩
      have hB1 := bstep' hB hb1
      obtain ⟨ya, yc, rfl, hy⟩ := TRow.of_owned ho rfl
      have hol := own_len ho
      clear ho
      cases hO : once (Rs xs) (Bt u) with
      | nil =>
        rw [hO] at hy
        have HE := hid (stands_end HST.out hlt hO)
        go_wp2
        refine bodyPost_ret (v := .tuple #[.string u, .int .i64 n, .bool true]) (by simp [results, Try.results49, go_sem]) rfl ⟨?_, hB1⟩
        rw [HE.out]
        simp [endV, Sb_Bt]
      | cons y r =>
        obtain ⟨z, hz⟩ : ∃ z, pickB last (once (Rs xs) (Bt u)) = some z := by
          rw [hO]; cases last
          · exact ⟨y, rfl⟩
          · exact ⟨_, List.getLast?_cons⟩
        have HS2 := hid (stands_step HST.out hlt hz)
        have hzl : (Sb z).size ≤ 1000 := by
          have := pick_len hg hz
          rw [Bt_size, Bt_Sb]
          rw [Bt_size] at hu
          omega
        rw [hO] at hy
        obtain ⟨b, off, rfl, hc⟩ := hy.resolve_left (by simp)
        have hlen : (y :: r).length = r.length + 1 := rfl
        rw [hO, hlen] at hol
        have hwr : wrap64 (r.length : Int) = (r.length : Int) := by unfold wrap64; omega
        have hc0 : w1.cell? ⟨b, off, none⟩ = some (.string (Sb y)) := hc 0 y rfl
        cases last with
        | false =>
          obtain rfl : y = z := by rw [hO] at hz; simpa [pickB] using hz
          clear hc hz hO
          go_wp2
          go_roundw
          case rel => exact ⟨n + 1, Sb y, by go_num, rfl, by omega, hzl, by rw [Bt_Sb]; exact HS2.out, hB1⟩
          case measure => simp [intOf]; omega
        | true =>
          have hl : (y :: r)[r.length]? = some z := by
            rw [hO] at hz
            simp only [pickB, if_true] at hz
            rw [List.getLast?_eq_getElem?] at hz
            simpa using hz
          have hcl : w1.cell? ⟨b, off + r.length, none⟩ = some (.string (Sb z)) := hc r.length z hl
          clear hc hz hO hl
          go_wp2
          go_roundw
          case rel => exact ⟨n + 1, Sb z, by go_num, rfl, by omega, hzl, by rw [Bt_Sb]; exact HS2.out, hB1⟩
          case measure => simp [intOf]; omega
    · obtain rfl : n = 401 := by omega
      have HE := hid (HST.out.2 (by omega))
      go_wp2
      refine bodyPost_ret (v := .tuple #[.string ⟨#[]⟩, .int .i64 0, .bool false]) (by simp [results, Try.results49, go_sem]) rfl ⟨?_, hB⟩
      rw [HE.out]
      rfl
theorem ok_size {n : Nat} {s : ByteArray} (h : okB n (Bt s) = true) : s.size ≤ n := by
  simp only [okB, Bool.and_eq_true, decide_eq_true_eq] at h
  rw [Bt_size]; exact h.1
/-- what OnceBy tells -/
def onceBy (xs : List RB) (s : ByteArray) : List Tx := if rulesB (Rs xs) && okB 40 (Bt s) then once (Rs xs) (Bt s) else []
def normOf (last : Bool) (xs : List RB) (s : ByteArray) : Option (Tx × Nat) := if rulesB (Rs xs) && okB 40 (Bt s) then normB last (Rs xs) 400 (Bt s) else none
def lastV : Option (Tx × Nat) → Value
  | some (t, _) => .tuple #[.string (Sb t), .bool true]
  | none => .tuple #[.string ⟨#[]⟩, .bool false]
def joinV : Option (Tx × Nat) → Option (Tx × Nat) → Bool × Bool
  | some (x, _), some (y, _) => (decide (x = y), true)
  | _, _ => (false, false)
theorem sOnceBy_any (a : Option Addr) (c : Nat) (xs : List RB) (s : ByteArray) (w : World) (hl : xs.length ≤ 9223372036854775807) (hs : ∀ x ∈ xs, Short x) (hz : s.size ≤ 9223372036854775807) (h : RRow w a xs) :
    Calls Try.prog 31 #[.slice a xs.length c, .string s] w fun e w' => (∃ v, e = .returned (.tuple #[v, .bool (rulesB (Rs xs) && okB 40 (Bt s))]) ∧ w'.ownsRow w.heap.size 9 1 v (onceBy xs s).length (strs (onceBy xs s))) ∧ Below w.heap.size w w' := by
  cases hg : rulesB (Rs xs) with
  | false =>
    have e : onceBy xs s = [] := by simp [onceBy, hg]
    rw [e, Bool.false_and]
    go_enter Try.func31, Try.ntmps31
    go_wp2_with fail
    refine (sGood_any a c xs _ hl hs h).mono ?_
    rintro e w1 ⟨rfl, hb1⟩
    rw [hg]
    go_wp2
    go_ret2
    exact ⟨⟨_, rfl, World.ownsRow_nil _ _ _ _⟩, hb1⟩
  | true =>
    cases ho : okB 40 (Bt s) with
    | false =>
      have e : onceBy xs s = [] := by simp [onceBy, hg, ho]
      rw [e]
      go_enter Try.func31, Try.ntmps31
      go_wp2_with fail
      refine (sGood_any a c xs _ hl hs h).mono ?_
      rintro e w1 ⟨rfl, hb1⟩
      rw [hg]
      go_wp2_with fail
      refine (sText_any s 40 _ hz (by omega)).mono ?_
      rintro e w2 ⟨rfl, rfl⟩
      rw [ho]
      go_wp2
      go_ret2
      exact ⟨⟨_, rfl, World.ownsRow_nil _ _ _ _⟩, hb1⟩
    | true =>
      have e : onceBy xs s = once (Rs xs) (Bt s) := by simp [onceBy, hg, ho]
      rw [e]
      have hz40 := ok_size ho
      go_enter Try.func31, Try.ntmps31
      go_wp2_with fail
      refine (sGood_any a c xs _ hl hs h).mono ?_
      rintro e w1 ⟨rfl, hb1⟩
      rw [hg]
      go_wp2_with fail
      refine (sText_any s 40 _ hz (by omega)).mono ?_
      rintro e w2 ⟨rfl, rfl⟩
      rw [ho]
      go_wp2_with fail
      refine (sOnce_any a c xs s _ hg (by omega) (h.below hb1)).mono ?_
      rintro e w3 ⟨v, rfl, ho3, hb3⟩
      have HO := hid ho3
      clear ho3
      go_wp2
      go_ret2
      exact ⟨⟨_, rfl, owns_mono HO.out hb1.size⟩, bstep' hb1 hb3⟩
theorem sNormalOf_any (a : Option Addr) (c : Nat) (xs : List RB) (s : ByteArray) (w : World) (hl : xs.length ≤ 9223372036854775807) (hs : ∀ x ∈ xs, Short x) (hz : s.size ≤ 9223372036854775807) (h : RRow w a xs) :
    Calls Try.prog 15 #[.slice a xs.length c, .string s] w fun e w' => e = .returned (endV (normOf false xs s)) ∧ Below w.heap.size w w' := by
  cases hg : rulesB (Rs xs) with
  | false =>
    have e : normOf false xs s = none := by simp [normOf, hg]
    rw [e]
    go_enter Try.func15, Try.ntmps15
    go_wp2_with fail
    refine (sGood_any a c xs _ hl hs h).mono ?_
    rintro e w1 ⟨rfl, hb1⟩
    rw [hg]
    go_wp2
    refine bodyPost_ret (v := .tuple #[.string ⟨#[]⟩, .int .i64 0, .bool false]) (by simp [results, Try.results15, go_sem]) rfl ⟨rfl, hb1⟩
  | true =>
    cases ho : okB 40 (Bt s) with
    | false =>
      have e : normOf false xs s = none := by simp [normOf, hg, ho]
      rw [e]
      go_enter Try.func15, Try.ntmps15
      go_wp2_with fail
      refine (sGood_any a c xs _ hl hs h).mono ?_
      rintro e w1 ⟨rfl, hb1⟩
      rw [hg]
      go_wp2_with fail
      refine (sText_any s 40 _ hz (by omega)).mono ?_
      rintro e w2 ⟨rfl, rfl⟩
      rw [ho]
      go_wp2
      refine bodyPost_ret (v := .tuple #[.string ⟨#[]⟩, .int .i64 0, .bool false]) (by simp [results, Try.results15, go_sem]) rfl ⟨rfl, hb1⟩
    | true =>
      have e : normOf false xs s = normB false (Rs xs) 400 (Bt s) := by simp [normOf, hg, ho]
      rw [e]
      have hz40 := ok_size ho
      cases hn : normB false (Rs xs) 400 (Bt s) with
      | none =>
        go_enter Try.func15, Try.ntmps15
        go_wp2_with fail
        refine (sGood_any a c xs _ hl hs h).mono ?_
        rintro e w1 ⟨rfl, hb1⟩
        rw [hg]
        go_wp2_with fail
        refine (sText_any s 40 _ hz (by omega)).mono ?_
        rintro e w2 ⟨rfl, rfl⟩
        rw [ho]
        go_wp2_with fail
        refine (sNormal_any a c xs s false _ hg (by omega) (h.below hb1)).mono ?_
        rintro e w3 ⟨rfl, hb3⟩
        have B3 := bstep' hb1 hb3
        rw [hn]
        simp only [endV]
        go_wp2
        refine bodyPost_ret (v := .tuple #[.string ⟨#[]⟩, .int .i64 0, .bool false]) (by simp [results, Try.results15, go_sem]) rfl ⟨rfl, B3⟩
      | some y =>
        obtain ⟨t, n⟩ := y
        go_enter Try.func15, Try.ntmps15
        go_wp2_with fail
        refine (sGood_any a c xs _ hl hs h).mono ?_
        rintro e w1 ⟨rfl, hb1⟩
        rw [hg]
        go_wp2_with fail
        refine (sText_any s 40 _ hz (by omega)).mono ?_
        rintro e w2 ⟨rfl, rfl⟩
        rw [ho]
        go_wp2_with fail
        refine (sNormal_any a c xs s false _ hg (by omega) (h.below hb1)).mono ?_
        rintro e w3 ⟨rfl, hb3⟩
        have B3 := bstep' hb1 hb3
        rw [hn]
        simp only [endV]
        go_wp2
        refine bodyPost_ret (v := .tuple #[.string (Sb t), .int .i64 n, .bool true]) (by simp [results, Try.results15, go_sem]) rfl ⟨rfl, B3⟩
theorem sLastOf_any (a : Option Addr) (c : Nat) (xs : List RB) (s : ByteArray) (w : World) (hl : xs.length ≤ 9223372036854775807) (hs : ∀ x ∈ xs, Short x) (hz : s.size ≤ 9223372036854775807) (h : RRow w a xs) :
    Calls Try.prog 17 #[.slice a xs.length c, .string s] w fun e w' => e = .returned (lastV (normOf true xs s)) ∧ Below w.heap.size w w' := by
  cases hg : rulesB (Rs xs) with
  | false =>
    have e : normOf true xs s = none := by simp [normOf, hg]
    rw [e]
    go_enter Try.func17, Try.ntmps17
    go_wp2_with fail
    refine (sGood_any a c xs _ hl hs h).mono ?_
    rintro e w1 ⟨rfl, hb1⟩
    rw [hg]
    go_wp2
    go_ret2
    exact ⟨rfl, hb1⟩
  | true =>
    cases ho : okB 40 (Bt s) with
    | false =>
      have e : normOf true xs s = none := by simp [normOf, hg, ho]
      rw [e]
      go_enter Try.func17, Try.ntmps17
      go_wp2_with fail
      refine (sGood_any a c xs _ hl hs h).mono ?_
      rintro e w1 ⟨rfl, hb1⟩
      rw [hg]
      go_wp2_with fail
      refine (sText_any s 40 _ hz (by omega)).mono ?_
      rintro e w2 ⟨rfl, rfl⟩
      rw [ho]
      go_wp2
      go_ret2
      exact ⟨rfl, hb1⟩
    | true =>
      have e : normOf true xs s = normB true (Rs xs) 400 (Bt s) := by simp [normOf, hg, ho]
      rw [e]
      have hz40 := ok_size ho
      cases hn : normB true (Rs xs) 400 (Bt s) with
      | none =>
        go_enter Try.func17, Try.ntmps17
        go_wp2_with fail
        refine (sGood_any a c xs _ hl hs h).mono ?_
        rintro e w1 ⟨rfl, hb1⟩
        rw [hg]
        go_wp2_with fail
        refine (sText_any s 40 _ hz (by omega)).mono ?_
        rintro e w2 ⟨rfl, rfl⟩
        rw [ho]
        go_wp2_with fail
        refine (sNormal_any a c xs s true _ hg (by omega) (h.below hb1)).mono ?_
        rintro e w3 ⟨rfl, hb3⟩
        have B3 := bstep' hb1 hb3
        rw [hn]
        simp only [endV]
        go_wp2
        go_ret2
        exact ⟨rfl, B3⟩
      | some y =>
        obtain ⟨t, n⟩ := y
        go_enter Try.func17, Try.ntmps17
        go_wp2_with fail
        refine (sGood_any a c xs _ hl hs h).mono ?_
        rintro e w1 ⟨rfl, hb1⟩
        rw [hg]
        go_wp2_with fail
        refine (sText_any s 40 _ hz (by omega)).mono ?_
        rintro e w2 ⟨rfl, rfl⟩
        rw [ho]
        go_wp2_with fail
        refine (sNormal_any a c xs s true _ hg (by omega) (h.below hb1)).mono ?_
        rintro e w3 ⟨rfl, hb3⟩
        have B3 := bstep' hb1 hb3
        rw [hn]
        simp only [endV]
        go_wp2
        go_ret2
        exact ⟨rfl, B3⟩
theorem sJoinedBy_any (a : Option Addr) (c : Nat) (xs : List RB) (s t : ByteArray) (w : World) (hl : xs.length ≤ 9223372036854775807) (hs : ∀ x ∈ xs, Short x) (hz : s.size ≤ 9223372036854775807) (ht : t.size ≤ 9223372036854775807) (h : RRow w a xs) :
    Calls Try.prog 25 #[.slice a xs.length c, .string s, .string t] w fun e w' => e = .returned (.tuple #[.bool (joinV (normOf false xs s) (normOf false xs t)).1, .bool (joinV (normOf false xs s) (normOf false xs t)).2]) ∧ Below w.heap.size w w' := by
  cases h1 : normOf false xs s with
  | none =>
    cases h2 : normOf false xs t with
    | none =>
      go_enter Try.func25, Try.ntmps25
      go_wp2_with fail
      refine (sNormalOf_any a c xs s _ hl hs hz h).mono ?_
      rintro e w1 ⟨rfl, hb1⟩
      rw [h1]
      simp only [endV]
      go_wp2_with fail
      refine (sNormalOf_any a c xs t _ hl hs ht (h.below hb1)).mono ?_
      rintro e w2 ⟨rfl, hb2⟩
      have B2 := bstep' hb1 hb2
      rw [h2]
      simp only [endV]
      go_wp2
      go_ret2
      exact ⟨rfl, B2⟩
    | some y =>
      obtain ⟨y, m⟩ := y
      go_enter Try.func25, Try.ntmps25
      go_wp2_with fail
      refine (sNormalOf_any a c xs s _ hl hs hz h).mono ?_
      rintro e w1 ⟨rfl, hb1⟩
      rw [h1]
      simp only [endV]
      go_wp2_with fail
      refine (sNormalOf_any a c xs t _ hl hs ht (h.below hb1)).mono ?_
      rintro e w2 ⟨rfl, hb2⟩
      have B2 := bstep' hb1 hb2
      rw [h2]
      simp only [endV]
      go_wp2
      go_ret2
      exact ⟨rfl, B2⟩
  | some x =>
    obtain ⟨x, n⟩ := x
    cases h2 : normOf false xs t with
    | none =>
      go_enter Try.func25, Try.ntmps25
      go_wp2_with fail
      refine (sNormalOf_any a c xs s _ hl hs hz h).mono ?_
      rintro e w1 ⟨rfl, hb1⟩
      rw [h1]
      simp only [endV]
      go_wp2_with fail
      refine (sNormalOf_any a c xs t _ hl hs ht (h.below hb1)).mono ?_
      rintro e w2 ⟨rfl, hb2⟩
      have B2 := bstep' hb1 hb2
      rw [h2]
      simp only [endV]
      go_wp2
      go_ret2
      exact ⟨rfl, B2⟩
    | some y =>
      obtain ⟨y, m⟩ := y
      go_enter Try.func25, Try.ntmps25
      go_wp2_with fail
      refine (sNormalOf_any a c xs s _ hl hs hz h).mono ?_
      rintro e w1 ⟨rfl, hb1⟩
      rw [h1]
      simp only [endV]
      go_wp2_with fail
      refine (sNormalOf_any a c xs t _ hl hs ht (h.below hb1)).mono ?_
      rintro e w2 ⟨rfl, hb2⟩
      have B2 := bstep' hb1 hb2
      rw [h2]
      simp only [endV]
      go_wp2
      go_ret2
      refine ⟨?_, B2⟩
      simp only [joinV]
      have := eq_text (Sb x) (Sb y)
      rw [Bt_Sb, Bt_Sb] at this
      rw [← this] <;> rfl
end Go.Proofs.Ytpjhmminbndgiaa
