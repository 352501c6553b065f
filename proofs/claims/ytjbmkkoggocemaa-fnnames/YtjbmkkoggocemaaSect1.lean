/- What GoodSections of the program and of the model answer, at every list of sections. -/
import Derived.Test.YtjbmkkoggocemaaName2
import Derived.BigQuiet
import Derived.Deep.QuietTactic
import Derived.WalkSmall
namespace Go.Proofs.Ytjbmkkoggocemaa
open Go.RowKit
set_option linter.unusedVariables false
set_option linter.unusedSimpArgs false

abbrev Sec := Int × ByteArray
/-- a slice of sections that can be read -/
def SRow (w : World) (a : Option Addr) (xs : List Sec) : Prop := xs = [] ∨ ∃ b off, a = some ⟨b, off, none⟩ ∧ ∀ i, i < xs.length → ∃ x, xs[i]? = some x ∧ x.2.size ≤ 9223372036854775807 ∧ w.cell? ⟨b, off + i * 2, none⟩ = some (.int .i64 x.1) ∧ w.cell? ⟨b, off + i * 2 + 1, none⟩ = some (.string x.2)
theorem SRow.kept {w w' : World} {a : Option Addr} {xs : List Sec} (h : SRow w a xs) (hk : ∀ p : Addr, p.block < w.heap.size → w'.cell? p = w.cell? p) : SRow w' a xs := by
  rcases h with h | ⟨b, off, rfl, hc⟩
  · exact .inl h
  · refine .inr ⟨b, off, rfl, fun i hi => ?_⟩
    obtain ⟨x, h1, h2, h3, h4⟩ := hc i hi
    exact ⟨x, h1, h2, by rw [hk _ (World.block_lt_of_cell? w _ h3)]; exact h3, by rw [hk _ (World.block_lt_of_cell? w _ h4)]; exact h4⟩
theorem SRow.below {w w' : World} {a : Option Addr} {xs : List Sec} (h : SRow w a xs) (hb : Below w.heap.size w w') : SRow w' a xs := h.kept fun p hp => hb.cell hp
theorem SRow.at {w : World} {a : Option Addr} {xs : List Sec} (h : SRow w a xs) (hx : xs ≠ []) : ∃ b off, a = some ⟨b, off, none⟩ ∧ ∀ w', Below w.heap.size w w' → ∀ k, k < xs.length → ∃ i s, w'.cell? ⟨b, off + k * 2, none⟩ = some (.int .i64 i) ∧ w'.cell? ⟨b, off + k * 2 + 1, none⟩ = some (.string s) ∧ s.size ≤ 9223372036854775807 ∧ b < w.heap.size ∧ Hid (xs[k]? = some (i, s)) := by
  rcases h with h | ⟨b, off, rfl, hc⟩
  · exact absurd h hx
  · refine ⟨b, off, rfl, fun w' hb k hk => ?_⟩
    obtain ⟨⟨i, s⟩, h1, h2, h3, h4⟩ := hc k hk
    exact ⟨i, s, by rw [hb.cell (World.block_lt_of_cell? w _ h3)]; exact h3, by rw [hb.cell (World.block_lt_of_cell? w _ h4)]; exact h4, h2, World.block_lt_of_cell? w _ h3, h1⟩

/-- sections are as they should be, behind an Id -/
def goodFrom (last : Int) : List Sec → Bool
  | [] => true
  | x :: r => oneB x.1 x.2 && (x.1 == 0 || decide (last < x.1)) && goodFrom (if x.1 = 0 then last else x.1) r
def goodB (xs : List Sec) : Bool := decide (xs.length ≤ 8) && goodFrom 0 xs

theorem drop_at {xs : List Sec} {k : Nat} {x : Sec} (h : xs[k]? = some x) : xs.drop k = x :: xs.drop (k + 1) := by
  obtain ⟨hk, rfl⟩ := List.getElem?_eq_some_iff.1 h
  exact List.drop_eq_getElem_cons hk
theorem gf_bad {last i : Int} {s : ByteArray} {r : List Sec} (h : oneB i s = false) : goodFrom last ((i, s) :: r) = false := by simp [goodFrom, h]
theorem gf_low {last i : Int} {s : ByteArray} {r : List Sec} (h0 : i ≠ 0) (h : i ≤ last) : goodFrom last ((i, s) :: r) = false := by
  have : decide (last < i) = false := by simp; omega
  simp [goodFrom, h0, this]
theorem gf_custom {last : Int} {s : ByteArray} {r : List Sec} (h : oneB 0 s = true) : goodFrom last ((0, s) :: r) = goodFrom last r := by simp [goodFrom, h]
theorem gf_next {last i : Int} {s : ByteArray} {r : List Sec} (h : oneB i s = true) (h0 : i ≠ 0) (hl : last < i) : goodFrom last ((i, s) :: r) = goodFrom i r := by simp [goodFrom, h, h0, hl]
theorem one_above {i : Int} {s : ByteArray} (h : 11 < i) : oneB i s = false := by
  have : inB 0 11 i = false := by unfold inB; simp; omega
  simp [oneB, this]
theorem one_long {i : Int} {s : ByteArray} (h : ¬ s.size ≤ 200) : oneB i s = false := by simp [oneB, h]
theorem one_zero {s : ByteArray} (h : s.size ≤ 200) : oneB 0 s = (nameI 0 s).isSome := by
  rw [nameI_in h]
  have : inB 0 11 (0 : Int) = true := by decide
  simp [oneB, this, h]
theorem one_yes {i : Int} {s : ByteArray} (h1 : 1 ≤ i) (h2 : i ≤ 11) (h : s.size ≤ 200) : oneB i s = true := by
  have : inB 0 11 i = true := by unfold inB; simp; omega
  have h3 : (i != 0) = true := by simp; omega
  simp [oneB, this, h3, h]

set_option maxHeartbeats 1000000 in
set_option maxRecDepth 100000 in
/-- the program's GoodSections -/
theorem iGood_any (a : Option Addr) (c : Nat) (xs : List Sec) (w : World) (hl : xs.length ≤ 9223372036854775807) (h : SRow w a xs) :
    Calls Try.prog 26 #[.slice a xs.length c] w fun e w' => e = .returned (.bool (goodB xs)) ∧ Below w.heap.size w w' := by
  by_cases h8 : xs.length ≤ 8
  · have hgd : goodB xs = goodFrom 0 xs := by simp [goodB, h8]
    rw [hgd]
    clear hgd
    by_cases hx : xs = []
    · subst hx
      clear h
      go_enter Try.func26, Try.ntmps26
      go_wp2
      go_loopw [3, 13] (fun t3 t wr => t3 = .int .i64 0 ∧ t = .int .i64 0 ∧ wr = w) (fun _ t _ => 0)
      case atStart => exact ⟨rfl, rfl, rfl⟩
      case round =>
        obtain ⟨rfl, rfl, rfl⟩ := hrel
        go_wp2
        go_ret
        exact ⟨rfl, Below.refl _ _⟩
    · obtain ⟨b, off, rfl, hat⟩ := h.at hx
      have HA : Hid (_) := hat
      clear hat hx h
      go_enter Try.func26, Try.ntmps26
      go_wp2
      go_loopw [3, 13] (fun t3 t wr => ∃ (last : Int) (k : Nat), t3 = .int .i64 last ∧ t = .int .i64 k ∧ 0 ≤ last ∧ k ≤ xs.length ∧ goodFrom 0 xs = goodFrom last (xs.drop k) ∧ Below w.heap.size w wr) (fun _ t _ => xs.length - (intOf t).toNat)
      case atStart => exact ⟨0, 0, rfl, rfl, by omega, by omega, rfl, Below.refl _ _⟩
      case round =>
        obtain ⟨last, k, rfl, rfl, hl0, hk, hg, hB⟩ := hrel
        have HG : Hid (goodFrom 0 xs = goodFrom last (xs.drop k)) := hg
        clear hg
        by_cases hlt : k < xs.length
        · obtain ⟨i, s, c1, c2, hs, hbw, HX⟩ := HA.out wr hB k hlt
          have HD : Hid (goodFrom 0 xs = goodFrom last ((i, s) :: xs.drop (k + 1))) := by show _ = _; rw [HG.out, drop_at HX.out]
          have hbr : b < wr.heap.size := Nat.lt_of_lt_of_le hbw hB.size
          have hBa : Below w.heap.size w (wr.alloc (.cells #[.int .i64 i, .string s] 31)) := hB.alloc hB.size _
          by_cases h11 : 11 < i
          · have HF : Hid (goodFrom 0 xs = false) := by show _ = _; rw [HD.out, gf_bad (one_above h11)]
            go_wp2
            go_ret
            exact ⟨by rw [HF.out]; rfl, hBa⟩
          · by_cases h2 : s.size ≤ 200
            · by_cases hi : i = 0
              · subst hi
                have hn := fun w => iNameOf_any 0 s w (by omega)
                have ho := one_zero h2
                cases hv : nameI 0 s with
                | none =>
                  rw [hv] at hn ho
                  have HN : Hid (∀ w, Calls Try.prog 18 #[.agg #[.int .i64 0, .string s]] w fun e w' => e = .returned (nameV none) ∧ Below w.heap.size w w') := hn
                  have HF : Hid (goodFrom 0 xs = false) := by show _ = _; rw [HD.out, gf_bad ho]
                  clear hn ho hv
                  go_wp2_with (go_at_call 18; refine (HN.out _).mono ?_; rintro e w1 ⟨rfl, hb1⟩; simp only [nameV])
                  go_ret
                  exact ⟨by rw [HF.out]; rfl, bstep hBa (Nat.le_refl _) hb1⟩
                | some t =>
                  rw [hv] at hn ho
                  have HN : Hid (∀ w, Calls Try.prog 18 #[.agg #[.int .i64 0, .string s]] w fun e w' => e = .returned (nameV (some t)) ∧ Below w.heap.size w w') := hn
                  have HF : Hid (goodFrom 0 xs = goodFrom last (xs.drop (k + 1))) := by show _ = _; rw [HD.out, gf_custom ho]
                  clear hn ho hv
                  go_wp2_with (go_at_call 18; refine (HN.out _).mono ?_; rintro e w1 ⟨rfl, hb1⟩; simp only [nameV])
                  go_roundw
                  case rel => exact ⟨last, k + 1, rfl, by go_num, hl0, by omega, HF.out, bstep hBa (Nat.le_refl _) hb1⟩
                  case measure => simp [intOf]; omega
              · by_cases hlo : i ≤ last
                · have HF : Hid (goodFrom 0 xs = false) := by show _ = _; rw [HD.out, gf_low hi hlo]
                  go_wp2
                  go_ret
                  exact ⟨by rw [HF.out]; rfl, hBa⟩
                · have HF : Hid (goodFrom 0 xs = goodFrom i (xs.drop (k + 1))) := by show _ = _; rw [HD.out, gf_next (one_yes (by omega) (by omega) h2) hi (by omega)]
                  go_wp2
                  go_roundw
                  case rel => exact ⟨i, k + 1, rfl, by go_num, by omega, by omega, HF.out, hBa⟩
                  case measure => simp [intOf]; omega
            · have HF : Hid (goodFrom 0 xs = false) := by show _ = _; rw [HD.out, gf_bad (one_long h2)]
              go_wp2
              go_ret
              exact ⟨by rw [HF.out]; rfl, hBa⟩
        · obtain rfl : k = xs.length := by omega
          have HF : Hid (goodFrom 0 xs = true) := by show _ = _; rw [HG.out]; simp [goodFrom]
          go_wp2
          go_ret
          exact ⟨by rw [HF.out]; rfl, hB⟩
  · have hgd : goodB xs = false := by simp [goodB, h8]
    rw [hgd]
    clear h hgd
    go_enter Try.func26, Try.ntmps26
    go_wp2
    go_ret
    exact ⟨rfl, Below.refl _ _⟩
end Go.Proofs.Ytjbmkkoggocemaa
