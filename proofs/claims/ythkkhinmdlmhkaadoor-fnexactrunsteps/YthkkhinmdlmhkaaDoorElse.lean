/- Where a WIf goes on at 0: by the model's l5Else and by the program's otherwise. -/
import Derived.Test.YthkkhinmdlmhkaaDoorMch2
import Derived.BigQuiet
import Derived.Deep.QuietTactic
namespace Go.Proofs.YthkkhinmdlmhkaaDoor
open Go.RowKit
set_option linter.unusedVariables false
set_option linter.unusedSimpArgs false
set_option maxRecDepth 100000

theorem oth_eq {en : List Int} {k p : Nat} (he : en[k]? = some (p : Int)) : oth en k = othN en p (p - (k + 1)) (k + 1) := by unfold oth; rw [he]; simp
theorem othN_hit {e : List Int} {p : Int} {f j : Nat} (h : e[j]?.getD 0 = p) : othN e p f j = j := by
  cases f with
  | zero => rfl
  | succ f => unfold othN; rw [if_pos h]
theorem othN_miss {e : List Int} {p : Int} {f j : Nat} (h : ¬ e[j]?.getD 0 = p) : othN e p (f + 1) j = othN e p f (j + 1) := by
  conv => lhs; unfold othN
  rw [if_neg h]

set_option maxHeartbeats 4000000 in
/-- the model's l5Else -/
theorem l5Else_any (xs : List Stp) (en d : List Int) (a ea : Option Addr) (ac ec : Nat) (W : World) (k p : Nat) (hn : nestO xs = some (en, d)) (hT : TRow W a xs) (hR : Row W ea en) (hk : en[k]? = some (p : Int)) (hkp : k < p) (hp : p < xs.length) (hpk : en[p]? = some (k : Int)) :
    Calls Tryd.prog 55 #[.slice a xs.length ac, .slice ea en.length ec, .int .i64 k] W fun e W' => e = .returned (.int .i64 (if oth en k = p then 0 else oth en k)) ∧ ∃ q, W' = W.drewN q := by
  generalize hr : (if oth en k = p then (0 : Int) else (oth en k : Int)) = r
  have HRR := hid hr
  clear hr
  obtain ⟨l1, l2, l60⟩ := nestO_length hn
  obtain ⟨b, off, rfl, hat⟩ := hT.at (by intro h0; rw [h0] at hp; simp at hp)
  obtain ⟨eb', eoff, rfl, hec⟩ : ∃ eb' eoff, ea = some ⟨eb', eoff, none⟩ ∧ ∀ i v, en[i]? = some v → W.cell? ⟨eb', eoff + i, none⟩ = some (.int .i64 v) := by
    rcases hR with h0 | ⟨b1, o1, rfl, hc1⟩
    · rw [h0] at hk; simp at hk
    · exact ⟨b1, o1, rfl, fun i v hv => by have := hc1 i (List.getElem?_eq_some_iff.1 hv).1; rw [hv] at this; exact this⟩
  have HAT := hid (fun j hj => hat W (Below.refl _ _) j hj)
  have HEC := hid hec
  have ck := hec k _ hk
  have HL := hid (And.intro l1 l2)
  have hkn : k < en.length := by omega
  have HN := hid (And.intro hn (And.intro hk hpk))
  have HO := hid (oth_eq hk)
  have hel : (k : Int) < en.length := by omega
  have hp60 : p ≤ 60 := by omega
  clear hat hec l1 l2 hT hn hk hpk
  go_enter Tryd.func55, Tryd.ntmps55
  go_wp2
  go_loopw [7] (fun t wr => ∃ (j q : Nat), t = .int .i64 j ∧ k < j ∧ j ≤ p ∧ othN en p (p - (k + 1)) (k + 1) = othN en p (p - j) j ∧ wr = W.drewN q) (fun t _ => p - (intOf t).toNat)
  case atStart => exact ⟨k + 1, 0, by go_num, by omega, by omega, rfl, rfl⟩
  case round =>
    obtain ⟨j, q, rfl, hkj, hjp, ho, rfl⟩ := hrel
    have HOJ := hid ho
    clear ho
    by_cases hlt : j < p
    · obtain ⟨op, n, t, ta, tc, c1, c2, c3, hbw, hs, HR, HX⟩ := HAT.out j (by omega)
      obtain ⟨v, hv⟩ : ∃ v, en[j]? = some v := ⟨_, List.getElem?_eq_getElem (by have := HL.out.1; omega)⟩
      have cj := HEC.out j v hv
      have hjl : j < en.length := by have := HL.out.1; omega
      have hjI : (j : Int) < en.length := by omega
      have hjx : j < xs.length := by omega
      have hjxI : (j : Int) < xs.length := by omega
      by_cases hvp : v = (p : Int)
      · subst hvp
        have h18 := else_only HN.out.1 HN.out.2.2 hkj hlt HX.out hv
        simp only [] at h18
        subst h18
        have HF : Hid (oth en k = j) := by show _ = _; rw [HO.out, HOJ.out, othN_hit (by rw [hv]; rfl)]
        clear HOJ HO hv
        go_wp2
        go_quiet (fail)
        go_wp2
        go_ret
        refine ⟨ret_int2 (by rw [← HRR.out, HF.out, if_neg (by omega)]), q + nq, by simp⟩
      · have HF : Hid (othN en p (p - (k + 1)) (k + 1) = othN en p (p - (j + 1)) (j + 1)) := by
          show _ = _
          rw [HOJ.out]
          obtain ⟨f, hf⟩ : ∃ f, p - j = f + 1 := ⟨p - j - 1, by omega⟩
          rw [hf, othN_miss (by rw [hv]; exact hvp), show p - (j + 1) = f by omega]
        have hvp' : (v == (p : Int)) = false := by simpa using hvp
        clear HOJ hv
        by_cases h18 : op = 18
        · subst h18
          go_wp2
          go_quiet (fail)
          go_wp2
          go_roundw
          case rel => exact ⟨j + 1, q + nq, by go_num, by omega, by omega, HF.out, by simp⟩
          case measure => simp [intOf]; omega
        · have h18' : (op == 18) = false := by simpa using h18
          go_wp2
          go_quiet (fail)
          go_wp2
          go_roundw
          case rel => exact ⟨j + 1, q + nq, by go_num, by omega, by omega, HF.out, by simp⟩
          case measure => simp [intOf]; omega
    · obtain rfl : j = p := by omega
      have HF : Hid (oth en k = j) := by show _ = _; rw [HO.out, HOJ.out]; simp [othN]
      clear HOJ
      go_wp2
      go_ret
      exact ⟨ret_int2 (by rw [← HRR.out, HF.out, if_pos rfl]), q, rfl⟩
end Go.Proofs.YthkkhinmdlmhkaaDoor
