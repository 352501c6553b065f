/- What the model's StepText answers, at every step. -/
import Derived.Test.YtkdabjdobpdooaaDoorText1
import Derived.Deep.RegionHeld
namespace Go.Proofs.YtkdabjdobpdooaaDoor
open Go.RowKit
set_option linter.unusedVariables false
set_option linter.unusedSimpArgs false
set_option maxRecDepth 100000

theorem num_any (n : Int) (h0 : 0 ≤ n) (h1 : n ≤ 65535) (w : World) : Calls Tryd.prog 72 #[.int .i64 n] w fun e w' => e = .returned (.string ⟨(numJ n).toArray⟩) ∧ Below w.heap.size w w' := by
  have := l1Num_any n.toNat w (by omega)
  rwa [Int.toNat_of_nonneg h0] at this

/-- the words of a step's first numbers -/
def accT (t : List Int) (j : Nat) : List UInt8 := wordL 22 ++ tailJ ((t.take j).map numJ)
theorem accT_succ {t : List Int} {j : Nat} {x : Int} (h : t[j]? = some x) : accT t (j + 1) = accT t j ++ ([32] ++ numJ x) := by
  unfold accT
  rw [List.take_add_one, h, List.map_append]
  simp [tailJ]
theorem accT_len {t : List Int} (h : ∀ x ∈ t, 0 ≤ x ∧ x ≤ 65535) (j : Nat) (h4 : t.length ≤ 4) : (accT t j).length ≤ 29 := by
  unfold accT
  have h1 := wordL_len 22
  have h2 := tailJ_len5 ((t.take j).map numJ) (fun x hx => by
    obtain ⟨y, hy, rfl⟩ := List.mem_map.1 hx
    have := h y (List.mem_of_mem_take hy)
    exact numJ_len this.1 this.2)
  rw [List.length_map, List.length_take] at h2
  rw [List.length_append]
  omega
theorem textL_table (n : Int) (t : List Int) : textL (22, n, t) = accT t t.length ++ ([32] ++ numJ n) := by
  unfold textL numsL accT
  have : hasN 22 = true := by decide
  simp [this, tailJ]

set_option maxHeartbeats 4000000 in
/-- the model's StepText -/
theorem sText_any (p n : Int) (t : List Int) (ta : Option Addr) (tc : Nat) (w : World) (hl : t.length ≤ 9223372036854775807) (hR : Row w ta t) :
    Calls Tryd.prog 30 #[.agg #[.int .i64 p, .int .i64 n, .slice ta t.length tc]] w fun e w' => e = .returned (textV (p, n, t)) ∧ Below w.heap.size w w' := by
  have HR : Hid (Row w ta t) := hR
  have hon := fun w h => l3One_any p n t ta tc w hl h
  have Ba := below1 w (.cells #[.int .i64 p, .int .i64 n, .slice ta t.length tc] 36)
  have HBa : Hid (_) := Ba
  clear Ba hR
  cases hO : oneS (p, n, t) with
  | false =>
    rw [hO] at hon
    rw [textV_no hO]
    have HO : Hid (_) := hon
    clear hon hO
    go_enter Tryd.func30, Tryd.ntmps30
    go_wp2_with fail
    refine (HO.out _ (HR.out.below HBa.out)).mono ?_
    rintro e w1 ⟨rfl, hb1⟩
    go_wp2
    go_ret2
    exact ⟨rfl, bstep' HBa.out hb1⟩
  | true =>
    rw [hO] at hon
    rw [textV_yes hO]
    have HO : Hid (∀ w, Row w ta t → Calls Tryd.prog 70 #[.agg #[.int .i64 p, .int .i64 n, .slice ta t.length tc]] w fun e w' => e = .returned (.bool true) ∧ Below w.heap.size w w') := hon
    obtain ⟨hop, hn0, hn1, ht4, hu⟩ := oneS_parts hO
    have hpb : 1 ≤ p ∧ p ≤ 22 := by simpa [isOpB] using hop
    obtain ⟨k, rfl⟩ := Int.eq_ofNat_of_zero_le (show 0 ≤ p by omega)
    have HTB := oneS_table hO
    have HNM : Hid (∀ w, Calls Tryd.prog 72 #[.int .i64 n] w fun e w' => e = .returned (.string ⟨(numJ n).toArray⟩) ∧ Below w.heap.size w w') := fun w => num_any n hn0 hn1 w
    have hnl := numJ_len hn0 hn1
    have hwl := wordL_len k
    have hhn := fun w => l3HasN_any (k : Int) w
    have HWD : Hid (∀ w, Calls Tryd.prog 71 #[] w fun e w' => (∃ g, e = .returned (.slice (some ⟨g, 0, none⟩) 23 23) ∧ ∀ k, k < 23 → w'.cell? ⟨g, k, none⟩ = some (.string ⟨(wordL k).toArray⟩)) ∧ Below w.heap.size w w') := words_any
    clear hon hO hop hu
    rcases HTB with ⟨h22, ht1, htn⟩ | ⟨h22, rfl⟩
    · obtain rfl : k = 22 := by omega
      have htx := textL_table n t
      have HTX : Hid (textL (((22 : Nat) : Int), n, t) = accT t t.length ++ ([32] ++ numJ n)) := htx
      rw [HTX.out]
      have hN : hasN ((22 : Nat) : Int) = true := by decide
      rw [hN] at hhn
      have HTN : Hid (∀ x ∈ t, 0 ≤ x ∧ x ≤ 65535) := htn
      obtain ⟨b, off, rfl, hcell⟩ : ∃ b off, ta = some ⟨b, off, none⟩ ∧ ∀ i, i < t.length → w.cell? ⟨b, off + i, none⟩ = some (.int .i64 (t[i]?.getD 0)) := by
        rcases HR.out with h | ⟨b, off, h, hc⟩
        · rw [h] at ht1; simp at ht1
        · exact ⟨b, off, h, hc⟩
      have HC : Hid (_) := hcell
      generalize numJ n = nb at HNM hnl HTX ⊢
      generalize hwk : wordL 22 = wk at hwl
      have HWK : Hid (wordL 22 = wk) := hwk
      clear htx hwk hN hcell htn
      go_enter Tryd.func30, Tryd.ntmps30
      go_wp2_with fail
      refine (HO.out _ (HR.out.below HBa.out)).mono ?_
      rintro e w1 ⟨rfl, hb1⟩
      have B1 := bstep' HBa.out hb1
      obtain ⟨hc, -⟩ := bcell hb1
      have x0 : w1.cell? ⟨w.heap.size, 0, none⟩ = some (.int .i64 22) := by rw [hc _ _ (by simp)]; simp [go_sem]
      have x1 : w1.cell? ⟨w.heap.size, 1, none⟩ = some (.int .i64 n) := by rw [hc _ _ (by simp)]; simp [go_sem]
      have x2 : w1.cell? ⟨w.heap.size, 2, none⟩ = some (.slice (some ⟨b, off, none⟩) t.length tc) := by rw [hc _ _ (by simp)]; simp [go_sem]
      have hlt : w.heap.size < w1.heap.size := by have := hb1.size; simp at this; omega
      clear hc hb1
      have QB : Hid (∀ w2, Below w1.drew.heap.size w1.drew w2 → Below w.heap.size w w2 ∧ w2.cell? ⟨w.heap.size, 0, none⟩ = some (.int .i64 22) ∧ w2.cell? ⟨w.heap.size, 1, none⟩ = some (.int .i64 n) ∧ w2.cell? ⟨w.heap.size, 2, none⟩ = some (.slice (some ⟨b, off, none⟩) t.length tc) ∧ w.heap.size < w2.heap.size) := by
        intro w2 hb
        have hb' := below_of_drew hb
        refine ⟨bstep' B1 hb', ?_, ?_, ?_, Nat.lt_of_lt_of_le hlt hb'.size⟩ <;> rw [hb'.cell (by assumption)] <;> assumption
      go_wp2
      go_region_with (go_at_call 71; refine (HWD.out w1.drew).mono ?_; rintro e w2 ⟨⟨g, rfl, hg⟩, hb2⟩; obtain ⟨B2, y0, y1, y2, hlt2⟩ := QB.out w2 hb2; have hgk := hg 22 (by omega); rw [HWK.out] at hgk; clear hb2 hg)
      all_goals
        clear hgk x0 x1 x2 B1 QB HWD
        have HY : Hid (∀ w3, Below w2.heap.size w2 w3 → w3.cell? ⟨w.heap.size, 0, none⟩ = some (.int .i64 22) ∧ w3.cell? ⟨w.heap.size, 1, none⟩ = some (.int .i64 n)) := by
          intro w3 hb
          refine ⟨?_, ?_⟩ <;> rw [hb.cell (by assumption)] <;> assumption
        go_wp2
        go_loopw [4, 18] (fun t4 t18 wr => ∃ j : Nat, t4 = .string ⟨(accT t j).toArray⟩ ∧ t18 = .int .i64 (j : Int) ∧ j ≤ t.length ∧ Below w2.heap.size w2 wr) (fun _ t18 _ => t.length - (intOf t18).toNat)
        case atStart => exact ⟨0, by rw [← HWK.out]; simp [accT, tailJ], rfl, by omega, Below.refl _ _⟩
        case round =>
          obtain ⟨j, rfl, rfl, hj, hB⟩ := hrel
          have hal := accT_len HTN.out j ht4
          by_cases hlt3 : j < t.length
          · obtain ⟨x, hx⟩ : ∃ x, t[j]? = some x := ⟨t[j], by simp [hlt3]⟩
            have hcx := HC.out j hlt3
            rw [hx] at hcx
            simp only [Option.getD_some] at hcx
            have hcx2 : wr.cell? ⟨b, off + j, none⟩ = some (.int .i64 x) := by rw [(bstep' B2 hB).cell (World.block_lt_of_cell? w _ hcx)]; exact hcx
            have hxb := HTN.out x (List.mem_of_getElem? hx)
            have HAS : Hid (_) := accT_succ hx
            have HNX : Hid (∀ w, Calls Tryd.prog 72 #[.int .i64 x] w fun e w' => e = .returned (.string ⟨(numJ x).toArray⟩) ∧ Below w.heap.size w w') := fun w => num_any x hxb.1 hxb.2 w
            have hnx := numJ_len hxb.1 hxb.2
            generalize numJ x = xb at HAS HNX hnx
            generalize accT t j = acc at HAS hal ⊢
            clear hx hcx y0 y1 y2
            go_wp2_with (go_at_call 72; refine (HNX.out _).mono ?_; rintro e' w3 ⟨rfl, hb3⟩)
            go_roundw
            case rel => exact ⟨j + 1, by rw [HAS.out, ByteArray.mk_append_mk [32] xb, ByteArray.mk_append_mk], by go_num, by omega, bstep' hB hb3⟩
            case measure => simp [intOf]; omega
          · obtain rfl : j = t.length := by omega
            obtain ⟨z0, z1⟩ := HY.out wr hB
            obtain ⟨acc, hacc⟩ : ∃ acc, accT t t.length = acc := ⟨_, rfl⟩
            have HAC : Hid (accT t t.length = acc) := hacc
            rw [hacc] at hal ⊢
            clear y0 y1 y2 hacc
            go_wp2_with (first | (go_at_call 61; refine (hhn _).mono ?_; rintro e' w' ⟨rfl, hw'⟩; subst w') | (go_at_call 72; refine (HNM.out _).mono ?_; rintro e' w3 ⟨rfl, hb3⟩))
            go_ret2
            exact ⟨ret_sb (by rw [HAC.out, ByteArray.mk_append_mk [32] nb, ByteArray.mk_append_mk]; rfl), bstep' (bstep' B2 hB) hb3⟩
    · have htx : ∃ T, textL ((k : Int), n, []) = wordL k ++ T ∧ (hasN (k : Int) = true → T = [32] ++ numJ n) ∧ (hasN (k : Int) = false → T = []) := by
        refine ⟨tailJ (numsL ((k : Int), n, [])), by unfold textL; simp, ?_, ?_⟩
        · intro h; simp [numsL, h, tailJ]
        · intro h; simp [numsL, h, tailJ]
      obtain ⟨T, HTX, HT1, HT0⟩ := htx
      rw [HTX]
      have HT1 : Hid (_) := HT1
      have HT0 : Hid (_) := HT0
      generalize numJ n = nb at HNM hnl HT1
      generalize hwk : wordL k = wk at hwl
      have HWK : Hid (wordL k = wk) := hwk
      clear HTX hwk
      have hk1 : k < 23 := by omega
      go_enter Tryd.func30, Tryd.ntmps30
      go_wp2_with fail
      refine (HO.out _ (HR.out.below HBa.out)).mono ?_
      rintro e w1 ⟨rfl, hb1⟩
      have B1 := bstep' HBa.out hb1
      obtain ⟨hc, -⟩ := bcell hb1
      have x0 : w1.cell? ⟨w.heap.size, 0, none⟩ = some (.int .i64 (k : Int)) := by rw [hc _ _ (by simp)]; simp [go_sem]
      have x1 : w1.cell? ⟨w.heap.size, 1, none⟩ = some (.int .i64 n) := by rw [hc _ _ (by simp)]; simp [go_sem]
      have x2 : w1.cell? ⟨w.heap.size, 2, none⟩ = some (.slice ta 0 tc) := by rw [hc _ _ (by simp)]; simp [go_sem]
      have hlt : w.heap.size < w1.heap.size := by have := hb1.size; simp at this; omega
      clear hc hb1
      have QB : Hid (∀ w2, Below w1.drew.heap.size w1.drew w2 → Below w.heap.size w w2 ∧ w2.cell? ⟨w.heap.size, 0, none⟩ = some (.int .i64 (k : Int)) ∧ w2.cell? ⟨w.heap.size, 1, none⟩ = some (.int .i64 n) ∧ w2.cell? ⟨w.heap.size, 2, none⟩ = some (.slice ta 0 tc)) := by
        intro w2 hb
        have hb' := below_of_drew hb
        refine ⟨bstep' B1 hb', ?_, ?_, ?_⟩ <;> rw [hb'.cell (by assumption)] <;> assumption
      go_wp2
      go_region_with (go_at_call 71; refine (HWD.out w1.drew).mono ?_; rintro e w2 ⟨⟨g, rfl, hg⟩, hb2⟩; obtain ⟨B2, y0, y1, y2⟩ := QB.out w2 hb2; have hgk := hg k hk1; rw [HWK.out] at hgk; clear hb2 hg)
      all_goals
        clear hgk x0 x1 x2 B1 QB HWD
        cases hN : hasN (k : Int) with
        | true =>
          rw [hN] at hhn
          have HT : Hid (T = [32] ++ nb) := HT1.out hN
          clear hN HT1 HT0
          go_wp2
          go_loopw [4, 18] (fun t4 t18 wr => t4 = .string ⟨wk.toArray⟩ ∧ t18 = .int .i64 0 ∧ wr = w2) (fun _ _ _ => 0)
          case atStart => exact ⟨rfl, rfl, rfl⟩
          case round =>
            obtain ⟨rfl, rfl, rfl⟩ := hrel
            go_wp2_with (first | (go_at_call 61; refine (hhn _).mono ?_; rintro e' w' ⟨rfl, hw'⟩; subst w') | (go_at_call 72; refine (HNM.out _).mono ?_; rintro e' w3 ⟨rfl, hb3⟩))
            go_ret2
            exact ⟨ret_sb (by rw [HT.out]; rw [ByteArray.mk_append_mk [32] nb, ByteArray.mk_append_mk]), bstep' B2 hb3⟩
        | false =>
          rw [hN] at hhn
          have HT : Hid (T = []) := HT0.out hN
          clear hN HT1 HT0
          go_wp2
          go_loopw [4, 18] (fun t4 t18 wr => t4 = .string ⟨wk.toArray⟩ ∧ t18 = .int .i64 0 ∧ wr = w2) (fun _ _ _ => 0)
          case atStart => exact ⟨rfl, rfl, rfl⟩
          case round =>
            obtain ⟨rfl, rfl, rfl⟩ := hrel
            go_wp2_with (go_at_call 61; refine (hhn _).mono ?_; rintro e' w' ⟨rfl, hw'⟩; subst w')
            go_ret2
            exact ⟨ret_sb (by rw [HT.out]; simp), B2⟩
end Go.Proofs.YtkdabjdobpdooaaDoor
