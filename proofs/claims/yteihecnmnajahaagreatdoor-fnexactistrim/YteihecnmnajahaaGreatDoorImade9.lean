/- The values that come to be by steps, and in a part: the program. -/
import Derived.Test.YteihecnmnajahaaGreatDoorK3
import Derived.Test.YteihecnmnajahaaGreatDoorIuse
import Derived.Test.YteihecnmnajahaaGreatDoorMdefs
import Derived.Deep.RegionHeld
namespace Go.Proofs.YteihecnmnajahaaGreatDoor
open Go Go.RowKit
set_option linter.unusedVariables false
set_option linter.unusedSimpArgs false
set_option maxRecDepth 100000

set_option maxHeartbeats 4000000 in
theorem made_anyI (b o : Nat) (cs : List Flt) (ca : Option Addr) (cc : Nat) (w : World) (hl : cs.length ≤ 4000) (hc : w.cell? ⟨b, o, none⟩ = some (.slice ca cs.length cc)) (hC : FRow w ca cs) (hg : ∀ x ∈ cs, setsB x.op = true → x.dst ≠ -1) :
    Calls Tryz.prog 112 #[.pointer (some ⟨b, o, none⟩)] w fun e w' => ∃ va vc, e = .returned (.slice va (made cs).length vc) ∧ Row w' va (made cs) ∧ Below w.heap.size w w' := by
  have HC := hid hC
  have HG := hid hg
  clear hC hg
  go_enter Tryz.func112, Tryz.ntmps112
  go_wp2
  go_loopw [3, 12] (fun t3 t12 wr => ∃ (j : Nat) (va : Option Addr) (vc : Nat), t12 = .int .i64 j ∧ j ≤ cs.length ∧ t3 = .slice va (made (cs.take j)).length vc ∧ Hid (Sep wr w.heap.size ([] ++ ⟨3, 1, .slice va (made (cs.take j)).length vc, (made (cs.take j)).length, ints (made (cs.take j))⟩ :: [])) ∧ Hid (Below w.heap.size w wr)) (fun _ t12 _ => cs.length - (intOf t12).toNat)
  case atStart => exact ⟨0, none, 0, rfl, by omega, rfl, sep_one (World.ownsRow_nil _ _ _ _), Below.refl _ _⟩
  case round =>
    obtain ⟨j, va, vc, rfl, hj, rfl, HS, HB⟩ := hrel
    obtain ⟨acc, hacc⟩ : ∃ l, made (cs.take j) = l := ⟨_, rfl⟩
    have hal : acc.length ≤ 4000 := by rw [← hacc]; have := made_len (cs.take j); simp at this; omega
    rw [hacc] at HS ⊢
    have HA := hid hacc
    clear hacc
    by_cases hjt : j < cs.length
    · obtain ⟨cb, coff, rfl, hcw, hcat⟩ := HC.out.at (by intro e; subst e; simp at hjt)
      obtain ⟨fp, fd, ft, fx, fy, fn, f0, f1, f2, f3, f4, f5, HXF⟩ := hcat wr HB.out j hjt
      clear hcat
      have HMS : Hid (made (cs.take (j + 1)) = acc ++ if setsB fp then [ft] else []) := by
        show _ = _
        rw [List.take_add_one, HXF.out, ← HA.out]
        simp only [Option.toList_some, made_snoc]
      obtain ⟨x, hx⟩ : ∃ x : Flt, x = ⟨fp, fd, ft, fx, fy, fn⟩ := ⟨_, rfl⟩
      have HX : Hid (cs[j]? = some x) := by rw [hx]; exact HXF.out
      obtain ⟨dv, hdv⟩ : ∃ v, deedV x = v := ⟨_, rfl⟩
      have HD : Hid (∀ W, Calls Tryz.prog 90 #[.agg #[.int .i64 fp, .int .i64 fd, .int .i64 ft, .int .i64 fx, .int .i64 fy, .int .i64 fn]] W fun e w' => e = .returned dv ∧ Below W.heap.size W w') := fun W => by
        have := deed_any x W
        rw [hdv, hx] at this
        exact this
      have HM : Hid (∀ W, Calls Tryz.prog 119 #[dv] W fun e w' => e = .returned (.int .i64 (makeF x)) ∧ Below W.heap.size W w') := fun W => hdv ▸ madeBy_any x W
      have bF := below1 wr (.cells #[.int .i64 fp, .int .i64 fd, .int .i64 ft, .int .i64 fx, .int .i64 fy, .int .i64 fn] 64)
      have HBF := hid (bstep' HB.out bF)
      have HSF := hid (Sep.below HS.out bF)
      clear hdv bF HXF
      by_cases hs : setsB fp = true
      · have hmk : makeF x = ft := by rw [hx]; unfold makeF; rw [if_pos hs]
        have hds : ft ≠ -1 := by have := HG.out x (List.mem_of_getElem? HX.out) (by rw [hx]; exact hs); rw [hx] at this; exact this
        have hne : ((ft != -1) : Bool) = true := by simp [hds]
        rw [hmk] at HM
        rw [hs] at HMS
        clear hmk hds hs
        go_wp2_with (first | (go_at_call 90; refine (HD.out _).mono ?_; rintro e w2 ⟨rfl, hb2⟩) | (go_at_call 119; refine (HM.out _).mono ?_; rintro e w3 ⟨rfl, hb3⟩; have HB3 := hid (bstep' (bstep' HBF.out hb2) hb3); have HS3 := hid (Sep.below (Sep.below HSF.out hb2) hb3); have HSG := hid (Sep.below HS3.out (below1 w3 (.cells #[.int .i64 ft] 3))); have HN := hid (News.one w3 (.int .i64 ft) 3 w3.heap.size rfl rfl); have HBG := hid (bstep' HB3.out (below1 w3 (.cells #[.int .i64 ft] 3)))) | (at_builtin; refine wpList_append_sep eltInt rfl _ _ rfl w.heap.size [] HSG.out rfl HN.out rfl (by omega) HBG.out.size ?_))
        intro va2 vc2 w5 hs5 hb5 hg5
        have HS5 := hid hs5
        have HB5 := hid (HBG.out.trans hb5)
        clear hs5 hb5 hg5
        go_wp2
        go_roundw
        case rel =>
          refine ⟨j + 1, va2, vc2, by go_num, by omega, by rw [HMS.out]; simp, ?_, HB5⟩
          show Sep _ _ _
          rw [HMS.out]
          have := HS5.out
          simp only [if_true, List.length_append, List.length_singleton, ints_append]
          exact this
        case measure => simp [intOf]; omega
      · have hmk : makeF x = -1 := by rw [hx]; unfold makeF; rw [if_neg hs]
        rw [hmk] at HM
        have hs' : setsB fp = false := by simpa using hs
        rw [hs'] at HMS
        clear hmk hs hs'
        go_wp2_with (first | (go_at_call 90; refine (HD.out _).mono ?_; rintro e w2 ⟨rfl, hb2⟩) | (go_at_call 119; refine (HM.out _).mono ?_; rintro e w3 ⟨rfl, hb3⟩))
        have HB3 := hid (bstep' (bstep' HBF.out hb2) hb3)
        have HS3 := hid (Sep.below (Sep.below HSF.out hb2) hb3)
        clear hb2 hb3
        go_roundw
        case rel => exact ⟨j + 1, va, vc, by go_num, by omega, by rw [HMS.out]; simp, by show Sep _ _ _; rw [HMS.out]; simpa using HS3.out, HB3⟩
        case measure => simp [intOf]; omega
    · obtain rfl : j = cs.length := by omega
      rw [List.take_of_length_le (Nat.le_refl _)] at HA
      have HA2 : Hid (made cs = acc) := HA.out
      go_wp2
      go_ret
      rw [HA2.out]
      exact ⟨_, _, rfl, own_row (one_sep HS.out), HB.out⟩
theorem lrow_two {w : World} {ob : Nat} {pa ma : Option Addr} {ps ms : List Int} {pc mc : Nat} (h0 : w.cell? ⟨ob, 0, none⟩ = some (.slice pa ps.length pc)) (h1 : w.cell? ⟨ob, 1, none⟩ = some (.slice ma ms.length mc)) (l0 : ps.length ≤ 9223372036854775807) (l1 : ms.length ≤ 9223372036854775807) (r0 : Row w pa ps) (r1 : Row w ma ms) : LRow w (some ⟨ob, 0, none⟩) [ps, ms] := by
  refine .inr ⟨ob, 0, rfl, fun k t ht => ?_⟩
  match k, ht with
  | 0, ht => simp at ht; subst ht; exact ⟨pa, pc, l0, by simpa using h0, r0⟩
  | 1, ht => simp at ht; subst ht; exact ⟨ma, mc, l1, by simpa using h1, r1⟩
set_option maxHeartbeats 4000000 in
theorem comesToBe_any (b o : Nat) (p : Prt) (pa ca : Option Addr) (pc cc : Nat) (w : World) (hp : p.params.length ≤ 1048576) (hl : p.code.length ≤ 60) (c0 : w.cell? ⟨b, o, none⟩ = some (.slice ca p.code.length cc)) (c4 : w.cell? ⟨b, o + 4, none⟩ = some (.slice pa p.params.length pc)) (hC : FRow w ca p.code) (hP : Row w pa p.params) (hg : ∀ x ∈ p.code, setsB x.op = true → x.dst ≠ -1) :
    Calls Tryz.prog 81 #[.pointer (some ⟨b, o, none⟩)] w fun e w' => ∃ va vc, e = .returned (.slice va (comes p).length vc) ∧ w'.ownsRow w.heap.size 3 1 (.slice va (comes p).length vc) (comes p).length (ints (comes p)) ∧ Below w.heap.size w w' := by
  have HM := hid (fun (W : World) (h : Below w.heap.size w W) => made_anyI b o p.code ca cc W (by omega) (cell_below c0 h) (hC.below h) hg)
  have HP := hid hP
  have HK := hid (fun (W : World) (h : Below w.heap.size w W) => cell_below c4 h)
  have hml := made_len p.code
  obtain ⟨ps, hps⟩ : ∃ ps, p.params = ps := ⟨_, rfl⟩
  obtain ⟨ms, hms⟩ : ∃ ms, made p.code = ms := ⟨_, rfl⟩
  have hcm : comes p = ps ++ ms := by unfold comes; rw [hps, hms]
  rw [hms] at HM hml
  rw [hps] at HP HK hp c4
  rw [hcm]
  have HCC : Hid (∀ (W : World) (ob : Nat) (ma : Option Addr) (mc : Nat) (hW : Below w.heap.size w W), W.cell? ⟨ob, 0, none⟩ = some (.slice pa ps.length pc) → W.cell? ⟨ob, 1, none⟩ = some (.slice ma ms.length mc) → Row W ma ms → Calls Tryz.prog 91 #[.slice (some ⟨ob, 0, none⟩) 2 2] W fun e w' => ∃ va vc, e = .returned (.slice va (ps ++ ms).length vc) ∧ w'.ownsRow W.heap.size 3 1 (.slice va (ps ++ ms).length vc) (ps ++ ms).length (ints (ps ++ ms)) ∧ Below W.heap.size W w') := fun W ob ma mc hW h0 h1 hr => by
    have := concat_anyI (some ⟨ob, 0, none⟩) 2 [ps, ms] W (by simp) (by simp; omega) (lrow_two h0 h1 (by omega) (by omega) (HP.out.below hW) hr)
    simpa using this
  clear hC hP hg c0 hps hms hcm
  go_enter Tryz.func81, Tryz.ntmps81
  go_wp2
  go_region_held (fun W => W.cell? ⟨b, o + 4, none⟩ = some (.slice pa ps.length pc)) ((first | exact HK.out _ hb5 | exact HK.out _ hb3 | go_keep)) ((first | (go_at_call 112; refine (HM.out _ (Below.refl _ _).drew).mono ?_; rintro e w3 ⟨a3, c3, rfl, hr3, hb3'⟩; have hb3 := below_of_drew hb3'; have h91 := HCC.out (w3.alloc (.cells #[.slice pa ps.length pc, .slice a3 ms.length c3] 35)) w3.heap.size a3 c3 (bstep' hb3 (below1 _ _)) (by simp [go_sem]) (by simp [go_sem]) (hr3.below (below1 _ _))) | (go_at_call 91; refine h91.mono ?_; rintro e w5 ⟨a5, c5, rfl, ho5, hb5'⟩; have hb5 := bstep' (bstep' hb3 (below1 _ _)) hb5')))
  have HB5 := hid hb5
  have HO5 := hid (owns_mono ho5 (Nat.le_trans hb3.size (below1 _ _).size))
  clear hb3 hb3' hr3 hb5 hb5' ho5 h91
  go_wp2
  go_ret
  rw [List.length_append]
  exact ⟨_, _, rfl, by have h9 := HO5.out; rw [List.length_append] at h9; exact h9, HB5.out⟩
end Go.Proofs.YteihecnmnajahaaGreatDoor
