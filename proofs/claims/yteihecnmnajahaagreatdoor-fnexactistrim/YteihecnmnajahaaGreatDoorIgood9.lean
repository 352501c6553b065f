/- Whether parts use nothing but what is there: the program. -/
import Derived.Test.YteihecnmnajahaaGreatDoorK4
import Derived.Test.YteihecnmnajahaaGreatDoorIshape10
import Derived.Test.YteihecnmnajahaaGreatDoorK9
namespace Go.Proofs.YteihecnmnajahaaGreatDoor
open Go Go.RowKit
set_option linter.unusedVariables false
set_option linter.unusedSimpArgs false
set_option maxRecDepth 100000

theorem free_put1 {V k : Nat} {D D' : List Int} {v : Int} (h : put1 V k D v = some D') : D'.count (-1) + 1 = D.count (-1) := by
  unfold put1 at h
  split at h
  · rename_i hc
    cases h
    obtain ⟨h0, h1, h2⟩ := hc
    have hlt := (List.getElem?_eq_some_iff.1 h2).1
    have he := (List.getElem?_eq_some_iff.1 h2).2
    rw [List.count_set hlt, he]
    have hpos : 0 < D.count (-1) := List.count_pos_iff.2 (List.mem_of_getElem? h2)
    have : ((k : Int) == -1) = false := by simp
    simp [this]
    omega
  · cases h
theorem free_puts {V k : Nat} {D D' : List Int} {l : List Int} (h : puts V k D l = some D') : D'.count (-1) + l.length = D.count (-1) := by
  induction l generalizing D with
  | nil => cases h; rfl
  | cons v r ih =>
    simp only [puts] at h
    cases e : put1 V k D v with
    | none => rw [e] at h; cases h
    | some E =>
      rw [e] at h
      have h1 := ih h
      have h2 := free_put1 e
      simp only [List.length_cons]
      omega
theorem free_defs {V k : Nat} {ps : List Prt} {D D' : List Int} (h : defsFrom V k ps D = some D') : ∀ p ∈ ps, (comes p).length ≤ D.count (-1) := by
  induction ps generalizing k D with
  | nil => intro p hp; cases hp
  | cons q r ih =>
    simp only [defsFrom] at h
    cases e : puts V k D (comes q) with
    | none => rw [e] at h; cases h
    | some E =>
      rw [e] at h
      intro p hp
      have h2 := free_puts e
      rcases List.mem_cons.1 hp with rfl | hp
      · omega
      · have := ih h p hp; omega
theorem comes_few {V : Nat} {ps : List Prt} {D : List Int} (h : defsL V ps = some D) {p : Prt} (hp : p ∈ ps) : (comes p).length ≤ V := by
  have h1 := free_defs h p hp
  have h2 : (defs0 V).count (-1) ≤ (defs0 V).length := List.count_le_length
  rw [defs0_len] at h2
  omega
theorem params_few {V : Nat} {ps : List Prt} {D : List Int} (h : defsL V ps = some D) {p : Prt} (hp : p ∈ ps) : p.params.length ≤ V := by
  have := comes_few h hp
  unfold comes at this
  rw [List.length_append] at this
  omega
theorem args_few {xs : List Prt} {p : Prt} {N : Nat} (hf : fitArgs xs p = true) (hN : ∀ q ∈ xs, q.params.length ≤ N) (h3 : 3 ≤ N) (hn : p.next.length ≤ 6) : p.args.length ≤ 6 ∧ p.args.flatten.length ≤ 6 * N := by
  have h : p.args.map List.length = handsOn xs p := by simpa [fitArgs] using hf
  have hb : ∀ m ∈ handsOn xs p, m ≤ N := by
    intro m hm
    unfold handsOn at hm
    split at hm
    · simp at hm; omega
    · obtain ⟨x, _, rfl⟩ := List.mem_map.1 hm
      cases e : xs[x.toNat]? with
      | none => exact Nat.zero_le _
      | some q => exact hN q (List.mem_of_getElem? e)
  have hl : (handsOn xs p).length ≤ 6 := by
    unfold handsOn
    split
    · simp
    · rw [List.length_map]; exact hn
  have hs : ∀ l : List Nat, (∀ m ∈ l, m ≤ N) → l.sum ≤ l.length * N := by
    intro l hl
    induction l with
    | nil => simp
    | cons m r ih =>
      have h1 := ih (fun k hk => hl k (List.mem_cons_of_mem _ hk))
      have h2 := hl m (List.mem_cons_self ..)
      simp only [List.sum_cons, List.length_cons, Nat.add_mul, Nat.one_mul]
      omega
  have hlen : p.args.length = (handsOn xs p).length := by rw [← h, List.length_map]
  refine ⟨by omega, ?_⟩
  rw [List.length_flatten, h]
  exact Nat.le_trans (hs _ hb) (Nat.mul_le_mul_right N hl)
/-- what a good part is -/
structure PrtOk (V : Nat) (xs : List Prt) (p : Prt) : Prop where
  code : ∀ x ∈ p.code, goodFm V x = true
  few : p.code.length ≤ 60
  go : 1 ≤ p.go ∧ p.go ≤ 5
  next : p.next.length ≤ 6 ∧ ∀ x ∈ p.next, 0 ≤ x ∧ x < (xs.length : Int)
  params : ∀ v ∈ p.params, 0 ≤ v ∧ v < (V : Int)
  args : fitArgs xs p = true
theorem prtOk_of {V : Nat} {xs : List Prt} {p : Prt} (h : goodPrt V xs p = true) : PrtOk V xs p := by
  simp only [goodPrt, goodBm, Bool.and_eq_true, decide_eq_true_eq] at h
  obtain ⟨⟨h1, h2, h3, h4⟩, h5, h6⟩ := h
  refine ⟨fun x hx => List.all_eq_true.1 h1 x hx, h3, ?_, ⟨ways_few9 h4, fun x hx => allNext_in9 h2 hx⟩, fun v hv => ?_, h6⟩
  · unfold waysBm at h4
    split at h4
    · omega
    · split at h4
      · omega
      · split at h4
        · omega
        · split at h4
          · omega
          · cases h4
  · have := List.all_eq_true.1 h5 v hv
    simp only [inB, Bool.and_eq_true, decide_eq_true_eq, belB] at this
    omega
theorem PrtOk.comes {V : Nat} {xs : List Prt} {p : Prt} (h : PrtOk V xs p) : ∀ v ∈ comes p, 0 ≤ v ∧ v < (V : Int) := by
  intro v hv
  rcases List.mem_append.1 hv with hv | hv
  · exact h.params v hv
  · obtain ⟨x, hx, rfl⟩ := List.mem_map.1 hv
    obtain ⟨h1, h2⟩ := List.mem_filter.1 hx
    exact (makeF_none (h.code x h1)).2.1 h2
/-- what is asked of the uses -/
def UsesOk (V : Nat) (D : List Int) (xs : List Prt) : Prop := ∀ k p, xs[k]? = some p → PartOk V D (fun d => Dom (shapeL xs) d k) k p
def UsesAns (w w' : World) (V : Nat) (D : List Int) (xs : List Prt) (e : Ending) : Prop := ∃ b, e = .returned (.bool b) ∧ (b = true ↔ UsesOk V D xs) ∧ Below w.heap.size w w'
theorem natsL_get {P : List (List Nat)} {k : Nat} {t : List Int} (h : (natsL P)[k]? = some t) : ∃ r, P[k]? = some r ∧ t = nats r := by
  simp only [natsL, List.getElem?_map] at h
  cases e : P[k]? with
  | none => rw [e] at h; cases h
  | some r => rw [e] at h; exact ⟨r, rfl, (Option.some.inj h).symm⟩
set_option maxHeartbeats 8000000 in
theorem goodUses_any (V : Nat) (xs : List Prt) (D : List Int) (a da : Option Addr) (c dc : Nat) (w : World) (h1 : 1 ≤ xs.length) (h2 : xs.length ≤ 11) (hV : V ≤ 250) (hV3 : 3 ≤ V) (hgp : ∀ p ∈ xs, goodPrt V xs p = true) (hfew : ∀ p ∈ xs, p.params.length ≤ V) (hDl : D.length = V) (hT : Tab w) (hX : CRow w a xs) (hD : Row w da D) :
    Calls Tryz.prog 49 #[.slice a xs.length c, .slice da D.length dc] w fun e w' => UsesAns w w' V D xs e := by
  subst hDl
  have hN : NextOk xs := fun p hp => (prtOk_of (hgp p hp)).next
  have HGR := hid (hN.gr h1 h2)
  have HN := hid hN
  have HP := hid (fun (p : Prt) (hp : p ∈ xs) => And.intro (prtOk_of (hgp p hp)) (And.intro (hfew p hp) (args_few (prtOk_of (hgp p hp)).args hfew hV3 (prtOk_of (hgp p hp)).next.1)))
  have HX := hid hX
  have HD := hid hD
  have HT := hid hT
  have HDL : Hid (D.length = D.length) := rfl
  clear hN hgp hfew hT hX hD
  go_enter Tryz.func49, Tryz.ntmps49
  go_wp2_with (first | (go_at_call 53; refine (shapeRow_any xs a c _ h2 HN.out HX.out).mono ?_; rintro e w1 ⟨sa, sc, rfl, hr1, hb1⟩) | (go_at_call 82; refine (domsRow_any HGR.out sa sc _ hr1).mono ?_; rintro e w2 ⟨va, vc, P, rfl, hr2, hd2, hb2⟩))
  have HB2 := hid (bstep' hb1 hb2)
  have HR2 := hid hr2
  have HDM := hid hd2
  have hpl : P.length = xs.length := by rw [hd2.1, shapeL_len]
  rw [shapeL_len]
  clear hr1 hb1 hb2 hr2 hd2
  go_wp2
  go_loopw [11] (fun t11 wr => ∃ (k : Nat), t11 = .int .i64 k ∧ k ≤ xs.length ∧ Hid (∀ j p, j < k → xs[j]? = some p → PartOk D.length D (fun d => Dom (shapeL xs) d j) j p) ∧ Hid (Below w2.heap.size w2 wr)) (fun t11 _ => xs.length - (intOf t11).toNat)
  case atStart => exact ⟨0, rfl, by omega, (by intro j p hj; omega), Below.refl _ _⟩
  case round =>
    obtain ⟨k, rfl, hk, HF, HB⟩ := hrel
    by_cases hkx : k < xs.length
    · obtain ⟨db, doff, rfl, hdb, hdat⟩ := HR2.out.at (by intro e; have := congrArg List.length e; simp only [natsL, List.length_map, List.length_nil] at this; omega)
      obtain ⟨t, ta, tc, d0, tl, HRT, HDX⟩ := hdat wr HB.out k (by simp only [natsL, List.length_map]; omega)
      obtain ⟨r, hr, ht⟩ := natsL_get HDX.out
      subst ht
      rw [nats_length] at d0 tl
      obtain ⟨hrr, hrm⟩ := HDM.out.2 k r hr
      clear hdat HDX
      obtain ⟨b, off, rfl, hbw, hat⟩ := HX.out.at (by intro e; subst e; simp at hkx)
      have bw := bstep' HB2.out HB.out
      have bx := below1 wr (.cells #[.slice ta r.length tc] 112)
      obtain ⟨W2, hW2⟩ : ∃ W, W = wr.alloc (.cells #[.slice ta r.length tc] 112) := ⟨_, rfl⟩
      have hcx : W2.cell? ⟨wr.heap.size, 0, none⟩ = some (.slice ta r.length tc) := by rw [hW2]; simp [go_sem]
      rw [← hW2] at bx
      obtain ⟨ps, cs, go, test, ns, rs, pa, pc, ca, cc, na, nc, ra, rc, c0, c1, c2, c3, c4, c5, l1, l2, l3, l4, HI, HXK⟩ := hat W2 (bstep' bw bx) k hkx
      obtain ⟨hpo, hpf, ha1, ha2⟩ := HP.out _ (List.mem_of_getElem? HXK.out)
      obtain ⟨Q, hQ⟩ : ∃ Q, ps = nats Q := ⟨_, nats_of hpo.params⟩
      have hQl : Q.length = ps.length := by rw [hQ, nats_length]
      have hrl : r.length ≤ 1000 := by
        have h9 : ∀ x ∈ r, x < xs.length := fun x hx => by
          have := RchW.lt HGR.out ((hrm x).1 hx).2.1
          rwa [shapeL_len] at this
        have := nodup_le (rising_nodup hrr) h9
        omega
      have hnr : (nats r).Pairwise (· < ·) := nats_lt hrr
      have H84 := hid (thereAhead_any xs (some ⟨b, off, none⟩) da ta c dc tc k ⟨ps, cs, go, test, ns, rs⟩ Q D (nats r) W2.drew h2 HXK.out hQ (by simp only [] at hpf; omega) (by omega) (by rw [nats_length]; exact hrl) hnr ((HX.out.below (bstep' bw bx)).below (Below.refl _ _).drew) ((HD.out.below (bstep' bw bx)).below (Below.refl _ _).drew) (((HRT.out.below HB.out).below bx).below (Below.refl _ _).drew))
      obtain ⟨T, hTe⟩ : ∃ T, thereL Q k D (nats r) D.length = T := ⟨_, rfl⟩
      have hTV : thereL Q k D (nats r) D.length = T := hTe
      have hTr : T.Pairwise (· < ·) := by rw [← hTe]; exact thereL_rising _ _ _ _ _
      have hTl : T.length ≤ 600 := by rw [← hTe]; have := thereL_len Q k D (nats r) D.length; simp only [] at hpf; omega
      have HTH := hid (fun (v : Int) => (thereL_is (V := D.length) (P := Q) (params := ps) rfl hrm hQ (fun v hv => (hpo.params v hv).2) v).trans Iff.rfl)
      rw [hTV] at HTH
      have HPK := hid (partOk_is (p := ⟨ps, cs, go, test, ns, rs⟩) HTH.out hpo.code)
      rw [nats_length, hTe] at H84
      have H83 : Hid (∀ W va vc, Below W2.heap.size W2 W → W.ownsRow W2.heap.size 3 1 (.slice va T.length vc) T.length (ints (nats T)) → Calls Tryz.prog 83 #[.pointer (some ⟨b, off + k * 6, none⟩), .agg #[.slice va T.length vc]] W fun e w' => e = .returned (.bool (partOkB T ⟨ps, cs, go, test, ns, rs⟩)) ∧ Below W2.heap.size W2 w') := fun W va vc hb ho =>
        usesAreThere_any D.length b (off + k * 6) ⟨ps, cs, go, test, ns, rs⟩ ca ra va cc rc vc T W2 W hV hpo.go (HT.out.below (bstep' bw bx)) c0 c1 c2 c5 HI.out.code HI.out.args hpo.few (Nat.le_trans ha1 (by omega)) (Nat.le_trans ha2 (by omega)) hpo.code hTl hTr hb ho
      obtain ⟨g, hg⟩ : ∃ g, partOkB T ⟨ps, cs, go, test, ns, rs⟩ = g := ⟨_, rfl⟩
      rw [hg] at H83 HPK
      have HCX := hid (fun (W : World) (h : Below W2.heap.size W2 W) => cell_below hcx h)
      have HB3 := hid (HB.out.trans (bx.mono HB.out.size))
      clear hQ hQl hrr hrm hr hrl hnr hTe hTV hTr hTl HTH hg c0 c1 c2 c3 c4 c5 bw bx hpo hpf ha1 ha2 hat
      go_upto_region 4 with fail
      try rw [← hW2]
      clear hW2
      go_region_held (fun W => W.cell? ⟨wr.heap.size, 0, none⟩ = some (.slice ta r.length tc)) ((first | exact HCX.out _ hb5 | exact HCX.out _ hb4 | go_keep)) ((first | (go_at_call 84; refine H84.out.mono ?_; rintro e w4 ⟨v4, c4, rfl, ho4, hb4'⟩; have hb4 := below_of_drew hb4') | (go_at_call 83; refine (H83.out _ _ _ hb4 ho4).mono ?_; rintro e w5 ⟨rfl, hb5⟩)))
      have HB5 := hid (HB3.out.trans (hb5.mono HB3.out.size))
      clear ho4 hb4 hb4' hb5 HCX hcx H84 H83
      cases g with
      | false =>
        have HBAD : Hid (¬ UsesOk D.length D xs) := fun h => by
          have := HPK.out.2 (h k _ HXK.out)
          cases this
        go_wp2
        go_ret
        exact ⟨false, rfl, by simp [HBAD.out], bstep' HB2.out HB5.out⟩
      | true =>
        have HF2 : Hid (∀ j p, j < k + 1 → xs[j]? = some p → PartOk D.length D (fun d => Dom (shapeL xs) d j) j p) := by
          intro j p hj hp
          by_cases e : j = k
          · subst e; rw [HXK.out] at hp; cases hp; exact HPK.out.1 rfl
          · exact HF.out j p (by omega) hp
        go_wp2
        go_roundw
        case rel => exact ⟨k + 1, by go_num, by omega, HF2, HB5⟩
        case measure => simp [intOf]; omega
    · obtain rfl : k = xs.length := by omega
      have HALL : Hid (UsesOk D.length D xs) := fun k p hp => HF.out k p (List.getElem?_eq_some_iff.1 hp).1 hp
      go_wp2
      go_ret
      exact ⟨true, rfl, by simp [HALL.out], bstep' HB2.out HB.out⟩
end Go.Proofs.YteihecnmnajahaaGreatDoor
