/- The model's test on an ssa. -/
import Derived.Test.YteihecnmnajahaaGreatDoorMdefs
import Derived.Test.YteihecnmnajahaaGreatDoorMgraph
import Derived.Test.YteihecnmnajahaaGreatDoorK2
namespace Go.Proofs.YteihecnmnajahaaGreatDoor
open Go.RowKit
set_option linter.unusedVariables false
set_option linter.unusedSimpArgs false
set_option maxRecDepth 100000

theorem good_part {m : Int} {xs : List Prt} {p : Prt} : goodPrt m xs p = (partB m xs p && (allNext xs.length p.next && allBel m p.params)) := by
  simp only [goodPrt, goodBm, partB]
  cases allFm m p.code <;> cases allNext xs.length p.next <;> cases waysBm m p.go p.test p.next.length <;> cases fitArgs xs p <;> cases allBel m p.params <;> simp
theorem allNext_in {n : Nat} {t : List Int} (h : allNext n t = true) {x : Int} (hx : x ∈ t) : 0 ≤ x ∧ x < n := by
  simp only [allNext, List.all_eq_true] at h
  have := h x hx
  simp [nextB, inB] at this; omega
theorem GoodS.nextIn {V : Int} {xs : List Prt} (h : GoodS V xs) {p : Prt} (hp : p ∈ xs) {x : Int} (hx : x ∈ p.next) : 0 < x ∧ x < xs.length := by
  have h1 := h.parts p hp
  rw [good_part] at h1
  simp only [Bool.and_eq_true] at h1
  have h2 := allNext_in h1.2.1 hx
  have h3 : x ≠ 0 := fun e => h.back p hp (e ▸ hx)
  omega
theorem GoodS.partB {V : Int} {xs : List Prt} (h : GoodS V xs) {p : Prt} (hp : p ∈ xs) : partB V xs p = true := by
  have h1 := h.parts p hp
  rw [good_part] at h1
  simp only [Bool.and_eq_true] at h1
  exact h1.1
theorem few_next {V : Int} {xs : List Prt} {p : Prt} (h : partB V xs p = true) : p.next.length ≤ 6 ∧ p.code.length ≤ 60 := by
  simp only [Go.Proofs.YteihecnmnajahaaGreatDoor.partB, Bool.and_eq_true, decide_eq_true_eq] at h
  refine ⟨?_, h.2.2.1⟩
  have h2 := h.2.1
  unfold waysBm at h2
  split at h2
  · simp only [Bool.and_eq_true, decide_eq_true_eq] at h2; omega
  · split at h2
    · simp only [Bool.and_eq_true, decide_eq_true_eq] at h2; omega
    · split at h2
      · simp only [Bool.and_eq_true] at h2; have := h2.1; simp [inB] at this; omega
      · split at h2
        · simp only [Bool.and_eq_true, decide_eq_true_eq] at h2; omega
        · cases h2
theorem shapeL_len (xs : List Prt) : (shapeL xs).length = xs.length := by simp [shapeL]
theorem gr_shape {xs : List Prt} (h1 : 1 ≤ xs.length) (h2 : xs.length ≤ 11) (h : ∀ p ∈ xs, ∀ x ∈ p.next, 0 ≤ x ∧ x < (xs.length : Int)) : Gr (shapeL xs) := by
  refine ⟨by rw [shapeL_len]; exact h1, by rw [shapeL_len]; omega, fun i l hl => ?_, fun i l hl k hk => ?_⟩
  all_goals
    simp only [shapeL, List.getElem?_map] at hl
    cases hb : xs[i]? with
    | none => rw [hb] at hl; cases hl
    | some p =>
      rw [hb] at hl
      obtain rfl := Option.some.inj hl
      first
        | exact setL_rising _
        | (rw [shapeL_len]; exact low_of (h p (List.mem_of_getElem? hb)) k ((setL_mem _ _).1 hk))
theorem there_iff {N : Nat} {D : List Int} {g : List (List Nat)} {k : Nat} {r : List Nat} (hD : D.length = N) (hr : ∀ x, x ∈ r ↔ Dom g x k) (far : List Int) (v : Int) : thereV D (nats r) far k v = true ↔ There N D (fun d => Dom g d k) k far v := by
  simp only [thereV, There, hD, Bool.and_eq_true, Bool.or_eq_true, decide_eq_true_eq, hasB, bne_iff_ne, ne_eq]
  constructor
  · rintro ⟨h1, h2, h3⟩
    refine ⟨h1, h2, ?_⟩
    rcases h3 with h | h | ⟨h, h', h''⟩
    · exact .inl h
    · exact .inr (.inl h)
    · obtain ⟨q, hq⟩ : ∃ q, D[v.toNat]? = some q := ⟨_, List.getElem?_eq_getElem (by omega)⟩
      rw [hq] at h h' h''
      simp only [Option.getD_some] at h h' h''
      obtain ⟨x, hx, he⟩ := List.mem_map.1 h''
      subst he
      exact .inr (.inr ⟨x, hq, by omega, (hr x).1 hx⟩)
  · rintro ⟨h1, h2, h3⟩
    refine ⟨h1, h2, ?_⟩
    rcases h3 with h | h | ⟨d, h, h', h''⟩
    · exact .inl h
    · exact .inr (.inl h)
    · rw [h]
      simp only [Option.getD_some]
      exact .inr (.inr ⟨by omega, by omega, List.mem_map.2 ⟨d, (hr d).2 h'', rfl⟩⟩)
theorem puts_in {V k : Nat} {D D' : List Int} {l : List Int} (h : puts V k D l = some D') : ∀ v ∈ l, 0 ≤ v ∧ v < V := by
  induction l generalizing D with
  | nil => intro v hv; cases hv
  | cons x r ih =>
    simp only [puts] at h
    cases e : put1 V k D x with
    | none => rw [e] at h; cases h
    | some E =>
      rw [e] at h
      intro v hv
      rcases List.mem_cons.1 hv with rfl | hv
      · unfold put1 at e
        split at e
        · omega
        · cases e
      · exact ih h v hv
theorem defsFrom_in {V k : Nat} {ps : List Prt} {D D' : List Int} (h : defsFrom V k ps D = some D') : ∀ p ∈ ps, ∀ v ∈ comes p, 0 ≤ v ∧ v < V := by
  induction ps generalizing k D with
  | nil => intro p hp; cases hp
  | cons q r ih =>
    simp only [defsFrom] at h
    cases e : puts V k D (comes q) with
    | none => rw [e] at h; cases h
    | some E =>
      rw [e] at h
      intro p hp v hv
      rcases List.mem_cons.1 hp with rfl | hp
      · exact puts_in e v hv
      · exact ih h p hp v hv
theorem defs_in {V : Nat} {xs : List Prt} {D : List Int} (h : defsL V xs = some D) {p : Prt} (hp : p ∈ xs) {v : Int} (hv : v ∈ comes p) : 0 ≤ v ∧ v < V := defsFrom_in h p hp v hv
theorem come_dom {g : List (List Nat)} {k : Nat} (h : Come g k) : Dom g k k := by
  refine ⟨h, h, fun hr => ?_⟩
  cases hr with
  | start hd => exact hd rfl
  | step _ _ _ hd => exact hd rfl
/-- what a test on an ssa tells -/
def SsaAns (w w' : World) (V : Int) (xs : List Prt) (e : Ending) : Prop := ∃ b, e = .returned (.bool b) ∧ (b = true ↔ GoodS V xs) ∧ Below w.heap.size w w'
set_option maxHeartbeats 8000000 in
theorem sGoodSsa_any (V : Int) (xs : List Prt) (a : Option Addr) (c : Nat) (w : World) (hl : xs.length ≤ 9223372036854775807) (hs : sumP xs ≤ 1048576) (hX : PRow w a xs) :
    Calls Tryz.prog 14 #[.agg #[.slice a xs.length c, .int .i64 V]] w fun e w' => SsaAns w w' V xs e := by
  have b1 := below1 w (.cells #[.slice a xs.length c, .int .i64 V] 30)
  have k0 : (w.alloc (.cells #[.slice a xs.length c, .int .i64 V] 30)).cell? ⟨w.heap.size, 0, none⟩ = some (.slice a xs.length c) := by simp [go_sem]
  have k1 : (w.alloc (.cells #[.slice a xs.length c, .int .i64 V] 30)).cell? ⟨w.heap.size, 1, none⟩ = some (.int .i64 V) := by simp [go_sem]
  obtain ⟨W0, hW0⟩ : ∃ W, W = w.alloc (.cells #[.slice a xs.length c, .int .i64 V] 30) := ⟨_, rfl⟩
  rw [← hW0] at b1 k0 k1
  have HW0 := hid hW0
  have HB0 := hid b1
  have K := hid (fun (W : World) (hb : Below W0.heap.size W0 W) => And.intro (cell_below k0 hb) (cell_below k1 hb))
  have H := hid (fun (W : World) (hb : Below W0.heap.size W0 W) => hX.below (bstep' b1 hb))
  have HSP := hid hs
  clear b1 k0 k1 hW0 hX hs
  obtain ⟨i1, hi1⟩ : ∃ g, inB 1 11 (xs.length : Int) = g := ⟨_, rfl⟩
  obtain ⟨i2, hi2⟩ : ∃ g, inB 12 250 V = g := ⟨_, rfl⟩
  have C1 := hid (fun W => (hi1 ▸ l1In_any (xs.length : Int) 1 11 W : Calls Tryz.prog 37 #[.int .i64 (xs.length : Int), .int .i64 1, .int .i64 11] W fun e w' => e = .returned (.bool i1) ∧ w' = W))
  have C2 := hid (fun W => (hi2 ▸ l1In_any V 12 250 W : Calls Tryz.prog 37 #[.int .i64 V, .int .i64 12, .int .i64 250] W fun e w' => e = .returned (.bool i2) ∧ w' = W))
  have HI1 := hid hi1
  have HI2 := hid hi2
  clear hi1 hi2
  have HX0 : Hid (w.alloc (.cells #[.slice a xs.length c, .int .i64 V] 30) = W0) := HW0.out.symm
  go_enter Tryz.func14, Tryz.ntmps14
  go_wp2_with fail
  refine (C1.out _).mono ?_
  rintro e w1 ⟨rfl, hw1⟩
  subst w1
  cases i1
  · have HNG : Hid (¬ GoodS V xs) := fun h => by have h1 := HI1.out; have h2 := h.pos; have h3 := h.most; simp [inB] at h1; omega
    go_wp2
    go_ret
    exact ⟨false, rfl, ⟨fun h => (by cases h), fun h => (HNG.out h).elim⟩, by rw [HX0.out]; exact HB0.out⟩
  go_wp2_with fail
  refine (C2.out _).mono ?_
  rintro e w1 ⟨rfl, hw1⟩
  subst w1
  cases i2
  · have HNG : Hid (¬ GoodS V xs) := fun h => by have h1 := HI2.out; have h2 := h.low; have h3 := h.high; simp [inB] at h1; omega
    go_wp2
    go_ret
    exact ⟨false, rfl, ⟨fun h => (by cases h), fun h => (HNG.out h).elim⟩, by rw [HX0.out]; exact HB0.out⟩
  have hp1 : 1 ≤ xs.length ∧ xs.length ≤ 11 := by have h1 := HI1.out; simp [inB] at h1; omega
  have hV1 : 12 ≤ V ∧ V ≤ 250 := by have h1 := HI2.out; simp [inB] at h1; omega
  obtain ⟨hp, hp2⟩ := hp1
  obtain ⟨hV, hV2⟩ := hV1
  obtain ⟨N, hN⟩ : ∃ n : Nat, V = n := ⟨V.toNat, by omega⟩
  subst hN
  clear HI1 HI2 C1 C2
  go_wp2
  go_loopw [32] (fun t32 wr => ∃ k : Nat, t32 = .int .i64 k ∧ k ≤ xs.length ∧ (∀ (j : Nat) p, j < k → xs[j]? = some p → ∀ x ∈ p.next, 0 < x ∧ x < (xs.length : Int)) ∧ Below W0.heap.size W0 wr) (fun t32 _ => xs.length - (intOf t32).toNat)
  case atStart => exact ⟨0, rfl, by omega, by intro j p hj; omega, by rw [HX0.out]; exact Below.refl _ _⟩
  case round =>
    obtain ⟨k, rfl, hk, hgd, hB⟩ := hrel
    have HGD := hid hgd
    have HB := hid hB
    obtain ⟨v0, v1⟩ := K.out wr hB
    clear hgd hB
    by_cases hlt : k < xs.length
    · obtain ⟨b, off, rfl, hbw, hat⟩ := (H.out wr HB.out).at (by intro e; subst e; simp at hlt)
      obtain ⟨ps, cs, go, test, ns, rs, pa, pc, ca, cc, na, nc, ra, rc, c0, c1, c2, c3, c4, c5, l1, l2, l3, l4, HI, HX⟩ := hat wr (Below.refl _ _) k hlt
      clear hat
      obtain ⟨wa, hwa⟩ : ∃ W, W = wr.alloc (.cells #[.slice pa ps.length pc, .slice ca cs.length cc, .int .i64 go, .int .i64 test, .slice na ns.length nc, .slice ra rs.length rc] 51) := ⟨_, rfl⟩
      have bA : Below wr.heap.size wr wa := by rw [hwa]; exact below1 _ _
      have HWA : Hid (wr.alloc (.cells #[.slice pa ps.length pc, .slice ca cs.length cc, .int .i64 go, .int .i64 test, .slice na ns.length nc, .slice ra rs.length rc] 51) = wa) := hwa.symm
      have HBA := hid (bstep' HB.out bA)
      have HNR := hid (HI.out.next.below bA)
      have g0 : (wr.alloc (.cells #[.slice pa ps.length pc, .slice ca cs.length cc, .int .i64 go, .int .i64 test, .slice na ns.length nc, .slice ra rs.length rc] 51)).cell? ⟨w.heap.size, 0, none⟩ = some (.slice (some ⟨b, off, none⟩) xs.length c) := cell_below v0 (below1 _ _)
      clear bA hwa v0 v1
      go_wp2
      go_loop [6, 39] (fun t6 t39 => ∃ j : Nat, t39 = .int .i64 j ∧ j ≤ ns.length ∧ ∀ (i : Nat) x, i < j → ns[i]? = some x → 0 < x ∧ x < (xs.length : Int)) (fun _ t39 => ns.length - (intOf t39).toNat)
      case atStart => exact ⟨0, rfl, by omega, by intro i x hi; omega⟩
      case round =>
        obtain ⟨j, rfl, hj, hnx⟩ := hrel
        have HNX := hid hnx
        clear hnx
        by_cases hjt : j < ns.length
        · obtain ⟨nb, noff, rfl, hnb, hnat⟩ := HNR.out.at (by intro e; subst e; simp at hjt)
          rw [← HWA.out] at hnat
          obtain ⟨x, cx, HXN⟩ := hnat _ (Below.refl _ _) j hjt
          clear hnat
          by_cases hx0 : x ≤ 0
          · have HNG : Hid (¬ GoodS N xs) := fun h => by
              have := h.nextIn (List.mem_of_getElem? HX.out) (List.mem_of_getElem? HXN.out); omega
            go_wp2
            go_ret
            exact ⟨false, rfl, ⟨fun h => (by cases h), fun h => (HNG.out h).elim⟩, by rw [HWA.out]; exact bstep' HB0.out HBA.out⟩
          by_cases hxn : (xs.length : Int) ≤ x
          · have HNG : Hid (¬ GoodS N xs) := fun h => by
              have := h.nextIn (List.mem_of_getElem? HX.out) (List.mem_of_getElem? HXN.out); omega
            go_wp2
            go_ret
            exact ⟨false, rfl, ⟨fun h => (by cases h), fun h => (HNG.out h).elim⟩, by rw [HWA.out]; exact bstep' HB0.out HBA.out⟩
          go_wp2
          go_round
          case rel => exact ⟨j + 1, by go_num, by omega, by
            intro i z hi hz
            by_cases e : i = j
            · subst e; rw [HXN.out] at hz; cases hz; omega
            · exact HNX.out i z (by omega) hz⟩
          case measure => simp [intOf]; omega
        · obtain rfl : j = ns.length := by omega
          go_wp2
          go_roundw
          case rel => exact ⟨k + 1, by go_num, by omega, by
            intro i p hi hp' x hx
            by_cases e : i = k
            · subst e
              rw [HX.out] at hp'; cases hp'
              obtain ⟨m, hm⟩ := List.mem_iff_getElem?.1 hx
              exact HNX.out m x (List.getElem?_eq_some_iff.1 hm).1 hm
            · exact HGD.out i p (by omega) hp' x hx, by rw [HWA.out]; exact HBA.out⟩
          case measure => simp [intOf]; omega
    · obtain rfl : k = xs.length := by omega
      have HNI : Hid (∀ p ∈ xs, ∀ x ∈ p.next, 0 < x ∧ x < (xs.length : Int)) := fun p hp' x hx => by
        obtain ⟨m, hm⟩ := List.mem_iff_getElem?.1 hp'
        exact HGD.out m p (List.getElem?_eq_some_iff.1 hm).1 hm x hx
      clear HGD
      go_wp2
      clear v0 v1
      go_loopw [57] (fun t57 wr => ∃ k : Nat, t57 = .int .i64 k ∧ k ≤ xs.length ∧ (∀ (j : Nat) p, j < k → xs[j]? = some p → partB N xs p = true) ∧ Below W0.heap.size W0 wr) (fun t57 _ => xs.length - (intOf t57).toNat)
      case atStart => exact ⟨0, rfl, by omega, by intro j p hj; omega, HB.out⟩
      case round =>
        obtain ⟨k, rfl, hk, hgd, hB⟩ := hrel
        have HGD := hid hgd
        have HB2 := hid hB
        obtain ⟨v0, v1⟩ := K.out wr hB
        clear hgd hB HB
        by_cases hlt : k < xs.length
        · obtain ⟨b, off, rfl, hbw, hat⟩ := (H.out wr HB2.out).at (by intro e; subst e; simp at hlt)
          obtain ⟨ps, cs, go, test, ns, rs, pa, pc, ca, cc, na, nc, ra, rc, c0, c1, c2, c3, c4, c5, l1, l2, l3, l4, HI, HX⟩ := hat wr (Below.refl _ _) k hlt
          clear hat
          have bA := below1 wr (.cells #[.slice pa ps.length pc, .slice ca cs.length cc, .int .i64 go, .int .i64 test, .slice na ns.length nc, .slice ra rs.length rc] 51)
          have HBA := hid (bstep' HB2.out bA)
          have g0 := cell_below v0 bA
          have g1 := cell_below v1 bA
          obtain ⟨pb, hpb⟩ : ∃ q, partB N xs ⟨ps, cs, go, test, ns, rs⟩ = q := ⟨_, rfl⟩
          have CP := l9Part_any (N : Int) hV hV2 xs (some ⟨b, off, none⟩) c hp2 go test ps cs ns rs pa ca na ra pc cc nc rc _ l1 l2 l3 l4 (H.out _ HBA.out) (HI.out.below bA) (fun x hx => HNI.out _ (List.mem_of_getElem? HX.out) x hx)
          rw [hpb] at CP
          have HCP := hid CP
          have HPB := hid hpb
          clear bA CP hpb v0 v1
          go_wp2_with fail
          refine HCP.out.mono ?_
          rintro e w3 ⟨rfl, hb3⟩
          have HB3 := hid (bstep' HBA.out hb3)
          clear hb3 g0 g1
          cases pb
          · have HNG : Hid (¬ GoodS N xs) := fun h => by
              have h1 := h.partB (List.mem_of_getElem? HX.out)
              have h2 := HPB.out
              rw [h1] at h2; cases h2
            go_wp2
            go_ret
            exact ⟨false, rfl, ⟨fun h => (by cases h), fun h => (HNG.out h).elim⟩, bstep' HB0.out HB3.out⟩
          · go_wp2
            go_roundw
            case rel => exact ⟨k + 1, by go_num, by omega, by
              intro i p hi hp'
              by_cases e : i = k
              · subst e; rw [HX.out] at hp'; cases hp'; exact HPB.out
              · exact HGD.out i p (by omega) hp', HB3.out⟩
            case measure => simp [intOf]; omega
        · obtain rfl : k = xs.length := by omega
          have HPA : Hid (∀ p ∈ xs, partB N xs p = true) := fun p hp' => by
            obtain ⟨m, hm⟩ := List.mem_iff_getElem?.1 hp'
            exact HGD.out m p (List.getElem?_eq_some_iff.1 hm).1 hm
          have HCD := hid (l9Defs_any N (by omega) (by omega) xs a c wr hp2 HSP.out (H.out wr HB2.out))
          clear HGD
          go_wp2_with fail
          refine HCD.out.mono ?_
          rintro e w4 ⟨hda, hb4⟩
          have HB4 := hid (bstep' HB2.out hb4)
          clear HCD v0 v1
          rcases hda with ⟨hdn, rfl⟩ | ⟨D, da, dc, hD, rfl, hdo⟩
          · have HNG : Hid (¬ GoodS N xs) := fun h => by
              obtain ⟨D, h1, _⟩ := h.defs
              rw [Int.toNat_natCast, hdn] at h1; cases h1
            clear hdn hb4
            go_wp2
            go_ret
            exact ⟨false, rfl, ⟨fun h => (by cases h), fun h => (HNG.out h).elim⟩, bstep' HB0.out HB4.out⟩
          · have HD := hid (And.intro hD hdo)
            obtain ⟨v0, v1⟩ := K.out w4 HB4.out
            obtain ⟨b, off, rfl, hbw, hat⟩ := (H.out w4 HB4.out).at (by intro e; subst e; simp at hp)
            obtain ⟨ps, cs, go, test, ns, rs, pa, pc, ca, cc, na, nc, ra, rc, c0, c1, c2, c3, c4, c5, l1, l2, l3, l4, HI, HX⟩ := hat w4 (Below.refl _ _) 0 (by omega)
            simp only [Nat.zero_mul, Nat.add_zero] at c0
            clear hat hD hdo hb4 c1 c2 c3 c4 c5
            by_cases hps : 0 < ps.length
            · have HNG : Hid (¬ GoodS N xs) := fun h => by
                have h1 := h.first _ HX.out
                simp only [] at h1
                rw [h1] at hps; simp at hps
              go_wp2
              go_ret
              exact ⟨false, rfl, ⟨fun h => (by cases h), fun h => (HNG.out h).elim⟩, bstep' HB0.out HB4.out⟩
            · have HPS : Hid (∀ p, xs[0]? = some p → p.params = []) := fun p hp' => by
                rw [HX.out] at hp'; cases hp'
                show ps = []
                exact List.eq_nil_of_length_eq_zero (by omega)
              have HCG := hid (l9Graph_any (N : Int) xs (some ⟨b, off, none⟩) c w4 hp hp2 (fun p hp' => ⟨(few_next (HPA.out p hp')).1, fun x hx => by have := HNI.out p hp' x hx; omega⟩) (H.out w4 HB4.out))
              go_wp2_with fail
              refine HCG.out.mono ?_
              rintro e w5 ⟨v, gs, rfl, hgo, hgs, hb5⟩
              obtain ⟨ga, gc, rfl, hgr⟩ : ∃ ga gc, v = .slice ga (shapeL xs).length gc ∧ GRow w5 ga (shapeL xs) := by
                obtain ⟨ga, gc, e1, h1⟩ := hgo.row
                rw [hgs] at e1 h1
                exact ⟨ga, gc, by rw [e1]; simp [graphP], h1⟩
              have HB5 := hid (bstep' HB4.out hb5)
              have bG := below1 w5 (.cells #[.slice ga (shapeL xs).length gc] 43)
              have HB6 := hid (bstep' HB5.out bG)
              have HG6 := hid (LRow.below hgr bG)
              have HD6 := hid (And.intro HD.out.1 (owns_below (owns_below HD.out.2 hb5) bG))
              have HGR := hid (gr_shape hp hp2 (fun p hp' x hx => by have := HNI.out p hp' x hx; omega))
              have HCM := hid (sDoms_any HGR.out ga gc _ HG6.out)
              clear hgo hgs hb5 hgr bG HCG
              go_wp2_with fail
              refine HCM.out.mono ?_
              rintro e w7 ⟨ma, mc, ms, P, rfl, hmo, hms, hP, hb7⟩
              have HB7 := hid (bstep' HB6.out hb7)
              have HD7 := hid (And.intro HD6.out.1 (owns_below HD6.out.2 hb7))
              have HM7 := hid (And.intro hmo (And.intro hms hP))
              obtain ⟨y0, y1⟩ := K.out w7 HB7.out
              have hDl : D.length = N := (defsFrom_len HD7.out.1).trans (defs0_len N)
              have HDL := hid hDl
              have hPl : P.length = xs.length := HM7.out.2.2.1.trans (shapeL_len xs)
              have HPL := hid hPl
              obtain ⟨mb, hmb⟩ : ∃ mb, ma = some ⟨mb, 0, none⟩ := by
                rcases HM7.out.1.outer.2 with ⟨h0, h1⟩ | ⟨g', cap, cur, he, _⟩
                · injection h0 with _ e2 _; rw [shapeL_len] at e2; omega
                · injection he with e1 _ _; exact ⟨g', e1⟩
              subst hmb
              have HMR : Hid (∀ (k : Nat) r, P[k]? = some r → ∃ ta tc, w7.cell? ⟨mb, k, none⟩ = some (.slice ta r.length tc) ∧ Row w7 ta (nats r) ∧ r.length ≤ 9223372036854775807 ∧ ∀ x, x ∈ r ↔ Dom (shapeL xs) x k) := fun k r hr => by
                obtain ⟨rv, hrv⟩ := own_of_lists HM7.out.2.1 hr
                have h1 := HM7.out.1.inner (List.mem_of_getElem? hrv)
                simp only [nats_length] at h1
                obtain ⟨ta, tc, e1⟩ := slice_of_owned h1
                subst e1
                refine ⟨ta, tc, rowT_at HM7.out.1.outer rfl (by simp [vals, hrv]), own_row (xs := nats r) (by rw [nats_length]; exact h1), own_len h1, (HM7.out.2.2.2 k r hr).2⟩
              have HPK : Hid (GoodS N xs → ∀ (k : Nat) p, xs[k]? = some p → PartOk N D (fun d => Dom (shapeL xs) d k) k p) := fun h k p hp' => by
                obtain ⟨D', h1, h2⟩ := h.defs
                rw [Int.toNat_natCast, HD7.out.1] at h1
                cases h1
                have := h2 k p hp'
                rwa [Int.toNat_natCast] at this
              clear hmo hms hP hb7 HCM hDl hPl
              go_wp2
              clear y0 y1
              go_loopw [89] (fun t89 wr => ∃ k : Nat, t89 = .int .i64 k ∧ k ≤ xs.length ∧ (∀ (j : Nat) p, j < k → xs[j]? = some p → Come (shapeL xs) j ∧ PartOk N D (fun d => Dom (shapeL xs) d j) j p) ∧ Below w7.heap.size w7 wr) (fun t89 _ => xs.length - (intOf t89).toNat)
              case atStart => exact ⟨0, rfl, by omega, by intro j p hj; omega, Below.refl _ _⟩
              case round =>
                obtain ⟨k, rfl, hk, hgd, hB⟩ := hrel
                have HGD := hid hgd
                have HBr := hid hB
                obtain ⟨wo, rfl⟩ : ∃ wo : World, wo = wr := ⟨_, rfl⟩
                have HBA := hid (bstep' HB7.out hB)
                clear hgd hB
                by_cases hlt : k < xs.length
                · obtain ⟨b', off', he', hbw', hat⟩ := (H.out W0 (Below.refl _ _)).at (by intro e; subst e; simp at hlt)
                  cases he'
                  obtain ⟨ps, cs, go, test, ns, rs, pa, pc, ca, cc, na, nc, ra, rc, c0, c1, c2, c3, c4, c5, l1, l2, l3, l4, HI, HX⟩ := hat W0 (Below.refl _ _) k hlt
                  replace c0 := cell_below c0 HBA.out
                  replace c1 := cell_below c1 HBA.out
                  replace c2 := cell_below c2 HBA.out
                  replace c3 := cell_below c3 HBA.out
                  replace c4 := cell_below c4 HBA.out
                  replace c5 := cell_below c5 HBA.out
                  obtain ⟨m1, m2, m5⟩ : ps.length ≤ 1048576 ∧ cs.length ≤ 1048576 ∧ sumL rs ≤ 1048576 := by have := size_le_sumP HX.out; have := HSP.out; simp only [sizeP] at *; omega
                  obtain ⟨r, hr⟩ : ∃ r, P[k]? = some r := ⟨_, List.getElem?_eq_getElem (by rw [HPL.out]; exact hlt)⟩
                  obtain ⟨ta, tc, cm0, rowr, hrl, hrm⟩ := HMR.out k r hr
                  have cm := cell_below cm0 HBr.out
                  have HRM := hid hrm
                  have hks : k < (shapeL xs).length := by rw [shapeL_len]; exact hlt
                  have HCM0 := hid cm0
                  have HRR := hid rowr
                  clear hat hr cm0 hrm rowr
                  by_cases hr0 : r.length = 0
                  · have HNG : Hid (¬ GoodS N xs) := fun h => by
                      have h1 := (HRM.out k).2 (come_dom (h.come k hlt))
                      rw [List.eq_nil_of_length_eq_zero hr0] at h1; simp at h1
                    obtain rfl : r = [] := List.eq_nil_of_length_eq_zero hr0
                    simp only [List.length_nil] at cm
                    have cm1 := cell_below cm (below1 wo (.cells #[.slice pa ps.length pc, .slice ca cs.length cc, .int .i64 go, .int .i64 test, .slice na ns.length nc, .slice ra rs.length rc] 51))
                    clear hr0
                    go_wp2
                    go_ret
                    exact ⟨false, rfl, ⟨fun h => (by cases h), fun h => (HNG.out h).elim⟩, (bstep' HB0.out HBA.out).alloc (by have := (bstep' HB0.out HBA.out).size; omega) _⟩
                  · have HCO : Hid (Come (shapeL xs) k) := by
                      obtain ⟨x, hx⟩ : ∃ x, x ∈ r := by
                        cases r with
                        | nil => simp at hr0
                        | cons x _ => exact ⟨x, by simp⟩
                      exact ((HRM.out x).1 hx).1
                    have e0 : ((r.length : Int) == 0) = false := by rw [beq_eq_false_iff_ne]; omega
                    have hsz : w7.heap.size ≤ wo.heap.size := HBr.out.size
                    obtain ⟨A, hA⟩ : ∃ A, A = wo.alloc (.cells #[.slice pa ps.length pc, .slice ca cs.length cc, .int .i64 go, .int .i64 test, .slice na ns.length nc, .slice ra rs.length rc] 51) := ⟨_, rfl⟩
                    have bA : Below wo.heap.size wo A := by rw [hA]; exact below1 _ _
                    have zA : A.heap.size = wo.heap.size + 1 := by rw [hA]; simp
                    have hbox : Sep A w7.heap.size [cellOR 51 6 wo.heap.size [.slice pa ps.length pc, .slice ca cs.length cc, .int .i64 go, .int .i64 test, .slice na ns.length nc, .slice ra rs.length rc]] := by
                      rw [hA]; exact sep1 (cell_own (cs := #[.slice pa ps.length pc, .slice ca cs.length cc, .int .i64 go, .int .i64 test, .slice na ns.length nc, .slice ra rs.length rc]) (heap_alloc_new wo _) rfl hsz)
                    have HSN : Hid (Sep ((wo.alloc (.cells #[.slice pa ps.length pc, .slice ca cs.length cc, .int .i64 go, .int .i64 test, .slice na ns.length nc, .slice ra rs.length rc] 51)).alloc (.cells #[] 3)) w7.heap.size ([cellOR 51 6 wo.heap.size [.slice pa ps.length pc, .slice ca cs.length cc, .int .i64 go, .int .i64 test, .slice na ns.length nc, .slice ra rs.length rc]] ++ ⟨3, 1, .slice (some ⟨wo.heap.size + 1, 0, none⟩) 0 0, 0, []⟩ :: [])) := by
                      rw [← hA]
                      exact Sep.append hbox (below1 A _) (by omega) (sep1 (own_new0 A _ zA |> fun h => by rw [← zA] at h ⊢; exact h))
                    have HBN : Hid (Below w7.heap.size w7 ((wo.alloc (.cells #[.slice pa ps.length pc, .slice ca cs.length cc, .int .i64 go, .int .i64 test, .slice na ns.length nc, .slice ra rs.length rc] 51)).alloc (.cells #[] 3))) := by rw [← hA]; exact bstep' (bstep' HBr.out bA) (below1 A _)
                    have HN : Hid (News ((wo.alloc (.cells #[.slice pa ps.length pc, .slice ca cs.length cc, .int .i64 go, .int .i64 test, .slice na ns.length nc, .slice ra rs.length rc] 51)).alloc (.cells #[] 3)) pa ps.length 1 (ints ps)) := News.ints (HI.out.params.below (bstep' HB7.out HBN.out))
                    have HHS : Hid (((wo.alloc (.cells #[.slice pa ps.length pc, .slice ca cs.length cc, .int .i64 go, .int .i64 test, .slice na ns.length nc, .slice ra rs.length rc] 51)).alloc (.cells #[] 3)).heap.size = wo.heap.size + 2) := by show _ = _; simp
                    have cm1 : (wo.alloc (.cells #[.slice pa ps.length pc, .slice ca cs.length cc, .int .i64 go, .int .i64 test, .slice na ns.length nc, .slice ra rs.length rc] 51)).cell? ⟨mb, k, none⟩ = some (.slice ta r.length tc) := cell_below cm (below1 _ _)
                    clear bA zA hA hbox
                    go_wp2_with (at_builtin; refine wpList_append_sep eltInt rfl _ _ rfl w7.heap.size [cellOR 51 6 wo.heap.size [.slice pa ps.length pc, .slice ca cs.length cc, .int .i64 go, .int .i64 test, .slice na ns.length nc, .slice ra rs.length rc]] HSN.out rfl HN.out rfl (by omega) (by have := HHS.out; omega) ?_)
                    intro ya yc w8 hs8 hb8 hg8
                    have e8 : w8.cell? ⟨wo.heap.size, 1, none⟩ = some (.slice ca cs.length cc) := Sep.cell hs8 (x := cellOR 51 6 wo.heap.size [.slice pa ps.length pc, .slice ca cs.length cc, .int .i64 go, .int .i64 test, .slice na ns.length nc, .slice ra rs.length rc]) (by simp) (g := wo.heap.size) rfl (j := 1) rfl
                    have HS8 := hid hs8
                    have HB8 := hid (HBN.out.trans hb8)
                    clear hs8 hb8 hg8 HSN HN HBN HHS cm1 cm
                    go_wp2
                    go_loopw [15, 107] (fun t15 t107 wr => ∃ (j : Nat) (va : Option Addr) (vc : Nat), t107 = .int .i64 j ∧ j ≤ cs.length ∧ t15 = .slice va (ps ++ made (cs.take j)).length vc ∧ StepsOk N D (fun d => Dom (shapeL xs) d k) k ps (cs.take j) ∧ Sep wr w7.heap.size ([cellOR 51 6 wo.heap.size [.slice pa ps.length pc, .slice ca cs.length cc, .int .i64 go, .int .i64 test, .slice na ns.length nc, .slice ra rs.length rc]] ++ ⟨3, 1, .slice va (ps ++ made (cs.take j)).length vc, (ps ++ made (cs.take j)).length, ints (ps ++ made (cs.take j))⟩ :: []) ∧ Below w7.heap.size w7 wr) (fun _ t107 _ => cs.length - (intOf t107).toNat)
                    case atStart => exact ⟨0, ya, yc, rfl, by omega, by simp [made], by simp [StepsOk], by simpa [made] using HS8.out, HB8.out⟩
                    case round =>
                      obtain ⟨j, va, vc, rfl, hj, rfl, hso, hsep, hB⟩ := hrel
                      have HSO := hid hso
                      have HS9 := hid hsep
                      have HB9 := hid hB
                      obtain ⟨wz, rfl⟩ : ∃ wz : World, wz = wr := ⟨_, rfl⟩
                      obtain ⟨acc, hacc⟩ : ∃ l, ps ++ made (cs.take j) = l := ⟨_, rfl⟩
                      have hal : acc.length ≤ 2097152 := by rw [← hacc, List.length_append]; have := made_len (cs.take j); simp at this; omega
                      rw [hacc] at HS9 ⊢
                      have HA := hid hacc
                      clear hso hsep hB hacc HS8 HB8 e8
                      have hszz : w7.heap.size ≤ wz.heap.size := HB9.out.size
                      have HTH : Hid (∀ (W : World) (ua : Option Addr) (uc : Nat) (u : List Int), u.length ≤ 3000000 → Below wz.heap.size wz W → Row W ua u → Calls Tryz.prog 42 #[.slice ua u.length uc, .slice da D.length dc, .slice ta r.length tc, .slice va acc.length vc, .int .i64 k] W fun e w' => e = .returned (.bool (u.all (thereV D (nats r) acc k))) ∧ w' = W) := fun W ua uc u hu hW hru => by
                        have h1 : Row W da D := (own_row HD7.out.2).below (bstep' HB9.out hW)
                        have h2 : Row W ta (nats r) := HRR.out.below (bstep' HB9.out hW)
                        have h3 : Row W va acc := (own_row (HS9.out.1 ⟨3, 1, .slice va acc.length vc, acc.length, ints acc⟩ (by simp))).below hW
                        have := l9There_any u D (nats r) acc ua da ta va uc dc tc vc k W (by omega) (by rw [HDL.out]; omega) (by rw [nats_length]; exact hrl) (by omega) hru h1 h2 h3
                        rwa [nats_length] at this
                      by_cases hjt : j < cs.length
                      · obtain ⟨cb, coff, rfl, hcw, hcat⟩ := HI.out.code.at (by intro e; subst e; simp at hjt)
                        obtain ⟨p, d, t, x, y, n, f0, f1, f2, f3, f4, f5, HXF⟩ := hcat wz (bstep' HB7.out HB9.out) j hjt
                        clear hcat
                        have bF := below1 wz (.cells #[.int .i64 p, .int .i64 d, .int .i64 t, .int .i64 x, .int .i64 y, .int .i64 n] 64)
                        have cmX := cell_below (cell_below HCM0.out HB9.out) bF
                        have x0 : (wz.alloc (.cells #[.int .i64 p, .int .i64 d, .int .i64 t, .int .i64 x, .int .i64 y, .int .i64 n] 64)).cell? ⟨wz.heap.size, 0, none⟩ = some (.int .i64 p) := by simp [go_sem]
                        have x2 : (wz.alloc (.cells #[.int .i64 p, .int .i64 d, .int .i64 t, .int .i64 x, .int .i64 y, .int .i64 n] 64)).cell? ⟨wz.heap.size, 2, none⟩ = some (.int .i64 t) := by simp [go_sem]
                        have HX02 := hid (And.intro x0 x2)
                        have HCMX := hid cmX
                        have HBF := hid bF
                        have HUL : Hid ((usesF ⟨p, d, t, x, y, n⟩).length ≤ 2) := by show _ ≤ _; unfold usesF; split <;> (try split) <;> simp
                        obtain ⟨q, hq⟩ : ∃ q, (usesF ⟨p, d, t, x, y, n⟩).all (thereV D (nats r) acc k) = q := ⟨_, rfl⟩
                        have HQ := hid hq
                        obtain ⟨sb, hsb⟩ : ∃ g, setsB p = g := ⟨_, rfl⟩
                        have CS := hid (fun W => (hsb ▸ l9Sets_any p W : Calls Tryz.prog 44 #[.int .i64 p] W fun e w' => e = .returned (.bool sb) ∧ w' = W))
                        have HMS : Hid (ps ++ made (cs.take (j + 1)) = acc ++ if sb then [t] else []) := by
                          show _ = _
                          rw [List.take_add_one, HXF.out, ← HA.out, ← hsb]
                          simp only [Option.toList_some, made_snoc, List.append_assoc]
                        have HTK : Hid (cs = cs.take j ++ ⟨p, d, t, x, y, n⟩ :: cs.drop (j + 1)) := by
                          show _ = _
                          obtain ⟨h1, h2⟩ := List.getElem?_eq_some_iff.1 HXF.out
                          rw [← h2]; simp
                        clear hq hsb bF x0 x2 cmX
                        have cmX := HCMX.out
                        go_wp2
                        go_region_with (first | (go_at_call 43; refine (l9Uses_any p d t x y n _).mono ?_; rintro e w9 ⟨ua, uc, rfl, ho9, hb9⟩; have hm9 := cell_below cmX (below_of_drew hb9)) | (go_at_call 42; refine (HTH.out _ ua uc _ (by have := HUL.out; omega) (HBF.out.trans ((below_of_drew hb9).mono HBF.out.size)) (own_row ho9)).mono ?_; rw [HQ.out]; rintro e w10 ⟨rfl, hw10⟩))
                        all_goals
                          subst hw10
                          have HBX9 := hid (HBF.out.trans ((below_of_drew hb9).mono HBF.out.size))
                          have z0 := cell_below HX02.out.1 (below_of_drew hb9)
                          have z2 := cell_below HX02.out.2 (below_of_drew hb9)
                          have HSA := hid (Sep.below HS9.out HBX9.out)
                          have HBA9 := hid (bstep' HB9.out HBX9.out)
                          clear hb9 ho9 hm9 cmX
                          cases q
                          · have HNG : Hid (¬ GoodS N xs) := fun h => by
                              have h1 := (HPK.out h k _ HX.out).1
                              simp only [] at h1
                              rw [HTK.out] at h1
                              have h2 := (StepsOk.append.1 h1).2.1
                              rw [HA.out] at h2
                              have h3 := HQ.out
                              rw [List.all_eq_false] at h3
                              obtain ⟨v, hv, hn⟩ := h3
                              exact hn ((there_iff HDL.out HRM.out acc v).2 (h2 v hv))
                            go_wp2
                            go_ret
                            exact ⟨false, rfl, ⟨fun h => (by cases h), fun h => (HNG.out h).elim⟩, bstep' HB0.out (bstep' HB7.out HBA9.out)⟩
                          · have HSO2 : Hid (StepsOk N D (fun d => Dom (shapeL xs) d k) k ps (cs.take (j + 1))) := by
                              show StepsOk _ _ _ _ _ _
                              rw [List.take_add_one, HXF.out]
                              refine StepsOk.append.2 ⟨HSO.out, ?_, trivial⟩
                              rw [HA.out]
                              intro v hv
                              exact (there_iff HDL.out HRM.out acc v).1 (List.all_eq_true.1 HQ.out v hv)
                            go_wp2_with fail
                            refine (CS.out _).mono ?_
                            rintro e w11 ⟨rfl, hw11⟩
                            subst w11
                            cases sb
                            · go_wp2
                              go_roundw
                              case rel => exact ⟨j + 1, va, vc, by go_num, by omega, by rw [HMS.out]; simp, HSO2.out, by rw [HMS.out]; simpa using HSA.out, HBA9.out⟩
                              case measure => simp [intOf]; omega
                            · have bG := below1 w10 (.cells #[.int .i64 t] 3)
                              have HN2 := hid (News.one w10 (.int .i64 t) 3 w10.heap.size rfl rfl)
                              have HSG := hid (Sep.below HSA.out bG)
                              have HBG := hid (bstep' HBA9.out bG)
                              have hs99 : w7.heap.size ≤ w10.heap.size := HBA9.out.size
                              clear bG
                              go_wp2_with (at_builtin; refine wpList_append_sep eltInt rfl _ _ rfl w7.heap.size [cellOR 51 6 wo.heap.size [.slice pa ps.length pc, .slice (some ⟨cb, coff, none⟩) cs.length cc, .int .i64 go, .int .i64 test, .slice na ns.length nc, .slice ra rs.length rc]] HSG.out rfl HN2.out rfl (by omega) (by simp; omega) ?_)
                              intro ya2 yc2 w12 hs12 hb12 hg12
                              have HS12 := hid hs12
                              have HB12 := hid (HBG.out.trans hb12)
                              clear hs12 hb12 hg12
                              go_wp2
                              go_roundw
                              case rel =>
                                refine ⟨j + 1, ya2, yc2, by go_num, by omega, by rw [HMS.out]; simp, HSO2.out, ?_, HB12.out⟩
                                rw [HMS.out]
                                have := HS12.out
                                simp only [if_true, List.length_append, List.length_singleton, ints_append]
                                exact this
                              case measure => simp [intOf]; omega
                      · obtain rfl : j = cs.length := by omega
                        rw [List.take_of_length_le (Nat.le_refl _)] at HA HSO
                        have hbx : ∀ (i : Nat) v, [.slice pa ps.length pc, .slice ca cs.length cc, .int .i64 go, .int .i64 test, .slice na ns.length nc, .slice ra rs.length rc][i]? = some v → wz.cell? ⟨wo.heap.size, i, none⟩ = some v := fun i v hv => Sep.cell HS9.out (x := cellOR 51 6 wo.heap.size [.slice pa ps.length pc, .slice ca cs.length cc, .int .i64 go, .int .i64 test, .slice na ns.length nc, .slice ra rs.length rc]) (by simp) (g := wo.heap.size) rfl hv
                        have q0 := hbx 0 _ rfl
                        have q1 := hbx 1 _ rfl
                        have q2 := hbx 2 _ rfl
                        have q3 := hbx 3 _ rfl
                        have q4 := hbx 4 _ rfl
                        have q5 := hbx 5 _ rfl
                        have cmX := cell_below HCM0.out HB9.out
                        have CE := hid (fun (W : World) (hW : Below wz.heap.size wz W) => l9Ends_any go test ps cs ns rs pa ca na ra pc cc nc rc W l4 m5 (HI.out.args.below (bstep' HB7.out (bstep' HB9.out hW))))
                        obtain ⟨u, hu⟩ : ∃ u, endsM ⟨ps, cs, go, test, ns, rs⟩ = u := ⟨_, rfl⟩
                        have HUL : Hid (u.length ≤ 3000000) := by
                          show _ ≤ _
                          rw [← hu, endsM, List.length_append, flatten_len]
                          split <;> simp <;> omega
                        rw [hu] at CE
                        have HU := hid hu
                        obtain ⟨q, hq⟩ : ∃ q, u.all (thereV D (nats r) acc k) = q := ⟨_, rfl⟩
                        have HQ := hid hq
                        clear hu hq hbx
                        go_wp2
                        go_region_with (first | (go_at_call 45; refine (CE.out _ ((Below.refl _ _).drew)).mono ?_; rintro e w9 ⟨ua, uc, rfl, ho9, hb9⟩; have hm9 := cell_below cmX (below_of_drew hb9)) | (go_at_call 42; refine (HTH.out _ ua uc _ HUL.out (below_of_drew hb9) (own_row ho9)).mono ?_; rw [HQ.out]; rintro e w10 ⟨rfl, hw10⟩))
                        all_goals
                          subst hw10
                          have HBX9 := hid (below_of_drew hb9)
                          have HBA9 := hid (bstep' HB9.out HBX9.out)
                          clear hb9 ho9 hm9 cmX q0 q1 q2 q3 q4 q5
                          cases q
                          · have HNG : Hid (¬ GoodS N xs) := fun h => by
                              have h1 := (HPK.out h k _ HX.out).2
                              simp only [] at h1
                              rw [HA.out] at h1
                              have h3 := HQ.out
                              rw [List.all_eq_false] at h3
                              obtain ⟨v, hv, hn⟩ := h3
                              rw [← HU.out] at hv
                              exact hn ((there_iff HDL.out HRM.out acc v).2 (h1 v ((ends_mem _ v).1 hv)))
                            go_wp2
                            go_ret
                            exact ⟨false, rfl, ⟨fun h => (by cases h), fun h => (HNG.out h).elim⟩, bstep' HB0.out (bstep' HB7.out HBA9.out)⟩
                          · have HPO : Hid (PartOk N D (fun d => Dom (shapeL xs) d k) k ⟨ps, cs, go, test, ns, rs⟩) := by
                              refine ⟨HSO.out, fun v hv => ?_⟩
                              simp only []
                              rw [HA.out]
                              have hv2 := (ends_mem _ v).2 hv
                              rw [HU.out] at hv2
                              exact (there_iff HDL.out HRM.out acc v).1 (List.all_eq_true.1 HQ.out v hv2)
                            go_wp2
                            go_roundw
                            case rel => exact ⟨k + 1, by go_num, by omega, by
                              intro i p' hi hp'
                              by_cases e : i = k
                              · subst e; rw [HX.out] at hp'; cases hp'; exact ⟨HCO.out, HPO.out⟩
                              · exact HGD.out i p' (by omega) hp', HBA9.out⟩
                            case measure => simp [intOf]; omega
                · obtain rfl : k = xs.length := by omega
                  have HOK : Hid (GoodS N xs) := by
                    refine ⟨hp, hp2, hV, hV2, fun p hp' => ?_, HPS.out, fun p hp' h0 => ?_, fun k hk => ?_, D, by rw [Int.toNat_natCast]; exact HD7.out.1, fun k p hp' => by rw [Int.toNat_natCast]; exact (HGD.out k p (List.getElem?_eq_some_iff.1 hp').1 hp').2⟩
                    · rw [good_part, HPA.out p hp']
                      have h1 : allNext xs.length p.next = true := by
                        simp only [allNext, List.all_eq_true]
                        intro x hx
                        have := HNI.out p hp' x hx
                        simp [nextB, inB]; omega
                      have h2 : allBel N p.params = true := by
                        simp only [allBel, List.all_eq_true]
                        intro v hv
                        have := defs_in HD7.out.1 hp' (List.mem_append_left _ hv : v ∈ comes p)
                        simp [belB, inB]; omega
                      simp [h1, h2]
                    · have := HNI.out p hp' 0 h0; omega
                    · exact (HGD.out k _ hk (List.getElem?_eq_getElem hk)).1
                  go_wp2
                  go_ret
                  exact ⟨true, rfl, ⟨fun _ => HOK.out, fun _ => rfl⟩, bstep' HB0.out HBA.out⟩
end Go.Proofs.YteihecnmnajahaaGreatDoor
