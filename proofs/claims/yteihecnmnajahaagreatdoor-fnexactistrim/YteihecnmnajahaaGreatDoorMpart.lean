/- The model's test on a part. -/
import Derived.Test.YteihecnmnajahaaGreatDoorK7
import Derived.Test.YteihecnmnajahaaGreatDoorK6
import Derived.Deep.CutRange
import Derived.Deep.DeepCutAuto
import Derived.Deep.QuietTactic
import Derived.BigQuiet
namespace Go.Proofs.YteihecnmnajahaaGreatDoor
open Go.RowKit
set_option linter.unusedVariables false
set_option linter.unusedSimpArgs false
set_option maxRecDepth 100000

theorem l9Sets_any (p : Int) (w : World) : Calls Tryz.prog 44 #[.int .i64 p] w fun e w' => e = .returned (.bool (setsB p)) ∧ w' = w := by
  go_enter Tryz.func44, Tryz.ntmps44
  go_wp2_with fail
  refine (l1In_any _ _ _ _).mono ?_
  rintro e w' ⟨rfl, rfl⟩
  go_wp2
  go_ret
  exact ⟨rfl, rfl⟩
/-- what the model asks of a flat step, in its order -/
theorem good_split (V : Int) (hV : 1 ≤ V) (p d t x y n : Int) : goodFm V ⟨p, d, t, x, y, n⟩ = (goodFlt ⟨p, d, 0, 0, 0, n⟩ && (inB 0 (V - 1) t && (inB 0 (V - 1) x && (inB 0 (V - 1) y && ((setsB p || !(t != 0)) && ((!(p == 1) || !(x != 0)) && (!(p != 3 && p != 5) || !(y != 0)))))))) := by
  rw [Bool.eq_iff_iff]
  by_cases h1 : p = 1
  · subst h1; simp [goodFm, goodFlt, zB, inB, belB, nameB, setsB]; omega
  by_cases h2 : p = 2
  · subst h2; simp [goodFm, goodFlt, zB, inB, belB, nameB, setsB]; omega
  by_cases h3 : p = 3
  · subst h3; simp [goodFm, goodFlt, zB, inB, belB, nameB, setsB]; omega
  by_cases h4 : p = 4
  · subst h4; simp [goodFm, goodFlt, zB, inB, belB, nameB, setsB]; omega
  by_cases h5 : p = 5
  · subst h5; simp [goodFm, goodFlt, zB, inB, belB, nameB, setsB]; omega
  by_cases h6 : p = 6
  · subst h6; simp [goodFm, goodFlt, zB, inB, belB, nameB, setsB]; omega
  simp [goodFm, goodFlt, h1, h2, h3, h4, h5, h6]
theorem ways_split (V go test : Int) (n : Nat) : waysBm V go test n = (waysB go 0 n && (if go = 2 ∨ go = 5 then inB 0 (V - 1) test else decide (test = 0))) := by
  rw [Bool.eq_iff_iff]
  by_cases h1 : go = 1
  · subst h1; simp [waysBm, waysB, zB, inB, belB, nameB]
  by_cases h2 : go = 2
  · subst h2; simp [waysBm, waysB, zB, inB, belB, nameB]
  by_cases h3 : go = 3
  · subst h3; simp [waysBm, waysB, zB, inB, belB, nameB]
  by_cases h4 : go = 4
  · subst h4; simp [waysBm, waysB, zB, inB, belB, nameB]
  by_cases h5 : go = 5
  · subst h5; simp [waysBm, waysB, zB, inB, belB, nameB]
  simp [waysBm, waysB, h1, h2, h3, h4, h5]

/-- what the model's test on a part tells, its Next being parts -/
def partB (V : Int) (xs : List Prt) (p : Prt) : Bool := allFm V p.code && (waysBm V p.go p.test p.next.length && (decide (p.code.length ≤ 60) && fitArgs xs p))
theorem partB_code {V : Int} {xs : List Prt} {p : Prt} (h : allFm V p.code = false) : partB V xs p = false := by simp [partB, h]
theorem all2 {V : Int} {l : List Flt} {k : Nat} {x : Flt} (h : l[k]? = some x) (hx : goodFm V x = false) : allFm V l = false := all_bad h hx
/-- the fit of the lists of args, one by one -/
theorem fit_end {xs : List Prt} {p : Prt} (h : p.go = 3) : fitArgs xs p = (decide (p.args.length = 1) && decide (∃ l, p.args[0]? = some l ∧ l.length = 3)) := by
  rw [Bool.eq_iff_iff]
  simp only [fitArgs, handsOn, h, if_true, decide_eq_true_eq, Bool.and_eq_true]
  constructor
  · intro e
    cases ha : p.args with
    | nil => rw [ha] at e; simp at e
    | cons a r => rw [ha] at e; simp at e; simp [e.1, e.2]
  · rintro ⟨e1, l, e2, e3⟩
    cases ha : p.args with
    | nil => rw [ha] at e1; simp at e1
    | cons a r => rw [ha] at e1 e2; simp at e1 e2; subst e1; subst e2; simp [e3]
theorem fit_len {xs : List Prt} {p : Prt} (h : p.go ≠ 3) (hl : p.args.length ≠ p.next.length) : fitArgs xs p = false := by
  simp only [fitArgs, handsOn, if_neg h, decide_eq_false_iff_not]
  intro e
  have := congrArg List.length e
  simp at this
  exact hl this
theorem fit_all {xs : List Prt} {p : Prt} (h : p.go ≠ 3) (hl : p.args.length = p.next.length) (hk : ∀ (j : Nat) l x q, p.args[j]? = some l → p.next[j]? = some x → xs[x.toNat]? = some q → l.length = q.params.length) (hn : ∀ x ∈ p.next, x.toNat < xs.length) : fitArgs xs p = true := by
  simp only [fitArgs, handsOn, if_neg h, decide_eq_true_eq]
  apply List.ext_getElem?
  intro j
  simp only [List.getElem?_map]
  cases ha : p.args[j]? with
  | none => rw [List.getElem?_eq_none_iff] at ha; rw [List.getElem?_eq_none_iff.2 (by omega)]; rfl
  | some l =>
    have hj := (List.getElem?_eq_some_iff.1 ha).1
    obtain ⟨x, hx⟩ : ∃ x, p.next[j]? = some x := ⟨_, List.getElem?_eq_getElem (by omega)⟩
    have hxl := hn x (List.mem_of_getElem? hx)
    obtain ⟨q, hq⟩ : ∃ q, xs[x.toNat]? = some q := ⟨_, List.getElem?_eq_getElem hxl⟩
    rw [hx]
    simp [hq, hk j l x q ha hx hq]
theorem fit_bad {xs : List Prt} {p q : Prt} {j : Nat} {l : List Int} {x : Int} (h : p.go ≠ 3) (ha : p.args[j]? = some l) (hx : p.next[j]? = some x) (hq : xs[x.toNat]? = some q) (hl : l.length ≠ q.params.length) : fitArgs xs p = false := by
  simp only [fitArgs, handsOn, if_neg h, decide_eq_false_iff_not]
  intro e
  have := congrArg (fun z => z[j]?) e
  simp [ha, hx, hq] at this
  exact hl this
set_option maxHeartbeats 4000000 in
theorem l9Part_any (V : Int) (hV : 12 ≤ V) (hV2 : V ≤ 250) (xs : List Prt) (a : Option Addr) (c : Nat) (hxl : xs.length ≤ 11) (go test : Int) (ps : List Int) (cs : List Flt) (ns : List Int) (rs : List (List Int)) (pa ca na ra : Option Addr) (pc cc nc rc : Nat) (w : World) (l1 : ps.length ≤ 9223372036854775807) (l2 : cs.length ≤ 9223372036854775807) (l3 : ns.length ≤ 9223372036854775807) (l4 : rs.length ≤ 9223372036854775807) (hX : PRow w a xs) (h : PIn w ⟨ps, cs, go, test, ns, rs⟩ pa ca na ra) (hN : ∀ x ∈ ns, 0 < x ∧ x < xs.length) :
    Calls Tryz.prog 38 #[.agg #[.slice a xs.length c, .int .i64 V], .agg #[.slice pa ps.length pc, .slice ca cs.length cc, .int .i64 go, .int .i64 test, .slice na ns.length nc, .slice ra rs.length rc]] w fun e w' => e = .returned (.bool (partB V xs ⟨ps, cs, go, test, ns, rs⟩)) ∧ Below w.heap.size w w' := by
  obtain ⟨G, hG⟩ : ∃ G, partB V xs ⟨ps, cs, go, test, ns, rs⟩ = G := ⟨_, rfl⟩
  rw [hG]
  have HPB := hid hG
  have HF : Hid (∀ {k : Nat} {x : Flt}, cs[k]? = some x → goodFm V x = false → false = G) := fun {k x} h1 h2 => (partB_code (p := ⟨ps, cs, go, test, ns, rs⟩) (all2 h1 h2)).symm.trans hG
  obtain ⟨W0, hW0⟩ : ∃ W, W = (w.alloc (.cells #[.slice a xs.length c, .int .i64 V] 30)).alloc (.cells #[.slice pa ps.length pc, .slice ca cs.length cc, .int .i64 go, .int .i64 test, .slice na ns.length nc, .slice ra rs.length rc] 51) := ⟨_, rfl⟩
  have hB0 : Below w.heap.size w W0 := by rw [hW0]; exact below2 _ _ _
  have hsz : W0.heap.size = w.heap.size + 1 + 1 := by rw [hW0]; simp
  have k20 : W0.cell? ⟨w.heap.size, 0, none⟩ = some (.slice a xs.length c) := by rw [hW0]; simp [go_sem]
  have k21 : W0.cell? ⟨w.heap.size, 1, none⟩ = some (.int .i64 V) := by rw [hW0]; simp [go_sem]
  have k30 : W0.cell? ⟨w.heap.size + 1, 0, none⟩ = some (.slice pa ps.length pc) := by rw [hW0]; simp [go_sem]
  have k31 : W0.cell? ⟨w.heap.size + 1, 1, none⟩ = some (.slice ca cs.length cc) := by rw [hW0]; simp [go_sem]
  have k32 : W0.cell? ⟨w.heap.size + 1, 2, none⟩ = some (.int .i64 go) := by rw [hW0]; simp [go_sem]
  have k33 : W0.cell? ⟨w.heap.size + 1, 3, none⟩ = some (.int .i64 test) := by rw [hW0]; simp [go_sem]
  have k34 : W0.cell? ⟨w.heap.size + 1, 4, none⟩ = some (.slice na ns.length nc) := by rw [hW0]; simp [go_sem]
  have k35 : W0.cell? ⟨w.heap.size + 1, 5, none⟩ = some (.slice ra rs.length rc) := by rw [hW0]; simp [go_sem]
  have K := hid (fun (W : World) (hb : Below W0.heap.size W0 W) => And.intro (cell_below k20 hb) (And.intro (cell_below k21 hb) (And.intro (cell_below k30 hb) (And.intro (cell_below k31 hb) (And.intro (cell_below k32 hb) (And.intro (cell_below k33 hb) (And.intro (cell_below k34 hb) (cell_below k35 hb))))))))
  have HI := hid (fun (W : World) (hb : Below W0.heap.size W0 W) => And.intro (hX.below (bstep' hB0 hb)) (h.below (bstep' hB0 hb)))
  have HW0 := hid hW0
  have HB0 := hid hB0
  have HSZ := hid hsz
  have HNX := hid hN
  clear hG hX h hW0 hB0 hsz hN k30 k32 k33 k34 k35 k20 k21
  have k31' : ((w.alloc (.cells #[.slice a xs.length c, .int .i64 V] 30)).alloc (.cells #[.slice pa ps.length pc, .slice ca cs.length cc, .int .i64 go, .int .i64 test, .slice na ns.length nc, .slice ra rs.length rc] 51)).cell? ⟨w.heap.size + 1, 1, none⟩ = some (.slice ca cs.length cc) := by simp [go_sem]
  clear k31
  go_enter Tryz.func38, Tryz.ntmps38
  go_wp2
  go_loopw [14] (fun t14 wr => ∃ k : Nat, t14 = .int .i64 k ∧ k ≤ cs.length ∧ (∀ (j : Nat) x, j < k → cs[j]? = some x → goodFm V x = true) ∧ Below W0.heap.size W0 wr) (fun t14 _ => cs.length - (intOf t14).toNat)
  case atStart => exact ⟨0, rfl, by omega, by intro j x hj; omega, by rw [HW0.out]; exact Below.refl _ _⟩
  case round =>
    obtain ⟨k, rfl, hk, hgd, hB⟩ := hrel
    have HGD := hid hgd
    clear hgd k31'
    have hszr : w.heap.size + 2 ≤ wr.heap.size := by have := hB.size; have := HSZ.out; omega
    by_cases hlt : k < cs.length
    · have hx : cs ≠ [] := by intro e; subst e; simp at hlt
      obtain ⟨b, off, rfl, hbw, hat⟩ := (HI.out wr hB).2.code.at hx
      obtain ⟨p, d, t, x, y, n, c0, c1, c2, c3, c4, c5, HX⟩ := hat wr (Below.refl _ _) k hlt
      clear hat hx
      obtain ⟨g0, hg0⟩ : ∃ g, goodFlt ⟨p, d, 0, 0, 0, n⟩ = g := ⟨_, rfl⟩
      obtain ⟨i1, hi1⟩ : ∃ g, inB 0 (V - 1) t = g := ⟨_, rfl⟩
      obtain ⟨i2, hi2⟩ : ∃ g, inB 0 (V - 1) x = g := ⟨_, rfl⟩
      obtain ⟨i3, hi3⟩ : ∃ g, inB 0 (V - 1) y = g := ⟨_, rfl⟩
      obtain ⟨sb, hsb⟩ : ∃ g, setsB p = g := ⟨_, rfl⟩
      obtain ⟨bt, hbt⟩ : ∃ g, (t != 0) = g := ⟨_, rfl⟩
      obtain ⟨bx, hbx⟩ : ∃ g, (x != 0) = g := ⟨_, rfl⟩
      obtain ⟨by', hby⟩ : ∃ g, (y != 0) = g := ⟨_, rfl⟩
      obtain ⟨p1, hp1⟩ : ∃ g, (p == 1) = g := ⟨_, rfl⟩
      obtain ⟨p3, hp3⟩ : ∃ g, (p != 3) = g := ⟨_, rfl⟩
      obtain ⟨p5, hp5⟩ : ∃ g, (p != 5) = g := ⟨_, rfl⟩
      obtain ⟨gg, hgg⟩ : ∃ gg, goodFm V ⟨p, d, t, x, y, n⟩ = gg := ⟨_, rfl⟩
      have HGG := hid hgg
      have HG : Hid (gg = (g0 && (i1 && (i2 && (i3 && ((sb || !bt) && ((!p1 || !bx) && (!(p3 && p5) || !by')))))))) := by
        show _ = _
        rw [← hgg, good_split V (by omega), hg0, hi1, hi2, hi3, hsb, hbt, hbx, hby, hp1, hp3, hp5]
      have C1 := hid (fun W => (hg0 ▸ l6Flat_any p d 0 0 0 n W : Calls Tryz.prog 66 #[.agg #[.int .i64 p, .int .i64 d, .int .i64 0, .int .i64 0, .int .i64 0, .int .i64 n]] W fun e w' => e = .returned (.bool g0) ∧ Below W.heap.size W w'))
      have C2 := hid (fun W => (hi1 ▸ l1In_any t 0 (V - 1) W : Calls Tryz.prog 37 #[.int .i64 t, .int .i64 0, .int .i64 (V - 1)] W fun e w' => e = .returned (.bool i1) ∧ w' = W))
      have C3 := hid (fun W => (hi2 ▸ l1In_any x 0 (V - 1) W : Calls Tryz.prog 37 #[.int .i64 x, .int .i64 0, .int .i64 (V - 1)] W fun e w' => e = .returned (.bool i2) ∧ w' = W))
      have C4 := hid (fun W => (hi3 ▸ l1In_any y 0 (V - 1) W : Calls Tryz.prog 37 #[.int .i64 y, .int .i64 0, .int .i64 (V - 1)] W fun e w' => e = .returned (.bool i3) ∧ w' = W))
      have C5 := hid (fun W => (hsb ▸ l9Sets_any p W : Calls Tryz.prog 44 #[.int .i64 p] W fun e w' => e = .returned (.bool sb) ∧ w' = W))
      clear hg0 hi1 hi2 hi3 hsb hgg
      obtain ⟨v0, v1, -⟩ := K.out wr hB
      go_upto_region 8 with fail
      go_cut [14, 87] from 14 to 88 (fun t14 t87 wx => t14 = .int .i64 k ∧ t87 = .bool (!gg) ∧ Below W0.heap.size W0 wx)
      case rest =>
        obtain ⟨rfl, rfl, hBx⟩ := hcut
        clear HG
        cases gg with
        | false =>
          go_wp2
          go_ret
          exact ⟨ret_bool (HF.out HX.out HGG.out), bstep' HB0.out hBx⟩
        | true =>
          go_wp2
          go_roundw
          case rel => exact ⟨k + 1, by go_num, by omega, by
            intro j z hj hz
            by_cases e : j = k
            · subst e; rw [HX.out] at hz; cases hz; exact HGG.out
            · exact HGD.out j z (by omega) hz, hBx⟩
          case measure => simp [intOf]; omega
      clear HX HGD HGG
      simp only [List.append]
      go_wp2_with fail
      refine (C1.out _).mono ?_
      rintro e w1 ⟨rfl, hb1⟩
      obtain ⟨hcc, hff⟩ := bcell hb1
      have e1 : w1.cell? ⟨w.heap.size, 1, none⟩ = some (.int .i64 V) := by rw [hcc _ _ (by first | omega | (simp <;> omega))]; exact cell_below v1 (below2 _ _ _)
      have e2 : w1.cell? ⟨wr.heap.size, 0, none⟩ = some (.int .i64 p) := by rw [hcc _ _ (by simp <;> omega)]; simp [go_sem]
      have e3 : w1.cell? ⟨wr.heap.size, 2, none⟩ = some (.int .i64 t) := by rw [hcc _ _ (by simp <;> omega)]; simp [go_sem]
      have e4 : w1.cell? ⟨wr.heap.size, 3, none⟩ = some (.int .i64 x) := by rw [hcc _ _ (by simp <;> omega)]; simp [go_sem]
      have e5 : w1.cell? ⟨wr.heap.size, 4, none⟩ = some (.int .i64 y) := by rw [hcc _ _ (by simp <;> omega)]; simp [go_sem]
      have HB1 := hid (bstep' (bstep' hB (below2 wr _ _)) (by simpa using hb1))
      clear hcc hff hb1 v0 v1
      have HBW : Hid (Below w.heap.size w w1) := bstep' HB0.out HB1.out
      cases g0
      · go_wp2_with fail
        go_meet
        exact ⟨rfl, congrArg Value.bool (by rw [HG.out]; rfl), HB1.out⟩
      · go_wp2_with fail
        refine (C2.out _).mono ?_
        rintro e w2 ⟨rfl, hw2⟩
        subst w2
        cases i1
        · go_wp2_with fail
          go_meet
          exact ⟨rfl, congrArg Value.bool (by rw [HG.out]; rfl), HB1.out⟩
        · go_wp2_with fail
          refine (C3.out _).mono ?_
          rintro e w2 ⟨rfl, hw2⟩
          subst w2
          cases i2
          · go_wp2_with fail
            go_meet
            exact ⟨rfl, congrArg Value.bool (by rw [HG.out]; rfl), HB1.out⟩
          · go_wp2_with fail
            refine (C4.out _).mono ?_
            rintro e w2 ⟨rfl, hw2⟩
            subst w2
            cases i3
            · go_wp2_with fail
              go_meet
              exact ⟨rfl, congrArg Value.bool (by rw [HG.out]; rfl), HB1.out⟩
            · go_wp2_with fail
              refine (C5.out _).mono ?_
              rintro e w2 ⟨rfl, hw2⟩
              subst w2
              cases sb
              · cases bt
                · cases p1
                  · cases p3
                    · go_wp2_with fail
                      go_meet
                      exact ⟨rfl, congrArg Value.bool (by rw [HG.out]; rfl), HB1.out⟩
                    · cases p5
                      · go_wp2_with fail
                        go_meet
                        exact ⟨rfl, congrArg Value.bool (by rw [HG.out]; rfl), HB1.out⟩
                      · cases by'
                        · go_wp2_with fail
                          go_meet
                          exact ⟨rfl, congrArg Value.bool (by rw [HG.out]; rfl), HB1.out⟩
                        · go_wp2_with fail
                          go_meet
                          exact ⟨rfl, congrArg Value.bool (by rw [HG.out]; rfl), HB1.out⟩
                  · cases bx
                    · cases p3
                      · go_wp2_with fail
                        go_meet
                        exact ⟨rfl, congrArg Value.bool (by rw [HG.out]; rfl), HB1.out⟩
                      · cases p5
                        · go_wp2_with fail
                          go_meet
                          exact ⟨rfl, congrArg Value.bool (by rw [HG.out]; rfl), HB1.out⟩
                        · cases by'
                          · go_wp2_with fail
                            go_meet
                            exact ⟨rfl, congrArg Value.bool (by rw [HG.out]; rfl), HB1.out⟩
                          · go_wp2_with fail
                            go_meet
                            exact ⟨rfl, congrArg Value.bool (by rw [HG.out]; rfl), HB1.out⟩
                    · go_wp2_with fail
                      go_meet
                      exact ⟨rfl, congrArg Value.bool (by rw [HG.out]; rfl), HB1.out⟩
                · go_wp2_with fail
                  go_meet
                  exact ⟨rfl, congrArg Value.bool (by rw [HG.out]; rfl), HB1.out⟩
              · cases p1
                · cases p3
                  · go_wp2_with fail
                    go_meet
                    exact ⟨rfl, congrArg Value.bool (by rw [HG.out]; rfl), HB1.out⟩
                  · cases p5
                    · go_wp2_with fail
                      go_meet
                      exact ⟨rfl, congrArg Value.bool (by rw [HG.out]; rfl), HB1.out⟩
                    · cases by'
                      · go_wp2_with fail
                        go_meet
                        exact ⟨rfl, congrArg Value.bool (by rw [HG.out]; rfl), HB1.out⟩
                      · go_wp2_with fail
                        go_meet
                        exact ⟨rfl, congrArg Value.bool (by rw [HG.out]; rfl), HB1.out⟩
                · cases bx
                  · cases p3
                    · go_wp2_with fail
                      go_meet
                      exact ⟨rfl, congrArg Value.bool (by rw [HG.out]; rfl), HB1.out⟩
                    · cases p5
                      · go_wp2_with fail
                        go_meet
                        exact ⟨rfl, congrArg Value.bool (by rw [HG.out]; rfl), HB1.out⟩
                      · cases by'
                        · go_wp2_with fail
                          go_meet
                          exact ⟨rfl, congrArg Value.bool (by rw [HG.out]; rfl), HB1.out⟩
                        · go_wp2_with fail
                          go_meet
                          exact ⟨rfl, congrArg Value.bool (by rw [HG.out]; rfl), HB1.out⟩
                  · go_wp2_with fail
                    go_meet
                    exact ⟨rfl, congrArg Value.bool (by rw [HG.out]; rfl), HB1.out⟩
    · obtain rfl : k = cs.length := by omega
      have HAL : Hid (allFm V cs = true) := all_of (fun j z hz => HGD.out j z (List.getElem?_eq_some_iff.1 hz).1 hz)
      clear HGD HF
      have HSP : Hid (G = (waysB go 0 ns.length && ((if go = 2 ∨ go = 5 then inB 0 (V - 1) test else decide (test = 0)) && (decide (cs.length ≤ 60) && fitArgs xs ⟨ps, cs, go, test, ns, rs⟩)))) := by
        show _ = _
        rw [← HPB.out]
        simp only [partB, HAL.out, ways_split, Bool.true_and, Bool.and_assoc]
      have C1 := hid (fun W (hb : Below W0.heap.size W0 W) => l6Block_any go 0 [] ns none na 0 nc xs.length W (by simp) l3 (.inl rfl) (HI.out W hb).2.next)
      have HGB : Hid (goodBlk xs.length ⟨[], go, 0, ns⟩ = waysB go 0 ns.length) := by
        show _ = _
        have h1 : allFlt [] = true := rfl
        have h2 : allNext xs.length ns = true := by
          simp only [allNext, List.all_eq_true]
          intro z hz
          have := HNX.out z hz
          simp [nextB, inB]; omega
        simp [goodBlk, h1, h2]
      obtain ⟨tb, htb⟩ : ∃ tb, (if go = 2 ∨ go = 5 then inB 0 (V - 1) test else decide (test = 0)) = tb := ⟨_, rfl⟩
      obtain ⟨wb, hwb⟩ : ∃ wb, waysB go 0 ns.length = wb := ⟨_, rfl⟩
      obtain ⟨q, hq⟩ : ∃ q, (wb && (tb && decide (cs.length ≤ 60))) = q := ⟨_, rfl⟩
      have HQ := hid hq
      obtain ⟨z, hz⟩ : ∃ z, (!q) = z := ⟨_, rfl⟩
      have HZ := hid hz
      have HG2 : Hid (G = (q && fitArgs xs ⟨ps, cs, go, test, ns, rs⟩)) := by
        show _ = _
        rw [HSP.out, htb, hwb, ← hq]; simp [Bool.and_assoc]
      rw [hwb] at HGB
      have HTB := hid htb
      clear HSP htb hwb hq hz HPB
      obtain ⟨v0, v1, v2, v3, v4, v5, v6, v7⟩ := K.out wr hB
      go_upto_region 12 with fail
      go_cut [139] from 89 to 139 (fun t139 wx => t139 = .bool z ∧ Below W0.heap.size W0 wx)
      case first =>
        have bA := below1 wr (.cells #[.slice none 0 0, .int .i64 go, .int .i64 0, .slice na ns.length nc] 98)
        have B1 := hid (bstep' hB bA)
        have a0 := cell_below v0 bA
        have a1 := cell_below v1 bA
        have a3 := cell_below v3 bA
        have a4 := cell_below v4 bA
        have a5 := cell_below v5 bA
        have e60 : ((60 : Int) < (cs.length : Int)) ∨ ¬ ((60 : Int) < (cs.length : Int)) := by omega
        have D1 := hid (C1.out _ B1.out)
        rw [HGB.out] at D1
        clear v0 v1 v2 v3 v4 v5 v6 v7 C1 HGB
        by_cases h2 : go = 2
        · skip
          subst h2
          have htb : inB 0 (V - 1) test = tb := by simpa using HTB.out
          have C2 := hid (fun W => (htb ▸ l1In_any test 0 (V - 1) W : Calls Tryz.prog 37 #[.int .i64 test, .int .i64 0, .int .i64 (V - 1)] W fun e w' => e = .returned (.bool tb) ∧ w' = W))
          clear htb HTB
          go_wp2_with fail
          refine (C2.out _).mono ?_
          rintro e w1 ⟨rfl, hw1⟩
          subst w1
          cases tb
          · go_wp2_with fail
            go_meet
            exact ⟨congrArg Value.bool (by rw [← HZ.out, ← HQ.out]; simp), B1.out⟩
          · skip
            go_wp2_with fail
            refine D1.out.mono ?_
            rintro e w1 ⟨rfl, hb1⟩
            have d3 := cell_below a3 hb1
            have B2 := hid (bstep' B1.out hb1)
            clear hb1
            cases wb
            · go_wp2_with fail
              go_meet
              exact ⟨congrArg Value.bool (by rw [← HZ.out, ← HQ.out]; simp), B2.out⟩
            · by_cases h60 : (60 : Int) < (cs.length : Int)
              · have hd : decide (cs.length ≤ 60) = false := by simp; omega
                go_wp2_with fail
                go_meet
                exact ⟨congrArg Value.bool (by rw [← HZ.out, ← HQ.out, hd]; first | rfl | (simp; omega)), B2.out⟩
              · have hd : decide (cs.length ≤ 60) = true := by simp; omega
                go_wp2_with fail
                go_meet
                exact ⟨congrArg Value.bool (by rw [← HZ.out, ← HQ.out, hd]; first | rfl | (simp; omega)), B2.out⟩
        by_cases h5 : go = 5
        · skip
          subst h5
          have htb : inB 0 (V - 1) test = tb := by simpa using HTB.out
          have C2 := hid (fun W => (htb ▸ l1In_any test 0 (V - 1) W : Calls Tryz.prog 37 #[.int .i64 test, .int .i64 0, .int .i64 (V - 1)] W fun e w' => e = .returned (.bool tb) ∧ w' = W))
          clear htb HTB
          go_wp2_with fail
          refine (C2.out _).mono ?_
          rintro e w1 ⟨rfl, hw1⟩
          subst w1
          cases tb
          · go_wp2_with fail
            go_meet
            exact ⟨congrArg Value.bool (by rw [← HZ.out, ← HQ.out]; simp), B1.out⟩
          · skip
            go_wp2_with fail
            refine D1.out.mono ?_
            rintro e w1 ⟨rfl, hb1⟩
            have d3 := cell_below a3 hb1
            have B2 := hid (bstep' B1.out hb1)
            clear hb1
            cases wb
            · go_wp2_with fail
              go_meet
              exact ⟨congrArg Value.bool (by rw [← HZ.out, ← HQ.out]; simp), B2.out⟩
            · by_cases h60 : (60 : Int) < (cs.length : Int)
              · have hd : decide (cs.length ≤ 60) = false := by simp; omega
                go_wp2_with fail
                go_meet
                exact ⟨congrArg Value.bool (by rw [← HZ.out, ← HQ.out, hd]; first | rfl | (simp; omega)), B2.out⟩
              · have hd : decide (cs.length ≤ 60) = true := by simp; omega
                go_wp2_with fail
                go_meet
                exact ⟨congrArg Value.bool (by rw [← HZ.out, ← HQ.out, hd]; first | rfl | (simp; omega)), B2.out⟩
        have g2 : (go == 2) = false := by simp [h2]
        have g5 : (go == 5) = false := by simp [h5]
        have n2 : (go != 2) = true := by simp [h2]
        have n5 : (go != 5) = true := by simp [h5]
        have htb : decide (test = 0) = tb := by have := HTB.out; rw [if_neg (by omega)] at this; exact this
        have ht0 : (test != 0) = !tb := by rw [← htb]; simp [bne, BEq.beq]
        clear htb HTB
        cases tb
        · go_wp2_with fail
          go_meet
          exact ⟨congrArg Value.bool (by rw [← HZ.out, ← HQ.out]; simp), B1.out⟩
        · skip
          go_wp2_with fail
          refine D1.out.mono ?_
          rintro e w1 ⟨rfl, hb1⟩
          have d3 := cell_below a3 hb1
          have B2 := hid (bstep' B1.out hb1)
          clear hb1
          cases wb
          · go_wp2_with fail
            go_meet
            exact ⟨congrArg Value.bool (by rw [← HZ.out, ← HQ.out]; simp), B2.out⟩
          · by_cases h60 : (60 : Int) < (cs.length : Int)
            · have hd : decide (cs.length ≤ 60) = false := by simp; omega
              go_wp2_with fail
              go_meet
              exact ⟨congrArg Value.bool (by rw [← HZ.out, ← HQ.out, hd]; first | rfl | (simp; omega)), B2.out⟩
            · have hd : decide (cs.length ≤ 60) = true := by simp; omega
              go_wp2_with fail
              go_meet
              exact ⟨congrArg Value.bool (by rw [← HZ.out, ← HQ.out, hd]; first | rfl | (simp; omega)), B2.out⟩
      case rest =>
        obtain ⟨rfl, hBx⟩ := hcut
        have HBx := hid (bstep' HB0.out hBx)
        obtain ⟨v0, v1, v2, v3, v4, v5, v6, v7⟩ := K.out wc hBx
        clear HGB HTB C1 HQ
        obtain ⟨rfl⟩ : q = !z := by rw [← HZ.out]; simp
        clear HZ
        cases z
        rotate_left
        · go_wp2
          go_ret
          exact ⟨ret_bool (by rw [HG2.out]; rfl), HBx.out⟩
        · rw [Bool.not_false, Bool.true_and] at HG2
          by_cases h3 : go = 3
          · subst h3
            have hfe := fit_end (xs := xs) (p := ⟨ps, cs, 3, test, ns, rs⟩) rfl
            simp only [] at hfe
            by_cases hr : rs.length = 1
            · obtain ⟨l, hl⟩ : ∃ l, rs = [l] := by
                cases rs with
                | nil => simp at hr
                | cons x r => cases r with
                  | nil => exact ⟨x, rfl⟩
                  | cons y z => simp at hr
              subst hl
              obtain ⟨b, off, rfl, hbw, hat⟩ := (HI.out wc hBx).2.args.at (by simp)
              obtain ⟨t, ta, tc, r0, rl, HR, HX⟩ := hat wc (Below.refl _ _) 0 (by simp)
              obtain rfl : l = t := by have := HX.out; simpa using this
              simp only [Nat.add_zero] at r0
              have HFE : Hid (G = decide ((l.length : Int) = 3)) := by
                show _ = _
                rw [HG2.out, hfe]; simp
                omega
              clear hat hfe HR HX
              go_wp2
              go_ret
              exact ⟨ret_bool (by rw [HFE.out]; simp [BEq.beq]), HBx.out⟩
            · have hr1 : ((rs.length : Int) == 1) = false := by simp; omega
              have HFE : Hid (G = false) := by
                show _ = _
                rw [HG2.out, hfe]; simp [hr]
              clear hfe
              go_wp2
              go_ret
              exact ⟨ret_bool (by rw [HFE.out]), HBx.out⟩
          · have g3 : (go == 3) = false := by simp [h3]
            by_cases hrl : rs.length = ns.length
            · have e1 : ((rs.length : Int) != (ns.length : Int)) = false := by simp [hrl]
              have HRL := hid hrl
              clear hrl
              go_wp2
              go_loopw [165] (fun t165 wq => ∃ (j q : Nat), t165 = .int .i64 j ∧ j ≤ ns.length ∧ (∀ (i : Nat) l x y, i < j → rs[i]? = some l → ns[i]? = some x → xs[x.toNat]? = some y → l.length = y.params.length) ∧ wq = wc.drewN q) (fun t165 _ => ns.length - (intOf t165).toNat)
              case atStart => exact ⟨0, 0, rfl, by omega, by intro i l x y hi; omega, rfl⟩
              case round =>
                obtain ⟨j, q, rfl, hj, hfit, hwq⟩ := hrel
                have HFIT := hid hfit
                have HWQ := hid hwq
                have y0 : wr.cell? ⟨w.heap.size, 0, none⟩ = some (.slice a xs.length c) := by rw [hwq]; exact v0
                have y7 : wr.cell? ⟨w.heap.size + 1, 5, none⟩ = some (.slice ra rs.length rc) := by rw [hwq]; exact v7
                have BQ := hid (below_drewN HBx.out q)
                by_cases hjt : j < ns.length
                · obtain ⟨x, hx⟩ : ∃ x, ns[j]? = some x := ⟨_, List.getElem?_eq_getElem hjt⟩
                  obtain ⟨hx0, hx1⟩ := HNX.out x (List.mem_of_getElem? hx)
                  obtain ⟨m, hm⟩ : ∃ m : Nat, x = m := ⟨x.toNat, by omega⟩
                  subst hm
                  have hj2 : j < rs.length := by have := HRL.out; omega
                  have hm2 : m < xs.length := by omega
                  have hrs : rs ≠ [] := by intro e; have := HRL.out; rw [e] at this; simp at this; omega
                  have hxs : xs ≠ [] := by intro e; rw [e] at hx1; simp at hx1; omega
                  obtain ⟨nb, noff, rfl, hnb, hnat⟩ := (HI.out wc hBx).2.next.at (by intro e; simp only [] at e; rw [e] at hjt; simp at hjt)
                  obtain ⟨rb, roff, rfl, hrb, hrat⟩ := (HI.out wc hBx).2.args.at hrs
                  obtain ⟨xb, xoff, rfl, hxb, hxat⟩ := (HI.out wc hBx).1.at hxs
                  obtain ⟨x', cn, HXN⟩ := hnat wr (by rw [hwq]; exact below_drewN (Below.refl _ _) q) j hjt
                  obtain rfl : (m : Int) = x' := Option.some.inj (hx.symm.trans HXN.out)
                  obtain ⟨t, ta, tc, cr, rl, HR, HXR⟩ := hrat wr (by rw [hwq]; exact below_drewN (Below.refl _ _) q) j (by have := HRL.out; omega)
                  obtain ⟨ps', cs', go', test', ns', rs', pa', pc', ca', cc', na', nc', ra', rc', cx, _, _, _, _, _, m1, m2, m3, m4, HIX, HXX⟩ := hxat wr (by rw [hwq]; exact below_drewN (Below.refl _ _) q) m (by omega)
                  clear hwq hnat hrat hxat hx
                  by_cases hl : t.length = ps'.length
                  · have e2 : ((t.length : Int) != (ps'.length : Int)) = false := by simp [hl]
                    have HL := hid hl
                    clear hl
                    go_wp2
                    go_quiet (fail)
                    go_wp2
                    go_roundw
                    case rel =>
                      refine ⟨j + 1, q + nq, by go_num, by omega, ?_, by rw [HWQ.out]; simp⟩
                      intro i l x y hi h1 h2 h3
                      by_cases e : i = j
                      · subst e
                        rw [HXR.out] at h1; cases h1
                        rw [HXN.out] at h2; cases h2
                        rw [Int.toNat_natCast, HXX.out] at h3; cases h3
                        exact HL.out
                      · exact HFIT.out i l x y (by omega) h1 h2 h3
                    case measure => simp [intOf]; omega
                  · have e2 : ((t.length : Int) != (ps'.length : Int)) = true := by simp; omega
                    have HB9 : Hid (G = false) := by
                      show _ = _
                      rw [HG2.out]
                      exact fit_bad (p := ⟨ps, cs, go, test, ns, rs⟩) (j := j) (l := t) (x := (m : Int)) (q := ⟨ps', cs', go', test', ns', rs'⟩) h3 HXR.out HXN.out (by rw [Int.toNat_natCast]; exact HXX.out) hl
                    clear hl
                    go_wp2
                    go_quiet (fail)
                    go_wp2
                    go_ret
                    exact ⟨ret_bool HB9.out.symm, below_drewN (by rw [HWQ.out]; exact BQ.out) _⟩
                · have HB9 : Hid (G = true) := by
                    show _ = _
                    rw [HG2.out]
                    refine fit_all (p := ⟨ps, cs, go, test, ns, rs⟩) h3 HRL.out (fun i l x y h1 h2 h4 => HFIT.out i l x y ?_ h1 h2 h4) (fun x hx => ?_)
                    · have := (List.getElem?_eq_some_iff.1 h2).1; simp only [] at this; omega
                    · have := HNX.out x hx; omega
                  clear hwq
                  go_wp2
                  go_ret
                  exact ⟨ret_bool HB9.out.symm, by rw [HWQ.out]; exact BQ.out⟩
            · have e1 : ((rs.length : Int) != (ns.length : Int)) = true := by simp; omega
              have HB9 : Hid (G = false) := by
                show _ = _
                rw [HG2.out]
                exact fit_len (p := ⟨ps, cs, go, test, ns, rs⟩) h3 hrl
              go_wp2
              go_ret
              exact ⟨ret_bool HB9.out.symm, HBx.out⟩
end Go.Proofs.YteihecnmnajahaaGreatDoor
