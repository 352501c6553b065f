/- The model's loops of a graph. -/
import Derived.Test.YtiadmmnnbnamjaaGreatQ3
import Derived.Test.YtiadmmnnbnamjaaGreatQ4
import Derived.BigQuiet
namespace Go.Proofs.YtiadmmnnbnamjaaGreat
section
open Go Go.RowKit
set_option linter.unusedVariables false
set_option linter.unusedSimpArgs false
set_option maxRecDepth 100000

theorem sHas_any (a b : Option Addr) (c d : Nat) (S T : List Nat) (w : World) (hl : S.length ≤ 1000) (hm : T.length ≤ 1000) (h : Row w a (nats S)) (k : Row w b (nats T)) :
    Calls Tryz.prog 65 #[.slice a S.length c, .slice b T.length d] w fun e w' => e = .returned (.bool (allIn S T)) ∧ w' = w := by
  have HH := hid (fun x : Nat => hasR_any a c S x w hl h)
  have HK := hid k
  clear h k
  go_enter Tryz.func65, Tryz.ntmps65
  go_wp2
  go_loop [9] (fun t9 => ∃ j : Nat, t9 = .int .i64 j ∧ j ≤ T.length ∧ allIn S (T.take j) = true) (fun t9 => T.length - (intOf t9).toNat)
  case atStart => exact ⟨0, rfl, by omega, by simp [allIn]⟩
  case round =>
    obtain ⟨j, rfl, hj, ha⟩ := hrel
    by_cases hjl : j < T.length
    · obtain ⟨x, hx⟩ : ∃ x, T[j]? = some x := ⟨_, List.getElem?_eq_getElem hjl⟩
      have hne : nats T ≠ [] := by intro e; have := congrArg List.length e; rw [nats_length] at this; simp only [List.length_nil] at this; omega
      obtain ⟨tb, toff, rfl, htb, hcs⟩ := HK.out.at hne
      obtain ⟨x', hcx, hx'⟩ := hcs w (Below.refl _ _) j (by rw [nats_length]; exact hjl)
      obtain rfl : x' = (x : Int) := by have := hx'.out; simp [nats, hx] at this; exact this.symm
      have H1 := hid (HH.out x)
      have HE : Hid (allIn S (T.take (j + 1)) = decide (x ∈ S)) := by
        show _ = _
        unfold allIn at ha ⊢
        rw [List.take_add_one, hx, List.all_append, ha]
        simp
      have hxm := List.mem_of_getElem? hx
      clear hx hne hcs hx' HH
      by_cases hin : x ∈ S
      · have tx : decide (x ∈ S) = true := decide_eq_true hin
        rw [tx] at H1 HE
        go_wp2_with fail
        refine H1.out.mono ?_
        rintro e w4 ⟨rfl, hw4⟩
        subst w4
        go_wp2
        go_round
        case rel => exact ⟨j + 1, by go_num, by omega, HE.out⟩
        case measure => simp [intOf]; omega
      · have tx : decide (x ∈ S) = false := decide_eq_false hin
        have HF : Hid (allIn S T = false) := by
          show _ = _
          cases hb : allIn S T
          · rfl
          · unfold allIn at hb
            have := List.all_eq_true.1 hb x hxm
            rw [tx] at this
            cases this
        rw [tx] at H1
        go_wp2_with fail
        refine H1.out.mono ?_
        rintro e w4 ⟨rfl, hw4⟩
        subst w4
        go_wp2
        go_ret
        exact ⟨by simp [HF.out], rfl⟩
    · obtain rfl : j = T.length := by omega
      rw [List.take_of_length_le (Nat.le_refl _)] at ha
      go_wp2
      go_ret
      exact ⟨by simp [ha], rfl⟩
end

section
open Go Go.RowKit
set_option linter.unusedVariables false
set_option linter.unusedSimpArgs false
set_option maxRecDepth 100000

/-- edges as lists -/
def pairN (es : List (Nat × Nat)) : List (List Nat) := es.map fun e => [e.1, e.2]
theorem pairN_nats (es : List (Nat × Nat)) : (pairN es).map nats = pairsL es := by simp [pairN, pairsL, nats]
theorem pairN_at {es : List (Nat × Nat)} {j : Nat} {e : Nat × Nat} (h : es[j]? = some e) : (pairN es)[j]? = some [e.1, e.2] := by simp [pairN, h]
def boolN (v : Value) : Nat := match v with | .bool true => 1 | _ => 0
theorem boolN_true : boolN (.bool true) = 1 := rfl
theorem boolN_false : boolN (.bool false) = 0 := rfl
theorem sLoops_bad (a : Option Addr) (c : Nat) (xs : List (List Int)) (w : World) (hl : xs.length ≤ 9223372036854775807) (h : LRow w a xs) (hG : ¬ GoodG xs) :
    Calls Tryz.prog 30 #[.agg #[.slice a xs.length c]] w fun e w' => e = .returned (.tuple #[.slice none 0 0, .bool false]) ∧ Below w.heap.size w w' := by
  have b0 := below1 w (.cells #[.slice a xs.length c] 25)
  have HG := hid (sGood_any a c xs false (w.alloc (.cells #[.slice a xs.length c] 25)) hl (LRow.below h b0) (by simp [hG]))
  clear h
  go_enter Tryz.func30, Tryz.ntmps30
  go_wp2_with fail
  refine HG.out.mono ?_
  rintro e w1 ⟨rfl, hb1⟩
  go_wp2
  go_ret2
  exact ⟨rfl, bstep' b0 hb1⟩
/-- what the loops are, with where each lies -/
structure LoopsAre (g D : List (List Nat)) (ys : List PV) : Prop where
  rings : Rings g D g.length (loopsP ys)
  ups : ∀ (i : Nat) y, ys[i]? = some y → y.up = upTo (loopsP ys) i (loopsP ys).length
/-- where the loops lie, while the model looks: those ahead of one are told, of that one so many were looked at -/
def UpsTo (Ls : List (Nat × List Nat)) (i k : Nat) (zs : List PV) : Prop := ∀ (j : Nat) z, zs[j]? = some z → z.up = if j < i then upTo Ls j Ls.length else if j = i then upTo Ls i k else -1
def UpsAt (Ls : List (Nat × List Nat)) (i : Nat) (zs : List PV) : Prop := ∀ (j : Nat) z, zs[j]? = some z → z.up = if j < i then upTo Ls j Ls.length else -1
theorem UpsAt.begin {Ls : List (Nat × List Nat)} {zs : List PV} (h : ∀ y ∈ zs, y.up = -1) : UpsAt Ls 0 zs := fun j z hz => by rw [if_neg (by omega)]; exact h z (List.mem_of_getElem? hz)
theorem UpsAt.to {Ls : List (Nat × List Nat)} {i : Nat} {zs : List PV} (h : UpsAt Ls i zs) : UpsTo Ls i 0 zs := fun j z hz => by
  rw [h j z hz, upTo_zero]
  split
  · rfl
  · split <;> rfl
theorem UpsTo.same {Ls : List (Nat × List Nat)} {i k : Nat} {zs : List PV} (h : UpsTo Ls i k zs) (e : upTo Ls i (k + 1) = upTo Ls i k) : UpsTo Ls i (k + 1) zs := fun j z hz => by rw [e]; exact h j z hz
theorem UpsTo.at {Ls : List (Nat × List Nat)} {i k : Nat} {zs : List PV} (h : UpsTo Ls i k zs) {y : PV} (hy : zs[i]? = some y) : y.up = upTo Ls i k := by
  have := h i y hy
  rw [if_neg (by omega), if_pos rfl] at this
  exact this
theorem UpsTo.set {Ls : List (Nat × List Nat)} {i k : Nat} {zs : List PV} (h : UpsTo Ls i k zs) {y : PV} (hy : zs[i]? = some y) {u : Int} (e : upTo Ls i (k + 1) = u) : UpsTo Ls i (k + 1) (zs.set i { y with up := u }) := fun j z hz => by
  have hil := (List.getElem?_eq_some_iff.1 hy).1
  rw [List.getElem?_set] at hz
  by_cases hij : i = j
  · subst hij
    rw [if_pos rfl, if_pos hil] at hz
    injection hz with hz
    rw [if_neg (by omega), if_pos rfl, e, ← hz]
  · rw [if_neg hij] at hz
    have := h j z hz
    rw [if_neg (show ¬ j = i by omega)] at this ⊢
    exact this
theorem UpsTo.end {Ls : List (Nat × List Nat)} {i : Nat} {zs : List PV} (h : UpsTo Ls i Ls.length zs) : UpsAt Ls (i + 1) zs := fun j z hz => by
  rw [h j z hz]
  by_cases h1 : j < i
  · rw [if_pos h1, if_pos (by omega)]
  · rw [if_neg h1]
    by_cases h2 : j = i
    · subst h2
      rw [if_pos rfl, if_pos (by omega)]
    · rw [if_neg h2, if_neg (by omega)]
theorem OwnP.drewN {w : World} {B : Nat} {v : Value} {ys : List PV} (q : Nat) (h : OwnP w B v ys) : OwnP (w.drewN q) B v ys := h.below (below_drewN (Below.refl _ _) _)
set_option maxHeartbeats 16000000 in
theorem sLoops_good {g D : List (List Nat)} (G : Gr g) (hD : IsDoms g D) (a : Option Addr) (c : Nat) (w : World) (h : GRow w a g) (hG : GoodG (g.map nats)) :
    Calls Tryz.prog 30 #[.agg #[.slice a g.length c]] w fun e w' => ((Cyc2 g D ∧ e = .returned (.tuple #[.slice none 0 0, .bool false])) ∨ (¬ Cyc2 g D ∧ ∃ v ys, e = .returned (.tuple #[v, .bool true]) ∧ OwnP w' w.heap.size v ys ∧ LoopsAre g D ys)) ∧ Below w.heap.size w w' := by
  have hgm := G.most
  have b0 := below1 w (.cells #[.slice a g.length c] 25)
  have d0 : (w.alloc (.cells #[.slice a g.length c] 25)).cell? ⟨w.heap.size, 0, none⟩ = some (.slice a g.length c) := by simp [go_sem]
  have HG : Hid (Calls Tryz.prog 61 #[.agg #[.slice a g.length c]] (w.alloc (.cells #[.slice a g.length c] 25)) fun e w' => e = .returned (.bool true) ∧ Below (w.alloc (.cells #[.slice a g.length c] 25)).heap.size (w.alloc (.cells #[.slice a g.length c] 25)) w') := by
    have := sGood_any a c (g.map nats) true (w.alloc (.cells #[.slice a g.length c] 25)) (by rw [List.length_map]; omega) (LRow.below h b0) (by simp [hG])
    rw [List.length_map] at this
    exact this
  have HD := hid (fun W (hb : Below w.heap.size w W) => sDoms_any G a c W (LRow.below h hb))
  have HC := hid (fun W da dc (hb : Below w.heap.size w W) hd => sCyclic_any G hD a da c dc W (LRow.below h hb) hd)
  have HW := hid (fun W (hb : Below w.heap.size w W) => sWithout_any G a c (-1) W (LRow.below h hb))
  have HB := hid (fun W da dc (hb : Below w.heap.size w W) hd => sBack_any G hD a da c dc W (LRow.below h hb) hd)
  have H := hid h
  clear h
  go_enter Tryz.func30, Tryz.ntmps30
  go_wp2_with fail
  refine HG.out.mono ?_
  rintro e w1 ⟨rfl, hb1⟩
  have d1 := cell_below d0 hb1
  have B1 := bstep' b0 hb1
  have hw1 : w.heap.size + 1 ≤ w1.heap.size := by have := hb1.size; simp at this; omega
  clear b0 d0 hb1 HG
  go_wp2_with fail
  refine (HD.out _ B1).mono ?_
  rintro e w2 ⟨da, dc, dys, D', rfl, hdo, hds, hdd, hb2⟩
  obtain rfl : D = D' := hD.unique hdd
  have d2 := cell_below d1 hb2
  have B2 := bstep' B1 hb2
  have hdr : LRow w2 da (natsL D) := by
    obtain ⟨a', cap', e, hr⟩ := hdo.row
    injection e with e1 e2 e3
    rw [← hds, e1]
    exact hr
  have hs2 := hb2.size
  clear d1 hb2 HD
  go_wp2_with fail
  refine (HC.out _ da dc B2 hdr).mono ?_
  rintro e w3 ⟨⟨b, rfl, hb⟩, hb3⟩
  have d3 := cell_below d2 hb3
  have B3 := bstep' B2 hb3
  have hdr3 := LRow.below hdr hb3
  have hs3 := hb3.size
  clear d2 hb3 HC hdo hds hdr
  cases b with
  | true =>
    have HCY := hid (hb.1 rfl)
    clear hb
    go_wp2
    go_ret2
    exact ⟨.inl ⟨HCY.out, rfl⟩, B3⟩
  | false =>
    have HNC : Hid (¬ Cyc2 g D) := fun hc => by have := hb.2 hc; cases this
    clear hb
    go_wp2_with fail
    refine (HW.out _ B3).mono ?_
    rintro e w4 ⟨ra, rc, L, rfl, hL, hro, hb4⟩
    have d4 := cell_below d3 hb4
    have B4 := bstep' B3 hb4
    have hdr4 := LRow.below hdr3 hb4
    have hs4 := hb4.size
    have hrr : Row w4 ra (nats L) := own_row (by rw [nats_length]; exact hro)
    clear d3 hb4 HW hdr3 hro
    go_wp2_with fail
    refine (HB.out _ da dc B4 hdr4).mono ?_
    rintro e w5 ⟨bv, bys, rfl, hbo, hbs, hb5⟩
    obtain ⟨ba, bc, rfl, hbr⟩ := hbo.row
    rw [hbs] at hbr
    have hpl : (pairsL (backL g D)).length = (backL g D).length := by simp [pairsL]
    rw [hbs, hpl]
    have hbr := LRow.below hbr (Below.refl _ w5)
    have d5 := cell_below d4 hb5
    have B5 := bstep' B4 hb5
    have hrr5 := hrr.below hb5
    have hs5 := hb5.size
    have hbk : (backL g D).length ≤ 1000 := by
      rw [← backs_eq G hD]
      have h1 := List.length_filter_le (isB D) (rangeE g g.length)
      have h2 := edges_few G (List.range g.length)
      rw [List.length_range] at h2
      unfold rangeE at h1 ⊢
      omega
    have hLl : L.length ≤ 12 := by
      have h8 := nodup_le (n := g.length) hL.1 (fun x hx => RchW.lt G ((hL.2 x).1 hx))
      omega
    have hbn : GRow w5 ba (pairN (backL g D)) := by unfold GRow; rw [pairN_nats]; exact hbr
    have H5 := hid (And.intro (LRow.below H.out B5) (And.intro hrr5 hbn))
    clear d4 hb5 HB hdr4 hrr hbo hbs hrr5 hbr hbn
    go_wp2
    go_loopw [7, 39] (fun t7 t39 wr => ∃ (k : Nat) (va : Option Addr) (vc : Nat) (ys : List PV), t39 = .int .i64 k ∧ k ≤ g.length ∧ t7 = .slice va ys.length vc ∧ OwnP wr w5.heap.size (.slice va ys.length vc) ys ∧ Rings g D k (loopsP ys) ∧ (∀ y ∈ ys, y.up = -1) ∧ Below w5.heap.size w5 wr) (fun _ t39 _ => g.length - (intOf t39).toNat)
    case atStart => exact ⟨0, none, 0, [], rfl, by omega, rfl, OwnP.nil _ _, Rings.begin _ _, by simp, Below.refl _ _⟩
    case round =>
      obtain ⟨k, va, vc, ys, rfl, hk, rfl, hown, hrg, hup, hB⟩ := hrel
      have hyl : ys.length ≤ 12 := by have := hrg.le; rw [loopsP_len] at this; omega
      have HO := hid (And.intro hown (And.intro hrg hup))
      have hsB := hB.size
      clear hown hrg hup
      by_cases hkt : k < g.length
      · have hkz := hkt
        have hbo0 : (wr.alloc (.cells #[.int .i64 (k : Int)] 3)).ownsRow wr.heap.size 3 1 (.slice (some ⟨wr.heap.size, 0, none⟩) 1 1) 1 (ints (nats [k])) := own_alloc wr #[.int .i64 (k : Int)] 1 1 rfl (by omega) (by unfold maxLen; omega)
        have HA := hid (And.intro hbo0 (below1 wr (.cells #[.int .i64 (k : Int)] 3)))
        clear hbo0
        go_wp2
        obtain ⟨wo, rfl⟩ : ∃ wo : World, wo = wr := ⟨_, rfl⟩
        go_loopw [9, 46] (fun t9 t46 wq => ∃ (j : Nat) (ya : Option Addr) (yc : Nat) (body : List Nat), t46 = .int .i64 j ∧ j ≤ (backL g D).length ∧ t9 = .slice ya body.length yc ∧ wq.ownsRow wo.heap.size 3 1 (.slice ya body.length yc) body.length (ints (nats body)) ∧ Bgn k ((backL g D).take j) body ∧ Below wo.heap.size wo wq) (fun _ t46 _ => (backL g D).length - (intOf t46).toNat)
        case atStart => exact ⟨0, _, _, [k], rfl, by omega, rfl, HA.out.1, by simpa using Bgn.begin k, HA.out.2⟩
        case round =>
          obtain ⟨j, ya, yc, body, rfl, hj, rfl, hbo, hbg, hB2⟩ := hrel
          have B52 : Below w5.heap.size w5 wr := hB.trans (hB2.mono hsB)
          have hbl : body.length ≤ 12 := by
            have h8 := nodup_le (n := g.length) (rising_nodup hbg.1) (fun x hx => by
              rcases (hbg.2 x).1 hx with rfl | h1
              · exact hkt
              · exact RchW.lt G (backL_lead (D := D) G (List.mem_of_mem_take h1)).1)
            omega
          have HBG := hid (And.intro hbo hbg)
          clear hbo hbg
          by_cases hjl : j < (backL g D).length
          · obtain ⟨⟨u, v⟩, he⟩ : ∃ e, (backL g D)[j]? = some e := ⟨_, List.getElem?_eq_getElem hjl⟩
            obtain ⟨b, off, ea, ec, rfl, hce, hrow, hbb⟩ := GRow.at' (g := pairN (backL g D)) H5.out.2.2 B52 (pairN_at he)
            obtain ⟨eb, eoff, rfl, heb, hcs⟩ := hrow.at (by simp [nats])
            obtain ⟨x0, hx0, e0⟩ := hcs wr B52 0 (by simp [nats])
            obtain ⟨x1, hx1, e1⟩ := hcs wr B52 1 (by simp [nats])
            obtain rfl : x0 = (u : Int) := by have := e0.out; simp [nats] at this; exact this.symm
            obtain rfl : x1 = (v : Int) := by have := e1.out; simp [nats] at this; exact this.symm
            have hu : u < g.length := RchW.lt G (backL_lead (D := D) G (List.mem_of_getElem? he)).1
            have HTK : Hid ((backL g D).take (j + 1) = (backL g D).take j ++ [(u, v)]) := by show _ = _; rw [List.take_add_one, he]; rfl
            have HP := hid (l1Put_any (.slice ya body.length yc) body u wo.heap.size wr (by omega) (by omega) HBG.out.1 hB2.size)
            have c0 : wr.cell? ⟨eb, eoff, none⟩ = some (.int .i64 (u : Int)) := by simpa using hx0
            clear he hrow hcs e0 e1 hx0
            by_cases hv : v = k
            · subst hv
              go_wp2_with fail
              refine HP.out.mono ?_
              rintro e w6 ⟨pa, pc, rfl, hpo, hpn, hpb⟩
              have HK := hid (And.intro hpo (bstep hB2 hB2.size hpb))
              clear hpo hpn hpb
              go_wp2
              go_roundw
              case rel => exact ⟨j + 1, pa, pc, putL body u, by go_num, by omega, rfl, HK.out.1, by rw [HTK.out]; exact HBG.out.2.put u, HK.out.2⟩
              case measure => simp [intOf]; omega
            · have hvi : ¬ (v : Int) = (k : Int) := by omega
              go_wp2
              go_roundw
              case rel => exact ⟨j + 1, ya, yc, body, by go_num, by omega, rfl, HBG.out.1, by rw [HTK.out]; exact HBG.out.2.skip hv, hB2⟩
              case measure => simp [intOf]; omega
          · obtain rfl : j = (backL g D).length := by omega
            have hcl := HBG.out.2
            rw [List.take_of_length_le (Nat.le_refl _)] at hcl
            have HCL := hid hcl.clos
            clear hcl
            go_wp2
            go_loop [12, 63] (fun t12 t63 => ∃ (j : Nat), t63 = .int .i64 j ∧ j ≤ (backL g D).length ∧ t12 = .bool (((backL g D).take j).any fun e => e.2 == k)) (fun _ t63 => (backL g D).length - (intOf t63).toNat)
            case atStart => exact ⟨0, rfl, by omega, by simp⟩
            case round =>
              obtain ⟨j, rfl, hj, rfl⟩ := hrel
              by_cases hjl : j < (backL g D).length
              · obtain ⟨⟨u, v⟩, he⟩ : ∃ e, (backL g D)[j]? = some e := ⟨_, List.getElem?_eq_getElem hjl⟩
                obtain ⟨b, off, ea, ec, rfl, hce, hrow, hbb⟩ := GRow.at' (g := pairN (backL g D)) H5.out.2.2 B52 (pairN_at he)
                obtain ⟨eb, eoff, rfl, heb, hcs⟩ := hrow.at (by simp [nats])
                obtain ⟨x1, hx1, e1⟩ := hcs wr B52 1 (by simp [nats])
                obtain rfl : x1 = (v : Int) := by have := e1.out; simp [nats] at this; exact this.symm
                have HTK : Hid ((((backL g D).take (j + 1)).any fun e => e.2 == k) = ((((backL g D).take j).any fun e => e.2 == k) || (v == k))) := by show _ = _; rw [List.take_add_one, he]; simp
                obtain ⟨ld, hld⟩ : ∃ ld : Bool, (((backL g D).take j).any fun e => e.2 == k) = ld := ⟨_, rfl⟩
                rw [hld] at HTK ⊢
                clear he hrow hcs e1 hld
                cases ld
                · by_cases hv : v = k
                  · subst hv
                    go_wp2
                    go_round
                    case rel => exact ⟨j + 1, by go_num, by omega, by rw [HTK.out]; simp⟩
                    case measure => simp [intOf]; omega
                  · have hvi : ¬ (v : Int) = (k : Int) := by omega
                    go_wp2
                    go_round
                    case rel => exact ⟨j + 1, by go_num, by omega, by rw [HTK.out]; simp [show (v == k) = false from beq_eq_false_iff_ne.2 hv, show ((v : Int) == (k : Int)) = false from beq_eq_false_iff_ne.2 hvi]⟩
                    case measure => simp [intOf]; omega
                · go_wp2
                  go_round
                  case rel => exact ⟨j + 1, by go_num, by omega, by rw [HTK.out]; rfl⟩
                  case measure => simp [intOf]; omega
              · obtain rfl : j = (backL g D).length := by omega
                rw [List.take_of_length_le (Nat.le_refl _)]
                have HIH : Hid (((backL g D).any fun e => e.2 == k) = isHead g D k) := rfl
                rw [HIH.out]
                cases hih : isHead g D k with
                | false =>
                  have HN := hid (And.intro (OwnP.below HO.out.1 hB2) (HO.out.2.1.skip hih))
                  go_wp2
                  go_roundw
                  case rel => exact ⟨k + 1, va, vc, ys, by go_num, by omega, rfl, HN.out.1, HN.out.2, HO.out.2.2, B52⟩
                  case measure => simp [intOf]; omega
                | true =>
                  have hkc : Come g k := isHead.come G hih
                  have HIK := hid hih
                  clear HIH
                  go_wp2
                  go_loopw [9, 15] (fun t9 t15 wq => ∃ (b : Bool) (ya : Option Addr) (yc : Nat) (body : List Nat), t15 = .bool b ∧ t9 = .slice ya body.length yc ∧ wq.ownsRow wo.heap.size 3 1 (.slice ya body.length yc) body.length (ints (nats body)) ∧ Clos g D k body ∧ (b = false → IsBody g D k body) ∧ Below wo.heap.size wo wq) (fun t9 t15 _ => 2 * (13 - lenV t9) + boolN t15)
                  case atStart => exact ⟨true, ya, yc, body, rfl, rfl, HBG.out.1, HCL.out, (fun e => by cases e), hB2⟩
                  case round =>
                    clear HBG HCL hbl B52 hB2
                    obtain ⟨b, ya, yc, body, rfl, rfl, hbo, hcl, hfin, hB2⟩ := hrel
                    have B52 : Below w5.heap.size w5 wr := hB.trans (hB2.mono hsB)
                    have hbl : body.length ≤ 12 := hcl.few G hkc
                    cases b with
                    | false =>
                      have HF := hid (hfin rfl)
                      have HY := hid (OwnP.below (w := wr) (B := w5.heap.size) (ys := []) (v := .slice none 0 0) (OwnP.nil _ _) (Below.refl _ _))
                      have HS3 := hid (Sep.below (OwnP.with HO.out.1 hB2 hsB ⟨k, body, .slice ya body.length yc, -1⟩ hbo) (below1 wr (.cells #[.int .i64 (k : Int), .slice ya body.length yc, .int .i64 (-1)] 37)))
                      have HN1 := hid (News.three wr (.int .i64 (k : Int)) (.slice ya body.length yc) (.int .i64 (-1)) 37 _ rfl rfl rfl rfl)
                      have HZ1 : Hid (w5.heap.size ≤ (wr.alloc (.cells #[.int .i64 (k : Int), .slice ya body.length yc, .int .i64 (-1)] 37)).heap.size) := by show w5.heap.size ≤ _; have := B52.size; simp; omega
                      have HB6 := hid (B52.trans ((below1 wr (.cells #[.int .i64 (k : Int), .slice ya body.length yc, .int .i64 (-1)] 37)).mono B52.size))
                      clear hbo hcl hfin HY
                      go_wp2_with (at_builtin; refine wpList_append_sep eltLoop rfl _ _ rfl w5.heap.size [] HS3.out rfl HN1.out rfl (by omega) HZ1.out ?_)
                      intro va2 vc2 w6 hs6 hb6 hg6
                      have HK := hid (And.intro (OwnP.grown (y := ⟨k, body, .slice ya body.length yc, -1⟩) (by simpa using hs6)) (HB6.out.trans (hb6.mono (Nat.le_refl _))))
                      clear hs6 hb6 hg6 HS3
                      go_wp2
                      go_roundw
                      case rel =>
                        refine ⟨k + 1, va2, vc2, ys ++ [⟨k, body, .slice ya body.length yc, -1⟩], by go_num, by omega, by rw [List.length_append]; rfl, ?_, ?_, ?_, HK.out.2⟩
                        · rw [List.length_append]; exact HK.out.1
                        · rw [loopsP_snoc]; exact HO.out.2.1.add HIK.out HF.out
                        · intro y hy
                          rcases List.mem_append.1 hy with hy | hy
                          · exact HO.out.2.2 y hy
                          · simp at hy; rw [hy]
                      case measure => simp [intOf]; omega
                    | true =>
                      clear hfin
                      have HB0 := hid (And.intro hbo hcl)
                      clear hbo hcl
                      go_wp2
                      go_loopw [9, 15, 81] (fun t9 t15 t81 wq => ∃ (i : Nat) (b : Bool) (ya : Option Addr) (yc : Nat) (bd : List Nat), t81 = .int .i64 i ∧ i ≤ L.length ∧ t15 = .bool b ∧ t9 = .slice ya bd.length yc ∧ wq.ownsRow wo.heap.size 3 1 (.slice ya bd.length yc) bd.length (ints (nats bd)) ∧ Grow g D k body (L.take i) b bd ∧ Below wo.heap.size wo wq) (fun _ _ t81 _ => L.length - (intOf t81).toNat)
                      case atStart => exact ⟨0, false, ya, yc, body, rfl, by omega, rfl, rfl, HB0.out.1, by simpa using Grow.begin HB0.out.2, hB2⟩
                      case round =>
                        clear HB0 B52 hB2
                        obtain ⟨i, b, ya, yc, bd, rfl, hi, rfl, rfl, hbo, hgr, hB2⟩ := hrel
                        have B52 : Below w5.heap.size w5 wr := hB.trans (hB2.mono hsB)
                        have hdl : bd.length ≤ 12 := hgr.clos.few G hkc
                        by_cases hil : i < L.length
                        · obtain ⟨q, hq⟩ : ∃ q, L[i]? = some q := ⟨_, List.getElem?_eq_getElem hil⟩
                          have hqc : Come g q := (hL.2 q).1 (List.mem_of_getElem? hq)
                          have hqg : q < g.length := RchW.lt G hqc
                          obtain ⟨l, hl⟩ : ∃ l, g[q]? = some l := ⟨_, List.getElem?_eq_getElem hqg⟩
                          have hll : l.length ≤ 12 := by have h1 := nodup_le (n := g.length) (rising_nodup (G.rising _ l hl)) (fun j hj => G.below _ l hl j hj); omega
                          obtain ⟨rb, roff, rfl, hrb, hcs⟩ := H5.out.2.1.at (by intro e; have := congrArg List.length e; rw [nats_length] at this; simp only [List.length_nil] at this; omega)
                          obtain ⟨x', hcx, hx'⟩ := hcs wr B52 i (by rw [nats_length]; exact hil)
                          obtain rfl : x' = (q : Int) := by have := hx'.out; simp [nats, hq] at this; exact this.symm
                          obtain ⟨gb, goff, ta, tc, rfl, hcl, hrow, hbb⟩ := GRow.at' H5.out.1 B52 hl
                          have dr := cell_below d5 B52
                          have HTK : Hid (L.take (i + 1) = L.take i ++ [q]) := by show _ = _; rw [List.take_add_one, hq]; rfl
                          have HH := hid (hasN_any ya yc bd q wr (by omega) _ hbo)
                          have HR := hid (And.intro hrow (And.intro hl (And.intro hbo hgr)))
                          clear hrow hl hbo hgr hcs hx' hq
                          by_cases hin : q ∈ bd
                          · have tx : decide (q ∈ bd) = true := decide_eq_true hin
                            rw [tx] at HH
                            go_wp2_with fail
                            refine HH.out.mono ?_
                            rintro e w6 ⟨rfl, hw6⟩
                            subst w6
                            go_wp2
                            go_roundw
                            case rel => exact ⟨i + 1, b, ya, yc, bd, by go_num, by omega, rfl, rfl, HR.out.2.2.1, by rw [HTK.out]; exact HR.out.2.2.2.skip hin, hB2⟩
                            case measure => simp [intOf]; omega
                          · have tx : decide (q ∈ bd) = false := decide_eq_false hin
                            rw [tx] at HH
                            go_wp2_with fail
                            refine HH.out.mono ?_
                            rintro e w6 ⟨rfl, hw6⟩
                            subst w6
                            go_wp2
                            go_loopw [9, 15, 94] (fun t9 t15 t94 wq => ∃ (j : Nat) (b : Bool) (ya : Option Addr) (yc : Nat) (bd : List Nat), t94 = .int .i64 j ∧ j ≤ l.length ∧ t15 = .bool b ∧ t9 = .slice ya bd.length yc ∧ wq.ownsRow wo.heap.size 3 1 (.slice ya bd.length yc) bd.length (ints (nats bd)) ∧ Grow1 g D k body (L.take i) q (l.take j) b bd ∧ Below wo.heap.size wo wq) (fun _ _ t94 _ => l.length - (intOf t94).toNat)
                            case atStart => exact ⟨0, b, ya, yc, bd, rfl, by omega, rfl, rfl, HR.out.2.2.1, by simpa using Grow1.begin HR.out.2.2.2 hin, hB2⟩
                            case round =>
                              clear B52 hB2 dr hcx hcl hdl hin tx HH
                              obtain ⟨j, b, ya, yc, bd, rfl, hj, rfl, rfl, hbo, hgr, hB2⟩ := hrel
                              have B52 : Below w5.heap.size w5 wr := hB.trans (hB2.mono hsB)
                              have hdl : bd.length ≤ 12 := hgr.grow.clos.few G hkc
                              by_cases hjl : j < l.length
                              · obtain ⟨x, hx⟩ : ∃ x, l[j]? = some x := ⟨_, List.getElem?_eq_getElem hjl⟩
                                obtain ⟨tb, toff, rfl, htb, hcs⟩ := HR.out.1.at (by intro e; have := congrArg List.length e; rw [nats_length] at this; simp only [List.length_nil] at this; omega)
                                obtain ⟨x', hcx, hx'⟩ := hcs wr B52 j (by rw [nats_length]; exact hjl)
                                obtain rfl : x' = (x : Int) := by have := hx'.out; simp [nats, hx] at this; exact this.symm
                                have HTL : Hid (l.take (j + 1) = l.take j ++ [x]) := by show _ = _; rw [List.take_add_one, hx]; rfl
                                have HLE : Hid (Lead g q x) := ⟨hqc, l, HR.out.2.1, List.mem_of_getElem? hx⟩
                                have HH := hid (hasN_any ya yc bd x wr (by omega) _ hbo)
                                have HP := hid (l1Put_any (.slice ya bd.length yc) bd q wo.heap.size wr (by omega) (by omega) hbo hB2.size)
                                have HG1 := hid (And.intro hbo hgr)
                                clear hbo hgr hcs hx' hx
                                by_cases hxk : x = k
                                · subst hxk
                                  go_wp2
                                  go_roundw
                                  case rel => exact ⟨j + 1, b, ya, yc, bd, by go_num, by omega, rfl, rfl, HG1.out.1, by rw [HTL.out]; exact HG1.out.2.skip (.inl rfl), hB2⟩
                                  case measure => simp [intOf]; omega
                                · have hxi : ¬ (x : Int) = (k : Int) := by omega
                                  by_cases hin : x ∈ bd
                                  · have tx : decide (x ∈ bd) = true := decide_eq_true hin
                                    rw [tx] at HH
                                    go_wp2_with fail
                                    refine HH.out.mono ?_
                                    rintro e w6 ⟨rfl, hw6⟩
                                    subst w6
                                    go_wp2_with fail
                                    refine HP.out.mono ?_
                                    rintro e w6 ⟨pa, pc, rfl, hpo, hpn, hpb⟩
                                    have HK := hid (And.intro hpo (bstep hB2 hB2.size hpb))
                                    clear hpo hpn hpb
                                    go_wp2
                                    go_roundw
                                    case rel => exact ⟨j + 1, true, pa, pc, putL bd q, by go_num, by omega, rfl, rfl, HK.out.1, by rw [HTL.out]; exact HG1.out.2.put hin hxk HLE.out, HK.out.2⟩
                                    case measure => simp [intOf]; omega
                                  · have tx : decide (x ∈ bd) = false := decide_eq_false hin
                                    rw [tx] at HH
                                    go_wp2_with fail
                                    refine HH.out.mono ?_
                                    rintro e w6 ⟨rfl, hw6⟩
                                    subst w6
                                    go_wp2
                                    go_roundw
                                    case rel => exact ⟨j + 1, b, ya, yc, bd, by go_num, by omega, rfl, rfl, HG1.out.1, by rw [HTL.out]; exact HG1.out.2.skip (.inr hin), hB2⟩
                                    case measure => simp [intOf]; omega
                              · obtain rfl : j = l.length := by omega
                                rw [List.take_of_length_le (Nat.le_refl _)] at hgr
                                have HG1 := hid (And.intro hbo (hgr.end HR.out.2.1))
                                clear hbo hgr
                                go_wp2
                                go_roundw
                                case rel => exact ⟨i + 1, b, ya, yc, bd, by go_num, by omega, rfl, rfl, HG1.out.1, by rw [HTK.out]; exact HG1.out.2, hB2⟩
                                case measure => simp [intOf]; omega
                        · obtain rfl : i = L.length := by omega
                          rw [List.take_of_length_le (Nat.le_refl _)] at hgr
                          have HG1 := hid (And.intro hbo hgr)
                          have hle := hgr.le
                          have hmo := hgr.more
                          clear hbo hgr
                          go_wp2
                          go_roundw
                          case rel => exact ⟨b, ya, yc, bd, rfl, rfl, HG1.out.1, HG1.out.2.clos, fun e => by subst e; exact HG1.out.2.end hL.2, hB2⟩
                          case measure =>
                            cases b
                            · simp [lenV, boolN]; omega
                            · have := hmo rfl
                              simp [lenV, boolN]; omega
      · obtain rfl : k = g.length := by omega
        have HRG := hid HO.out.2.1
        obtain ⟨Ls, hLs⟩ : ∃ Ls, loopsP ys = Ls := ⟨_, rfl⟩
        have HLL : Hid (ys.length = Ls.length) := by show _ = _; rw [← hLs, loopsP_len]
        have HU0 := hid (UpsAt.begin (Ls := Ls) HO.out.2.2)
        have HOW := hid HO.out.1
        rw [hLs] at HRG
        have HLS := hid hLs
        clear HO hLs
        go_wp2
        go_loopw [120] (fun t120 wq => ∃ (i : Nat) (zs : List PV), t120 = .int .i64 i ∧ i ≤ ys.length ∧ OwnP wq w5.heap.size (.slice va ys.length vc) zs ∧ loopsP zs = Ls ∧ UpsAt Ls i zs ∧ Below w5.heap.size w5 wq) (fun t120 _ => ys.length - (intOf t120).toNat)
        case atStart => exact ⟨0, ys, rfl, by omega, HOW.out, HLS.out, HU0.out, hB⟩
        case round =>
          clear HOW HLS HU0 hB hsB
          obtain ⟨i, zs, rfl, hi, hown, hzs, hups, hB⟩ := hrel
          have HZ := hid (And.intro hown (And.intro hzs hups))
          clear hown hzs hups
          by_cases hiy : i < ys.length
          · have HU1 := hid HZ.out.2.2.to
            have HZ1 := hid (And.intro HZ.out.1 HZ.out.2.1)
            clear HZ
            go_wp2
            go_loopw [125] (fun t125 wq => ∃ (k : Nat) (zs : List PV), t125 = .int .i64 k ∧ k ≤ ys.length ∧ OwnP wq w5.heap.size (.slice va ys.length vc) zs ∧ loopsP zs = Ls ∧ UpsTo Ls i k zs ∧ Below w5.heap.size w5 wq) (fun t125 _ => ys.length - (intOf t125).toNat)
            case atStart => exact ⟨0, zs, rfl, by omega, HZ1.out.1, HZ1.out.2, HU1.out, hB⟩
            case round =>
              clear HZ1 HU1 hB
              obtain ⟨k, zs, rfl, hk, hown, hzs, hups, hB⟩ := hrel
              have HZL : Hid (zs.length = Ls.length) := by show _ = _; rw [← hzs, loopsP_len]
              by_cases hky : k < ys.length
              · obtain ⟨y, hy⟩ : ∃ y, zs[i]? = some y := ⟨_, List.getElem?_eq_getElem (by rw [HZL.out, ← HLL.out]; omega)⟩
                obtain ⟨x, hx⟩ : ∃ x, zs[k]? = some x := ⟨_, List.getElem?_eq_getElem (by rw [HZL.out, ← HLL.out]; omega)⟩
                have hLy : Ls[i]? = some (y.h, y.s) := by rw [← hzs]; exact loopsP_at hy
                have hLx : Ls[k]? = some (x.h, x.s) := by rw [← hzs]; exact loopsP_at hx
                have hyu : y.up = upTo Ls i k := hups.at hy
                have hupn := @upTo_bound Ls i k
                obtain ⟨b, ya, yc, rfl, hb1, hb2, cy0, cy1, cy2, fy2, oy, hyv⟩ := hown.at hy
                obtain ⟨b', xa, xc, e', _, _, cx0, cx1, cx2, _, ox, hxv⟩ := hown.at hx
                injection e' with e'
                injection e' with e' _
                subst e'
                have hyl : y.s.length ≤ 12 := ((HRG.out.mem (List.mem_of_getElem? hLy)).2.2).few G (isHead.come G (HRG.out.mem (List.mem_of_getElem? hLy)).2.1)
                have hxl : x.s.length ≤ 12 := ((HRG.out.mem (List.mem_of_getElem? hLx)).2.2).few G (isHead.come G (HRG.out.mem (List.mem_of_getElem? hLx)).2.1)
                have HH := hid (fun q => sHas_any xa ya xc yc x.s y.s (wr.drewN q) (by omega) (by omega) (Row.below (own_row (c := xc) (by rw [nats_length]; exact ox)) (below_drewN (Below.refl _ _) _)) (Row.below (own_row (c := yc) (by rw [nats_length]; exact oy)) (below_drewN (Below.refl _ _) _)))
                have HZ := hid (And.intro hown (And.intro hzs (And.intro hups (And.intro hy (And.intro hx (And.intro hLy hLx))))))
                obtain ⟨u, hu⟩ : ∃ u, y.up = u := ⟨_, rfl⟩
                rw [hu] at hyu cy2
                have HYU := hid hyu
                have hun : -1 ≤ u ∧ u ≤ Ls.length := by rw [hyu]; exact hupn
                clear hown hups hy hx hLy hLx ox oy hyv hxv hu hyu hupn
                by_cases hik : i = k
                · subst hik
                  have HST := hid (upTo_step HZ.out.2.2.2.2.2.2 (liesIn_self HRG.out HZ.out.2.2.2.2.2.2))
                  have hd : decide ((i : Int) = (i : Int)) = true := by simp
                  go_wp2
                  go_quiet (fail)
                  go_wp2
                  go_roundw
                  case rel => exact ⟨i + 1, zs, by go_num, by omega, OwnP.drewN _ HZ.out.1, hzs, HZ.out.2.2.1.same HST.out, below_drewN hB _⟩
                  case measure => simp [intOf]; omega
                · have hiki : ¬ (i : Int) = (k : Int) := by omega
                  have hd : decide ((i : Int) = (k : Int)) = false := by simp; omega
                  have HLI := hid (liesIn_other HRG.out HZ.out.2.2.2.2.2.2 HZ.out.2.2.2.2.2.1 hik)
                  obtain ⟨ai, hai⟩ : ∃ ai, allIn x.s y.s = ai := ⟨_, rfl⟩
                  simp only [] at HLI
                  rw [hai] at HH HLI
                  clear hai
                  cases ai with
                  | false =>
                    have HST := hid (upTo_step HZ.out.2.2.2.2.2.2 HLI.out)
                    go_wp2
                    go_quiet (first | (go_at_call 65; refine Calls.quiet_of_same (HH.out _)))
                    go_wp2
                    go_roundw
                    case rel => exact ⟨k + 1, zs, by go_num, by omega, OwnP.drewN _ HZ.out.1, hzs, HZ.out.2.2.1.same HST.out, below_drewN hB _⟩
                    case measure => simp [intOf]; omega
                  | true =>
                    go_wp2
                    go_quiet (first | (go_at_call 65; refine Calls.quiet_of_same (HH.out _)))
                    clear HH
                    by_cases hu0 : u < 0
                    · have hd2 : decide (u < 0) = true := decide_eq_true hu0
                      have HST := hid (upTo_new HZ.out.2.2.2.2.2.2 HLI.out (by rw [← HYU.out]; exact hu0))
                      go_wp2
                      go_quiet (fail)
                      go_wp2
                      go_roundw
                      case rel => exact ⟨k + 1, zs.set i { y with up := (k : Int) }, by go_num, by omega, OwnP.up (OwnP.drewN _ HZ.out.1) (by rw [HLL.out, HZL.out]) HZ.out.2.2.2.1 k, (loopsP_set k HZ.out.2.2.2.1).trans hzs, HZ.out.2.2.1.set HZ.out.2.2.2.1 HST.out, (below_drewN hB _).setCell (p := ⟨b, i * 3 + 2, none⟩) hb1 _⟩
                      case measure => simp [intOf]; omega
                    · obtain ⟨q, hq, hql⟩ := upTo_range (L := Ls) (i := i) (k := k) (by rw [← HYU.out]; exact hu0)
                      obtain rfl : u = (q : Int) := HYU.out.trans hq
                      obtain ⟨z, hz⟩ : ∃ z, zs[q]? = some z := ⟨_, List.getElem?_eq_getElem (by rw [HZL.out]; exact hql)⟩
                      have hLz : Ls[q]? = some (z.h, z.s) := by rw [← hzs]; exact loopsP_at hz
                      obtain ⟨b', za, zc, e', _, _, cz0, cz1, cz2, _, oz, hzv⟩ := HZ.out.1.at hz
                      injection e' with e'
                      injection e' with e' _
                      subst e'
                      have hzl2 : z.s.length ≤ 12 := ((HRG.out.mem (List.mem_of_getElem? hLz)).2.2).few G (isHead.come G (HRG.out.mem (List.mem_of_getElem? hLz)).2.1)
                      have hqy : q < ys.length := by rw [HLL.out]; exact hql
                      have HST := hid (upTo_less HZ.out.2.2.2.2.2.2 HLI.out hq hLz)
                      have hd2 : decide ((q : Int) < 0) = false := decide_eq_false hu0
                      simp only [] at HST
                      clear hq hql hz hLz oz hzv
                      by_cases hless : x.s.length < z.s.length
                      · rw [if_pos hless] at HST
                        go_wp2
                        go_quiet (fail)
                        go_wp2
                        go_roundw
                        case rel => exact ⟨k + 1, zs.set i { y with up := (k : Int) }, by go_num, by omega, OwnP.up (OwnP.drewN _ HZ.out.1) (by rw [HLL.out, HZL.out]) HZ.out.2.2.2.1 k, (loopsP_set k HZ.out.2.2.2.1).trans hzs, HZ.out.2.2.1.set HZ.out.2.2.2.1 HST.out, (below_drewN hB _).setCell (p := ⟨b, i * 3 + 2, none⟩) hb1 _⟩
                        case measure => simp [intOf]; omega
                      · rw [if_neg hless, HYU.out] at HST
                        go_wp2
                        go_quiet (fail)
                        go_wp2
                        go_roundw
                        case rel => exact ⟨k + 1, zs, by go_num, by omega, OwnP.drewN _ HZ.out.1, hzs, HZ.out.2.2.1.same HST.out, below_drewN hB _⟩
                        case measure => simp [intOf]; omega
              · obtain rfl : k = ys.length := by omega
                rw [HLL.out] at hups
                have HZ := hid (And.intro hown hups.end)
                clear hown hups
                go_wp2
                go_roundw
                case rel => exact ⟨i + 1, zs, by go_num, by omega, HZ.out.1, hzs, HZ.out.2, hB⟩
                case measure => simp [intOf]; omega
          · obtain rfl : i = ys.length := by omega
            have HF : Hid (LoopsAre g D zs) := by
              refine ⟨by rw [HZ.out.2.1]; exact HRG.out, fun j y hy => ?_⟩
              rw [HZ.out.2.1, HZ.out.2.2 j y hy, if_pos]
              have := (List.getElem?_eq_some_iff.1 hy).1
              rw [HLL.out, ← HZ.out.2.1, loopsP_len]
              exact this
            have HFO := hid (And.intro (OwnP.mono HZ.out.1 (show w.heap.size ≤ w5.heap.size by omega)) (B5.trans (hB.mono B5.size)))
            clear HZ
            go_wp2
            go_ret2
            exact ⟨.inr ⟨HNC.out, _, zs, rfl, HFO.out.1, HF.out⟩, HFO.out.2⟩
end
end Go.Proofs.YtiadmmnnbnamjaaGreat
