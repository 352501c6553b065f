/- How often each value is used: as plain lists, and the model. -/
import Derived.Test.YteihecnmnajahaaGreatDoorMval
import Derived.Test.YteihecnmnajahaaGreatDoorK7
import Derived.Test.YteihecnmnajahaaGreatDoorRep6
namespace Go.Proofs.YteihecnmnajahaaGreatDoor
open Go Go.RowKit
set_option linter.unusedVariables false
set_option linter.unusedSimpArgs false
set_option maxRecDepth 100000

/-- how often each number below V lies in a list -/
def cnt (V : Nat) (L : List Int) : List Int := (List.range V).map fun (v : Nat) => ((L.count (v : Int) : Nat) : Int)
theorem cnt_len (V : Nat) (L : List Int) : (cnt V L).length = V := by simp [cnt]
theorem cnt_nil (V : Nat) : cnt V [] = List.replicate V 0 := by
  apply List.ext_getElem?
  intro i
  by_cases h : i < V <;> simp [cnt, List.getElem?_replicate, h]
theorem cnt_at {V m : Nat} (L : List Int) (h : m < V) : (cnt V L)[m]? = some ((L.count (m : Int) : Nat) : Int) := by simp [cnt, h]
theorem cnt_snoc {V m : Nat} (L : List Int) (h : m < V) : (cnt V L).set m (((L.count (m : Int) : Nat) : Int) + 1) = cnt V (L ++ [(m : Int)]) := by
  apply List.ext_getElem?
  intro i
  rw [List.getElem?_set, cnt_len]
  by_cases e : m = i
  · subst e
    rw [if_pos rfl, if_pos h, cnt_at _ h, List.count_append]
    simp
  · rw [if_neg e]
    by_cases hi : i < V
    · rw [cnt_at _ hi, cnt_at _ hi, List.count_append]
      have hne : ((m : Int) == (i : Int)) = false := by simp <;> omega
      simp [List.count_cons, hne]
    · rw [List.getElem?_eq_none (by rw [cnt_len]; omega), List.getElem?_eq_none (by rw [cnt_len]; omega)]
theorem cnt_same {V : Nat} {L M : List Int} (h : ∀ v, L.count v = M.count v) : cnt V L = cnt V M := by simp only [cnt, h]
/-- what a part uses, with what it uses behind its steps told by E -/
def partUses (E : Prt → List Int) (p : Prt) : List Int := p.code.flatMap usesF ++ E p
def usesBy (E : Prt → List Int) (xs : List Prt) : List Int := xs.flatMap (partUses E)
theorem usesBy_same (xs : List Prt) (v : Int) : (usesBy endsM xs).count v = (usesBy ends xs).count v := by
  induction xs with
  | nil => rfl
  | cons p r ih =>
    simp only [usesBy, List.flatMap_cons, List.count_append, partUses, endsM, ends] at ih ⊢
    omega
theorem usesBy_snoc {E : Prt → List Int} {xs : List Prt} {k : Nat} {p : Prt} (h : xs[k]? = some p) : usesBy E (xs.take (k + 1)) = usesBy E (xs.take k) ++ partUses E p := by
  rw [List.take_add_one, h]; simp [usesBy]
theorem flatUses_snoc {l : List Flt} {j : Nat} {x : Flt} (h : l[j]? = some x) : (l.take (j + 1)).flatMap usesF = (l.take j).flatMap usesF ++ usesF x := by
  rw [List.take_add_one, h]; simp
theorem usesF_len (x : Flt) : (usesF x).length ≤ 2 := by unfold usesF; split <;> (try split) <;> simp
theorem flatUses_len (l : List Flt) : (l.flatMap usesF).length ≤ 2 * l.length := by
  induction l with
  | nil => simp
  | cons x r ih => have := usesF_len x; simp only [List.flatMap_cons, List.length_append, List.length_cons]; omega
/-- what a good part uses -/
structure UsesIn (V : Nat) (p : Prt) : Prop where
  few : p.code.length ≤ 60
  args : p.args.length ≤ 6 ∧ p.args.flatten.length ≤ 1500
  code : ∀ x ∈ p.code, ∀ v ∈ usesF x, 0 ≤ v ∧ v < (V : Int)
  ends : ∀ v ∈ ends p, 0 ≤ v ∧ v < (V : Int)
theorem UsesIn.endsLen {V : Nat} {p : Prt} (h : UsesIn V p) : (Go.Proofs.YteihecnmnajahaaGreatDoor.ends p).length ≤ 1501 ∧ (endsM p).length ≤ 1501 := by
  have := h.args.2
  constructor
  · simp only [Go.Proofs.YteihecnmnajahaaGreatDoor.ends, List.length_append]; split <;> simp only [List.length_cons, List.length_nil] <;> omega
  · simp only [endsM, List.length_append]; split <;> simp only [List.length_cons, List.length_nil] <;> omega
theorem usesBy_len {E : Prt → List Int} {V : Nat} {xs : List Prt} (h : ∀ p ∈ xs, UsesIn V p) (hE : ∀ p ∈ xs, (E p).length ≤ 1501) : (usesBy E xs).length ≤ 1700 * xs.length := by
  induction xs with
  | nil => simp [usesBy]
  | cons p r ih =>
    have h1 := ih (fun q hq => h q (List.mem_cons_of_mem _ hq)) (fun q hq => hE q (List.mem_cons_of_mem _ hq))
    have h2 := hE p (List.mem_cons_self ..)
    have h3 := flatUses_len p.code
    have h4 := (h p (List.mem_cons_self ..)).few
    simp only [usesBy, List.flatMap_cons, List.length_append, partUses, List.length_cons] at h1 ⊢
    omega
theorem take_snoc {l : List Int} {i : Nat} {v : Int} (h : l[i]? = some v) : l.take (i + 1) = l.take i ++ [v] := by rw [List.take_add_one, h]; rfl
theorem six_cells {W : World} {B T bx : Nat} {l : List OR} {v0 v1 v2 v3 v4 v5 : Value} (h : Sep W B l) (hx : cellOR T 6 bx [v0, v1, v2, v3, v4, v5] ∈ l) : W.cell? ⟨bx, 0, none⟩ = some v0 ∧ W.cell? ⟨bx, 1, none⟩ = some v1 ∧ W.cell? ⟨bx, 2, none⟩ = some v2 ∧ W.cell? ⟨bx, 3, none⟩ = some v3 ∧ W.cell? ⟨bx, 4, none⟩ = some v4 ∧ W.cell? ⟨bx, 5, none⟩ = some v5 :=
  ⟨Sep.cell h hx rfl rfl, Sep.cell h hx rfl rfl, Sep.cell h hx rfl rfl, Sep.cell h hx rfl rfl, Sep.cell h hx rfl rfl, Sep.cell h hx rfl rfl⟩
/-- one more use is counted -/
theorem count_store {W : World} {B V g m : Nat} {L : List Int} {R : List OR} (h : Sep W B ([] ++ ⟨3, 1, .slice (some ⟨g, 0, none⟩) V V, V, ints (cnt V L)⟩ :: R)) (hm : m < V) : Sep (W.setCell ⟨g, m, none⟩ (.int .i64 (((L.count (m : Int) : Nat) : Int) + 1))) B ([] ++ ⟨3, 1, .slice (some ⟨g, 0, none⟩) V V, V, ints (cnt V (L ++ [(m : Int)]))⟩ :: R) := by
  have h2 := Sep.store [] h m (.int .i64 (((L.count (m : Int) : Nat) : Int) + 1))
  rw [← cnt_snoc L hm]
  have e : (ints (cnt V L)).set m (.int .i64 (((L.count (m : Int) : Nat) : Int) + 1)) = ints ((cnt V L).set m (((L.count (m : Int) : Nat) : Int) + 1)) := by simp [ints]
  rw [e] at h2
  exact h2
set_option maxHeartbeats 8000000 in
theorem l9Count_any (V : Nat) (hV : 1 ≤ V) (hV2 : V ≤ 250) (xs : List Prt) (a : Option Addr) (c : Nat) (w : World) (hxl : xs.length ≤ 11) (hU : ∀ p ∈ xs, UsesIn V p) (hX : PRow w a xs) :
    Calls Tryz.prog 57 #[.agg #[.slice a xs.length c, .int .i64 (V : Int)]] w fun e w' => ∃ va vc, e = .returned (.slice va V vc) ∧ w'.ownsRow w.heap.size 3 1 (.slice va V vc) V (ints (cnt V (usesBy endsM xs))) ∧ Below w.heap.size w w' := by
  obtain ⟨i0, hi0, hz0, hz1, hz2⟩ := info_parts info3
  have b1 := below1 w (.cells #[.slice a xs.length c, .int .i64 (V : Int)] 30)
  have k0 : (w.alloc (.cells #[.slice a xs.length c, .int .i64 (V : Int)] 30)).cell? ⟨w.heap.size, 0, none⟩ = some (.slice a xs.length c) := by simp [go_sem]
  have k1 : (w.alloc (.cells #[.slice a xs.length c, .int .i64 (V : Int)] 30)).cell? ⟨w.heap.size, 1, none⟩ = some (.int .i64 (V : Int)) := by simp [go_sem]
  obtain ⟨W0, hW0⟩ : ∃ W, W = w.alloc (.cells #[.slice a xs.length c, .int .i64 (V : Int)] 30) := ⟨_, rfl⟩
  rw [← hW0] at b1 k0 k1
  have HW0 := hid hW0.symm
  have HB0 := hid b1
  have HX := hid (hX.below b1)
  have HU := hid hU
  clear hX hU hW0 b1
  go_enter Tryz.func57, Tryz.ntmps57
  go_upto_region 1 with fail
  try rw [HW0.out]
  clear HW0
  go_wp2_with (at_make; refine wpList_make_full _ rfl _ _ 35 rfl W0.heap.size 3 i0 (.int .i64 0) 1 Tryz.underlying35 hi0 hz0 hz1 .i64 .i64 _ _ V rfl rfl rfl rfl ?c1 ?c2 ?c3 ?_)
  case c1 => rw [hz2]; omega
  case c2 => unfold maxLen; omega
  case c3 => omega
  intro w1 hown0 hgrow0
  have HB1 : Hid (Below W0.heap.size W0 w1) := (Below.refl _ W0).grown hgrow0 (Nat.le_refl _) (fun k hk => by cases hk)
  have HS1 : Hid (Sep w1 W0.heap.size ([] ++ ⟨3, 1, .slice (some ⟨W0.heap.size, 0, none⟩) V V, V, ints (cnt V [])⟩ :: [])) := by
    rw [made_ints, ← cnt_nil] at hown0
    exact sep_one hown0
  have k0 := cell_below k0 HB1.out
  have k1 := cell_below k1 HB1.out
  obtain ⟨g, hg⟩ : ∃ g, W0.heap.size = g := ⟨_, rfl⟩
  have HGW := hid hg
  rw [hg] at HS1 ⊢
  clear hown0 hgrow0 hg
  go_wp2
  go_loopw [18] (fun t18 wr => ∃ (k : Nat), t18 = .int .i64 k ∧ k ≤ xs.length ∧ Hid (Sep wr g ([] ++ ⟨3, 1, .slice (some ⟨g, 0, none⟩) V V, V, ints (cnt V (usesBy endsM (xs.take k)))⟩ :: [])) ∧ Hid (Below g W0 wr)) (fun t18 _ => xs.length - (intOf t18).toNat)
  case atStart => exact ⟨0, rfl, by omega, HS1, by rw [← HGW.out]; exact HB1⟩
  case round =>
    obtain ⟨k, rfl, hk, HS, HB⟩ := hrel
    clear HS1 HB1 k0 k1
    have HB' : Hid (Below W0.heap.size W0 wr) := by rw [HGW.out]; exact HB
    by_cases hkx : k < xs.length
    · obtain ⟨b, off, rfl, hbw, hat⟩ := HX.out.at (by intro e; subst e; simp at hkx)
      obtain ⟨ps, cs, go, test, ns, rs, pa, pc, ca, cc, na, nc, ra, rc, c0, c1, c2, c3, c4, c5, l1, l2, l3, l4, HI, HXK⟩ := hat W0 (Below.refl _ _) k hkx
      replace c0 := cell_below c0 HB'.out
      replace c1 := cell_below c1 HB'.out
      replace c2 := cell_below c2 HB'.out
      replace c3 := cell_below c3 HB'.out
      replace c4 := cell_below c4 HB'.out
      replace c5 := cell_below c5 HB'.out
      have HUI := hid (HU.out _ (List.mem_of_getElem? HXK.out))
      have HLT : Hid ((usesBy endsM (xs.take k)).length ≤ 18700) := by
        have h1 := usesBy_len (E := endsM) (V := V) (xs := xs.take k) (fun p hp => HU.out p (List.mem_of_mem_take hp)) (fun p hp => (HU.out p (List.mem_of_mem_take hp)).endsLen.2)
        rw [List.length_take] at h1
        show _ ≤ _
        omega
      obtain ⟨acc, hacc⟩ : ∃ l, usesBy endsM (xs.take k) = l := ⟨_, rfl⟩
      have HNX := hid (usesBy_snoc (E := endsM) HXK.out)
      rw [hacc] at HS HLT HNX
      have HSB : Hid (Sep (wr.alloc (.cells #[.slice pa ps.length pc, .slice ca cs.length cc, .int .i64 go, .int .i64 test, .slice na ns.length nc, .slice ra rs.length rc] 51)) g ([] ++ ⟨3, 1, .slice (some ⟨g, 0, none⟩) V V, V, ints (cnt V acc)⟩ :: [cellOR 51 6 wr.heap.size [.slice pa ps.length pc, .slice ca cs.length cc, .int .i64 go, .int .i64 test, .slice na ns.length nc, .slice ra rs.length rc]])) := by
        have h9 := Sep.append (l := [⟨3, 1, .slice (some ⟨g, 0, none⟩) V V, V, ints (cnt V acc)⟩]) HS.out (below1 wr (.cells #[.slice pa ps.length pc, .slice ca cs.length cc, .int .i64 go, .int .i64 test, .slice na ns.length nc, .slice ra rs.length rc] 51)) (by have := HB'.out.size; have := HGW.out; omega) (sep1 (x := cellOR 51 6 wr.heap.size [.slice pa ps.length pc, .slice ca cs.length cc, .int .i64 go, .int .i64 test, .slice na ns.length nc, .slice ra rs.length rc]) (cell_own (cs := #[.slice pa ps.length pc, .slice ca cs.length cc, .int .i64 go, .int .i64 test, .slice na ns.length nc, .slice ra rs.length rc]) (heap_alloc_new wr _) rfl (Nat.le_refl _)))
        exact h9
      have HBB : Hid (Below g W0 (wr.alloc (.cells #[.slice pa ps.length pc, .slice ca cs.length cc, .int .i64 go, .int .i64 test, .slice na ns.length nc, .slice ra rs.length rc] 51))) := HB.out.trans ((below1 wr _).mono (by have := HB'.out.size; have := HGW.out; omega))
      obtain ⟨W2, hW2⟩ : ∃ W, W = wr.alloc (.cells #[.slice pa ps.length pc, .slice ca cs.length cc, .int .i64 go, .int .i64 test, .slice na ns.length nc, .slice ra rs.length rc] 51) := ⟨_, rfl⟩
      obtain ⟨bx, hbx⟩ : ∃ bx, wr.heap.size = bx := ⟨_, rfl⟩
      rw [← hW2, hbx] at HSB
      rw [← hW2] at HBB
      obtain ⟨BX, hBX⟩ : ∃ l : List OR, [cellOR 51 6 bx [.slice pa ps.length pc, .slice ca cs.length cc, .int .i64 go, .int .i64 test, .slice na ns.length nc, .slice ra rs.length rc]] = l := ⟨_, rfl⟩
      rw [hBX] at HSB
      have HBX := hid hBX
      have HCODE := hid HI.out.code
      have HARGS := hid HI.out.args
      go_upto_region 5 with fail
      rw [← hW2]
      try rw [hbx]
      clear hBX hW2 hbx hat HI HS HB HB' hacc
      obtain ⟨d0, d1, d2, d3, d4, d5⟩ := six_cells (T := 51) (bx := bx) (v0 := .slice pa ps.length pc) (v1 := .slice ca cs.length cc) (v2 := .int .i64 go) (v3 := .int .i64 test) (v4 := .slice na ns.length nc) (v5 := .slice ra rs.length rc) HSB.out (by rw [← HBX.out]; simp)
      go_wp2
      clear d0 d1 d2 d3 d4 d5
      go_loopw [25] (fun t25 wr => ∃ (j : Nat), t25 = .int .i64 j ∧ j ≤ cs.length ∧ Hid (Sep wr g ([] ++ ⟨3, 1, .slice (some ⟨g, 0, none⟩) V V, V, ints (cnt V (acc ++ (cs.take j).flatMap usesF))⟩ :: BX)) ∧ Hid (Below g W0 wr)) (fun t25 _ => cs.length - (intOf t25).toNat)
      case atStart => exact ⟨0, rfl, by omega, (by show Sep _ _ _; simpa using HSB.out), HBB⟩
      case round =>
        obtain ⟨j, rfl, hj, HSJ, HBJ⟩ := hrel
        clear HSB HBB
        have HBJ' : Hid (Below W0.heap.size W0 wr) := by rw [HGW.out]; exact HBJ
        by_cases hjt : j < cs.length
        · obtain ⟨cb, coff, rfl, hcw, hcat⟩ := HCODE.out.at (by intro e; subst e; simp at hjt)
          obtain ⟨fp, fd, ft, fx, fy, fn, f0, f1, f2, f3, f4, f5, HXF⟩ := hcat wr HBJ'.out j hjt
          have HFS := hid (flatUses_snoc HXF.out)
          have HUV := hid (HUI.out.code _ (List.mem_of_getElem? HXF.out))
          have hul := usesF_len ⟨fp, fd, ft, fx, fy, fn⟩
          have HL9 := hid (l9Uses_any fp fd ft fx fy fn (wr.alloc (.cells #[.int .i64 fp, .int .i64 fd, .int .i64 ft, .int .i64 fx, .int .i64 fy, .int .i64 fn] 64)))
          obtain ⟨U, hUe⟩ : ∃ U, usesF ⟨fp, fd, ft, fx, fy, fn⟩ = U := ⟨_, rfl⟩
          rw [hUe] at HFS HUV hul HL9
          have HDN : Hid ((acc ++ (cs.take j).flatMap usesF).length ≤ 20000) := by
            have h8 := HLT.out
            have h9 := flatUses_len (cs.take j)
            have h7 := HUI.out.few
            simp only [] at h7
            rw [List.length_take] at h9
            show _ ≤ _
            rw [List.length_append]
            omega
          have hszj : g ≤ wr.heap.size := by have := HBJ'.out.size; have := HGW.out; omega
          clear hcat hUe
          go_wp2_with (go_at_call 43; refine HL9.out.mono ?_; rintro e w5 ⟨ua, uc, rfl, ho5, hb5⟩)
          have hb5' := bstep' (below1 wr (.cells #[.int .i64 fp, .int .i64 fd, .int .i64 ft, .int .i64 fx, .int .i64 fy, .int .i64 fn] 64)) hb5
          have HSU : Hid (Sep w5 g ([] ++ ⟨3, 1, .slice (some ⟨g, 0, none⟩) V V, V, ints (cnt V (acc ++ (cs.take j).flatMap usesF))⟩ :: (BX ++ [⟨3, 1, .slice ua U.length uc, U.length, ints U⟩]))) := by
            have h9 := Sep.append (l := ⟨3, 1, .slice (some ⟨g, 0, none⟩) V V, V, ints (cnt V (acc ++ (cs.take j).flatMap usesF))⟩ :: BX) HSJ.out hb5' hszj (sep1 (x := ⟨3, 1, .slice ua U.length uc, U.length, ints U⟩) (owns_mono ho5 (below1 wr _).size))
            exact h9
          have HBU : Hid (Below g W0 w5) := HBJ.out.trans (hb5'.mono hszj)
          clear ho5 hb5 hb5' HSJ HBJ HBJ' HL9 f0 f1 f2 f3 f4 f5
          go_wp2
          go_loopw [32] (fun tt wr => ∃ (i : Nat), tt = .int .i64 i ∧ i ≤ U.length ∧ Hid (Sep wr g ([] ++ ⟨3, 1, .slice (some ⟨g, 0, none⟩) V V, V, ints (cnt V ((acc ++ (cs.take j).flatMap usesF) ++ U.take i))⟩ :: (BX ++ [⟨3, 1, .slice ua U.length uc, U.length, ints U⟩]))) ∧ Hid (Below g W0 wr)) (fun tt _ => U.length - (intOf tt).toNat)
          case atStart => exact ⟨0, rfl, by omega, (by show Sep _ _ _; simpa using HSU.out), HBU⟩
          case round =>
            obtain ⟨i, rfl, hi, HSI, HBI⟩ := hrel
            clear HSU HBU
            by_cases hit : i < U.length
            · obtain ⟨v, hv⟩ : ∃ v, U[i]? = some v := ⟨_, List.getElem?_eq_getElem hit⟩
              have hlo := HSI.out.1 ⟨3, 1, .slice ua U.length uc, U.length, ints U⟩ (by simp)
              obtain ⟨lg, hlg⟩ : ∃ lg, ua = some ⟨lg, 0, none⟩ := by
                rcases hlo.2 with ⟨h0, h1⟩ | ⟨g', cap, cur, he, _⟩
                · simp only [] at h1; omega
                · injection he with e1 _ _; exact ⟨g', e1⟩
              subst hlg
              have cv : wr.cell? ⟨lg, i, none⟩ = some (.int .i64 v) := rowT_at hlo rfl (by simp [ints, hv])
              obtain ⟨v0, v1⟩ := HUV.out v (List.mem_of_getElem? hv)
              obtain ⟨m, hm⟩ : ∃ m : Nat, v = m := ⟨v.toNat, by omega⟩
              subst hm
              have hmV : m < V := by omega
              have HTS := hid (take_snoc hv)
              have hdo := HSI.out.1 ⟨3, 1, .slice (some ⟨g, 0, none⟩) V V, V, ints (cnt V ((acc ++ (cs.take j).flatMap usesF) ++ U.take i))⟩ (by simp)
              have hcl : ((acc ++ (cs.take j).flatMap usesF) ++ U.take i).count (m : Int) ≤ 100000 := Nat.le_trans List.count_le_length (by have h8 := HDN.out; rw [List.length_append, List.length_take]; omega)
              have hst := count_store HSI.out hmV
              obtain ⟨L, hL⟩ : ∃ L, (acc ++ (cs.take j).flatMap usesF) ++ U.take i = L := ⟨_, rfl⟩
              rw [hL] at hdo hcl hst
              obtain ⟨q, hq⟩ : ∃ q, L.count (m : Int) = q := ⟨_, rfl⟩
              have cq : wr.cell? ⟨g, m, none⟩ = some (.int .i64 (q : Int)) := rowT_at hdo rfl (by rw [← hq]; simp [ints, cnt_at L hmV])
              have fq : wr.frozen? ⟨g, m, none⟩ = false := rowT_frz hdo rfl m
              have hgs := (hdo.lt g rfl).1
              rw [hq] at hst hcl
              have HST := hid hst
              have HL := hid hL
              clear hlo hv hdo hst hL hq
              go_wp2
              go_roundw
              case rel =>
                refine ⟨i + 1, by go_num, by omega, ?_, HBI.out.setCell (p := ⟨g, m, none⟩) hgs _⟩
                show Sep _ _ _
                rw [HTS.out, ← List.append_assoc, HL.out]
                exact HST.out
              case measure => simp [intOf]; omega
            · obtain rfl : i = U.length := by omega
              rw [List.take_of_length_le (Nat.le_refl _)] at HSI
              have HS7 : Hid (Sep wr g ([] ++ ⟨3, 1, .slice (some ⟨g, 0, none⟩) V V, V, ints (cnt V (acc ++ (cs.take (j + 1)).flatMap usesF))⟩ :: BX)) := by
                show Sep _ _ _
                rw [HFS.out, ← List.append_assoc]
                exact HSI.out.sub (by simp)
              go_wp2
              go_roundw
              case rel => exact ⟨j + 1, by go_num, by omega, HS7, HBI⟩
              case measure => simp [intOf]; omega
        · obtain rfl : j = cs.length := by omega
          rw [List.take_of_length_le (Nat.le_refl _)] at HSJ
          obtain ⟨d0, d1, d2, d3, d4, d5⟩ := six_cells (T := 51) (bx := bx) (v0 := .slice pa ps.length pc) (v1 := .slice ca cs.length cc) (v2 := .int .i64 go) (v3 := .int .i64 test) (v4 := .slice na ns.length nc) (v5 := .slice ra rs.length rc) HSJ.out (by rw [← HBX.out]; simp)
          have h7 := HUI.out.args
          simp only [] at h7
          have HL9 := hid (l9Ends_any go test ps cs ns rs pa ca na ra pc cc nc rc wr l4 (by rw [← flatten_len]; omega) (HARGS.out.below HBJ'.out))
          have HUV : Hid (∀ v ∈ endsM ⟨ps, cs, go, test, ns, rs⟩, 0 ≤ v ∧ v < (V : Int)) := fun v hv => HUI.out.ends v ((ends_mem _ v).1 hv)
          have hul := HUI.out.endsLen.2
          obtain ⟨U, hUe⟩ : ∃ U, endsM ⟨ps, cs, go, test, ns, rs⟩ = U := ⟨_, rfl⟩
          have HNX2 : Hid (usesBy endsM (xs.take (k + 1)) = (acc ++ cs.flatMap usesF) ++ U) := by
            show _ = _
            rw [HNX.out, partUses, hUe, List.append_assoc]
          rw [hUe] at HL9 HUV hul
          have HDN : Hid ((acc ++ cs.flatMap usesF).length ≤ 20000) := by
            have h8 := HLT.out
            have h9 := flatUses_len cs
            have h6 := HUI.out.few
            simp only [] at h6
            show _ ≤ _
            rw [List.length_append]
            omega
          have hszj : g ≤ wr.heap.size := by have := HBJ'.out.size; have := HGW.out; omega
          clear hUe h7
          go_wp2_with (go_at_call 45; refine HL9.out.mono ?_; rintro e w5 ⟨ua, uc, rfl, ho5, hb5⟩)
          have HSU : Hid (Sep w5 g ([] ++ ⟨3, 1, .slice (some ⟨g, 0, none⟩) V V, V, ints (cnt V (acc ++ cs.flatMap usesF))⟩ :: (BX ++ [⟨3, 1, .slice ua U.length uc, U.length, ints U⟩]))) := by
            have h9 := Sep.append (l := ⟨3, 1, .slice (some ⟨g, 0, none⟩) V V, V, ints (cnt V (acc ++ cs.flatMap usesF))⟩ :: BX) HSJ.out hb5 hszj (sep1 (x := ⟨3, 1, .slice ua U.length uc, U.length, ints U⟩) ho5)
            exact h9
          have HBU : Hid (Below g W0 w5) := HBJ.out.trans (hb5.mono hszj)
          clear ho5 hb5 HSJ HBJ HBJ' HL9 d0 d1 d2 d3 d4 d5
          go_wp2
          go_loopw [47] (fun tt wr => ∃ (i : Nat), tt = .int .i64 i ∧ i ≤ U.length ∧ Hid (Sep wr g ([] ++ ⟨3, 1, .slice (some ⟨g, 0, none⟩) V V, V, ints (cnt V ((acc ++ cs.flatMap usesF) ++ U.take i))⟩ :: (BX ++ [⟨3, 1, .slice ua U.length uc, U.length, ints U⟩]))) ∧ Hid (Below g W0 wr)) (fun tt _ => U.length - (intOf tt).toNat)
          case atStart => exact ⟨0, rfl, by omega, (by show Sep _ _ _; simpa using HSU.out), HBU⟩
          case round =>
            obtain ⟨i, rfl, hi, HSI, HBI⟩ := hrel
            clear HSU HBU
            by_cases hit : i < U.length
            · obtain ⟨v, hv⟩ : ∃ v, U[i]? = some v := ⟨_, List.getElem?_eq_getElem hit⟩
              have hlo := HSI.out.1 ⟨3, 1, .slice ua U.length uc, U.length, ints U⟩ (by simp)
              obtain ⟨lg, hlg⟩ : ∃ lg, ua = some ⟨lg, 0, none⟩ := by
                rcases hlo.2 with ⟨h0, h1⟩ | ⟨g', cap, cur, he, _⟩
                · simp only [] at h1; omega
                · injection he with e1 _ _; exact ⟨g', e1⟩
              subst hlg
              have cv : wr.cell? ⟨lg, i, none⟩ = some (.int .i64 v) := rowT_at hlo rfl (by simp [ints, hv])
              obtain ⟨v0, v1⟩ := HUV.out v (List.mem_of_getElem? hv)
              obtain ⟨m, hm⟩ : ∃ m : Nat, v = m := ⟨v.toNat, by omega⟩
              subst hm
              have hmV : m < V := by omega
              have HTS := hid (take_snoc hv)
              have hdo := HSI.out.1 ⟨3, 1, .slice (some ⟨g, 0, none⟩) V V, V, ints (cnt V ((acc ++ cs.flatMap usesF) ++ U.take i))⟩ (by simp)
              have hcl : ((acc ++ cs.flatMap usesF) ++ U.take i).count (m : Int) ≤ 100000 := Nat.le_trans List.count_le_length (by have h8 := HDN.out; rw [List.length_append, List.length_take]; omega)
              have hst := count_store HSI.out hmV
              obtain ⟨L, hL⟩ : ∃ L, (acc ++ cs.flatMap usesF) ++ U.take i = L := ⟨_, rfl⟩
              rw [hL] at hdo hcl hst
              obtain ⟨q, hq⟩ : ∃ q, L.count (m : Int) = q := ⟨_, rfl⟩
              have cq : wr.cell? ⟨g, m, none⟩ = some (.int .i64 (q : Int)) := rowT_at hdo rfl (by rw [← hq]; simp [ints, cnt_at L hmV])
              have fq : wr.frozen? ⟨g, m, none⟩ = false := rowT_frz hdo rfl m
              have hgs := (hdo.lt g rfl).1
              rw [hq] at hst hcl
              have HST := hid hst
              have HL := hid hL
              clear hlo hv hdo hst hL hq
              go_wp2
              go_roundw
              case rel =>
                refine ⟨i + 1, by go_num, by omega, ?_, HBI.out.setCell (p := ⟨g, m, none⟩) hgs _⟩
                show Sep _ _ _
                rw [HTS.out, ← List.append_assoc, HL.out]
                exact HST.out
              case measure => simp [intOf]; omega
            · obtain rfl : i = U.length := by omega
              rw [List.take_of_length_le (Nat.le_refl _)] at HSI
              have HS7 : Hid (Sep wr g ([] ++ ⟨3, 1, .slice (some ⟨g, 0, none⟩) V V, V, ints (cnt V (usesBy endsM (xs.take (k + 1))))⟩ :: [])) := by
                show Sep _ _ _
                rw [HNX2.out]
                exact HSI.out.sub (by simp)
              go_wp2
              go_roundw
              case rel => exact ⟨k + 1, by go_num, by omega, HS7, HBI⟩
              case measure => simp [intOf]; omega
    · obtain rfl : k = xs.length := by omega
      rw [List.take_of_length_le (Nat.le_refl _)] at HS
      go_wp2
      go_ret
      exact ⟨_, _, rfl, owns_mono (one_sep HS.out) (by have := HB0.out.size; have := HGW.out; omega), bstep' HB0.out HB'.out⟩
end Go.Proofs.YteihecnmnajahaaGreatDoor
