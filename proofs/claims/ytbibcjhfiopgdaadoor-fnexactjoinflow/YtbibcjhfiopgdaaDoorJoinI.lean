/- The program's way to blocks that are joined. -/
import Derived.Test.YtbibcjhfiopgdaaDoorJoinY
import Derived.Test.YtbibcjhfiopgdaaDoorJoinC
import Derived.Test.YtbibcjhfiopgdaaDoorGrow6
import Derived.Deep.RegionHeld3
namespace Go.Proofs.YtbibcjhfiopgdaaDoor
open Go.RowKit
set_option linter.unusedVariables false
set_option linter.unusedSimpArgs false
set_option maxRecDepth 100000

/-- where a loop stands that joins -/
def JS (f : List Blk) (w wr : World) (g vc : Nat) (zs : List BV) : Prop := zs.length = f.length ∧ goodFlow (blks zs) = true ∧ JRow wr w.heap.size g vc zs ∧ Below w.heap.size w wr ∧ ∀ T, Joins (blks zs) T → Joins f T
theorem JS.len {f : List Blk} {w wr : World} {g vc : Nat} {zs : List BV} (h : JS f w wr g vc zs) : (blks zs).length = f.length := by rw [blks_length]; exact h.1
theorem JS.brow {f : List Blk} {w wr : World} {g vc : Nat} {zs : List BV} (h : JS f w wr g vc zs) : BRow wr (some ⟨g, 0, none⟩) (blks zs) := h.2.2.1.brow (lens_good h.2.1)
theorem JS.below {f : List Blk} {w wr w' : World} {g vc : Nat} {zs : List BV} (h : JS f w wr g vc zs) (hb : Below wr.heap.size wr w') : JS f w w' g vc zs := ⟨h.1, h.2.1, h.2.2.1.below hb, bstep' h.2.2.2.1 hb, h.2.2.2.2⟩
theorem JS.first {f : List Blk} {w wr : World} {g vc : Nat} {zs : List BV} (h : JS f w wr g vc zs) : Calls Tryd.prog 62 #[.slice (some ⟨g, 0, none⟩) f.length vc] wr fun e w' => FirstAns (blks zs) e ∧ Below wr.heap.size wr w' := by
  have := firstToTake_any (some ⟨g, 0, none⟩) vc (blks zs) wr h.2.1 h.brow
  rw [h.len] at this
  exact this
theorem JS.trimI {f : List Blk} {w wr : World} {g vc : Nat} {zs : List BV} (h : JS f w wr g vc zs) : Calls Tryd.prog 58 #[.slice (some ⟨g, 0, none⟩) f.length vc] wr fun e w' => TrimAns wr w' (blks zs) e := by
  have := iTrim_any (some ⟨g, 0, none⟩) vc (blks zs) wr h.2.1 (by have := sumB_good h.2.1; omega) h.brow
  rw [h.len] at this
  exact this
/-- all that a step of joining reads -/
theorem JS.take {f : List Blk} {w wr : World} {g vc : Nat} {zs : List BV} (h : JS f w wr g vc zs) {P : List (List Nat)} {k t : Nat} {b o : Blk} (hc : CanT (blks zs) P k t b o) :
    ∃ z zo ca cc nb noff nc oa oc pa pc, zs[k]? = some z ∧ z.b = b ∧ zs[t]? = some zo ∧ zo.b = o ∧ zo.c = .slice oa o.code.length oc ∧ zo.n = .slice pa o.next.length pc ∧
      k < f.length ∧ t < f.length ∧ b.code.length ≤ 60 ∧ o.code.length ≤ 60 ∧
      wr.cell? ⟨g, k * 4, none⟩ = some (.slice ca b.code.length cc) ∧ wr.cell? ⟨g, k * 4 + 3, none⟩ = some (.slice (some ⟨nb, noff, none⟩) 1 nc) ∧ wr.cell? ⟨nb, noff, none⟩ = some (.int .i64 (t : Int)) ∧
      wr.cell? ⟨g, t * 4, none⟩ = some (.slice oa o.code.length oc) ∧ wr.cell? ⟨g, t * 4 + 1, none⟩ = some (.int .i64 o.go) ∧ wr.cell? ⟨g, t * 4 + 2, none⟩ = some (.int .i64 o.test) ∧ wr.cell? ⟨g, t * 4 + 3, none⟩ = some (.slice pa o.next.length pc) ∧
      FRow wr ca b.code ∧ FRow wr oa o.code ∧ Row wr pa o.next ∧ g < wr.heap.size := by
  obtain ⟨h1, h2, h3, h4, h5, h6, h7⟩ := hc
  have hlen := h.len
  obtain ⟨z, hz, hzb⟩ := blks_get h1
  obtain ⟨zo, hzo, hzob⟩ := blks_get h6
  have hk : k < f.length := by have := (List.getElem?_eq_some_iff.1 h1).1; omega
  have ht : t < f.length := by have := (List.getElem?_eq_some_iff.1 h6).1; omega
  obtain ⟨ca, cc, na, nc, e1, e2, e3⟩ := h.2.2.1.2 z (List.mem_of_getElem? hz)
  obtain ⟨oa, oc, pa, pc, g1, g2, g3⟩ := h.2.2.1.2 zo (List.mem_of_getElem? hzo)
  obtain ⟨f0, f1, f2, f3⟩ := flatB_at zs k z hz
  obtain ⟨q0, q1, q2, q3⟩ := flatB_at zs t zo hzo
  have e4 := e3 wr (.refl _ _)
  have g4 := g3 wr (.refl _ _)
  rw [hzb] at e1 e2 e4
  rw [hzob] at g1 g2 g4 q1 q2
  have ho := h.2.2.1.1
  obtain ⟨nb, noff, rfl, hcell⟩ := e4.2.resolve_left (by rw [h3]; simp)
  have hc0 := hcell 0 (by rw [h3]; simp)
  rw [h3] at hc0 e2
  rw [Nat.add_zero] at hc0
  refine ⟨z, zo, ca, cc, nb, noff, nc, oa, oc, pa, pc, hz, hzb, hzo, hzob, g1, g2, hk, ht, (lens_good h.2.1 b (List.mem_of_getElem? h1)).1, (lens_good h.2.1 o (List.mem_of_getElem? h6)).1, ?_, ?_, ?_, ?_, ?_, ?_, ?_, e4.1, g4.1, g4.2, (ho.lt g rfl).2⟩
  · rw [← e1]; exact rowT_at ho rfl f0
  · have := rowT_at ho rfl f3; rw [e2] at this; exact this
  · simpa using hc0
  · rw [← g1]; exact rowT_at ho rfl q0
  · exact rowT_at ho rfl q1
  · exact rowT_at ho rfl q2
  · rw [← g2]; exact rowT_at ho rfl q3
/-- a step of joining is done -/
theorem JS.step {f : List Blk} {w wr W : World} {g vc : Nat} {zs : List BV} (h : JS f w wr g vc zs) {P : List (List Nat)} {l : List Nat} {k t : Nat} {b o : Blk} (hl : IsRch (blks zs) l) (hp : IsPreds (blks zs) P) (hf : First (blks zs) P l k) (hc : CanT (blks zs) P k t b o) (hb : Below wr.heap.size wr W) {z zo : BV} (hz : zs[k]? = some z) (hzb : z.b = b) (hzo : zs[t]? = some zo) (hzob : zo.b = o) {c nv : Value} {B : Nat} (hn : JB W g ⟨⟨b.code ++ o.code, o.go, o.test, o.next⟩, c, nv⟩) (hgw : w.heap.size ≤ g) :
    JS f w ((((W.setCell ⟨g, k * 4, none⟩ c).setCell ⟨g, k * 4 + 1, none⟩ (.int .i64 o.go)).setCell ⟨g, k * 4 + 2, none⟩ (.int .i64 o.test)).setCell ⟨g, k * 4 + 3, none⟩ nv) g vc (zs.set k ⟨⟨b.code ++ o.code, o.go, o.test, o.next⟩, c, nv⟩) := by
  have e : blks (zs.set k ⟨⟨b.code ++ o.code, o.go, o.test, o.next⟩, c, nv⟩) = joinAt (blks zs) k b o := by rw [blks_set]; rfl
  have h3 := JRow.set (h.2.2.1.below hb) hz hn
  refine ⟨by rw [List.length_set]; exact h.1, by rw [e]; exact hc.good h.2.1, h3, ?_, fun T hT => h.2.2.2.2 T ?_⟩
  · exact ((((bstep' h.2.2.2.1 hb).setCell hgw _).setCell hgw _).setCell hgw _).setCell hgw _
  · rw [e] at hT
    exact .step hl hp hf hc hT
set_option maxHeartbeats 8000000 in
theorem iJoinFlow_any (a : Option Addr) (c : Nat) (f T : List Blk) (w : World) (hl : f.length ≤ 1048576) (h : BRow w a f) (hT : Tab w) (hy : JoinY f T) :
    Calls Tryd.prog 31 #[.slice a f.length c] w fun e w' => (∃ v zs, e = .returned (.tuple #[v, .bool (goodFlow f)]) ∧ OwnB w' w.heap.size v zs ∧ blks zs = T) ∧ Below w.heap.size w w' := by
  have H := hid h
  have HY := hid hy
  have HTT := hid hT
  clear h hy hT
  cases hg : goodFlow f with
  | false =>
    have HE := hid (HY.out.2 hg)
    have HG := hid (iGoodF_any a c f w (by omega) H.out HTT.out)
    rw [hg] at HG
    clear hg
    go_enter Tryd.func31, Tryd.ntmps31
    go_wp2_with fail
    refine HG.out.mono ?_
    rintro e w1 ⟨rfl, hb1⟩
    go_wp2
    go_ret2
    have := HE.out
    subst this
    refine ⟨⟨_, [], rfl, ?_, rfl⟩, hb1⟩
    refine ⟨fun x hx => ?_, by simp [rowsB]⟩
    simp only [rowsB, List.flatMap_nil, List.mem_cons, List.not_mem_nil, or_false] at hx
    subst hx
    exact World.ownsRow_nil _ _ _ _
  | true =>
    have HE := hid (HY.out.1 hg)
    have HGD := hid hg
    have HG := hid (iGoodF_any a c f w (by omega) H.out HTT.out)
    rw [hg] at HG
    clear hg
    go_enter Tryd.func31, Tryd.ntmps31
    go_wp2_with fail
    refine HG.out.mono ?_
    rintro e w1 ⟨rfl, hb1⟩
    go_wp2_with fail
    refine (clone_any a c f _ HGD.out (H.out.below hb1)).mono ?_
    rintro e w2 ⟨g, vc, zs, rfl, hj2, hz2, hb2⟩
    have hjs : JS f w w2 g vc zs := ⟨by rw [← hz2, blks_length], by rw [hz2]; exact HGD.out, ⟨owns_mono hj2.1 hb1.size, hj2.2⟩, bstep' hb1 hb2, fun T hT => by rw [hz2] at hT; exact hT⟩
    have hgw : w.heap.size ≤ g := (hjs.2.2.1.1.lt g rfl).1
    have HJ := hid hjs
    have HF := hid hjs.first
    clear hj2 hz2 hb1 hb2 hjs HG
    go_wp2_with fail
    refine HF.out.mono ?_
    rintro e w3 ⟨⟨r, l, P, rfl, hr, hp, hfst⟩, hb3⟩
    have HJ3 := hid (HJ.out.below hb3)
    have HR := hid (And.intro hr (And.intro hp hfst))
    have hl64 := hid (hr.len HJ.out.2.1)
    clear hr hp hfst hb3 HJ HF
    go_wp2
    go_loopg [5] (l.length + 1) (fun gk t5 wr => ∃ (r : Int) (zs : List BV) (l : List Nat) (P : List (List Nat)), t5 = .int .i64 r ∧ JS f w wr g vc zs ∧ IsRch (blks zs) l ∧ IsPreds (blks zs) P ∧ ((r = -1 ∧ NoneT (blks zs) P l) ∨ ∃ k : Nat, r = k ∧ First (blks zs) P l k) ∧ l.length ≤ gk)
    case atStart => exact ⟨_, zs, l, P, rfl, HJ3.out, HR.out.1, HR.out.2.1, HR.out.2.2, by omega⟩
    case round =>
      obtain ⟨r, zs, l, P, rfl, hjs, hrc, hpr, hfst, hgk⟩ := hrel
      clear HJ3 HR hl64
      have HJ := hid hjs
      have HRP := hid (And.intro hrc hpr)
      rcases hfst with ⟨rfl, hnone⟩ | ⟨k, rfl, hfst⟩
      · have HNO := hid hnone
        have HTR := hid hjs.trimI
        clear hnone hjs hrc hpr
        go_wp2_with fail
        refine HTR.out.mono ?_
        rintro e w4 ⟨v, na, nc, xs, l', rfl, hr', ho, hz, hb4⟩
        have HO := hid (And.intro hr' (And.intro ho hz))
        have HB4 := hid hb4
        clear hr' ho hz hb4
        go_wp2
        go_ret2
        obtain ⟨gg, l2, hj2, hl2, rfl⟩ := HE.out
        obtain rfl := hj2.unique (HJ.out.2.2.2.2 _ (.done HRP.out.1 HRP.out.2 HNO.out))
        obtain rfl := hl2.unique HO.out.1
        refine ⟨⟨_, xs, rfl, ?_, HO.out.2.2⟩, bstep' HJ.out.2.2.2.1 HB4.out⟩
        exact Sep.mono (Sep.sub HO.out.2.1 (List.sublist_cons_self _ _)) HJ.out.2.2.2.1.size
      · have HFS := hid hfst
        obtain ⟨i, hi1, ⟨t, b, o, hcan⟩, hi3⟩ := hfst
        obtain ⟨z, zo, ca, cc, nb, noff, nc, oa, oc, pa, pc, hz, hzb, hzo, hzob, hoc, hon, hk, ht, hbl, hol, d0, d3, dn, o0, o1, o2, o3, rb, ro, rn, hgs⟩ := hjs.take hcan
        obtain ⟨cs, hcs⟩ : ∃ cs, b.code = cs := ⟨_, rfl⟩
        obtain ⟨os, hos⟩ : ∃ os, o.code = os := ⟨_, rfl⟩
        obtain ⟨go, hgo⟩ : ∃ x, o.go = x := ⟨_, rfl⟩
        obtain ⟨test, htest⟩ : ∃ x, o.test = x := ⟨_, rfl⟩
        obtain ⟨pn, hpn⟩ : ∃ x, o.next.length = x := ⟨_, rfl⟩
        have hfl := flow_pos HGD.out
        have hkr := (hrc.2 k).1 (List.mem_of_getElem? hi1)
        have HLESS := hid (hcan.fewer hpr hkr)
        have HC := hid hcan
        have HZ := hid (And.intro hz (And.intro hzb (And.intro hzo (And.intro hzob (And.intro hoc hon)))))
        have HNM := hid (And.intro hcs (And.intro hos (And.intro hgo (And.intro htest hpn))))
        have hck := hjs.2.2.1.1
        have c0 : ∃ u, wr.cell? ⟨g, k * 4, none⟩ = some u := ⟨_, d0⟩
        obtain ⟨f0, f1, f2, f3⟩ := flatB_at zs k z hz
        have k1 := rowT_at hck rfl f1
        have k2 := rowT_at hck rfl f2
        have z0 := rowT_frz hck rfl (k * 4)
        have z1 := rowT_frz hck rfl (k * 4 + 1)
        have z2 := rowT_frz hck rfl (k * 4 + 2)
        have z3 := rowT_frz hck rfl (k * 4 + 3)
        rw [hcs] at d0 hbl rb
        rw [hos] at o0 hol ro
        rw [hgo] at o1
        rw [htest] at o2
        rw [hpn] at o3
        have HROW := hid (And.intro rb ro)
        clear hjs hrc hpr hi1 hi3 hcan hz hzb hzo hzob hoc hon hcs hos hgo htest hpn hck rb ro rn hkr c0 f0 f1 f2 f3
        obtain ⟨W0, hW0⟩ : ∃ W0, wr.alloc (.cells #[.slice oa os.length oc, .int .i64 go, .int .i64 test, .slice pa pn pc] 60) = W0 := ⟨_, rfl⟩
        obtain ⟨bx, hbx⟩ : ∃ bx, wr.heap.size = bx := ⟨_, rfl⟩
        have hW0z : W0.heap.size = bx + 1 := by rw [← hW0, ← hbx]; simp
        have HBW0 : Hid (Below wr.heap.size wr W0) := by show Below _ _ _; rw [← hW0]; exact below1 wr _
        obtain ⟨acc, aff⟩ := bcell HBW0.out
        have d0' : W0.cell? ⟨g, k * 4, none⟩ = some (.slice ca cs.length cc) := by rw [acc _ _ hgs]; exact d0
        have b0 : W0.cell? ⟨bx, 0, none⟩ = some (.slice oa os.length oc) := by rw [← hW0, ← hbx]; simp [go_sem]
        have b1 : W0.cell? ⟨bx, 1, none⟩ = some (.int .i64 go) := by rw [← hW0, ← hbx]; simp [go_sem]
        have b2 : W0.cell? ⟨bx, 2, none⟩ = some (.int .i64 test) := by rw [← hW0, ← hbx]; simp [go_sem]
        have b3 : W0.cell? ⟨bx, 3, none⟩ = some (.slice pa pn pc) := by rw [← hW0, ← hbx]; simp [go_sem]
        have x0 : W0.frozen? ⟨bx, 0, none⟩ = false := by rw [← hW0, ← hbx]; simp [go_sem]
        have HW0 := hid (And.intro hW0 hbx)
        have hB1 : Below wr.heap.size wr (W0.alloc (.cells #[.slice ca cs.length cc, .slice oa os.length oc] 58)).drew := (bstep' HBW0.out (below1 W0 _)).drew
        have HCC := hid (concat_any (bx + 1) ca oa cc oc cs os (W0.alloc (.cells #[.slice ca cs.length cc, .slice oa os.length oc] 58)).drew hbl hol (by rw [← hW0z]; simp [go_sem]) (by rw [← hW0z]; simp [go_sem]) (HROW.out.1.below hB1) (HROW.out.2.below hB1))
        have HB1 := hid hB1
        have HKW : Hid (∀ W, Below (W0.alloc (.cells #[.slice ca cs.length cc, .slice oa os.length oc] 58)).drew.heap.size (W0.alloc (.cells #[.slice ca cs.length cc, .slice oa os.length oc] 58)).drew W → (∀ b off, b < bx + 1 → W.cell? ⟨b, off, none⟩ = W0.cell? ⟨b, off, none⟩ ∧ W.frozen? ⟨b, off, none⟩ = W0.frozen? ⟨b, off, none⟩)) := fun W hW b off hb => by
          have h1 := bcellB hW
          have h2 := bcell (below1 W0 (.cells #[.slice ca cs.length cc, .slice oa os.length oc] 58))
          have hz : b < (W0.alloc (.cells #[.slice ca cs.length cc, .slice oa os.length oc] 58)).drew.heap.size := by simp; omega
          exact ⟨(h1.1 b off hz).trans (h2.1 b off (by omega)), (h1.2 b off hz).trans (h2.2 b off (by omega))⟩
        have hgx : g < bx + 1 := by rw [← hbx]; omega
        have HK : Hid (∀ W, Below (W0.alloc (.cells #[.slice ca cs.length cc, .slice oa os.length oc] 58)).drew.heap.size (W0.alloc (.cells #[.slice ca cs.length cc, .slice oa os.length oc] 58)).drew W → W.cell? ⟨g, k * 4, none⟩ = some (.slice ca cs.length cc) ∧ W.cell? ⟨bx, 0, none⟩ = some (.slice oa os.length oc) ∧ W.frozen? ⟨bx, 0, none⟩ = false) := fun W hW => ⟨((HKW.out W hW g _ hgx).1).trans d0', ((HKW.out W hW bx _ (by omega)).1).trans b0, ((HKW.out W hW bx _ (by omega)).2).trans x0⟩
        have HK0 : Hid (∀ W, Below W0.heap.size W0 W → W.cell? ⟨g, k * 4, none⟩ = some (.slice ca cs.length cc) ∧ W.cell? ⟨bx, 0, none⟩ = some (.slice oa os.length oc) ∧ W.frozen? ⟨bx, 0, none⟩ = false) := fun W hW => ⟨((bcell hW).1 g _ (by omega)).trans d0', ((bcell hW).1 bx _ (by omega)).trans b0, ((bcell hW).2 bx _ (by omega)).trans x0⟩
        clear hW0 hbx acc aff hB1
        go_wp2
        rw [HW0.out.1, HW0.out.2]
        go_region_with (go_at_call 63; refine HCC.out.mono ?_; rintro e w4 ⟨va, vc4, rfl, ho4, hb4⟩; obtain ⟨q0, q1, q2⟩ := HK.out _ hb4)
        all_goals
          have hbxe := HW0.out.2
          have hgb : g < bx := by omega
          have hgn : ¬ g = bx := by omega
          have hgn' : ¬ bx = g := by omega
          have KK := HKW.out w4 hb4
          have hbW4 : Below wr.heap.size wr w4 := bstep' HB1.out hb4
          obtain ⟨W5, hW5⟩ : ∃ W5, w4.setCell ⟨bx, 0, none⟩ (.slice va (cs.length + os.length) vc4) = W5 := ⟨_, rfl⟩
          have HBW5 : Hid (Below wr.heap.size wr W5) := by show Below _ _ _; rw [← hW5]; exact hbW4.setCell (by simp; omega) _
          obtain ⟨acc5, aff5⟩ := bcell HBW5.out
          have r0 : W5.cell? ⟨bx, 0, none⟩ = some (.slice va (cs.length + os.length) vc4) := by rw [← hW5]; simp [go_sem, q1]
          have r1 : W5.cell? ⟨bx, 1, none⟩ = some (.int .i64 go) := by rw [← hW5]; simp [go_sem, (KK bx 1 (by omega)).1, b1]
          have r2 : W5.cell? ⟨bx, 2, none⟩ = some (.int .i64 test) := by rw [← hW5]; simp [go_sem, (KK bx 2 (by omega)).1, b2]
          have r3 : W5.cell? ⟨bx, 3, none⟩ = some (.slice pa pn pc) := by rw [← hW5]; simp [go_sem, (KK bx 3 (by omega)).1, b3]
          have s0 : W5.cell? ⟨g, k * 4, none⟩ = some (.slice ca cs.length cc) := by rw [acc5 _ _ hgs]; exact d0
          have s1 := (acc5 g (k * 4 + 1) hgs).trans k1
          have s2 := (acc5 g (k * 4 + 2) hgs).trans k2
          have s3 := (acc5 g (k * 4 + 3) hgs).trans d3
          have y0 := (aff5 g (k * 4) hgs).trans z0
          have y1 := (aff5 g (k * 4 + 1) hgs).trans z1
          have y2 := (aff5 g (k * 4 + 2) hgs).trans z2
          have y3 := (aff5 g (k * 4 + 3) hgs).trans z3
          have HST : Hid (JS f w ((((W5.setCell ⟨g, k * 4, none⟩ (.slice va (cs.length + os.length) vc4)).setCell ⟨g, k * 4 + 1, none⟩ (.int .i64 go)).setCell ⟨g, k * 4 + 2, none⟩ (.int .i64 test)).setCell ⟨g, k * 4 + 3, none⟩ (.slice pa pn pc)) g vc (zs.set k ⟨⟨b.code ++ o.code, o.go, o.test, o.next⟩, .slice va (cs.length + os.length) vc4, .slice pa pn pc⟩)) := by
            obtain ⟨n1, n2, n3, n4, n5⟩ := HNM.out
            obtain ⟨hz, hzb, hzo, hzob, hoc, hon⟩ := HZ.out
            show JS _ _ _ _ _ _
            have ho5 : W5.ownsRow (W0.alloc (.cells #[.slice ca cs.length cc, .slice oa os.length oc] 58)).drew.heap.size 86 6 (.slice va (cs ++ os).length vc4) (cs ++ os).length (flatF (cs ++ os)) := by
              rw [← hW5]
              have := ho4
              refine ownsRow_setCell_below this (by simp; omega) _
            have hm := JB.mix (c := .slice va (cs ++ os).length vc4) (cs := cs ++ os) ((HJ.out.2.2.1.2 zo (List.mem_of_getElem? hzo)).keep (.of_below HBW5.out)) ho5 (fun k hk e => by have h1 := (ho5.lt k hk).1; simp at h1; omega)
            rw [hzob, hon, n5] at hm
            rw [← n1, ← n2, List.length_append] at hm
            rw [← n1, ← n2, ← n3, ← n4]
            exact JS.step (B := 0) HJ.out HRP.out.1 HRP.out.2 HFS.out HC.out HBW5.out hz hzb hzo hzob hm hgw
          have HB5 : Hid (blks (zs.set k ⟨⟨b.code ++ o.code, o.go, o.test, o.next⟩, .slice va (cs.length + os.length) vc4, .slice pa pn pc⟩) = joinAt (blks zs) k b o) := by show _ = _; rw [blks_set]; rfl
          have HF5 := hid HST.out.first
          have HW5 := hid hW5
          clear hW5 acc5 aff5 KK q0 q1 q2 ho4 hb4 hbW4 hbxe d0 d3 dn o0 o1 o2 o3 k1 k2 z0 z1 z2 z3 d0' b0 b1 b2 b3 x0
          go_wp2_with (rw [HW5.out])
          refine HF5.out.mono ?_
          rintro e w6 ⟨⟨r6, l6, P6, rfl, hr6, hp6, hf6⟩, hb6⟩
          have hless : l6.length < l.length := by
            have h1 := hr6
            rw [HB5.out] at h1
            exact rch_less HRP.out.1 h1 HLESS.out.1 HLESS.out.2
          have HR6 := hid (And.intro hr6 (And.intro hp6 hf6))
          have HST6 := hid (HST.out.below hb6)
          clear hr6 hp6 hf6 hb6
          go_wp2
          go_roundg (gk - 1)
          case measure => omega
          case rel => exact ⟨_, _, l6, P6, rfl, HST6.out, HR6.out.1, HR6.out.2.1, HR6.out.2.2, by omega⟩
end Go.Proofs.YtbibcjhfiopgdaaDoor
