/- The program's pieces of an ssa: that can be read, and how they are made. -/
import Derived.Test.YteihecnmnajahaaGreatDoorK7
import Derived.Test.YteihecnmnajahaaGreatDoorK8
import Derived.Test.YteihecnmnajahaaGreatDoorSet7
import Derived.Deep.QuietTactic
import Derived.BigQuiet
import Derived.Test.YteihecnmnajahaaGreatDoorK1
namespace Go.Proofs.YteihecnmnajahaaGreatDoor
section
open Go.RowKit
set_option linter.unusedVariables false
set_option linter.unusedSimpArgs false
set_option maxRecDepth 100000

/-- a slice of pieces that can be read -/
def CRow (w : World) (a : Option Addr) (xs : List Prt) : Prop := xs = [] ∨ ∃ b off, a = some ⟨b, off, none⟩ ∧ ∀ (k : Nat) x, xs[k]? = some x → ∃ pa pc ca cc na nc ra rc, x.params.length ≤ 9223372036854775807 ∧ x.code.length ≤ 9223372036854775807 ∧ x.next.length ≤ 9223372036854775807 ∧ x.args.length ≤ 9223372036854775807 ∧ w.cell? ⟨b, off + k * 6, none⟩ = some (.slice ca x.code.length cc) ∧ w.cell? ⟨b, off + k * 6 + 1, none⟩ = some (.int .i64 x.go) ∧ w.cell? ⟨b, off + k * 6 + 2, none⟩ = some (.int .i64 x.test) ∧ w.cell? ⟨b, off + k * 6 + 3, none⟩ = some (.slice na x.next.length nc) ∧ w.cell? ⟨b, off + k * 6 + 4, none⟩ = some (.slice pa x.params.length pc) ∧ w.cell? ⟨b, off + k * 6 + 5, none⟩ = some (.slice ra x.args.length rc) ∧ PIn w x pa ca na ra
theorem CRow.kept {w w' : World} {a : Option Addr} {xs : List Prt} (h : CRow w a xs) (hk : ∀ p : Addr, p.block < w.heap.size → w'.cell? p = w.cell? p) : CRow w' a xs := by
  rcases h with h | ⟨b, off, rfl, hc⟩
  · exact .inl h
  · refine .inr ⟨b, off, rfl, fun k x hx => ?_⟩
    obtain ⟨pa, pc, ca, cc, na, nc, ra, rc, l1, l2, l3, l4, h0, h1, h2, h3, h4, h5, r⟩ := hc k x hx
    exact ⟨pa, pc, ca, cc, na, nc, ra, rc, l1, l2, l3, l4, by rw [hk _ (World.block_lt_of_cell? w _ h0)]; exact h0, by rw [hk _ (World.block_lt_of_cell? w _ h1)]; exact h1, by rw [hk _ (World.block_lt_of_cell? w _ h2)]; exact h2, by rw [hk _ (World.block_lt_of_cell? w _ h3)]; exact h3, by rw [hk _ (World.block_lt_of_cell? w _ h4)]; exact h4, by rw [hk _ (World.block_lt_of_cell? w _ h5)]; exact h5, r.params.kept hk, r.code.kept hk, r.next.kept hk, r.args.kept hk⟩
theorem CRow.below {w w' : World} {a : Option Addr} {xs : List Prt} (h : CRow w a xs) (hb : Below w.heap.size w w') : CRow w' a xs := h.kept fun p hp => hb.cell hp
theorem CRow.at {w : World} {a : Option Addr} {xs : List Prt} (h : CRow w a xs) (hx : xs ≠ []) : ∃ b off, a = some ⟨b, off, none⟩ ∧ b < w.heap.size ∧ ∀ w', Below w.heap.size w w' → ∀ k, k < xs.length → ∃ ps cs go test ns rs pa pc ca cc na nc ra rc, w'.cell? ⟨b, off + k * 6, none⟩ = some (.slice ca cs.length cc) ∧ w'.cell? ⟨b, off + k * 6 + 1, none⟩ = some (.int .i64 go) ∧ w'.cell? ⟨b, off + k * 6 + 2, none⟩ = some (.int .i64 test) ∧ w'.cell? ⟨b, off + k * 6 + 3, none⟩ = some (.slice na ns.length nc) ∧ w'.cell? ⟨b, off + k * 6 + 4, none⟩ = some (.slice pa ps.length pc) ∧ w'.cell? ⟨b, off + k * 6 + 5, none⟩ = some (.slice ra rs.length rc) ∧ ps.length ≤ 9223372036854775807 ∧ cs.length ≤ 9223372036854775807 ∧ ns.length ≤ 9223372036854775807 ∧ rs.length ≤ 9223372036854775807 ∧ Hid (PIn w' ⟨ps, cs, go, test, ns, rs⟩ pa ca na ra) ∧ Hid (xs[k]? = some ⟨ps, cs, go, test, ns, rs⟩) := by
  rcases h with h | ⟨b, off, rfl, hc⟩
  · exact absurd h hx
  · obtain ⟨x0, h0⟩ : ∃ x, xs[0]? = some x := by cases xs with | nil => exact absurd rfl hx | cons y r => exact ⟨y, rfl⟩
    obtain ⟨_, _, _, _, _, _, _, _, _, _, _, _, z0, _⟩ := hc 0 _ h0
    refine ⟨b, off, rfl, World.block_lt_of_cell? w _ z0, fun w' hb k hk => ?_⟩
    have hxk : xs[k]? = some xs[k] := List.getElem?_eq_getElem hk
    obtain ⟨pa, pc, ca, cc, na, nc, ra, rc, l1, l2, l3, l4, h0, h1, h2, h3, h4, h5, r⟩ := hc k _ hxk
    exact ⟨_, _, _, _, _, _, pa, pc, ca, cc, na, nc, ra, rc, by rw [hb.cell (World.block_lt_of_cell? w _ h0)]; exact h0, by rw [hb.cell (World.block_lt_of_cell? w _ h1)]; exact h1, by rw [hb.cell (World.block_lt_of_cell? w _ h2)]; exact h2, by rw [hb.cell (World.block_lt_of_cell? w _ h3)]; exact h3, by rw [hb.cell (World.block_lt_of_cell? w _ h4)]; exact h4, by rw [hb.cell (World.block_lt_of_cell? w _ h5)]; exact h5, l1, l2, l3, l4, r.below hb, hxk⟩
/-- a piece with the addresses of its slices -/
structure CV where
  p : Prt
  pa : Option Addr
  pc : Nat
  ca : Option Addr
  cc : Nat
  na : Option Addr
  nc : Nat
  ra : Option Addr
  rc : Nat
def cellsC (y : CV) : List Value := [.slice y.ca y.p.code.length y.cc, .int .i64 y.p.go, .int .i64 y.p.test, .slice y.na y.p.next.length y.nc, .slice y.pa y.p.params.length y.pc, .slice y.ra y.p.args.length y.rc]
def flatC (ys : List CV) : List Value := ys.flatMap cellsC
def prtsC (ys : List CV) : List Prt := ys.map (·.p)
theorem flatC_cons (y : CV) (r : List CV) : flatC (y :: r) = (.slice y.ca y.p.code.length y.cc) :: (.int .i64 y.p.go) :: (.int .i64 y.p.test) :: (.slice y.na y.p.next.length y.nc) :: (.slice y.pa y.p.params.length y.pc) :: (.slice y.ra y.p.args.length y.rc) :: flatC r := by simp [flatC, cellsC]
theorem flatC_append (xs ys : List CV) : flatC (xs ++ ys) = flatC xs ++ flatC ys := by simp [flatC]
theorem flatC_at (ys : List CV) (k : Nat) (y : CV) (h : ys[k]? = some y) : (flatC ys)[k * 6]? = some (.slice y.ca y.p.code.length y.cc) ∧ (flatC ys)[k * 6 + 1]? = some (.int .i64 y.p.go) ∧ (flatC ys)[k * 6 + 2]? = some (.int .i64 y.p.test) ∧ (flatC ys)[k * 6 + 3]? = some (.slice y.na y.p.next.length y.nc) ∧ (flatC ys)[k * 6 + 4]? = some (.slice y.pa y.p.params.length y.pc) ∧ (flatC ys)[k * 6 + 5]? = some (.slice y.ra y.p.args.length y.rc) := by
  induction ys generalizing k with
  | nil => simp at h
  | cons z r ih =>
    cases k with
    | zero => simp at h; subst h; rw [flatC_cons]; simp
    | succ k =>
      simp at h
      have := ih k h
      rw [flatC_cons, show (k + 1) * 6 = k * 6 + 6 by omega]
      simpa using this
/-- what such a piece tells lies in a world -/
def CIn (w : World) (y : CV) : Prop := PIn w y.p y.pa y.ca y.na y.ra ∧ y.p.params.length ≤ 9223372036854775807 ∧ y.p.code.length ≤ 9223372036854775807 ∧ y.p.next.length ≤ 9223372036854775807 ∧ y.p.args.length ≤ 9223372036854775807
theorem crow_of {w0 w : World} {B n vc : Nat} {va : Option Addr} {ys : List CV} (h : w.ownsRow B 74 6 (.slice va n vc) n (flatC ys)) (hn : ys.length = n) (hi : ∀ y ∈ ys, CIn w0 y) (hb : Below w0.heap.size w0 w) : CRow w va (prtsC ys) := by
  have ho := h
  rcases ho.2 with ⟨e, h0⟩ | ⟨g, cap, cur, e, _⟩
  · obtain rfl : ys = [] := List.eq_nil_of_length_eq_zero (by omega)
    exact .inl rfl
  · injection e with e1 e2 e3
    subst e1
    refine .inr ⟨g, 0, rfl, fun k x hx => ?_⟩
    obtain ⟨y, hy, rfl⟩ : ∃ y, ys[k]? = some y ∧ y.p = x := by simp [prtsC] at hx; exact hx
    obtain ⟨f0, f1, f2, f3, f4, f5⟩ := flatC_at ys k y hy
    obtain ⟨i1, l1, l2, l3, l4⟩ := hi y (List.mem_of_getElem? hy)
    refine ⟨y.pa, y.pc, y.ca, y.cc, y.na, y.nc, y.ra, y.rc, l1, l2, l3, l4, ?_, ?_, ?_, ?_, ?_, ?_, i1.below hb⟩
    · rw [Nat.zero_add, rowT_at ho rfl f0]
    · rw [Nat.zero_add, rowT_at ho rfl f1]
    · rw [Nat.zero_add, rowT_at ho rfl f2]
    · rw [Nat.zero_add, rowT_at ho rfl f3]
    · rw [Nat.zero_add, rowT_at ho rfl f4]
    · rw [Nat.zero_add, rowT_at ho rfl f5]
theorem eltC : Elt 56 74 6 112 := by
  obtain ⟨i0, hi, hz0, hz1, hz2⟩ := info_parts (show (Tryz.prog.info? 74).map (fun i => (i.zero, i.size, i.bytes)) = some (some (.agg #[.slice none 0 0, .int .i64 0, .int .i64 0, .slice none 0 0, .slice none 0 0, .slice none 0 0]), 6, 112) by kernel_rfl)
  exact ⟨i0, _, Tryz.underlying56, hi, hz0, hz1, hz2, rfl, by omega, by omega⟩
theorem News.sixC (w : World) (v0 v1 v2 v3 v4 v5 : Value) (nb : Nat) (hnb : w.heap.size = nb) (h : ∀ u ∈ [v0, v1, v2, v3, v4, v5], u.oneCell' = true) : News (w.alloc (.cells #[v0, v1, v2, v3, v4, v5] 74)) (some ⟨nb, 0, none⟩) 1 6 [v0, v1, v2, v3, v4, v5] := by
  subst hnb
  refine ⟨rfl, h, .inr ⟨_, rfl, fun j u hj => ?_⟩⟩
  rw [addr_add]
  match j, hj with
  | 0, hj => simp at hj; subst hj; simp [go_sem]
  | 1, hj => simp at hj; subst hj; simp [go_sem]
  | 2, hj => simp at hj; subst hj; simp [go_sem]
  | 3, hj => simp at hj; subst hj; simp [go_sem]
  | 4, hj => simp at hj; subst hj; simp [go_sem]
  | 5, hj => simp at hj; subst hj; simp [go_sem]
set_option maxHeartbeats 4000000 in
/-- the program's pieces of an ssa -/
theorem piecesOf_any (V : Int) (xs : List Prt) (a : Option Addr) (c : Nat) (w : World) (hl : xs.length ≤ 1000) (hX : PRow w a xs) :
    Calls Tryz.prog 35 #[.agg #[.slice a xs.length c, .int .i64 V]] w fun e w' => ∃ va vc, e = .returned (.slice va xs.length vc) ∧ CRow w' va xs ∧ Below w.heap.size w w' := by
  have b1 := below1 w (.cells #[.slice a xs.length c, .int .i64 V] 30)
  obtain ⟨W0, hW0⟩ : ∃ W, W = w.alloc (.cells #[.slice a xs.length c, .int .i64 V] 30) := ⟨_, rfl⟩
  rw [← hW0] at b1
  have HW0 : Hid (w.alloc (.cells #[.slice a xs.length c, .int .i64 V] 30) = W0) := hW0.symm
  have HB0 := hid b1
  have H := hid (fun (W : World) (hb : Below W0.heap.size W0 W) => hX.below (bstep' b1 hb))
  clear b1 hW0 hX
  go_enter Tryz.func35, Tryz.ntmps35
  go_wp2
  go_loopw [3, 10] (fun t3 t10 wr => ∃ (k : Nat) (va : Option Addr) (vc : Nat) (zs : List CV), t10 = .int .i64 k ∧ k ≤ xs.length ∧ zs.length = k ∧ prtsC zs = xs.take k ∧ (∀ y ∈ zs, CIn W0 y) ∧ t3 = .slice va k vc ∧ Sep wr W0.heap.size ([] ++ ⟨74, 6, .slice va k vc, k, flatC zs⟩ :: []) ∧ Below W0.heap.size W0 wr) (fun _ t10 _ => xs.length - (intOf t10).toNat)
  case atStart => exact ⟨0, none, 0, [], rfl, by omega, rfl, rfl, by simp, rfl, by rw [HW0.out]; exact sep_one (World.ownsRow_nil _ _ _ _), by rw [HW0.out]; exact Below.refl _ _⟩
  case round =>
    obtain ⟨k, va, vc, zs, rfl, hk, hzl, hzs, hzi, rfl, hsep, hB⟩ := hrel
    have HZ := hid (And.intro hzl (And.intro hzs hzi))
    have HS := hid hsep
    have HB := hid hB
    clear hzl hzs hzi hsep hB
    by_cases hlt : k < xs.length
    · obtain ⟨b, off, rfl, hbw, hat⟩ := (H.out W0 (Below.refl _ _)).at (by intro e; subst e; simp at hlt)
      obtain ⟨ps, cs, go, test, ns, rs, pa, pc, ca, cc, na, nc, ra, rc, c0, c1, c2, c3, c4, c5, l1, l2, l3, l4, HI, HX⟩ := hat W0 (Below.refl _ _) k hlt
      replace c0 := cell_below c0 HB.out
      replace c1 := cell_below c1 HB.out
      replace c2 := cell_below c2 HB.out
      replace c3 := cell_below c3 HB.out
      replace c4 := cell_below c4 HB.out
      replace c5 := cell_below c5 HB.out
      clear hat
      have hsz : W0.heap.size ≤ wr.heap.size := HB.out.size
      have b3 := below3 wr (.cells #[.slice pa ps.length pc, .slice ca cs.length cc, .int .i64 go, .int .i64 test, .slice na ns.length nc, .slice ra rs.length rc] 51) (.cells #[.slice ca cs.length cc, .int .i64 go, .int .i64 test, .slice na ns.length nc] 72) (.cells #[.slice ca cs.length cc, .int .i64 go, .int .i64 test, .slice na ns.length nc, .slice pa ps.length pc, .slice ra rs.length rc] 74)
      have HS3 := hid (Sep.below HS.out b3)
      have HB3 := hid (bstep' HB.out b3)
      have HN := hid (News.sixC ((wr.alloc (.cells #[.slice pa ps.length pc, .slice ca cs.length cc, .int .i64 go, .int .i64 test, .slice na ns.length nc, .slice ra rs.length rc] 51)).alloc (.cells #[.slice ca cs.length cc, .int .i64 go, .int .i64 test, .slice na ns.length nc] 72)) (.slice ca cs.length cc) (.int .i64 go) (.int .i64 test) (.slice na ns.length nc) (.slice pa ps.length pc) (.slice ra rs.length rc) (wr.heap.size + 1 + 1) (by simp) (by simp [Value.oneCell']))
      clear b3
      go_wp2_with (at_builtin; refine wpList_append_sep eltC rfl _ _ rfl W0.heap.size [] HS3.out rfl HN.out rfl (by omega) (by simp; omega) ?_)
      intro va2 vc2 w2 hs2 hb2 hg2
      have HS2 := hid hs2
      have HB2 := hid (HB3.out.trans hb2)
      clear hs2 hb2 hg2
      go_wp2
      go_roundw
      case rel =>
        refine ⟨k + 1, va2, vc2, zs ++ [⟨⟨ps, cs, go, test, ns, rs⟩, pa, pc, ca, cc, na, nc, ra, rc⟩], by go_num, by omega, by rw [List.length_append, HZ.out.1]; rfl, ?_, ?_, rfl, ?_, HB2.out⟩
        · rw [List.take_add_one, HX.out, ← HZ.out.2.1]; simp [prtsC]
        · intro y hy
          rcases List.mem_append.1 hy with hy | hy
          · exact HZ.out.2.2 y hy
          · simp at hy; subst hy; exact ⟨HI.out, l1, l2, l3, l4⟩
        · rw [flatC_append]; exact HS2.out
      case measure => simp [intOf]; omega
    · obtain rfl : k = xs.length := by omega
      rw [List.take_of_length_le (Nat.le_refl _)] at HZ
      go_wp2
      go_ret
      refine ⟨va, vc, rfl, ?_, bstep' HB0.out HB.out⟩
      have := crow_of (one_sep HS.out) HZ.out.1 HZ.out.2.2 HB.out
      rwa [HZ.out.2.1] at this
end

section
open Go.RowKit
set_option linter.unusedVariables false
set_option linter.unusedSimpArgs false
set_option maxRecDepth 100000

set_option maxHeartbeats 2000000 in
theorem handsOn_any (xs : List Prt) (a : Option Addr) (c pb poff : Nat) (go test : Int) (ps : List Int) (cs : List Flt) (ns : List Int) (rs : List (List Int)) (na : Option Addr) (nc : Nat) (w : World) (hl : xs.length ≤ 1000) (hnl : ns.length ≤ 1000) (hC : CRow w a xs) (hn : Row w na ns) (h1 : w.cell? ⟨pb, poff + 1, none⟩ = some (.int .i64 go)) (h3 : w.cell? ⟨pb, poff + 3, none⟩ = some (.slice na ns.length nc)) (hN : ∀ x ∈ ns, 0 ≤ x ∧ x < (xs.length : Int)) :
    Calls Tryz.prog 74 #[.pointer (some ⟨pb, poff, none⟩), .slice a xs.length c] w fun e w' => ∃ va vc, e = .returned (.slice va (handsOn xs ⟨ps, cs, go, test, ns, rs⟩).length vc) ∧ w'.ownsRow w.heap.size 3 1 (.slice va (handsOn xs ⟨ps, cs, go, test, ns, rs⟩).length vc) (handsOn xs ⟨ps, cs, go, test, ns, rs⟩).length (ints (nats (handsOn xs ⟨ps, cs, go, test, ns, rs⟩))) ∧ Below w.heap.size w w' := by
  by_cases hg : go = 3
  · subst hg
    have hh : handsOn xs ⟨ps, cs, 3, test, ns, rs⟩ = [3] := by simp [handsOn]
    rw [hh]
    have HO := hid (own_alloc w #[.int .i64 3] 1 1 rfl (by omega) (by unfold maxLen; omega))
    clear hC hn hN h3
    go_enter Tryz.func74, Tryz.ntmps74
    go_wp2
    go_ret
    exact ⟨_, _, rfl, by simpa [ints, nats] using HO.out, below1 _ _⟩
  · have g3 : (go == 3) = false := by simp [hg]
    obtain ⟨f, hf⟩ : ∃ f : Int → Nat, (fun x => ((xs[x.toNat]?).getD default).params.length) = f := ⟨_, rfl⟩
    have hh : handsOn xs ⟨ps, cs, go, test, ns, rs⟩ = ns.map f := by simp only [handsOn, if_neg hg, hf]
    rw [hh]
    have HF := hid hf
    have HC := hid hC
    have HR := hid hn
    have HN := hid hN
    clear hh hf hC hn hN
    go_enter Tryz.func74, Tryz.ntmps74
    go_wp2
    go_loopw [5, 21] (fun t5 t21 wr => ∃ (j : Nat) (va : Option Addr) (vc : Nat), t21 = .int .i64 j ∧ j ≤ ns.length ∧ t5 = .slice va j vc ∧ Sep wr w.heap.size ([] ++ ⟨3, 1, .slice va j vc, j, ints (nats ((ns.map f).take j))⟩ :: []) ∧ Below w.heap.size w wr) (fun _ t21 _ => ns.length - (intOf t21).toNat)
    case atStart => exact ⟨0, none, 0, rfl, by omega, rfl, sep_one (World.ownsRow_nil _ _ _ _), Below.refl _ _⟩
    case round =>
      obtain ⟨j, va, vc, rfl, hj, rfl, hsep, hB⟩ := hrel
      have HS := hid hsep
      have HB := hid hB
      clear hsep hB
      by_cases hjt : j < ns.length
      · obtain ⟨nb, noff, rfl, hnb, hnat⟩ := HR.out.at (by intro e; subst e; simp at hjt)
        obtain ⟨x, cx, HXN⟩ := hnat wr HB.out j hjt
        obtain ⟨hx0, hx1⟩ := HN.out x (List.mem_of_getElem? HXN.out)
        obtain ⟨m, hm⟩ : ∃ m : Nat, x = m := ⟨x.toNat, by omega⟩
        subst hm
        have hm2 : m < xs.length := by omega
        obtain ⟨xb, xoff, rfl, hxb, hxat⟩ := HC.out.at (by intro e; subst e; simp at hm2)
        obtain ⟨ps', cs', go', test', ns', rs', pa', pc', ca', cc', na', nc', ra', rc', d0, d1, d2, d3, d4, d5, m1, m2, m3, m4, HIX, HXX⟩ := hxat wr HB.out m hm2
        have HFX : Hid (nats ((ns.map f).take (j + 1)) = nats ((ns.map f).take j) ++ [(ps'.length : Int)]) := by
          show _ = _
          rw [List.take_add_one, List.getElem?_map, HXN.out, ← HF.out]
          simp [nats, HXX.out]
        have hsz : w.heap.size ≤ wr.heap.size := HB.out.size
        have b1 := below1 wr (.cells #[.int .i64 (ps'.length : Int)] 3)
        have HN1 := hid (News.one wr (.int .i64 (ps'.length : Int)) 3 wr.heap.size rfl rfl)
        have HS1 := hid (Sep.below HS.out b1)
        have HB1 := hid (bstep' HB.out b1)
        clear hnat hxat b1
        go_wp2_with (at_builtin; refine wpList_append_sep eltInt rfl _ _ rfl w.heap.size [] HS1.out rfl HN1.out rfl (by omega) (by simp; omega) ?_)
        intro va2 vc2 w2 hs2 hb2 hg2
        have HS2 := hid hs2
        have HB2 := hid (HB1.out.trans hb2)
        clear hs2 hb2 hg2
        go_wp2
        go_roundw
        case rel =>
          refine ⟨j + 1, va2, vc2, by go_num, by omega, rfl, ?_, HB2.out⟩
          rw [HFX.out, ints_append]; exact HS2.out
        case measure => simp [intOf]; omega
      · obtain rfl : j = ns.length := by omega
        rw [List.take_of_length_le (by rw [List.length_map]; exact Nat.le_refl _)] at HS
        go_wp2
        go_ret
        exact ⟨va, vc, by rw [List.length_map]; rfl, by rw [List.length_map]; exact one_sep HS.out, HB.out⟩
end

section
open Go.RowKit
set_option linter.unusedVariables false
set_option linter.unusedSimpArgs false
set_option maxRecDepth 100000

theorem allNext_in9 {n : Nat} {t : List Int} (h : allNext n t = true) {x : Int} (hx : x ∈ t) : 0 ≤ x ∧ x < n := by
  simp only [allNext, List.all_eq_true] at h
  have := h x hx
  simp [nextB, inB] at this; omega
theorem ways_few9 {V go test : Int} {n : Nat} (h2 : waysBm V go test n = true) : n ≤ 6 := by
  unfold waysBm at h2
  split at h2
  · simp only [Bool.and_eq_true, decide_eq_true_eq] at h2; omega
  · split at h2
    · simp only [Bool.and_eq_true, decide_eq_true_eq] at h2; omega
    · split at h2
      · simp only [Bool.and_eq_true] at h2; have := h2.1; simp [inB] at this; omega
      · split at h2
        · simp only [Bool.and_eq_true, decide_eq_true_eq] at h2; omega
        · cases h2
theorem eqLen_any (ta : Option Addr) (n tc : Nat) (m : Nat) (w : World) (hn : n ≤ 9223372036854775807) : Calls Tryz.prog 75 #[.slice ta n tc, .int .i64 (m : Int)] w fun e w' => e = .returned (.bool (decide (n = m))) ∧ w' = w := by
  by_cases h : n = m
  · subst h
    go_enter Tryz.func75, Tryz.ntmps75
    go_wp2
    go_ret
    exact ⟨ret_bool (by simp), rfl⟩
  · have h1 : ((n : Int) == (m : Int)) = false := by rw [beq_eq_false_iff_ne]; omega
    go_enter Tryz.func75, Tryz.ntmps75
    go_wp2
    go_ret
    exact ⟨ret_bool (by simp [h]), rfl⟩
set_option maxHeartbeats 2000000 in
/-- the library's EqualFunc, over lists and how long they are to be -/
theorem equalF_any (rs : List (List Int)) (hs : List Nat) (ra ha : Option Addr) (rc hc : Nat) (w : World) (h1 : rs.length ≤ 9223372036854775807) (h2 : hs.length ≤ 9223372036854775807) (hr : LRow w ra rs) (hh : Row w ha (nats hs)) :
    Calls Tryz.prog 73 #[.slice ra rs.length rc, .slice ha hs.length hc, .func (.func 75) #[] #[]] w fun e w' => e = .returned (.bool (decide (rs.map List.length = hs))) ∧ w' = w := by
  have HR := hid hr
  have HH := hid hh
  clear hr hh
  by_cases hl : rs.length = hs.length
  · have e1 : ((rs.length : Int) != (hs.length : Int)) = false := by simp [hl]
    have HL := hid hl
    clear hl
    go_enter Tryz.func73, Tryz.ntmps73
    go_wp2
    go_loop [17] (fun t17 => ∃ j : Nat, t17 = .int .i64 j ∧ j ≤ rs.length ∧ ∀ (i : Nat) l, i < j → rs[i]? = some l → hs[i]? = some l.length) (fun t17 => rs.length - (intOf t17).toNat)
    case atStart => exact ⟨0, rfl, by omega, by intro i l hi; omega⟩
    case round =>
      obtain ⟨j, rfl, hj, hgd⟩ := hrel
      have HGD := hid hgd
      clear hgd
      by_cases hjt : j < rs.length
      · obtain ⟨b, off, rfl, hbw, hat⟩ := HR.out.at (by intro e; subst e; simp at hjt)
        obtain ⟨t, ta, tc, c0, tl, HRT, HX⟩ := hat w (Below.refl _ _) j hjt
        have hj2 : j < hs.length := by have := HL.out; omega
        obtain ⟨hb, hoff, rfl, hhw, hhat⟩ := HH.out.at (by intro e; have := congrArg List.length e; rw [nats_length] at this; simp at this; subst this; simp at hj2)
        obtain ⟨v, c1, HXH⟩ := hhat w (Below.refl _ _) j (by rw [nats_length]; exact hj2)
        obtain ⟨m, rfl, hm⟩ := nats_get HXH.out
        have HM := hid hm
        clear hat hhat hm
        obtain ⟨q, hq⟩ : ∃ q, decide (t.length = m) = q := ⟨_, rfl⟩
        have CQ := eqLen_any ta t.length tc m w tl
        rw [hq] at CQ
        have HCQ := hid CQ
        have HQ := hid hq
        clear CQ hq
        cases q
        · have HB : Hid (rs.map List.length ≠ hs) := fun e => by
            have h1 := congrArg (fun z => z[j]?) e
            simp only [List.getElem?_map, HX.out, HM.out, Option.map_some, Option.some.injEq] at h1
            have := HQ.out; simp [h1] at this
          go_wp2_with fail
          refine HCQ.out.mono ?_
          rintro e w1 ⟨rfl, hw1⟩
          subst w1
          go_wp2
          go_ret
          exact ⟨ret_bool (by simp [HB.out]), rfl⟩
        · go_wp2_with fail
          refine HCQ.out.mono ?_
          rintro e w1 ⟨rfl, hw1⟩
          subst w1
          go_wp2
          go_round
          case rel => exact ⟨j + 1, by go_num, by omega, by
            intro i l hi hz
            by_cases e : i = j
            · subst e; rw [HX.out] at hz; cases hz; rw [HM.out]; have := HQ.out; simp at this; rw [this]
            · exact HGD.out i l (by omega) hz⟩
          case measure => simp [intOf]; omega
      · obtain rfl : j = rs.length := by omega
        have HB : Hid (rs.map List.length = hs) := by
          show _ = _
          apply List.ext_getElem?
          intro i
          rw [List.getElem?_map]
          cases e : rs[i]? with
          | none =>
            rw [List.getElem?_eq_none_iff] at e
            have := HL.out
            rw [List.getElem?_eq_none_iff.2 (by omega)]; rfl
          | some l => rw [HGD.out i l (List.getElem?_eq_some_iff.1 e).1 e]; rfl
        go_wp2
        go_ret
        exact ⟨ret_bool (by simp [HB.out]), rfl⟩
  · have e1 : ((rs.length : Int) != (hs.length : Int)) = true := by simp; omega
    have HB : Hid (rs.map List.length ≠ hs) := fun e => hl (by rw [← e, List.length_map])
    go_enter Tryz.func73, Tryz.ntmps73
    go_wp2
    go_ret
    exact ⟨ret_bool (by simp [HB.out]), rfl⟩
set_option maxHeartbeats 4000000 in
/-- the program's test on a piece -/
theorem goodPiece_any (V : Nat) (xs : List Prt) (a : Option Addr) (c pb poff : Nat) (go test : Int) (ps : List Int) (cs : List Flt) (ns : List Int) (rs : List (List Int)) (pa ca na ra : Option Addr) (pc cc nc rc : Nat) (w : World) (hl : xs.length ≤ 1000) (l1 : ps.length ≤ 9223372036854775807) (l2 : cs.length ≤ 9223372036854775807) (l3 : ns.length ≤ 9223372036854775807) (l4 : rs.length ≤ 9223372036854775807) (hC : CRow w a xs) (hI : PIn w ⟨ps, cs, go, test, ns, rs⟩ pa ca na ra) (hT : Tab w)
    (c0 : w.cell? ⟨pb, poff, none⟩ = some (.slice ca cs.length cc)) (c1 : w.cell? ⟨pb, poff + 1, none⟩ = some (.int .i64 go)) (c2 : w.cell? ⟨pb, poff + 2, none⟩ = some (.int .i64 test)) (c3 : w.cell? ⟨pb, poff + 3, none⟩ = some (.slice na ns.length nc)) (c4 : w.cell? ⟨pb, poff + 4, none⟩ = some (.slice pa ps.length pc)) (c5 : w.cell? ⟨pb, poff + 5, none⟩ = some (.slice ra rs.length rc)) :
    Calls Tryz.prog 46 #[.pointer (some ⟨pb, poff, none⟩), .slice a xs.length c, .int .i64 (V : Int)] w fun e w' => e = .returned (.bool (goodPrt V xs ⟨ps, cs, go, test, ns, rs⟩)) ∧ Below w.heap.size w w' := by
  obtain ⟨G, hG⟩ : ∃ G, goodPrt V xs ⟨ps, cs, go, test, ns, rs⟩ = G := ⟨_, rfl⟩
  rw [hG]
  obtain ⟨gb, hgb⟩ : ∃ g, goodBm (V : Int) xs.length ⟨cs, go, test, ns⟩ = g := ⟨_, rfl⟩
  obtain ⟨gp, hgp⟩ : ∃ g, allBel (V : Int) ps = g := ⟨_, rfl⟩
  obtain ⟨gf, hgf⟩ : ∃ g, fitArgs xs ⟨ps, cs, go, test, ns, rs⟩ = g := ⟨_, rfl⟩
  have HG : Hid (G = (gb && (gp && gf))) := by show _ = _; rw [← hG, ← hgb, ← hgp, ← hgf]; rfl
  have CB := goodBlock_any (V : Int) go test cs ns ca na cc nc xs.length w l2 l3 hI.code hI.next hT
  rw [hgb] at CB
  have CP := fun (W : World) (hb : Below w.heap.size w W) => areBelow_any pa pc ps (V : Int) W l1 (hI.params.below hb)
  rw [hgp] at CP
  have HCB := hid CB
  have HCP := hid CP
  have HGB := hid hgb
  have HGF := hid hgf
  have HC := hid (fun (W : World) (hb : Below w.heap.size w W) => And.intro (hC.below hb) (hI.below hb))
  clear CB CP hgb hgp hgf hG hC hI hT
  go_enter Tryz.func46, Tryz.ntmps46
  go_wp2_with fail
  refine HCB.out.mono ?_
  rintro e w1 ⟨rfl, hb1⟩
  have HB1 := hid hb1
  cases gb
  · go_wp2
    go_ret
    exact ⟨ret_bool (by rw [HG.out]; rfl), HB1.out⟩
  have d1 := cell_below c1 hb1
  have d3 := cell_below c3 hb1
  have d4 := cell_below c4 hb1
  have d5 := cell_below c5 hb1
  have HNX : Hid (ns.length ≤ 6 ∧ ∀ x ∈ ns, 0 ≤ x ∧ x < (xs.length : Int)) := by
    have h := HGB.out
    simp only [goodBm, Bool.and_eq_true] at h
    exact ⟨ways_few9 h.2.2.2, fun x hx => allNext_in9 h.2.1 hx⟩
  clear hb1 HCB
  go_wp2_with fail
  refine (HCP.out _ HB1.out).mono ?_
  rintro e w2 ⟨rfl, hb2⟩
  have HB2 := hid (bstep' HB1.out hb2)
  cases gp
  · go_wp2
    go_ret
    exact ⟨ret_bool (by rw [HG.out]; rfl), HB2.out⟩
  have f1 := cell_below d1 hb2
  have f3 := cell_below d3 hb2
  have f5 := cell_below d5 hb2
  have HF1 := hid (And.intro f1 f3)
  clear hb2 d1 d3 d4 d5 HCP
  have CH := hid (fun (W : World) (hb : Below w2.heap.size w2 W) => handsOn_any xs a c pb poff go test ps cs ns rs na nc W hl (by have := HNX.out.1; omega) (HC.out W (bstep' HB2.out hb)).1 (HC.out W (bstep' HB2.out hb)).2.next (cell_below HF1.out.1 hb) (cell_below HF1.out.2 hb) HNX.out.2)
  go_wp2
  go_region_with (first | (go_at_call 74; refine (CH.out _ ((Below.refl _ _).drew)).mono ?_; rintro e w3 ⟨va, vc, rfl, ho3, hb3⟩; have f5' := cell_below f5 (below_of_drew hb3)) | (go_at_call 73; refine (equalF_any rs _ ra va rc vc _ l4 (own_len ho3) (HC.out _ (bstep' HB2.out (below_of_drew hb3))).2.args (own_row (xs := nats _) (by rw [nats_length]; exact ho3))).mono ?_; rintro e w4 ⟨rfl, hw4⟩))
  all_goals
    subst hw4
    go_wp2
    go_ret
    exact ⟨ret_bool (by rw [HG.out, ← HGF.out]; simp [fitArgs]), bstep' HB2.out (below_of_drew hb3)⟩
end

section
open Go.RowKit
set_option linter.unusedVariables false
set_option linter.unusedSimpArgs false
set_option maxRecDepth 100000

theorem indexE_any (a : Option Addr) (c : Nat) (xs : List Int) (n : Int) (w : World) (hl : xs.length ≤ 9223372036854775807) (h : Row w a xs) :
    Calls Tryz.prog 108 #[.slice a xs.length c, .int .i64 n] w fun e w' => (∃ r : Int, e = .returned (.int .i64 r) ∧ decide (0 ≤ r) = hasB xs n) ∧ w' = w := by
  obtain ⟨G, hG⟩ : ∃ G, hasB xs n = G := ⟨_, rfl⟩
  rw [hG]
  have HG := hid hG
  have H := hid h
  clear h hG
  go_enter Tryz.func108, Tryz.ntmps108
  go_wp2
  go_loop [8] (fun t8 => ∃ (k : Nat), t8 = .int .i64 k ∧ k ≤ xs.length ∧ (∀ (j : Nat) v, j < k → xs[j]? = some v → ¬ v = n)) (fun t8 => xs.length - (intOf t8).toNat)
  case atStart => exact ⟨0, rfl, by omega, by intro j v hj; omega⟩
  case round =>
    obtain ⟨k, rfl, hk, hf⟩ := hrel
    have HF := hid hf
    clear hf
    by_cases hlt : k < xs.length
    · have hx : xs ≠ [] := by intro e; subst e; simp at hlt
      obtain ⟨b, off, rfl, hbw, hat⟩ := H.out.at hx
      obtain ⟨v, c1, HX⟩ := hat w (Below.refl _ _) k hlt
      clear hat hx
      by_cases hv : v = n
      · subst hv
        have HI := hid (HG.out.symm.trans (hasB_yes HX.out))
        go_wp2
        go_ret
        exact ⟨⟨_, rfl, by rw [HI.out]; simp⟩, rfl⟩
      · have hv' : ¬ n = v := fun h => hv h.symm
        go_wp2
        go_round
        case rel =>
          refine ⟨k + 1, by go_num, by omega, fun j u hj hu => ?_⟩
          by_cases e : j = k
          · subst e; rw [HX.out] at hu; cases hu; exact hv
          · exact HF.out j u (by omega) hu
        case measure => simp [intOf]; omega
    · obtain rfl : k = xs.length := by omega
      have HI := hid (HG.out.symm.trans (hasB_no (fun j v hv => HF.out j v (List.getElem?_eq_some_iff.1 hv).1 hv)))
      go_wp2
      go_ret
      exact ⟨⟨_, rfl, by rw [HI.out]; rfl⟩, rfl⟩
theorem containsE_any (a : Option Addr) (c : Nat) (xs : List Int) (n : Int) (w : World) (hl : xs.length ≤ 9223372036854775807) (h : Row w a xs) :
    Calls Tryz.prog 78 #[.slice a xs.length c, .int .i64 n] w fun e w' => e = .returned (.bool (hasB xs n)) ∧ w' = w := by
  have H := hid h
  clear h
  go_enter Tryz.func78, Tryz.ntmps78
  go_wp2_with fail
  refine (indexE_any a c xs n _ hl H.out).mono ?_
  rintro e w1 ⟨⟨r, rfl, hr⟩, hw⟩
  subst w1
  have HR := hid hr
  clear hr
  go_wp2
  go_ret
  exact ⟨ret_bool HR.out, rfl⟩
theorem leads0_any (ps : List Int) (cs : List Flt) (go test : Int) (ns : List Int) (rs : List (List Int)) (pa ca na ra : Option Addr) (pc cc nc rc : Nat) (w : World) (hn : ns.length ≤ 9223372036854775807) (h : Row w na ns) :
    Calls Tryz.prog 77 #[.agg #[.slice ca cs.length cc, .int .i64 go, .int .i64 test, .slice na ns.length nc, .slice pa ps.length pc, .slice ra rs.length rc]] w fun e w' => e = .returned (.bool (hasB ns 0)) ∧ Below w.heap.size w w' := by
  have H := hid h
  clear h
  go_enter Tryz.func77, Tryz.ntmps77
  go_wp2_with fail
  refine (containsE_any na nc ns 0 _ hn (H.out.below (below1 w _))).mono ?_
  rintro e w1 ⟨rfl, rfl⟩
  go_wp2
  go_ret
  exact ⟨rfl, below1 w _⟩
def backB (xs : List Prt) : Bool := xs.any fun p => hasB p.next 0
theorem backB_yes {xs : List Prt} {k : Nat} {p : Prt} (h : xs[k]? = some p) (h0 : hasB p.next 0 = true) : backB xs = true := List.any_eq_true.2 ⟨p, List.mem_of_getElem? h, h0⟩
theorem backB_no {xs : List Prt} (h : ∀ (k : Nat) p, xs[k]? = some p → hasB p.next 0 = false) : backB xs = false := by
  rw [backB, List.any_eq_false]
  intro p hp
  obtain ⟨k, hk⟩ := List.mem_iff_getElem?.1 hp
  rw [h k p hk]; simp
set_option maxHeartbeats 2000000 in
/-- the library's IndexFunc over parts, with that closure -/
theorem indexP_any (a : Option Addr) (c : Nat) (xs : List Prt) (w : World) (hl : xs.length ≤ 9223372036854775807) (h : CRow w a xs) :
    Calls Tryz.prog 107 #[.slice a xs.length c, .func (.func 77) #[] #[]] w fun e w' => (∃ r : Int, e = .returned (.int .i64 r) ∧ decide (0 ≤ r) = backB xs) ∧ Below w.heap.size w w' := by
  have H := hid h
  clear h
  obtain ⟨G, hG⟩ : ∃ G, backB xs = G := ⟨_, rfl⟩
  rw [hG]
  have HG := hid hG
  clear hG
  go_enter Tryz.func107, Tryz.ntmps107
  go_wp2
  go_loopw [8] (fun t8 wr => ∃ (k : Nat), t8 = .int .i64 k ∧ k ≤ xs.length ∧ (∀ (j : Nat) p, j < k → xs[j]? = some p → hasB p.next 0 = false) ∧ Below w.heap.size w wr) (fun t8 _ => xs.length - (intOf t8).toNat)
  case atStart => exact ⟨0, rfl, by omega, by intro j x hj; omega, Below.refl _ _⟩
  case round =>
    obtain ⟨k, rfl, hk, hbf, hB⟩ := hrel
    have HF := hid hbf
    clear hbf
    by_cases hlt : k < xs.length
    · have hx : xs ≠ [] := by intro e; subst e; simp at hlt
      obtain ⟨b, off, rfl, hbw, hat⟩ := H.out.at hx
      obtain ⟨ps, cs, go, test, ns, rs, pa, pc, ca, cc, na, nc, ra, rc, c0, c1, c2, c3, c4, c5, l1, l2, l3, l4, HR, HX⟩ := hat wr hB k hlt
      clear hat hx
      have HC := hid (leads0_any ps cs go test ns rs pa ca na ra pc cc nc rc wr l3 HR.out.next)
      go_wp2_with fail
      refine HC.out.mono ?_
      rintro e w1 ⟨rfl, hb1⟩
      cases hv : hasB ns 0 with
      | true =>
        have HI := hid (HG.out.symm.trans (backB_yes HX.out hv))
        clear hv
        go_wp2
        go_ret
        exact ⟨⟨_, rfl, by rw [HI.out]; simp⟩, bstep' hB hb1⟩
      | false =>
        have HI : Hid (∀ (j : Nat) p, j < k + 1 → xs[j]? = some p → hasB p.next 0 = false) := by
          intro j u hj hu
          by_cases e : j = k
          · subst e; rw [HX.out] at hu; cases hu; exact hv
          · exact HF.out j u (by omega) hu
        clear hv
        go_wp2
        go_roundw
        case rel => exact ⟨k + 1, by go_num, by omega, HI.out, bstep' hB hb1⟩
        case measure => simp [intOf]; omega
    · obtain rfl : k = xs.length := by omega
      have HI := hid (HG.out.symm.trans (backB_no (fun j v hv => HF.out j v (List.getElem?_eq_some_iff.1 hv).1 hv)))
      go_wp2
      go_ret
      exact ⟨⟨_, rfl, by rw [HI.out]; rfl⟩, hB⟩
theorem containsP_any (a : Option Addr) (c : Nat) (xs : List Prt) (w : World) (hl : xs.length ≤ 9223372036854775807) (h : CRow w a xs) :
    Calls Tryz.prog 76 #[.slice a xs.length c, .func (.func 77) #[] #[]] w fun e w' => e = .returned (.bool (backB xs)) ∧ Below w.heap.size w w' := by
  have H := hid h
  clear h
  go_enter Tryz.func76, Tryz.ntmps76
  go_wp2_with fail
  refine (indexP_any a c xs _ hl H.out).mono ?_
  rintro e w1 ⟨⟨r, rfl, hr⟩, hb1⟩
  have HR := hid hr
  clear hr
  go_wp2
  go_ret
  exact ⟨ret_bool HR.out, hb1⟩
end
end Go.Proofs.YteihecnmnajahaaGreatDoor
