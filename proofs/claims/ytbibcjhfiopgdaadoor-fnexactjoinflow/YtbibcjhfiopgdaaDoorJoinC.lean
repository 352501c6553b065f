/- The program's way of looking for the first block that can take another one. -/
import Derived.Test.YtbibcjhfiopgdaaDoorJoinMath
import Derived.Test.YtbibcjhfiopgdaaDoorPreds7
import Derived.Test.YtbibcjhfiopgdaaDoorTrim7
import Derived.BigQuiet
namespace Go.Proofs.YtbibcjhfiopgdaaDoor
open Go.RowKit
set_option linter.unusedVariables false
set_option linter.unusedSimpArgs false
set_option maxRecDepth 100000

theorem goTo_next {f : List Blk} (hg : goodFlow f = true) {k : Nat} {b : Blk} (hb : f[k]? = some b) (h1 : b.go = 1) : ∃ t : Nat, b.next = [(t : Int)] ∧ t < f.length := by
  have hgg := hg
  simp only [goodFlow, Bool.and_eq_true] at hgg
  have hw := (goodBlk_parts (all_at hgg.1 hb)).2.2.2
  unfold waysB at hw
  rw [if_pos h1] at hw
  simp at hw
  obtain ⟨v, hv⟩ := List.length_eq_one_iff.1 hw.1
  obtain ⟨y, rfl, hy, _⟩ := nat_of_next hg hb (show b.next[0]? = some v by rw [hv]; rfl)
  exact ⟨y, hv, hy⟩
theorem good_at {f : List Blk} (hg : goodFlow f = true) {k : Nat} {b : Blk} (hb : f[k]? = some b) : b.code.length ≤ 60 := by
  simp only [goodFlow, Bool.and_eq_true] at hg
  exact (goodBlk_parts (all_at hg.1 hb)).2.2.1
theorem can_no_go {f : List Blk} {P : List (List Nat)} {k : Nat} {b : Blk} (hb : f[k]? = some b) (h : ¬ b.go = 1) : ¬ Can f P k := by
  rintro ⟨t, b', o, h1, h2, _⟩
  rw [hb] at h1; cases h1; exact h h2
theorem can_to {f : List Blk} {P : List (List Nat)} {k t : Nat} {b o : Blk} {r : List Nat} (hb : f[k]? = some b) (h1 : b.go = 1) (hn : b.next = [(t : Int)]) (ho : f[t]? = some o) (hr : P[t]? = some r) : Can f P k ↔ ¬ t = 0 ∧ r.length = 1 ∧ b.code.length + o.code.length ≤ 60 := by
  constructor
  · rintro ⟨t', b', o', g1, g2, g3, g4, ⟨p, g5⟩, g6, g7⟩
    rw [hb] at g1; cases g1
    rw [hn] at g3
    have ht : t = t' := by injection g3 with e1; omega
    subst ht
    rw [ho] at g6; cases g6
    rw [hr] at g5; cases g5
    exact ⟨g4, rfl, g7⟩
  · rintro ⟨g4, g5, g7⟩
    obtain ⟨p, rfl⟩ := List.length_eq_one_iff.1 g5
    exact ⟨t, b, o, hb, h1, hn, g4, ⟨p, hr⟩, ho, g7⟩
set_option maxHeartbeats 4000000 in
theorem canTake_any (a : Option Addr) (c B k : Nat) (f : List Blk) (P : List (List Nat)) (v : Value) (ys : List LV) (w : World) (hg : goodFlow f = true) (hp : IsPreds f P) (h : BRow w a f) (hv : OwnL w B v ys) (hy : lists ys = natsL P) (hk : k < f.length) :
    Calls Tryd.prog 87 #[.slice a f.length c, v, .int .i64 k] w fun e w' => ∃ G, e = .returned (.bool G) ∧ (G = true ↔ Can f P k) ∧ Below w.heap.size w w' := by
  have hf64 := flow_pos hg
  have hyl : ys.length = f.length := by have := congrArg List.length hy; rw [lists_length] at this; simp [natsL, hp.1] at this; exact this
  obtain ⟨b, off, rfl, hbw, hat⟩ := h.at (by intro e; subst e; simp at hf64)
  obtain ⟨vg, vc, rfl⟩ : ∃ g c, v = .slice (some ⟨g, 0, none⟩) f.length c := by
    have ho := hv.outer
    obtain ⟨va, vc, rfl⟩ := slice_of_owned ho
    obtain ⟨g, rfl⟩ := own_addr ho (by omega)
    rw [hyl]
    exact ⟨g, vc, rfl⟩
  obtain ⟨cs, go, test, ns, ca, cc, na, nc, d0, d1, d2, d3, l1, l2, HR, HX⟩ := hat w (Below.refl _ _) k hk
  by_cases hgo : go = 1
  · subst hgo
    obtain ⟨t, hn, ht⟩ := goTo_next hg HX.out rfl
    simp only at hn
    subst hn
    obtain ⟨cs2, go2, test2, ns2, ca2, cc2, na2, nc2, e0, e1, e2, e3, m1, m2, HR2, HX2⟩ := hat w (Below.refl _ _) t ht
    have hcl := good_at hg HX.out
    have hcl2 := good_at hg HX2.out
    simp only at hcl hcl2
    obtain ⟨r, hr⟩ : ∃ r, P[t]? = some r := ⟨_, List.getElem?_eq_getElem (by rw [hp.1]; exact ht)⟩
    obtain ⟨rv, hrv⟩ := own_of_lists hy hr
    have c2 : w.cell? ⟨vg, t, none⟩ = some rv := rowT_at hv.outer rfl (show (vals ys)[t]? = some rv by simp [vals, hrv])
    have hio := hv.inner (List.mem_of_getElem? hrv)
    simp only [] at hio
    obtain ⟨ra, rc, hrr⟩ := slice_of_owned hio
    rw [nats_length] at hrr
    subst hrr
    obtain ⟨nb, noff, rfl, hnw, nat⟩ := HR.out.2.at (by simp)
    obtain ⟨y, k1, HY⟩ := nat w (Below.refl _ _) 0 (by simp)
    rw [Nat.add_zero] at k1
    have hy1 : y = (t : Int) := by have := HY.out; simp at this; exact this.symm
    subst hy1
    have HC := hid (can_to HX.out rfl rfl HX2.out hr)
    simp only at HC
    have hrl : r.length ≤ 64 := by
      have := nodup_le (n := f.length) (List.Pairwise.imp (fun h => Nat.ne_of_lt h) (hp.2 t r hr).1) (fun j hj => (((hp.2 t r hr).2 j).1 hj).1.lt hg)
      omega
    have HYX := hid (And.intro hy hyl)
    have HPP := hid hp
    clear hat hio hrv hr d2 e1 e2 e3 HR2 HX HX2 HR nat HY hp hg hv hy hyl h m1 m2 l2
    by_cases ht0 : t = 0
    · have hd : decide (¬ (t : Int) = 0) = false := by simp [ht0]
      go_enter Tryd.func87, Tryd.ntmps87
      go_wp2
      go_quiet (fail)
      go_wp2
      go_ret
      exact ⟨_, rfl, by rw [HC.out]; simp [ht0], below_drewN (Below.refl _ _) _⟩
    · have hd : decide (¬ (t : Int) = 0) = true := by simp; omega
      by_cases hr1 : r.length = 1
      · have hd2 : decide ((r.length : Int) = 1) = true := by simp; omega
        have HW : Hid (IntKind.i64.wrap ((cs.length : Int) + cs2.length) = (cs.length : Int) + cs2.length) := by show _ = _; rw [IntKind.wrap_i64]; omega
        by_cases hsum : cs.length + cs2.length ≤ 60
        · go_enter Tryd.func87, Tryd.ntmps87
          go_wp2
          go_quiet (fail)
          go_wp2
          go_ret
          exact ⟨_, rfl, by rw [HC.out, HW.out]; simp [ht0, hr1]; omega, below_drewN (Below.refl _ _) _⟩
        · go_enter Tryd.func87, Tryd.ntmps87
          go_wp2
          go_quiet (fail)
          go_wp2
          go_ret
          exact ⟨_, rfl, by rw [HC.out, HW.out]; simp [ht0, hr1]; omega, below_drewN (Below.refl _ _) _⟩
      · have hd2 : decide ((r.length : Int) = 1) = false := by simp; omega
        have hd3 : decide (r.length = 1) = false := by simp; omega
        have hr2 : ¬ (r.length : Int) = 1 := by omega
        go_enter Tryd.func87, Tryd.ntmps87
        go_wp2
        go_quiet (fail)
        go_wp2
        go_ret
        exact ⟨_, rfl, by rw [HC.out]; simp [hr1], below_drewN (Below.refl _ _) _⟩
  · have HC := hid (can_no_go (P := P) HX.out hgo)
    clear hat d0 d2 d3 HR HX hp hv hy h
    go_enter Tryd.func87, Tryd.ntmps87
    go_wp2
    go_ret
    exact ⟨_, rfl, by simp [HC.out], Below.refl _ _⟩
/-- what looking for the first tells -/
def FirstAns (f : List Blk) (e : Ending) : Prop := ∃ r l P, e = .returned (.int .i64 r) ∧ IsRch f l ∧ IsPreds f P ∧ ((r = -1 ∧ NoneT f P l) ∨ ∃ k : Nat, r = k ∧ First f P l k)
set_option maxHeartbeats 4000000 in
theorem firstToTake_any (a : Option Addr) (c : Nat) (f : List Blk) (w : World) (hg : goodFlow f = true) (h : BRow w a f) :
    Calls Tryd.prog 62 #[.slice a f.length c] w fun e w' => FirstAns f e ∧ Below w.heap.size w w' := by
  have hf64 := flow_pos hg
  have HG := hid hg
  have H := hid h
  clear h hg
  go_enter Tryd.func62, Tryd.ntmps62
  go_wp2_with fail
  refine (iPreds_any _ c f _ HG.out H.out).mono ?_
  rintro e w1 ⟨v, ys, P, rfl, ho1, hy1, hp1, hb1⟩
  go_wp2_with fail
  refine (iReach_any _ c f _ HG.out (H.out.below hb1)).mono ?_
  rintro e w2 ⟨la, lc, l, rfl, hl, hol, hb2⟩
  have hB2 := bstep' hb1 hb2
  have hl64 : l.length ≤ 64 := by
    have := nodup_le (n := f.length) (List.Pairwise.imp (fun h => Nat.ne_of_lt h) hl.1) (fun k hk => ((hl.2 k).1 hk).lt HG.out)
    omega
  have HL := hid (And.intro hl (And.intro hp1 hy1))
  have HO := hid (And.intro (ho1.below hb2) hol)
  clear hl hol hb2 ho1 hy1 hp1 hb1
  go_wp2
  go_loopw [11] (fun t wr => ∃ (i : Nat), t = .int .i64 i ∧ i ≤ l.length ∧ (∀ (j x : Nat), j < i → l[j]? = some x → ¬ Can f P x) ∧ Below w2.heap.size w2 wr) (fun t _ => l.length - (intOf t).toNat)
  case atStart => exact ⟨0, rfl, by omega, fun j x hj => by omega, Below.refl _ _⟩
  case round =>
    obtain ⟨i, rfl, hi, hnone, hB⟩ := hrel
    have HN := hid hnone
    have HBW := hid (bstep' hB2 hB)
    clear hnone
    by_cases hlt : i < l.length
    · obtain ⟨k, hk⟩ : ∃ k, l[i]? = some k := ⟨_, List.getElem?_eq_getElem hlt⟩
      have hkf : k < f.length := ((HL.out.1.2 k).1 (List.mem_of_getElem? hk)).lt HG.out
      have hol := owns_below HO.out.2 hB
      obtain ⟨lg, rfl⟩ := own_addr hol (by omega)
      have c1 : wr.cell? ⟨lg, i, none⟩ = some (.int .i64 (k : Int)) := rowT_at hol rfl (by simp [ints, nats, hk])
      have HK := hid hk
      have HCT := hid (canTake_any a c w.heap.size k f P v ys wr HG.out HL.out.2.1 (H.out.below HBW.out) (HO.out.1.below hB) HL.out.2.2 hkf)
      clear hk hol
      go_wp2_with fail
      refine HCT.out.mono ?_
      rintro e w3 ⟨G, rfl, hG, hb3⟩
      have HGG := hid hG
      have HB3 := hid (bstep' hB hb3)
      clear hG hb3 c1
      cases G with
      | true =>
        go_wp2
        go_ret
        exact ⟨⟨_, l, P, rfl, HL.out.1, HL.out.2.1, .inr ⟨k, rfl, i, HK.out, HGG.out.1 trivial, HN.out⟩⟩, bstep' hB2 HB3.out⟩
      | false =>
        go_wp2
        go_roundw
        case rel =>
          refine ⟨i + 1, by go_num, by omega, fun j x hj hx hc => ?_, HB3.out⟩
          by_cases e : j = i
          · subst e
            rw [HK.out] at hx; cases hx
            have := HGG.out.2 hc
            cases this
          · exact HN.out j x (by omega) hx hc
        case measure => simp [intOf]; omega
    · obtain rfl : i = l.length := by omega
      go_wp2
      go_ret
      refine ⟨⟨_, l, P, rfl, HL.out.1, HL.out.2.1, .inl ⟨rfl, fun k hk hc => ?_⟩⟩, HBW.out⟩
      obtain ⟨j, hj, rfl⟩ := List.mem_iff_getElem.1 hk
      exact HN.out j _ hj (List.getElem?_eq_getElem hj) hc
end Go.Proofs.YtbibcjhfiopgdaaDoor
