/- The model's back edges. -/
import Derived.Test.YtiadmmnnbnamjaaGreatBackMath8
import Derived.Deep.RegionHeld
namespace Go.Proofs.YtiadmmnnbnamjaaGreat
open Go.RowKit
set_option linter.unusedVariables false
set_option linter.unusedSimpArgs false
set_option maxRecDepth 100000

set_option maxHeartbeats 4000000 in
theorem sBack_any {g D : List (List Nat)} (G : Gr g) (hD : IsDoms g D) (a da : Option Addr) (c dc : Nat) (w : World) (h : GRow w a g) (hd : LRow w da (natsL D)) :
    Calls Tryz.prog 64 #[.agg #[.slice a g.length c], .slice da g.length dc] w fun e w' => ∃ v ys, e = .returned v ∧ OwnL w' w.heap.size v ys ∧ lists ys = pairsL (backL g D) ∧ Below w.heap.size w w' := by
  have hgm := G.most
  have H := hid (And.intro h hd)
  have HB := hid (backs_eq G hD)
  clear h hd
  have b0 := below1 w (.cells #[.slice a g.length c] 25)
  have z0 : (w.alloc (.cells #[.slice a g.length c] 25)).heap.size = w.heap.size + 1 := by simp
  go_enter Tryz.func64, Tryz.ntmps64
  go_wp2
  go_loopw [5, 13] (fun t5 t13 wr => ∃ (k : Nat) (oa : Option Addr) (oc : Nat) (ys : List LV), t13 = .int .i64 k ∧ k ≤ g.length ∧ t5 = .slice oa ys.length oc ∧ Made wr (w.heap.size + 1) [] (.slice oa ys.length oc) ys ∧ lists ys = pairsL ((rangeE g k).filter (isB D)) ∧ Below w.heap.size w wr ∧ w.heap.size + 1 ≤ wr.heap.size) (fun _ t13 _ => g.length - (intOf t13).toNat)
  case atStart => exact ⟨0, none, 0, [], rfl, by omega, rfl, ⟨by intro x hx; simp [vals] at hx; subst hx; exact World.ownsRow_nil _ _ _ _, by simp⟩, rfl, b0, by omega⟩
  case round =>
    obtain ⟨k, oa, oc, ys, rfl, hk, rfl, hm, hys, hB, hz⟩ := hrel
    by_cases hkt : k < g.length
    · obtain ⟨l, hl⟩ : ∃ l, g[k]? = some l := ⟨_, List.getElem?_eq_getElem hkt⟩
      obtain ⟨r, hr⟩ : ∃ r, D[k]? = some r := ⟨_, List.getElem?_eq_getElem (by rw [hD.1]; exact hkt)⟩
      have hll : l.length ≤ 12 := by have h1 := nodup_le (n := g.length) (rising_nodup (G.rising _ l hl)) (fun j hj => G.below _ l hl j hj); omega
      have hrl : r.length ≤ 12 := by have h1 := nodup_le (n := g.length) (rising_nodup (hD.2 _ r hr).1) (fun j hj => RchW.lt G (((hD.2 _ r hr).2 j).1 hj).2.1); omega
      obtain ⟨b, off, ta, tc, rfl, hcl, hrow, hbb⟩ := H.out.1.at' hB hl
      obtain ⟨db, doff, ra, rc, rfl, hcd, hrd, hdb⟩ := GRow.at' (g := D) H.out.2 hB hr
      have HR := hid (And.intro hrow (And.intro hrd (And.intro hl hr)))
      have HM := hid (And.intro hm hys)
      clear hrow hrd hm hys hl hr
      go_wp2
      obtain ⟨wo, rfl⟩ : ∃ wo : World, wo = wr := ⟨_, rfl⟩
      go_loopw [5, 20] (fun t5 t20 wq => ∃ (j : Nat) (oa : Option Addr) (oc : Nat) (ys : List LV), t20 = .int .i64 j ∧ j ≤ l.length ∧ t5 = .slice oa ys.length oc ∧ Made wq (w.heap.size + 1) [] (.slice oa ys.length oc) ys ∧ lists ys = pairsL ((rangeE g k ++ (l.take j).map (fun v => (k, v))).filter (isB D)) ∧ Below w.heap.size w wq ∧ w.heap.size + 1 ≤ wq.heap.size) (fun _ t20 _ => l.length - (intOf t20).toNat)
      case atStart => exact ⟨0, oa, oc, ys, rfl, by omega, rfl, HM.out.1, by simpa using HM.out.2, hB, hz⟩
      case round =>
        obtain ⟨j, oa2, oc2, ys2, rfl, hj, rfl, hm, hys, hB2, hz2⟩ := hrel
        have hyb : ys2.length ≤ 200 := by
          have h1 := congrArg List.length hys
          rw [lists_length] at h1
          simp only [pairsL, List.length_map] at h1
          have h2 := List.length_filter_le (isB D) (rangeE g k ++ (l.take j).map (fun v => (k, v)))
          have h3 := edges_few G (List.range k)
          simp only [List.length_append, List.length_map, List.length_range, List.length_take] at h2 h3
          unfold rangeE at h2 h1
          omega
        by_cases hjl : j < l.length
        · obtain ⟨x, hx⟩ : ∃ x, l[j]? = some x := ⟨_, List.getElem?_eq_getElem hjl⟩
          have hne : nats l ≠ [] := by intro e; have := congrArg List.length e; rw [nats_length] at this; simp only [List.length_nil] at this; omega
          obtain ⟨tb, toff, rfl, htb, hcs⟩ := HR.out.1.at hne
          obtain ⟨x', hcx, hx'⟩ := hcs wr hB2 j (by rw [nats_length]; exact hjl)
          obtain rfl : x' = (x : Int) := by have := hx'.out; simp [nats, hx] at this; exact this.symm
          have cd2 : wr.cell? ⟨db, doff + k, none⟩ = some (.slice ra r.length rc) := by
            obtain ⟨db', doff', ra', rc', e1, hcd', _, _⟩ := GRow.at' (g := D) H.out.2 hB2 HR.out.2.2.2
            injection e1 with e1
            injection e1 with e2 e3
            subst e2 e3
            obtain ⟨db2, doff2, ra2, rc2, e4, hcd2, _, _⟩ := GRow.at' (g := D) H.out.2 hB HR.out.2.2.2
            rw [hB2.cell (p := ⟨db, doff + k, none⟩) hdb, ← hB.cell (p := ⟨db, doff + k, none⟩) hdb]
            exact hcd
          have HH := hid (hasR_any ra rc r x wr (by omega) (HR.out.2.1.below hB2))
          have e1 : l.take (j + 1) = l.take j ++ [x] := by rw [List.take_add_one, hx]; rfl
          have HE : Hid ((rangeE g k ++ (l.take (j + 1)).map (fun v => (k, v))).filter (isB D) = (rangeE g k ++ (l.take j).map (fun v => (k, v))).filter (isB D) ++ [(k, x)].filter (isB D)) := by
            show _ = _
            rw [e1, List.map_append, ← List.append_assoc, List.filter_append]
            rfl
          have hib : isB D (k, x) = decide (x ∈ r) := by unfold isB; rw [List.getD_eq_getElem?_getD, HR.out.2.2.2]; rfl
          have HM2 := hid (And.intro hm hys)
          clear hm hys e1 hx hne hcs hx'
          by_cases hxr : x ∈ r
          · have tx : decide (x ∈ r) = true := decide_eq_true hxr
            rw [tx] at HH hib
            have HI : Hid ([(k, x)].filter (isB D) = [(k, x)]) := by show _ = _; simp [hib]
            clear tx hib hxr
            go_wp2_with fail
            refine HH.out.mono ?_
            rintro e w4 ⟨rfl, hw4⟩
            subst w4
            have bA := below1 wr (.cells #[.int .i64 (k : Int), .int .i64 (x : Int)] 3)
            have hpo := pair_own wr (k : Int) (x : Int)
            have HM3 := hid ((HM2.out.1.with bA hz2 ⟨[(k : Int), (x : Int)], .slice (some ⟨wr.heap.size, 0, none⟩) 2 2⟩ hpo).below (below1 (wr.alloc (.cells #[.int .i64 (k : Int), .int .i64 (x : Int)] 3)) (.cells #[.slice (some ⟨wr.heap.size, 0, none⟩) 2 2] 35)))
            have HN1 := hid (News.one (wr.alloc (.cells #[.int .i64 (k : Int), .int .i64 (x : Int)] 3)) (.slice (some ⟨wr.heap.size, 0, none⟩) 2 2) 35 (wr.heap.size + 1) (by simp) rfl)
            have HZ1 : Hid (w.heap.size + 1 ≤ ((wr.alloc (.cells #[.int .i64 (k : Int), .int .i64 (x : Int)] 3)).alloc (.cells #[.slice (some ⟨wr.heap.size, 0, none⟩) 2 2] 35)).heap.size) := by show w.heap.size + 1 ≤ _; simp; omega
            have HB2 := hid (hB2.trans ((below2 wr (.cells #[.int .i64 (k : Int), .int .i64 (x : Int)] 3) (.cells #[.slice (some ⟨wr.heap.size, 0, none⟩) 2 2] 35)).mono hB2.size))
            clear hpo bA
            go_wp2_with (at_builtin; refine wpList_append_sep eltLists rfl _ _ rfl (w.heap.size + 1) [] HM3.out rfl HN1.out rfl (by omega) HZ1.out ?_)
            intro va2 vc2 w5 hs2 hb2 hg2
            have HM4 : Hid (Made w5 (w.heap.size + 1) [] (.slice va2 (ys2.length + 1) vc2) (ys2 ++ [⟨[(k : Int), (x : Int)], .slice (some ⟨wr.heap.size, 0, none⟩) 2 2⟩])) := Made.grown (n := 0) (by simpa using hs2)
            have HB3 := hid (And.intro (HB2.out.trans (hb2.mono (by omega))) (Nat.le_trans HZ1.out hb2.size))
            clear hs2 hb2 hg2 HM3
            go_wp2
            go_roundw
            case rel =>
              refine ⟨j + 1, va2, vc2, ys2 ++ [⟨[(k : Int), (x : Int)], .slice (some ⟨wr.heap.size, 0, none⟩) 2 2⟩], by go_num, by omega, by rw [List.length_append]; rfl, ?_, ?_, HB3.out.1, HB3.out.2⟩
              · have := HM4.out; rw [List.length_append]; exact this
              · rw [HE.out, HI.out, pairsL_snoc, ← HM2.out.2]; simp [lists]
            case measure => simp [intOf]; omega
          · have tx : decide (x ∈ r) = false := decide_eq_false hxr
            rw [tx] at HH hib
            have HI : Hid ([(k, x)].filter (isB D) = []) := by show _ = _; simp [hib]
            clear tx hib hxr
            go_wp2_with fail
            refine HH.out.mono ?_
            rintro e w4 ⟨rfl, hw4⟩
            subst w4
            go_wp2
            go_roundw
            case rel => exact ⟨j + 1, oa2, oc2, ys2, by go_num, by omega, rfl, HM2.out.1, by rw [HE.out, HI.out, List.append_nil]; exact HM2.out.2, hB2, hz2⟩
            case measure => simp [intOf]; omega
        · obtain rfl : j = l.length := by omega
          rw [List.take_of_length_le (Nat.le_refl _), ← rangeE_succ g k HR.out.2.2.1] at hys
          have HF := hid (And.intro hm hys)
          clear hm hys
          go_wp2
          go_roundw
          case rel => exact ⟨k + 1, oa2, oc2, ys2, by go_num, by omega, rfl, HF.out.1, HF.out.2, hB2, hz2⟩
          case measure => simp [intOf]; omega
    · obtain rfl : k = g.length := by omega
      rw [HB.out] at hys
      have HF := hid (And.intro hm (And.intro hys hB))
      clear hm hys
      go_wp2
      go_ret
      exact ⟨_, ys, rfl, Sep.mono HF.out.1 (by omega), HF.out.2.1, HF.out.2.2⟩
end Go.Proofs.YtiadmmnnbnamjaaGreat
