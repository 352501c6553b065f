/- The model's search for a way round. -/
import Derived.Test.YtiadmmnnbnamjaaGreatJ2
import Derived.Test.YtiadmmnnbnamjaaGreatSback8
namespace Go.Proofs.YtiadmmnnbnamjaaGreat
open Go.RowKit
set_option linter.unusedVariables false
set_option linter.unusedSimpArgs false
set_option maxRecDepth 100000

def lenV (v : Value) : Nat := match v with | .slice _ n _ => n | _ => 0
set_option maxHeartbeats 8000000 in
theorem sCyclic_any {g D : List (List Nat)} (G : Gr g) (hD : IsDoms g D) (a da : Option Addr) (c dc : Nat) (w : World) (h : GRow w a g) (hd : LRow w da (natsL D)) :
    Calls Tryz.prog 63 #[.agg #[.slice a g.length c], .slice da g.length dc] w fun e w' => (∃ b : Bool, e = .returned (.bool b) ∧ (b = true ↔ Cyc2 g D)) ∧ Below w.heap.size w w' := by
  have hgm := G.most
  have H := hid (And.intro h hd)
  clear h hd
  have b0 := below1 w (.cells #[.slice a g.length c] 25)
  have d0 : (w.alloc (.cells #[.slice a g.length c] 25)).cell? ⟨w.heap.size, 0, none⟩ = some (.slice a g.length c) := by simp [go_sem]
  have z0 : (w.alloc (.cells #[.slice a g.length c] 25)).heap.size = w.heap.size + 1 := by simp
  have HW := hid (sWithout_any G a c (-1) (w.alloc (.cells #[.slice a g.length c] 25)) (LRow.below H.out.1 b0))
  go_enter Tryz.func63, Tryz.ntmps63
  go_wp2_with fail
  refine HW.out.mono ?_
  rintro e w1 ⟨la, lc, L, rfl, hL, ho1, hb1⟩
  have B1 := bstep' b0 hb1
  have d1 := cell_below d0 hb1
  have z1 : w.heap.size + 1 ≤ w1.heap.size := by have := hb1.size; omega
  rw [z0] at ho1
  have HL := hid (And.intro ho1 (LeftIs.begin (D := D) G hL))
  clear hL ho1 hb1 HW b0 d0
  go_wp2
  go_loopw [5] (fun t5 wr => ∃ (va : Option Addr) (vc : Nat) (left : List Nat), t5 = .slice va left.length vc ∧ wr.ownsRow (w.heap.size + 1) 3 1 (.slice va left.length vc) left.length (ints (nats left)) ∧ LeftIs g D left ∧ Below w.heap.size w wr ∧ w.heap.size + 1 ≤ wr.heap.size ∧ wr.cell? ⟨w.heap.size, 0, none⟩ = some (.slice a g.length c)) (fun t5 _ => lenV t5)
  case atStart => exact ⟨la, lc, L, rfl, HL.out.1, HL.out.2, B1, z1, d1⟩
  case round =>
    obtain ⟨va, vc, left, rfl, hown, hleft, hB, hz, dr⟩ := hrel
    have hf := hleft.few
    have HO := hid (And.intro hown hleft)
    clear hown hleft HL B1 d1 z1
    go_wp2
    obtain ⟨wo, rfl⟩ : ∃ wo : World, wo = wr := ⟨_, rfl⟩
    go_loopw [6, 16] (fun t6 t16 wq => ∃ (i : Nat) (na : Option Addr) (nc : Nat) (nx : List Nat), t16 = .int .i64 i ∧ i ≤ left.length ∧ t6 = .slice na nx.length nc ∧ Sep wq (w.heap.size + 1) ([⟨3, 1, .slice va left.length vc, left.length, ints (nats left)⟩] ++ ⟨3, 1, .slice na nx.length nc, nx.length, ints (nats nx)⟩ :: []) ∧ nx = (left.take i).filter (leadB g D left) ∧ Below w.heap.size w wq ∧ w.heap.size + 1 ≤ wq.heap.size ∧ wq.cell? ⟨w.heap.size, 0, none⟩ = some (.slice a g.length c)) (fun _ t16 _ => left.length - (intOf t16).toNat)
    case atStart =>
      refine ⟨0, none, 0, [], rfl, by omega, rfl, ⟨fun x hx => ?_, ?_⟩, by simp, hB, hz, dr⟩
      · simp at hx
        rcases hx with rfl | rfl
        · exact HO.out.1
        · exact World.ownsRow_nil _ _ _ _
      · simp
        exact apt.symm (.inl rfl)
    case round =>
      obtain ⟨i, na, nc, nx, rfl, hi, rfl, hsep, hnx, hB2, hz2, dr2⟩ := hrel
      have hnl : nx.length ≤ 12 := by rw [hnx]; exact Nat.le_trans (List.length_filter_le _ _) (Nat.le_trans (List.length_take_le' _ _) hf)
      have HS := hid (And.intro hsep hnx)
      have hlo := Sep.get hsep (x := ⟨3, 1, .slice va left.length vc, left.length, ints (nats left)⟩) (by simp)
      simp only [] at hlo
      clear hsep hnx
      by_cases hil : i < left.length
      · obtain ⟨k, hk⟩ : ∃ k, left[i]? = some k := ⟨_, List.getElem?_eq_getElem hil⟩
        have hkg : k < g.length := RchW.lt G (HO.out.2.come k (List.mem_of_getElem? hk))
        obtain ⟨l, hl⟩ : ∃ l, g[k]? = some l := ⟨_, List.getElem?_eq_getElem hkg⟩
        obtain ⟨r, hr⟩ : ∃ r, D[k]? = some r := ⟨_, List.getElem?_eq_getElem (by rw [hD.1]; exact hkg)⟩
        have hll : l.length ≤ 12 := by have h1 := nodup_le (n := g.length) (rising_nodup (G.rising _ l hl)) (fun j hj => G.below _ l hl j hj); omega
        have hrl : r.length ≤ 12 := by have h1 := nodup_le (n := g.length) (rising_nodup (hD.2 _ r hr).1) (fun j hj => RchW.lt G (((hD.2 _ r hr).2 j).1 hj).2.1); omega
        obtain ⟨lg, rfl⟩ : ∃ g, va = some ⟨g, 0, none⟩ := by
          rcases hlo.2 with ⟨h0, h1⟩ | ⟨g', cap, cur, he, _⟩
          · omega
          · injection he with e1 _ _; exact ⟨g', e1⟩
        have cx : wr.cell? ⟨lg, i, none⟩ = some (.int .i64 (k : Int)) := rowT_at hlo rfl (by simp [ints, nats, hk])
        obtain ⟨b, off, ta, tc, rfl, hcl, hrow, hbb⟩ := H.out.1.at' hB2 hl
        obtain ⟨db, doff, ra, rc, rfl, hcd, hrd, hdb⟩ := GRow.at' (g := D) H.out.2 hB2 hr
        have HH1 := hid (fun x => hasN_any (some ⟨lg, 0, none⟩) vc left x wr (by omega) _ hlo)
        have HH2 := hid (fun x => hasR_any ra rc r x wr (by omega) (hrd.below hB2))
        have HR := hid (And.intro hrow (And.intro hk (And.intro hl hr)))
        clear hrow hrd hk hl hr hlo
        go_wp2
        go_loop [9, 26] (fun t9 t26 => ∃ (j : Nat), t26 = .int .i64 j ∧ j ≤ l.length ∧ t9 = .bool ((l.take j).any fun x => decide (x ∈ left) && !(isB D (k, x)))) (fun _ t26 => l.length - (intOf t26).toNat)
        case atStart => exact ⟨0, rfl, by omega, by simp⟩
        case round =>
          obtain ⟨j, rfl, hj, rfl⟩ := hrel
          by_cases hjl : j < l.length
          · obtain ⟨x, hx⟩ : ∃ x, l[j]? = some x := ⟨_, List.getElem?_eq_getElem hjl⟩
            have hne : nats l ≠ [] := by intro e; have := congrArg List.length e; rw [nats_length] at this; simp only [List.length_nil] at this; omega
            obtain ⟨tb, toff, rfl, htb, hcs⟩ := HR.out.1.at hne
            obtain ⟨x', hcx, hx'⟩ := hcs wr hB2 j (by rw [nats_length]; exact hjl)
            obtain rfl : x' = (x : Int) := by have := hx'.out; simp [nats, hx] at this; exact this.symm
            have hib : isB D (k, x) = decide (x ∈ r) := by unfold isB; rw [List.getD_eq_getElem?_getD, HR.out.2.2.2]; rfl
            have HE : Hid (((l.take (j + 1)).any fun x => decide (x ∈ left) && !(isB D (k, x))) = (((l.take j).any fun x => decide (x ∈ left) && !(isB D (k, x))) || (decide (x ∈ left) && !(decide (x ∈ r))))) := by
              show _ = _
              rw [List.take_add_one, hx, List.any_append]
              simp [hib]
            have h1 := HH1.out x
            have h2 := HH2.out x
            obtain ⟨ld, hld⟩ : ∃ ld : Bool, ((l.take j).any fun x => decide (x ∈ left) && !(isB D (k, x))) = ld := ⟨_, rfl⟩
            obtain ⟨c1, hc1⟩ : ∃ c1 : Bool, decide (x ∈ left) = c1 := ⟨_, rfl⟩
            obtain ⟨c2, hc2⟩ : ∃ c2 : Bool, decide (x ∈ r) = c2 := ⟨_, rfl⟩
            rw [hld, hc1, hc2] at HE
            rw [hc1] at h1
            rw [hc2] at h2
            rw [hld]
            have K1 := hid h1
            have K2 := hid h2
            clear h1 h2 hib hx hne hcs hx' hc1 hc2 hld
            cases ld
            · cases c1
              · go_wp2_with fail
                refine K1.out.mono ?_
                rintro e w4 ⟨rfl, hw4⟩
                subst w4
                go_wp2
                go_round
                case rel => exact ⟨j + 1, by go_num, by omega, by rw [HE.out]; rfl⟩
                case measure => simp [intOf]; omega
              · go_wp2_with fail
                refine K1.out.mono ?_
                rintro e w4 ⟨rfl, hw4⟩
                subst w4
                go_wp2_with fail
                refine K2.out.mono ?_
                rintro e w5 ⟨rfl, hw5⟩
                subst w5
                go_wp2
                go_round
                case rel => exact ⟨j + 1, by go_num, by omega, by rw [HE.out]; simp⟩
                case measure => simp [intOf]; omega
            · go_wp2
              go_round
              case rel => exact ⟨j + 1, by go_num, by omega, by rw [HE.out]; rfl⟩
              case measure => simp [intOf]; omega
          · obtain rfl : j = l.length := by omega
            have HF : Hid (leadB g D left k = (l.any fun x => decide (x ∈ left) && !(isB D (k, x)))) := by show _ = _; unfold leadB; rw [List.getD_eq_getElem?_getD, HR.out.2.2.1]; rfl
            have HT : Hid ((left.take (i + 1)).filter (leadB g D left) = (left.take i).filter (leadB g D left) ++ [k].filter (leadB g D left)) := by
              show _ = _
              rw [List.take_add_one, HR.out.2.1, List.filter_append]
              rfl
            rw [List.take_of_length_le (Nat.le_refl _)]
            obtain ⟨ld, hld⟩ : ∃ ld : Bool, (l.any fun x => decide (x ∈ left) && !(isB D (k, x))) = ld := ⟨_, rfl⟩
            rw [hld] at HF ⊢
            clear hld
            cases ld
            · have HN : Hid ((left.take (i + 1)).filter (leadB g D left) = nx) := by show _ = _; rw [HT.out, HS.out.2]; simp [HF.out]
              go_wp2
              go_roundw
              case rel => exact ⟨i + 1, na, nc, nx, by go_num, by omega, rfl, HS.out.1, HN.out.symm, hB2, hz2, dr2⟩
              case measure => simp [intOf]; omega
            · have HN : Hid ((left.take (i + 1)).filter (leadB g D left) = nx ++ [k]) := by show _ = _; rw [HT.out, HS.out.2]; simp [HF.out]
              have bA := below1 wr (.cells #[.int .i64 (k : Int)] 3)
              have HS3 := hid (Sep.below HS.out.1 bA)
              have HN1 := hid (News.one wr (.int .i64 (k : Int)) 3 _ rfl rfl)
              have HZ1 : Hid (w.heap.size + 1 ≤ (wr.alloc (.cells #[.int .i64 (k : Int)] 3)).heap.size) := by show w.heap.size + 1 ≤ _; simp; omega
              have HB2 := hid (And.intro (hB2.trans (bA.mono hB2.size)) (cell_below dr2 bA))
              clear bA
              go_wp2_with (at_builtin; refine wpList_append_sep eltInt rfl _ _ rfl (w.heap.size + 1) [⟨3, 1, .slice (some ⟨lg, 0, none⟩) left.length vc, left.length, ints (nats left)⟩] HS3.out rfl HN1.out rfl (by omega) HZ1.out ?_)
              intro va2 vc2 w5 hs2 hb2 hg2
              have HK := hid (And.intro hs2 (And.intro (HB2.out.1.trans (hb2.mono (by omega))) (And.intro (Nat.le_trans HZ1.out hb2.size) (show w5.cell? ⟨w.heap.size, 0, none⟩ = _ from (hb2.cell (p := ⟨w.heap.size, 0, none⟩) (by show w.heap.size < w.heap.size + 1; omega)).trans HB2.out.2))))
              clear hs2 hb2 hg2 HS3
              go_wp2
              go_roundw
              case rel =>
                refine ⟨i + 1, va2, vc2, nx ++ [k], by go_num, by omega, by rw [List.length_append]; rfl, ?_, HN.out.symm, HK.out.2.1, HK.out.2.2.1, HK.out.2.2.2⟩
                have := HK.out.1
                rw [List.length_append]
                have e : ints (nats (nx ++ [k])) = ints (nats nx) ++ [.int .i64 (k : Int)] := by simp [ints, nats]
                rw [e]
                exact this
              case measure => simp [intOf]; omega
      · obtain rfl : i = left.length := by omega
        have hnx := HS.out.2
        rw [List.take_of_length_le (Nat.le_refl _)] at hnx
        have HN := hid hnx
        have hle : nx.length ≤ left.length := by rw [hnx]; exact List.length_filter_le _ _
        have HNO : Hid (wr.ownsRow (w.heap.size + 1) 3 1 (.slice na nx.length nc) nx.length (ints (nats nx))) := Sep.get HS.out.1 (x := ⟨3, 1, .slice na nx.length nc, nx.length, ints (nats nx)⟩) (by simp)
        clear hnx hlo
        by_cases he : nx.length = left.length
        · have HE := hid (LeftIs.end HO.out.2 (by rw [← HN.out]; exact he))
          go_wp2
          go_ret
          exact ⟨⟨_, rfl, by simpa using HE.out⟩, hB2⟩
        · have HL2 : Hid (LeftIs g D nx) := by show LeftIs g D nx; rw [HN.out]; exact HO.out.2.next
          go_wp2
          go_roundw
          case rel => exact ⟨na, nc, nx, rfl, HNO.out, HL2.out, hB2, hz2, dr2⟩
          case measure => simp [lenV]; omega
end Go.Proofs.YtiadmmnnbnamjaaGreat
