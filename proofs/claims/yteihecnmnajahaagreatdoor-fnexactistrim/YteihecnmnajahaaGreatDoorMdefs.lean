/- In which part each value comes to be, as the model tells it. -/
import Derived.Test.YteihecnmnajahaaGreatDoorMval
import Derived.Test.YteihecnmnajahaaGreatDoorK7
namespace Go.Proofs.YteihecnmnajahaaGreatDoor
open Go.RowKit
set_option linter.unusedVariables false
set_option linter.unusedSimpArgs false
set_option maxRecDepth 100000

theorem defs0_at {V k : Nat} (h : k < V) : (defs0 V)[k]? = some (if k < 12 then 0 else -1) := by simp [defs0, h]
theorem made_snoc (l : List Flt) (x : Flt) : made (l ++ [x]) = made l ++ if setsB x.op then [x.dst] else [] := by
  simp only [made, List.filter_append, List.map_append, List.filter_cons, List.filter_nil]
  cases setsB x.op <;> simp
theorem made_len (l : List Flt) : (made l).length ≤ l.length := by simp [made]; exact List.length_filter_le _ _
/-- what the model tells of where values come to be -/
def DefsAns (w w' : World) (V : Nat) (xs : List Prt) (e : Ending) : Prop :=
  (defsL V xs = none ∧ e = .returned (.tuple #[.slice none 0 0, .bool false])) ∨ ∃ D va vc, defsL V xs = some D ∧ e = .returned (.tuple #[.slice va D.length vc, .bool true]) ∧ w'.ownsRow w.heap.size 3 1 (.slice va D.length vc) D.length (ints D)
set_option maxHeartbeats 8000000 in
theorem l9Defs_any (V : Nat) (hV : 12 ≤ V) (hV2 : V ≤ 250) (xs : List Prt) (a : Option Addr) (c : Nat) (w : World) (hxl : xs.length ≤ 11) (hs : sumP xs ≤ 1048576) (hX : PRow w a xs) :
    Calls Tryz.prog 39 #[.agg #[.slice a xs.length c, .int .i64 (V : Int)]] w fun e w' => DefsAns w w' V xs e ∧ Below w.heap.size w w' := by
  have b1 := below1 w (.cells #[.slice a xs.length c, .int .i64 (V : Int)] 30)
  have k0 : (w.alloc (.cells #[.slice a xs.length c, .int .i64 (V : Int)] 30)).cell? ⟨w.heap.size, 0, none⟩ = some (.slice a xs.length c) := by simp [go_sem]
  have k1 : (w.alloc (.cells #[.slice a xs.length c, .int .i64 (V : Int)] 30)).cell? ⟨w.heap.size, 1, none⟩ = some (.int .i64 (V : Int)) := by simp [go_sem]
  obtain ⟨W0, hW0⟩ : ∃ W, W = w.alloc (.cells #[.slice a xs.length c, .int .i64 (V : Int)] 30) := ⟨_, rfl⟩
  rw [← hW0] at b1 k0 k1
  have hz0 : W0.heap.size = w.heap.size + 1 := by rw [hW0]; simp
  have HZ0 := hid hz0
  have HW0 := hid hW0
  have HB0 := hid b1
  have K := hid (fun (W : World) (hb : Below W0.heap.size W0 W) => And.intro (cell_below k0 hb) (cell_below k1 hb))
  have H := hid (fun (W : World) (hb : Below W0.heap.size W0 W) => hX.below (bstep' b1 hb))
  have HSP := hid hs
  clear b1 k0 k1 hW0 hX hs hz0
  go_enter Tryz.func39, Tryz.ntmps39
  go_wp2
  go_loopw [4, 5] (fun t4 t5 wr => ∃ (k : Nat) (va : Option Addr) (vc : Nat), t5 = .int .i64 k ∧ k ≤ V ∧ t4 = .slice va k vc ∧ Sep wr W0.heap.size ([] ++ ⟨3, 1, .slice va k vc, k, ints ((defs0 V).take k)⟩ :: []) ∧ Below W0.heap.size W0 wr) (fun _ t5 _ => V - (intOf t5).toNat)
  case atStart => exact ⟨0, none, 0, rfl, by omega, rfl, by rw [← HW0.out]; exact sep_one (World.ownsRow_nil _ _ _ _), by rw [← HW0.out]; exact Below.refl _ _⟩
  case round =>
    obtain ⟨k, va, vc, rfl, hk, rfl, hsep, hB⟩ := hrel
    have HS := hid hsep
    have HB := hid hB
    obtain ⟨v0, v1⟩ := K.out wr hB
    clear hsep hB
    by_cases hlt : k < V
    · have hsz : W0.heap.size ≤ wr.heap.size := HB.out.size
      have hd := defs0_at hlt
      by_cases h12 : (k : Int) < 12
      · rw [if_pos (by omega)] at hd
        have HD := hid hd
        have HN := hid (News.one wr (.int .i64 0) 3 wr.heap.size rfl rfl)
        have HSN := hid (Sep.below HS.out (below1 wr (.cells #[.int .i64 0] 3)))
        have HBN := hid (bstep' HB.out (below1 wr (.cells #[.int .i64 0] 3)))
        clear hd
        go_wp2_with (at_builtin; refine wpList_append_sep eltInt rfl _ _ rfl W0.heap.size [] HSN.out rfl HN.out rfl (by omega) (by simp; omega) ?_)
        intro va2 vc2 w2 hs2 hb2 hg2
        have HS2 := hid hs2
        have HB2 := hid (HBN.out.trans hb2)
        clear hs2 hb2 hg2
        go_wp2
        go_roundw
        case rel =>
          refine ⟨k + 1, va2, vc2, by go_num, by omega, rfl, ?_, HB2.out⟩
          have := HS2.out
          rw [List.take_add_one, HD.out, ints_append]; exact this
        case measure => simp [intOf]; omega
      · rw [if_neg (by omega)] at hd
        have HD := hid hd
        have HN := hid (News.one wr (.int .i64 (-1)) 3 wr.heap.size rfl rfl)
        have HSN := hid (Sep.below HS.out (below1 wr (.cells #[.int .i64 (-1)] 3)))
        have HBN := hid (bstep' HB.out (below1 wr (.cells #[.int .i64 (-1)] 3)))
        clear hd
        go_wp2_with (at_builtin; refine wpList_append_sep eltInt rfl _ _ rfl W0.heap.size [] HSN.out rfl HN.out rfl (by omega) (by simp; omega) ?_)
        intro va2 vc2 w2 hs2 hb2 hg2
        have HS2 := hid hs2
        have HB2 := hid (HBN.out.trans hb2)
        clear hs2 hb2 hg2
        go_wp2
        go_roundw
        case rel =>
          refine ⟨k + 1, va2, vc2, by go_num, by omega, rfl, ?_, HB2.out⟩
          have := HS2.out
          rw [List.take_add_one, HD.out, ints_append]; exact this
        case measure => simp [intOf]; omega
    · obtain rfl : V = k := by omega
      rw [List.take_of_length_le (by rw [defs0_len]; omega)] at HS
      obtain ⟨g, hg⟩ : ∃ g, va = some ⟨g, 0, none⟩ := by
        rcases (one_sep HS.out).2 with ⟨h0, h1⟩ | ⟨g', cap, cur, he, _⟩
        · omega
        · injection he with e1 _ _; exact ⟨g', e1⟩
      subst hg
      have HS := hid HS.out
      obtain ⟨-, hB1⟩ := And.intro trivial HB.out
      obtain ⟨v0, v1⟩ := K.out wr HB.out
      have HE := hid (show defsFrom V 0 (xs.take 0) (defs0 V) = some (defs0 V) from rfl)
      have hLow : Low xs.length (defs0 V) ∨ xs.length = 0 := by
        by_cases h : 0 < xs.length
        · exact .inl (Low.defs0 V _ h)
        · exact .inr (by omega)
      have HLOW := hid hLow
      clear hB1 hLow
      go_wp2
      go_loopw [30] (fun t30 wr => ∃ (k : Nat) (D : List Int), t30 = .int .i64 k ∧ k ≤ xs.length ∧ defsFrom V 0 (xs.take k) (defs0 V) = some D ∧ Sep wr W0.heap.size ([] ++ ⟨3, 1, .slice (some ⟨g, 0, none⟩) V vc, V, ints D⟩ :: []) ∧ Below W0.heap.size W0 wr) (fun t30 _ => xs.length - (intOf t30).toNat)
      case atStart => exact ⟨0, _, rfl, by omega, HE.out, HS.out, HB.out⟩
      case round =>
        obtain ⟨k, D, rfl, hk, hD, hsep, hB⟩ := hrel
        have HD := hid hD
        have HS2 := hid hsep
        have HB2 := hid hB
        have hDl : D.length = V := (defsFrom_len hD).trans (defs0_len V)
        have HDL := hid hDl
        clear hD hsep hB HS HB HE hDl v0 v1
        by_cases hkx : k < xs.length
        · have hlow : Low xs.length D := by
            rcases HLOW.out with h | h
            · exact Low.defsFrom h (by simp; omega) HD.out
            · omega
          have HLW := hid hlow
          obtain ⟨b, off, rfl, hbw, hat⟩ := (H.out W0 (Below.refl _ _)).at (by intro e; subst e; simp at hkx)
          obtain ⟨ps, cs, go, test, ns, rs, pa, pc, ca, cc, na, nc, ra, rc, c0, c1, c2, c3, c4, c5, l1, l2, l3, l4, HI, HX⟩ := hat W0 (Below.refl _ _) k hkx
          replace c0 := cell_below c0 HB2.out
          replace c1 := cell_below c1 HB2.out
          replace c2 := cell_below c2 HB2.out
          replace c3 := cell_below c3 HB2.out
          replace c4 := cell_below c4 HB2.out
          replace c5 := cell_below c5 HB2.out
          obtain ⟨m1, m2⟩ : ps.length ≤ 1048576 ∧ cs.length ≤ 1048576 := by have := size_le_sumP HX.out; have := HSP.out; simp only [sizeP] at *; omega
          have HCODE := hid HI.out.code
          clear hat hlow
          have hsz : W0.heap.size ≤ wr.heap.size := HB2.out.size
          obtain ⟨A, hA⟩ : ∃ A, A = wr.alloc (.cells #[.slice pa ps.length pc, .slice ca cs.length cc, .int .i64 go, .int .i64 test, .slice na ns.length nc, .slice ra rs.length rc] 51) := ⟨_, rfl⟩
          have bA : Below wr.heap.size wr A := by rw [hA]; exact below1 _ _
          have zA : A.heap.size = wr.heap.size + 1 := by rw [hA]; simp
          have aA : A.cell? ⟨wr.heap.size, 1, none⟩ = some (.slice ca cs.length cc) := by rw [hA]; simp [go_sem]
          have HSN : Hid (Sep ((wr.alloc (.cells #[.slice pa ps.length pc, .slice ca cs.length cc, .int .i64 go, .int .i64 test, .slice na ns.length nc, .slice ra rs.length rc] 51)).alloc (.cells #[] 3)) W0.heap.size ([⟨3, 1, .slice (some ⟨g, 0, none⟩) V vc, V, ints D⟩] ++ ⟨3, 1, .slice (some ⟨wr.heap.size + 1, 0, none⟩) 0 0, 0, []⟩ :: [])) := by
            rw [← hA]
            exact Sep.append (HS2.out.below bA) (below1 A _) (by omega) (sep1 (own_new0 A _ zA |> fun h => by rw [← zA] at h ⊢; exact h))
          have HBN : Hid (Below W0.heap.size W0 ((wr.alloc (.cells #[.slice pa ps.length pc, .slice ca cs.length cc, .int .i64 go, .int .i64 test, .slice na ns.length nc, .slice ra rs.length rc] 51)).alloc (.cells #[] 3))) := by rw [← hA]; exact bstep' (bstep' HB2.out bA) (below1 A _)
          have HN : Hid (News ((wr.alloc (.cells #[.slice pa ps.length pc, .slice ca cs.length cc, .int .i64 go, .int .i64 test, .slice na ns.length nc, .slice ra rs.length rc] 51)).alloc (.cells #[] 3)) pa ps.length 1 (ints ps)) := News.ints (HI.out.params.below HBN.out)
          have HAC : Hid (((wr.alloc (.cells #[.slice pa ps.length pc, .slice ca cs.length cc, .int .i64 go, .int .i64 test, .slice na ns.length nc, .slice ra rs.length rc] 51)).alloc (.cells #[] 3)).cell? ⟨wr.heap.size, 1, none⟩ = some (.slice ca cs.length cc)) := by rw [← hA]; exact cell_below aA (below1 A _)
          have HHS : Hid (((wr.alloc (.cells #[.slice pa ps.length pc, .slice ca cs.length cc, .int .i64 go, .int .i64 test, .slice na ns.length nc, .slice ra rs.length rc] 51)).alloc (.cells #[] 3)).heap.size = wr.heap.size + 2) := by show _ = _; simp
          clear bA zA aA hA
          go_wp2_with (at_builtin; refine wpList_append_sep eltInt rfl _ _ rfl W0.heap.size [⟨3, 1, .slice (some ⟨g, 0, none⟩) V vc, V, ints D⟩] HSN.out rfl HN.out rfl (by omega) (by have := HHS.out; omega) ?_)
          intro ya yc w3 hs3 hb3 hg3
          have e3 : w3.cell? ⟨wr.heap.size, 1, none⟩ = some (.slice ca cs.length cc) := by
            have hx := hg3.block wr.heap.size (by have := HHS.out; omega) (by simp [Value.ownBlock])
            rw [World.cell?_of_block (a := ⟨wr.heap.size, 1, none⟩) hx]; exact HAC.out
          have HS3 := hid hs3
          have HB3 := hid (HBN.out.trans hb3)
          clear hs3 hb3 hg3 HSN HN HBN HAC HHS
          go_wp2
          go_loopw [8, 42] (fun t8 t42 wr => ∃ (j : Nat) (va : Option Addr) (vc2 : Nat), t42 = .int .i64 j ∧ j ≤ cs.length ∧ t8 = .slice va (ps ++ made (cs.take j)).length vc2 ∧ Sep wr W0.heap.size ([⟨3, 1, .slice (some ⟨g, 0, none⟩) V vc, V, ints D⟩] ++ ⟨3, 1, .slice va (ps ++ made (cs.take j)).length vc2, (ps ++ made (cs.take j)).length, ints (ps ++ made (cs.take j))⟩ :: []) ∧ Below W0.heap.size W0 wr) (fun _ t42 _ => cs.length - (intOf t42).toNat)
          case atStart => exact ⟨0, ya, yc, rfl, by omega, by simp [made], by simpa [made] using HS3.out, HB3.out⟩
          case round =>
            obtain ⟨j, va, vc2, rfl, hj, rfl, hsep, hB⟩ := hrel
            have HS4 := hid hsep
            have HB4 := hid hB
            obtain ⟨acc, hacc⟩ : ∃ l, ps ++ made (cs.take j) = l := ⟨_, rfl⟩
            have hal : acc.length ≤ 2097152 := by rw [← hacc, List.length_append]; have := made_len (cs.take j); simp at this; omega
            rw [hacc] at HS4 ⊢
            have HA := hid hacc
            clear hsep hB hacc HS3 HB3 e3
            have hsz4 : W0.heap.size ≤ wr.heap.size := HB4.out.size
            by_cases hjt : j < cs.length
            · obtain ⟨cb, coff, rfl, hcw, hcat⟩ := HCODE.out.at (by intro e; subst e; simp at hjt)
              obtain ⟨p, d, t, x, y, n, f0, f1, f2, f3, f4, f5, HXF⟩ := hcat wr HB4.out j hjt
              clear hcat
              obtain ⟨sb, hsb⟩ : ∃ g, setsB p = g := ⟨_, rfl⟩
              have CS := hid (fun W => (hsb ▸ l9Sets_any p W : Calls Tryz.prog 44 #[.int .i64 p] W fun e w' => e = .returned (.bool sb) ∧ w' = W))
              have HMS : Hid (ps ++ made (cs.take (j + 1)) = acc ++ if sb then [t] else []) := by
                show _ = _
                rw [List.take_add_one, HXF.out, ← HA.out, ← hsb]
                simp only [Option.toList_some, made_snoc, List.append_assoc]
              clear hsb
              have bF := below1 wr (.cells #[.int .i64 p, .int .i64 d, .int .i64 t, .int .i64 x, .int .i64 y, .int .i64 n] 64)
              have HBF := hid (bstep' HB4.out bF)
              have HSF := hid (Sep.below HS4.out bF)
              go_wp2_with fail
              refine (CS.out _).mono ?_
              rintro e w9 ⟨rfl, hw9⟩
              subst w9
              cases sb
              · clear bF
                go_wp2
                go_roundw
                case rel => exact ⟨j + 1, va, vc2, by go_num, by omega, by rw [HMS.out]; simp, by rw [HMS.out]; simpa using HSF.out, HBF.out⟩
                case measure => simp [intOf]; omega
              · have bG := below1 (wr.alloc (.cells #[.int .i64 p, .int .i64 d, .int .i64 t, .int .i64 x, .int .i64 y, .int .i64 n] 64)) (.cells #[.int .i64 t] 3)
                have HN := hid (News.one (wr.alloc (.cells #[.int .i64 p, .int .i64 d, .int .i64 t, .int .i64 x, .int .i64 y, .int .i64 n] 64)) (.int .i64 t) 3 (wr.heap.size + 1) (by simp) rfl)
                have HSG := hid (Sep.below HSF.out bG)
                have HBG := hid (bstep' HBF.out bG)
                clear bF bG
                go_wp2_with (at_builtin; refine wpList_append_sep eltInt rfl _ _ rfl W0.heap.size [⟨3, 1, .slice (some ⟨g, 0, none⟩) V vc, V, ints D⟩] HSG.out rfl HN.out rfl (by omega) (by simp; omega) ?_)
                intro ya2 yc2 w5 hs5 hb5 hg5
                have HS5 := hid hs5
                have HB5 := hid (HBG.out.trans hb5)
                clear hs5 hb5 hg5
                go_wp2
                go_roundw
                case rel =>
                  refine ⟨j + 1, ya2, yc2, by go_num, by omega, by rw [HMS.out]; simp, ?_, HB5.out⟩
                  rw [HMS.out]
                  have := HS5.out
                  simp only [if_true, List.length_append, List.length_singleton, ints_append]
                  exact this
                case measure => simp [intOf]; omega
            · obtain rfl : j = cs.length := by omega
              rw [List.take_of_length_le (Nat.le_refl _)] at HA
              have HCM : Hid (comes ⟨ps, cs, go, test, ns, rs⟩ = acc) := HA.out
              have HEND : Hid (∀ j, puts V k D (acc.take j) = none → defsL V xs = none) := fun j hn => by
                refine defsFrom_none (j := k + 1) ?_
                rw [defsFrom_take HX.out, HD.out, HCM.out]
                exact puts_none hn
              have HNXT : Hid (∀ D', puts V k D acc = some D' → defsFrom V 0 (xs.take (k + 1)) (defs0 V) = some D') := fun D' hp => by
                rw [defsFrom_take HX.out, HD.out, HCM.out]; exact hp
              clear HA
              go_wp2
              go_loopw [57] (fun t57 wr => ∃ (j : Nat) (D' : List Int), t57 = .int .i64 j ∧ j ≤ acc.length ∧ puts V k D (acc.take j) = some D' ∧ Sep wr W0.heap.size ([] ++ ⟨3, 1, .slice (some ⟨g, 0, none⟩) V vc, V, ints D'⟩ :: [⟨3, 1, .slice va acc.length vc2, acc.length, ints acc⟩]) ∧ Below W0.heap.size W0 wr) (fun t57 _ => acc.length - (intOf t57).toNat)
              case atStart => exact ⟨0, D, rfl, by omega, rfl, HS4.out, HB4.out⟩
              case round =>
                obtain ⟨j, D', rfl, hj, hp, hsep, hB⟩ := hrel
                have HP := hid hp
                have HS6 := hid hsep
                have HB6 := hid hB
                have hDl : D'.length = V := (puts_len hp).trans HDL.out
                have hlw : Low xs.length D' := HLW.out.puts hkx hp
                have HDL2 := hid hDl
                have HLW2 := hid hlw
                obtain ⟨-, v1⟩ := K.out wr hB
                clear hp hsep hB hDl hlw HS4 HB4
                by_cases hjt : j < acc.length
                · obtain ⟨v, hv⟩ : ∃ v, acc[j]? = some v := ⟨_, List.getElem?_eq_getElem hjt⟩
                  have hlo := HS6.out.1 ⟨3, 1, .slice va acc.length vc2, acc.length, ints acc⟩ (by simp)
                  obtain ⟨lg, hlg⟩ : ∃ lg, va = some ⟨lg, 0, none⟩ := by
                    rcases hlo.2 with ⟨h0, h1⟩ | ⟨g', cap, cur, he, _⟩
                    · simp only [] at h1; omega
                    · injection he with e1 _ _; exact ⟨g', e1⟩
                  subst hlg
                  have cv : wr.cell? ⟨lg, j, none⟩ = some (.int .i64 v) := rowT_at hlo rfl (by simp [ints, hv])
                  have HV := hid hv
                  have HT2 : Hid (puts V k D (acc.take (j + 1)) = put1 V k D' v) := by
                    show _ = _
                    rw [puts_take hv, HP.out]; rfl
                  clear hlo hv
                  by_cases hv0 : v < 0
                  · have HBAD : Hid (defsL V xs = none) := HEND.out (j + 1) (by rw [HT2.out]; unfold put1; rw [if_neg (by omega)])
                    go_wp2
                    go_ret2
                    exact ⟨.inl ⟨HBAD.out, rfl⟩, bstep' HB0.out HB6.out⟩
                  by_cases hvV : (V : Int) ≤ v
                  · have HBAD : Hid (defsL V xs = none) := HEND.out (j + 1) (by rw [HT2.out]; unfold put1; rw [if_neg (by omega)])
                    go_wp2
                    go_ret2
                    exact ⟨.inl ⟨HBAD.out, rfl⟩, bstep' HB0.out HB6.out⟩
                  obtain ⟨m, hm⟩ : ∃ m : Nat, v = m := ⟨v.toNat, by omega⟩
                  subst hm
                  have hmV : m < V := by omega
                  obtain ⟨q, hq⟩ : ∃ q, D'[m]? = some q := ⟨_, List.getElem?_eq_getElem (by rw [HDL2.out]; exact hmV)⟩
                  have hdo := HS6.out.1 ⟨3, 1, .slice (some ⟨g, 0, none⟩) V vc, V, ints D'⟩ (by simp)
                  have cq : wr.cell? ⟨g, m, none⟩ = some (.int .i64 q) := rowT_at hdo rfl (by simp [ints, hq])
                  have fq : wr.frozen? ⟨g, m, none⟩ = false := rowT_frz hdo rfl m
                  have hql := HLW2.out.is hq
                  have HQ := hid hq
                  clear hdo hq
                  by_cases hq0 : 0 ≤ q
                  · have HBAD : Hid (defsL V xs = none) := HEND.out (j + 1) (by rw [HT2.out]; unfold put1; rw [if_neg (by rw [Int.toNat_natCast, HQ.out]; intro h; have := h.2.2; cases this; omega)])
                    clear hql
                    go_wp2
                    go_ret2
                    exact ⟨.inl ⟨HBAD.out, rfl⟩, bstep' HB0.out HB6.out⟩
                  · have hqn : q = -1 := by
                      by_cases e : q = -1
                      · exact e
                      · exact absurd (hql.1 e) hq0
                    have HQN := hid hqn
                    clear hqn hql
                    go_wp2
                    go_roundw
                    case rel =>
                      refine ⟨j + 1, D'.set m (k : Int), by go_num, by omega, ?_, ?_, HB6.out.setCell (p := ⟨g, m, none⟩) ?_ _⟩
                      · rw [HT2.out]; unfold put1; rw [if_pos ⟨by omega, by omega, by rw [Int.toNat_natCast, HQ.out, HQN.out]⟩, Int.toNat_natCast]
                      · have hst := Sep.store [] HS6.out m (.int .i64 (k : Int))
                        have e1 : (ints D').set m (.int .i64 (k : Int)) = ints (D'.set m (k : Int)) := by simp [ints]
                        rw [e1] at hst; exact hst
                      · exact ((HS6.out.1 ⟨3, 1, .slice (some ⟨g, 0, none⟩) V vc, V, ints D'⟩ (by simp)).lt g rfl).1
                    case measure => simp [intOf]; omega
                · obtain rfl : j = acc.length := by omega
                  rw [List.take_of_length_le (Nat.le_refl _)] at HP
                  have HS7 : Hid (Sep wr W0.heap.size ([] ++ ⟨3, 1, .slice (some ⟨g, 0, none⟩) V vc, V, ints D'⟩ :: [])) := HS6.out.sub (by simp)
                  clear v1
                  go_wp2
                  go_roundw
                  case rel => exact ⟨k + 1, D', by go_num, by omega, HNXT.out _ HP.out, HS7.out, HB6.out⟩
                  case measure => simp [intOf]; omega
        · obtain rfl : k = xs.length := by omega
          rw [List.take_of_length_le (Nat.le_refl _)] at HD
          have HD2 : Hid (defsL V xs = some D) := HD.out
          have ho := one_sep HS2.out
          have HO := hid ho
          clear ho HD
          go_wp2
          go_ret2
          refine ⟨.inr ⟨D, some ⟨g, 0, none⟩, vc, HD2.out, by rw [HDL.out]; rfl, ?_⟩, bstep' HB0.out HB2.out⟩
          rw [HDL.out]
          exact owns_mono HO.out (by have := HZ0.out; omega)
end Go.Proofs.YteihecnmnajahaaGreatDoor
