/- What the model's own helpers on values tell: which a step uses, which are used in the end, whether they are there. -/
import Derived.Test.YteihecnmnajahaaGreatDoorMpart
import Derived.Test.YteihecnmnajahaaGreatDoorSet7
import Derived.Deep.CutRange
import Derived.Deep.DeepCutAuto
namespace Go.Proofs.YteihecnmnajahaaGreatDoor
open Go.RowKit
set_option linter.unusedVariables false
set_option linter.unusedSimpArgs false
set_option maxRecDepth 100000

set_option maxHeartbeats 1000000 in
theorem l9Uses_any (p d t x y n : Int) (w : World) :
    Calls Tryz.prog 43 #[.agg #[.int .i64 p, .int .i64 d, .int .i64 t, .int .i64 x, .int .i64 y, .int .i64 n]] w fun e w' => ∃ va vc, e = .returned (.slice va (usesF ⟨p, d, t, x, y, n⟩).length vc) ∧ w'.ownsRow w.heap.size 3 1 (.slice va (usesF ⟨p, d, t, x, y, n⟩).length vc) (usesF ⟨p, d, t, x, y, n⟩).length (ints (usesF ⟨p, d, t, x, y, n⟩)) ∧ Below w.heap.size w w' := by
  have b1 := below1 w (.cells #[.int .i64 p, .int .i64 d, .int .i64 t, .int .i64 x, .int .i64 y, .int .i64 n] 64)
  by_cases h1 : p = 1
  · subst h1
    have hu : usesF ⟨1, d, t, x, y, n⟩ = [] := by simp [usesF]
    rw [hu]
    go_enter Tryz.func43, Tryz.ntmps43
    go_wp2
    go_ret
    exact ⟨none, 0, rfl, World.ownsRow_nil _ _ _ _, b1⟩
  have e1 : (p == 1) = false := by simp [h1]
  by_cases h3 : p = 3
  · subst h3
    have hu : usesF ⟨3, d, t, x, y, n⟩ = [x, y] := by simp [usesF]
    rw [hu]
    have ho := own_alloc (w.alloc (.cells #[.int .i64 3, .int .i64 d, .int .i64 t, .int .i64 x, .int .i64 y, .int .i64 n] 64)) #[.int .i64 x, .int .i64 y] 2 2 rfl (by omega) (by unfold maxLen; omega)
    have HO := hid ho
    clear ho
    go_enter Tryz.func43, Tryz.ntmps43
    go_wp2
    go_ret
    exact ⟨_, _, rfl, owns_mono (by simpa [ints] using HO.out) (by simp), b1.alloc (by simp) _⟩
  have e3 : (p == 3) = false := by simp [h3]
  by_cases h5 : p = 5
  · subst h5
    have hu : usesF ⟨5, d, t, x, y, n⟩ = [x, y] := by simp [usesF]
    rw [hu]
    have ho := own_alloc (w.alloc (.cells #[.int .i64 5, .int .i64 d, .int .i64 t, .int .i64 x, .int .i64 y, .int .i64 n] 64)) #[.int .i64 x, .int .i64 y] 2 2 rfl (by omega) (by unfold maxLen; omega)
    have HO := hid ho
    clear ho
    go_enter Tryz.func43, Tryz.ntmps43
    go_wp2
    go_ret
    exact ⟨_, _, rfl, owns_mono (by simpa [ints] using HO.out) (by simp), b1.alloc (by simp) _⟩
  have e5 : (p == 5) = false := by simp [h5]
  have hu : usesF ⟨p, d, t, x, y, n⟩ = [x] := by simp [usesF, h1, h3, h5]
  rw [hu]
  have ho := own_alloc (w.alloc (.cells #[.int .i64 p, .int .i64 d, .int .i64 t, .int .i64 x, .int .i64 y, .int .i64 n] 64)) #[.int .i64 x] 1 1 rfl (by omega) (by unfold maxLen; omega)
  have HO := hid ho
  clear ho
  go_enter Tryz.func43, Tryz.ntmps43
  go_wp2
  go_ret
  exact ⟨_, _, rfl, owns_mono (by simpa [ints] using HO.out) (by simp), b1.alloc (by simp) _⟩

/-- a value is there, as the model asks it -/
def thereV (D dom far : List Int) (part v : Int) : Bool :=
  decide (0 ≤ v) && (decide (v < (D.length : Int)) && (decide (v < 12) || (hasB far v || (decide (0 ≤ D[v.toNat]?.getD 0) && (D[v.toNat]?.getD 0 != part && hasB dom (D[v.toNat]?.getD 0))))))
set_option maxHeartbeats 2000000 in
theorem l9There_any (l D dom far : List Int) (la da ma fa : Option Addr) (lc dc mc fc : Nat) (part : Int) (w : World) (l1 : l.length ≤ 9223372036854775807) (l2 : D.length ≤ 9223372036854775807) (l3 : dom.length ≤ 9223372036854775807) (l4 : far.length ≤ 9223372036854775807) (hl : Row w la l) (hD : Row w da D) (hm : Row w ma dom) (hf : Row w fa far) :
    Calls Tryz.prog 42 #[.slice la l.length lc, .slice da D.length dc, .slice ma dom.length mc, .slice fa far.length fc, .int .i64 part] w fun e w' => e = .returned (.bool (l.all (thereV D dom far part))) ∧ w' = w := by
  have HL := hid hl
  have HD := hid hD
  have CM := hid (fun v => l1Has_any ma mc dom v w l3 hm)
  have CF := hid (fun v => l1Has_any fa fc far v w l4 hf)
  clear hl hD hm hf
  go_enter Tryz.func42, Tryz.ntmps42
  go_wp2
  go_loop [16] (fun t16 => ∃ k : Nat, t16 = .int .i64 k ∧ k ≤ l.length ∧ ∀ (j : Nat) v, j < k → l[j]? = some v → thereV D dom far part v = true) (fun t16 => l.length - (intOf t16).toNat)
  case atStart => exact ⟨0, rfl, by omega, by intro j v hj; omega⟩
  case round =>
    obtain ⟨k, rfl, hk, hgd⟩ := hrel
    have HGD := hid hgd
    clear hgd
    by_cases hlt : k < l.length
    · obtain ⟨b, off, rfl, hbw, hat⟩ := HL.out.at (by intro e; subst e; simp at hlt)
      obtain ⟨v, c1, HX⟩ := hat w (Below.refl _ _) k hlt
      clear hat
      by_cases hv0 : v < 0
      · have HT : Hid (thereV D dom far part v = false) := by show _ = _; simp [thereV]; omega
        go_wp2
        go_ret
        exact ⟨ret_bool (all_bad HX.out HT.out).symm, rfl⟩
      by_cases hvl : (D.length : Int) ≤ v
      · have HT : Hid (thereV D dom far part v = false) := by show _ = _; simp [thereV]; omega
        go_wp2
        go_ret
        exact ⟨ret_bool (all_bad HX.out HT.out).symm, rfl⟩
      obtain ⟨m, hm⟩ : ∃ m : Nat, v = m := ⟨v.toNat, by omega⟩
      subst hm
      have hml : m < D.length := by omega
      obtain ⟨db, doff, rfl, hdw, hdat⟩ := HD.out.at (by intro e; subst e; simp at hml)
      obtain ⟨q, c2, HQ⟩ := hdat w (Below.refl _ _) m hml
      clear hdat
      have hT : thereV D dom far part m = (decide ((m : Int) < 12) || (hasB far m || (decide (0 ≤ q) && (q != part && hasB dom q)))) := by
        have h1 : D[m]?.getD 0 = q := by rw [HQ.out]; rfl
        simp only [thereV, Int.toNat_natCast, h1]
        simp [hml]
      have HT0 := hid hT
      clear hT
      by_cases h12 : (m : Int) < 12
      · have HT : Hid (thereV D dom far part m = true) := by show _ = _; rw [HT0.out]; simp [h12]
        go_wp2
        go_round
        case rel => exact ⟨k + 1, by go_num, by omega, by
          intro j z hj hz
          by_cases e : j = k
          · subst e; rw [HX.out] at hz; cases hz; exact HT.out
          · exact HGD.out j z (by omega) hz⟩
        case measure => simp [intOf]; omega
      obtain ⟨bf, hbf⟩ : ∃ g, hasB far m = g := ⟨_, rfl⟩
      obtain ⟨bm, hbm⟩ : ∃ g, hasB dom q = g := ⟨_, rfl⟩
      have C1 := CF.out (m : Int)
      have C2 := CM.out q
      rw [hbf] at C1
      rw [hbm] at C2
      have D1 := hid C1
      have D2 := hid C2
      rw [hbf, hbm] at HT0
      clear hbf hbm C1 C2
      cases bf
      rotate_left
      · have HT : Hid (thereV D dom far part m = true) := by show _ = _; rw [HT0.out]; simp
        go_wp2_with fail
        refine D1.out.mono ?_
        rintro e w1 ⟨rfl, hw1⟩
        subst w1
        go_wp2
        go_round
        case rel => exact ⟨k + 1, by go_num, by omega, by
          intro j z hj hz
          by_cases e : j = k
          · subst e; rw [HX.out] at hz; cases hz; exact HT.out
          · exact HGD.out j z (by omega) hz⟩
        case measure => simp [intOf]; omega
      · by_cases hq0 : 0 ≤ q
        · obtain ⟨bq, hbq⟩ : ∃ g, (q != part) = g := ⟨_, rfl⟩
          rw [hbq] at HT0
          cases bq
          · have HT : Hid (thereV D dom far part m = false) := by show _ = _; rw [HT0.out]; simp; omega
            go_wp2_with fail
            refine D1.out.mono ?_
            rintro e w1 ⟨rfl, hw1⟩
            subst w1
            go_wp2
            go_ret
            exact ⟨ret_bool (all_bad HX.out HT.out).symm, rfl⟩
          · cases bm
            · have HT : Hid (thereV D dom far part m = false) := by show _ = _; rw [HT0.out]; simp; omega
              go_wp2_with fail
              refine D1.out.mono ?_
              rintro e w1 ⟨rfl, hw1⟩
              subst w1
              go_wp2_with fail
              refine D2.out.mono ?_
              rintro e w1 ⟨rfl, hw1⟩
              subst w1
              go_wp2
              go_ret
              exact ⟨ret_bool (all_bad HX.out HT.out).symm, rfl⟩
            · have HT : Hid (thereV D dom far part m = true) := by show _ = _; rw [HT0.out]; simp; omega
              go_wp2_with fail
              refine D1.out.mono ?_
              rintro e w1 ⟨rfl, hw1⟩
              subst w1
              go_wp2_with fail
              refine D2.out.mono ?_
              rintro e w1 ⟨rfl, hw1⟩
              subst w1
              go_wp2
              go_round
              case rel => exact ⟨k + 1, by go_num, by omega, by
                intro j z hj hz
                by_cases e : j = k
                · subst e; rw [HX.out] at hz; cases hz; exact HT.out
                · exact HGD.out j z (by omega) hz⟩
              case measure => simp [intOf]; omega
        · have HT : Hid (thereV D dom far part m = false) := by show _ = _; rw [HT0.out]; simp; omega
          go_wp2_with fail
          refine D1.out.mono ?_
          rintro e w1 ⟨rfl, hw1⟩
          subst w1
          go_wp2
          go_ret
          exact ⟨ret_bool (all_bad HX.out HT.out).symm, rfl⟩
    · obtain rfl : k = l.length := by omega
      go_wp2
      go_ret
      exact ⟨ret_bool (all_of (fun j v hv => HGD.out j v (List.getElem?_eq_some_iff.1 hv).1 hv)).symm, rfl⟩
/-- the values that a part uses in the end, in the model's order -/
def endsM (p : Prt) : List Int := (if testsB p.go then [p.test] else []) ++ p.args.flatten
theorem ends_mem (p : Prt) (v : Int) : v ∈ endsM p ↔ v ∈ ends p := by simp only [endsM, ends, List.mem_append]; exact or_comm
theorem flatten_len (xs : List (List Int)) : xs.flatten.length = sumL xs := by simp [sumL, List.length_flatten]
set_option maxHeartbeats 2000000 in
theorem l9Ends_any (go test : Int) (ps : List Int) (cs : List Flt) (ns : List Int) (rs : List (List Int)) (pa ca na ra : Option Addr) (pc cc nc rc : Nat) (w : World) (l4 : rs.length ≤ 9223372036854775807) (l5 : sumL rs ≤ 1048576) (h : LRow w ra rs) :
    Calls Tryz.prog 45 #[.agg #[.slice pa ps.length pc, .slice ca cs.length cc, .int .i64 go, .int .i64 test, .slice na ns.length nc, .slice ra rs.length rc]] w fun e w' => ∃ va vc, e = .returned (.slice va (endsM ⟨ps, cs, go, test, ns, rs⟩).length vc) ∧ w'.ownsRow w.heap.size 3 1 (.slice va (endsM ⟨ps, cs, go, test, ns, rs⟩).length vc) (endsM ⟨ps, cs, go, test, ns, rs⟩).length (ints (endsM ⟨ps, cs, go, test, ns, rs⟩)) ∧ Below w.heap.size w w' := by
  obtain ⟨pre, hpre⟩ : ∃ l, (if testsB go then [test] else []) = l := ⟨_, rfl⟩
  have hE : endsM ⟨ps, cs, go, test, ns, rs⟩ = pre ++ rs.flatten := by simp only [endsM, hpre]
  obtain ⟨E, hEE⟩ : ∃ E, pre ++ rs.flatten = E := ⟨_, rfl⟩
  rw [hE, hEE]
  have HE := hid hEE
  clear hEE
  have hpl : pre.length ≤ 1 := by rw [← hpre]; split <;> simp
  have HP := hid hpre
  have b1 := below1 w (.cells #[.slice pa ps.length pc, .slice ca cs.length cc, .int .i64 go, .int .i64 test, .slice na ns.length nc, .slice ra rs.length rc] 51)
  have H := hid (fun (W : World) (hb : Below w.heap.size w W) => h.below hb)
  clear h hE hpre
  go_enter Tryz.func45, Tryz.ntmps45
  by_cases h2 : go = 2
  · subst h2
    obtain rfl : pre = [test] := by rw [← HP.out]; rfl
    have HN0 := hid (News.one (w.alloc (.cells #[.slice pa ps.length pc, .slice ca cs.length cc, .int .i64 2, .int .i64 test, .slice na ns.length nc, .slice ra rs.length rc] 51)) (.int .i64 test) 3 (w.heap.size + 1) (by simp) rfl)
    have HS0 := hid (sep_one (World.ownsRow_nil ((w.alloc (.cells #[.slice pa ps.length pc, .slice ca cs.length cc, .int .i64 2, .int .i64 test, .slice na ns.length nc, .slice ra rs.length rc] 51)).alloc (.cells #[.int .i64 test] 3)) w.heap.size 3 1))
    go_wp2_with (at_builtin; refine wpList_append_sep eltInt rfl _ _ rfl w.heap.size [] HS0.out rfl HN0.out rfl (by simp) (by simp; omega) ?_)
    intro va vc w2 hs2 hb2 hg2
    have hc : w2.cell? ⟨w.heap.size, 5, none⟩ = some (.slice ra rs.length rc) := by
      have hx : w2.heap[w.heap.size]? = ((w.alloc (.cells #[.slice pa ps.length pc, .slice ca cs.length cc, .int .i64 2, .int .i64 test, .slice na ns.length nc, .slice ra rs.length rc] 51)).alloc (.cells #[.int .i64 test] 3)).heap[w.heap.size]? := hg2.block _ (by simp; omega) (by simp [Value.ownBlock])
      rw [World.cell?_of_block (a := ⟨w.heap.size, 5, none⟩) hx]; simp [go_sem]
    have HS : Hid (Sep w2 w.heap.size ([] ++ ⟨3, 1, .slice va [test].length vc, [test].length, ints [test]⟩ :: [])) := hs2
    have hB : Below w.heap.size w w2 := (b1.alloc (by simp) _).trans hb2
    clear hs2 hb2 hg2 HN0 HS0
    simp only [List.length_cons, List.length_nil, Nat.zero_add] at HS
    have hpl : True := trivial
    go_wp2
    go_loopw [3, 22] (fun t3 t22 wr => ∃ (j : Nat) (va : Option Addr) (vc : Nat), t22 = .int .i64 j ∧ j ≤ rs.length ∧ t3 = .slice va ([test] ++ (rs.take j).flatten).length vc ∧ Sep wr w.heap.size ([] ++ ⟨3, 1, .slice va ([test] ++ (rs.take j).flatten).length vc, ([test] ++ (rs.take j).flatten).length, ints ([test] ++ (rs.take j).flatten)⟩ :: []) ∧ Below w.heap.size w wr) (fun _ t22 _ => rs.length - (intOf t22).toNat)
    case atStart => exact ⟨0, va, vc, rfl, by omega, by simp, by simpa using HS.out, hB⟩
    case round =>
      obtain ⟨j, va, vc, rfl, hj, rfl, hsep, hB⟩ := hrel
      have HS := hid hsep
      have HB := hid hB
      obtain ⟨acc, hacc⟩ : ∃ l, [test] ++ (rs.take j).flatten = l := ⟨_, rfl⟩
      have hal : acc.length ≤ 1 + 1048576 := by rw [← hacc, List.length_append, flatten_len, List.length_singleton]; have := sumL_take rs j; omega
      rw [hacc] at HS ⊢
      have HA := hid hacc
      clear hsep hacc
      by_cases hlt : j < rs.length
      · obtain ⟨b, off, rfl, hbw, hat⟩ := (H.out wr hB).at (by intro e; subst e; simp at hlt)
        obtain ⟨t, ta, tc, cr, rl, HR, HX⟩ := hat wr (Below.refl _ _) j hlt
        clear hat
        have htl : t.length ≤ 1048576 := by have := sumL_at HX.out; have := sumL_take rs (j + 1); omega
        have HN := hid (News.ints HR.out)
        have hsz : w.heap.size ≤ wr.heap.size := hB.size
        clear hB
        go_wp2_with (at_builtin; refine wpList_append_sep eltInt rfl _ _ rfl w.heap.size [] HS.out rfl HN.out rfl (by omega) hsz ?_)
        intro va2 vc2 w2 hs2 hb2 hg2
        have HS2 := hid hs2
        have HB2 := hid (HB.out.trans hb2)
        clear hs2 hb2 hg2
        go_wp2
        go_roundw
        case rel =>
          have e1 : [test] ++ (rs.take (j + 1)).flatten = acc ++ t := by rw [List.take_add_one, HX.out, List.flatten_append, ← HA.out]; simp
          refine ⟨j + 1, va2, vc2, by go_num, by omega, by rw [e1, List.length_append], ?_, HB2.out⟩
          have := HS2.out
          rw [e1, List.length_append, ints_append]; exact this
        case measure => simp [intOf]; omega
      · obtain rfl : j = rs.length := by omega
        rw [List.take_of_length_le (Nat.le_refl _)] at HA
        obtain rfl : acc = E := HA.out.symm.trans HE.out
        clear hB
        go_wp2
        go_ret
        exact ⟨_, _, rfl, one_sep HS.out, HB.out⟩

  have e2 : (go == 2) = false := by simp [h2]
  by_cases h5 : go = 5
  · subst h5
    obtain rfl : pre = [test] := by rw [← HP.out]; rfl
    have HN0 := hid (News.one (w.alloc (.cells #[.slice pa ps.length pc, .slice ca cs.length cc, .int .i64 5, .int .i64 test, .slice na ns.length nc, .slice ra rs.length rc] 51)) (.int .i64 test) 3 (w.heap.size + 1) (by simp) rfl)
    have HS0 := hid (sep_one (World.ownsRow_nil ((w.alloc (.cells #[.slice pa ps.length pc, .slice ca cs.length cc, .int .i64 5, .int .i64 test, .slice na ns.length nc, .slice ra rs.length rc] 51)).alloc (.cells #[.int .i64 test] 3)) w.heap.size 3 1))
    go_wp2_with (at_builtin; refine wpList_append_sep eltInt rfl _ _ rfl w.heap.size [] HS0.out rfl HN0.out rfl (by simp) (by simp; omega) ?_)
    intro va vc w2 hs2 hb2 hg2
    have hc : w2.cell? ⟨w.heap.size, 5, none⟩ = some (.slice ra rs.length rc) := by
      have hx : w2.heap[w.heap.size]? = ((w.alloc (.cells #[.slice pa ps.length pc, .slice ca cs.length cc, .int .i64 5, .int .i64 test, .slice na ns.length nc, .slice ra rs.length rc] 51)).alloc (.cells #[.int .i64 test] 3)).heap[w.heap.size]? := hg2.block _ (by simp; omega) (by simp [Value.ownBlock])
      rw [World.cell?_of_block (a := ⟨w.heap.size, 5, none⟩) hx]; simp [go_sem]
    have HS : Hid (Sep w2 w.heap.size ([] ++ ⟨3, 1, .slice va [test].length vc, [test].length, ints [test]⟩ :: [])) := hs2
    have hB : Below w.heap.size w w2 := (b1.alloc (by simp) _).trans hb2
    clear hs2 hb2 hg2 HN0 HS0
    simp only [List.length_cons, List.length_nil, Nat.zero_add] at HS
    have hpl : True := trivial
    go_wp2
    go_loopw [3, 22] (fun t3 t22 wr => ∃ (j : Nat) (va : Option Addr) (vc : Nat), t22 = .int .i64 j ∧ j ≤ rs.length ∧ t3 = .slice va ([test] ++ (rs.take j).flatten).length vc ∧ Sep wr w.heap.size ([] ++ ⟨3, 1, .slice va ([test] ++ (rs.take j).flatten).length vc, ([test] ++ (rs.take j).flatten).length, ints ([test] ++ (rs.take j).flatten)⟩ :: []) ∧ Below w.heap.size w wr) (fun _ t22 _ => rs.length - (intOf t22).toNat)
    case atStart => exact ⟨0, va, vc, rfl, by omega, by simp, by simpa using HS.out, hB⟩
    case round =>
      obtain ⟨j, va, vc, rfl, hj, rfl, hsep, hB⟩ := hrel
      have HS := hid hsep
      have HB := hid hB
      obtain ⟨acc, hacc⟩ : ∃ l, [test] ++ (rs.take j).flatten = l := ⟨_, rfl⟩
      have hal : acc.length ≤ 1 + 1048576 := by rw [← hacc, List.length_append, flatten_len, List.length_singleton]; have := sumL_take rs j; omega
      rw [hacc] at HS ⊢
      have HA := hid hacc
      clear hsep hacc
      by_cases hlt : j < rs.length
      · obtain ⟨b, off, rfl, hbw, hat⟩ := (H.out wr hB).at (by intro e; subst e; simp at hlt)
        obtain ⟨t, ta, tc, cr, rl, HR, HX⟩ := hat wr (Below.refl _ _) j hlt
        clear hat
        have htl : t.length ≤ 1048576 := by have := sumL_at HX.out; have := sumL_take rs (j + 1); omega
        have HN := hid (News.ints HR.out)
        have hsz : w.heap.size ≤ wr.heap.size := hB.size
        clear hB
        go_wp2_with (at_builtin; refine wpList_append_sep eltInt rfl _ _ rfl w.heap.size [] HS.out rfl HN.out rfl (by omega) hsz ?_)
        intro va2 vc2 w2 hs2 hb2 hg2
        have HS2 := hid hs2
        have HB2 := hid (HB.out.trans hb2)
        clear hs2 hb2 hg2
        go_wp2
        go_roundw
        case rel =>
          have e1 : [test] ++ (rs.take (j + 1)).flatten = acc ++ t := by rw [List.take_add_one, HX.out, List.flatten_append, ← HA.out]; simp
          refine ⟨j + 1, va2, vc2, by go_num, by omega, by rw [e1, List.length_append], ?_, HB2.out⟩
          have := HS2.out
          rw [e1, List.length_append, ints_append]; exact this
        case measure => simp [intOf]; omega
      · obtain rfl : j = rs.length := by omega
        rw [List.take_of_length_le (Nat.le_refl _)] at HA
        obtain rfl : acc = E := HA.out.symm.trans HE.out
        clear hB
        go_wp2
        go_ret
        exact ⟨_, _, rfl, one_sep HS.out, HB.out⟩

  have e5 : (go == 5) = false := by simp [h5]
  obtain rfl : pre = [] := by rw [← HP.out]; simp [testsB, h2, h5]
  have HS0 : Hid (Sep (w.alloc (.cells #[.slice pa ps.length pc, .slice ca cs.length cc, .int .i64 go, .int .i64 test, .slice na ns.length nc, .slice ra rs.length rc] 51)) w.heap.size ([] ++ ⟨3, 1, .slice none 0 0, 0, []⟩ :: [])) := sep_one (World.ownsRow_nil _ _ _ _)
  go_wp2
  go_loopw [3, 22] (fun t3 t22 wr => ∃ (j : Nat) (va : Option Addr) (vc : Nat), t22 = .int .i64 j ∧ j ≤ rs.length ∧ t3 = .slice va ((rs.take j).flatten).length vc ∧ Sep wr w.heap.size ([] ++ ⟨3, 1, .slice va ((rs.take j).flatten).length vc, ((rs.take j).flatten).length, ints ((rs.take j).flatten)⟩ :: []) ∧ Below w.heap.size w wr) (fun _ t22 _ => rs.length - (intOf t22).toNat)
  case atStart => exact ⟨0, none, 0, rfl, by omega, by simp, by simpa [ints] using HS0.out, b1⟩
  case round =>
    obtain ⟨j, va, vc, rfl, hj, rfl, hsep, hB⟩ := hrel
    have HS := hid hsep
    have HB := hid hB
    obtain ⟨acc, hacc⟩ : ∃ l, (rs.take j).flatten = l := ⟨_, rfl⟩
    have hal : acc.length ≤ 1 + 1048576 := by rw [← hacc, flatten_len]; have := sumL_take rs j; omega
    rw [hacc] at HS ⊢
    have HA := hid hacc
    clear hsep hacc
    by_cases hlt : j < rs.length
    · obtain ⟨b, off, rfl, hbw, hat⟩ := (H.out wr hB).at (by intro e; subst e; simp at hlt)
      obtain ⟨t, ta, tc, cr, rl, HR, HX⟩ := hat wr (Below.refl _ _) j hlt
      clear hat
      have htl : t.length ≤ 1048576 := by have := sumL_at HX.out; have := sumL_take rs (j + 1); omega
      have HN := hid (News.ints HR.out)
      have hsz : w.heap.size ≤ wr.heap.size := hB.size
      clear hB
      go_wp2_with (at_builtin; refine wpList_append_sep eltInt rfl _ _ rfl w.heap.size [] HS.out rfl HN.out rfl (by omega) hsz ?_)
      intro va2 vc2 w2 hs2 hb2 hg2
      have HS2 := hid hs2
      have HB2 := hid (HB.out.trans hb2)
      clear hs2 hb2 hg2
      go_wp2
      go_roundw
      case rel =>
        have e1 : (rs.take (j + 1)).flatten = acc ++ t := by rw [List.take_add_one, HX.out, List.flatten_append, ← HA.out]; simp
        refine ⟨j + 1, va2, vc2, by go_num, by omega, by rw [e1, List.length_append], ?_, HB2.out⟩
        have := HS2.out
        rw [e1, List.length_append, ints_append]; exact this
      case measure => simp [intOf]; omega
    · obtain rfl : j = rs.length := by omega
      rw [List.take_of_length_le (Nat.le_refl _)] at HA
      obtain rfl : acc = E := HA.out.symm.trans (by simpa using HE.out)
      clear hB
      go_wp2
      go_ret
      exact ⟨_, _, rfl, one_sep HS.out, HB.out⟩
end Go.Proofs.YteihecnmnajahaaGreatDoor
