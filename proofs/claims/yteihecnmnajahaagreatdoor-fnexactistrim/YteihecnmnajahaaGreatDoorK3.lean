/- The values that are there ahead of a part's steps. -/
import Derived.Test.YteihecnmnajahaaGreatDoorItests
import Derived.Deep.QuietTactic
import Derived.BigQuiet
import Derived.Test.YteihecnmnajahaaGreatDoorSetI
import Derived.Lib.SliceRun
namespace Go.Proofs.YteihecnmnajahaaGreatDoor
section
open Go Go.RowKit
set_option linter.unusedVariables false
set_option linter.unusedSimpArgs false
set_option maxRecDepth 100000

def inT (k : Nat) (D dom : List Int) (v : Nat) : Bool := decide (v < 12) || (decide (D[v]?.getD (-1) ≠ (k : Int)) && decide (D[v]?.getD (-1) ∈ dom))
def thereL (P : List Nat) (k : Nat) (D dom : List Int) : Nat → List Nat
  | 0 => setL P
  | n + 1 => if inT k D dom n then putL (thereL P k D dom n) n else thereL P k D dom n
theorem thereL_rising (P : List Nat) (k : Nat) (D dom : List Int) (n : Nat) : (thereL P k D dom n).Pairwise (· < ·) := by
  induction n with
  | zero => exact setL_rising P
  | succ n ih => unfold thereL; split; exact putL_rising ih n; exact ih
theorem thereL_len (P : List Nat) (k : Nat) (D dom : List Int) (n : Nat) : (thereL P k D dom n).length ≤ P.length + n := by
  induction n with
  | zero => exact setL_len P
  | succ n ih =>
    unfold thereL; split
    · have := putL_len (thereL P k D dom n) n; omega
    · omega
theorem thereL_mem (P : List Nat) (k : Nat) (D dom : List Int) (n x : Nat) : x ∈ thereL P k D dom n ↔ x ∈ P ∨ (x < n ∧ inT k D dom x = true) := by
  induction n with
  | zero => simp [thereL, setL_mem]
  | succ n ih =>
    unfold thereL
    by_cases h : inT k D dom n = true
    · rw [if_pos h, putL_mem, ih]
      constructor
      · rintro (h1 | h1 | ⟨h1, h2⟩)
        · subst h1; exact .inr ⟨by omega, h⟩
        · exact .inl h1
        · exact .inr ⟨by omega, h2⟩
      · rintro (h1 | ⟨h1, h2⟩)
        · exact .inr (.inl h1)
        · rcases Nat.lt_or_ge x n with h3 | h3
          · exact .inr (.inr ⟨h3, h2⟩)
          · exact .inl (by omega)
    · rw [if_neg h, ih]
      constructor
      · rintro (h1 | ⟨h1, h2⟩)
        · exact .inl h1
        · exact .inr ⟨by omega, h2⟩
      · rintro (h1 | ⟨h1, h2⟩)
        · exact .inl h1
        · refine .inr ⟨?_, h2⟩
          rcases Nat.lt_or_ge x n with h3 | h3
          · exact h3
          · obtain rfl : x = n := by omega
            exact absurd h2 h

theorem Sep.cons9 {V : World} {B : Nat} {l : List OR} {y : OR} (h : Sep V B l) (hy : y.own V B) (hne : ∀ k, y.v.ownBlock = some k → ∀ x ∈ l, x.v.ownBlock ≠ some k) : Sep V B (y :: l) := by
  refine ⟨fun x hx => ?_, List.pairwise_cons.2 ⟨fun x hx => ?_, h.2⟩⟩
  · rcases List.mem_cons.1 hx with rfl | hx
    · exact hy
    · exact h.1 x hx
  · cases e : y.v.ownBlock with
    | none => exact .inl e
    | some k =>
      right
      rw [e]
      exact fun e2 => hne k e x hx e2.symm
theorem slice_own9 {w : World} {B n : Nat} {v : Value} {xs : List Value} (h : w.ownsRow B 3 1 v n xs) : ∃ va vc, v = .slice va n vc := by
  rcases h.2 with ⟨h0, h1⟩ | ⟨g', cap, cur, he, _⟩
  · exact ⟨none, 0, by rw [h0, h1]⟩
  · exact ⟨_, _, he⟩
/-- how the walk stands -/
structure AheadIs (w W : World) (bx : Nat) (sv dv : Value) (T : List Nat) : Prop where
  sep : Sep W (w.heap.size + 2) [cellOR 112 1 bx [sv], ⟨3, 1, sv, T.length, ints (nats T)⟩]
  dom : Boxed W w.heap.size 112 dv
  ans : Boxed W (w.heap.size + 1) 112 (.slice none 0 0)
  low : Below w.heap.size w W
theorem AheadIs.below {w W V : World} {bx : Nat} {sv dv : Value} {T : List Nat} (h : AheadIs w W bx sv dv T) (hb : Below W.heap.size W V) : AheadIs w V bx sv dv T :=
  ⟨h.sep.below hb, (hb.block _ h.dom.lt).trans h.dom, (hb.block _ h.ans.lt).trans h.ans, h.low.trans (hb.mono h.low.size)⟩
theorem AheadIs.next {w W Z : World} {bx : Nat} {sv sv' dv : Value} {T T' : List Nat} (h : AheadIs w W bx sv dv T) (hs : Sep Z (w.heap.size + 2) [cellOR 112 1 bx [sv'], ⟨3, 1, sv', T'.length, ints (nats T')⟩]) (ho : Only (fun b => b = bx ∨ sv.ownBlock = some b) W Z) : AheadIs w Z bx sv' dv T' := by
  have h1 : w.heap.size + 2 ≤ bx := (Sep.size h.sep (x := cellOR 112 1 bx [sv]) (by simp) rfl).1
  have h2 : ∀ g, sv.ownBlock = some g → w.heap.size + 2 ≤ g := fun g hg => (Sep.size h.sep (x := ⟨3, 1, sv, T.length, ints (nats T)⟩) (by simp) hg).1
  refine ⟨hs, (ho.block _ h.dom.lt ?_).trans h.dom, (ho.block _ h.ans.lt ?_).trans h.ans, ho.below h.low ?_⟩
  · rintro (e | e)
    · omega
    · have := h2 _ e; omega
  · rintro (e | e)
    · omega
    · have := h2 _ e; omega
  · rintro k (e | e)
    · omega
    · have := h2 _ e; omega
set_option maxHeartbeats 2000000 in
theorem thereAhead_any (ps : List Prt) (pa da ma : Option Addr) (pc dc mc k : Nat) (p : Prt) (P : List Nat) (D dom : List Int) (w : World) (hn : ps.length ≤ 11) (hx : ps[k]? = some p) (hP : p.params = nats P) (hPl : P.length ≤ 250) (hD : D.length ≤ 250) (hdl : dom.length ≤ 1000) (hdr : dom.Pairwise (· < ·)) (h1 : CRow w pa ps) (h2 : Row w da D) (h3 : Row w ma dom) :
    Calls Tryz.prog 84 #[.slice pa ps.length pc, .int .i64 k, .slice da D.length dc, .agg #[.slice ma dom.length mc]] w fun e w' => ∃ va vc, e = .returned (.agg #[.slice va (thereL P k D dom D.length).length vc]) ∧ w'.ownsRow w.heap.size 3 1 (.slice va (thereL P k D dom D.length).length vc) (thereL P k D dom D.length).length (ints (nats (thereL P k D dom D.length))) ∧ Below w.heap.size w w' := by
  have hkl : k < ps.length := (List.getElem?_eq_some_iff.1 hx).1
  obtain ⟨b, off, rfl, hbw, hat⟩ := h1.at (by intro e; subst e; simp at hkl)
  obtain ⟨A, hA⟩ : ∃ A, (w.alloc (.cells #[.slice ma dom.length mc] 112)).alloc (.cells #[.slice none 0 0] 112) = A := ⟨_, rfl⟩
  have bA : Below w.heap.size w A := by rw [← hA]; exact below2 _ _ _
  have sA : A.heap.size = w.heap.size + 2 := by rw [← hA]; simp
  have x0 : Boxed A w.heap.size 112 (.slice ma dom.length mc) := by rw [← hA]; exact (Boxed.new w 112 (.slice ma dom.length mc)).alloc _
  have x1 : Boxed A (w.heap.size + 1) 112 (.slice none 0 0) := by
    rw [← hA]
    have := Boxed.new (w.alloc (.cells #[.slice ma dom.length mc] 112)) 112 (.slice none 0 0)
    rw [World.size_alloc] at this
    exact this
  obtain ⟨ps', cs, go, test, ns, rs, qa, qc, ca, cc, na, nc, ra, rc, c0, c1, c2, c3, c4, c5, l1, l2, l3, l4, HPI, HX⟩ := hat A bA k hkl
  have hpe : ps' = nats P := by have := HX.out; rw [hx] at this; have := Option.some.inj this; rw [← hP, this]
  subst hpe
  simp only [nats_length] at c4
  have HSO := hid (setOf_any qa qc P A (by omega) HPI.out.params)
  have H2 := hid h2
  have H3 := hid h3
  have HR := hid hdr
  clear hat h1 h2 h3 hdr c0 c1 c2 c3 c5 HX HPI hx hP
  go_enter Tryz.func84, Tryz.ntmps84
  go_upto_region 1 with fail
  try rw [hA]
  clear hA
  go_wp2_with fail
  refine HSO.out.mono ?_
  rintro e w1 ⟨va, vc, rfl, ho1, hb1⟩
  rw [sA] at ho1 hb1
  have HA0 : Hid (AheadIs w (w1.alloc (.cells #[.slice va (setL P).length vc] 112)) w1.heap.size (.slice va (setL P).length vc) (.slice ma dom.length mc) (setL P)) := by
    have hs := hb1.size
    have hbn : Below w1.heap.size w1 (w1.alloc (.cells #[.slice va (setL P).length vc] 112)) := below1 w1 _
    refine ⟨?_, (show Boxed w1 w.heap.size 112 _ from (hb1.block _ (by omega)).trans x0).alloc _, (show Boxed w1 (w.heap.size + 1) 112 _ from (hb1.block _ (by omega)).trans x1).alloc _, (bA.trans (hb1.mono (by omega))).trans (hbn.mono (by have := bA.size; omega))⟩
    refine Sep.cons9 (y := cellOR 112 1 w1.heap.size [.slice va (setL P).length vc]) (Sep.below (l := [⟨3, 1, .slice va (setL P).length vc, (setL P).length, ints (nats (setL P))⟩]) (by simpa using sep_one ho1) hbn) (cell_own (cs := #[.slice va (setL P).length vc]) (Boxed.new w1 112 _) rfl (by omega)) (fun k hk x hx => ?_)
    simp only [List.mem_singleton] at hx
    subst hx
    have hk2 : w1.heap.size = k := Option.some.inj hk
    intro e
    have := (ho1.lt k e).2
    omega
  clear ho1 x0 x1
  go_wp2
  go_loopw [20] (fun t20 wr => ∃ (j : Nat) (sv : Value), t20 = .int .i64 j ∧ j ≤ D.length ∧ AheadIs w wr w1.heap.size sv (.slice ma dom.length mc) (thereL P k D dom j)) (fun t20 _ => D.length - (intOf t20).toNat)
  case atStart => exact ⟨0, _, rfl, by omega, HA0.out⟩
  case round =>
    obtain ⟨j, sv, rfl, hj, hI⟩ := hrel
    have hTl := thereL_len P k D dom j
    have hTr := thereL_rising P k D dom j
    have HI := hid hI
    clear hI
    by_cases hjl : j < D.length
    · obtain ⟨db, doff, rfl, hdb, hdat⟩ := H2.out.at (by intro e; subst e; simp at hjl)
      obtain ⟨v, dc0, HV⟩ := hdat wr HI.out.low j hjl
      clear hdat
      have HADD := hid (fun V (hV : Below wr.heap.size wr V) => add_any 112 1 w1.heap.size 1 1 0 [sv] sv (thereL P k D dom j) j [] (w.heap.size + 2) V (HI.out.below hV).sep rfl hTr (by omega) (by have h1 := hb1.size; have h2 := (Sep.size HI.out.sep (x := cellOR 112 1 w1.heap.size [sv]) (by simp) rfl); have := hV.size; omega))
      have HIN : Hid (inT k D dom j = (decide (j < 12) || (decide (v ≠ (k : Int)) && decide (v ∈ dom)))) := by
        show _ = _
        unfold inT; rw [HV.out]; rfl
      have HNX : Hid (∀ V Z sv', Below wr.heap.size wr V → inT k D dom j = true → Sep Z (w.heap.size + 2) [cellOR 112 1 w1.heap.size [sv'], ⟨3, 1, sv', (putL (thereL P k D dom j) j).length, ints (nats (putL (thereL P k D dom j) j))⟩] → Only (fun b => b = w1.heap.size ∨ sv.ownBlock = some b) V Z → AheadIs w Z w1.heap.size sv' (.slice ma dom.length mc) (thereL P k D dom (j + 1))) := fun V Z sv' hV hin hs ho => by
        rw [show thereL P k D dom (j + 1) = putL (thereL P k D dom j) j by show (if _ then _ else _) = _; rw [if_pos hin]]
        exact (HI.out.below hV).next hs ho
      have HST : Hid (inT k D dom j = false → thereL P k D dom (j + 1) = thereL P k D dom j) := fun hin => by
        show (if _ then _ else _) = _
        rw [if_neg (by rw [hin]; simp)]
      by_cases hj12 : (j : Int) < 12
      · have HF : Hid (∀ W, Calls Tryz.prog 120 #[.int .i64 j] W fun e w' => e = .returned (.bool true) ∧ w' = W) := fun W => (isFirst_any j W).mono fun e w' ⟨h1, h2⟩ => ⟨by rw [h1, decide_eq_true hj12], h2⟩
        have hin : inT k D dom j = true := by rw [HIN.out, decide_eq_true (by omega : j < 12)]; rfl
        have HH := hid hin
        clear hin
        go_wp2_with (first | (go_at_call 120; refine (HF.out _).mono ?_; rintro e w2 ⟨rfl, rfl⟩) | (go_at_call 116; refine (HADD.out _ (Below.refl _ _)).mono ?_; rintro e Z ⟨rfl, sv', hs', honly, _⟩))
        have HR9 := hid (HNX.out _ _ _ (Below.refl _ _) HH.out hs' honly)
        clear hs' honly
        go_roundw
        case rel => exact ⟨j + 1, sv', by simp, by omega, HR9.out⟩
        case measure => simp [intOf]; omega
      · have HF : Hid (∀ W, Calls Tryz.prog 120 #[.int .i64 j] W fun e w' => e = .returned (.bool false) ∧ w' = W) := fun W => (isFirst_any j W).mono fun e w' ⟨h1, h2⟩ => ⟨by rw [h1, decide_eq_false hj12], h2⟩
        by_cases hvk : v = (k : Int)
        · have hin : inT k D dom j = false := by rw [HIN.out, decide_eq_false (by omega : ¬ j < 12), decide_eq_false (by simp [hvk])]; rfl
          have HH := hid (HST.out hin)
          clear hin
          subst hvk
          go_wp2_with (go_at_call 120; refine (HF.out _).mono ?_; rintro e w2 ⟨rfl, rfl⟩)
          go_roundw
          case rel => exact ⟨j + 1, sv, by simp, by omega, by rw [HH.out]; exact HI.out⟩
          case measure => simp [intOf]; omega
        · have hne : ((v != (k : Int)) : Bool) = true := by simp [hvk]
          have d7 := HI.out.dom.cell
          have HHas := hid (has_anyI ma mc dom v wr (by omega) (H3.out.below HI.out.low) HR.out)
          by_cases hvd : v ∈ dom
          · have hin : inT k D dom j = true := by rw [HIN.out, decide_eq_true hvd, decide_eq_true hvk]; simp
            have HH := hid hin
            clear hin
            have HHas' : Hid (Calls Tryz.prog 121 #[.agg #[.slice ma dom.length mc], .int .i64 v] wr fun e w' => e = .returned (.bool true) ∧ Below wr.heap.size wr w') := HHas.out.mono fun e w' ⟨h1, h2⟩ => ⟨by rw [h1, decide_eq_true hvd], h2⟩
            go_wp2_with (first | (go_at_call 120; refine (HF.out _).mono ?_; rintro e w2 ⟨rfl, rfl⟩) | (go_at_call 121; refine HHas'.out.mono ?_; rintro e w3 ⟨rfl, hb3⟩) | (go_at_call 116; refine (HADD.out _ hb3).mono ?_; rintro e Z ⟨rfl, sv', hs', honly, _⟩))
            have HR9 := hid (HNX.out _ _ _ hb3 HH.out hs' honly)
            clear hs' honly
            go_roundw
            case rel => exact ⟨j + 1, sv', by simp, by omega, HR9.out⟩
            case measure => simp [intOf]; omega
          · have hin : inT k D dom j = false := by rw [HIN.out, decide_eq_false hvd, decide_eq_false (by omega : ¬ j < 12)]; simp
            have HH := hid (HST.out hin)
            clear hin
            have HHas' : Hid (Calls Tryz.prog 121 #[.agg #[.slice ma dom.length mc], .int .i64 v] wr fun e w' => e = .returned (.bool false) ∧ Below wr.heap.size wr w') := HHas.out.mono fun e w' ⟨h1, h2⟩ => ⟨by rw [h1, decide_eq_false hvd], h2⟩
            go_wp2_with (first | (go_at_call 120; refine (HF.out _).mono ?_; rintro e w2 ⟨rfl, rfl⟩) | (go_at_call 121; refine HHas'.out.mono ?_; rintro e w3 ⟨rfl, hb3⟩))
            go_roundw
            case rel => exact ⟨j + 1, sv, by simp, by omega, by rw [HH.out]; exact HI.out.below hb3⟩
            case measure => simp [intOf]; omega
    · obtain rfl : j = D.length := by omega
      have hsv : wr.ownsRow (w.heap.size + 2) 3 1 sv (thereL P k D dom D.length).length (ints (nats (thereL P k D dom D.length))) := HI.out.sep.get (x := ⟨3, 1, sv, (thereL P k D dom D.length).length, ints (nats (thereL P k D dom D.length))⟩) (by simp)
      obtain ⟨xa, xc, hse⟩ := slice_own9 hsv
      rw [hse] at hsv HI
      clear hse
      have z0 := Sep.cell HI.out.sep (x := cellOR 112 1 w1.heap.size [.slice xa (thereL P k D dom D.length).length xc]) (g := w1.heap.size) (j := 0) (u := .slice xa (thereL P k D dom D.length).length xc) (by simp) rfl rfl
      have z1 := HI.out.ans.cell
      have z2 := HI.out.ans.frozen
      have HS9 := hid hsv
      clear hsv
      go_wp2
      refine bodyPost_ret (v := .agg #[.slice xa (thereL P k D dom D.length).length xc]) (by simp [results, Tryz.results84, go_sem, *]) rfl ⟨xa, xc, rfl, ?_, ?_⟩
      · exact owns_mono (ownsRow_setCell_below HS9.out (by show w.heap.size + 1 < w.heap.size + 2; omega) _) (by omega)
      · exact HI.out.low.setCell (by show w.heap.size ≤ w.heap.size + 1; omega) _
end

section
open Go.RowKit
set_option linter.unusedVariables false
set_option linter.unusedSimpArgs false
set_option maxRecDepth 100000

/-- a made row is appended to nothing -/
theorem run_make_nilI (w : World) (ty n : Nat) (h0 : 0 < n) (hn : n ≤ 4194304) : ∃ cap w', (Builtin.append_ #[35, 3] ty #[.slice none 0 0, .int .i64 n]).run Tryz.prog w = .ok (.slice (some ⟨w.heap.size, 0, none⟩) n cap) w' ∧ n ≤ cap ∧ cap ≤ maxLen ∧ Below w.heap.size w w' ∧ w'.ownsRow w.heap.size 3 1 (.slice (some ⟨w.heap.size, 0, none⟩) 0 cap) 0 [] := by
  obtain ⟨i, hi, hz, hs, hb⟩ := info_parts info3
  have hn0 : n ≠ 0 := by omega
  have hw : IntKind.i64.wrap (n : Int) = (n : Int) := by rw [IntKind.wrap_i64]; omega
  have h1 : ¬ ((n : Int) < 0) := by omega
  have h2 : ¬ (281474976710656 < (n : Int) * 8) := by omega
  have h63' : ¬ (9223372036854775807 < (n : Int)) := by omega
  have h48' : ¬ (281474976710656 < Builtin.nextslicecap n 0 * i.bytes) := by rw [nextslicecap_zero h0, hb]; omega
  refine ⟨grownCap w n 0 3, w.drew.alloc (.cells (Builtin.zeroCells (Value.int .i64 0).cells n ++ Builtin.zeroCells (Value.int .i64 0).cells (grownCap w n 0 3 - n)) 3), ?_, grownCap_ge _ _ _ _, grownCap_le_maxLen _ _ _ _ (by unfold maxLen; omega), ?_, ?_⟩
  · simp [Builtin.append_, asIntOf, run_underlying Tryz.underlying35, run_underlying Tryz.underlying3, sizeOf, typeInfo, zeroValue, hi, hz, hs, hb, asInt, hw, h1, h2, Builtin.lenOf, hn0, h63', h48', Question.forced, run_firstCells_none, newRow, grownCap]
    rw [hb] at h48'
    exact fun h => absurd h h48'
  · exact bstep' ((Below.refl _ w).drew) (below1 w.drew _)
  · refine ⟨rfl, .inr ⟨w.heap.size, _, _, rfl, Nat.le_refl _, heap_alloc_new w.drew _, Nat.zero_le _, grownCap_le_maxLen _ _ _ _ (by unfold maxLen; omega), ?_, by simp⟩⟩
    have hge := grownCap_ge w n 0 3
    rw [Array.size_append, size_zeroCells, size_zeroCells]
    simp [Value.cells]
    omega
theorem wpList_make_nilI {w : World} {ops : Array Oper} {rest : List Oper} {o : Oper} {a : Act} {Q : Exit → Act → World → Prop} (hgd : o.guard = none) (s x : Operand)
    (ho : o.op = .call { callee := .builtin .append, args := #[s, x], argTypes := #[35, 3] }) (n : Nat) (hs : a.eval s = .slice none 0 0) (hx : a.eval x = .int .i64 n) (h0 : 0 < n) (hn : n ≤ 4194304)
    (k : ∀ cap w', n ≤ cap → cap ≤ maxLen → Below w.heap.size w w' → w'.ownsRow w.heap.size 3 1 (.slice (some ⟨w.heap.size, 0, none⟩) 0 cap) 0 [] → wpList Tryz.prog ops Q rest (a.put o.dst (.slice (some ⟨w.heap.size, 0, none⟩) n cap)) w') : wpList Tryz.prog ops Q (o :: rest) a w :=
  wpList_plain hgd fun _ hK => by
    obtain ⟨cap, w', hr, h1, h2, h3, h4⟩ := run_make_nilI w o.type n h0 hn
    unfold Oper.wp execOp
    simp only [ho, resolve, invoke, builtin, Sem.run_bind, Sem.run_pure, Result.andThen_ok, List.map_toArray, List.map_cons, List.map_nil, hs, hx, hr]
    exact hK _ _ (k cap w' h1 h2 h3 h4)
/-- nothing is made to bear n -/
theorem grow_anyI (n : Nat) (w : World) (hn : n ≤ 4194304) :
    Calls Tryz.prog 125 #[.slice none 0 0, .int .i64 n] w fun e w' => ∃ va vc, e = .returned (.slice va 0 vc) ∧ w'.ownsRow w.heap.size 3 1 (.slice va 0 vc) 0 [] ∧ Below w.heap.size w w' := by
  by_cases h0 : n = 0
  · subst h0
    go_enter Tryz.func125, Tryz.ntmps125
    go_wp2
    go_ret
    exact ⟨_, _, rfl, World.ownsRow_nil _ _ _ _, Below.refl _ _⟩
  · go_enter Tryz.func125, Tryz.ntmps125
    go_wp2_with (at_builtin; refine wpList_make_nilI rfl _ _ rfl n rfl rfl (by omega) hn ?_)
    intro cap w1 h1 h2 hb ho
    have HO := hid (And.intro hb ho)
    unfold maxLen at h2
    clear hb ho
    go_wp2
    go_ret
    exact ⟨_, _, rfl, HO.out.2, HO.out.1⟩
end

section
open Go.RowKit
set_option linter.unusedVariables false
set_option linter.unusedSimpArgs false
set_option maxRecDepth 100000

theorem flat_take {rs : List (List Int)} {j : Nat} {t : List Int} (h : rs[j]? = some t) : (rs.take (j + 1)).flatten = (rs.take j).flatten ++ t := by
  rw [List.take_add_one, h]; simp
theorem flat_le (rs : List (List Int)) (j : Nat) : (rs.take j).flatten.length ≤ rs.flatten.length := by
  have : rs.flatten = (rs.take j).flatten ++ (rs.drop j).flatten := by rw [← List.flatten_append, List.take_append_drop]
  rw [this, List.length_append]; omega
theorem ints_app (l m : List Int) : ints (l ++ m) = ints l ++ ints m := by simp [ints]
set_option maxHeartbeats 4000000 in
theorem concat_anyI (a : Option Addr) (c : Nat) (rs : List (List Int)) (w : World) (hl : rs.length ≤ 4194304) (hf : rs.flatten.length ≤ 4000000) (h : LRow w a rs) :
    Calls Tryz.prog 91 #[.slice a rs.length c] w fun e w' => ∃ va vc, e = .returned (.slice va rs.flatten.length vc) ∧ w'.ownsRow w.heap.size 3 1 (.slice va rs.flatten.length vc) rs.flatten.length (ints rs.flatten) ∧ Below w.heap.size w w' := by
  have HR := hid h
  clear h
  go_enter Tryz.func91, Tryz.ntmps91
  go_wp2
  go_loop [3, 11] (fun t3 t11 => ∃ j : Nat, t11 = .int .i64 j ∧ j ≤ rs.length ∧ t3 = .int .i64 ((rs.take j).flatten.length : Nat)) (fun _ t11 => rs.length - (intOf t11).toNat)
  case atStart => exact ⟨0, rfl, by omega, by simp⟩
  case round =>
    obtain ⟨j, rfl, hj, rfl⟩ := hrel
    by_cases hjl : j < rs.length
    · obtain ⟨b, off, rfl, hbw, hat⟩ := HR.out.at (by intro e; subst e; simp at hjl)
      obtain ⟨t, ta, tc, c0, tl, HRT, HX⟩ := hat w (Below.refl _ _) j hjl
      clear hat
      have e1 := flat_take HX.out
      have e2 := flat_le rs (j + 1)
      rw [e1, List.length_append] at e2
      obtain ⟨n, hn⟩ : ∃ n, (rs.take j).flatten.length = n := ⟨_, rfl⟩
      have HE := hid e1
      rw [hn] at e2
      have HN := hid hn
      rw [hn]
      clear e1 hn
      go_wp2
      go_round
      case rel => exact ⟨j + 1, by simp, by omega, by rw [HE.out, List.length_append, HN.out]; simp⟩
      case measure => simp [intOf]; omega
    · obtain rfl : j = rs.length := by omega
      rw [List.take_of_length_le (Nat.le_refl _)]
      obtain ⟨q, hq⟩ : ∃ q, rs.flatten.length = q := ⟨_, rfl⟩
      have HQ := hid hq
      rw [hq] at hf ⊢
      clear hq
      go_wp2_with fail
      refine (grow_anyI q _ (by omega)).mono ?_
      rintro e w1 ⟨va, vc, rfl, hs1, hb1⟩
      have HS1 := hid (sep_one hs1)
      have HB1 := hid hb1
      clear hs1 hb1
      go_wp2
      go_loopw [6, 27] (fun t6 t27 wr => ∃ (j : Nat) (wa : Option Addr) (wc : Nat), t27 = .int .i64 j ∧ j ≤ rs.length ∧ t6 = .slice wa (rs.take j).flatten.length wc ∧ Hid (Sep wr w.heap.size ([] ++ ⟨3, 1, .slice wa (rs.take j).flatten.length wc, (rs.take j).flatten.length, ints (rs.take j).flatten⟩ :: [])) ∧ Below w.heap.size w wr) (fun _ t27 _ => rs.length - (intOf t27).toNat)
      case atStart => exact ⟨0, va, vc, rfl, by omega, by simp, HS1, HB1.out⟩
      case round =>
        obtain ⟨j, wa, wc, rfl, hj, rfl, HS, hb⟩ := hrel
        by_cases hjl : j < rs.length
        · obtain ⟨b, off, rfl, hbw, hat⟩ := HR.out.at (by intro e; subst e; simp at hjl)
          obtain ⟨t, ta, tc, c0, tl, HRT, HX⟩ := hat wr hb j hjl
          clear hat
          have e1 := flat_take HX.out
          have e2 := flat_le rs (j + 1)
          rw [e1, List.length_append, HQ.out] at e2
          obtain ⟨L, hL⟩ : ∃ L, (rs.take j).flatten = L := ⟨_, rfl⟩
          rw [hL] at e1 e2 HS ⊢
          have HE := hid e1
          clear e1 hL
          have HB := hid hb
          have HN1 := hid (News.ints (HRT.out.below hb))
          clear hb
          go_wp2_with (at_builtin; refine wpList_append_sep eltInt rfl _ _ rfl w.heap.size [] HS.out rfl HN1.out rfl (by omega) HB.out.size ?_)
          intro va2 vc2 w2 hs2 hb2 hg2
          have HS2 : Hid (Sep w2 w.heap.size ([] ++ ⟨3, 1, .slice va2 (rs.take (j + 1)).flatten.length vc2, (rs.take (j + 1)).flatten.length, ints (rs.take (j + 1)).flatten⟩ :: [])) := by
            show Sep _ _ _
            rw [HE.out, List.length_append, ints_app]
            exact hs2
          have HB2 := hid (HB.out.trans hb2)
          clear hs2 hb2 hg2
          go_wp2
          go_roundw
          case rel => exact ⟨j + 1, va2, vc2, by simp, by omega, by rw [HE.out, List.length_append], HS2, HB2.out⟩
          case measure => simp [intOf]; omega
        · obtain rfl : j = rs.length := by omega
          rw [List.take_of_length_le (Nat.le_refl _), HQ.out] at HS ⊢
          have HB := hid hb
          clear hb
          go_wp2
          go_ret
          rw [HQ.out]
          exact ⟨_, _, rfl, one_sep HS.out, HB.out⟩
end

section
open Go.RowKit
set_option linter.unusedVariables false
set_option linter.unusedSimpArgs false
set_option maxRecDepth 100000

set_option maxHeartbeats 1000000 in
theorem usedBehind_any (b o : Nat) (go test : Int) (rs : List (List Int)) (ra : Option Addr) (rc : Nat) (w : World) (hg : 1 ≤ go ∧ go ≤ 5) (hT : Tab w) (h1 : w.cell? ⟨b, o + 1, none⟩ = some (.int .i64 go)) (h2 : w.cell? ⟨b, o + 2, none⟩ = some (.int .i64 test)) (h5 : w.cell? ⟨b, o + 5, none⟩ = some (.slice ra rs.length rc)) (hr : LRow w ra rs) (hl : rs.length ≤ 4000) (hf : rs.flatten.length ≤ 4000) :
    Calls Tryz.prog 59 #[.pointer (some ⟨b, o, none⟩)] w fun e w' => ∃ va vc, e = .returned (.slice va (rs.flatten ++ if testsB go then [test] else []).length vc) ∧ Row w' va (rs.flatten ++ if testsB go then [test] else []) ∧ Below w.heap.size w w' := by
  have HC := hid (concat_anyI ra rc rs w (by omega) (by omega) hr)
  have HT := hid (fun W (hb : Below w.heap.size w W) => bodyTests_any b o go W hg (hT.below hb) ((hb.cell (World.block_lt_of_cell? w _ h1)).trans h1))
  have H2 := hid (fun W (hb : Below w.heap.size w W) => (hb.cell (World.block_lt_of_cell? w _ h2)).trans h2)
  obtain ⟨q, hq⟩ : ∃ q, rs.flatten = q := ⟨_, rfl⟩
  rw [hq] at HC hf ⊢
  clear hT hr hq h1 h2
  by_cases ht : testsB go = true
  · rw [ht] at HT
    rw [if_pos ht]
    have HQ := hid hf
    clear ht hg
    go_enter Tryz.func59, Tryz.ntmps59
    go_wp2_with fail
    refine HC.out.mono ?_
    rintro e w1 ⟨va, vc, rfl, ho1, hb1⟩
    have HS1 := hid (sep_one ho1)
    have HB1 := hid hb1
    have HTT := hid (HT.out w1 hb1)
    have c2 := H2.out w1 hb1
    clear ho1 hb1
    have HSA := hid (HS1.out.below (below1 w1 (.cells #[.int .i64 test] 3)))
    have HNA := hid (News.ints (row_new1 w1 test 3))
    have HBA := hid (HB1.out.trans ((below1 w1 (.cells #[.int .i64 test] 3)).mono HB1.out.size))
    go_wp2_with (first | (go_at_call 92; refine HTT.out.mono ?_; rintro e w2 ⟨rfl, rfl⟩) | (at_builtin; refine wpList_append_sep eltInt rfl _ _ rfl w.heap.size [] HSA.out rfl HNA.out rfl (by simp; omega) HBA.out.size ?_))
    intro va2 vc2 w3 hs3 hb3 hg3
    have HS3 := hid (one_sep hs3)
    have HB3 := hid (HBA.out.trans hb3)
    clear hs3 hb3 hg3
    go_wp2
    go_ret
    have hl2 : (q ++ [test]).length = q.length + [test].length := by simp
    rw [hl2]
    exact ⟨_, _, rfl, own_row (xs := q ++ [test]) (by rw [hl2, show ints (q ++ [test]) = ints q ++ ints [test] by simp [ints]]; exact HS3.out), HB3.out⟩
  · have ht' : testsB go = false := by simpa using ht
    rw [ht'] at HT
    rw [if_neg ht]
    have HQ := hid hf
    clear ht hg ht'
    go_enter Tryz.func59, Tryz.ntmps59
    go_wp2_with fail
    refine HC.out.mono ?_
    rintro e w1 ⟨va, vc, rfl, ho1, hb1⟩
    have HS1 := hid ho1
    have HB1 := hid hb1
    have HTT := hid (HT.out w1 hb1)
    clear ho1 hb1
    go_wp2_with (go_at_call 92; refine HTT.out.mono ?_; rintro e w2 ⟨rfl, rfl⟩)
    go_ret
    rw [List.append_nil]
    exact ⟨_, _, rfl, own_row HS1.out, HB1.out⟩
end

section
open Go Go.RowKit
set_option linter.unusedVariables false
set_option linter.unusedSimpArgs false
set_option maxRecDepth 100000

/-- a test of sets: of what is there, and a list -/
theorem setHas_any (xa a : Option Addr) (xc c : Nat) (T : List Nat) (l : List Int) (w : World) (hT : T.length ≤ 1000) (hr : T.Pairwise (· < ·)) (h1 : Row w xa (nats T)) (hl : (setIL l).length ≤ 100000) (h2 : Row w a (setIL l)) :
    Calls Tryz.prog 118 #[.agg #[.slice xa T.length xc], .agg #[.slice a (setIL l).length c]] w fun e w' => e = .returned (.bool (l.all fun x => decide (x ∈ nats T))) ∧ Below w.heap.size w w' := by
  have h := hasAll_anyI xa a xc c (nats T) (setIL l) w (by rw [nats_length]; exact hT) hl h1 h2 (nats_lt hr) (setIL_rising l)
  rw [nats_length] at h
  have e : allInI (nats T) (setIL l) = (l.all fun x => decide (x ∈ nats T)) := by
    rw [Bool.eq_iff_iff]
    simp only [allInI, List.all_eq_true, setIL_mem]
  rw [e] at h
  exact h
end
end Go.Proofs.YteihecnmnajahaaGreatDoor
