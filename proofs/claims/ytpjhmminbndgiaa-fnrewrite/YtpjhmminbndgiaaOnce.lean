/- What comes of a text by one rule at one place, as the model makes it. -/
import Derived.Test.YtpjhmminbndgiaaRowR
import Derived.Deep.RegionHeldLaw
namespace Go.Proofs.Ytpjhmminbndgiaa
open Go.RowKit
set_option linter.unusedVariables false
set_option linter.unusedSimpArgs false
set_option maxHeartbeats 4000000
set_option maxRecDepth 100000

theorem info9 : (Try.prog.info? 9).map (fun i => (i.zero, i.size, i.bytes)) = some (some (.string ⟨#[]⟩), 1, 16) := by kernel_rfl
theorem eltStr : Elt 32 9 1 16 := by
  obtain ⟨i0, hi, hz0, hz1, hz2⟩ := info_parts info9
  exact ⟨i0, .string ⟨#[]⟩, Try.underlying32, hi, hz0, hz1, hz2, by simp [Value.cells], by omega, by omega⟩
/-- texts as cells -/
def strs (l : List Tx) : List Value := l.map fun x => .string (Sb x)
theorem strs_length (l : List Tx) : (strs l).length = l.length := by simp [strs]
theorem strs_append (l m : List Tx) : strs (l ++ m) = strs l ++ strs m := by simp [strs]
theorem step_append_sep {T e : TypeId} {size bytes : Nat} (E : Elt T e size bytes) {w : World} {ops : Array Oper} {o : Oper} {a : Act} {K : Act → World → Prop} {Q : Exit → Act → World → Prop} {F : Prop} (hgd : o.guard = none) (s x : Operand)
    (ho : o.op = .call { callee := .builtin .append, args := #[s, x], argTypes := #[T, T] })
    (B : Nat) (l1 : List OR) {v : Value} {n : Nat} {xs : List Value} {l2 : List OR} (h : Sep w B (l1 ++ ⟨e, size, v, n, xs⟩ :: l2)) (hs : a.eval s = v) {ad : Option Addr} {m c : Nat} {news : List Value} (hn : News w ad m size news) (hx : a.eval x = .slice ad m c) (hb : n + m ≤ 4000000) (hB : B ≤ w.heap.size)
    (k : ∀ va vc w', Sep w' B (l1 ++ ⟨e, size, .slice va (n + m) vc, n + m, xs ++ news⟩ :: l2) → Below B w w' → w.grownBy w' v.ownBlock → K (a.put o.dst (.slice va (n + m) vc)) w') :
    if Region.wanted o (yielded ops a.tmps) = true then Oper.wp Try.prog o a w K Q else F := by
  have hw : Region.wanted o (yielded ops a.tmps) = true := by simp [Region.wanted, hgd]
  rw [if_pos hw]
  exact wp_append_sep E s x ho B l1 h hs hn hx hb hB k
theorem cell_below {w w' : World} {b o : Nat} {v : Value} (h : w.cell? ⟨b, o, none⟩ = some v) (hb : Below w.heap.size w w') : w'.cell? ⟨b, o, none⟩ = some v := by
  rw [hb.cell (World.block_lt_of_cell? w _ h)]; exact h

/-- of the first rules, and of the next one at the first places -/
def onceTo (l : List Rl) (s : Tx) (k : Nat) : List Tx := once (l.take k) s
def onceAt (l : List Rl) (s : Tx) (k at_ : Nat) (r : Rl) : List Tx := onceTo l s k ++ (List.range at_).filterMap (useAt r s)
theorem onceTo_succ {l : List Rl} {s : Tx} {k : Nat} {r : Rl} (h : l[k]? = some r) : onceTo l s (k + 1) = onceAt l s k s.length r := by
  unfold onceTo onceAt once
  rw [List.take_add_one, h, List.flatMap_append]
  simp [onceTo, once, onceR]
theorem onceAt_zero (l : List Rl) (s : Tx) (k : Nat) (r : Rl) : onceAt l s k 0 r = onceTo l s k := by simp [onceAt]
theorem onceAt_succ (l : List Rl) (s : Tx) (k at_ : Nat) (r : Rl) : onceAt l s k (at_ + 1) r = onceAt l s k at_ r ++ (useAt r s at_).toList := by
  unfold onceAt
  rw [List.range_succ, List.filterMap_append, ← List.append_assoc]
  cases h : useAt r s at_ <;> simp [h]
theorem good_at {xs : List RB} (hg : rulesB (Rs xs) = true) {k : Nat} {f t : ByteArray} (h : xs[k]? = some (f, t)) : f.size ≤ 6 ∧ t.size ≤ 6 ∧ ruleB (Bt f, Bt t) = true := by
  have h1 : ruleB (Bt f, Bt t) = true := by
    simp only [rulesB, Bool.and_eq_true, List.all_eq_true] at hg
    exact hg.2 _ (List.mem_of_getElem? (rs_at h))
  have h2 := h1
  simp only [ruleB, okB, Bool.and_eq_true, decide_eq_true_eq] at h2
  exact ⟨by rw [Bt_size]; exact h2.1.1.1, by rw [Bt_size]; exact h2.1.2.1, h1⟩
theorem good_len {xs : List RB} (hg : rulesB (Rs xs) = true) : xs.length ≤ 8 := by
  simp only [rulesB, Bool.and_eq_true, decide_eq_true_eq, Rs_length] at hg
  exact hg.1
theorem sOnce_any (a : Option Addr) (c : Nat) (xs : List RB) (s : ByteArray) (w : World) (hg : rulesB (Rs xs) = true) (hss : s.size ≤ 1000) (h : RRow w a xs) :
    Calls Try.prog 61 #[.slice a xs.length c, .string s] w fun e w' => ∃ v, e = .returned v ∧ w'.ownsRow w.heap.size 9 1 v (once (Rs xs) (Bt s)).length (strs (once (Rs xs) (Bt s))) ∧ Below w.heap.size w w' := by
  have hx8 := good_len hg
  have H := hid h
  clear h
  go_enter Try.func61, Try.ntmps61
  go_wp2
  go_loopw [5, 11] (fun t5 t11 wr => ∃ (k n : Nat), t11 = .int .i64 k ∧ k ≤ xs.length ∧ Sep wr w.heap.size ([] ++ ⟨9, 1, t5, n, strs (onceTo (Rs xs) (Bt s) k)⟩ :: []) ∧ n = (onceTo (Rs xs) (Bt s) k).length ∧ n ≤ k * 1000 ∧ Below w.heap.size w wr) (fun _ t11 _ => xs.length - (intOf t11).toNat)
  case atStart => exact ⟨0, 0, rfl, by omega, sep_one (World.ownsRow_nil _ _ _ _), rfl, by omega, Below.refl _ _⟩
  case round =>
    obtain ⟨W0, rfl⟩ : ∃ W0, W0 = wr := ⟨_, rfl⟩
    obtain ⟨V0, rfl⟩ : ∃ V0, V0 = u5 := ⟨_, rfl⟩
    obtain ⟨k, n, rfl, hk, hS, hn, hn8, hB⟩ := hrel
    by_cases hlt : k < xs.length
    · have hx : xs ≠ [] := by intro e; subst e; simp at hlt
      obtain ⟨b, off, rfl, hbw, hat⟩ := H.out.at hx
      obtain ⟨f, t, c1, c2, HX⟩ := hat W0 hB k hlt
      obtain ⟨hf6, ht6, hr⟩ := good_at hg HX.out
      have hbr : b < W0.heap.size := Nat.lt_of_lt_of_le hbw hB.size
      clear hat
      have hb1 := below1 W0 (.cells #[.string f, .string t] 82)
      have HS1 : Hid (Sep (W0.alloc (.cells #[.string f, .string t] 82)) w.heap.size ([cellOR 82 2 W0.heap.size [.string f, .string t]] ++ ⟨9, 1, V0, n, strs (onceTo (Rs xs) (Bt s) k)⟩ :: [])) := by
        refine Sep.add hS hb1 (cellOR 82 2 W0.heap.size [.string f, .string t]) (cell_own (cs := #[.string f, .string t]) (heap_alloc_new _ _) rfl hB.size) (fun k hk => ?_)
        simp [Value.ownBlock] at hk; omega
      have HB1 := hid (bstep' hB hb1)
      have HN := hid hn
      have HSZ := hid hB.size
      clear hS hn hb1
      go_wp2
      go_loopw [5, 8] (fun t5 t8 w2 => ∃ (q m : Nat), t8 = .int .i64 q ∧ q ≤ s.size ∧ Sep w2 w.heap.size ([cellOR 82 2 W0.heap.size [.string f, .string t]] ++ ⟨9, 1, t5, m, strs (onceAt (Rs xs) (Bt s) k q (Bt f, Bt t))⟩ :: []) ∧ m = (onceAt (Rs xs) (Bt s) k q (Bt f, Bt t)).length ∧ m ≤ k * 1000 + q ∧ Below w.heap.size w w2) (fun _ t8 _ => s.size - (intOf t8).toNat)
      case atStart => exact ⟨0, n, rfl, by omega, by rw [onceAt_zero]; exact HS1.out, by rw [onceAt_zero]; exact HN.out, by omega, HB1.out⟩
      case round =>
        obtain ⟨q, m, rfl, hq, hS2, hm, hm8, hB2⟩ := hrel
        by_cases hqs : q < s.size
        · have cA := fun w => sAt_any s f q w (by omega) (by omega) hq
          have d0 : wr.cell? ⟨W0.heap.size, 0, none⟩ = some (.string f) := hS2.cell (x := cellOR 82 2 W0.heap.size [.string f, .string t]) (by simp) rfl (j := 0) rfl
          have d1 : wr.cell? ⟨W0.heap.size, 1, none⟩ = some (.string t) := hS2.cell (x := cellOR 82 2 W0.heap.size [.string f, .string t]) (by simp) rfl (j := 1) rfl
          cases hp : (Bt f).isPrefixOf ((Bt s).drop q) with
          | true =>
            rw [hp] at cA
            have HA : Hid (∀ w, Calls Try.prog 75 #[.string s, .string f, .int .i64 q] w fun e w' => e = .returned (.bool true) ∧ w' = w) := cA
            have hu := used_yes (t := t) hp
            have hl : f.size ≤ s.size - q := by
              have := (List.isPrefixOf_iff_prefix.1 hp).length_le
              rw [List.length_drop, ← Bt_size, ← Bt_size] at this
              exact this
            clear cA
            go_wp2_with (go_at_call 75; refine (HA.out _).mono ?_; rintro e w3 ⟨rfl, hw⟩; subst w3)
            have hbd : Below wr.heap.size wr wr.drew := (Below.refl _ _).drew
            have HSB : Hid (∀ X, Sep (wr.drew.alloc (.cells #[.string X] 9)) w.heap.size ([cellOR 82 2 W0.heap.size [.string f, .string t]] ++ ⟨9, 1, u5, m, strs (onceAt (Rs xs) (Bt s) k q (Bt f, Bt t))⟩ :: []) ∧ Below wr.heap.size wr (wr.drew.alloc (.cells #[.string X] 9))) := fun X => ⟨(hS2.below hbd).below (below1 _ _), bstep' hbd (below1 _ _)⟩
            have HBW := hid hB2.size
            have HM := hid hm
            have e := onceAt_succ (Rs xs) (Bt s) k q (Bt f, Bt t)
            rw [show useAt (Bt f, Bt t) (Bt s) q = _ from hu] at e
            have HE : Hid (strs (onceAt (Rs xs) (Bt s) k (q + 1) (Bt f, Bt t)) = strs (onceAt (Rs xs) (Bt s) k q (Bt f, Bt t)) ++ [.string (s.extract 0 q ++ t ++ s.extract (q + f.size) s.size)] ∧ (onceAt (Rs xs) (Bt s) k (q + 1) (Bt f, Bt t)).length = (onceAt (Rs xs) (Bt s) k q (Bt f, Bt t)).length + 1) := by
              rw [e, strs_append]
              refine ⟨?_, by simp⟩
              simp only [Option.toList_some, strs, List.map_cons, List.map_nil, Sb_Bt]
            clear hu e hS2 hm hbd
            have g1 : s.size - (q + f.size) ≤ s.size := by omega
            have g2 : q + f.size ≤ s.size := by omega
            have g3 : (q : Int) + (f.size : Int) ≤ (s.size : Int) := by omega
            have g4 : (0 : Int) ≤ (q : Int) + (f.size : Int) := by omega
            have hwr : IntKind.i64.wrap ((q : Int) + (f.size : Int)) = (q : Int) + (f.size : Int) := by rw [IntKind.wrap_i64]; omega
            have hsl : ∀ W, (Instr.slice 9 (.string s) (some (.int .i64 ((q : Int) + (f.size : Int)))) none none).run Try.prog W = .ok (.string (s.extract (q + f.size) s.size)) W := by
              intro W
              rw [show (q : Int) + (f.size : Int) = ((q + f.size : Nat) : Int) by omega, run_slice_string_l W 9 s Try.underlying9 .i64 _ (by omega) (by omega), Int.toNat_natCast]
            clear g1 g2 g3 g4
            go_region_held_law (fun W => W.cell? ⟨W0.heap.size, 0, none⟩ = some (.string f) ∧ W.cell? ⟨W0.heap.size, 1, none⟩ = some (.string t)) ((first | exact hc9 | go_keep)) ((first | (refine step_append_sep eltStr (by rfl) _ _ (by rfl) w.heap.size [cellOR 82 2 W0.heap.size [.string f, .string t]] (HSB.out _).1 (by rfl) (News.one wr.drew _ 9 _ rfl rfl) (by rfl) (by omega) (Nat.le_trans HBW.out (HSB.out _).2.size) ?_; intro va9 vc9 w9 hs9 hb9 hg9; have hc9 := And.intro (hs9.cell (x := cellOR 82 2 W0.heap.size [.string f, .string t]) (by simp) rfl (j := 0) rfl) (hs9.cell (x := cellOR 82 2 W0.heap.size [.string f, .string t]) (by simp) rfl (j := 1) rfl); have HS9 := hid hs9; have HB9 := hid hb9; clear hs9 hb9 hg9)))
            all_goals
              have HBT : Hid (Below w.heap.size w w9) := (bstep' hB2 (HSB.out _).2).trans HB9.out
              go_wp2
              go_roundw
              case rel =>
                refine ⟨q + 1, m + 1, by go_num, by omega, ?_, ?_, by omega, HBT.out⟩
                · rw [HE.out.1]; exact HS9.out
                · rw [HE.out.2, HM.out]
              case measure => simp [intOf]; omega
          | false =>
            rw [hp] at cA
            have HA : Hid (∀ w, Calls Try.prog 75 #[.string s, .string f, .int .i64 q] w fun e w' => e = .returned (.bool false) ∧ w' = w) := cA
            have hu : useAt (Bt f, Bt t) (Bt s) q = none := used_no (t := t) hp
            have e := onceAt_succ (Rs xs) (Bt s) k q (Bt f, Bt t)
            rw [hu] at e
            simp only [Option.toList_none, List.append_nil] at e
            have HR : Hid (Sep wr w.heap.size ([cellOR 82 2 W0.heap.size [.string f, .string t]] ++ ⟨9, 1, u5, m, strs (onceAt (Rs xs) (Bt s) k (q + 1) (Bt f, Bt t))⟩ :: []) ∧ m = (onceAt (Rs xs) (Bt s) k (q + 1) (Bt f, Bt t)).length) := by rw [e]; exact ⟨hS2, hm⟩
            clear hu e cA hS2 hm
            go_wp2_with (go_at_call 75; refine (HA.out _).mono ?_; rintro e w3 ⟨rfl, hw⟩; subst w3)
            go_roundw
            case rel => exact ⟨q + 1, m, by go_num, by omega, HR.out.1, HR.out.2, by omega, hB2⟩
            case measure => simp [intOf]; omega
        · obtain rfl : q = s.size := by omega
          have e := onceTo_succ (s := Bt s) (rs_at HX.out)
          rw [← Bt_size] at e
          have HR : Hid (Sep wr w.heap.size ([] ++ ⟨9, 1, u5, m, strs (onceTo (Rs xs) (Bt s) (k + 1))⟩ :: []) ∧ m = (onceTo (Rs xs) (Bt s) (k + 1)).length) := by rw [e]; exact ⟨Sep.tail hS2, hm⟩
          clear hS2 hm e
          go_wp2
          go_roundw
          case rel => exact ⟨k + 1, m, by go_num, by omega, HR.out.1, HR.out.2, by omega, hB2⟩
          case measure => simp [intOf]; omega
    · obtain rfl : k = xs.length := by omega
      go_wp2
      go_ret
      refine ⟨_, rfl, ?_, hB⟩
      have ho := one_sep hS
      have e : onceTo (Rs xs) (Bt s) xs.length = once (Rs xs) (Bt s) := by unfold onceTo; rw [List.take_of_length_le (by rw [Rs_length]; exact Nat.le_refl _)]
      rw [hn, e] at ho
      exact ho
end Go.Proofs.Ytpjhmminbndgiaa
