/- What the model tells of good code: its heights and what is dead, or a fault with its place. -/
import Derived.Test.YthkkhinmdlmhkaaDoorSep
namespace Go.Proofs.YthkkhinmdlmhkaaDoor
open Go.RowKit
set_option linter.unusedVariables false
set_option linter.unusedSimpArgs false
set_option maxRecDepth 100000

def nots (ds : List Bool) : List Bool := ds.map (!·)
theorem nots_snoc (ds : List Bool) (d : Bool) : nots (ds ++ [d]) = nots ds ++ [!d] := by simp [nots]
theorem nots_length (ds : List Bool) : (nots ds).length = ds.length := by simp [nots]
def baseL (o : List Frm) : List Int := o.dropLast.map Prod.fst
def deadL (o : List Frm) : List Bool := o.tail.map Prod.snd
/-- the rows that the model's walk keeps -/
abbrev rowsM (mb k : Nat) (at' : Int) (hv dv bv ev : Value) (o : List Frm) (hs : List Int) (ds : List Bool) : List OR :=
  [cellOR 51 4 mb [hv, dv, .int .i64 0, .int .i64 at'], ⟨3, 1, hv, hs.length, ints hs⟩, ⟨4, 1, dv, ds.length, bools ds⟩, ⟨3, 1, bv, k, ints (baseL o)⟩, ⟨4, 1, ev, k, bools (deadL o)⟩]
/-- what the rounds of the model's walk hold -/
def MK (xs : List Stp) (w0 wr : World) (B mb k : Nat) (t4 t5 t6 t7 t8 : Value) : Prop := ∃ (h : Int) (d : Bool) (at' : Int) (hv dv : Value) (o : List Frm) (hs : List Int) (ds : List Bool) (on : List Spn) (e dd : List Int),
  t4 = .int .i64 h ∧ t5 = .int .i64 (inn o).1 ∧ t6 = .bool d ∧ Sep wr B (rowsM mb on.length at' hv dv t7 t8 o hs ds) ∧ OkV o h ∧ hs.length = k ∧ ds.length = k ∧ o.length = on.length + 1 ∧ on.length ≤ 8 ∧ runN xs [] [] [] = runN (xs.drop k) on e dd ∧ walkV xs [(0, false)] 0 false [] [] = walkV (xs.drop k) o h d hs (nots ds) ∧ Below B w0 wr

/-- what l4Walk answers -/
def l4Ans (B : Nat) (w' : World) (n : Nat) (e : Ending) : WR → Prop
  | .bad c at' => ∃ ha hn hc da dn dc, e = .returned (.agg #[.slice ha hn hc, .slice da dn dc, .int .i64 c, .int .i64 at']) ∧ 1 ≤ c ∧ c ≤ 4
  | .fine hs rs => ∃ hv dv ds, e = .returned (.agg #[hv, dv, .int .i64 0, .int .i64 n]) ∧ rs = nots ds ∧ w'.ownsRow B 3 1 hv hs.length (ints hs) ∧ w'.ownsRow B 4 1 dv ds.length (bools ds) ∧ (hv.ownBlock = none ∨ hv.ownBlock ≠ dv.ownBlock)

theorem l4Ans_bad {B : Nat} {w' : World} {n c k : Nat} {R : WR} {ha da : Option Addr} {hn hc dn dc : Nat} (h : R = .bad c k) (h1 : 1 ≤ c) (h4 : c ≤ 4) : l4Ans B w' n (.returned (.agg #[.slice ha hn hc, .slice da dn dc, .int .i64 c, .int .i64 k])) R := by
  subst h
  exact ⟨_, _, _, _, _, _, rfl, h1, h4⟩
theorem l4Ans_fine {B : Nat} {w' : World} {n : Nat} {R : WR} {hs : List Int} {rs ds : List Bool} {hv dv : Value} (h : R = .fine hs rs) (hr : rs = nots ds) (h1 : w'.ownsRow B 3 1 hv hs.length (ints hs)) (h2 : w'.ownsRow B 4 1 dv ds.length (bools ds)) (h3 : hv.ownBlock = none ∨ hv.ownBlock ≠ dv.ownBlock) : l4Ans B w' n (.returned (.agg #[hv, dv, .int .i64 0, .int .i64 n])) R := by
  subst h
  exact ⟨hv, dv, ds, rfl, hr, h1, h2, h3⟩
theorem baseL_snoc {o : List Frm} (f : Frm) (h : 0 < o.length) : baseL (o ++ [f]) = baseL o ++ [(inn o).1] := by
  unfold baseL
  rw [List.dropLast_concat]
  conv => lhs; rw [inn_split h]
  simp
theorem deadL_snoc {o : List Frm} (f : Frm) (h : 0 < o.length) : deadL (o ++ [f]) = deadL o ++ [f.2] := by
  unfold deadL
  cases o with
  | nil => simp at h
  | cons a r => simp
theorem baseL_length (o : List Frm) : (baseL o).length = o.length - 1 := by simp [baseL]
theorem deadL_length (o : List Frm) : (deadL o).length = o.length - 1 := by simp [deadL]
theorem baseL_drop {o : List Frm} {m : Nat} (h : o.length = m + 2) : baseL o = baseL o.dropLast ++ [(inn o.dropLast).1] := by
  have h1 := inn_split (o := o) (by omega)
  conv => lhs; rw [h1]
  exact baseL_snoc _ (by simp; omega)
theorem deadL_drop {o : List Frm} {m : Nat} (h : o.length = m + 2) : deadL o = deadL o.dropLast ++ [(inn o).2] := by
  have h1 := inn_split (o := o) (by omega)
  conv => lhs; rw [h1]
  exact deadL_snoc _ (by simp; omega)
theorem baseL_last {o : List Frm} {m : Nat} (h : o.length = m + 2) : (ints (baseL o))[m]? = some (.int .i64 (inn o.dropLast).1) := by
  have hl : (baseL o.dropLast).length = m := by rw [baseL_length]; simp; omega
  rw [baseL_drop h, ints_append, List.getElem?_append_right (by simp [ints]; omega)]
  simp [ints, hl]
theorem deadL_last {o : List Frm} {m : Nat} (h : o.length = m + 2) : (bools (deadL o))[m]? = some (.bool (inn o).2) := by
  have hl : (deadL o.dropLast).length = m := by rw [deadL_length]; simp; omega
  rw [deadL_drop h, bools_append, List.getElem?_append_right (by simp [bools]; omega)]
  simp [bools, hl]
theorem baseL_take {o : List Frm} {m : Nat} (h : o.length = m + 2) : (ints (baseL o)).take (m * 1) = ints (baseL o.dropLast) := by
  have hl : (baseL o.dropLast).length = m := by rw [baseL_length]; simp; omega
  rw [baseL_drop h, ints_append, List.take_append_of_le_length (by simp [ints]; omega), List.take_of_length_le (by simp [ints]; omega)]
theorem deadL_take {o : List Frm} {m : Nat} (h : o.length = m + 2) : (bools (deadL o)).take (m * 1) = bools (deadL o.dropLast) := by
  have hl : (deadL o.dropLast).length = m := by rw [deadL_length]; simp; omega
  rw [deadL_drop h, bools_append, List.take_append_of_le_length (by simp [bools]; omega), List.take_of_length_le (by simp [bools]; omega)]
theorem own_some {w : World} {B n c : Nat} {e : TypeId} {size : Nat} {a : Option Addr} {xs : List Value} (h : w.ownsRow B e size (.slice a n c) n xs) (hn : 0 < n) : ∃ g, a = some ⟨g, 0, none⟩ := by
  rcases h.2 with ⟨h0, h1⟩ | ⟨g, cap, cur, he, _⟩
  · omega
  · injection he with e1; exact ⟨g, e1⟩
theorem own_caps {w : World} {B n c g : Nat} {e : TypeId} {size : Nat} {xs : List Value} (h : w.ownsRow B e size (.slice (some ⟨g, 0, none⟩) n c) n xs) : n ≤ c ∧ c ≤ 9223372036854775807 := by
  rcases h.2 with ⟨h0, _⟩ | ⟨g', cap, cur, he, _, _, h1, h2, _⟩
  · cases h0
  · injection he with e1 e2 e3
    subst e3
    exact ⟨h1, by unfold maxLen at h2; omega⟩
theorem stp_else_pos {x : Stp} {o o' : List Spn} {e e' : List Int} (h : stp x o e = some (o', e')) (h18 : x.1 = 18) : 1 ≤ o.length := by
  cases stp_went h with
  | push ho h8 => rw [h18] at ho; simp [opensB] at ho
  | turn s ho h hl => have := congrArg List.length (last_split hl); simp at this; omega
  | shut p s t ho h hl => omega
  | plain ho hp hq => exact absurd h18 hp
theorem rows_more {W : World} {B mb k : Nat} {a' h : Int} {d : Bool} {hv dv bv ev : Value} {o : List Frm} {hs : List Int} {ds : List Bool} (q : Sep W B [cellOR 51 4 mb [hv, dv, .int .i64 0, .int .i64 a'], ⟨3, 1, hv, hs.length + 1, ints hs ++ [.int .i64 h]⟩, ⟨4, 1, dv, ds.length + 1, bools ds ++ [.bool d]⟩, ⟨3, 1, bv, k, ints (baseL o)⟩, ⟨4, 1, ev, k, bools (deadL o)⟩]) : Sep W B (rowsM mb k a' hv dv bv ev o (hs ++ [h]) (ds ++ [d])) := by
  have e1 : ints (hs ++ [h]) = ints hs ++ [.int .i64 h] := by simp [ints]
  have e2 : bools (ds ++ [d]) = bools ds ++ [.bool d] := by simp [bools]
  unfold rowsM
  rw [e1, e2, List.length_append, List.length_append]
  exact q
theorem rows_push {W : World} {B k k' : Nat} {x b : Int} {d : Bool} {bv ev : Value} {o : List Frm} {r1 r2 r3 : OR} (q : Sep W B [r1, r2, r3, ⟨3, 1, bv, k + 1, ints (baseL o) ++ [.int .i64 b]⟩, ⟨4, 1, ev, k + 1, bools (deadL o) ++ [.bool d]⟩]) (h0 : 0 < o.length) (hb : (inn o).1 = b) (hk : k' = k + 1) : Sep W B [r1, r2, r3, ⟨3, 1, bv, k', ints (baseL (o ++ [(x, d)]))⟩, ⟨4, 1, ev, k', bools (deadL (o ++ [(x, d)]))⟩] := by
  rw [baseL_snoc _ h0, deadL_snoc _ h0, hb, ints_append, bools_append, hk]
  exact q
theorem rows_cut {W : World} {B m n gb ge bc ec : Nat} {o : List Frm} {r1 r2 r3 : OR} (q : Sep W B [r1, r2, r3, ⟨3, 1, .slice (some ⟨gb, 0, none⟩) n bc, n, ints (baseL o)⟩, ⟨4, 1, .slice (some ⟨ge, 0, none⟩) n ec, n, bools (deadL o)⟩]) (hn : n = m + 1) (ho : o.length = m + 2) : Sep W B [r1, r2, r3, ⟨3, 1, .slice (some ⟨gb, 0, none⟩) m bc, m, ints (baseL o.dropLast)⟩, ⟨4, 1, .slice (some ⟨ge, 0, none⟩) m ec, m, bools (deadL o.dropLast)⟩] := by
  have q1 := q.cut [_, _, _] (m := m) (by omega)
  have q2 := q1.cut [_, _, _, _] (m := m) (by omega)
  rw [baseL_take ho, deadL_take ho] at q2
  exact q2

theorem below_set4 {B : Nat} {a w : World} (h : Below B a w) (g : Nat) (hg : B ≤ g) (u0 u1 u2 u3 : Value) : Below B a ((((w.setCell ⟨g, 0, none⟩ u0).setCell ⟨g, 1, none⟩ u1).setCell ⟨g, 2, none⟩ u2).setCell ⟨g, 3, none⟩ u3) :=
  (((h.setCell (p := ⟨g, 0, none⟩) hg u0).setCell (p := ⟨g, 1, none⟩) hg u1).setCell (p := ⟨g, 2, none⟩) hg u2).setCell (p := ⟨g, 3, none⟩) hg u3
theorem own_set4 {w : World} {B n : Nat} {e : TypeId} {size : Nat} {v : Value} {xs : List Value} (h : w.ownsRow B e size v n xs) {g : Nat} (hg : g < B) (u0 u1 u2 u3 : Value) : ((((w.setCell ⟨g, 0, none⟩ u0).setCell ⟨g, 1, none⟩ u1).setCell ⟨g, 2, none⟩ u2).setCell ⟨g, 3, none⟩ u3).ownsRow B e size v n xs :=
  ownsRow_setCell_below (ownsRow_setCell_below (ownsRow_setCell_below (ownsRow_setCell_below h (by simpa using hg) _) (by simpa using hg) _) (by simpa using hg) _) (by simpa using hg) _

set_option maxHeartbeats 16000000 in
/-- the model's l4Walk at good code -/
theorem l4Walk_good (a : Option Addr) (c : Nat) (xs : List Stp) (w : World) (h : TRow w a xs) (hg : goodS xs = true) :
    Calls Tryd.prog 38 #[.slice a xs.length c] w fun e w' => l4Ans w.heap.size w' xs.length e (validR xs) ∧ Below w.heap.size w w' := by
  have h60 := goodS_len hg
  obtain ⟨i3, hi3, hz30, hz31, hz32⟩ := info_parts info3
  obtain ⟨i4, hi4, hz40, hz41, hz42⟩ := info_parts info4
  generalize hR : validR xs = R
  have HRV : Hid (walkV xs [(0, false)] 0 false [] [] = R) := by show _ = _; rw [← validR_good hg]; exact hR
  clear hR
  have HGD : Hid (goodS xs = true) := hg
  have H : Hid (TRow w a xs) := h
  clear h hg
  have HW0 : Hid (∀ W, Below (w.heap.size + 1) (w.alloc (.cells #[.slice none 0 0, .slice none 0 0, .int .i64 0, .int .i64 0] 51)) W → (Below w.heap.size w W ∧ w.heap.size + 1 ≤ W.heap.size) ∧ (W.cell? ⟨w.heap.size, 0, none⟩ = some (.slice none 0 0) ∧ W.cell? ⟨w.heap.size, 1, none⟩ = some (.slice none 0 0) ∧ W.cell? ⟨w.heap.size, 2, none⟩ = some (.int .i64 0) ∧ W.cell? ⟨w.heap.size, 3, none⟩ = some (.int .i64 0)) ∧ (W.frozen? ⟨w.heap.size, 0, none⟩ = false ∧ W.frozen? ⟨w.heap.size, 1, none⟩ = false ∧ W.frozen? ⟨w.heap.size, 2, none⟩ = false ∧ W.frozen? ⟨w.heap.size, 3, none⟩ = false)) := by
    intro W hb
    have hs0 := size_alloc1 w (.cells #[.slice none 0 0, .slice none 0 0, .int .i64 0, .int .i64 0] 51)
    have hc : ∀ j, W.cell? ⟨w.heap.size, j, none⟩ = (w.alloc (.cells #[.slice none 0 0, .slice none 0 0, .int .i64 0, .int .i64 0] 51)).cell? ⟨w.heap.size, j, none⟩ := fun j => hb.cell (p := ⟨w.heap.size, j, none⟩) (by simp)
    have hf : ∀ j, W.frozen? ⟨w.heap.size, j, none⟩ = (w.alloc (.cells #[.slice none 0 0, .slice none 0 0, .int .i64 0, .int .i64 0] 51)).frozen? ⟨w.heap.size, j, none⟩ := fun j => hb.frozen (p := ⟨w.heap.size, j, none⟩) (by simp)
    refine ⟨⟨(below1 w _).trans (hb.mono (by omega)), by have := hb.size; rw [hs0] at this; exact this⟩, ⟨?_, ?_, ?_, ?_⟩, ?_, ?_, ?_, ?_⟩
    all_goals first | (rw [hc]; simp [go_sem]; done) | (rw [hf]; simp [go_sem]; done)
  have HST : Hid (MK xs (w.alloc (.cells #[.slice none 0 0, .slice none 0 0, .int .i64 0, .int .i64 0] 51)) ((w.alloc (.cells #[.slice none 0 0, .slice none 0 0, .int .i64 0, .int .i64 0] 51)).alloc (.cells #[.slice none 0 0, .slice none 0 0, .int .i64 0, .int .i64 0] 51)) (w.heap.size + 1) (w.heap.size + 1) 0 (.int .i64 0) (.int .i64 0) (.bool false) (.slice none 0 0) (.slice none 0 0)) := by
    refine ⟨0, false, 0, .slice none 0 0, .slice none 0 0, [(0, false)], [], [], [], [], [], rfl, rfl, rfl, ?_, OkV.start, rfl, rfl, rfl, by simp, rfl, rfl, (Below.refl _ _).alloc (by simp) _⟩
    refine ⟨?_, by simp [apt, Value.ownBlock]⟩
    have hh := heap_alloc_new (w.alloc (.cells #[.slice none 0 0, .slice none 0 0, .int .i64 0, .int .i64 0] 51)) (.cells #[.slice none 0 0, .slice none 0 0, .int .i64 0, .int .i64 0] 51)
    rw [size_alloc1] at hh
    have hn : ∀ e, World.ownsRow ((w.alloc (.cells #[.slice none 0 0, .slice none 0 0, .int .i64 0, .int .i64 0] 51)).alloc (.cells #[.slice none 0 0, .slice none 0 0, .int .i64 0, .int .i64 0] 51)) (w.heap.size + 1) e 1 (.slice none 0 0) 0 [] := fun e => World.ownsRow_nil _ _ _ _
    intro x hx
    simp only [List.mem_cons, List.not_mem_nil, or_false] at hx
    rcases hx with rfl | rfl | rfl | rfl | rfl
    · exact cell_own hh rfl (Nat.le_refl _)
    · exact hn 3
    · exact hn 4
    · exact hn 3
    · exact hn 4
  generalize hw0 : w.alloc (.cells #[.slice none 0 0, .slice none 0 0, .int .i64 0, .int .i64 0] 51) = w0 at HW0 HST
  have HW0E : Hid (w.alloc (.cells #[.slice none 0 0, .slice none 0 0, .int .i64 0, .int .i64 0] 51) = w0) := hw0
  clear hw0
  go_enter Tryd.func38, Tryd.ntmps38
  go_wp2
  go_loopw [4, 5, 6, 7, 8, 17] (fun t4 t5 t6 t7 t8 t17 wr => ∃ (k : Nat), t17 = .int .i64 k ∧ k ≤ xs.length ∧ MK xs w0 wr (w.heap.size + 1) (w.heap.size + 1) k t4 t5 t6 t7 t8) (fun _ _ _ _ _ t17 _ => xs.length - (intOf t17).toNat)
  case atStart => exact ⟨0, rfl, by omega, by rw [HW0E.out]; exact HST.out⟩
  case round =>
    obtain ⟨mb, hmb⟩ : ∃ mb, w.heap.size + 1 = mb := ⟨_, rfl⟩
    obtain ⟨k, rfl, hk, h, d, at', hv, dv, o, hs, ds, on, en, dd, rfl, rfl, rfl, hsep, hok, hhs, hds, hol, h8, hrun, hwalk, hB⟩ := hrel
    rw [hmb] at hsep hB HW0 ⊢
    have hmw : ¬ w.heap.size = mb := by omega
    have hmw' : ¬ mb = w.heap.size := by omega
    clear HST HW0E
    have HRun : Hid (runN xs [] [] [] = runN (xs.drop k) on en dd) := hrun
    have HWk : Hid (walkV xs [(0, false)] 0 false [] [] = walkV (xs.drop k) o h d hs (nots ds)) := hwalk
    have HOK : Hid (OkV o h) := hok
    have HL : Hid (hs.length = k ∧ ds.length = k) := ⟨hhs, hds⟩
    have HON : Hid (o.length = on.length + 1 ∧ on.length ≤ 8) := ⟨hol, h8⟩
    have hmbB := (hsep.size (x := cellOR 51 4 mb [hv, dv, .int .i64 0, .int .i64 at']) (by simp) rfl).2
    have hhown : wr.ownsRow mb 3 1 hv hs.length (ints hs) := hsep.1 ⟨3, 1, hv, hs.length, ints hs⟩ (by simp)
    have hdown : wr.ownsRow mb 4 1 dv ds.length (bools ds) := hsep.1 ⟨4, 1, dv, ds.length, bools ds⟩ (by simp)
    have hbown : wr.ownsRow mb 3 1 u7 on.length (ints (baseL o)) := hsep.1 ⟨3, 1, u7, on.length, ints (baseL o)⟩ (by simp)
    have heown : wr.ownsRow mb 4 1 u8 on.length (bools (deadL o)) := hsep.1 ⟨4, 1, u8, on.length, bools (deadL o)⟩ (by simp)
    obtain ⟨ha, hc, rfl⟩ := slice_of_owned hhown
    obtain ⟨da, dc, rfl⟩ := slice_of_owned hdown
    obtain ⟨ba, bc, rfl⟩ := slice_of_owned hbown
    obtain ⟨ea, ec, rfl⟩ := slice_of_owned heown
    have HSE : Hid (Sep wr mb [cellOR 51 4 mb [.slice ha hs.length hc, .slice da ds.length dc, .int .i64 0, .int .i64 at'], ⟨3, 1, .slice ha hs.length hc, hs.length, ints hs⟩, ⟨4, 1, .slice da ds.length dc, ds.length, bools ds⟩, ⟨3, 1, .slice ba on.length bc, on.length, ints (baseL o)⟩, ⟨4, 1, .slice ea on.length ec, on.length, bools (deadL o)⟩]) := hsep
    have HHB : Hid (Below mb w0 wr) := hB
    have hwB := (HW0.out wr hB).1.2
    have n0 := hsep.cell (x := cellOR 51 4 mb [.slice ha hs.length hc, .slice da ds.length dc, .int .i64 0, .int .i64 at']) (by simp) rfl (j := 0) rfl
    clear hrun hwalk hok hhs hds hol h8 hsep hB hdown hbown heown
    by_cases hlt : k < xs.length
    · obtain ⟨b, off, rfl, hat⟩ := H.out.at (by intro h0; rw [h0] at hlt; simp at hlt)
      obtain ⟨p, n, t, ta, tc, c1, c2, c3, hbw, htl, HR, HX⟩ := hat wr (HW0.out wr HHB.out).1.1 k hlt
      obtain ⟨on', en', hstp, hrun'⟩ := good_step HGD.out HRun.out HX.out
      have HD : Hid (xs.drop k = (p, n, t) :: xs.drop (k + 1)) := by
        obtain ⟨hk', he⟩ := List.getElem?_eq_some_iff.1 HX.out
        show _ = _
        rw [← he]; exact List.drop_eq_getElem_cons hk'
      have HS' : Hid (stp (p, n, t) on en = some (on', en') ∧ runN xs [] [] [] = runN (xs.drop (k + 1)) on' en' (dd ++ [(on.length : Int)])) := ⟨hstp, hrun'⟩
      clear hstp hrun' hat
      have hbr : b < wr.heap.size := Nat.lt_of_lt_of_le hbw (HW0.out wr HHB.out).1.1.size
      generalize hib : (inn o).1 = bs
      have HIB : Hid ((inn o).1 = bs) := hib
      clear hib
      go_wp2_with (at_builtin; refine wpList_append_lies _ rfl _ _ 23 rfl mb 3 i3 (.int .i64 0) 1 8 Tryd.underlying23 hi3 hz30 hz31 hz32 rfl (by decide) _ _ _ rfl ((hhown.alloc _).alloc _) ⟨wr.heap.size + 1, 0, none⟩ 1 1 [.int .i64 h] rfl rfl (news_at1 wr _ _ 3) (by simp [Value.oneCell']) (by decide) (by rw [HL.out.1]; unfold maxLen; omega) (by rw [HL.out.1]; omega) (by simp; omega) (wr.heap.size + 1 + 1) (by simp) ?_)
      intro g2 cap2 w2 hown2 hgrow2 hat2 hlt2
      have hnr : some wr.heap.size ≠ (Value.slice ha hs.length hc).ownBlock := fun e => by have := (hhown.lt wr.heap.size e.symm).2; omega
      have s0 : w2.cell? ⟨wr.heap.size, 0, none⟩ = some (.int .i64 p) := by rw [hgrow2.cell_far _ (by simp <;> omega) hnr]; simp [go_sem]
      have hsz2 : wr.heap.size + 2 ≤ w2.heap.size := by have := hgrow2.size; simp at this; omega
      have q1 := HSE.out.grow [_] (below2 wr _ _) hown2 hgrow2 hat2 (by omega) hwB
      have m0 := q1.1.cell (x := cellOR 51 4 mb [.slice ha hs.length hc, .slice da ds.length dc, .int .i64 0, .int .i64 at']) (by simp) rfl (j := 0) rfl
      have m1 := q1.1.cell (x := cellOR 51 4 mb [.slice ha hs.length hc, .slice da ds.length dc, .int .i64 0, .int .i64 at']) (by simp) rfl (j := 1) rfl
      have f0 := q1.1.frozen (x := cellOR 51 4 mb [.slice ha hs.length hc, .slice da ds.length dc, .int .i64 0, .int .i64 at']) (by simp) rfl 0
      have q1p := q1.1.put [] 0 (.slice (some ⟨g2, 0, none⟩) (hs.length + 1) cap2)
      have HQ1 : Hid (Sep (w2.setCell ⟨mb, 0, none⟩ (.slice (some ⟨g2, 0, none⟩) (hs.length + 1) cap2)) mb [cellOR 51 4 mb [.slice (some ⟨g2, 0, none⟩) (hs.length + 1) cap2, .slice da ds.length dc, .int .i64 0, .int .i64 at'], ⟨3, 1, .slice (some ⟨g2, 0, none⟩) (hs.length + 1) cap2, hs.length + 1, ints hs ++ [.int .i64 h]⟩, ⟨4, 1, .slice da ds.length dc, ds.length, bools ds⟩, ⟨3, 1, .slice ba on.length bc, on.length, ints (baseL o)⟩, ⟨4, 1, .slice ea on.length ec, on.length, bools (deadL o)⟩] ∧ Below mb wr (w2.setCell ⟨mb, 0, none⟩ (.slice (some ⟨g2, 0, none⟩) (hs.length + 1) cap2))) := ⟨q1p.1, q1.2.trans q1p.2⟩
      have hdown : (w2.setCell ⟨mb, 0, none⟩ (.slice (some ⟨g2, 0, none⟩) (hs.length + 1) cap2)).ownsRow mb 4 1 (.slice da ds.length dc) ds.length (bools ds) := HQ1.out.1.1 ⟨4, 1, .slice da ds.length dc, ds.length, bools ds⟩ (by simp)
      have e7 : ¬ wr.heap.size = mb := by omega
      have e8 : ¬ mb = wr.heap.size := by omega
      clear q1 q1p hown2 hgrow2 hat2 hlt2 hnr hhown n0 c1 c2 c3
      go_wp2_with (at_builtin; refine wpList_append_lies _ rfl _ _ 49 rfl mb 4 i4 (.bool false) 1 1 Tryd.underlying49 hi4 hz40 hz41 hz42 rfl (by decide) _ _ _ rfl (hdown.alloc _) ⟨w2.heap.size, 0, none⟩ 1 1 [.bool d] rfl rfl (news_set0 w2 _ _ _ _ 4) (by simp [Value.oneCell']) (by decide) (by rw [HL.out.2]; unfold maxLen; omega) (by rw [HL.out.2]; omega) (by simp; omega) (w2.heap.size + 1) (by simp) ?_)
      intro g3 cap3 w3 hown3 hgrow3 hat3 hlt3
      have hnr : some wr.heap.size ≠ (Value.slice da ds.length dc).ownBlock := fun e => by have := ((HSE.out.1 ⟨4, 1, .slice da ds.length dc, ds.length, bools ds⟩ (by simp)).lt wr.heap.size e.symm).2; omega
      have hsz3 : w2.heap.size + 1 ≤ w3.heap.size := by have := hgrow3.size; simp at this; omega
      have r0 : w3.cell? ⟨wr.heap.size, 0, none⟩ = some (.int .i64 p) := by rw [hgrow3.cell_far _ (by simp <;> omega) hnr, (below1 _ _).cell (by simp <;> omega)]; simp [go_sem, e7, e8, s0]
      have q2 := HQ1.out.1.grow [_, _] (below1 _ _) hown3 hgrow3 hat3 (by simp) (by simp; omega)
      have l1 := q2.1.cell (x := cellOR 51 4 mb [.slice (some ⟨g2, 0, none⟩) (hs.length + 1) cap2, .slice da ds.length dc, .int .i64 0, .int .i64 at']) (by simp) rfl (j := 1) rfl
      have l3 := q2.1.cell (x := cellOR 51 4 mb [.slice (some ⟨g2, 0, none⟩) (hs.length + 1) cap2, .slice da ds.length dc, .int .i64 0, .int .i64 at']) (by simp) rfl (j := 3) rfl
      have y1 := q2.1.frozen (x := cellOR 51 4 mb [.slice (some ⟨g2, 0, none⟩) (hs.length + 1) cap2, .slice da ds.length dc, .int .i64 0, .int .i64 at']) (by simp) rfl 1
      have y3 := q2.1.frozen (x := cellOR 51 4 mb [.slice (some ⟨g2, 0, none⟩) (hs.length + 1) cap2, .slice da ds.length dc, .int .i64 0, .int .i64 at']) (by simp) rfl 3
      have q3 := q2.1.put [] 1 (.slice (some ⟨g3, 0, none⟩) (ds.length + 1) cap3)
      have q4 := q3.1.put [] 3 (.int .i64 k)
      have HQ4 : Hid (Sep ((w3.setCell ⟨mb, 1, none⟩ (.slice (some ⟨g3, 0, none⟩) (ds.length + 1) cap3)).setCell ⟨mb, 3, none⟩ (.int .i64 k)) mb [cellOR 51 4 mb [.slice (some ⟨g2, 0, none⟩) (hs.length + 1) cap2, .slice (some ⟨g3, 0, none⟩) (ds.length + 1) cap3, .int .i64 0, .int .i64 k], ⟨3, 1, .slice (some ⟨g2, 0, none⟩) (hs.length + 1) cap2, hs.length + 1, ints hs ++ [.int .i64 h]⟩, ⟨4, 1, .slice (some ⟨g3, 0, none⟩) (ds.length + 1) cap3, ds.length + 1, bools ds ++ [.bool d]⟩, ⟨3, 1, .slice ba on.length bc, on.length, ints (baseL o)⟩, ⟨4, 1, .slice ea on.length ec, on.length, bools (deadL o)⟩] ∧ Below mb w0 ((w3.setCell ⟨mb, 1, none⟩ (.slice (some ⟨g3, 0, none⟩) (ds.length + 1) cap3)).setCell ⟨mb, 3, none⟩ (.int .i64 k))) := ⟨q4.1, ((HHB.out.trans HQ1.out.2).trans q2.2).trans (q3.2.trans q4.2)⟩
      have HP0 : Hid (((w3.setCell ⟨mb, 1, none⟩ (.slice (some ⟨g3, 0, none⟩) (ds.length + 1) cap3)).setCell ⟨mb, 3, none⟩ (.int .i64 k)).cell? ⟨wr.heap.size, 0, none⟩ = some (.int .i64 p)) := by show _ = _; simp [go_sem, e7, e8, r0]
      clear q2 q3 q4 hown3 hgrow3 hat3 hlt3 hnr hdown m0 m1 f0 s0 HQ1
      go_wp2_with fail
      refine (l4Needs_any p _).mono ?_
      rintro e w4 ⟨rfl, hw4⟩
      have HQ : Hid (Sep w4 mb [cellOR 51 4 mb [.slice (some ⟨g2, 0, none⟩) (hs.length + 1) cap2, .slice (some ⟨g3, 0, none⟩) (ds.length + 1) cap3, .int .i64 0, .int .i64 k], ⟨3, 1, .slice (some ⟨g2, 0, none⟩) (hs.length + 1) cap2, hs.length + 1, ints hs ++ [.int .i64 h]⟩, ⟨4, 1, .slice (some ⟨g3, 0, none⟩) (ds.length + 1) cap3, ds.length + 1, bools ds ++ [.bool d]⟩, ⟨3, 1, .slice ba on.length bc, on.length, ints (baseL o)⟩, ⟨4, 1, .slice ea on.length ec, on.length, bools (deadL o)⟩] ∧ Below mb w0 w4) := by
        have := HQ4.out
        rw [← hw4] at this
        exact this
      have r4 : w4.cell? ⟨wr.heap.size, 0, none⟩ = some (.int .i64 p) := by
        have := HP0.out
        rw [← hw4] at this
        exact this
      clear hw4 HQ4 HP0 r0 l1 l3 y1 y3
      obtain ⟨f0, f2⟩ := off_range p
      obtain ⟨j0, j1⟩ := on_range p
      have hb0 := HOK.out.base
      have hlo := HOK.out.low
      have hhi := HOK.out.high
      rw [HIB.out] at hb0 hlo
      have HV : Hid (vstp p o h d = if (decide (h - offN p < bs) && !d) = true then .bad 2 else if 4 < (if h - offN p < bs then bs else h - offN p) + onN p then .bad 4 else vlead p o ((if h - offN p < bs then bs else h - offN p) + onN p) d) := by
        show _ = _
        unfold vstp takeH
        rw [HIB.out]
      generalize offN p = f at *
      generalize onN p = j at *
      have hdep := stp_dep HS'.out.1
      have HDP : Hid (on'.length + 1 = depO p (on.length + 1) ∧ (p = 19 → 1 ≤ on.length)) := hdep
      clear hdep
      obtain ⟨-, ⟨x0, x1, x2, x3⟩, z0, z1, z2, z3⟩ := HW0.out w4 HQ.out.2
      have n0 := HQ.out.1.cell (x := cellOR 51 4 mb [.slice (some ⟨g2, 0, none⟩) (hs.length + 1) cap2, .slice (some ⟨g3, 0, none⟩) (ds.length + 1) cap3, .int .i64 0, .int .i64 k]) (by simp) rfl (j := 0) rfl
      have n1 := HQ.out.1.cell (x := cellOR 51 4 mb [.slice (some ⟨g2, 0, none⟩) (hs.length + 1) cap2, .slice (some ⟨g3, 0, none⟩) (ds.length + 1) cap3, .int .i64 0, .int .i64 k]) (by simp) rfl (j := 1) rfl
      have n2 := HQ.out.1.cell (x := cellOR 51 4 mb [.slice (some ⟨g2, 0, none⟩) (hs.length + 1) cap2, .slice (some ⟨g3, 0, none⟩) (ds.length + 1) cap3, .int .i64 0, .int .i64 k]) (by simp) rfl (j := 2) rfl
      have n3 := HQ.out.1.cell (x := cellOR 51 4 mb [.slice (some ⟨g2, 0, none⟩) (hs.length + 1) cap2, .slice (some ⟨g3, 0, none⟩) (ds.length + 1) cap3, .int .i64 0, .int .i64 k]) (by simp) rfl (j := 3) rfl
      have z2' := HQ.out.1.frozen (x := cellOR 51 4 mb [.slice (some ⟨g2, 0, none⟩) (hs.length + 1) cap2, .slice (some ⟨g3, 0, none⟩) (ds.length + 1) cap3, .int .i64 0, .int .i64 k]) (by simp) rfl 2
      have hw4B := (HW0.out w4 HQ.out.2).1.2
      have HBX : Hid (Below w.heap.size w w4) := (HW0.out w4 HQ.out.2).1.1
      by_cases hl : h - f < bs
      · cases d with
        | false =>
          have HVB : Hid (vstp p o h false = .bad 2) := by show _ = _; rw [HV.out, if_pos (by simp [hl])]
          clear HV
          have HRB : Hid (R = .bad 2 k) := by show _ = _; rw [← HRV.out, HWk.out, HD.out, walkV_bad (x := (_, n, t)) HVB.out, HL.out.1]
          clear HVB
          go_wp2
          refine bodyPost_ret (v := .agg #[.slice (some ⟨g2, 0, none⟩) (hs.length + 1) cap2, .slice (some ⟨g3, 0, none⟩) (ds.length + 1) cap3, .int .i64 2, .int .i64 k]) (res_block (cs := [.slice (some ⟨g2, 0, none⟩) (hs.length + 1) cap2, .slice (some ⟨g3, 0, none⟩) (ds.length + 1) cap3, .int .i64 2, .int .i64 k]) Tryd.results38 _ _ w.heap.size rfl (agg118 _) (size118 _) (set4_cells _ _ _ _ _ _ _ _ _ _ (set_far x0 hmw') (set_far x1 hmw') (set_far x2 hmw') (set_far x3 hmw'))) rfl ⟨l4Ans_bad (c := 2) HRB.out (by omega) (by omega), below_set4 (HBX.out.setCell (p := ⟨mb, 2, none⟩) (show w.heap.size ≤ mb by omega) _) _ (Nat.le_refl _) _ _ _ _⟩
        | true =>
          have HV2 : Hid (vstp p o h true = if 4 < bs + j then .bad 4 else vlead p o (bs + j) true) := by
            have := HV.out
            rw [if_neg (by simp)] at this
            rw [if_pos hl] at this
            exact this
          clear HV
          by_cases h4 : 4 < bs + j
          · have HVB : Hid (vstp p o h true = .bad 4) := by show _ = _; rw [HV2.out, if_pos h4]
            clear HV2
            have HRB : Hid (R = .bad 4 k) := by show _ = _; rw [← HRV.out, HWk.out, HD.out, walkV_bad (x := (_, n, t)) HVB.out, HL.out.1]
            clear HVB
            go_wp2
            refine bodyPost_ret (v := .agg #[.slice (some ⟨g2, 0, none⟩) (hs.length + 1) cap2, .slice (some ⟨g3, 0, none⟩) (ds.length + 1) cap3, .int .i64 4, .int .i64 k]) (res_block (cs := [.slice (some ⟨g2, 0, none⟩) (hs.length + 1) cap2, .slice (some ⟨g3, 0, none⟩) (ds.length + 1) cap3, .int .i64 4, .int .i64 k]) Tryd.results38 _ _ w.heap.size rfl (agg118 _) (size118 _) (set4_cells _ _ _ _ _ _ _ _ _ _ (set_far x0 hmw') (set_far x1 hmw') (set_far x2 hmw') (set_far x3 hmw'))) rfl ⟨l4Ans_bad (c := 4) HRB.out (by omega) (by omega), below_set4 (HBX.out.setCell (p := ⟨mb, 2, none⟩) (show w.heap.size ≤ mb by omega) _) _ (Nat.le_refl _) _ _ _ _⟩
          · have HV3 : Hid (vstp p o h true = vlead p o (bs + j) true) := by show _ = _; rw [HV2.out, if_neg h4]
            clear HV2
            cases ho : opensB p with
            | true =>
              have HVG : Hid (vstp p o h true = .go (o ++ [(bs + j, true)]) (bs + j) true) := by
                show _ = _
                have h1 : ¬ (p = 14 ∨ p = 20 ∨ p = 22) := by simp [opensB] at ho; omega
                rw [HV3.out]; unfold vlead; rw [if_neg h1, if_pos ho]
              have hop := fun w => l3Opens_any p w
              rw [ho] at hop
              have HOP : Hid (opensB p = true) := ho
              clear HV3 ho
              have hbown : w4.ownsRow mb 3 1 (.slice ba on.length bc) on.length (ints (baseL o)) := HQ.out.1.1 ⟨3, 1, .slice ba on.length bc, on.length, ints (baseL o)⟩ (by simp)
              go_wp2_with (first | (go_at_call 51; refine (hop _).mono ?_; rintro e w' ⟨rfl, hw'⟩; subst w') | (at_builtin; refine wpList_append_lies _ rfl _ _ 23 rfl mb 3 i3 (.int .i64 0) 1 8 Tryd.underlying23 hi3 hz30 hz31 hz32 rfl (by decide) _ _ _ rfl (hbown.alloc _) ⟨w4.heap.size, 0, none⟩ 1 1 [.int .i64 bs] rfl rfl (news_at0 w4 _ 3) (by simp [Value.oneCell']) (by decide) (by have := HON.out; unfold maxLen; omega) (by have := HON.out; omega) (by simp; omega) (w4.heap.size + 1) (by simp) ?_))
              intro g5 cap5 w5 hown5 hgrow5 hat5 hlt5
              have q5 := HQ.out.1.grow [_, _, _] (below1 w4 _) hown5 hgrow5 hat5 (by omega) hw4B
              have HQ5 : Hid (_) := q5
              have hsz5 : w4.heap.size + 1 ≤ w5.heap.size := by have := hgrow5.size; simp at this; omega
              have heown : w5.ownsRow mb 4 1 (.slice ea on.length ec) on.length (bools (deadL o)) := q5.1.1 ⟨4, 1, .slice ea on.length ec, on.length, bools (deadL o)⟩ (by simp)
              clear hown5 hgrow5 hat5 hlt5 q5 hbown
              go_wp2_with (at_builtin; refine wpList_append_lies _ rfl _ _ 49 rfl mb 4 i4 (.bool false) 1 1 Tryd.underlying49 hi4 hz40 hz41 hz42 rfl (by decide) _ _ _ rfl (heown.alloc _) ⟨w5.heap.size, 0, none⟩ 1 1 [.bool true] rfl rfl (news_at0 w5 _ 4) (by simp [Value.oneCell']) (by decide) (by have := HON.out; unfold maxLen; omega) (by have := HON.out; omega) (by simp; omega) (w5.heap.size + 1) (by simp) ?_)
              intro g6 cap6 w6 hown6 hgrow6 hat6 hlt6
              have q6 := HQ5.out.1.grow [_, _, _, _] (below1 w5 _) hown6 hgrow6 hat6 (by omega) (by omega)
              have HQ6 : Hid (_) := q6
              clear hown6 hgrow6 hat6 hlt6 q6 heown
              go_wp2
              go_roundw
              case rel =>
                have hvo := vstp_ok HOK.out (fun h19 => by have := HDP.out.2 h19; have := HON.out; omega) HVG.out
                have hdo := HDP.out.1
                have hon' : on'.length = on.length + 1 := by unfold depO at hdo; rw [if_pos HOP.out] at hdo; omega
                refine ⟨k + 1, by go_num, by omega, bs + j, true, k, _, _, o ++ [(bs + j, true)], hs ++ [h], ds ++ [true], on', en', dd ++ [(on.length : Int)], by first | rfl | (congr 1; omega), by rw [inn_snoc]; first | rfl | (congr 1; omega), rfl, rows_more (rows_push HQ6.out.1 HOK.out.pos HIB.out hon'), hvo.1, by simp [HL.out.1], by simp [HL.out.2], by simp [HON.out.1, hon'], stp_le8 HS'.out.1 HON.out.2, HS'.out.2, ?_, (HQ.out.2.trans HQ5.out.2).trans HQ6.out.2⟩
                rw [HWk.out, HD.out, walkV_go (x := (_, n, t)) HVG.out, nots_snoc]
              case measure => simp [intOf]; omega
            | false =>
              have hop := fun w => l3Opens_any p w
              rw [ho] at hop
              have HOP : Hid (opensB p = false) := ho
              clear ho
              by_cases hst : p = 14 ∨ p = 20 ∨ p = 22
              · have HVG : Hid (vstp p o h true = .go o bs true) := by show _ = _; rw [HV3.out]; unfold vlead; rw [if_pos hst, HIB.out]
                clear HV3
                rcases hst with rfl | rfl | rfl
                all_goals
                  go_wp2_with (go_at_call 51; refine (hop _).mono ?_; rintro e w' ⟨rfl, hw'⟩; subst w')
                  go_roundw
                  case rel =>
                    have hvo := vstp_ok HOK.out (fun h19 => by have := HDP.out.2 h19; have := HON.out; omega) HVG.out
                    have hdo := HDP.out.1
                    have hon' : on'.length = on.length := by unfold depO at hdo; rw [HOP.out] at hdo; simp at hdo; omega
                    refine ⟨k + 1, by go_num, by omega, bs, true, k, _, _, o, hs ++ [h], ds ++ [true], on', en', dd ++ [(on.length : Int)], rfl, by rw [HIB.out], rfl, by rw [hon']; exact rows_more HQ.out.1, hvo.1, by simp [HL.out.1], by simp [HL.out.2], by rw [hon']; exact HON.out.1, stp_le8 HS'.out.1 HON.out.2, HS'.out.2, ?_, HQ.out.2⟩
                    rw [HWk.out, HD.out, walkV_go (x := (_, n, t)) HVG.out, nots_snoc]
                  case measure => simp [intOf]; omega
              · have hns : p ≠ 14 ∧ p ≠ 20 ∧ p ≠ 22 := by omega
                obtain ⟨hn14, hn20, hn22⟩ := hns
                have hb3 : (p == 20 || p == 22 || p == 14) = false := by simp [hn14, hn20, hn22]
                by_cases h18 : p = 18 ∨ p = 19
                · obtain ⟨m, hm⟩ : ∃ m, on.length = m + 1 := by
                    refine ⟨on.length - 1, ?_⟩
                    have : 1 ≤ on.length := by
                      rcases h18 with h | h
                      · exact stp_else_pos HS'.out.1 h
                      · exact HDP.out.2 h
                    omega
                  have hm8 : m ≤ 7 := by have := HON.out.2; omega
                  by_cases heq : bs + j = bs
                  · have HVA : Hid (vstp p o h true = .go (if p = 18 then o else o.dropLast) bs (inn o).2) := by
                      show _ = _
                      rw [HV3.out]; unfold vlead
                      rw [if_neg hst, if_neg (by rw [HOP.out]; decide), HIB.out]
                      rcases h18 with rfl | rfl
                      · rw [if_pos rfl, if_pos heq, if_pos rfl, heq]
                      · rw [if_neg (by decide), if_pos rfl, if_pos heq, if_neg (by decide), heq]
                    clear HV3
                    have hol2 : o.length = m + 2 := by have := HON.out.1; omega
                    obtain ⟨gb, hgb⟩ : ∃ gb, ba = some ⟨gb, 0, none⟩ := own_some (HQ.out.1.1 ⟨3, 1, .slice ba on.length bc, on.length, ints (baseL o)⟩ (by simp)) (by omega)
                    obtain ⟨ge, hge⟩ : ∃ ge, ea = some ⟨ge, 0, none⟩ := own_some (HQ.out.1.1 ⟨4, 1, .slice ea on.length ec, on.length, bools (deadL o)⟩ (by simp)) (by omega)
                    subst hgb hge
                    have hcb := own_caps (HQ.out.1.1 ⟨3, 1, .slice (some ⟨gb, 0, none⟩) on.length bc, on.length, ints (baseL o)⟩ (by simp))
                    have hce := own_caps (HQ.out.1.1 ⟨4, 1, .slice (some ⟨ge, 0, none⟩) on.length ec, on.length, bools (deadL o)⟩ (by simp))
                    have v1 := HQ.out.1.cell (x := ⟨3, 1, .slice (some ⟨gb, 0, none⟩) on.length bc, on.length, ints (baseL o)⟩) (by simp) rfl (j := m) (baseL_last hol2)
                    have v2 := HQ.out.1.cell (x := ⟨4, 1, .slice (some ⟨ge, 0, none⟩) on.length ec, on.length, bools (deadL o)⟩) (by simp) rfl (j := m) (deadL_last hol2)
                    have HEQ : Hid (bs + j = bs) := heq
                    generalize hdz : (inn o).2 = dz at v2 HVA
                    have HM : Hid (on.length = m + 1 ∧ o.length = m + 2) := ⟨hm, hol2⟩
                    clear heq hol2
                    rw [hm] at hcb hce
                    rcases h18 with rfl | rfl
                    · have HVG : Hid (vstp 18 o h true = .go o bs dz) := by show _ = _; have := HVA.out; simpa using this
                      clear HVA v1
                      have hq : bs + j = bs := HEQ.out
                      go_wp2_with (go_at_call 51; refine (hop _).mono ?_; rintro e w' ⟨rfl, hw'⟩; subst w')
                      go_roundw
                      case rel =>
                        have hvo := vstp_ok HOK.out (fun h19 => by omega) HVG.out
                        have hdo := HDP.out.1
                        have hon' : on'.length = on.length := by unfold depO at hdo; rw [HOP.out] at hdo; simp at hdo; omega
                        refine ⟨k + 1, by go_num, by omega, bs, dz, k, _, _, o, hs ++ [h], ds ++ [true], on', en', dd ++ [(on.length : Int)], by first | rfl | (congr 1; omega), by rw [HIB.out], rfl, by rw [hon', ← hm]; exact rows_more HQ.out.1, hvo.1, by simp [HL.out.1], by simp [HL.out.2], by rw [hon']; exact HON.out.1, stp_le8 HS'.out.1 HON.out.2, HS'.out.2, ?_, HQ.out.2⟩
                        rw [HWk.out, HD.out, walkV_go (x := (_, n, t)) HVG.out, nots_snoc]
                      case measure => simp [intOf]; omega
                    · have HVG : Hid (vstp 19 o h true = .go o.dropLast bs dz) := by show _ = _; have := HVA.out; simpa using this
                      clear HVA
                      have hq : bs + j = bs := HEQ.out
                      go_wp2_with (go_at_call 51; refine (hop _).mono ?_; rintro e w' ⟨rfl, hw'⟩; subst w')
                      go_roundw
                      case rel =>
                        have hvo := vstp_ok HOK.out (fun h19 => by have := HON.out; omega) HVG.out
                        have hdo := HDP.out.1
                        have hon' : on'.length = m := by unfold depO at hdo; rw [HOP.out] at hdo; simp at hdo; have := HM.out.1; omega
                        refine ⟨k + 1, by go_num, by omega, bs, dz, k, _, _, o.dropLast, hs ++ [h], ds ++ [true], on', en', dd ++ [(on.length : Int)], by first | rfl | (congr 1; omega), rfl, rfl, by rw [hon']; exact rows_more (rows_cut HQ.out.1 HM.out.1 HM.out.2), hvo.1, by simp [HL.out.1], by simp [HL.out.2], by rw [hon', List.length_dropLast, HM.out.2]; rfl, stp_le8 HS'.out.1 HON.out.2, HS'.out.2, ?_, HQ.out.2⟩
                        rw [HWk.out, HD.out, walkV_go (x := (_, n, t)) HVG.out, nots_snoc]
                      case measure => simp [intOf]; omega
                  · have HVB : Hid (vstp p o h true = .bad 3) := by
                      show _ = _
                      rw [HV3.out]; unfold vlead
                      rw [if_neg hst, if_neg (by rw [HOP.out]; decide), HIB.out]
                      rcases h18 with rfl | rfl
                      · rw [if_pos rfl, if_neg heq]
                      · rw [if_neg (by decide), if_pos rfl, if_neg heq]
                    clear HV3
                    rcases h18 with rfl | rfl
                    all_goals
                      have HRB : Hid (R = .bad 3 k) := by show _ = _; rw [← HRV.out, HWk.out, HD.out, walkV_bad (x := (_, n, t)) HVB.out, HL.out.1]
                      clear HVB
                      go_wp2_with (go_at_call 51; refine (hop _).mono ?_; rintro e w' ⟨rfl, hw'⟩; subst w')
                      refine bodyPost_ret (v := .agg #[.slice (some ⟨g2, 0, none⟩) (hs.length + 1) cap2, .slice (some ⟨g3, 0, none⟩) (ds.length + 1) cap3, .int .i64 3, .int .i64 k]) (res_block (cs := [.slice (some ⟨g2, 0, none⟩) (hs.length + 1) cap2, .slice (some ⟨g3, 0, none⟩) (ds.length + 1) cap3, .int .i64 3, .int .i64 k]) Tryd.results38 _ _ w.heap.size rfl (agg118 _) (size118 _) (set4_cells _ _ _ _ _ _ _ _ _ _ (set_far x0 hmw') (set_far x1 hmw') (set_far x2 hmw') (set_far x3 hmw'))) rfl ⟨l4Ans_bad (c := 3) HRB.out (by omega) (by omega), below_set4 (HBX.out.setCell (p := ⟨mb, 2, none⟩) (show w.heap.size ≤ mb by omega) _) _ (Nat.le_refl _) _ _ _ _⟩
                · have hn18 : p ≠ 18 := fun e => h18 (.inl e)
                  have hn19 : p ≠ 19 := fun e => h18 (.inr e)
                  have hb2 : (p == 18 || p == 19) = false := by simp [hn18, hn19]
                  have HVG : Hid (vstp p o h true = .go o (bs + j) true) := by
                    show _ = _
                    rw [HV3.out]; unfold vlead
                    rw [if_neg hst, if_neg (by rw [HOP.out]; decide), if_neg hn18, if_neg hn19]
                  clear HV3
                  go_wp2_with (go_at_call 51; refine (hop _).mono ?_; rintro e w' ⟨rfl, hw'⟩; subst w')
                  go_roundw
                  case rel =>
                    have hvo := vstp_ok HOK.out (fun h19 => absurd h19 hn19) HVG.out
                    have hdo := HDP.out.1
                    have hon' : on'.length = on.length := by unfold depO at hdo; rw [HOP.out, if_neg hn19] at hdo; simp at hdo; omega
                    refine ⟨k + 1, by go_num, by omega, bs + j, true, k, _, _, o, hs ++ [h], ds ++ [true], on', en', dd ++ [(on.length : Int)], by first | rfl | (congr 1; omega), by rw [HIB.out], rfl, by rw [hon']; exact rows_more HQ.out.1, hvo.1, by simp [HL.out.1], by simp [HL.out.2], by rw [hon']; exact HON.out.1, stp_le8 HS'.out.1 HON.out.2, HS'.out.2, ?_, HQ.out.2⟩
                    rw [HWk.out, HD.out, walkV_go (x := (_, n, t)) HVG.out, nots_snoc]
                  case measure => simp [intOf]; omega
      · skip
        have HV2 : Hid (vstp p o h d = if 4 < (h - f) + j then .bad 4 else vlead p o ((h - f) + j) d) := by
          have := HV.out
          rw [if_neg (by simp [hl])] at this
          rw [if_neg hl] at this
          exact this
        clear HV
        by_cases h4 : 4 < (h - f) + j
        · have HVB : Hid (vstp p o h d = .bad 4) := by show _ = _; rw [HV2.out, if_pos h4]
          clear HV2
          have HRB : Hid (R = .bad 4 k) := by show _ = _; rw [← HRV.out, HWk.out, HD.out, walkV_bad (x := (_, n, t)) HVB.out, HL.out.1]
          clear HVB
          go_wp2
          refine bodyPost_ret (v := .agg #[.slice (some ⟨g2, 0, none⟩) (hs.length + 1) cap2, .slice (some ⟨g3, 0, none⟩) (ds.length + 1) cap3, .int .i64 4, .int .i64 k]) (res_block (cs := [.slice (some ⟨g2, 0, none⟩) (hs.length + 1) cap2, .slice (some ⟨g3, 0, none⟩) (ds.length + 1) cap3, .int .i64 4, .int .i64 k]) Tryd.results38 _ _ w.heap.size rfl (agg118 _) (size118 _) (set4_cells _ _ _ _ _ _ _ _ _ _ (set_far x0 hmw') (set_far x1 hmw') (set_far x2 hmw') (set_far x3 hmw'))) rfl ⟨l4Ans_bad (c := 4) HRB.out (by omega) (by omega), below_set4 (HBX.out.setCell (p := ⟨mb, 2, none⟩) (show w.heap.size ≤ mb by omega) _) _ (Nat.le_refl _) _ _ _ _⟩
        · have HV3 : Hid (vstp p o h d = vlead p o ((h - f) + j) d) := by show _ = _; rw [HV2.out, if_neg h4]
          clear HV2
          cases ho : opensB p with
          | true =>
            have HVG : Hid (vstp p o h d = .go (o ++ [((h - f) + j, d)]) ((h - f) + j) d) := by
              show _ = _
              have h1 : ¬ (p = 14 ∨ p = 20 ∨ p = 22) := by simp [opensB] at ho; omega
              rw [HV3.out]; unfold vlead; rw [if_neg h1, if_pos ho]
            have hop := fun w => l3Opens_any p w
            rw [ho] at hop
            have HOP : Hid (opensB p = true) := ho
            clear HV3 ho
            have hbown : w4.ownsRow mb 3 1 (.slice ba on.length bc) on.length (ints (baseL o)) := HQ.out.1.1 ⟨3, 1, .slice ba on.length bc, on.length, ints (baseL o)⟩ (by simp)
            go_wp2_with (first | (go_at_call 51; refine (hop _).mono ?_; rintro e w' ⟨rfl, hw'⟩; subst w') | (at_builtin; refine wpList_append_lies _ rfl _ _ 23 rfl mb 3 i3 (.int .i64 0) 1 8 Tryd.underlying23 hi3 hz30 hz31 hz32 rfl (by decide) _ _ _ rfl (hbown.alloc _) ⟨w4.heap.size, 0, none⟩ 1 1 [.int .i64 bs] rfl rfl (news_at0 w4 _ 3) (by simp [Value.oneCell']) (by decide) (by have := HON.out; unfold maxLen; omega) (by have := HON.out; omega) (by simp; omega) (w4.heap.size + 1) (by simp) ?_))
            intro g5 cap5 w5 hown5 hgrow5 hat5 hlt5
            have q5 := HQ.out.1.grow [_, _, _] (below1 w4 _) hown5 hgrow5 hat5 (by omega) hw4B
            have HQ5 : Hid (_) := q5
            have hsz5 : w4.heap.size + 1 ≤ w5.heap.size := by have := hgrow5.size; simp at this; omega
            have heown : w5.ownsRow mb 4 1 (.slice ea on.length ec) on.length (bools (deadL o)) := q5.1.1 ⟨4, 1, .slice ea on.length ec, on.length, bools (deadL o)⟩ (by simp)
            clear hown5 hgrow5 hat5 hlt5 q5 hbown
            go_wp2_with (at_builtin; refine wpList_append_lies _ rfl _ _ 49 rfl mb 4 i4 (.bool false) 1 1 Tryd.underlying49 hi4 hz40 hz41 hz42 rfl (by decide) _ _ _ rfl (heown.alloc _) ⟨w5.heap.size, 0, none⟩ 1 1 [.bool d] rfl rfl (news_at0 w5 _ 4) (by simp [Value.oneCell']) (by decide) (by have := HON.out; unfold maxLen; omega) (by have := HON.out; omega) (by simp; omega) (w5.heap.size + 1) (by simp) ?_)
            intro g6 cap6 w6 hown6 hgrow6 hat6 hlt6
            have q6 := HQ5.out.1.grow [_, _, _, _] (below1 w5 _) hown6 hgrow6 hat6 (by omega) (by omega)
            have HQ6 : Hid (_) := q6
            clear hown6 hgrow6 hat6 hlt6 q6 heown
            go_wp2
            go_roundw
            case rel =>
              have hvo := vstp_ok HOK.out (fun h19 => by have := HDP.out.2 h19; have := HON.out; omega) HVG.out
              have hdo := HDP.out.1
              have hon' : on'.length = on.length + 1 := by unfold depO at hdo; rw [if_pos HOP.out] at hdo; omega
              refine ⟨k + 1, by go_num, by omega, (h - f) + j, d, k, _, _, o ++ [((h - f) + j, d)], hs ++ [h], ds ++ [d], on', en', dd ++ [(on.length : Int)], by first | rfl | (congr 1; omega), by rw [inn_snoc]; first | rfl | (congr 1; omega), rfl, rows_more (rows_push HQ6.out.1 HOK.out.pos HIB.out hon'), hvo.1, by simp [HL.out.1], by simp [HL.out.2], by simp [HON.out.1, hon'], stp_le8 HS'.out.1 HON.out.2, HS'.out.2, ?_, (HQ.out.2.trans HQ5.out.2).trans HQ6.out.2⟩
              rw [HWk.out, HD.out, walkV_go (x := (_, n, t)) HVG.out, nots_snoc]
            case measure => simp [intOf]; omega
          | false =>
            have hop := fun w => l3Opens_any p w
            rw [ho] at hop
            have HOP : Hid (opensB p = false) := ho
            clear ho
            by_cases hst : p = 14 ∨ p = 20 ∨ p = 22
            · have HVG : Hid (vstp p o h d = .go o bs true) := by show _ = _; rw [HV3.out]; unfold vlead; rw [if_pos hst, HIB.out]
              clear HV3
              rcases hst with rfl | rfl | rfl
              all_goals
                go_wp2_with (go_at_call 51; refine (hop _).mono ?_; rintro e w' ⟨rfl, hw'⟩; subst w')
                go_roundw
                case rel =>
                  have hvo := vstp_ok HOK.out (fun h19 => by have := HDP.out.2 h19; have := HON.out; omega) HVG.out
                  have hdo := HDP.out.1
                  have hon' : on'.length = on.length := by unfold depO at hdo; rw [HOP.out] at hdo; simp at hdo; omega
                  refine ⟨k + 1, by go_num, by omega, bs, true, k, _, _, o, hs ++ [h], ds ++ [d], on', en', dd ++ [(on.length : Int)], rfl, by rw [HIB.out], rfl, by rw [hon']; exact rows_more HQ.out.1, hvo.1, by simp [HL.out.1], by simp [HL.out.2], by rw [hon']; exact HON.out.1, stp_le8 HS'.out.1 HON.out.2, HS'.out.2, ?_, HQ.out.2⟩
                  rw [HWk.out, HD.out, walkV_go (x := (_, n, t)) HVG.out, nots_snoc]
                case measure => simp [intOf]; omega
            · have hns : p ≠ 14 ∧ p ≠ 20 ∧ p ≠ 22 := by omega
              obtain ⟨hn14, hn20, hn22⟩ := hns
              have hb3 : (p == 20 || p == 22 || p == 14) = false := by simp [hn14, hn20, hn22]
              by_cases h18 : p = 18 ∨ p = 19
              · obtain ⟨m, hm⟩ : ∃ m, on.length = m + 1 := by
                  refine ⟨on.length - 1, ?_⟩
                  have : 1 ≤ on.length := by
                    rcases h18 with h | h
                    · exact stp_else_pos HS'.out.1 h
                    · exact HDP.out.2 h
                  omega
                have hm8 : m ≤ 7 := by have := HON.out.2; omega
                by_cases heq : (h - f) + j = bs
                · have HVA : Hid (vstp p o h d = .go (if p = 18 then o else o.dropLast) bs (inn o).2) := by
                    show _ = _
                    rw [HV3.out]; unfold vlead
                    rw [if_neg hst, if_neg (by rw [HOP.out]; decide), HIB.out]
                    rcases h18 with rfl | rfl
                    · rw [if_pos rfl, if_pos heq, if_pos rfl, heq]
                    · rw [if_neg (by decide), if_pos rfl, if_pos heq, if_neg (by decide), heq]
                  clear HV3
                  have hol2 : o.length = m + 2 := by have := HON.out.1; omega
                  obtain ⟨gb, hgb⟩ : ∃ gb, ba = some ⟨gb, 0, none⟩ := own_some (HQ.out.1.1 ⟨3, 1, .slice ba on.length bc, on.length, ints (baseL o)⟩ (by simp)) (by omega)
                  obtain ⟨ge, hge⟩ : ∃ ge, ea = some ⟨ge, 0, none⟩ := own_some (HQ.out.1.1 ⟨4, 1, .slice ea on.length ec, on.length, bools (deadL o)⟩ (by simp)) (by omega)
                  subst hgb hge
                  have hcb := own_caps (HQ.out.1.1 ⟨3, 1, .slice (some ⟨gb, 0, none⟩) on.length bc, on.length, ints (baseL o)⟩ (by simp))
                  have hce := own_caps (HQ.out.1.1 ⟨4, 1, .slice (some ⟨ge, 0, none⟩) on.length ec, on.length, bools (deadL o)⟩ (by simp))
                  have v1 := HQ.out.1.cell (x := ⟨3, 1, .slice (some ⟨gb, 0, none⟩) on.length bc, on.length, ints (baseL o)⟩) (by simp) rfl (j := m) (baseL_last hol2)
                  have v2 := HQ.out.1.cell (x := ⟨4, 1, .slice (some ⟨ge, 0, none⟩) on.length ec, on.length, bools (deadL o)⟩) (by simp) rfl (j := m) (deadL_last hol2)
                  have HEQ : Hid ((h - f) + j = bs) := heq
                  generalize hdz : (inn o).2 = dz at v2 HVA
                  have HM : Hid (on.length = m + 1 ∧ o.length = m + 2) := ⟨hm, hol2⟩
                  clear heq hol2
                  rw [hm] at hcb hce
                  rcases h18 with rfl | rfl
                  · have HVG : Hid (vstp 18 o h d = .go o bs dz) := by show _ = _; have := HVA.out; simpa using this
                    clear HVA v1
                    have hq : (h - f) + j = bs := HEQ.out
                    go_wp2_with (go_at_call 51; refine (hop _).mono ?_; rintro e w' ⟨rfl, hw'⟩; subst w')
                    go_roundw
                    case rel =>
                      have hvo := vstp_ok HOK.out (fun h19 => by omega) HVG.out
                      have hdo := HDP.out.1
                      have hon' : on'.length = on.length := by unfold depO at hdo; rw [HOP.out] at hdo; simp at hdo; omega
                      refine ⟨k + 1, by go_num, by omega, bs, dz, k, _, _, o, hs ++ [h], ds ++ [d], on', en', dd ++ [(on.length : Int)], by first | rfl | (congr 1; omega), by rw [HIB.out], rfl, by rw [hon', ← hm]; exact rows_more HQ.out.1, hvo.1, by simp [HL.out.1], by simp [HL.out.2], by rw [hon']; exact HON.out.1, stp_le8 HS'.out.1 HON.out.2, HS'.out.2, ?_, HQ.out.2⟩
                      rw [HWk.out, HD.out, walkV_go (x := (_, n, t)) HVG.out, nots_snoc]
                    case measure => simp [intOf]; omega
                  · have HVG : Hid (vstp 19 o h d = .go o.dropLast bs dz) := by show _ = _; have := HVA.out; simpa using this
                    clear HVA
                    have hq : (h - f) + j = bs := HEQ.out
                    go_wp2_with (go_at_call 51; refine (hop _).mono ?_; rintro e w' ⟨rfl, hw'⟩; subst w')
                    go_roundw
                    case rel =>
                      have hvo := vstp_ok HOK.out (fun h19 => by have := HON.out; omega) HVG.out
                      have hdo := HDP.out.1
                      have hon' : on'.length = m := by unfold depO at hdo; rw [HOP.out] at hdo; simp at hdo; have := HM.out.1; omega
                      refine ⟨k + 1, by go_num, by omega, bs, dz, k, _, _, o.dropLast, hs ++ [h], ds ++ [d], on', en', dd ++ [(on.length : Int)], by first | rfl | (congr 1; omega), rfl, rfl, by rw [hon']; exact rows_more (rows_cut HQ.out.1 HM.out.1 HM.out.2), hvo.1, by simp [HL.out.1], by simp [HL.out.2], by rw [hon', List.length_dropLast, HM.out.2]; rfl, stp_le8 HS'.out.1 HON.out.2, HS'.out.2, ?_, HQ.out.2⟩
                      rw [HWk.out, HD.out, walkV_go (x := (_, n, t)) HVG.out, nots_snoc]
                    case measure => simp [intOf]; omega
                · have HVB : Hid (vstp p o h d = .bad 3) := by
                    show _ = _
                    rw [HV3.out]; unfold vlead
                    rw [if_neg hst, if_neg (by rw [HOP.out]; decide), HIB.out]
                    rcases h18 with rfl | rfl
                    · rw [if_pos rfl, if_neg heq]
                    · rw [if_neg (by decide), if_pos rfl, if_neg heq]
                  clear HV3
                  rcases h18 with rfl | rfl
                  all_goals
                    have HRB : Hid (R = .bad 3 k) := by show _ = _; rw [← HRV.out, HWk.out, HD.out, walkV_bad (x := (_, n, t)) HVB.out, HL.out.1]
                    clear HVB
                    go_wp2_with (go_at_call 51; refine (hop _).mono ?_; rintro e w' ⟨rfl, hw'⟩; subst w')
                    refine bodyPost_ret (v := .agg #[.slice (some ⟨g2, 0, none⟩) (hs.length + 1) cap2, .slice (some ⟨g3, 0, none⟩) (ds.length + 1) cap3, .int .i64 3, .int .i64 k]) (res_block (cs := [.slice (some ⟨g2, 0, none⟩) (hs.length + 1) cap2, .slice (some ⟨g3, 0, none⟩) (ds.length + 1) cap3, .int .i64 3, .int .i64 k]) Tryd.results38 _ _ w.heap.size rfl (agg118 _) (size118 _) (set4_cells _ _ _ _ _ _ _ _ _ _ (set_far x0 hmw') (set_far x1 hmw') (set_far x2 hmw') (set_far x3 hmw'))) rfl ⟨l4Ans_bad (c := 3) HRB.out (by omega) (by omega), below_set4 (HBX.out.setCell (p := ⟨mb, 2, none⟩) (show w.heap.size ≤ mb by omega) _) _ (Nat.le_refl _) _ _ _ _⟩
              · have hn18 : p ≠ 18 := fun e => h18 (.inl e)
                have hn19 : p ≠ 19 := fun e => h18 (.inr e)
                have hb2 : (p == 18 || p == 19) = false := by simp [hn18, hn19]
                have HVG : Hid (vstp p o h d = .go o ((h - f) + j) d) := by
                  show _ = _
                  rw [HV3.out]; unfold vlead
                  rw [if_neg hst, if_neg (by rw [HOP.out]; decide), if_neg hn18, if_neg hn19]
                clear HV3
                go_wp2_with (go_at_call 51; refine (hop _).mono ?_; rintro e w' ⟨rfl, hw'⟩; subst w')
                go_roundw
                case rel =>
                  have hvo := vstp_ok HOK.out (fun h19 => absurd h19 hn19) HVG.out
                  have hdo := HDP.out.1
                  have hon' : on'.length = on.length := by unfold depO at hdo; rw [HOP.out, if_neg hn19] at hdo; simp at hdo; omega
                  refine ⟨k + 1, by go_num, by omega, (h - f) + j, d, k, _, _, o, hs ++ [h], ds ++ [d], on', en', dd ++ [(on.length : Int)], by first | rfl | (congr 1; omega), by rw [HIB.out], rfl, by rw [hon']; exact rows_more HQ.out.1, hvo.1, by simp [HL.out.1], by simp [HL.out.2], by rw [hon']; exact HON.out.1, stp_le8 HS'.out.1 HON.out.2, HS'.out.2, ?_, HQ.out.2⟩
                  rw [HWk.out, HD.out, walkV_go (x := (_, n, t)) HVG.out, nots_snoc]
                case measure => simp [intOf]; omega
    · obtain rfl : k = xs.length := by omega
      have hon : on = [] := good_last HGD.out (by have := HRun.out; rw [List.drop_of_length_le (Nat.le_refl _)] at this; exact this)
      have hin : (inn o).1 = 0 := by
        have h1 : o.length = 1 := by rw [HON.out.1, hon]; rfl
        have h2 := inn_at (o := o) (by omega)
        rw [h1, HOK.out.first] at h2
        injection h2 with h2
        rw [← h2]
      have HWE : Hid (R = if h = 0 then .fine (hs ++ [h]) (nots ds) else .bad 3 xs.length) := by
        show _ = _
        rw [← HRV.out, HWk.out, List.drop_of_length_le (Nat.le_refl _)]
        show (if h = (inn o).1 then WR.fine (hs ++ [h]) (nots ds) else WR.bad 3 hs.length) = _
        rw [hin, HL.out.1]
      rw [hin]
      clear hin hon HRun
      go_wp2_with (at_builtin; refine wpList_append_lies _ rfl _ _ 23 rfl mb 3 i3 (.int .i64 0) 1 8 Tryd.underlying23 hi3 hz30 hz31 hz32 rfl (by decide) _ _ _ rfl (hhown.alloc _) ⟨wr.heap.size, 0, none⟩ 1 1 [.int .i64 h] rfl rfl (news_at0 wr _ 3) (by simp [Value.oneCell']) (by decide) (by rw [HL.out.1]; unfold maxLen; omega) (by rw [HL.out.1]; omega) (by simp; omega) (wr.heap.size + 1) (by simp) ?_)
      intro g2 cap2 w2 hown2 hgrow2 hat2 hlt2
      have q1 := HSE.out.grow [_] (below1 wr _) hown2 hgrow2 hat2 (by omega) hwB
      have m0 := q1.1.cell (x := cellOR 51 4 mb [.slice ha hs.length hc, .slice da ds.length dc, .int .i64 0, .int .i64 at']) (by simp) rfl (j := 0) rfl
      have m1 := q1.1.cell (x := cellOR 51 4 mb [.slice ha hs.length hc, .slice da ds.length dc, .int .i64 0, .int .i64 at']) (by simp) rfl (j := 1) rfl
      have m2 := q1.1.cell (x := cellOR 51 4 mb [.slice ha hs.length hc, .slice da ds.length dc, .int .i64 0, .int .i64 at']) (by simp) rfl (j := 2) rfl
      have m3 := q1.1.cell (x := cellOR 51 4 mb [.slice ha hs.length hc, .slice da ds.length dc, .int .i64 0, .int .i64 at']) (by simp) rfl (j := 3) rfl
      have f0 := q1.1.frozen (x := cellOR 51 4 mb [.slice ha hs.length hc, .slice da ds.length dc, .int .i64 0, .int .i64 at']) (by simp) rfl 0
      have f2 := q1.1.frozen (x := cellOR 51 4 mb [.slice ha hs.length hc, .slice da ds.length dc, .int .i64 0, .int .i64 at']) (by simp) rfl 2
      have f3 := q1.1.frozen (x := cellOR 51 4 mb [.slice ha hs.length hc, .slice da ds.length dc, .int .i64 0, .int .i64 at']) (by simp) rfl 3
      have hb2 := HHB.out.trans q1.2
      have q2 := (q1.1.put [] 0 (.slice (some ⟨g2, 0, none⟩) (hs.length + 1) cap2)).1.put [] 3 (.int .i64 xs.length)
      have ho1 : ((w2.setCell ⟨mb, 0, none⟩ (.slice (some ⟨g2, 0, none⟩) (hs.length + 1) cap2)).setCell ⟨mb, 3, none⟩ (.int .i64 xs.length)).ownsRow mb 3 1 (.slice (some ⟨g2, 0, none⟩) (hs.length + 1) cap2) (hs ++ [h]).length (ints (hs ++ [h])) := by
        have := q2.1.1 ⟨3, 1, .slice (some ⟨g2, 0, none⟩) (hs.length + 1) cap2, hs.length + 1, ints hs ++ [.int .i64 h]⟩ (by simp)
        rw [List.length_append, ints_append]
        exact this
      have ho2 : ((w2.setCell ⟨mb, 0, none⟩ (.slice (some ⟨g2, 0, none⟩) (hs.length + 1) cap2)).setCell ⟨mb, 3, none⟩ (.int .i64 xs.length)).ownsRow mb 4 1 (.slice da ds.length dc) ds.length (bools ds) := q2.1.1 ⟨4, 1, .slice da ds.length dc, ds.length, bools ds⟩ (by simp)
      have hap : apt ⟨3, 1, .slice (some ⟨g2, 0, none⟩) (hs.length + 1) cap2, hs.length + 1, ints hs ++ [.int .i64 h]⟩ ⟨4, 1, .slice da ds.length dc, ds.length, bools ds⟩ := by
        have := (List.pairwise_cons.1 (List.pairwise_cons.1 q2.1.2).2).1 ⟨4, 1, .slice da ds.length dc, ds.length, bools ds⟩ (by simp)
        exact this
      have HOW : Hid (_ ∧ _ ∧ _) := ⟨ho1, ho2, hap⟩
      obtain ⟨⟨hbw, -⟩, ⟨x0, x1, x2, x3⟩, z0, z1, z2, z3⟩ := HW0.out w2 hb2
      have HBW : Hid (Below w.heap.size w w2) := hbw
      have hle : w.heap.size ≤ mb := by omega
      clear q1 q2 ho1 ho2 hap hb2 hbw hown2 hgrow2 hat2 hlt2 hhown n0
      by_cases h0 : h = 0
      · have HRB : Hid (R = .fine (hs ++ [h]) (nots ds)) := by show _ = _; rw [HWE.out, if_pos h0]
        clear HWE
        subst h0
        go_wp2
        refine bodyPost_ret (v := .agg #[.slice (some ⟨g2, 0, none⟩) (hs.length + 1) cap2, .slice da ds.length dc, .int .i64 0, .int .i64 xs.length]) (res_block (cs := [.slice (some ⟨g2, 0, none⟩) (hs.length + 1) cap2, .slice da ds.length dc, .int .i64 0, .int .i64 xs.length]) Tryd.results38 _ _ w.heap.size rfl (agg118 _) (size118 _) (set4_cells _ _ _ _ _ _ _ _ _ _ (set_far (set_far x0 hmw') hmw') (set_far (set_far x1 hmw') hmw') (set_far (set_far x2 hmw') hmw') (set_far (set_far x3 hmw') hmw'))) rfl ⟨l4Ans_fine HRB.out rfl (owns_mono (own_set4 HOW.out.1 (by omega) _ _ _ _) hle) (owns_mono (own_set4 HOW.out.2.1 (by omega) _ _ _ _) hle) HOW.out.2.2, below_set4 ((HBW.out.setCell (p := ⟨mb, 0, none⟩) hle _).setCell (p := ⟨mb, 3, none⟩) hle _) _ (Nat.le_refl _) _ _ _ _⟩
      · have HRB : Hid (R = .bad 3 xs.length) := by show _ = _; rw [HWE.out, if_neg h0]
        clear HWE
        go_wp2
        refine bodyPost_ret (v := .agg #[.slice (some ⟨g2, 0, none⟩) (hs.length + 1) cap2, .slice da ds.length dc, .int .i64 3, .int .i64 xs.length]) (res_block (cs := [.slice (some ⟨g2, 0, none⟩) (hs.length + 1) cap2, .slice da ds.length dc, .int .i64 3, .int .i64 xs.length]) Tryd.results38 _ _ w.heap.size rfl (agg118 _) (size118 _) (set4_cells _ _ _ _ _ _ _ _ _ _ (set_far (set_far (set_far x0 hmw') hmw') hmw') (set_far (set_far (set_far x1 hmw') hmw') hmw') (set_far (set_far (set_far x2 hmw') hmw') hmw') (set_far (set_far (set_far x3 hmw') hmw') hmw'))) rfl ⟨l4Ans_bad (c := 3) HRB.out (by omega) (by omega), below_set4 (((HBW.out.setCell (p := ⟨mb, 0, none⟩) hle _).setCell (p := ⟨mb, 3, none⟩) hle _).setCell (p := ⟨mb, 2, none⟩) hle _) _ (Nat.le_refl _) _ _ _ _⟩
end Go.Proofs.YthkkhinmdlmhkaaDoor
