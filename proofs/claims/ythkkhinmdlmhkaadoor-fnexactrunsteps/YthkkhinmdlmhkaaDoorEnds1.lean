/- What the model tells of the ends of code: as the plain walk through it. -/
import Derived.Test.YthkkhinmdlmhkaaDoorOne2
import Derived.Test.YthkkhinmdlmhkaaDoorTargetMath
import Derived.Deep.AppendLies
namespace Go.Proofs.YthkkhinmdlmhkaaDoor
open Go.RowKit
set_option linter.unusedVariables false
set_option linter.unusedSimpArgs false
set_option maxRecDepth 100000

def startsI (o : List Spn) : List Int := o.map fun s => (s.2.1 : Int)
theorem startsI_length (o : List Spn) : (startsI o).length = o.length := by simp [startsI]
theorem startsI_snoc (o : List Spn) (s : Spn) : startsI (o ++ [s]) = startsI o ++ [(s.2.1 : Int)] := by simp [startsI]
theorem startsI_drop (o : List Spn) : startsI o.dropLast = (startsI o).dropLast := by simp [startsI, List.map_dropLast]
theorem ints_append (xs ys : List Int) : ints (xs ++ ys) = ints xs ++ ints ys := by simp [ints]
theorem ints_at {xs : List Int} {j : Nat} {v : Int} (h : xs[j]? = some v) : (ints xs)[j]? = some (.int .i64 v) := by simp [ints, h]
theorem ints_set (xs : List Int) (j : Nat) (v : Int) : (ints xs).set j (.int .i64 v) = ints (xs.set j v) := by simp [ints, List.map_set]
/-- a row shortened by one -/
theorem owns_shorter {w : World} {B : Nat} {e : TypeId} {g n c : Nat} {xs : List Int} (h : w.ownsRow B e 1 (.slice (some ⟨g, 0, none⟩) (n + 1) c) (n + 1) (ints xs)) : w.ownsRow B e 1 (.slice (some ⟨g, 0, none⟩) n c) n (ints xs.dropLast) := by
  have h1 := h.1
  rw [ints_length] at h1
  refine ⟨by simp [ints]; omega, .inr ?_⟩
  rcases h.2 with ⟨h0, _⟩ | ⟨g', cap, cur, he, hB, hg, hn, hm, hs, htk⟩
  · cases h0
  · injection he with e1 e2 e3
    injection e1 with e1
    injection e1 with e1
    subst e1; subst e3
    refine ⟨g, c, cur, rfl, hB, hg, by omega, hm, hs, ?_⟩
    rw [Nat.mul_one] at htk ⊢
    have : ints xs.dropLast = (ints xs).dropLast := by simp [ints, List.map_dropLast]
    rw [this, ← htk, List.dropLast_eq_take, List.take_take]
    congr 1
    simp
    have := congrArg List.length htk
    rw [ints_length] at this
    simp at this
    omega

theorem owns_at {w : World} {B n g : Nat} {v : Value} {xs : List Int} (h : w.ownsRow B 3 1 v n (ints xs)) (hg : v.ownBlock = some g) {j : Nat} {x : Int} (hj : xs[j]? = some x) : w.cell? ⟨g, j, none⟩ = some (.int .i64 x) := by
  have := h.cells hg j _ (ints_at hj)
  have hadd : (⟨g, 0, none⟩ : Addr).add j = ⟨g, j, none⟩ := by unfold Addr.add; split <;> simp_all
  rwa [hadd] at this
theorem owns_frz {w : World} {B n g : Nat} {v : Value} {e : TypeId} {size : Nat} {xs : List Value} (h : w.ownsRow B e size v n xs) (hg : v.ownBlock = some g) (j : Nat) : w.frozen? ⟨g, j, none⟩ = false := by
  rcases h.2 with ⟨rfl, _⟩ | ⟨g', cap', cur, rfl, _, hgg, _⟩
  · cases hg
  · simp [Value.ownBlock] at hg
    subst hg
    exact frozen_of_row w g' j cur e hgg
theorem startsI_turn {o : List Spn} {p : Int} {s : Nat} {t u : Int} (hl : o.getLast? = some (p, s, t)) : startsI (o.dropLast ++ [(p, s, u)]) = startsI o := by
  conv => rhs; rw [last_split hl]
  rw [startsI_snoc, startsI_snoc]

/-- the model's two lists: ends and marks, and what is open -/
structure MS (w0 wr : World) (outv openv : Value) (M S : List Int) : Prop where
  out : wr.ownsRow w0.heap.size 3 1 outv M.length (ints M)
  opn : wr.ownsRow w0.heap.size 3 1 openv S.length (ints S)
  apart : openv.ownBlock = none ∨ openv.ownBlock ≠ outv.ownBlock
  bel : Below w0.heap.size w0 wr
theorem MS.below {w0 wr w' : World} {outv openv : Value} {M S : List Int} (h : MS w0 wr outv openv M S) (hb : Below wr.heap.size wr w') : MS w0 w' outv openv M S := ⟨owns_below h.out hb, owns_below h.opn hb, h.apart, bstep' h.bel hb⟩
theorem owns_ints {w : World} {B n : Nat} {v : Value} {xs : List Int} (h : w.ownsRow B 3 1 v n (ints xs)) : n = xs.length := by have := h.1; rw [ints_length] at this; omega
/-- one more in the first list -/
theorem MS.more {w0 wr w2 : World} {outv openv : Value} {M S : List Int} {o1 o2 : Obj} {g cap : Nat} {v : Int} (h : MS w0 wr outv openv M S) (hown : w2.ownsRow w0.heap.size 3 1 (.slice (some ⟨g, 0, none⟩) (M.length + 1) cap) (M.length + 1) (ints M ++ [.int .i64 v])) (hg : ((wr.alloc o1).alloc o2).grownBy w2 outv.ownBlock) (hat : outv.ownBlock = some g ∨ g = wr.heap.size + 1 + 1) :
    MS w0 w2 (.slice (some ⟨g, 0, none⟩) (M.length + 1) cap) openv (M ++ [v]) S := by
  have hop := ((h.opn.alloc o1).alloc o2).kept hg h.apart
  refine ⟨?_, hop, ?_, ?_⟩
  · rw [ints_append, List.length_append]; exact hown
  · cases e : openv.ownBlock with
    | none => exact .inl rfl
    | some j =>
      right
      rcases hat with hat | hat
      · rcases h.apart with ha | ha
        · rw [e] at ha; cases ha
        · rw [e, hat] at ha; exact ha
      · have := (h.opn.lt j e).2
        simp [Value.ownBlock]; omega
  · exact (((h.bel.alloc h.bel.size _).alloc (by have := h.bel.size; simp; omega) _)).grown hg (by have := h.bel.size; simp; omega) (fun j hj => (h.out.lt j hj).1)
/-- one more in the second -/
theorem MS.push {w0 wr w2 : World} {outv openv : Value} {M S : List Int} {o1 : Obj} {g cap : Nat} {v : Int} (h : MS w0 wr outv openv M S) (hown : w2.ownsRow w0.heap.size 3 1 (.slice (some ⟨g, 0, none⟩) (S.length + 1) cap) (S.length + 1) (ints S ++ [.int .i64 v])) (hg : (wr.alloc o1).grownBy w2 openv.ownBlock) (hat : openv.ownBlock = some g ∨ g = wr.heap.size + 1) :
    MS w0 w2 outv (.slice (some ⟨g, 0, none⟩) (S.length + 1) cap) M (S ++ [v]) := by
  have hne : outv.ownBlock = none ∨ outv.ownBlock ≠ openv.ownBlock := by
    rcases h.apart with ha | ha
    · cases e : outv.ownBlock with
      | none => exact .inl rfl
      | some j => right; rw [ha]; intro h; cases h
    · exact .inr (Ne.symm ha)
  have hop := (h.out.alloc o1).kept hg hne
  refine ⟨hop, ?_, ?_, ?_⟩
  · rw [ints_append, List.length_append]; exact hown
  · right
    intro he
    have he' : some g = outv.ownBlock := he
    rcases hat with hat | hat
    · rcases hne with hn | hn
      · rw [hn] at he'; cases he'
      · exact hn (he'.symm.trans hat.symm)
    · have := (h.out.lt g he'.symm).2
      omega
  · exact (h.bel.alloc h.bel.size _).grown hg (by have := h.bel.size; simp; omega) (fun j hj => (h.opn.lt j hj).1)
/-- a number set in the first -/
theorem MS.set {w0 wr : World} {g n cap : Nat} {openv : Value} {M S : List Int} (h : MS w0 wr (.slice (some ⟨g, 0, none⟩) n cap) openv M S) (hn : n = M.length) (j : Nat) (v : Int) : MS w0 (wr.setCell ⟨g, j, none⟩ (.int .i64 v)) (.slice (some ⟨g, 0, none⟩) n cap) openv (M.set j v) S := by
  subst hn
  have hs := h.out.stored j (.int .i64 v)
  refine ⟨?_, ?_, h.apart, h.bel.setCell (p := ⟨g, j, none⟩) (h.out.lt g rfl).1 _⟩
  · have := hs.1; rw [ints_set] at this; rw [List.length_set]; exact this
  · exact h.opn.kept hs.2 h.apart

/-- what the rounds of the model's loop hold -/
def LS (xs : List Stp) (w0 wr : World) (k : Nat) (outv openv : Value) : Prop := ∃ (o : List Spn) (e d : List Int), MS w0 wr outv openv (markO e o) (startsI o) ∧ okO o k ∧ e.length = k ∧ o.length ≤ 8 ∧ (∀ s ∈ o, ∃ y, xs[s.2.1]? = some y ∧ y.1 = s.1) ∧ runN xs [] [] [] = runN (xs.drop k) o e d
def endsAns (w0 w' : World) (xs : List Stp) (e : Ending) : Prop := ∃ v b, e = .returned (.tuple #[v, .bool b]) ∧ (match nestO xs with | some (en, _) => b = true ∧ w'.ownsRow w0.heap.size 3 1 v xs.length (ints en) | none => b = false)
theorem ends_bad {w0 w' : World} {xs : List Stp} {o : List Spn} {e d : List Int} {k : Nat} {x : Stp} (h : runN xs [] [] [] = runN (xs.drop k) o e d) (hx : xs[k]? = some x) (hs : stp x o e = none) (v : Value) : endsAns w0 w' xs (.returned (.tuple #[v, .bool false])) := by
  refine ⟨v, false, rfl, ?_⟩
  have hd : xs.drop k = x :: xs.drop (k + 1) := by
    obtain ⟨hk, rfl⟩ := List.getElem?_eq_some_iff.1 hx
    exact List.drop_eq_getElem_cons hk
  have : nestO xs = none := by
    unfold nestO
    rw [h, hd, runN_snoc_none hs]
    split <;> rfl
  rw [this]
theorem run_next {xs : List Stp} {o o' : List Spn} {e d e' : List Int} {k : Nat} {x : Stp} (h : runN xs [] [] [] = runN (xs.drop k) o e d) (hx : xs[k]? = some x) (hs : stp x o e = some (o', e')) : runN xs [] [] [] = runN (xs.drop (k + 1)) o' e' (d ++ [(o.length : Int)]) := by
  have hd : xs.drop k = x :: xs.drop (k + 1) := by
    obtain ⟨hk, rfl⟩ := List.getElem?_eq_some_iff.1 hx
    exact List.drop_eq_getElem_cons hk
  rw [h, hd, runN_snoc_some hs]
theorem stp_one {x : Stp} {o : List Spn} {e : List Int} (h : oneS x = false) : stp x o e = none := by simp [stp, h]
theorem stp_far {x : Stp} {o : List Spn} {e : List Int} (h : withinB x o.length = false) : stp x o e = none := by simp [stp, h]
theorem stp_push {x : Stp} {o : List Spn} {e : List Int} (h : oneS x = true) (h1 : withinB x o.length = true) (h2 : opensB x.1 = true) (h3 : o.length < 8) : stp x o e = some (o ++ [(x.1, e.length, -1)], e ++ [-1]) := by simp [stp, h, h1, h2, h3]
theorem stp_full {x : Stp} {o : List Spn} {e : List Int} (h2 : opensB x.1 = true) (h3 : ¬ o.length < 8) : stp x o e = none := by simp [stp, h2, h3]
theorem stp_else0 {x : Stp} {o : List Spn} {e : List Int} (hl : o.getLast? = none) (h3 : x.1 = 18) : stp x o e = none := by simp [stp, h3, opensB, hl]
theorem stp_else1 {x : Stp} {o : List Spn} {e : List Int} {p : Int} {s : Nat} {t : Int} (h2 : opensB x.1 = false) (h3 : x.1 = 18) (hl : o.getLast? = some (p, s, t)) (hn : ¬ (p = 17 ∧ t = -1)) : stp x o e = none := by simp [stp, h3, opensB, hl, hn]
theorem stp_else2 {x : Stp} {o : List Spn} {e : List Int} {s : Nat} (h : oneS x = true) (h1 : withinB x o.length = true) (h2 : opensB x.1 = false) (h3 : x.1 = 18) (hl : o.getLast? = some (17, s, -1)) : stp x o e = some (o.dropLast ++ [(17, s, (e.length : Int))], e ++ [-1]) := by simp [stp, h, h1, h3, opensB, hl]
theorem stp_end0 {x : Stp} {o : List Spn} {e : List Int} (hl : o.getLast? = none) (h3 : x.1 = 19) : stp x o e = none := by simp [stp, h3, opensB, hl]
theorem stp_end1 {x : Stp} {o : List Spn} {e : List Int} {p : Int} {s : Nat} {t : Int} (h : oneS x = true) (h1 : withinB x o.length = true) (h2 : opensB x.1 = false) (h3 : x.1 = 19) (hl : o.getLast? = some (p, s, t)) : stp x o e = some (o.dropLast, putE (e ++ [(s : Int)]) s t e.length) := by simp [stp, h, h1, h3, opensB, hl]
theorem stp_rest {x : Stp} {o : List Spn} {e : List Int} (h : oneS x = true) (h1 : withinB x o.length = true) (h2 : opensB x.1 = false) (h3 : x.1 ≠ 18) (h4 : x.1 ≠ 19) : stp x o e = some (o, e ++ [-1]) := by simp [stp, h, h1, h2, h3, h4]
theorem startsI_last {o : List Spn} {p : Int} {s : Nat} {t : Int} {m : Nat} (hm : o.length = m + 1) (hl : o.getLast? = some (p, s, t)) : (startsI o)[m]? = some (s : Int) := by
  have h1 := last_split hl
  have h2 : o.dropLast.length = m := by simp [hm]
  rw [h1, startsI_snoc, List.getElem?_append_right (by rw [startsI_length]; omega), startsI_length, h2]
  simp
theorem ops_push {xs : List Stp} {o : List Spn} {k : Nat} {x : Stp} (h : ∀ s ∈ o, ∃ y, xs[s.2.1]? = some y ∧ y.1 = s.1) (hx : xs[k]? = some x) : ∀ s ∈ o ++ [(x.1, k, -1)], ∃ y, xs[s.2.1]? = some y ∧ y.1 = s.1 := by
  intro s hs
  rcases List.mem_append.1 hs with hs | hs
  · exact h s hs
  · simp at hs; subst hs; exact ⟨x, hx, rfl⟩
theorem ops_turn {xs : List Stp} {o : List Spn} {p : Int} {s : Nat} {t u : Int} (h : ∀ s ∈ o, ∃ y, xs[s.2.1]? = some y ∧ y.1 = s.1) (hl : o.getLast? = some (p, s, t)) : ∀ q ∈ o.dropLast ++ [(p, s, u)], ∃ y, xs[q.2.1]? = some y ∧ y.1 = q.1 := by
  intro q hq
  rcases List.mem_append.1 hq with hq | hq
  · exact h q ((List.dropLast_sublist _).mem hq)
  · simp at hq; subst hq; exact h (p, s, t) (List.mem_of_getLast? hl)
theorem ops_drop {xs : List Stp} {o : List Spn} (h : ∀ s ∈ o, ∃ y, xs[s.2.1]? = some y ∧ y.1 = s.1) : ∀ q ∈ o.dropLast, ∃ y, xs[q.2.1]? = some y ∧ y.1 = q.1 := fun q hq => h q ((List.dropLast_sublist _).mem hq)


set_option maxHeartbeats 8000000 in
/-- the model's ends -/
theorem l3Ends_any (a : Option Addr) (c : Nat) (xs : List Stp) (w : World) (hl0 : xs.length ≤ 1048576) (h : TRow w a xs) :
    Calls Tryd.prog 41 #[.slice a xs.length c] w fun e w' => endsAns w w' xs e ∧ Below w.heap.size w w' := by
  obtain ⟨i0, hi, hz0, hz1, hz2⟩ := info_parts info3
  by_cases hx : xs = []
  · subst hx
    clear h
    go_enter Tryd.func41, Tryd.ntmps41
    go_wp2
    go_loopw [4, 5, 12] (fun t4 t5 t12 wr => t4 = .slice none 0 0 ∧ t5 = .slice none 0 0 ∧ t12 = .int .i64 0 ∧ wr = w) (fun _ _ _ _ => 0)
    case atStart => exact ⟨rfl, rfl, rfl, rfl⟩
    case round =>
      obtain ⟨rfl, rfl, rfl, rfl⟩ := hrel
      go_wp2
      go_ret2
      exact ⟨⟨_, _, rfl, rfl, World.ownsRow_nil _ _ _ _⟩, Below.refl _ _⟩
  · obtain ⟨b, off, rfl, hat⟩ := h.at hx
    have HA : Hid (_) := hat
    clear hat hx h
    go_enter Tryd.func41, Tryd.ntmps41
    go_wp2
    go_loopw [4, 5, 12] (fun t4 t5 t12 wr => ∃ (k : Nat) (outv openv : Value), outv = t4 ∧ openv = t5 ∧ t12 = .int .i64 k ∧ k ≤ xs.length ∧ LS xs w wr k outv openv) (fun _ _ t12 _ => xs.length - (intOf t12).toNat)
    case atStart => exact ⟨0, _, _, rfl, rfl, rfl, by omega, [], [], [], ⟨World.ownsRow_nil _ _ _ _, World.ownsRow_nil _ _ _ _, .inl rfl, Below.refl _ _⟩, okO_nil _, rfl, by simp, by simp, rfl⟩
    case round =>
      obtain ⟨k, outv, openv, rfl, rfl, rfl, hk, o, e, d, hms, hok, he, ho8, hops, hrun⟩ := hrel
      have HK : Hid (okO o k) := hok
      have HE : Hid (e.length = k) := he
      have HO : Hid (∀ s ∈ o, ∃ y, xs[s.2.1]? = some y ∧ y.1 = s.1) := hops
      have HRun : Hid (runN xs [] [] [] = runN (xs.drop k) o e d) := hrun
      clear hok he hops hrun
      obtain ⟨oa, oc, hov⟩ : ∃ oa oc, openv = .slice oa o.length oc := by
        have := hms.opn
        rw [startsI_length] at this
        rcases this.2 with ⟨rfl, h0⟩ | ⟨g, cap, cur, rfl, _⟩
        · rw [h0]; exact ⟨none, 0, rfl⟩
        · exact ⟨_, cap, rfl⟩
      by_cases hlt : k < xs.length
      · obtain ⟨p, n, t, ta, tc, c1, c2, c3, hbw, hs, HR, HX⟩ := HA.out wr hms.bel k hlt
        cases h1 : oneS (p, n, t) with
        | false =>
          subst hov
          go_wp2_with (at_builtin; refine wpList_append_lies _ rfl _ _ 23 rfl w.heap.size 3 i0 (.int .i64 0) 1 8 Tryd.underlying23 hi hz0 hz1 hz2 rfl (by decide) _ _ _ rfl ((hms.out.alloc _).alloc _) ⟨wr.heap.size + 1, 0, none⟩ 1 1 [.int .i64 (-1)] rfl rfl ?c1 ?c2 (by decide) ?c3 ?c4 ?c5 (wr.heap.size + 1 + 1) ?c6 ?_)
          case c1 =>
            intro j u hj
            match j, hj with
            | 0, hj => simp at hj; subst hj; simp [Addr.add, go_sem]
          case c2 => intro u hu; simp at hu; subst hu; rfl
          case c3 => rw [markO_length, HE.out]; unfold maxLen; omega
          case c4 => rw [markO_length, HE.out]; omega
          case c5 => have := hms.bel.size; simp; omega
          case c6 => simp
          intro g2 cap2 w2 hown2 hgrow2 hat2 hlt2
          have hms2 := hms.more hown2 hgrow2 hat2
          have bx : ∀ j v, (wr.alloc (.cells #[.int .i64 p, .int .i64 n, .slice ta t.length tc] 59)).cell? ⟨wr.heap.size, j, none⟩ = some v → w2.cell? ⟨wr.heap.size, j, none⟩ = some v := by
            intro j v hv
            refine hgrow2.cell (below_cell _ hv) ?_
            intro he
            have := (hms.out.lt wr.heap.size he.symm).2
            omega
          have x0 : w2.cell? ⟨wr.heap.size, 0, none⟩ = some (.int .i64 p) := bx 0 _ (by simp [go_sem])
          have x1 : w2.cell? ⟨wr.heap.size, 1, none⟩ = some (.int .i64 n) := bx 1 _ (by simp [go_sem])
          have x2 : w2.cell? ⟨wr.heap.size, 2, none⟩ = some (.slice ta t.length tc) := bx 2 _ (by simp [go_sem])
          have hlw : wr.heap.size < w2.heap.size := by have := hgrow2.size; simp at this; omega
          have HM2 : Hid (MS w w2 (.slice (some ⟨g2, 0, none⟩) ((markO e o).length + 1) cap2) (.slice oa o.length oc) (markO e o ++ [-1]) (startsI o)) := hms2
          have HR2 : Hid (Row w2 ta t) := HR.out.below hms2.bel
          clear bx hms2 hown2 hgrow2 hat2 hms
          go_wp2_with fail
          refine (l3One_any p n t ta tc w2 hs HR2.out).mono ?_
          rw [h1]
          rintro e' w3 ⟨rfl, hb3⟩
          go_wp2
          go_ret2
          exact ⟨ends_bad HRun.out HX.out (stp_one h1) _, bstep' HM2.out.bel hb3⟩
        | true =>
          cases h2 : withinB (p, n, t) o.length with
          | false =>
            subst hov
            go_wp2_with (at_builtin; refine wpList_append_lies _ rfl _ _ 23 rfl w.heap.size 3 i0 (.int .i64 0) 1 8 Tryd.underlying23 hi hz0 hz1 hz2 rfl (by decide) _ _ _ rfl ((hms.out.alloc _).alloc _) ⟨wr.heap.size + 1, 0, none⟩ 1 1 [.int .i64 (-1)] rfl rfl ?c1 ?c2 (by decide) ?c3 ?c4 ?c5 (wr.heap.size + 1 + 1) ?c6 ?_)
            case c1 =>
              intro j u hj
              match j, hj with
              | 0, hj => simp at hj; subst hj; simp [Addr.add, go_sem]
            case c2 => intro u hu; simp at hu; subst hu; rfl
            case c3 => rw [markO_length, HE.out]; unfold maxLen; omega
            case c4 => rw [markO_length, HE.out]; omega
            case c5 => have := hms.bel.size; simp; omega
            case c6 => simp
            intro g2 cap2 w2 hown2 hgrow2 hat2 hlt2
            have hms2 := hms.more hown2 hgrow2 hat2
            have bx : ∀ j v, (wr.alloc (.cells #[.int .i64 p, .int .i64 n, .slice ta t.length tc] 59)).cell? ⟨wr.heap.size, j, none⟩ = some v → w2.cell? ⟨wr.heap.size, j, none⟩ = some v := by
              intro j v hv
              refine hgrow2.cell (below_cell _ hv) ?_
              intro he
              have := (hms.out.lt wr.heap.size he.symm).2
              omega
            have x0 : w2.cell? ⟨wr.heap.size, 0, none⟩ = some (.int .i64 p) := bx 0 _ (by simp [go_sem])
            have x1 : w2.cell? ⟨wr.heap.size, 1, none⟩ = some (.int .i64 n) := bx 1 _ (by simp [go_sem])
            have x2 : w2.cell? ⟨wr.heap.size, 2, none⟩ = some (.slice ta t.length tc) := bx 2 _ (by simp [go_sem])
            have hlw : wr.heap.size < w2.heap.size := by have := hgrow2.size; simp at this; omega
            have HM2 : Hid (MS w w2 (.slice (some ⟨g2, 0, none⟩) ((markO e o).length + 1) cap2) (.slice oa o.length oc) (markO e o ++ [-1]) (startsI o)) := hms2
            have HR2 : Hid (Row w2 ta t) := HR.out.below hms2.bel
            clear bx hms2 hown2 hgrow2 hat2 hms
            go_wp2_with fail
            refine (l3One_any p n t ta tc w2 hs HR2.out).mono ?_
            rw [h1]
            rintro e' w3 ⟨rfl, hb3⟩
            have y0 : w3.cell? ⟨wr.heap.size, 0, none⟩ = some (.int .i64 p) := by rw [hb3.cell (p := ⟨wr.heap.size, 0, none⟩) hlw]; exact x0
            have y1 : w3.cell? ⟨wr.heap.size, 1, none⟩ = some (.int .i64 n) := by rw [hb3.cell (p := ⟨wr.heap.size, 1, none⟩) hlw]; exact x1
            have y2 : w3.cell? ⟨wr.heap.size, 2, none⟩ = some (.slice ta t.length tc) := by rw [hb3.cell (p := ⟨wr.heap.size, 2, none⟩) hlw]; exact x2
            have HM3 : Hid (MS w w3 (.slice (some ⟨g2, 0, none⟩) ((markO e o).length + 1) cap2) (.slice oa o.length oc) (markO e o ++ [-1]) (startsI o)) := HM2.out.below hb3
            have HR3 : Hid (Row w3 ta t) := HR2.out.below hb3
            have hlw3 : wr.heap.size < w3.heap.size := Nat.lt_of_lt_of_le hlw hb3.size
            clear x0 x1 x2 HM2 HR2 hb3 hlw hlt2
            go_wp2_with fail
            refine (l3Within_any p n t ta tc o.length w3 hs HR3.out).mono ?_
            rw [h2]
            rintro e' w4 ⟨rfl, hb4⟩
            go_wp2
            go_ret2
            exact ⟨ends_bad HRun.out HX.out (stp_far h2) _, bstep' HM3.out.bel hb4⟩
          | true =>
            cases h3 : opensB p with
            | true =>
              by_cases h8 : o.length < 8
              · subst hov
                go_wp2_with (at_builtin; refine wpList_append_lies _ rfl _ _ 23 rfl w.heap.size 3 i0 (.int .i64 0) 1 8 Tryd.underlying23 hi hz0 hz1 hz2 rfl (by decide) _ _ _ rfl ((hms.out.alloc _).alloc _) ⟨wr.heap.size + 1, 0, none⟩ 1 1 [.int .i64 (-1)] rfl rfl ?c1 ?c2 (by decide) ?c3 ?c4 ?c5 (wr.heap.size + 1 + 1) ?c6 ?_)
                case c1 =>
                  intro j u hj
                  match j, hj with
                  | 0, hj => simp at hj; subst hj; simp [Addr.add, go_sem]
                case c2 => intro u hu; simp at hu; subst hu; rfl
                case c3 => rw [markO_length, HE.out]; unfold maxLen; omega
                case c4 => rw [markO_length, HE.out]; omega
                case c5 => have := hms.bel.size; simp; omega
                case c6 => simp
                intro g2 cap2 w2 hown2 hgrow2 hat2 hlt2
                have hms2 := hms.more hown2 hgrow2 hat2
                have bx : ∀ j v, (wr.alloc (.cells #[.int .i64 p, .int .i64 n, .slice ta t.length tc] 59)).cell? ⟨wr.heap.size, j, none⟩ = some v → w2.cell? ⟨wr.heap.size, j, none⟩ = some v := by
                  intro j v hv
                  refine hgrow2.cell (below_cell _ hv) ?_
                  intro he
                  have := (hms.out.lt wr.heap.size he.symm).2
                  omega
                have x0 : w2.cell? ⟨wr.heap.size, 0, none⟩ = some (.int .i64 p) := bx 0 _ (by simp [go_sem])
                have x1 : w2.cell? ⟨wr.heap.size, 1, none⟩ = some (.int .i64 n) := bx 1 _ (by simp [go_sem])
                have x2 : w2.cell? ⟨wr.heap.size, 2, none⟩ = some (.slice ta t.length tc) := bx 2 _ (by simp [go_sem])
                have hlw : wr.heap.size < w2.heap.size := by have := hgrow2.size; simp at this; omega
                have HM2 : Hid (MS w w2 (.slice (some ⟨g2, 0, none⟩) ((markO e o).length + 1) cap2) (.slice oa o.length oc) (markO e o ++ [-1]) (startsI o)) := hms2
                have HR2 : Hid (Row w2 ta t) := HR.out.below hms2.bel
                clear bx hms2 hown2 hgrow2 hat2 hms
                go_wp2_with fail
                refine (l3One_any p n t ta tc w2 hs HR2.out).mono ?_
                rw [h1]
                rintro e' w3 ⟨rfl, hb3⟩
                have y0 : w3.cell? ⟨wr.heap.size, 0, none⟩ = some (.int .i64 p) := by rw [hb3.cell (p := ⟨wr.heap.size, 0, none⟩) hlw]; exact x0
                have y1 : w3.cell? ⟨wr.heap.size, 1, none⟩ = some (.int .i64 n) := by rw [hb3.cell (p := ⟨wr.heap.size, 1, none⟩) hlw]; exact x1
                have y2 : w3.cell? ⟨wr.heap.size, 2, none⟩ = some (.slice ta t.length tc) := by rw [hb3.cell (p := ⟨wr.heap.size, 2, none⟩) hlw]; exact x2
                have HM3 : Hid (MS w w3 (.slice (some ⟨g2, 0, none⟩) ((markO e o).length + 1) cap2) (.slice oa o.length oc) (markO e o ++ [-1]) (startsI o)) := HM2.out.below hb3
                have HR3 : Hid (Row w3 ta t) := HR2.out.below hb3
                have hlw3 : wr.heap.size < w3.heap.size := Nat.lt_of_lt_of_le hlw hb3.size
                clear x0 x1 x2 HM2 HR2 hb3 hlw hlt2
                go_wp2_with fail
                refine (l3Within_any p n t ta tc o.length w3 hs HR3.out).mono ?_
                rw [h2]
                rintro e' w4 ⟨rfl, hb4⟩
                have z0 : w4.cell? ⟨wr.heap.size, 0, none⟩ = some (.int .i64 p) := by rw [hb4.cell (p := ⟨wr.heap.size, 0, none⟩) hlw3]; exact y0
                have HM4 : Hid (MS w w4 (.slice (some ⟨g2, 0, none⟩) ((markO e o).length + 1) cap2) (.slice oa o.length oc) (markO e o ++ [-1]) (startsI o)) := HM3.out.below hb4
                clear y0 y1 y2 HM3 HR3 hb4 hlw3
                have hopn := fun w => l3Opens_any p w
                rw [h3] at hopn
                have HS := stp_push (e := e) h1 h2 h3 h8
                have HSH : Hid (_) := HS
                clear HS
                have hopw := HM4.out.opn
                go_wp2_with (first | (go_at_call 51; refine (hopn _).mono ?_; rintro e' w' ⟨rfl, hw'⟩; subst w') | (at_builtin; refine wpList_append_lies _ rfl _ _ 23 rfl w.heap.size 3 i0 (.int .i64 0) 1 8 Tryd.underlying23 hi hz0 hz1 hz2 rfl (by decide) _ _ _ rfl (hopw.alloc _) ⟨w4.heap.size, 0, none⟩ 1 1 [.int .i64 k] rfl rfl (cell_one_new _ _ _) ?c2 (by decide) ?c3 ?c4 ?c5 (w4.heap.size + 1) ?c6 ?_))
                case c2 => intro u hu; simp at hu; subst hu; rfl
                case c3 => rw [startsI_length]; unfold maxLen; omega
                case c4 => rw [startsI_length]; omega
                case c5 => have := HM4.out.bel.size; simp; omega
                case c6 => simp
                intro g5 cap5 w5 hown5 hgrow5 hat5 hlt5
                have hms5 := HM4.out.push hown5 hgrow5 hat5
                have HM5 : Hid (_) := hms5
                clear hms5 hown5 hgrow5 hat5 hopw
                go_wp2
                go_roundw
                case rel =>
                  refine ⟨k + 1, _, _, rfl, rfl, by go_num, by omega, o ++ [(p, e.length, -1)], e ++ [-1], d ++ [(o.length : Int)], ?_, ?_, by simp [HE.out], by simp; omega, ?_, run_next HRun.out HX.out HSH.out⟩
                  · have e1 : markO (e ++ [-1]) (o ++ [(p, e.length, -1)]) = markO e o ++ [-1] := by
                      rw [markO_snoc, markO_more _ _ _ (fun s hs => by rw [HE.out]; exact (HK.out.2 s hs).1)]
                      simp only []
                      rw [List.set_append_right _ _ (by rw [markO_length]; exact Nat.le_refl _), markO_length]
                      simp
                    rw [e1, startsI_snoc]
                    simp only []
                    rw [HE.out]
                    exact HM5.out
                  · rw [HE.out]; exact okO_push HK.out p h3
                  · rw [HE.out]; exact ops_push HO.out HX.out
                case measure => simp [intOf]; omega
              · subst hov
                go_wp2_with (at_builtin; refine wpList_append_lies _ rfl _ _ 23 rfl w.heap.size 3 i0 (.int .i64 0) 1 8 Tryd.underlying23 hi hz0 hz1 hz2 rfl (by decide) _ _ _ rfl ((hms.out.alloc _).alloc _) ⟨wr.heap.size + 1, 0, none⟩ 1 1 [.int .i64 (-1)] rfl rfl ?c1 ?c2 (by decide) ?c3 ?c4 ?c5 (wr.heap.size + 1 + 1) ?c6 ?_)
                case c1 =>
                  intro j u hj
                  match j, hj with
                  | 0, hj => simp at hj; subst hj; simp [Addr.add, go_sem]
                case c2 => intro u hu; simp at hu; subst hu; rfl
                case c3 => rw [markO_length, HE.out]; unfold maxLen; omega
                case c4 => rw [markO_length, HE.out]; omega
                case c5 => have := hms.bel.size; simp; omega
                case c6 => simp
                intro g2 cap2 w2 hown2 hgrow2 hat2 hlt2
                have hms2 := hms.more hown2 hgrow2 hat2
                have bx : ∀ j v, (wr.alloc (.cells #[.int .i64 p, .int .i64 n, .slice ta t.length tc] 59)).cell? ⟨wr.heap.size, j, none⟩ = some v → w2.cell? ⟨wr.heap.size, j, none⟩ = some v := by
                  intro j v hv
                  refine hgrow2.cell (below_cell _ hv) ?_
                  intro he
                  have := (hms.out.lt wr.heap.size he.symm).2
                  omega
                have x0 : w2.cell? ⟨wr.heap.size, 0, none⟩ = some (.int .i64 p) := bx 0 _ (by simp [go_sem])
                have x1 : w2.cell? ⟨wr.heap.size, 1, none⟩ = some (.int .i64 n) := bx 1 _ (by simp [go_sem])
                have x2 : w2.cell? ⟨wr.heap.size, 2, none⟩ = some (.slice ta t.length tc) := bx 2 _ (by simp [go_sem])
                have hlw : wr.heap.size < w2.heap.size := by have := hgrow2.size; simp at this; omega
                have HM2 : Hid (MS w w2 (.slice (some ⟨g2, 0, none⟩) ((markO e o).length + 1) cap2) (.slice oa o.length oc) (markO e o ++ [-1]) (startsI o)) := hms2
                have HR2 : Hid (Row w2 ta t) := HR.out.below hms2.bel
                clear bx hms2 hown2 hgrow2 hat2 hms
                go_wp2_with fail
                refine (l3One_any p n t ta tc w2 hs HR2.out).mono ?_
                rw [h1]
                rintro e' w3 ⟨rfl, hb3⟩
                have y0 : w3.cell? ⟨wr.heap.size, 0, none⟩ = some (.int .i64 p) := by rw [hb3.cell (p := ⟨wr.heap.size, 0, none⟩) hlw]; exact x0
                have y1 : w3.cell? ⟨wr.heap.size, 1, none⟩ = some (.int .i64 n) := by rw [hb3.cell (p := ⟨wr.heap.size, 1, none⟩) hlw]; exact x1
                have y2 : w3.cell? ⟨wr.heap.size, 2, none⟩ = some (.slice ta t.length tc) := by rw [hb3.cell (p := ⟨wr.heap.size, 2, none⟩) hlw]; exact x2
                have HM3 : Hid (MS w w3 (.slice (some ⟨g2, 0, none⟩) ((markO e o).length + 1) cap2) (.slice oa o.length oc) (markO e o ++ [-1]) (startsI o)) := HM2.out.below hb3
                have HR3 : Hid (Row w3 ta t) := HR2.out.below hb3
                have hlw3 : wr.heap.size < w3.heap.size := Nat.lt_of_lt_of_le hlw hb3.size
                clear x0 x1 x2 HM2 HR2 hb3 hlw hlt2
                go_wp2_with fail
                refine (l3Within_any p n t ta tc o.length w3 hs HR3.out).mono ?_
                rw [h2]
                rintro e' w4 ⟨rfl, hb4⟩
                have z0 : w4.cell? ⟨wr.heap.size, 0, none⟩ = some (.int .i64 p) := by rw [hb4.cell (p := ⟨wr.heap.size, 0, none⟩) hlw3]; exact y0
                have HM4 : Hid (MS w w4 (.slice (some ⟨g2, 0, none⟩) ((markO e o).length + 1) cap2) (.slice oa o.length oc) (markO e o ++ [-1]) (startsI o)) := HM3.out.below hb4
                clear y0 y1 y2 HM3 HR3 hb4 hlw3
                have hopn := fun w => l3Opens_any p w
                rw [h3] at hopn
                have h8' : o.length = 8 := by omega
                go_wp2_with (first | (go_at_call 51; refine (hopn _).mono ?_; rintro e' w' ⟨rfl, hw'⟩; subst w'))
                go_ret2
                exact ⟨ends_bad HRun.out HX.out (stp_full h3 h8) _, HM4.out.bel⟩
            | false =>
              by_cases h18 : p = 18
              · subst h18
                cases hl : o.getLast? with
                | none =>
                  obtain rfl : o = [] := List.getLast?_eq_none_iff.1 hl
                  clear hl
                  subst hov
                  go_wp2_with (at_builtin; refine wpList_append_lies _ rfl _ _ 23 rfl w.heap.size 3 i0 (.int .i64 0) 1 8 Tryd.underlying23 hi hz0 hz1 hz2 rfl (by decide) _ _ _ rfl ((hms.out.alloc _).alloc _) ⟨wr.heap.size + 1, 0, none⟩ 1 1 [.int .i64 (-1)] rfl rfl ?c1 ?c2 (by decide) ?c3 ?c4 ?c5 (wr.heap.size + 1 + 1) ?c6 ?_)
                  case c1 =>
                    intro j u hj
                    match j, hj with
                    | 0, hj => simp at hj; subst hj; simp [Addr.add, go_sem]
                  case c2 => intro u hu; simp at hu; subst hu; rfl
                  case c3 => rw [markO_length, HE.out]; unfold maxLen; omega
                  case c4 => rw [markO_length, HE.out]; omega
                  case c5 => have := hms.bel.size; simp; omega
                  case c6 => simp
                  intro g2 cap2 w2 hown2 hgrow2 hat2 hlt2
                  have hms2 := hms.more hown2 hgrow2 hat2
                  have bx : ∀ j v, (wr.alloc (.cells #[.int .i64 18, .int .i64 n, .slice ta t.length tc] 59)).cell? ⟨wr.heap.size, j, none⟩ = some v → w2.cell? ⟨wr.heap.size, j, none⟩ = some v := by
                    intro j v hv
                    refine hgrow2.cell (below_cell _ hv) ?_
                    intro he
                    have := (hms.out.lt wr.heap.size he.symm).2
                    omega
                  have x0 : w2.cell? ⟨wr.heap.size, 0, none⟩ = some (.int .i64 18) := bx 0 _ (by simp [go_sem])
                  have x1 : w2.cell? ⟨wr.heap.size, 1, none⟩ = some (.int .i64 n) := bx 1 _ (by simp [go_sem])
                  have x2 : w2.cell? ⟨wr.heap.size, 2, none⟩ = some (.slice ta t.length tc) := bx 2 _ (by simp [go_sem])
                  have hlw : wr.heap.size < w2.heap.size := by have := hgrow2.size; simp at this; omega
                  have HM2 : Hid (MS w w2 (.slice (some ⟨g2, 0, none⟩) ((markO e ([] : List Spn)).length + 1) cap2) (.slice oa ([] : List Spn).length oc) (markO e ([] : List Spn) ++ [-1]) (startsI ([] : List Spn))) := hms2
                  have HR2 : Hid (Row w2 ta t) := HR.out.below hms2.bel
                  clear bx hms2 hown2 hgrow2 hat2 hms
                  go_wp2_with fail
                  refine (l3One_any 18 n t ta tc w2 hs HR2.out).mono ?_
                  rw [h1]
                  rintro e' w3 ⟨rfl, hb3⟩
                  have y0 : w3.cell? ⟨wr.heap.size, 0, none⟩ = some (.int .i64 18) := by rw [hb3.cell (p := ⟨wr.heap.size, 0, none⟩) hlw]; exact x0
                  have y1 : w3.cell? ⟨wr.heap.size, 1, none⟩ = some (.int .i64 n) := by rw [hb3.cell (p := ⟨wr.heap.size, 1, none⟩) hlw]; exact x1
                  have y2 : w3.cell? ⟨wr.heap.size, 2, none⟩ = some (.slice ta t.length tc) := by rw [hb3.cell (p := ⟨wr.heap.size, 2, none⟩) hlw]; exact x2
                  have HM3 : Hid (MS w w3 (.slice (some ⟨g2, 0, none⟩) ((markO e ([] : List Spn)).length + 1) cap2) (.slice oa ([] : List Spn).length oc) (markO e ([] : List Spn) ++ [-1]) (startsI ([] : List Spn))) := HM2.out.below hb3
                  have HR3 : Hid (Row w3 ta t) := HR2.out.below hb3
                  have hlw3 : wr.heap.size < w3.heap.size := Nat.lt_of_lt_of_le hlw hb3.size
                  clear x0 x1 x2 HM2 HR2 hb3 hlw hlt2
                  go_wp2_with fail
                  refine (l3Within_any 18 n t ta tc ([] : List Spn).length w3 hs HR3.out).mono ?_
                  rw [h2]
                  rintro e' w4 ⟨rfl, hb4⟩
                  have z0 : w4.cell? ⟨wr.heap.size, 0, none⟩ = some (.int .i64 18) := by rw [hb4.cell (p := ⟨wr.heap.size, 0, none⟩) hlw3]; exact y0
                  have HM4 : Hid (MS w w4 (.slice (some ⟨g2, 0, none⟩) ((markO e ([] : List Spn)).length + 1) cap2) (.slice oa ([] : List Spn).length oc) (markO e ([] : List Spn) ++ [-1]) (startsI ([] : List Spn))) := HM3.out.below hb4
                  clear y0 y1 y2 HM3 HR3 hb4 hlw3
                  have hopn := fun w => l3Opens_any 18 w
                  rw [h3] at hopn
                  go_wp2_with (first | (go_at_call 51; refine (hopn _).mono ?_; rintro e' w' ⟨rfl, hw'⟩; subst w'))
                  go_ret2
                  exact ⟨ends_bad HRun.out HX.out (stp_else0 rfl rfl) _, HM4.out.bel⟩
                | some z =>
                  obtain ⟨q, s, u⟩ := z
                  by_cases hq : q = 17
                  · subst hq
                    by_cases hu : u = -1
                    · subst hu
                      subst hov
                      go_wp2_with (at_builtin; refine wpList_append_lies _ rfl _ _ 23 rfl w.heap.size 3 i0 (.int .i64 0) 1 8 Tryd.underlying23 hi hz0 hz1 hz2 rfl (by decide) _ _ _ rfl ((hms.out.alloc _).alloc _) ⟨wr.heap.size + 1, 0, none⟩ 1 1 [.int .i64 (-1)] rfl rfl ?c1 ?c2 (by decide) ?c3 ?c4 ?c5 (wr.heap.size + 1 + 1) ?c6 ?_)
                      case c1 =>
                        intro j u hj
                        match j, hj with
                        | 0, hj => simp at hj; subst hj; simp [Addr.add, go_sem]
                      case c2 => intro u hu; simp at hu; subst hu; rfl
                      case c3 => rw [markO_length, HE.out]; unfold maxLen; omega
                      case c4 => rw [markO_length, HE.out]; omega
                      case c5 => have := hms.bel.size; simp; omega
                      case c6 => simp
                      intro g2 cap2 w2 hown2 hgrow2 hat2 hlt2
                      have hms2 := hms.more hown2 hgrow2 hat2
                      have bx : ∀ j v, (wr.alloc (.cells #[.int .i64 18, .int .i64 n, .slice ta t.length tc] 59)).cell? ⟨wr.heap.size, j, none⟩ = some v → w2.cell? ⟨wr.heap.size, j, none⟩ = some v := by
                        intro j v hv
                        refine hgrow2.cell (below_cell _ hv) ?_
                        intro he
                        have := (hms.out.lt wr.heap.size he.symm).2
                        omega
                      have x0 : w2.cell? ⟨wr.heap.size, 0, none⟩ = some (.int .i64 18) := bx 0 _ (by simp [go_sem])
                      have x1 : w2.cell? ⟨wr.heap.size, 1, none⟩ = some (.int .i64 n) := bx 1 _ (by simp [go_sem])
                      have x2 : w2.cell? ⟨wr.heap.size, 2, none⟩ = some (.slice ta t.length tc) := bx 2 _ (by simp [go_sem])
                      have hlw : wr.heap.size < w2.heap.size := by have := hgrow2.size; simp at this; omega
                      have HM2 : Hid (MS w w2 (.slice (some ⟨g2, 0, none⟩) ((markO e o).length + 1) cap2) (.slice oa o.length oc) (markO e o ++ [-1]) (startsI o)) := hms2
                      have HR2 : Hid (Row w2 ta t) := HR.out.below hms2.bel
                      clear bx hms2 hown2 hgrow2 hat2 hms
                      go_wp2_with fail
                      refine (l3One_any 18 n t ta tc w2 hs HR2.out).mono ?_
                      rw [h1]
                      rintro e' w3 ⟨rfl, hb3⟩
                      have y0 : w3.cell? ⟨wr.heap.size, 0, none⟩ = some (.int .i64 18) := by rw [hb3.cell (p := ⟨wr.heap.size, 0, none⟩) hlw]; exact x0
                      have y1 : w3.cell? ⟨wr.heap.size, 1, none⟩ = some (.int .i64 n) := by rw [hb3.cell (p := ⟨wr.heap.size, 1, none⟩) hlw]; exact x1
                      have y2 : w3.cell? ⟨wr.heap.size, 2, none⟩ = some (.slice ta t.length tc) := by rw [hb3.cell (p := ⟨wr.heap.size, 2, none⟩) hlw]; exact x2
                      have HM3 : Hid (MS w w3 (.slice (some ⟨g2, 0, none⟩) ((markO e o).length + 1) cap2) (.slice oa o.length oc) (markO e o ++ [-1]) (startsI o)) := HM2.out.below hb3
                      have HR3 : Hid (Row w3 ta t) := HR2.out.below hb3
                      have hlw3 : wr.heap.size < w3.heap.size := Nat.lt_of_lt_of_le hlw hb3.size
                      clear x0 x1 x2 HM2 HR2 hb3 hlw hlt2
                      go_wp2_with fail
                      refine (l3Within_any 18 n t ta tc o.length w3 hs HR3.out).mono ?_
                      rw [h2]
                      rintro e' w4 ⟨rfl, hb4⟩
                      have z0 : w4.cell? ⟨wr.heap.size, 0, none⟩ = some (.int .i64 18) := by rw [hb4.cell (p := ⟨wr.heap.size, 0, none⟩) hlw3]; exact y0
                      have HM4 : Hid (MS w w4 (.slice (some ⟨g2, 0, none⟩) ((markO e o).length + 1) cap2) (.slice oa o.length oc) (markO e o ++ [-1]) (startsI o)) := HM3.out.below hb4
                      clear y0 y1 y2 HM3 HR3 hb4 hlw3
                      have hopn := fun w => l3Opens_any 18 w
                      rw [h3] at hopn
                      obtain ⟨m, hm⟩ : ∃ m, o.length = m + 1 := ⟨o.length - 1, by have := congrArg List.length (last_split hl); simp at this; omega⟩
                      obtain ⟨go, hoa⟩ : ∃ go, oa = some ⟨go, 0, none⟩ := by
                        have := HM4.out.opn
                        rw [startsI_length, hm] at this
                        obtain ⟨g, c, hg⟩ := ownsRow_succ this
                        injection hg with h1 h2 h3
                        exact ⟨g, h1⟩
                      subst hoa
                      have hoo : w4.ownsRow w.heap.size 3 1 (.slice (some ⟨go, 0, none⟩) (m + 1) oc) (m + 1) (ints (startsI o)) := by
                        have := HM4.out.opn
                        rw [startsI_length, hm] at this
                        exact this
                      have q0 : w4.cell? ⟨go, m, none⟩ = some (.int .i64 s) := owns_at hoo rfl (startsI_last hm hl)
                      have HZ := HK.out.2 _ (List.mem_of_getLast? hl)
                      have hsk : s < k := HZ.1
                      have q1 : w4.cell? ⟨g2, s, none⟩ = some (.int .i64 (-1)) := owns_at HM4.out.out rfl (at_left _ (markO_last (by rw [HE.out]; exact HK.out) hl))
                      have q2 : w4.cell? ⟨g2, k, none⟩ = some (.int .i64 (-1)) := owns_at HM4.out.out rfl (by rw [List.getElem?_append_right (by rw [markO_length, HE.out]; exact Nat.le_refl _), markO_length, HE.out]; simp)
                      have f1 := owns_frz HM4.out.out rfl s
                      have f2 := owns_frz HM4.out.out rfl k
                      have HOO : Hid (w4.ownsRow w.heap.size 3 1 (.slice (some ⟨go, 0, none⟩) (m + 1) oc) (m + 1) (ints (startsI o))) := hoo
                      have hoc : m + 1 ≤ oc := by
                        rcases hoo.2 with ⟨h0, _⟩ | ⟨_, _, _, h0, _, _, h1, _⟩
                        · cases h0
                        · injection h0 with e1 e2 e3; omega
                      have hocm : oc ≤ 9223372036854775807 := by
                        rcases hoo.2 with ⟨h0, _⟩ | ⟨_, _, _, h0, _, _, _, h1, _⟩
                        · cases h0
                        · injection h0 with e1 e2 e3; unfold maxLen at h1; omega
                      have hm8 : m ≤ 7 := by omega
                      have HLL : Hid (o.getLast? = some (17, s, -1)) := hl
                      clear HZ hoo
                      have hol : (markO e o).length = k := by rw [markO_length, HE.out]
                      rw [hm] at HM4
                      have HMM : Hid (o.length = m + 1) := hm
                      obtain ⟨yy, hyy, hyq0⟩ := HO.out _ (List.mem_of_getLast? hl)
                      have hyq : yy.1 = 17 := hyq0
                      obtain ⟨p6, n6, t6, ta6, tc6, d1, d2, d3, hbw6, hs6, HR6, HX6⟩ := HA.out w4 HM4.out.bel s (by omega)
                      obtain rfl : p6 = 17 := by have := HX6.out.symm.trans hyy; injection this with this; rw [← hyq, ← this]
                      
                      clear HR6 d2 d3 hyy hyq hyq0
                      have HSS : Hid (_) := stp_else2 (e := e) h1 h2 h3 rfl hl
                      clear hl
                      go_wp2_with (first | (go_at_call 51; refine (hopn _).mono ?_; rintro e' w' ⟨rfl, hw'⟩; subst w'))
                      go_roundw
                      case rel =>
                        have hfin := HM4.out.set (by simp) s k
                        rw [hol] at hfin
                        refine ⟨k + 1, _, _, rfl, rfl, by go_num, by omega, o.dropLast ++ [(17, s, (e.length : Int))], e ++ [-1], d ++ [(o.length : Int)], ?_, ?_, by simp [HE.out], ?_, ops_turn HO.out HLL.out, run_next HRun.out HX.out HSS.out⟩
                        · rw [markO_else (by rw [HE.out]; exact HK.out) HLL.out, startsI_turn HLL.out, HE.out]
                          first | exact hfin | (rw [HMM.out]; exact hfin)
                        · rw [HE.out]; exact okO_else HK.out HLL.out
                        · have := HMM.out; simp; omega
                      case measure => simp [intOf]; omega
                    · have hun : 0 ≤ u := by
                        have := (HK.out.2 _ (List.mem_of_getLast? hl)).2.1
                        simp only [] at this
                        omega
                      subst hov
                      go_wp2_with (at_builtin; refine wpList_append_lies _ rfl _ _ 23 rfl w.heap.size 3 i0 (.int .i64 0) 1 8 Tryd.underlying23 hi hz0 hz1 hz2 rfl (by decide) _ _ _ rfl ((hms.out.alloc _).alloc _) ⟨wr.heap.size + 1, 0, none⟩ 1 1 [.int .i64 (-1)] rfl rfl ?c1 ?c2 (by decide) ?c3 ?c4 ?c5 (wr.heap.size + 1 + 1) ?c6 ?_)
                      case c1 =>
                        intro j u hj
                        match j, hj with
                        | 0, hj => simp at hj; subst hj; simp [Addr.add, go_sem]
                      case c2 => intro u hu; simp at hu; subst hu; rfl
                      case c3 => rw [markO_length, HE.out]; unfold maxLen; omega
                      case c4 => rw [markO_length, HE.out]; omega
                      case c5 => have := hms.bel.size; simp; omega
                      case c6 => simp
                      intro g2 cap2 w2 hown2 hgrow2 hat2 hlt2
                      have hms2 := hms.more hown2 hgrow2 hat2
                      have bx : ∀ j v, (wr.alloc (.cells #[.int .i64 18, .int .i64 n, .slice ta t.length tc] 59)).cell? ⟨wr.heap.size, j, none⟩ = some v → w2.cell? ⟨wr.heap.size, j, none⟩ = some v := by
                        intro j v hv
                        refine hgrow2.cell (below_cell _ hv) ?_
                        intro he
                        have := (hms.out.lt wr.heap.size he.symm).2
                        omega
                      have x0 : w2.cell? ⟨wr.heap.size, 0, none⟩ = some (.int .i64 18) := bx 0 _ (by simp [go_sem])
                      have x1 : w2.cell? ⟨wr.heap.size, 1, none⟩ = some (.int .i64 n) := bx 1 _ (by simp [go_sem])
                      have x2 : w2.cell? ⟨wr.heap.size, 2, none⟩ = some (.slice ta t.length tc) := bx 2 _ (by simp [go_sem])
                      have hlw : wr.heap.size < w2.heap.size := by have := hgrow2.size; simp at this; omega
                      have HM2 : Hid (MS w w2 (.slice (some ⟨g2, 0, none⟩) ((markO e o).length + 1) cap2) (.slice oa o.length oc) (markO e o ++ [-1]) (startsI o)) := hms2
                      have HR2 : Hid (Row w2 ta t) := HR.out.below hms2.bel
                      clear bx hms2 hown2 hgrow2 hat2 hms
                      go_wp2_with fail
                      refine (l3One_any 18 n t ta tc w2 hs HR2.out).mono ?_
                      rw [h1]
                      rintro e' w3 ⟨rfl, hb3⟩
                      have y0 : w3.cell? ⟨wr.heap.size, 0, none⟩ = some (.int .i64 18) := by rw [hb3.cell (p := ⟨wr.heap.size, 0, none⟩) hlw]; exact x0
                      have y1 : w3.cell? ⟨wr.heap.size, 1, none⟩ = some (.int .i64 n) := by rw [hb3.cell (p := ⟨wr.heap.size, 1, none⟩) hlw]; exact x1
                      have y2 : w3.cell? ⟨wr.heap.size, 2, none⟩ = some (.slice ta t.length tc) := by rw [hb3.cell (p := ⟨wr.heap.size, 2, none⟩) hlw]; exact x2
                      have HM3 : Hid (MS w w3 (.slice (some ⟨g2, 0, none⟩) ((markO e o).length + 1) cap2) (.slice oa o.length oc) (markO e o ++ [-1]) (startsI o)) := HM2.out.below hb3
                      have HR3 : Hid (Row w3 ta t) := HR2.out.below hb3
                      have hlw3 : wr.heap.size < w3.heap.size := Nat.lt_of_lt_of_le hlw hb3.size
                      clear x0 x1 x2 HM2 HR2 hb3 hlw hlt2
                      go_wp2_with fail
                      refine (l3Within_any 18 n t ta tc o.length w3 hs HR3.out).mono ?_
                      rw [h2]
                      rintro e' w4 ⟨rfl, hb4⟩
                      have z0 : w4.cell? ⟨wr.heap.size, 0, none⟩ = some (.int .i64 18) := by rw [hb4.cell (p := ⟨wr.heap.size, 0, none⟩) hlw3]; exact y0
                      have HM4 : Hid (MS w w4 (.slice (some ⟨g2, 0, none⟩) ((markO e o).length + 1) cap2) (.slice oa o.length oc) (markO e o ++ [-1]) (startsI o)) := HM3.out.below hb4
                      clear y0 y1 y2 HM3 HR3 hb4 hlw3
                      have hopn := fun w => l3Opens_any 18 w
                      rw [h3] at hopn
                      obtain ⟨m, hm⟩ : ∃ m, o.length = m + 1 := ⟨o.length - 1, by have := congrArg List.length (last_split hl); simp at this; omega⟩
                      obtain ⟨go, hoa⟩ : ∃ go, oa = some ⟨go, 0, none⟩ := by
                        have := HM4.out.opn
                        rw [startsI_length, hm] at this
                        obtain ⟨g, c, hg⟩ := ownsRow_succ this
                        injection hg with h1 h2 h3
                        exact ⟨g, h1⟩
                      subst hoa
                      have hoo : w4.ownsRow w.heap.size 3 1 (.slice (some ⟨go, 0, none⟩) (m + 1) oc) (m + 1) (ints (startsI o)) := by
                        have := HM4.out.opn
                        rw [startsI_length, hm] at this
                        exact this
                      have q0 : w4.cell? ⟨go, m, none⟩ = some (.int .i64 s) := owns_at hoo rfl (startsI_last hm hl)
                      have HZ := HK.out.2 _ (List.mem_of_getLast? hl)
                      have hsk : s < k := HZ.1
                      have hzu : u = -1 ∨ ((s : Int) < u ∧ u < k) := HZ.2.1
                      have q1 : w4.cell? ⟨g2, s, none⟩ = some (.int .i64 u) := owns_at HM4.out.out rfl (at_left _ (markO_last (by rw [HE.out]; exact HK.out) hl))
                      have q2 : w4.cell? ⟨g2, k, none⟩ = some (.int .i64 (-1)) := owns_at HM4.out.out rfl (by rw [List.getElem?_append_right (by rw [markO_length, HE.out]; exact Nat.le_refl _), markO_length, HE.out]; simp)
                      have f1 := owns_frz HM4.out.out rfl s
                      have f2 := owns_frz HM4.out.out rfl k
                      have HOO : Hid (w4.ownsRow w.heap.size 3 1 (.slice (some ⟨go, 0, none⟩) (m + 1) oc) (m + 1) (ints (startsI o))) := hoo
                      have hoc : m + 1 ≤ oc := by
                        rcases hoo.2 with ⟨h0, _⟩ | ⟨_, _, _, h0, _, _, h1, _⟩
                        · cases h0
                        · injection h0 with e1 e2 e3; omega
                      have hocm : oc ≤ 9223372036854775807 := by
                        rcases hoo.2 with ⟨h0, _⟩ | ⟨_, _, _, h0, _, _, _, h1, _⟩
                        · cases h0
                        · injection h0 with e1 e2 e3; unfold maxLen at h1; omega
                      have hm8 : m ≤ 7 := by omega
                      have HLL : Hid (o.getLast? = some (17, s, u)) := hl
                      clear HZ hoo
                      have hol : (markO e o).length = k := by rw [markO_length, HE.out]
                      rw [hm] at HM4
                      have HMM : Hid (o.length = m + 1) := hm
                      obtain ⟨yy, hyy, hyq0⟩ := HO.out _ (List.mem_of_getLast? hl)
                      have hyq : yy.1 = 17 := hyq0
                      obtain ⟨p6, n6, t6, ta6, tc6, d1, d2, d3, hbw6, hs6, HR6, HX6⟩ := HA.out w4 HM4.out.bel s (by omega)
                      obtain rfl : p6 = 17 := by have := HX6.out.symm.trans hyy; injection this with this; rw [← hyq, ← this]
                      
                      clear HR6 d2 d3 hyy hyq hyq0
                      clear hl
                      go_wp2_with (first | (go_at_call 51; refine (hopn _).mono ?_; rintro e' w' ⟨rfl, hw'⟩; subst w'))
                      go_ret2
                      exact ⟨ends_bad HRun.out HX.out (stp_else1 h3 rfl HLL.out (by omega)) _, HM4.out.bel⟩
                  · skip
                    subst hov
                    go_wp2_with (at_builtin; refine wpList_append_lies _ rfl _ _ 23 rfl w.heap.size 3 i0 (.int .i64 0) 1 8 Tryd.underlying23 hi hz0 hz1 hz2 rfl (by decide) _ _ _ rfl ((hms.out.alloc _).alloc _) ⟨wr.heap.size + 1, 0, none⟩ 1 1 [.int .i64 (-1)] rfl rfl ?c1 ?c2 (by decide) ?c3 ?c4 ?c5 (wr.heap.size + 1 + 1) ?c6 ?_)
                    case c1 =>
                      intro j u hj
                      match j, hj with
                      | 0, hj => simp at hj; subst hj; simp [Addr.add, go_sem]
                    case c2 => intro u hu; simp at hu; subst hu; rfl
                    case c3 => rw [markO_length, HE.out]; unfold maxLen; omega
                    case c4 => rw [markO_length, HE.out]; omega
                    case c5 => have := hms.bel.size; simp; omega
                    case c6 => simp
                    intro g2 cap2 w2 hown2 hgrow2 hat2 hlt2
                    have hms2 := hms.more hown2 hgrow2 hat2
                    have bx : ∀ j v, (wr.alloc (.cells #[.int .i64 18, .int .i64 n, .slice ta t.length tc] 59)).cell? ⟨wr.heap.size, j, none⟩ = some v → w2.cell? ⟨wr.heap.size, j, none⟩ = some v := by
                      intro j v hv
                      refine hgrow2.cell (below_cell _ hv) ?_
                      intro he
                      have := (hms.out.lt wr.heap.size he.symm).2
                      omega
                    have x0 : w2.cell? ⟨wr.heap.size, 0, none⟩ = some (.int .i64 18) := bx 0 _ (by simp [go_sem])
                    have x1 : w2.cell? ⟨wr.heap.size, 1, none⟩ = some (.int .i64 n) := bx 1 _ (by simp [go_sem])
                    have x2 : w2.cell? ⟨wr.heap.size, 2, none⟩ = some (.slice ta t.length tc) := bx 2 _ (by simp [go_sem])
                    have hlw : wr.heap.size < w2.heap.size := by have := hgrow2.size; simp at this; omega
                    have HM2 : Hid (MS w w2 (.slice (some ⟨g2, 0, none⟩) ((markO e o).length + 1) cap2) (.slice oa o.length oc) (markO e o ++ [-1]) (startsI o)) := hms2
                    have HR2 : Hid (Row w2 ta t) := HR.out.below hms2.bel
                    clear bx hms2 hown2 hgrow2 hat2 hms
                    go_wp2_with fail
                    refine (l3One_any 18 n t ta tc w2 hs HR2.out).mono ?_
                    rw [h1]
                    rintro e' w3 ⟨rfl, hb3⟩
                    have y0 : w3.cell? ⟨wr.heap.size, 0, none⟩ = some (.int .i64 18) := by rw [hb3.cell (p := ⟨wr.heap.size, 0, none⟩) hlw]; exact x0
                    have y1 : w3.cell? ⟨wr.heap.size, 1, none⟩ = some (.int .i64 n) := by rw [hb3.cell (p := ⟨wr.heap.size, 1, none⟩) hlw]; exact x1
                    have y2 : w3.cell? ⟨wr.heap.size, 2, none⟩ = some (.slice ta t.length tc) := by rw [hb3.cell (p := ⟨wr.heap.size, 2, none⟩) hlw]; exact x2
                    have HM3 : Hid (MS w w3 (.slice (some ⟨g2, 0, none⟩) ((markO e o).length + 1) cap2) (.slice oa o.length oc) (markO e o ++ [-1]) (startsI o)) := HM2.out.below hb3
                    have HR3 : Hid (Row w3 ta t) := HR2.out.below hb3
                    have hlw3 : wr.heap.size < w3.heap.size := Nat.lt_of_lt_of_le hlw hb3.size
                    clear x0 x1 x2 HM2 HR2 hb3 hlw hlt2
                    go_wp2_with fail
                    refine (l3Within_any 18 n t ta tc o.length w3 hs HR3.out).mono ?_
                    rw [h2]
                    rintro e' w4 ⟨rfl, hb4⟩
                    have z0 : w4.cell? ⟨wr.heap.size, 0, none⟩ = some (.int .i64 18) := by rw [hb4.cell (p := ⟨wr.heap.size, 0, none⟩) hlw3]; exact y0
                    have HM4 : Hid (MS w w4 (.slice (some ⟨g2, 0, none⟩) ((markO e o).length + 1) cap2) (.slice oa o.length oc) (markO e o ++ [-1]) (startsI o)) := HM3.out.below hb4
                    clear y0 y1 y2 HM3 HR3 hb4 hlw3
                    have hopn := fun w => l3Opens_any 18 w
                    rw [h3] at hopn
                    obtain ⟨m, hm⟩ : ∃ m, o.length = m + 1 := ⟨o.length - 1, by have := congrArg List.length (last_split hl); simp at this; omega⟩
                    obtain ⟨go, hoa⟩ : ∃ go, oa = some ⟨go, 0, none⟩ := by
                      have := HM4.out.opn
                      rw [startsI_length, hm] at this
                      obtain ⟨g, c, hg⟩ := ownsRow_succ this
                      injection hg with h1 h2 h3
                      exact ⟨g, h1⟩
                    subst hoa
                    have hoo : w4.ownsRow w.heap.size 3 1 (.slice (some ⟨go, 0, none⟩) (m + 1) oc) (m + 1) (ints (startsI o)) := by
                      have := HM4.out.opn
                      rw [startsI_length, hm] at this
                      exact this
                    have q0 : w4.cell? ⟨go, m, none⟩ = some (.int .i64 s) := owns_at hoo rfl (startsI_last hm hl)
                    have HZ := HK.out.2 _ (List.mem_of_getLast? hl)
                    have hsk : s < k := HZ.1
                    have hzu : u = -1 ∨ ((s : Int) < u ∧ u < k) := HZ.2.1
                    have q1 : w4.cell? ⟨g2, s, none⟩ = some (.int .i64 u) := owns_at HM4.out.out rfl (at_left _ (markO_last (by rw [HE.out]; exact HK.out) hl))
                    have q2 : w4.cell? ⟨g2, k, none⟩ = some (.int .i64 (-1)) := owns_at HM4.out.out rfl (by rw [List.getElem?_append_right (by rw [markO_length, HE.out]; exact Nat.le_refl _), markO_length, HE.out]; simp)
                    have f1 := owns_frz HM4.out.out rfl s
                    have f2 := owns_frz HM4.out.out rfl k
                    have HOO : Hid (w4.ownsRow w.heap.size 3 1 (.slice (some ⟨go, 0, none⟩) (m + 1) oc) (m + 1) (ints (startsI o))) := hoo
                    have hoc : m + 1 ≤ oc := by
                      rcases hoo.2 with ⟨h0, _⟩ | ⟨_, _, _, h0, _, _, h1, _⟩
                      · cases h0
                      · injection h0 with e1 e2 e3; omega
                    have hocm : oc ≤ 9223372036854775807 := by
                      rcases hoo.2 with ⟨h0, _⟩ | ⟨_, _, _, h0, _, _, _, h1, _⟩
                      · cases h0
                      · injection h0 with e1 e2 e3; unfold maxLen at h1; omega
                    have hm8 : m ≤ 7 := by omega
                    have HLL : Hid (o.getLast? = some (q, s, u)) := hl
                    clear HZ hoo
                    have hol : (markO e o).length = k := by rw [markO_length, HE.out]
                    rw [hm] at HM4
                    have HMM : Hid (o.length = m + 1) := hm
                    obtain ⟨yy, hyy, hyq0⟩ := HO.out _ (List.mem_of_getLast? hl)
                    have hyq : yy.1 = q := hyq0
                    obtain ⟨p6, n6, t6, ta6, tc6, d1, d2, d3, hbw6, hs6, HR6, HX6⟩ := HA.out w4 HM4.out.bel s (by omega)
                    have hp6 : p6 = q := by have := HX6.out.symm.trans hyy; injection this with this; rw [← hyq, ← this]
                    subst hp6
                    clear HR6 d2 d3 hyy hyq hyq0
                    clear hl
                    go_wp2_with (first | (go_at_call 51; refine (hopn _).mono ?_; rintro e' w' ⟨rfl, hw'⟩; subst w'))
                    go_ret2
                    exact ⟨ends_bad HRun.out HX.out (stp_else1 h3 rfl HLL.out (by omega)) _, HM4.out.bel⟩
              · by_cases h19 : p = 19
                · subst h19
                  cases hl : o.getLast? with
                  | none =>
                    obtain rfl : o = [] := List.getLast?_eq_none_iff.1 hl
                    clear hl
                    subst hov
                    go_wp2_with (at_builtin; refine wpList_append_lies _ rfl _ _ 23 rfl w.heap.size 3 i0 (.int .i64 0) 1 8 Tryd.underlying23 hi hz0 hz1 hz2 rfl (by decide) _ _ _ rfl ((hms.out.alloc _).alloc _) ⟨wr.heap.size + 1, 0, none⟩ 1 1 [.int .i64 (-1)] rfl rfl ?c1 ?c2 (by decide) ?c3 ?c4 ?c5 (wr.heap.size + 1 + 1) ?c6 ?_)
                    case c1 =>
                      intro j u hj
                      match j, hj with
                      | 0, hj => simp at hj; subst hj; simp [Addr.add, go_sem]
                    case c2 => intro u hu; simp at hu; subst hu; rfl
                    case c3 => rw [markO_length, HE.out]; unfold maxLen; omega
                    case c4 => rw [markO_length, HE.out]; omega
                    case c5 => have := hms.bel.size; simp; omega
                    case c6 => simp
                    intro g2 cap2 w2 hown2 hgrow2 hat2 hlt2
                    have hms2 := hms.more hown2 hgrow2 hat2
                    have bx : ∀ j v, (wr.alloc (.cells #[.int .i64 19, .int .i64 n, .slice ta t.length tc] 59)).cell? ⟨wr.heap.size, j, none⟩ = some v → w2.cell? ⟨wr.heap.size, j, none⟩ = some v := by
                      intro j v hv
                      refine hgrow2.cell (below_cell _ hv) ?_
                      intro he
                      have := (hms.out.lt wr.heap.size he.symm).2
                      omega
                    have x0 : w2.cell? ⟨wr.heap.size, 0, none⟩ = some (.int .i64 19) := bx 0 _ (by simp [go_sem])
                    have x1 : w2.cell? ⟨wr.heap.size, 1, none⟩ = some (.int .i64 n) := bx 1 _ (by simp [go_sem])
                    have x2 : w2.cell? ⟨wr.heap.size, 2, none⟩ = some (.slice ta t.length tc) := bx 2 _ (by simp [go_sem])
                    have hlw : wr.heap.size < w2.heap.size := by have := hgrow2.size; simp at this; omega
                    have HM2 : Hid (MS w w2 (.slice (some ⟨g2, 0, none⟩) ((markO e ([] : List Spn)).length + 1) cap2) (.slice oa ([] : List Spn).length oc) (markO e ([] : List Spn) ++ [-1]) (startsI ([] : List Spn))) := hms2
                    have HR2 : Hid (Row w2 ta t) := HR.out.below hms2.bel
                    clear bx hms2 hown2 hgrow2 hat2 hms
                    go_wp2_with fail
                    refine (l3One_any 19 n t ta tc w2 hs HR2.out).mono ?_
                    rw [h1]
                    rintro e' w3 ⟨rfl, hb3⟩
                    have y0 : w3.cell? ⟨wr.heap.size, 0, none⟩ = some (.int .i64 19) := by rw [hb3.cell (p := ⟨wr.heap.size, 0, none⟩) hlw]; exact x0
                    have y1 : w3.cell? ⟨wr.heap.size, 1, none⟩ = some (.int .i64 n) := by rw [hb3.cell (p := ⟨wr.heap.size, 1, none⟩) hlw]; exact x1
                    have y2 : w3.cell? ⟨wr.heap.size, 2, none⟩ = some (.slice ta t.length tc) := by rw [hb3.cell (p := ⟨wr.heap.size, 2, none⟩) hlw]; exact x2
                    have HM3 : Hid (MS w w3 (.slice (some ⟨g2, 0, none⟩) ((markO e ([] : List Spn)).length + 1) cap2) (.slice oa ([] : List Spn).length oc) (markO e ([] : List Spn) ++ [-1]) (startsI ([] : List Spn))) := HM2.out.below hb3
                    have HR3 : Hid (Row w3 ta t) := HR2.out.below hb3
                    have hlw3 : wr.heap.size < w3.heap.size := Nat.lt_of_lt_of_le hlw hb3.size
                    clear x0 x1 x2 HM2 HR2 hb3 hlw hlt2
                    go_wp2_with fail
                    refine (l3Within_any 19 n t ta tc ([] : List Spn).length w3 hs HR3.out).mono ?_
                    rw [h2]
                    rintro e' w4 ⟨rfl, hb4⟩
                    have z0 : w4.cell? ⟨wr.heap.size, 0, none⟩ = some (.int .i64 19) := by rw [hb4.cell (p := ⟨wr.heap.size, 0, none⟩) hlw3]; exact y0
                    have HM4 : Hid (MS w w4 (.slice (some ⟨g2, 0, none⟩) ((markO e ([] : List Spn)).length + 1) cap2) (.slice oa ([] : List Spn).length oc) (markO e ([] : List Spn) ++ [-1]) (startsI ([] : List Spn))) := HM3.out.below hb4
                    clear y0 y1 y2 HM3 HR3 hb4 hlw3
                    have hopn := fun w => l3Opens_any 19 w
                    rw [h3] at hopn
                    go_wp2_with (first | (go_at_call 51; refine (hopn _).mono ?_; rintro e' w' ⟨rfl, hw'⟩; subst w'))
                    go_ret2
                    exact ⟨ends_bad HRun.out HX.out (stp_end0 rfl rfl) _, HM4.out.bel⟩
                  | some z =>
                    obtain ⟨q, s, u⟩ := z
                    have HSS : Hid (_) := stp_end1 (e := e) h1 h2 h3 rfl hl
                    by_cases hu : u = -1
                    · subst hu
                      subst hov
                      go_wp2_with (at_builtin; refine wpList_append_lies _ rfl _ _ 23 rfl w.heap.size 3 i0 (.int .i64 0) 1 8 Tryd.underlying23 hi hz0 hz1 hz2 rfl (by decide) _ _ _ rfl ((hms.out.alloc _).alloc _) ⟨wr.heap.size + 1, 0, none⟩ 1 1 [.int .i64 (-1)] rfl rfl ?c1 ?c2 (by decide) ?c3 ?c4 ?c5 (wr.heap.size + 1 + 1) ?c6 ?_)
                      case c1 =>
                        intro j u hj
                        match j, hj with
                        | 0, hj => simp at hj; subst hj; simp [Addr.add, go_sem]
                      case c2 => intro u hu; simp at hu; subst hu; rfl
                      case c3 => rw [markO_length, HE.out]; unfold maxLen; omega
                      case c4 => rw [markO_length, HE.out]; omega
                      case c5 => have := hms.bel.size; simp; omega
                      case c6 => simp
                      intro g2 cap2 w2 hown2 hgrow2 hat2 hlt2
                      have hms2 := hms.more hown2 hgrow2 hat2
                      have bx : ∀ j v, (wr.alloc (.cells #[.int .i64 19, .int .i64 n, .slice ta t.length tc] 59)).cell? ⟨wr.heap.size, j, none⟩ = some v → w2.cell? ⟨wr.heap.size, j, none⟩ = some v := by
                        intro j v hv
                        refine hgrow2.cell (below_cell _ hv) ?_
                        intro he
                        have := (hms.out.lt wr.heap.size he.symm).2
                        omega
                      have x0 : w2.cell? ⟨wr.heap.size, 0, none⟩ = some (.int .i64 19) := bx 0 _ (by simp [go_sem])
                      have x1 : w2.cell? ⟨wr.heap.size, 1, none⟩ = some (.int .i64 n) := bx 1 _ (by simp [go_sem])
                      have x2 : w2.cell? ⟨wr.heap.size, 2, none⟩ = some (.slice ta t.length tc) := bx 2 _ (by simp [go_sem])
                      have hlw : wr.heap.size < w2.heap.size := by have := hgrow2.size; simp at this; omega
                      have HM2 : Hid (MS w w2 (.slice (some ⟨g2, 0, none⟩) ((markO e o).length + 1) cap2) (.slice oa o.length oc) (markO e o ++ [-1]) (startsI o)) := hms2
                      have HR2 : Hid (Row w2 ta t) := HR.out.below hms2.bel
                      clear bx hms2 hown2 hgrow2 hat2 hms
                      go_wp2_with fail
                      refine (l3One_any 19 n t ta tc w2 hs HR2.out).mono ?_
                      rw [h1]
                      rintro e' w3 ⟨rfl, hb3⟩
                      have y0 : w3.cell? ⟨wr.heap.size, 0, none⟩ = some (.int .i64 19) := by rw [hb3.cell (p := ⟨wr.heap.size, 0, none⟩) hlw]; exact x0
                      have y1 : w3.cell? ⟨wr.heap.size, 1, none⟩ = some (.int .i64 n) := by rw [hb3.cell (p := ⟨wr.heap.size, 1, none⟩) hlw]; exact x1
                      have y2 : w3.cell? ⟨wr.heap.size, 2, none⟩ = some (.slice ta t.length tc) := by rw [hb3.cell (p := ⟨wr.heap.size, 2, none⟩) hlw]; exact x2
                      have HM3 : Hid (MS w w3 (.slice (some ⟨g2, 0, none⟩) ((markO e o).length + 1) cap2) (.slice oa o.length oc) (markO e o ++ [-1]) (startsI o)) := HM2.out.below hb3
                      have HR3 : Hid (Row w3 ta t) := HR2.out.below hb3
                      have hlw3 : wr.heap.size < w3.heap.size := Nat.lt_of_lt_of_le hlw hb3.size
                      clear x0 x1 x2 HM2 HR2 hb3 hlw hlt2
                      go_wp2_with fail
                      refine (l3Within_any 19 n t ta tc o.length w3 hs HR3.out).mono ?_
                      rw [h2]
                      rintro e' w4 ⟨rfl, hb4⟩
                      have z0 : w4.cell? ⟨wr.heap.size, 0, none⟩ = some (.int .i64 19) := by rw [hb4.cell (p := ⟨wr.heap.size, 0, none⟩) hlw3]; exact y0
                      have HM4 : Hid (MS w w4 (.slice (some ⟨g2, 0, none⟩) ((markO e o).length + 1) cap2) (.slice oa o.length oc) (markO e o ++ [-1]) (startsI o)) := HM3.out.below hb4
                      clear y0 y1 y2 HM3 HR3 hb4 hlw3
                      have hopn := fun w => l3Opens_any 19 w
                      rw [h3] at hopn
                      obtain ⟨m, hm⟩ : ∃ m, o.length = m + 1 := ⟨o.length - 1, by have := congrArg List.length (last_split hl); simp at this; omega⟩
                      obtain ⟨go, hoa⟩ : ∃ go, oa = some ⟨go, 0, none⟩ := by
                        have := HM4.out.opn
                        rw [startsI_length, hm] at this
                        obtain ⟨g, c, hg⟩ := ownsRow_succ this
                        injection hg with h1 h2 h3
                        exact ⟨g, h1⟩
                      subst hoa
                      have hoo : w4.ownsRow w.heap.size 3 1 (.slice (some ⟨go, 0, none⟩) (m + 1) oc) (m + 1) (ints (startsI o)) := by
                        have := HM4.out.opn
                        rw [startsI_length, hm] at this
                        exact this
                      have q0 : w4.cell? ⟨go, m, none⟩ = some (.int .i64 s) := owns_at hoo rfl (startsI_last hm hl)
                      have HZ := HK.out.2 _ (List.mem_of_getLast? hl)
                      have hsk : s < k := HZ.1
                      have q1 : w4.cell? ⟨g2, s, none⟩ = some (.int .i64 (-1)) := owns_at HM4.out.out rfl (at_left _ (markO_last (by rw [HE.out]; exact HK.out) hl))
                      have q2 : w4.cell? ⟨g2, k, none⟩ = some (.int .i64 (-1)) := owns_at HM4.out.out rfl (by rw [List.getElem?_append_right (by rw [markO_length, HE.out]; exact Nat.le_refl _), markO_length, HE.out]; simp)
                      have f1 := owns_frz HM4.out.out rfl s
                      have f2 := owns_frz HM4.out.out rfl k
                      have HOO : Hid (w4.ownsRow w.heap.size 3 1 (.slice (some ⟨go, 0, none⟩) (m + 1) oc) (m + 1) (ints (startsI o))) := hoo
                      have hoc : m + 1 ≤ oc := by
                        rcases hoo.2 with ⟨h0, _⟩ | ⟨_, _, _, h0, _, _, h1, _⟩
                        · cases h0
                        · injection h0 with e1 e2 e3; omega
                      have hocm : oc ≤ 9223372036854775807 := by
                        rcases hoo.2 with ⟨h0, _⟩ | ⟨_, _, _, h0, _, _, _, h1, _⟩
                        · cases h0
                        · injection h0 with e1 e2 e3; unfold maxLen at h1; omega
                      have hm8 : m ≤ 7 := by omega
                      have HLL : Hid (o.getLast? = some (q, s, -1)) := hl
                      clear HZ hoo
                      have hol : (markO e o).length = k := by rw [markO_length, HE.out]
                      rw [hm] at HM4
                      have HMM : Hid (o.length = m + 1) := hm
                      clear hl
                      have hns : ¬ s = k := by omega
                      have hns' : ¬ k = s := by omega
                      have hfin := (HM4.out.set (by simp) s k).set (by simp) k s
                      have HFin : Hid (_) := hfin
                      clear hfin
                      go_wp2_with (first | (go_at_call 51; refine (hopn _).mono ?_; rintro e' w' ⟨rfl, hw'⟩; subst w'))
                      have hfin := HFin.out
                      rw [hol] at hfin
                      go_roundw
                      case rel =>
                        refine ⟨k + 1, _, _, rfl, rfl, by go_num, by omega, o.dropLast, putE (e ++ [(s : Int)]) s (-1) e.length, d ++ [(o.length : Int)], ?_, okO_more (okO_drop HK.out), by rw [putE_length]; simp [HE.out], ?_, ops_drop HO.out, run_next HRun.out HX.out HSS.out⟩
                        · rw [markO_end0 (by rw [HE.out]; exact HK.out) HLL.out, startsI_drop, HE.out]
                          refine ⟨hfin.out, ?_, hfin.apart, hfin.bel⟩
                          have := hfin.opn
                          rw [startsI_length, HMM.out] at this
                          have h5 := owns_shorter this
                          have h6 : (startsI o).dropLast.length = m := by rw [List.length_dropLast, startsI_length, HMM.out]; omega
                          rw [h6]
                          exact h5
                        · have := HMM.out; simp; omega
                      case measure => simp [intOf]; omega
                    · obtain ⟨tt, rfl⟩ : ∃ tt : Nat, u = tt := by
                        have := (HK.out.2 _ (List.mem_of_getLast? hl)).2.1
                        simp only [] at this
                        exact ⟨u.toNat, by omega⟩
                      subst hov
                      go_wp2_with (at_builtin; refine wpList_append_lies _ rfl _ _ 23 rfl w.heap.size 3 i0 (.int .i64 0) 1 8 Tryd.underlying23 hi hz0 hz1 hz2 rfl (by decide) _ _ _ rfl ((hms.out.alloc _).alloc _) ⟨wr.heap.size + 1, 0, none⟩ 1 1 [.int .i64 (-1)] rfl rfl ?c1 ?c2 (by decide) ?c3 ?c4 ?c5 (wr.heap.size + 1 + 1) ?c6 ?_)
                      case c1 =>
                        intro j u hj
                        match j, hj with
                        | 0, hj => simp at hj; subst hj; simp [Addr.add, go_sem]
                      case c2 => intro u hu; simp at hu; subst hu; rfl
                      case c3 => rw [markO_length, HE.out]; unfold maxLen; omega
                      case c4 => rw [markO_length, HE.out]; omega
                      case c5 => have := hms.bel.size; simp; omega
                      case c6 => simp
                      intro g2 cap2 w2 hown2 hgrow2 hat2 hlt2
                      have hms2 := hms.more hown2 hgrow2 hat2
                      have bx : ∀ j v, (wr.alloc (.cells #[.int .i64 19, .int .i64 n, .slice ta t.length tc] 59)).cell? ⟨wr.heap.size, j, none⟩ = some v → w2.cell? ⟨wr.heap.size, j, none⟩ = some v := by
                        intro j v hv
                        refine hgrow2.cell (below_cell _ hv) ?_
                        intro he
                        have := (hms.out.lt wr.heap.size he.symm).2
                        omega
                      have x0 : w2.cell? ⟨wr.heap.size, 0, none⟩ = some (.int .i64 19) := bx 0 _ (by simp [go_sem])
                      have x1 : w2.cell? ⟨wr.heap.size, 1, none⟩ = some (.int .i64 n) := bx 1 _ (by simp [go_sem])
                      have x2 : w2.cell? ⟨wr.heap.size, 2, none⟩ = some (.slice ta t.length tc) := bx 2 _ (by simp [go_sem])
                      have hlw : wr.heap.size < w2.heap.size := by have := hgrow2.size; simp at this; omega
                      have HM2 : Hid (MS w w2 (.slice (some ⟨g2, 0, none⟩) ((markO e o).length + 1) cap2) (.slice oa o.length oc) (markO e o ++ [-1]) (startsI o)) := hms2
                      have HR2 : Hid (Row w2 ta t) := HR.out.below hms2.bel
                      clear bx hms2 hown2 hgrow2 hat2 hms
                      go_wp2_with fail
                      refine (l3One_any 19 n t ta tc w2 hs HR2.out).mono ?_
                      rw [h1]
                      rintro e' w3 ⟨rfl, hb3⟩
                      have y0 : w3.cell? ⟨wr.heap.size, 0, none⟩ = some (.int .i64 19) := by rw [hb3.cell (p := ⟨wr.heap.size, 0, none⟩) hlw]; exact x0
                      have y1 : w3.cell? ⟨wr.heap.size, 1, none⟩ = some (.int .i64 n) := by rw [hb3.cell (p := ⟨wr.heap.size, 1, none⟩) hlw]; exact x1
                      have y2 : w3.cell? ⟨wr.heap.size, 2, none⟩ = some (.slice ta t.length tc) := by rw [hb3.cell (p := ⟨wr.heap.size, 2, none⟩) hlw]; exact x2
                      have HM3 : Hid (MS w w3 (.slice (some ⟨g2, 0, none⟩) ((markO e o).length + 1) cap2) (.slice oa o.length oc) (markO e o ++ [-1]) (startsI o)) := HM2.out.below hb3
                      have HR3 : Hid (Row w3 ta t) := HR2.out.below hb3
                      have hlw3 : wr.heap.size < w3.heap.size := Nat.lt_of_lt_of_le hlw hb3.size
                      clear x0 x1 x2 HM2 HR2 hb3 hlw hlt2
                      go_wp2_with fail
                      refine (l3Within_any 19 n t ta tc o.length w3 hs HR3.out).mono ?_
                      rw [h2]
                      rintro e' w4 ⟨rfl, hb4⟩
                      have z0 : w4.cell? ⟨wr.heap.size, 0, none⟩ = some (.int .i64 19) := by rw [hb4.cell (p := ⟨wr.heap.size, 0, none⟩) hlw3]; exact y0
                      have HM4 : Hid (MS w w4 (.slice (some ⟨g2, 0, none⟩) ((markO e o).length + 1) cap2) (.slice oa o.length oc) (markO e o ++ [-1]) (startsI o)) := HM3.out.below hb4
                      clear y0 y1 y2 HM3 HR3 hb4 hlw3
                      have hopn := fun w => l3Opens_any 19 w
                      rw [h3] at hopn
                      obtain ⟨m, hm⟩ : ∃ m, o.length = m + 1 := ⟨o.length - 1, by have := congrArg List.length (last_split hl); simp at this; omega⟩
                      obtain ⟨go, hoa⟩ : ∃ go, oa = some ⟨go, 0, none⟩ := by
                        have := HM4.out.opn
                        rw [startsI_length, hm] at this
                        obtain ⟨g, c, hg⟩ := ownsRow_succ this
                        injection hg with h1 h2 h3
                        exact ⟨g, h1⟩
                      subst hoa
                      have hoo : w4.ownsRow w.heap.size 3 1 (.slice (some ⟨go, 0, none⟩) (m + 1) oc) (m + 1) (ints (startsI o)) := by
                        have := HM4.out.opn
                        rw [startsI_length, hm] at this
                        exact this
                      have q0 : w4.cell? ⟨go, m, none⟩ = some (.int .i64 s) := owns_at hoo rfl (startsI_last hm hl)
                      have HZ := HK.out.2 _ (List.mem_of_getLast? hl)
                      have hsk : s < k := HZ.1
                      have hzu : s < tt ∧ tt < k := by have := HZ.2.1; simp only [] at this; omega
                      have q1 : w4.cell? ⟨g2, s, none⟩ = some (.int .i64 tt) := owns_at HM4.out.out rfl (at_left _ (markO_last (by rw [HE.out]; exact HK.out) hl))
                      have q2 : w4.cell? ⟨g2, k, none⟩ = some (.int .i64 (-1)) := owns_at HM4.out.out rfl (by rw [List.getElem?_append_right (by rw [markO_length, HE.out]; exact Nat.le_refl _), markO_length, HE.out]; simp)
                      have f1 := owns_frz HM4.out.out rfl s
                      have f2 := owns_frz HM4.out.out rfl k
                      have HOO : Hid (w4.ownsRow w.heap.size 3 1 (.slice (some ⟨go, 0, none⟩) (m + 1) oc) (m + 1) (ints (startsI o))) := hoo
                      have hoc : m + 1 ≤ oc := by
                        rcases hoo.2 with ⟨h0, _⟩ | ⟨_, _, _, h0, _, _, h1, _⟩
                        · cases h0
                        · injection h0 with e1 e2 e3; omega
                      have hocm : oc ≤ 9223372036854775807 := by
                        rcases hoo.2 with ⟨h0, _⟩ | ⟨_, _, _, h0, _, _, _, h1, _⟩
                        · cases h0
                        · injection h0 with e1 e2 e3; unfold maxLen at h1; omega
                      have hm8 : m ≤ 7 := by omega
                      have HLL : Hid (o.getLast? = some (q, s, (tt : Int))) := hl
                      clear HZ hoo
                      have hol : (markO e o).length = k := by rw [markO_length, HE.out]
                      rw [hm] at HM4
                      have HMM : Hid (o.length = m + 1) := hm
                      clear hl
                      have hns : ¬ s = k := by omega
                      have hns' : ¬ k = s := by omega
                      have hnt : ¬ tt = s := by omega
                      have hnt' : ¬ s = tt := by omega
                      have hnk : ¬ tt = k := by omega
                      have hnk' : ¬ k = tt := by omega
                      obtain ⟨ut, hut⟩ : ∃ ut, (markO e o)[tt]? = some ut := ⟨_, List.getElem?_eq_getElem (by rw [markO_length, HE.out]; exact hzu.2)⟩
                      have q3 : w4.cell? ⟨g2, tt, none⟩ = some (.int .i64 ut) := owns_at HM4.out.out rfl (at_left _ hut)
                      have f3 := owns_frz HM4.out.out rfl tt
                      obtain ⟨hz3, hz4⟩ := hzu
                      have hfin := ((HM4.out.set (by simp) tt k).set (by simp) s k).set (by simp) k s
                      have HFin : Hid (_) := hfin
                      clear hfin hut
                      go_wp2_with (first | (go_at_call 51; refine (hopn _).mono ?_; rintro e' w' ⟨rfl, hw'⟩; subst w'))
                      have hfin := HFin.out
                      rw [hol] at hfin
                      go_roundw
                      case rel =>
                        refine ⟨k + 1, _, _, rfl, rfl, by go_num, by omega, o.dropLast, putE (e ++ [(s : Int)]) s tt e.length, d ++ [(o.length : Int)], ?_, okO_more (okO_drop HK.out), by rw [putE_length]; simp [HE.out], ?_, ops_drop HO.out, run_next HRun.out HX.out HSS.out⟩
                        · rw [markO_end1 (by rw [HE.out]; exact HK.out) HLL.out, startsI_drop, HE.out]
                          refine ⟨hfin.out, ?_, hfin.apart, hfin.bel⟩
                          have := hfin.opn
                          rw [startsI_length, HMM.out] at this
                          have h5 := owns_shorter this
                          have h6 : (startsI o).dropLast.length = m := by rw [List.length_dropLast, startsI_length, HMM.out]; omega
                          rw [h6]
                          exact h5
                        · have := HMM.out; simp; omega
                      case measure => simp [intOf]; omega
                · skip
                  subst hov
                  go_wp2_with (at_builtin; refine wpList_append_lies _ rfl _ _ 23 rfl w.heap.size 3 i0 (.int .i64 0) 1 8 Tryd.underlying23 hi hz0 hz1 hz2 rfl (by decide) _ _ _ rfl ((hms.out.alloc _).alloc _) ⟨wr.heap.size + 1, 0, none⟩ 1 1 [.int .i64 (-1)] rfl rfl ?c1 ?c2 (by decide) ?c3 ?c4 ?c5 (wr.heap.size + 1 + 1) ?c6 ?_)
                  case c1 =>
                    intro j u hj
                    match j, hj with
                    | 0, hj => simp at hj; subst hj; simp [Addr.add, go_sem]
                  case c2 => intro u hu; simp at hu; subst hu; rfl
                  case c3 => rw [markO_length, HE.out]; unfold maxLen; omega
                  case c4 => rw [markO_length, HE.out]; omega
                  case c5 => have := hms.bel.size; simp; omega
                  case c6 => simp
                  intro g2 cap2 w2 hown2 hgrow2 hat2 hlt2
                  have hms2 := hms.more hown2 hgrow2 hat2
                  have bx : ∀ j v, (wr.alloc (.cells #[.int .i64 p, .int .i64 n, .slice ta t.length tc] 59)).cell? ⟨wr.heap.size, j, none⟩ = some v → w2.cell? ⟨wr.heap.size, j, none⟩ = some v := by
                    intro j v hv
                    refine hgrow2.cell (below_cell _ hv) ?_
                    intro he
                    have := (hms.out.lt wr.heap.size he.symm).2
                    omega
                  have x0 : w2.cell? ⟨wr.heap.size, 0, none⟩ = some (.int .i64 p) := bx 0 _ (by simp [go_sem])
                  have x1 : w2.cell? ⟨wr.heap.size, 1, none⟩ = some (.int .i64 n) := bx 1 _ (by simp [go_sem])
                  have x2 : w2.cell? ⟨wr.heap.size, 2, none⟩ = some (.slice ta t.length tc) := bx 2 _ (by simp [go_sem])
                  have hlw : wr.heap.size < w2.heap.size := by have := hgrow2.size; simp at this; omega
                  have HM2 : Hid (MS w w2 (.slice (some ⟨g2, 0, none⟩) ((markO e o).length + 1) cap2) (.slice oa o.length oc) (markO e o ++ [-1]) (startsI o)) := hms2
                  have HR2 : Hid (Row w2 ta t) := HR.out.below hms2.bel
                  clear bx hms2 hown2 hgrow2 hat2 hms
                  go_wp2_with fail
                  refine (l3One_any p n t ta tc w2 hs HR2.out).mono ?_
                  rw [h1]
                  rintro e' w3 ⟨rfl, hb3⟩
                  have y0 : w3.cell? ⟨wr.heap.size, 0, none⟩ = some (.int .i64 p) := by rw [hb3.cell (p := ⟨wr.heap.size, 0, none⟩) hlw]; exact x0
                  have y1 : w3.cell? ⟨wr.heap.size, 1, none⟩ = some (.int .i64 n) := by rw [hb3.cell (p := ⟨wr.heap.size, 1, none⟩) hlw]; exact x1
                  have y2 : w3.cell? ⟨wr.heap.size, 2, none⟩ = some (.slice ta t.length tc) := by rw [hb3.cell (p := ⟨wr.heap.size, 2, none⟩) hlw]; exact x2
                  have HM3 : Hid (MS w w3 (.slice (some ⟨g2, 0, none⟩) ((markO e o).length + 1) cap2) (.slice oa o.length oc) (markO e o ++ [-1]) (startsI o)) := HM2.out.below hb3
                  have HR3 : Hid (Row w3 ta t) := HR2.out.below hb3
                  have hlw3 : wr.heap.size < w3.heap.size := Nat.lt_of_lt_of_le hlw hb3.size
                  clear x0 x1 x2 HM2 HR2 hb3 hlw hlt2
                  go_wp2_with fail
                  refine (l3Within_any p n t ta tc o.length w3 hs HR3.out).mono ?_
                  rw [h2]
                  rintro e' w4 ⟨rfl, hb4⟩
                  have z0 : w4.cell? ⟨wr.heap.size, 0, none⟩ = some (.int .i64 p) := by rw [hb4.cell (p := ⟨wr.heap.size, 0, none⟩) hlw3]; exact y0
                  have HM4 : Hid (MS w w4 (.slice (some ⟨g2, 0, none⟩) ((markO e o).length + 1) cap2) (.slice oa o.length oc) (markO e o ++ [-1]) (startsI o)) := HM3.out.below hb4
                  clear y0 y1 y2 HM3 HR3 hb4 hlw3
                  have hopn := fun w => l3Opens_any p w
                  rw [h3] at hopn
                  have HSS : Hid (_) := stp_rest (e := e) h1 h2 h3 h18 h19
                  go_wp2_with (first | (go_at_call 51; refine (hopn _).mono ?_; rintro e' w' ⟨rfl, hw'⟩; subst w'))
                  go_roundw
                  case rel =>
                    refine ⟨k + 1, _, _, rfl, rfl, by go_num, by omega, o, e ++ [-1], d ++ [(o.length : Int)], ?_, okO_more HK.out, by simp [HE.out], ho8, HO.out, run_next HRun.out HX.out HSS.out⟩
                    rw [markO_more _ _ _ (fun s hs => by rw [HE.out]; exact (HK.out.2 s hs).1)]
                    exact HM4.out
                  case measure => simp [intOf]; omega
      · obtain rfl : k = xs.length := by omega
        subst hov
        have HR2 : Hid (runN xs [] [] [] = some (o, e, d)) := by
          show _ = _
          rw [HRun.out, List.drop_of_length_le (Nat.le_refl _)]; rfl
        have HM : Hid (_) := hms
        have hbel := hms.bel
        clear hms HRun
        by_cases ho : o = []
        · subst ho
          by_cases h60 : xs.length ≤ 60
          · go_wp2
            go_ret2
            refine ⟨⟨_, _, rfl, ?_⟩, hbel⟩
            have hn : nestO xs = some (e, d) := by unfold nestO; rw [if_pos h60, HR2.out]
            rw [hn]
            refine ⟨by simp <;> omega, ?_⟩
            have := HM.out.out
            rw [markO_length, HE.out] at this
            exact this
          · go_wp2
            go_ret2
            refine ⟨⟨_, _, rfl, ?_⟩, hbel⟩
            have hn : nestO xs = none := by unfold nestO; rw [if_neg h60]
            rw [hn]
            all_goals first | rfl | (simp <;> omega)
        · have hne : ¬ o.length = 0 := fun h => ho (List.eq_nil_of_length_eq_zero h)
          have hz : ((o.length : Int) == 0) = false := beq_eq_false_iff_ne.2 (by omega)
          go_wp2
          go_ret2
          refine ⟨⟨_, _, rfl, ?_⟩, hbel⟩
          have hn : nestO xs = none := by
            unfold nestO
            rw [HR2.out]
            cases o with
            | nil => exact absurd rfl ho
            | cons => split <;> rfl
          rw [hn]
          all_goals first | rfl | exact hz
end Go.Proofs.YthkkhinmdlmhkaaDoor
