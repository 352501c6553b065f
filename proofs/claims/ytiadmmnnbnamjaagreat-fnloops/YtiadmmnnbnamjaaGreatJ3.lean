/- Small functions of the loops' chapter. -/
import Derived.Test.YtiadmmnnbnamjaaGreatQ3
import Derived.ArgAppend
import Derived.Deep.AppendSrc
import Derived.Test.YtiadmmnnbnamjaaGreatQ4
namespace Go.Proofs.YtiadmmnnbnamjaaGreat
section
open Go Go.RowKit Go.Shelf
set_option linter.unusedVariables false
set_option linter.unusedSimpArgs false
set_option maxRecDepth 100000

theorem size_any (a : Option Addr) (n c : Nat) (w : World) : Calls Tryz.prog 57 #[.agg #[.slice a n c]] w fun e w' => e = .returned (.int .i64 (n : Int)) ∧ Below w.heap.size w w' := by
  go_enter Tryz.func57, Tryz.ntmps57
  go_wp2
  go_ret
  exact ⟨rfl, below1 _ _⟩
/-- the closure that tells who leads to a node -/
theorem leadersOf_any (Bx lb lc n : Nat) (ys : List LV) (B : Nat) (k : Nat) (r : List Nat) (ra : Option Addr) (rc : Nat) (w : World) (hb : w.cell? ⟨Bx, 0, none⟩ = some (.slice (some ⟨lb, 0, none⟩) n lc)) (hs : OwnS w B (.slice (some ⟨lb, 0, none⟩) n lc) ys) (hn : ys.length = n) (hl : n ≤ 1000) (hy : ys[k]? = some ⟨nats r, .slice ra r.length rc⟩) :
    Calls Tryz.prog 55 #[.int .i64 (k : Int), .pointer (some ⟨Bx, 0, none⟩)] w fun e w' => e = .returned (.agg #[(.slice ra r.length rc)]) ∧ Below w.heap.size w w' := by
  have hk : k < n := by rw [← hn]; exact (List.getElem?_eq_some_iff.1 hy).1
  have hc : w.cell? ⟨lb, k, none⟩ = some (.slice ra r.length rc) := Sep.cell hs (List.mem_cons_self ..) rfl (by simp [vals, hy])
  have b1 := below1 w (.cells #[.slice none 0 0] 60)
  have hb1 := cell_below hb b1
  have hc1 := cell_below hc b1
  have B2 := b1.setCell (p := ⟨w.heap.size, 0, none⟩) (Nat.le_refl _) (.slice ra r.length rc)
  clear hs hy
  go_enter Tryz.func55, Tryz.ntmps55
  go_wp2
  refine bodyPost_ret (v := .agg #[(.slice ra r.length rc)]) (by simp [results, Tryz.results55, go_sem, *]) rfl ⟨rfl, ?_⟩
  first | exact B2 | exact below1 _ _
end

section
open Go Go.RowKit Go.Shelf
set_option linter.unusedVariables false
set_option linter.unusedSimpArgs false
set_option maxRecDepth 100000

/-- v is what is left of the row x -/
structure Que (v : Value) (s : List Nat) (x : OR) (pre : List Nat) : Prop where
  row : x = ⟨3, 1, x.v, pre.length + s.length, ints (nats (pre ++ s))⟩
  is : (pre = [] ∧ v = x.v) ∨ ∃ b C k cap, x.v = .slice (some ⟨b, 0, none⟩) (pre.length + s.length) C ∧ v = .slice (some ⟨b, k, none⟩) s.length cap ∧ ((k = pre.length ∧ cap + pre.length = C) ∨ (s = [] ∧ cap = 0))
theorem Que.whole {v : Value} {s : List Nat} : Que v s ⟨3, 1, v, s.length, ints (nats s)⟩ [] := ⟨by simp, .inl ⟨rfl, rfl⟩⟩
/-- v as a slice -/
theorem Que.slice {v : Value} {s pre : List Nat} {x : OR} {w : World} {B : Nat} (q : Que v s x pre) (ho : x.own w B) : ∃ a c, v = .slice a s.length c := by
  rcases q.is with ⟨rfl, rfl⟩ | ⟨b, C, k, cap, _, hv, _⟩
  · have h1 := ho
    rw [q.row] at h1
    obtain ⟨a, c, e⟩ := slice_of_owned h1
    exact ⟨a, c, by simpa using e⟩
  · exact ⟨_, _, hv⟩
/-- where there is something: its first, and what is left -/
theorem Que.cons {v : Value} {a : Nat} {s pre : List Nat} {x : OR} {w : World} {B : Nat} (q : Que v (a :: s) x pre) (ho : x.own w B) : ∃ b cap, v = .slice (some ⟨b, pre.length, none⟩) (s.length + 1) cap ∧ s.length + 1 ≤ cap ∧ w.cell? ⟨b, pre.length, none⟩ = some (.int .i64 (a : Int)) ∧ (∀ k cap', ((k = pre.length + 1 ∧ cap' + 1 = cap) ∨ (cap = 1 ∧ cap' = 0)) → Que (.slice (some ⟨b, k, none⟩) s.length cap') s x (pre ++ [a])) := by
  have h1 := ho
  rw [q.row] at h1
  have h1' : w.ownsRow B 3 1 x.v (pre.length + (s.length + 1)) (ints (nats (pre ++ a :: s))) := h1
  obtain ⟨b, C, hxv, hC⟩ : ∃ b C, x.v = .slice (some ⟨b, 0, none⟩) (pre.length + (s.length + 1)) C ∧ pre.length + (s.length + 1) ≤ C := by
    rcases h1'.2 with ⟨_, h0⟩ | ⟨g, cap, cur, e, _, _, hle, _⟩
    · omega
    · exact ⟨g, cap, e, hle⟩
  have hcell : w.cell? ⟨b, pre.length, none⟩ = some (.int .i64 (a : Int)) := rowT_at h1' (by rw [hxv]; rfl) (by simp [ints, nats])
  have hrow : x = ⟨3, 1, x.v, (pre ++ [a]).length + s.length, ints (nats ((pre ++ [a]) ++ s))⟩ := by
    have := q.row
    rw [this]
    simp
    omega
  obtain ⟨cap, hv, hcap⟩ : ∃ cap, v = .slice (some ⟨b, pre.length, none⟩) (s.length + 1) cap ∧ cap + pre.length = C := by
    rcases q.is with ⟨rfl, rfl⟩ | ⟨b', C', k, cap, hx, hv, hk⟩
    · exact ⟨C, by rw [hxv]; simp, by simp⟩
    · rw [hxv] at hx
      injection hx with e1 e2 e3
      injection e1 with e1
      injection e1 with e1
      subst e1 e3
      rcases hk with ⟨rfl, hk⟩ | ⟨hk, _⟩
      · exact ⟨cap, hv, hk⟩
      · cases hk
  refine ⟨b, cap, hv, by omega, hcell, fun k cap' hk => ⟨hrow, .inr ⟨b, C, k, cap', by rw [hxv]; simp; omega, rfl, ?_⟩⟩⟩
  rcases hk with ⟨rfl, hk⟩ | ⟨hk1, hk2⟩
  · left; simp; omega
  · right
    refine ⟨List.eq_nil_of_length_eq_zero (by omega), hk2⟩
/-- one more at its back -/
theorem Que.append {v : Value} {s pre : List Nat} {x : OR} {w : World} {B : Nat} (l1 : List OR) {l2 : List OR} (q : Que v s x pre) (h : Sep w B (l1 ++ x :: l2)) (hB : B ≤ w.heap.size) (hl : s.length ≤ 1000) (hp : pre.length ≤ 100000) (ty : TypeId) (a : Nat) (nb : Nat) (c : Nat) (hn : News w (some ⟨nb, 0, none⟩) 1 1 [.int .i64 (a : Int)]) :
    ∃ v' w' x' pre', (Builtin.append_ #[35, 35] ty #[v, .slice (some ⟨nb, 0, none⟩) 1 c]).run Tryz.prog w = .ok v' w' ∧ Sep w' B (l1 ++ x' :: l2) ∧ Que v' (s ++ [a]) x' pre' ∧ pre'.length ≤ pre.length ∧ w.grownBy w' x.v.ownBlock ∧ (∀ g, x'.v.ownBlock = some g → x.v.ownBlock = some g ∨ w.heap.size ≤ g) := by
  have ho : x.own w B := h.1 x (by simp)
  have hos : w.ownsRow B 3 1 x.v (pre.length + s.length) (ints (nats (pre ++ s))) := by have := ho; rw [q.row] at this; exact this
  rcases q.is with ⟨rfl, rfl⟩ | ⟨b, C, k, cap, hxv, rfl, hk⟩
  · -- the whole row
    have hos' : w.ownsRow B 3 1 x.v s.length (ints (nats s)) := by simpa using hos
    obtain ⟨va, vc, w', hr, h2, h3, h4⟩ := run_append_more eltInt w ty B x.v s.length _ hos' _ 1 c _ hn (by omega) hB
    have e1 : ints (nats s) ++ [.int .i64 (a : Int)] = ints (nats (s ++ [a])) := by simp [ints, nats]
    rw [e1] at h2
    refine ⟨_, w', ⟨3, 1, .slice va (s.length + 1) vc, (s ++ [a]).length, ints (nats (s ++ [a]))⟩, [], hr, ?_, ?_, by simp, h3, h4⟩
    · exact h.turn l1 (Below.refl _ _) h3 _ (by show World.ownsRow _ _ _ _ _ _ _; rw [List.length_append]; exact h2) h4
    · exact Que.whole
  · obtain ⟨i, z, hu, hi, hz, hs, hby, hzs, hp0, hb1⟩ := eltInt
    obtain ⟨hnl, h1c, hne⟩ := hn
    obtain ⟨ad, e0, hcs⟩ := hne.resolve_left (by simp)
    injection e0 with e0
    subst e0
    have hbw : b < w.heap.size := (hos.lt b (by rw [hxv]; rfl)).2
    have hcell : ∀ (j y : Nat), s[j]? = some y → w.cell? ⟨b, pre.length + j, none⟩ = some (.int .i64 (y : Int)) := fun j y hy => rowT_at hos (by rw [hxv]; rfl) (by simp [ints, nats, List.getElem?_append_right, hy])
    by_cases hroom : s.length + 1 ≤ cap
    · -- in its place
      obtain ⟨rfl, hC⟩ : k = pre.length ∧ cap + pre.length = C := by
        rcases hk with hk | ⟨_, hk⟩
        · exact hk
        · omega
      have hos2 := hos
      rw [hxv] at hos2
      obtain ⟨w', hr, h2, h3⟩ := run_append_fits (P := Tryz.prog) w B 35 ty 3 i 1 hu hi hs b (pre.length + s.length) C _ hos2 ⟨nb, 0, none⟩ 1 c [.int .i64 (a : Int)] (by simp) hcs h1c (by omega)
      have hsrc : Src Tryz.prog i.size 35 (.slice (some ⟨nb, 0, none⟩) 1 c) 1 [.int .i64 (a : Int)] w := by rw [hs]; exact Src.ofSlice _ hu ⟨nb, 0, none⟩ 1 c _ (by simp) hcs h1c
      have hthere : (w.cell? ⟨b, pre.length + s.length, none⟩).isSome = true := by
        rcases hos2.2 with ⟨e, _⟩ | ⟨g, cp, cur, e, _, hg, _, _, hsz, _⟩
        · cases e
        · injection e with e1 _ e3
          injection e1 with e1
          injection e1 with e1
          subst e1 e3
          have hlt : pre.length + s.length < cur.size := by omega
          simp [World.cell?, hg, hlt]
      have hfz : w.frozen? ⟨b, pre.length + s.length, none⟩ = false := rowT_frz hos2 rfl _
      have eF := run_append_room_src (P := Tryz.prog) w 35 35 ty 3 i hu hi b 0 (pre.length + s.length) C _ 1 _ hsrc (by omega) (fun j hj => by simp at hj; subst hj; rw [hs]; simpa using hthere) (fun j hj => by simp at hj; subst hj; rw [hs]; simpa using hfz)
      have eQ := run_append_room_src (P := Tryz.prog) w 35 35 ty 3 i hu hi b pre.length s.length cap _ 1 _ hsrc hroom (fun j hj => by simp at hj; subst hj; rw [hs]; simpa using hthere) (fun j hj => by simp at hj; subst hj; rw [hs]; simpa using hfz)
      rw [hs] at eF eQ
      simp only [Nat.mul_one, Nat.zero_add] at eF eQ
      rw [hr] at eF
      injection eF with _ ew
      rw [← ew] at eQ
      have e1 : ints (nats (pre ++ s)) ++ [.int .i64 (a : Int)] = ints (nats (pre ++ (s ++ [a]))) := by simp [ints, nats]
      rw [e1] at h2
      have e2 : pre.length + (s ++ [a]).length = pre.length + s.length + 1 := by simp; omega
      refine ⟨_, w', ⟨3, 1, .slice (some ⟨b, 0, none⟩) (pre.length + s.length + 1) C, pre.length + (s ++ [a]).length, ints (nats (pre ++ (s ++ [a])))⟩, pre, eQ, ?_, ⟨rfl, .inr ⟨b, C, pre.length, cap, by rw [e2], by rw [List.length_append]; rfl, .inl ⟨rfl, hC⟩⟩⟩, Nat.le_refl _, by rw [hxv]; exact h3, fun g hg => .inl (by rw [hxv]; exact hg)⟩
      exact h.turn l1 (Below.refl _ _) (by rw [hxv]; exact h3) _ (by show World.ownsRow _ _ _ _ _ _ _; rw [e2]; exact h2) (fun g hg => .inl (by rw [hxv]; exact hg))
    · -- in a new row
      have holds : ∀ (j : Nat) u, (ints (nats s))[j]? = some u → w.cell? ((⟨b, k, none⟩ : Addr).add j) = some u := by
        intro j u hj
        rcases hk with ⟨rfl, _⟩ | ⟨rfl, _⟩
        · rw [addr_add]
          obtain ⟨y, hy, rfl⟩ : ∃ y, s[j]? = some y ∧ u = .int .i64 (y : Int) := by
            simp only [ints, nats, List.getElem?_map, Option.map_map] at hj
            obtain ⟨y, hy, e⟩ := Option.map_eq_some_iff.1 hj
            exact ⟨y, hy, e.symm⟩
          exact hcell j y hy
        · simp [ints, nats] at hj
      obtain ⟨v', w', hr, h2, h3⟩ := run_append_arg_grows (P := Tryz.prog) w 35 ty 3 i z 1 8 hu hi hz hs hby hzs hp0 ⟨b, k, none⟩ s.length cap (ints (nats s)) (by simp [ints, nats]) holds ⟨nb, 0, none⟩ 1 c [.int .i64 (a : Int)] (by simp) hcs (by omega) (by unfold maxLen; omega) (by omega)
      have e1 : ints (nats s) ++ [.int .i64 (a : Int)] = ints (nats (s ++ [a])) := by simp [ints, nats]
      rw [e1] at h2
      refine ⟨v', w', ⟨3, 1, v', (s ++ [a]).length, ints (nats (s ++ [a]))⟩, [], hr, ?_, Que.whole, by simp, ⟨h3.os, h3.tape, h3.output, h3.size, fun k hk _ => h3.block k hk (by simp)⟩, fun g hg => .inr (h2.lt g hg).1⟩
      · refine h.turn l1 (Below.refl _ _) ⟨h3.os, h3.tape, h3.output, h3.size, fun k hk _ => h3.block k hk (by simp)⟩ _ (by show World.ownsRow _ _ _ _ _ _ _; rw [List.length_append]; exact owns_mono h2 hB) (fun g hg => .inr (h2.lt g hg).1)
end

section
open Go Go.RowKit Go.Shelf
attribute [local go_sem] Oper.semAt_some
set_option linter.unusedVariables false
set_option linter.unusedSimpArgs false
set_option maxRecDepth 100000

theorem Only.grown {P : Nat → Prop} {w V V' : World} (h : Only P w V) {row : Option Nat} (hg : V.grownBy V' row) (hr : ∀ r, row = some r → w.heap.size ≤ r ∨ P r) : Only P w V' :=
  ⟨hg.os.trans h.os, hg.tape.trans h.tape, hg.output.trans h.output, Nat.le_trans h.size hg.size, fun k hk hn => (hg.block k (Nat.lt_of_lt_of_le hk h.size) (fun e => by rcases hr k e.symm with h1 | h1; omega; exact hn h1)).trans (h.block k hk hn)⟩
theorem wpListIn_append_que {F : Fence} {nF : Nat} {w : World} {ops : Array Oper} {rest : List Oper} {o : Oper} {a : Act} {Q : Exit → Act → World → Prop} (hgd : o.guard = none) (s x : Operand)
    (ho : o.op = .call { callee := .builtin .append, args := #[s, x], argTypes := #[35, 35] })
    (B : Nat) (l1 : List OR) {v : Value} {t pre : List Nat} {y : OR} {l2 : List OR} (q : Que v t y pre) (h : Sep w B (l1 ++ y :: l2)) (hs : a.eval s = v) {nb c k : Nat} (hn : News w (some ⟨nb, 0, none⟩) 1 1 [.int .i64 (k : Int)]) (hx : a.eval x = .slice (some ⟨nb, 0, none⟩) 1 c) (hl : t.length ≤ 1000) (hp : pre.length ≤ 100000) (hB : B ≤ w.heap.size)
    (kk : ∀ v' w' y' pre', Sep w' B (l1 ++ y' :: l2) → Que v' (t ++ [k]) y' pre' → pre'.length ≤ pre.length → w.grownBy w' y.v.ownBlock → (∀ g, y'.v.ownBlock = some g → y.v.ownBlock = some g ∨ w.heap.size ≤ g) → wpListIn F nF Tryz.prog ops Q rest (a.put o.dst v') w') : wpListIn F nF Tryz.prog ops Q (o :: rest) a w := by
  refine wpListIn_plain hgd fun K hK' => ?_
  obtain ⟨v', w', y', pre', hr, h1, h2, h3, h4, h5⟩ := Que.append l1 q h hB hl hp o.type k nb c hn
  unfold Oper.wpIn
  refine ⟨?_, ?_⟩
  · simp [Oper.about, ho, resolve, Target.leads, Sem.run_pure]
  · rw [Oper.semAt_plain F _ _ (by rw [ho]; intro c hc'; cases hc')]
    simp [execOp, ho, resolve, invoke, builtin, hs, hx, hr, Result.andThen]
    exact hK' _ _ (kk v' w' y' pre' h1 h2 h3 h4 h5)
set_option maxHeartbeats 4000000 in
theorem appendSeq_any (v : Value) (s pre : List Nat) (x : OR) (l1 l2 : List OR) (B Bs : Nat) (sa : Option Addr) (sc : Nat) (L : List Nat) (w : World) (q : Que v s x pre) (h : Sep w B (l1 ++ x :: l2)) (hB : B ≤ w.heap.size) (hsl : s.length + L.length ≤ 1000) (hp : pre.length ≤ 100000)
    (hc : w.cell? ⟨Bs, 0, none⟩ = some (.slice sa L.length sc)) (hr : Row w sa (nats L)) (hrow : ∀ b off, sa = some ⟨b, off, none⟩ → x.v.ownBlock ≠ some b) :
    Calls Tryz.prog 84 #[v, .func (.func 94) #[] #[.pointer (some ⟨Bs, 0, none⟩)]] w fun e w' => ∃ v' x' pre', e = .returned v' ∧ Sep w' B (l1 ++ x' :: l2) ∧ Que v' (s ++ L) x' pre' ∧ pre'.length ≤ pre.length ∧ Only (fun b => x.v.ownBlock = some b) w w' ∧ (∀ g, x'.v.ownBlock = some g → x.v.ownBlock = some g ∨ w.heap.size ≤ g) := by
  have hxo : x.own w B := h.1 x (by simp)
  obtain ⟨va, vc, rfl⟩ := q.slice hxo
  have hBs : Bs < w.heap.size := World.block_lt_of_cell? w _ hc
  have hxb : ∀ k, x.v.ownBlock = some k → k < w.heap.size := fun k hk => (World.ownsRow.lt hxo k hk).2
  have hlb : ∀ y ∈ l1 ++ x :: l2, ∀ k, y.v.ownBlock = some k → k < w.heap.size := fun y hy k hk => (Sep.size h hy hk).2
  have hrb : L ≠ [] → ∀ b off, sa = some ⟨b, off, none⟩ → b < w.heap.size := fun hne b off e => by
    obtain ⟨b', off', e', hb', _⟩ := hr.at (by intro e; apply hne; have := congrArg List.length e; rw [nats_length] at this; exact List.eq_nil_of_length_eq_zero this)
    rw [e] at e'
    cases e'
    exact hb'
  obtain ⟨X, hX⟩ : ∃ X, w.alloc (.cells #[.slice va s.length vc] 35) = X := ⟨_, rfl⟩
  have zX : X.heap.size = w.heap.size + 1 := by rw [← hX]; simp
  have bX : Below w.heap.size w X := by rw [← hX]; exact below1 _ _
  have xb : Boxed X w.heap.size 35 (.slice va s.length vc) := by rw [← hX]; exact Boxed.new w 35 _
  have HS := hid (And.intro h (And.intro q (And.intro hr hlb)))
  clear h hxo hlb
  refine (callsIn_wide (n := 8)).1 ?_
  refine callsIn_of_wp_marks Tryz.func84 rfl trivial ?_ rfl
  simp only [Tryz.ntmps84, List.size_toArray, List.length_cons, List.length_nil, Nat.reduceAdd, Nat.reduceSub, Array.replicate_succ, Array.replicate_zero, List.push_toArray, List.append_toArray, List.nil_append, List.cons_append]
  gi_wp2
  try rw [hX]
  refine wpIn_rangeFunc_ownF rfl (by omega) (gf := 94) (lb := #[.pointer (some ⟨Bs, 0, none⟩)]) rfl trivial (enters_of Tryz.func94 (by kernel_rfl) rfl)
    (values_keep (fun u : Nat => (u : Int)) _ (by omega) Bs sa sc L (by omega) (fun W W' => L ≠ [] → ∀ b off, sa = some ⟨b, off, none⟩ → W'.heap[b]? = W.heap[b]?) ?keep X (HS.out.2.2.1.below bX) (by omega) (cell_below hc bX)) (fun {_ _ _} h k hne b off e => (k hne b off e).trans (h hne b off e)) (fun V l o o' hl ho _ _ hne b off e => World.putObj_heap_other (by have := hrb hne b off e; omega)) (Below.refl _ _) (fun _ => rfl)
    (fun pr V => (∃ v' x' pre', Boxed V w.heap.size 35 v' ∧ Sep V B (l1 ++ x' :: l2) ∧ Que v' (s ++ pr) x' pre' ∧ pre'.length ≤ pre.length ∧ (∀ g, x'.v.ownBlock = some g → x.v.ownBlock = some g ∨ X.heap.size ≤ g)) ∧ Only (fun b => x.v.ownBlock = some b) w V)
    (fun _ _ _ => False)
    (fun t A A' row hs hg hr => by
      obtain ⟨⟨v', x', pre', h1, h2, h3, h4, h5⟩, h6⟩ := hs
      exact ⟨⟨v', x', pre', h1.kept hg (fun e => by have := (hr _ e.symm).1; omega), Sep.calm h2 hg (fun r e => (hr r e).2), h3, h4, h5⟩, h6.grown hg (fun r e => .inl (by have := (hr r e).1; omega))⟩)
    (fun _ _ _ _ _ hs _ _ => hs)
    ⟨⟨_, x, pre, xb, Sep.below HS.out.1 bX, by simpa using HS.out.2.1, Nat.le_refl _, fun g hg => .inl hg⟩, Only.of_below bX⟩
    (fun y => { tmps := #[Value.slice va s.length vc, Value.func (Fn.func 94) #[] #[Value.pointer (some { block := Bs, off := 0 })], Value.pointer (some { block := w.heap.size, off := 0 }), undef, Value.slice none 0 0, .int .i64 (y : Int), Value.func (Fn.func 94) #[] #[Value.pointer (some { block := Bs, off := 0 })], .int .i64 (y : Int), undef, undef, undef, undef, undef], defers := [] }) ?assign ?body ?done ?stop
  case keep =>
    intro V V' hr hs
    by_cases hne : L = []
    · subst hne; exact .inl rfl
    · rcases hr with hr | ⟨b, off, rfl, hcs⟩
      · exact .inl hr
      · exact .inr ⟨b, off, rfl, fun i hi => by rw [cell_same (p := ⟨b, off + i, none⟩) (hs hne b off rfl)]; exact hcs i hi⟩
  case assign =>
    intro l y W K hK
    gi_wp2
    exact hK
  case body =>
    rintro l pr y V ⟨⟨v', x', pre', h1, h2, h3, h4, h5⟩, h6⟩ hlen
    obtain ⟨M, hM⟩ : ∃ M, s ++ pr = M := ⟨_, rfl⟩
    have hlen2 : M.length ≤ 1000 := by rw [← hM, List.length_append]; omega
    rw [hM] at h3
    have HM := hid hM
    clear hM
    have hxo' : x'.own V B := h2.1 x' (by simp)
    obtain ⟨ua, uc, rfl⟩ := h3.slice hxo'
    have c1 := h1.cell
    have hV := h6.size
    have hbx : w.heap.size < V.heap.size := h1.lt
    obtain ⟨A, hA⟩ : ∃ A, V.alloc (.cells #[.int .i64 (y : Int)] 3) = A := ⟨_, rfl⟩
    have bA : Below V.heap.size V A := by rw [← hA]; exact below1 _ _
    have HSA := hid (Sep.below h2 bA)
    have HN1 : Hid (News A (some ⟨V.heap.size, 0, none⟩) 1 1 [.int .i64 (y : Int)]) := by rw [← hA]; exact News.one V _ 3 _ rfl rfl
    have hbA := boxed_below h1 bA
    have zA : B ≤ A.heap.size := by have := bA.size; omega
    have hxne : x'.v.ownBlock ≠ some w.heap.size := fun e => by
      rcases h5 _ e with h | h
      · have := hxb _ h; omega
      · omega
    have HQ := hid (And.intro h1 (And.intro h2 (And.intro h3 (And.intro h4 (And.intro h5 (And.intro h6 hxo'))))))
    clear h1 h2 h4 h5 h6 hxo'
    gi_wp2_with (gi_at_builtin; refine wpListIn_append_que rfl _ _ rfl B l1 HQ.out.2.2.1 HSA.out rfl HN1.out rfl hlen2 (by have := HQ.out.2.2.2.1; omega) zA ?_; intro v2 w5 y2 pre2 hs2 hq2 hp2 hg2 hn2; obtain ⟨ua2, uc2, rfl⟩ := hq2.slice (hs2.1 y2 (by simp)); have hb5 := hbA.kept hg2 (fun e => hxne e.symm); have c5 := hb5.cell; have f5 := hb5.frozen)
    have h5 := HQ.out.2.2.2.2.1
    have hA1 : V.heap.size ≤ A.heap.size := bA.size
    refine ⟨((keeps_below bA).trans (KeepsOthers.of_grownBy hg2 (fun j o e ho => by obtain ⟨c', fz, hc⟩ := own_kind (owns_below HQ.out.2.2.2.2.2.2 bA) e; rw [hc] at ho; cases ho; rfl))).trans (KeepsOthers.setCell _ _ _), fun hne b off e => ?_, ⟨_, y2, pre2, hb5.set _, (Only.setCell w5 w.heap.size 0 _).sep hs2 (fun z hz k hk ek => ?_), by rw [← List.append_assoc, HM.out]; rw [List.length_append] at hq2; exact hq2, Nat.le_trans hp2 HQ.out.2.2.2.1, fun g hg => ?_⟩, ((HQ.out.2.2.2.2.2.1.grown (grownBy_of_below bA none) (fun r e => by cases e)).grown hg2 (fun r e => ?_)).grown (grownBy_setCell' w5 w.heap.size _) (fun r e => by cases e; exact .inl (Nat.le_refl _))⟩
    · have hbw := hrb hne b off e
      rw [Below.heap_setCell _ _ _ _ (show b ≠ w.heap.size by omega), hg2.block b (by omega) (fun e2 => ?_), bA.block b (by omega)]
      rcases h5 b e2.symm with h | h
      · exact hrow b off e h
      · omega
    · subst ek
      rcases List.mem_append.1 hz with hz | hz
      · have := HS.out.2.2.2 z (List.mem_append_left _ hz) _ hk; omega
      · rcases List.mem_cons.1 hz with rfl | hz
        · rcases hn2 _ hk with h | h
          · exact hxne h
          · omega
        · have := HS.out.2.2.2 z (List.mem_append_right _ (List.mem_cons_of_mem _ hz)) _ hk; omega
    · rcases hn2 g hg with h | h
      · exact h5 g h
      · exact .inr (by omega)
    · rcases h5 r e with h | h
      · exact .inr h
      · exact .inl (by omega)
  case done =>
    rintro Dd xs V hDd rfl ⟨⟨v', x', pre', h1, h2, h3, h4, h5⟩, h6⟩ hK
    obtain ⟨ua, uc, rfl⟩ := h3.slice (h2.1 x' (by simp))
    rw [List.length_append] at h3
    have c1 := h1.cell
    gi_wp2
    refine ⟨by simp, .inl ⟨_, _, rfl, run_takeDeferred hK, ?_⟩⟩
    exact ⟨.slice ua (s.length + xs.length) uc, by simp [results, Tryz.results84, go_sem], .slice ua (s.length + xs.length) uc, x', pre', rfl, Sep.calm h2 (grownBy_putObj' V Dd _) (fun r e => by cases e; exact ⟨_, hK, rfl⟩), h3, h4, h6.grown (grownBy_putObj' V Dd _) (fun r e => by cases e; exact .inl (by omega)), fun g hg => (h5 g hg).imp id (fun h => by omega)⟩
  case stop =>
    rintro D c pre W _ _ h _
    exact h.elim
end

section
open Go Go.RowKit Go.Shelf
attribute [local go_sem] Oper.semAt_some
set_option linter.unusedVariables false
set_option linter.unusedSimpArgs false
set_option maxRecDepth 100000

set_option maxHeartbeats 4000000 in
theorem starts_any {g : List (List Nat)} (G : Gr g) (a : Option Addr) (c : Nat) (w : World) (h : GRow w a g) :
    Calls Tryz.prog 56 #[.agg #[.slice a g.length c]] w fun e w' => ∃ va vc ys P D, e = .returned (.slice va g.length vc) ∧ OwnS w' w.heap.size (.slice va g.length vc) ys ∧ lists ys = natsL P ∧ IsDoms g D ∧ Came g.length (backL g D) P ∧ Below w.heap.size w w' := by
  obtain ⟨i0, hi, hz0, hz1, hz2⟩ := info_parts info58
  have hgm := G.most
  have H := hid h
  clear h
  refine (callsIn_wide (n := 14)).1 ?_
  refine callsIn_of_wp_marks Tryz.func56 rfl trivial ?_ rfl
  simp only [Tryz.ntmps56, List.size_toArray, List.length_cons, List.length_nil, Nat.reduceAdd, Nat.reduceSub, Array.replicate_succ, Array.replicate_zero, List.push_toArray, List.append_toArray, List.nil_append, List.cons_append]
  have b0 := below1 w (.cells #[.slice a g.length c] 25)
  have z0 : (w.alloc (.cells #[.slice a g.length c] 25)).heap.size = w.heap.size + 1 := by simp
  have c0 : (w.alloc (.cells #[.slice a g.length c] 25)).cell? ⟨w.heap.size, 0, none⟩ = some (.slice a g.length c) := by simp [go_sem]
  gi_wp2_with (first | (gi_at_make; refine wpListIn_made _ rfl _ 68 rfl (w.heap.size + 1) 60 i0 (.agg #[.slice none 0 0]) 1 Tryz.underlying68 hi hz0 hz1 g.length rfl (by rw [hz2]; omega) (by unfold maxLen; omega) (by simp) ?_; intro w1 hown1 hgrow1; have hB1 : Below (w.heap.size + 1) (w.alloc (.cells #[.slice a g.length c] 25)) w1 := (Below.refl _ _).grown hgrow1 (by omega) (fun k hk => by cases hk); have c1 : ∀ o, (w1.alloc o).cell? ⟨w.heap.size, 0, none⟩ = some (.slice a g.length c) := fun o => cell_below (by rw [hB1.cell (p := ⟨w.heap.size, 0, none⟩) (by show w.heap.size < _; omega)]; exact c0) (below1 w1 o)) | (refine ⟨trivial, ?_⟩; gi_at_call 83; refine (callsIn_wide.2 (backEdgesIn_any G a c _ (LRow.below H.out (bstep' (b0.trans (hB1.mono (by omega))) (below1 w1 _))))).mono ?_; rintro e X ⟨Bd, db, dc, ds, D, rfl, hbk⟩))
  have hr1 : w.heap.size + 1 < w1.heap.size := (hown1.lt (w.heap.size + 1) (by rw [z0]; rfl)).2
  have BW1 : Below w.heap.size w w1 := b0.trans (hB1.mono (by omega))
  have HO1 : Hid (OwnS w1 (w.heap.size + 1) (.slice (some ⟨w.heap.size + 1, 0, none⟩) g.length g.length) (noLists g.length)) := by
    refine ownS_start ?_
    rw [z0] at hown1
    rw [← made_sets]
    exact hown1
  have z2 : (w1.alloc (.cells #[.slice (some ⟨w.heap.size + 1, 0, none⟩) g.length g.length] 68)).heap.size = w1.heap.size + 1 := by simp
  have bX : Below w1.heap.size w1 X := (below1 w1 _).trans (hbk.below.mono (by omega))
  have xb : Boxed X w1.heap.size 68 (.slice (some ⟨w.heap.size + 1, 0, none⟩) g.length g.length) := boxed_below (Boxed.new w1 68 _) hbk.below
  have hgX : w1.heap.size + 1 < X.heap.size := by have h1 : (w1.alloc (.cells #[.slice (some ⟨w.heap.size + 1, 0, none⟩) g.length g.length] 68)).heap.size < X.heap.size := World.block_lt_of_cell? X _ hbk.box; omega
  have hdX : Bd < X.heap.size := World.block_lt_of_cell? X _ hbk.dbox
  have hfar := hbk.far
  rw [z2] at hfar
  have xbox := hbk.box
  rw [z2] at xbox
  have HK := hid hbk
  have BX : Below w.heap.size w X := BW1.trans (bX.mono (by omega))
  have HOX := hid (Sep.below HO1.out bX)
  clear hown1 hgrow1 hB1 c1 HO1 c0 z0 b0 hbk
  refine range_own rfl (by omega) (gf := 100) (lb := #[.pointer (some ⟨w1.heap.size + 1, 0, none⟩), .pointer (some ⟨Bd, 0, none⟩)]) rfl trivial (enters_of Tryz.func100 (by kernel_rfl) rfl)
    (back_own G a c D HK.out.doms _ (by omega) (w1.heap.size + 1) Bd db dc _ ds (fun k => k < w.heap.size ∨ (w1.heap.size + 1 ≤ k ∧ k < X.heap.size)) w X H.out BX (fun k hk => .inl hk) (.inr ⟨Nat.le_refl _, hgX⟩) (.inr ⟨by omega, hdX⟩) (fun k hk => by have := BX.size; omega) xbox HK.out.dbox HK.out.own HK.out.are (fun y hy k hk => by have := Sep.size HK.out.own hy hk; rw [z2] at this; exact .inr ⟨by omega, this.2⟩)) (fun k hk => by have := BX.size; omega) (Below.refl _ _) (fun _ => rfl)
    (fun T pre V => ∃ ys P, OwnS V (w.heap.size + 1) (.slice (some ⟨w.heap.size + 1, 0, none⟩) g.length g.length) ys ∧ lists ys = natsL P ∧ Came g.length (pre.map (·.1)) P ∧ (∀ y ∈ ys, ∀ b, y.v.ownBlock = some b → T ≤ b) ∧ Boxed V w1.heap.size 68 (.slice (some ⟨w.heap.size + 1, 0, none⟩) g.length g.length) ∧ Below w.heap.size w V ∧ T ≤ V.heap.size)
    (fun _ _ _ => False)
    (fun T s A B row hs hg hr => by
      obtain ⟨ys, P, h1, h2, h3, h4, h5, h6, h7⟩ := hs
      exact ⟨ys, P, Sep.calm h1 hg (fun r e => (hr r e).2), h2, h3, h4, h5.kept hg (fun e => by have := (hr _ e.symm).1; omega), h6.grown hg h6.size (fun k e => by have := (hr _ e).1; have := BX.size; omega), Nat.le_trans h7 hg.size⟩)
    (fun _ _ _ _ _ hs _ _ => hs)
    (fun W' hg => ⟨noLists g.length, List.replicate g.length [], Sep.calm HOX.out hg (fun r e => by cases e), lists_noLists _, Came.begin _, fun y hy b hb => (by obtain rfl : y = ⟨[], .slice none 0 0⟩ := List.eq_of_mem_replicate hy; cases hb), xb.kept hg (by simp), BX.grown hg BX.size (fun k e => by cases e), Nat.le_refl _⟩)
    (fun x => { tmps := #[Value.agg #[Value.slice a g.length c], Value.pointer (some { block := w.heap.size, off := 0 }), Value.slice none 0 0, Value.pointer (some { block := w1.heap.size, off := 0 }), .int .i64 (x.1.1 : Int), .int .i64 (x.1.2 : Int), Value.pointer (some { block := w.heap.size, off := 0 }), Value.slice a g.length c, Value.int IntKind.i64 ↑g.length, Value.slice (some { block := w.heap.size + 1, off := 0 }) g.length g.length, Value.agg #[Value.slice a g.length c], Value.func (Fn.func 100) #[] #[Value.pointer (some { block := w1.heap.size + 1, off := 0 }), Value.pointer (some { block := Bd, off := 0 })], .int .i64 (x.1.1 : Int), .int .i64 (x.1.2 : Int), undef, undef, undef, undef, undef, undef], defers := [] }) ?assign ?body ?done ?stop
  case assign =>
    intro l x W K hK
    gi_wp2
    exact hK
  case body =>
    rintro l T pre x V hT ⟨ys, P, h1, h2, h3, h4, h5, h6, h7⟩ hlen
    have hto : x.1.2 < g.length := by obtain ⟨_, lst, hl, hv⟩ := x.2; exact G.below _ lst hl _ hv
    have hyl : ys.length = g.length := by have := congrArg List.length h2; rw [lists_length] at this; simp [natsL, h3.1] at this; exact this
    obtain ⟨r, hr⟩ : ∃ r, P[x.1.2]? = some r := ⟨_, List.getElem?_eq_getElem (by rw [h3.1]; exact hto)⟩
    obtain ⟨sv, hsv⟩ := own_of_lists h2 hr
    have hrs := (h3.2 _ r hr).1
    have hrl : r.length ≤ 1000 := by
      have h8 := nodup_le (n := g.length) (rising_nodup hrs) (fun k hk => by
        obtain ⟨y, hy, e⟩ := List.mem_map.1 (((h3.2 _ r hr).2 k).1 hk)
        have hy2 := y.2.1
        rw [e] at hy2
        exact RchW.lt G hy2)
      omega
    have hf := ownS_front hsv h1
    rw [hyl] at hf
    have HA := hid (add_any 60 1 (w.heap.size + 1) g.length g.length x.1.2 (vals ys) sv r x.1.1 _ (w.heap.size + 1) V (by simpa [rowL, nats_length] using hf) (by simp [vals, hsv]) hrs hrl (by have := h6.size; omega))
    have c5 := h5.cell
    have HQ := hid (And.intro h1 (And.intro h2 (And.intro h3 (And.intro h4 (And.intro h5 (And.intro h6 (And.intro hr (And.intro hsv hyl))))))))
    clear h1 h2 h3 h4 h5 h6 hr hsv hf hyl
    gi_wp2_with (refine ⟨trivial, ?_⟩; gi_at_call 74; refine (CallsIn.inRound l (callsIn_wide.2 HA.out)).mono ?_; rintro e Z ⟨rfl, sv', hs', honly, hnew⟩)
    obtain ⟨h1, h2, h3, h4, h5, h6, hr, hsv, hyl⟩ := HQ.out
    have hsm := List.mem_of_getElem? hsv
    have far : ∀ k, sv.ownBlock = some k → T ≤ k := fun k hk => h4 _ hsm k hk
    have kind : ∀ k o, V.heap[k]? = some o → o.isCells = false → ¬ (k = w.heap.size + 1 ∨ sv.ownBlock = some k) := by
      rintro k o hk ho (e | e)
      · obtain ⟨c', fz, hc⟩ := own_kind (h1.1 ⟨60, 1, .slice (some ⟨w.heap.size + 1, 0, none⟩) g.length g.length, ys.length, vals ys⟩ (by simp)) (show (Value.slice (some ⟨w.heap.size + 1, 0, none⟩) g.length g.length).ownBlock = some k by rw [e]; rfl)
        rw [hc] at hk; cases hk; simp [Obj.isCells] at ho
      · obtain ⟨c', fz, hc⟩ := own_kind (h1.1 (rowL ⟨nats r, sv⟩) (List.mem_cons_of_mem _ (List.mem_map_of_mem hsm))) (show (rowL ⟨nats r, sv⟩).v.ownBlock = some k from e)
        rw [hc] at hk; cases hk; simp [Obj.isCells] at ho
    have hzV := h6.size
    have hbX := BX.size
    refine ⟨⟨honly.size, fun k o hk ho => (honly.block k (Array.getElem?_eq_some_iff.1 hk).1 (kind k o hk ho)).trans hk⟩, ⟨⟨honly.os, honly.tape, honly.output, honly.size, fun k hk => absurd hk (by omega)⟩, fun k hk => honly.block k (by omega) ?_⟩, ys.set x.1.2 ⟨nats (putL r x.1.1), sv'⟩, P.set x.1.2 (putL r x.1.1), ownS_back hsv ?_, ?_, ?_, ?_, ?_, ?_, Nat.le_trans h7 honly.size⟩
    · rintro (e | e)
      · omega
      · have := far k e; omega
    · rw [hyl]
      rw [List.map_take, List.map_drop]
      show Sep Z _ (_ :: ⟨3, 1, sv', (nats (putL r x.1.1)).length, ints (nats (putL r x.1.1))⟩ :: _)
      rw [nats_length]
      exact hs'
    · rw [lists_set, h2, natsL_set]
    · rw [List.map_append]
      exact h3.add hr
    · intro y hy b hb
      rcases List.mem_or_eq_of_mem_set hy with hy | rfl
      · exact h4 y hy b hb
      · rcases hnew b hb with h | h
        · exact far b h
        · omega
    · refine (honly.block w1.heap.size (by omega) ?_).trans h5
      rintro (e | e)
      · omega
      · have := far _ e; omega
    · refine honly.below h6 (fun k hk => ?_)
      rcases hk with e | e
      · omega
      · have := far k e; omega
  case done =>
    rintro Dd T xs V hDd hS ⟨ys, P, h1, h2, h3, h4, h5, h6, h7⟩ hK
    have c5 := h5.cell
    gi_wp2
    refine ⟨by simp, .inl ⟨_, _, rfl, run_takeDeferred hK, ?_⟩⟩
    refine ⟨_, results_tmp rfl _ _ _, _, _, ys, P, D, rfl, ?_, h2, HK.out.doms, by rw [hS] at h3; exact h3, ?_⟩
    · exact Sep.mono (Sep.calm h1 (grownBy_putObj' _ Dd _) (fun r e => by cases e; exact ⟨_, hK, rfl⟩)) (by omega)
    · exact h6.trans (belowK_b (w := w) (Nat.le_refl _) _ Dd _ _ (by have := BX.size; omega) hK rfl rfl)
  case stop =>
    rintro D cd pre V _ _ h _
    exact h.elim
end
end Go.Proofs.YtiadmmnnbnamjaaGreat
