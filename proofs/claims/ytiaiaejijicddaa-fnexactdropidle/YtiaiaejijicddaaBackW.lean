/- The library's iterator over a list of flat steps, from its end. -/
import Derived.Test.YtiaiaejijicddaaRangeB
import Derived.Test.YtiaiaejijicddaaSLow
namespace Go.Proofs.Ytiaiaejijicddaa
open Go Go.RowKit Go.Shelf
attribute [local go_sem] Oper.semAt_some
set_option linter.unusedVariables false
set_option linter.unusedSimpArgs false
set_option maxRecDepth 100000

theorem cell_same {W W' : World} {p : Addr} (h : W'.heap[p.block]? = W.heap[p.block]?) : W'.cell? p = W.cell? p := by simp only [World.cell?, h]
/-- places and flat steps, from the end -/
def backL (xs : List Flt) : List (Nat × Flt) := (xs.zipIdx.map fun p => (p.2, p.1)).reverse
theorem backL_len (xs : List Flt) : (backL xs).length = xs.length := by simp [backL]
theorem backL_at (xs : List Flt) {k : Nat} (hk : k < xs.length) : ∃ x, xs[xs.length - 1 - k]? = some x ∧ (backL xs)[k]? = some (xs.length - 1 - k, x) := by
  obtain ⟨x, hx⟩ : ∃ x, xs[xs.length - 1 - k]? = some x := ⟨_, List.getElem?_eq_getElem (by omega)⟩
  refine ⟨x, hx, ?_⟩
  unfold backL
  rw [List.getElem?_reverse (by simpa using hk)]
  simp [hx]
def encB (p : Nat × Flt) : Array Value := #[.int .i64 (p.1 : Int), .agg #[.int .i64 p.2.op, .int .i64 p.2.d, .int .i64 p.2.dst, .int .i64 p.2.a, .int .i64 p.2.b, .int .i64 p.2.n]]
set_option maxHeartbeats 1000000 in
theorem backward_in (n : Nat) (hn : 1 ≤ n) (l Bs : Nat) (sa : Option Addr) (sc : Nat) (xs : List Flt) (hL : xs.length ≤ 1000) (Kp : World → World → Prop) (hKp : ∀ W W', FRow W sa xs ∧ W.cell? ⟨Bs, 0, none⟩ = some (.slice sa xs.length sc) → Kp W W' → FRow W' sa xs ∧ W'.cell? ⟨Bs, 0, none⟩ = some (.slice sa xs.length sc)) (J Jx : List (Nat × Flt) → World → Prop)
    (hY : ∀ pre x W, J pre W → pre.length < xs.length → (pre ++ [x]) <+: backL xs → YieldAt Fence.wide (n - 1) Try.prog l (encB x) W fun e W' =>
      (e = .returned (.bool true) ∧ J (pre ++ [x]) W' ∧ Kp W W') ∨ (e = .returned (.bool false) ∧ Jx (pre ++ [x]) W'))
    (W : World) (hr : FRow W sa xs) (hBs : W.cell? ⟨Bs, 0, none⟩ = some (.slice sa xs.length sc)) (h0 : J [] W) :
    CallsIn Fence.wide n Try.prog 67 #[.func (.yield l) #[] #[], .pointer (some ⟨Bs, 0, none⟩)] W fun e W' => (∃ v, e = .returned v) ∧
      ((∃ ys, ys = backL xs ∧ J ys W') ∨ (∃ pre, pre <+: backL xs ∧ Jx pre W')) := by
  refine callsIn_of_wp Try.func67 rfl trivial ?_ rfl
  simp only [Try.ntmps67, List.size_toArray, List.length_cons, List.length_nil, Nat.reduceAdd, Nat.reduceSub, Array.replicate_succ, Array.replicate_zero, List.push_toArray, List.append_toArray, List.nil_append, List.cons_append]
  have HR := hid (And.intro hr hBs)
  have HKP := hid hKp
  have hwr : IntKind.i64.wrap ((xs.length : Int) - 1) = (xs.length : Int) - 1 := by rw [IntKind.wrap_i64]; omega
  clear hr hKp
  gi_wp2
  gi_loopw [3] (fun i wr => ∃ k : Nat, k ≤ xs.length ∧ i = .int .i64 ((xs.length : Int) - 1 - k) ∧ J ((backL xs).take k) wr ∧ Hid (FRow wr sa xs ∧ wr.cell? ⟨Bs, 0, none⟩ = some (.slice sa xs.length sc)))
    (fun i _ => (intOf i + 1).toNat)
  case atStart => exact ⟨0, Nat.zero_le _, by simp, h0, HR.out⟩
  case round =>
    obtain ⟨k, hk, rfl, hJs, hnx⟩ := hrel
    have hBc := hnx.out.2
    clear hBs
    by_cases hlt : k < xs.length
    · obtain ⟨x, hx, hbx⟩ := backL_at xs hlt
      obtain ⟨q, hq⟩ : ∃ q, xs.length - 1 - k = q := ⟨_, rfl⟩
      rw [hq] at hx hbx
      have hqi : (xs.length : Int) - 1 - k = (q : Int) := by omega
      rw [hqi]
      have hql : q < xs.length := by omega
      have hne : xs ≠ [] := by intro e; subst e; simp at hlt
      obtain ⟨b, off, rfl, hb, hcs⟩ := hnx.out.1.at hne
      obtain ⟨fp, fd, ft, fx, fy, fn, f0, f1, f2, f3, f4, f5, HXF⟩ := hcs wr (Below.refl _ _) q hql
      obtain rfl : x = ⟨fp, fd, ft, fx, fy, fn⟩ := by have := HXF.out; rw [hx] at this; cases this; rfl
      have e1 : (backL xs).take (k + 1) = (backL xs).take k ++ [(q, ⟨fp, fd, ft, fx, fy, fn⟩)] := by rw [List.take_add_one, hbx]; rfl
      obtain ⟨gn, tmps, assign, body, hy, hR⟩ := hY ((backL xs).take k) (q, ⟨fp, fd, ft, fx, fy, fn⟩) wr hJs (by rw [List.length_take]; omega) (by rw [← e1]; exact List.take_prefix _ _)
      have HE := hid e1
      have hwq : IntKind.i64.wrap ((q : Int) - 1) = (xs.length : Int) - 1 - ((k + 1 : Nat) : Int) := by rw [IntKind.wrap_i64]; omega
      simp only [encB] at hy
      clear hcs e1 hx hne HXF hbx
      gi_wp2
      refine hR.mono ?_
      rintro e W3 (⟨rfl, hJ3, hk3⟩ | ⟨rfl, hJx3⟩)
      · gi_wp2
        go_roundw
        case rel => exact ⟨k + 1, by omega, by simp, by rw [HE.out]; exact hJ3, HKP.out _ _ hnx.out hk3⟩
        case measure => simp [intOf]; omega
      · gi_wp2
        refine bodyPost_ret (results_none rfl _ _ _) rfl ?_
        exact ⟨⟨_, rfl⟩, .inr ⟨_, by rw [← HE.out]; exact List.take_prefix _ _, hJx3⟩⟩
    · obtain rfl : k = xs.length := by omega
      have hqi : (xs.length : Int) - 1 - (xs.length : Int) = -1 := by omega
      rw [hqi]
      gi_wp2
      go_end0
      exact ⟨⟨_, rfl⟩, .inl ⟨_, by rw [List.take_of_length_le (by rw [backL_len]; exact Nat.le_refl _)], hJs⟩⟩
theorem backward_own (n : Nat) (hn : 1 ≤ n) (Bs : Nat) (sa : Option Addr) (sc : Nat) (xs : List Flt) (hL : xs.length ≤ 1000) (K : Nat → Prop) (hK : xs ≠ [] → ∀ b off, sa = some ⟨b, off, none⟩ → K b) (hKB : K Bs) (w : World) (hr : FRow w sa xs) (hBs : Bs < w.heap.size) (hc : w.cell? ⟨Bs, 0, none⟩ = some (.slice sa xs.length sc)) :
    SeqOwn2 Fence.wide n Try.prog 67 #[.pointer (some ⟨Bs, 0, none⟩)] encB K (fun ys => ys = backL xs) (fun pre => pre <+: backL xs) xs.length w := fun l J Jx W hW hprep _ _ hY => by
  refine (backward_in n hn l Bs sa sc xs hL (Stay K W.heap.size W.heap.size) ?_ (J W.heap.size) Jx ?_ W (hr.below hW) ((hW.cell (p := ⟨Bs, 0, none⟩) hBs).trans hc) (hprep W (World.grownBy.refl _ _))).mono ?_
  · rintro V V' ⟨hr, hb⟩ hs
    refine ⟨?_, by rw [cell_same (p := ⟨Bs, 0, none⟩) (hs.2 Bs (.inl hKB))]; exact hb⟩
    rcases hr with hr | ⟨b, off, rfl, hcs⟩
    · exact .inl hr
    · by_cases hne : xs = []
      · exact .inl hne
      refine .inr ⟨b, off, rfl, fun i x hx => ?_⟩
      have hk := hs.2 b (.inl (hK hne b off rfl))
      obtain ⟨g0, g1, g2, g3, g4, g5⟩ := hcs i x hx
      exact ⟨(cell_same (p := ⟨b, _, none⟩) hk).trans g0, (cell_same (p := ⟨b, _, none⟩) hk).trans g1, (cell_same (p := ⟨b, _, none⟩) hk).trans g2, (cell_same (p := ⟨b, _, none⟩) hk).trans g3, (cell_same (p := ⟨b, _, none⟩) hk).trans g4, (cell_same (p := ⟨b, _, none⟩) hk).trans g5⟩
  · intro pre x V hJ hlen hsp
    obtain ⟨fn, tm, asg, bd, hy, hR⟩ := hY W.heap.size pre x V (Nat.le_refl _) hJ hlen hsp
    refine ⟨fn, tm, asg, bd, hy, hR.mono ?_⟩
    rintro e Z ⟨_, h⟩
    exact h
  · rintro e Z ⟨he, (⟨ys, hS, hJ⟩ | hx)⟩
    · exact ⟨he, .inl ⟨ys, _, hS, hJ⟩⟩
    · exact ⟨he, .inr hx⟩
/-- the iterator itself -/
theorem backward_any (a : Option Addr) (len cap : Nat) (w : World) :
    Calls Try.prog 48 #[.slice a len cap] w fun e w' => e = .returned (.func (.func 67) #[] #[.pointer (some ⟨w.heap.size, 0, none⟩)]) ∧ w' = w.alloc (.cells #[.slice a len cap] 27) := by
  refine (callsIn_wide (n := 3)).1 ?_
  refine callsIn_of_wp Try.func48 rfl trivial ?_ rfl
  simp only [Try.ntmps48, List.size_toArray, List.length_cons, List.length_nil, Nat.reduceAdd, Nat.reduceSub, Array.replicate_succ, Array.replicate_zero, List.push_toArray, List.append_toArray, List.nil_append, List.cons_append]
  gi_wp2
  go_ret
  exact ⟨rfl, rfl⟩
end Go.Proofs.Ytiaiaejijicddaa
