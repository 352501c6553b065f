/- The model's way to the blocks that are come to. -/
import Derived.Test.YtbibcjhfiopgdaaDoorPut6
import Derived.Deep.LoopGhost
namespace Go.Proofs.YtbibcjhfiopgdaaDoor
open Go.RowKit
set_option linter.unusedVariables false
set_option linter.unusedSimpArgs false
set_option maxRecDepth 100000

/-- what is found so far, and gone through up to a place -/
structure SeenS (f : List Blk) (s : List Nat) (i : Nat) : Prop where
  nd : s.Nodup
  z : 0 ∈ s
  r : ∀ k ∈ s, Rch f k
  c : ∀ (j x : Nat), j < i → s[j]? = some x → ∀ y, Leads f x y → y ∈ s
theorem SeenS.start (f : List Blk) : SeenS f [0] 0 := ⟨by simp, by simp, by intro k hk; simp at hk; subst hk; exact .start, by intro j x hj; omega⟩
theorem SeenS.more {f : List Blk} {s : List Nat} {i y : Nat} (h : SeenS f s i) (hy : ¬ y ∈ s) (hr : Rch f y) (hi : i ≤ s.length) : SeenS f (s ++ [y]) i := by
  refine ⟨?_, by simp [h.z], ?_, ?_⟩
  · rw [List.nodup_append]
    refine ⟨h.nd, by simp, ?_⟩
    intro a ha b hb he
    simp at hb
    subst hb; subst he
    exact hy ha
  · intro k hk
    rcases List.mem_append.1 hk with hk | hk
    · exact h.r k hk
    · simp at hk; subst hk; exact hr
  · intro j x hj hx z hz
    rw [List.getElem?_append_left (by omega)] at hx
    exact List.mem_append_left _ (h.c j x hj hx z hz)
theorem SeenS.next {f : List Blk} {s : List Nat} {i x : Nat} {b : Blk} (h : SeenS f s i) (hx : s[i]? = some x) (hb : f[x]? = some b) (hall : ∀ y ∈ b.next, y ∈ nats s) : SeenS f s (i + 1) := by
  refine ⟨h.nd, h.z, h.r, ?_⟩
  intro j x' hj hx' y hy
  by_cases e : j = i
  · subst e
    rw [hx] at hx'
    cases hx'
    obtain ⟨b', hb', hm⟩ := hy
    rw [hb] at hb'
    cases hb'
    exact nats_mem.1 (hall _ hm)
  · exact h.c j x' (by omega) hx' y hy
theorem SeenS.len {f : List Blk} {s : List Nat} {i : Nat} (h : SeenS f s i) (hg : goodFlow f = true) : s.length ≤ f.length := nodup_le h.nd fun k hk => (h.r k hk).lt hg
theorem SeenS.done {f : List Blk} {s : List Nat} (h : SeenS f s s.length) : ∀ k, k ∈ s ↔ Rch f k := by
  refine rch_closed h.z h.r ?_
  intro i hi j hl
  obtain ⟨q, hq, rfl⟩ := List.mem_iff_getElem.1 hi
  exact h.c q _ hq (List.getElem?_eq_getElem hq) j hl
theorem nat_of_next {f : List Blk} (hg : goodFlow f = true) {x : Nat} {b : Blk} (hb : f[x]? = some b) {j : Nat} {v : Int} (hv : b.next[j]? = some v) : ∃ y : Nat, v = y ∧ y < f.length ∧ Leads f x y := by
  have := next_lt hg hb (List.mem_of_getElem? hv)
  refine ⟨v.toNat, by omega, by omega, b, hb, ?_⟩
  rw [show ((v.toNat : Nat) : Int) = v by omega]
  exact List.mem_of_getElem? hv
/-- numbers put one after the other -/
def putAllL (s : List Nat) : List Nat := s.foldl putL []
theorem putAllL_snoc (s : List Nat) (n : Nat) : putAllL (s ++ [n]) = putL (putAllL s) n := by simp [putAllL]
theorem putAllL_mem (s : List Nat) (k : Nat) : (k ∈ putAllL s ↔ k ∈ s) ∧ (putAllL s).Pairwise (· < ·) ∧ (putAllL s).length ≤ s.length := by
  have key : ∀ n (s : List Nat), s.length = n → ∀ k, (k ∈ putAllL s ↔ k ∈ s) ∧ (putAllL s).Pairwise (· < ·) ∧ (putAllL s).length ≤ s.length := by
    intro n
    induction n with
    | zero => intro s hs k; obtain rfl := List.eq_nil_of_length_eq_zero hs; simp [putAllL]
    | succ n ih =>
      intro s hs k
      obtain ⟨t, x, rfl⟩ : ∃ t x, s = t ++ [x] := ⟨s.dropLast, s.getLast (by intro e; subst e; simp at hs), (List.dropLast_concat_getLast _).symm⟩
      have h1 := ih t (by simp at hs; exact hs) k
      have h3 := putL_len (putAllL t) x
      rw [putAllL_snoc]
      refine ⟨?_, putL_rising h1.2.1 x, by simp; omega⟩
      rw [putL_mem, h1.1]; simp [or_comm]
  exact key _ s rfl k
theorem take_snoc {s : List Nat} {j x : Nat} (h : s[j]? = some x) : s.take (j + 1) = s.take j ++ [x] := by rw [List.take_add_one, h]; rfl
set_option maxHeartbeats 8000000 in
/-- the model's way -/
theorem sReach_any (a : Option Addr) (c : Nat) (f : List Blk) (w : World) (hg : goodFlow f = true) (h : BRow w a f) :
    Calls Tryd.prog 55 #[.slice a f.length c] w fun e w' => ∃ va vc l, e = .returned (.slice va l.length vc) ∧ IsRch f l ∧ w'.ownsRow w.heap.size 3 1 (.slice va l.length vc) l.length (ints (nats l)) ∧ Below w.heap.size w w' := by
  have hf64 := flow_pos hg
  have HG := hid hg
  obtain ⟨b, off, rfl, hbw, hat⟩ := h.at (by intro e; subst e; simp at hf64)
  have HA := hid hat
  clear hat h hg
  have HN0 := hid (News.one w (.int .i64 0) 3 _ rfl rfl)
  have HS0 : Hid (Sep (w.alloc (.cells #[.int .i64 0] 3)) w.heap.size ([] ++ ⟨3, 1, .slice (some ⟨w.heap.size, 0, none⟩) 1 1, 1, ints (nats [0])⟩ :: [])) := by
    refine sep_one ⟨rfl, .inr ⟨w.heap.size, 1, #[.int .i64 0], rfl, Nat.le_refl _, heap_alloc_new w _, Nat.le_refl _, by unfold maxLen; omega, rfl, rfl⟩⟩
  clear HN0
  go_enter Tryd.func55, Tryd.ntmps55
  go_wp2
  go_loopw [3, 4] (fun t3 t4 wr => ∃ (s : List Nat) (i : Nat) (v : Value), v = t3 ∧ t4 = .int .i64 i ∧ i ≤ s.length ∧ SeenS f s i ∧ Sep wr w.heap.size ([] ++ ⟨3, 1, v, s.length, ints (nats s)⟩ :: []) ∧ Below w.heap.size w wr) (fun _ t4 _ => f.length + 1 - (intOf t4).toNat)
  case atStart => exact ⟨[0], 0, _, rfl, rfl, by omega, SeenS.start f, HS0.out, below1 w _⟩
  case round =>
    obtain ⟨s, i, v, rfl, rfl, hi, hseen, hsep, hB⟩ := hrel
    have hsl := hseen.len HG.out
    obtain ⟨sa, sc, rfl⟩ := slice_of_owned (one_sep hsep)
    have HSEEN := hid hseen
    have HSEP := hid hsep
    clear hseen hsep HS0
    by_cases hlt : i < s.length
    · obtain ⟨x, hx⟩ : ∃ x, s[i]? = some x := ⟨_, List.getElem?_eq_getElem hlt⟩
      have hxf : x < f.length := (HSEEN.out.r x (List.mem_of_getElem? hx)).lt HG.out
      obtain ⟨g, rfl⟩ : ∃ g, sa = some ⟨g, 0, none⟩ := by
        rcases (one_sep HSEP.out).2 with ⟨h0, h1⟩ | ⟨g, cap, cur, he, _⟩
        · omega
        · injection he with e1 _ _; exact ⟨g, e1⟩
      have c1 : wr.cell? ⟨g, i, none⟩ = some (.int .i64 (x : Int)) := rowT_at (one_sep HSEP.out) rfl (by simp [ints, nats, hx])
      obtain ⟨cs, go, test, ns, ca, cc, na, nc, d0, d1, d2, d3, l1, l2, HR, HX⟩ := HA.out wr hB x hxf
      have HXI := hid hx
      clear hx d0 d1 d2
      go_wp2
      go_loopw [3, 26] (fun t3 t26 wi => ∃ (s' : List Nat) (j : Nat) (v : Value), v = t3 ∧ t26 = .int .i64 j ∧ j ≤ ns.length ∧ i < s'.length ∧ s'[i]? = some x ∧ SeenS f s' i ∧ (∀ (q : Nat) y, q < j → ns[q]? = some y → y ∈ nats s') ∧ Sep wi w.heap.size ([] ++ ⟨3, 1, v, s'.length, ints (nats s')⟩ :: []) ∧ Below w.heap.size w wi) (fun _ t26 _ => ns.length - (intOf t26).toNat)
      case atStart => exact ⟨s, 0, _, rfl, rfl, by omega, hlt, HXI.out, HSEEN.out, by intro q y hq; omega, HSEP.out, hB⟩
      case round =>
        obtain ⟨s', j, v, rfl, rfl, hj, hi', hx', hseen', hq, hsep', hB'⟩ := hrel
        have hsl' := hseen'.len HG.out
        obtain ⟨sa', sc', rfl⟩ := slice_of_owned (one_sep hsep')
        have HS' := hid (And.intro hx' (And.intro hseen' (And.intro hq hsep')))
        clear hx' hseen' hq hsep' HSEP HSEEN HXI c1
        by_cases hjl : j < ns.length
        · obtain ⟨nb, noff, rfl, hnw, nat⟩ := HR.out.2.at (by intro e; subst e; simp at hjl)
          obtain ⟨y, e1, HY⟩ := nat wr hB' j hjl
          obtain ⟨yn, hyn, hyf, hyl⟩ := nat_of_next HG.out HX.out HY.out
          subst hyn
          have HYL := hid hyl
          have HYN := hid (And.intro hyf HY.out)
          clear nat hyl HY hyf
          have hhas := l1Has_any sa' sc' (nats s') (yn : Int) wr (by rw [nats_length]; omega) (own_row (by rw [nats_length]; exact one_sep HS'.out.2.2.2))
          rw [nats_length] at hhas
          have HH := hid hhas
          clear hhas
          go_wp2_with fail
          refine HH.out.mono ?_
          rintro e w1 ⟨rfl, hw1⟩
          subst w1
          cases hm : hasB (nats s') (yn : Int) with
          | true =>
            have HM := hid (show (yn : Int) ∈ nats s' from of_decide_eq_true hm)
            clear hm
            go_wp2
            go_roundw
            case rel =>
              refine ⟨s', j + 1, _, rfl, by go_num, by omega, hi', HS'.out.1, HS'.out.2.1, fun q z hq hz => ?_, HS'.out.2.2.2, hB'⟩
              by_cases e : q = j
              · subst e; rw [HYN.out.2] at hz; cases hz; exact HM.out
              · exact HS'.out.2.2.1 q z (by omega) hz
            case measure => simp [intOf]; omega
          | false =>
            have HM : Hid (¬ yn ∈ s') := fun hmem => (of_decide_eq_false hm) (nats_mem.2 hmem)
            clear hm
            have HSB := hid (Sep.below HS'.out.2.2.2 (below1 wr (.cells #[.int .i64 (yn : Int)] 3)))
            have HN1 := hid (News.one wr (.int .i64 (yn : Int)) 3 _ rfl rfl)
            have HB1 := hid (bstep' hB' (below1 wr (.cells #[.int .i64 (yn : Int)] 3)))
            go_wp2_with (at_builtin; refine wpList_append_sep eltInt rfl _ _ rfl w.heap.size [] HSB.out rfl HN1.out rfl (by omega) HB1.out.size ?_)
            intro va2 vc2 w2 hs2 hb2 hg2
            have HS2 := hid hs2
            have HB2 := hid (HB1.out.trans hb2)
            clear hs2 hb2 hg2 HSB HN1 HB1
            go_wp2
            go_roundw
            case rel =>
              have hrx := HS'.out.2.1.r x (List.mem_of_getElem? HS'.out.1)
              refine ⟨s' ++ [yn], j + 1, .slice va2 (s'.length + 1) vc2, rfl, by go_num, by omega, by simp; omega, ?_, HS'.out.2.1.more HM.out (.step hrx HYL.out) (by omega), fun q z hq hz => ?_, ?_, HB2.out⟩
              · rw [List.getElem?_append_left hi']; exact HS'.out.1
              · rw [nats_append]
                by_cases e : q = j
                · subst e; rw [HYN.out.2] at hz; cases hz; exact List.mem_append_right _ (by simp [nats])
                · exact List.mem_append_left _ (HS'.out.2.2.1 q z (by omega) hz)
              · have e1 : ints (nats (s' ++ [yn])) = ints (nats s') ++ [.int .i64 (yn : Int)] := by simp [ints, nats]
                rw [e1, List.length_append]
                exact HS2.out
            case measure => simp [intOf]; omega
        · obtain rfl : j = ns.length := by omega
          have HNX := hid (HS'.out.2.1.next HS'.out.1 HX.out (fun y hy => by
            obtain ⟨q, hq, rfl⟩ := List.mem_iff_getElem.1 hy
            exact HS'.out.2.2.1 q _ hq (List.getElem?_eq_getElem hq)))
          go_wp2
          go_roundw
          case rel => exact ⟨s', i + 1, _, rfl, by go_num, by omega, HNX.out, HS'.out.2.2.2, hB'⟩
          case measure => simp [intOf]; omega
    · obtain rfl : i = s.length := by omega
      have HD := hid HSEEN.out.done
      have HRS := hid (own_row (by rw [nats_length]; exact one_sep HSEP.out) : Row wr sa (nats s))
      clear hlt
      go_wp2
      go_loopw [7, 41] (fun t7 t41 wi => ∃ (j : Nat) (v : Value), v = t7 ∧ t41 = .int .i64 j ∧ j ≤ s.length ∧ wi.ownsRow w.heap.size 3 1 v (putAllL (s.take j)).length (ints (nats (putAllL (s.take j)))) ∧ Below wr.heap.size wr wi) (fun _ t41 _ => s.length - (intOf t41).toNat)
      case atStart => exact ⟨0, _, rfl, rfl, by omega, World.ownsRow_nil _ _ _ _, Below.refl _ _⟩
      case round =>
        obtain ⟨j, v, rfl, rfl, hj, hown, hB'⟩ := hrel
        have HOWN := hid hown
        have HB2 := hid (bstep' hB hB')
        clear hown
        by_cases hjl : j < s.length
        · obtain ⟨x, hx⟩ : ∃ x, s[j]? = some x := ⟨_, List.getElem?_eq_getElem hjl⟩
          obtain ⟨nb, noff, rfl, hnw, nat⟩ := HRS.out.at (by intro e; have := congrArg List.length e; rw [nats_length] at this; simp at this; subst this; simp at hjl)
          obtain ⟨y, e1, HY⟩ := nat _ hB' j (by rw [nats_length]; exact hjl)
          have hyx : y = (x : Int) := by have := HY.out; rw [nats_at hx] at this; exact (Option.some.inj this).symm
          subst hyx
          have hxf : x < f.length := ((HD.out x).1 (List.mem_of_getElem? hx)).lt HG.out
          have HXJ := hid hx
          clear nat HY hx
          have hlen := (putAllL_mem (s.take j) 0).2.2
          rw [List.length_take] at hlen
          have HP := hid (l1Put_any _ (putAllL (s.take j)) x w.heap.size _ (by omega) (by omega) HOWN.out HB2.out.size)
          clear hlen
          go_wp2_with fail
          refine HP.out.mono ?_
          rintro e w2 ⟨va, vc, rfl, ho2, hg2, hb2⟩
          have HO2 := hid ho2
          have HB3 := hid (bstep' hB' hb2)
          clear ho2 hg2 hb2
          go_wp2
          go_roundw
          case rel => exact ⟨j + 1, _, rfl, by go_num, by omega, by rw [take_snoc HXJ.out, putAllL_snoc]; exact HO2.out, HB3.out⟩
          case measure => simp [intOf]; omega
        · obtain rfl : j = s.length := by omega
          obtain ⟨ra, rc, rfl⟩ := slice_of_owned HOWN.out
          go_wp2
          go_ret
          refine ⟨ra, rc, putAllL s, ?_, ⟨(putAllL_mem s 0).2.1, fun k => (putAllL_mem s k).1.trans (HD.out k)⟩, ?_, HB2.out⟩
          · rw [List.take_of_length_le (Nat.le_refl _)]; rfl
          · have := HOWN.out
            rw [List.take_of_length_le (Nat.le_refl _)] at this
            exact this
end Go.Proofs.YtbibcjhfiopgdaaDoor
