/- Rules as what they do: the program's list of functions. -/
import Derived.Test.YtpjhmminbndgiaaSNorm
import Derived.Laws.EntriesVeiled
namespace Go.Proofs.Ytpjhmminbndgiaa
open Go.RowKit
set_option linter.unusedVariables false
set_option linter.unusedSimpArgs false
set_option maxHeartbeats 4000000
set_option maxRecDepth 100000

/-- a rule's function, over its own block -/
abbrev useV (bx : Nat) : Value := .func (.func 78) #[] #[.pointer (some ⟨bx, 0, none⟩)]
/-- a slice of rules' functions that can be read -/
def WRow (w : World) (a : Option Addr) (xs : List RB) : Prop := xs = [] ∨ ∃ b off, a = some ⟨b, off, none⟩ ∧ ∀ (i : Nat) f t, xs[i]? = some (f, t) → ∃ bx, w.cell? ⟨b, off + i * 2, none⟩ = some (.string f) ∧ w.cell? ⟨b, off + i * 2 + 1, none⟩ = some (useV bx) ∧ RBox w bx f t
theorem WRow.below {w w' : World} {a : Option Addr} {xs : List RB} (h : WRow w a xs) (hb : Below w.heap.size w w') : WRow w' a xs := by
  rcases h with h | ⟨b, off, rfl, hc⟩
  · exact .inl h
  · refine .inr ⟨b, off, rfl, fun i f t hi => ?_⟩
    obtain ⟨bx, h1, h2, h3⟩ := hc i f t hi
    exact ⟨bx, cell_below h1 hb, cell_below h2 hb, h3.below hb⟩
theorem WRow.nil (w : World) (a : Option Addr) : WRow w a [] := .inl rfl
theorem WRow.at {w : World} {a : Option Addr} {xs : List RB} (h : WRow w a xs) (hx : xs ≠ []) : ∃ b off, a = some ⟨b, off, none⟩ ∧ b < w.heap.size ∧ ∀ w', Below w.heap.size w w' → ∀ k, k < xs.length → ∃ f t bx, w'.cell? ⟨b, off + k * 2, none⟩ = some (.string f) ∧ w'.cell? ⟨b, off + k * 2 + 1, none⟩ = some (useV bx) ∧ Hid (RBox w bx f t) ∧ bx < w.heap.size ∧ Hid (xs[k]? = some (f, t)) := by
  rcases h with h | ⟨b, off, rfl, hc⟩
  · exact absurd h hx
  · refine ⟨b, off, rfl, ?_, fun w' hb k hk => ?_⟩
    · obtain ⟨⟨f, t⟩, r, hr⟩ : ∃ y r, xs = y :: r := by cases xs with | nil => exact absurd rfl hx | cons y r => exact ⟨y, r, rfl⟩
      obtain ⟨bx, h1, _⟩ := hc 0 f t (by rw [hr]; rfl)
      exact World.block_lt_of_cell? w _ h1
    · obtain ⟨⟨f, t⟩, h1⟩ : ∃ y, xs[k]? = some y := ⟨_, List.getElem?_eq_getElem hk⟩
      obtain ⟨bx, h2, h3, h4⟩ := hc k f t h1
      exact ⟨f, t, bx, cell_below h2 hb, cell_below h3 hb, h4, World.block_lt_of_cell? w _ h4.1, h1⟩
theorem rewriterOf_any (f t : ByteArray) (w : World) : Calls Try.prog 68 #[.agg #[.string f, .string t]] w fun e w' => e = .returned (.agg #[.string f, useV w.heap.size]) ∧ w'.heap[w.heap.size]? = some (.cells #[.string f, .string t] 82 (0, 0)) ∧ Below w.heap.size w w' := by
  go_enter Try.func68, Try.ntmps68
  go_wp2
  refine bodyPost_ret (v := .agg #[.string f, useV w.heap.size]) (by simp [results, Try.results68, go_sem]) rfl ⟨rfl, ?_, ?_⟩
  · exact (Below.heap_alloc _ _ _ (by simp)).trans (World.alloc_heap_new w _)
  · exact ((Below.refl _ w).alloc (Nat.le_refl _) _).alloc (by simp) _
/-- rules' functions as they are made: what they hold, and where -/
structure RW3 where
  f : ByteArray
  t : ByteArray
  b : Nat
def fns (ys : List RW3) : List Value := ys.flatMap fun y => [.string y.f, useV y.b]
def boxes (ys : List RW3) : List OR := ys.map fun y => cellOR 82 2 y.b [.string y.f, .string y.t]
def rbs (ys : List RW3) : List RB := ys.map fun y => (y.f, y.t)
theorem fns_length (ys : List RW3) : (fns ys).length = ys.length * 2 := by
  induction ys with
  | nil => rfl
  | cons x r ih => simp [fns] at ih ⊢; omega
theorem fns_append (xs ys : List RW3) : fns (xs ++ ys) = fns xs ++ fns ys := by simp [fns]
theorem fns_at (ys : List RW3) (k : Nat) (y : RW3) (h : ys[k]? = some y) : (fns ys)[k * 2]? = some (.string y.f) ∧ (fns ys)[k * 2 + 1]? = some (useV y.b) := by
  induction ys generalizing k with
  | nil => simp at h
  | cons x r ih =>
    have hf : fns (x :: r) = .string x.f :: useV x.b :: fns r := by simp [fns]
    cases k with
    | zero => simp at h; subst h; rw [hf]; simp
    | succ k =>
      simp at h
      have := ih k h
      rw [hf, show (k + 1) * 2 = k * 2 + 2 by omega]
      simpa using this
theorem info92 : (Try.prog.info? 92).map (fun i => (i.zero, i.size, i.bytes)) = some (some (.agg #[.string ⟨#[]⟩, .nilFunc]), 2, 24) := by kernel_rfl
theorem eltRw : Elt 60 92 2 24 := by
  obtain ⟨i0, hi, hz0, hz1, hz2⟩ := info_parts info92
  exact ⟨i0, .agg #[.string ⟨#[]⟩, .nilFunc], Try.underlying60, hi, hz0, hz1, hz2, rfl, by omega, by omega⟩
theorem News.two (w : World) (u v : Value) (t : TypeId) (nb : Nat) (hnb : w.heap.size = nb) (h1 : u.oneCell' = true) (h2 : v.oneCell' = true) : News (w.alloc (.cells #[u, v] t)) (some ⟨nb, 0, none⟩) 1 2 [u, v] := by
  subst hnb
  refine ⟨rfl, by simp [h1, h2], .inr ⟨_, rfl, fun j x hj => ?_⟩⟩
  match j, hj with
  | 0, hj => simp at hj; subst hj; rw [addr_add]; simp [go_sem]
  | 1, hj => simp at hj; subst hj; rw [addr_add]; simp [go_sem]
  | j + 2, hj => simp at hj
theorem WRow.of_sep {w : World} {B n : Nat} {v : Value} {ys : List RW3} (h : Sep w B ([] ++ ⟨92, 2, v, n, fns ys⟩ :: boxes ys)) (hn : n = ys.length) : ∃ a c, v = .slice a ys.length c ∧ WRow w a (rbs ys) := by
  subst hn
  have ho := h.1 ⟨92, 2, v, ys.length, fns ys⟩ (by simp)
  rcases ho.2 with ⟨h1, h0⟩ | ⟨g, cap, cur, h1, hB, hg, hn, hm, hsz, htk⟩
  · refine ⟨none, 0, ?_, .inl ?_⟩
    · simpa using h1.trans (by rw [show ys.length = 0 from h0])
    · have : ys = [] := List.eq_nil_of_length_eq_zero h0
      subst this; rfl
  · simp only [] at h1
    subst h1
    refine ⟨_, cap, rfl, .inr ⟨g, 0, rfl, fun i f t hi => ?_⟩⟩
    obtain ⟨y, hy, he⟩ : ∃ y, ys[i]? = some y ∧ (y.f, y.t) = (f, t) := by
      simp only [rbs, List.getElem?_map, Option.map_eq_some_iff] at hi
      exact hi
    have hil := (List.getElem?_eq_some_iff.1 hy).1
    injection he with e1 e2
    subst e1; subst e2
    have hf := fns_at ys i y hy
    have hbx : cellOR 82 2 y.b [.string y.f, .string y.t] ∈ [] ++ ⟨92, 2, .slice (some ⟨g, 0, none⟩) ys.length cap, ys.length, fns ys⟩ :: boxes ys := by
      simp only [List.nil_append, List.mem_cons, boxes, List.mem_map]
      exact .inr ⟨y, List.mem_of_getElem? hy, rfl⟩
    refine ⟨y.b, ?_, ?_, h.cell hbx rfl (j := 0) rfl, h.cell hbx rfl (j := 1) rfl⟩
    · rw [Nat.zero_add]; exact h.cell (x := ⟨92, 2, .slice (some ⟨g, 0, none⟩) ys.length cap, ys.length, fns ys⟩) (by simp) rfl hf.1
    · rw [Nat.zero_add]; exact h.cell (x := ⟨92, 2, .slice (some ⟨g, 0, none⟩) ys.length cap, ys.length, fns ys⟩) (by simp) rfl hf.2
/-- texts that were handed in, as they lie -/
def TsRow (w : World) (a : Option Addr) (ts : List ByteArray) : Prop := ts = [] ∨ ∃ b off, a = some ⟨b, off, none⟩ ∧ ∀ (i : Nat) x, ts[i]? = some x → w.cell? ⟨b, off + i, none⟩ = some (.string x)
theorem TsRow.below {w w' : World} {a : Option Addr} {l : List ByteArray} (h : TsRow w a l) (hb : Below w.heap.size w w') : TsRow w' a l := by
  rcases h with h | ⟨b, off, rfl, hc⟩
  · exact .inl h
  · exact .inr ⟨b, off, rfl, fun i x hi => cell_below (hc i x hi) hb⟩
def textsB (ts : List ByteArray) : Bool := ts.all fun s => okB 40 (Bt s)
theorem texts_fail {ts : List ByteArray} {k : Nat} {x : ByteArray} (h : ts[k]? = some x) (hb : okB 40 (Bt x) = false) : textsB ts = false := all_bad' h hb
theorem texts_step {ts : List ByteArray} {k : Nat} {x : ByteArray} (h : ts[k]? = some x) (ha : textsB (ts.take k) = true) (hb : okB 40 (Bt x) = true) : textsB (ts.take (k + 1)) = true := by
  unfold textsB at ha ⊢
  rw [List.take_add_one, h, List.all_append, ha]
  simp [hb]
theorem rewritersOf_any (a ta : Option Addr) (c tc : Nat) (xs : List RB) (ts : List ByteArray) (w : World) (hl : xs.length ≤ 9223372036854775807) (hs : ∀ x ∈ xs, Short x) (h : RRow w a xs) (htl : ts.length ≤ 1000) (hts : ∀ x ∈ ts, x.size ≤ 9223372036854775807) (ht : TsRow w ta ts) (p : Bool) (zs : List RB) (hp : p = (rulesB (Rs xs) && textsB ts)) (hz : zs = if p then xs else []) :
    Calls Try.prog 45 #[.slice a xs.length c, .slice ta ts.length tc] w fun e w' => (∃ ra rc, e = .returned (.tuple #[.slice ra zs.length rc, .bool p]) ∧ WRow w' ra zs) ∧ Below w.heap.size w w' := by
  have H := hid h
  have HT := hid ht
  clear h ht
  cases hg : rulesB (Rs xs) with
  | false =>
    obtain rfl : p = false := by rw [hp, hg]; rfl
    obtain rfl : zs = [] := by rw [hz]; rfl
    clear hp hz
    go_enter Try.func45, Try.ntmps45
    go_wp2_with fail
    refine (iGood_any a c xs _ hl hs H.out).mono ?_
    rintro e w1 ⟨rfl, hb1⟩
    rw [hg]
    go_wp2
    go_ret2
    exact ⟨⟨none, 0, rfl, WRow.nil _ _⟩, hb1⟩
  | true =>
    have HP : Hid (p = textsB ts) := by show p = _; rw [hp, hg]; rfl
    have HZ := hid hz
    clear hp hz
    have hx8 := good_len hg
    have HG := hid hg
    go_enter Try.func45, Try.ntmps45
    go_wp2_with fail
    refine (iGood_any a c xs _ hl hs H.out).mono ?_
    rintro e w1 ⟨rfl, hb1⟩
    rw [hg]
    clear hg
    go_wp2
    go_loopw [16] (fun t16 wr => ∃ k : Nat, t16 = .int .i64 k ∧ k ≤ ts.length ∧ textsB (ts.take k) = true ∧ Below w.heap.size w wr) (fun t16 _ => ts.length - (intOf t16).toNat)
    case atStart => exact ⟨0, rfl, by omega, by simp [textsB], hb1⟩
    case round =>
      obtain ⟨W0, rfl⟩ : ∃ W0, W0 = wr := ⟨_, rfl⟩
      obtain ⟨k, rfl, hk, hok, hB⟩ := hrel
      by_cases hlt : k < ts.length
      · obtain ⟨x, hx⟩ : ∃ x, ts[k]? = some x := ⟨_, List.getElem?_eq_getElem hlt⟩
        obtain ⟨b, off, rfl, hc⟩ := HT.out.resolve_left (by intro e; subst e; simp at hlt)
        have cx := cell_below (hc k x hx) hB
        have hxs := hts x (List.mem_of_getElem? hx)
        clear hc
        cases ho : okB 40 (Bt x) with
        | true =>
          have HOK := hid (texts_step hx hok ho)
          go_wp2_with fail
          refine (iText_any x 40 _ hxs (by omega)).mono ?_
          rintro e w2 ⟨rfl, hb2⟩
          rw [ho]
          go_wp2
          go_roundw
          case rel => exact ⟨k + 1, by go_num, by omega, HOK.out, bstep' hB hb2⟩
          case measure => simp [intOf]; omega
        | false =>
          have HOK := hid (texts_fail hx ho)
          go_wp2_with fail
          refine (iText_any x 40 _ hxs (by omega)).mono ?_
          rintro e w2 ⟨rfl, hb2⟩
          rw [ho]
          obtain rfl : p = false := by rw [HP.out, HOK.out]
          obtain rfl : zs = [] := by rw [HZ.out]; rfl
          go_wp2
          go_ret2
          exact ⟨⟨none, 0, rfl, WRow.nil _ _⟩, bstep' hB hb2⟩
      · have hall : textsB ts = true := by rw [List.take_of_length_le (by omega)] at hok; exact hok
        obtain rfl : p = true := by rw [HP.out, hall]
        obtain rfl : xs = zs := by rw [HZ.out]; rfl
        clear hall hok HP HZ
        go_wp2
        go_loopw [8, 26] (fun t8 t26 wr => ∃ (q n : Nat) (ys : List RW3), t26 = .int .i64 q ∧ q ≤ xs.length ∧ n = ys.length ∧ rbs ys = xs.take q ∧ Sep wr w.heap.size ([] ++ ⟨92, 2, t8, n, fns ys⟩ :: boxes ys) ∧ Below w.heap.size w wr) (fun _ t26 _ => xs.length - (intOf t26).toNat)
        case atStart => exact ⟨0, 0, [], rfl, by omega, rfl, rfl, sep_one (World.ownsRow_nil _ _ _ _), hB⟩
        case round =>
          obtain ⟨W1, rfl⟩ : ∃ W1, W1 = wr := ⟨_, rfl⟩
          obtain ⟨q, n, ys, rfl, hq, rfl, hys, hS, hB2⟩ := hrel
          by_cases hqx : q < xs.length
          · obtain ⟨b, off, rfl, hbw, hat⟩ := H.out.at (by intro e; subst e; simp at hqx)
            obtain ⟨f, t, c1, c2, HX⟩ := hat W1 hB2 q hqx
            have hbr : b < W1.heap.size := Nat.lt_of_lt_of_le hbw hB2.size
            have hnq : ys.length ≤ 8 := by
              have := congrArg List.length hys
              simp [rbs] at this
              omega
            clear hat
            go_wp2_with fail
            refine (rewriterOf_any f t _).mono ?_
            rintro e w3 ⟨rfl, hbx, hb3⟩
            obtain ⟨bx, hbxe⟩ : ∃ bx, (W1.alloc (.cells #[.string f, .string t] 82)).heap.size = bx := ⟨_, rfl⟩
            rw [hbxe] at hbx
            have hb13 : Below W1.heap.size W1 w3 := bstep' (below1 W1 _) hb3
            have HBX : bx = W1.heap.size + 1 := by rw [← hbxe]; simp
            have hnew : Sep w3 W1.heap.size [cellOR 82 2 bx [.string f, .string t]] := ⟨fun x hx => by simp at hx; subst hx; exact cell_own (cs := #[.string f, .string t]) hbx rfl (by omega), by simp⟩
            have hS3 := Sep.append hS hb13 hB2.size hnew
            have HS4 : Hid (Sep (w3.alloc (.cells #[.string f, useV bx] 92)) w.heap.size ([] ++ ⟨92, 2, u8, ys.length, fns ys⟩ :: (boxes ys ++ [cellOR 82 2 bx [.string f, .string t]]))) := by
              refine Sep.below ?_ (below1 w3 _)
              simpa using hS3
            have HB4 := hid (bstep' hB2 hb13)
            have HYS := hid hys
            have HNW := hid (News.two w3 (.string f) (useV bx) 92 _ rfl rfl rfl)
            have HZ4 : Hid (w.heap.size ≤ (w3.alloc (.cells #[.string f, useV bx] 92)).heap.size) := by show _ ≤ _; have := HB4.out.size; simp; omega
            simp only [hbxe]
            clear hS hbx hnew hS3 hys hb3 hb13 hbxe HBX c1 c2
            go_wp2_with (at_builtin; refine wpList_append_sep eltRw rfl _ _ rfl w.heap.size [] HS4.out rfl HNW.out rfl (by omega) HZ4.out ?_)
            intro va2 vc2 w5 hs5 hb5 hg5
            have HS5 : Hid (Sep w5 w.heap.size ([] ++ ⟨92, 2, .slice va2 (ys.length + 1) vc2, ys.length + 1, fns (ys ++ [⟨f, t, bx⟩])⟩ :: boxes (ys ++ [⟨f, t, bx⟩]))) := by
              show Sep _ _ _
              have e1 : fns (ys ++ [⟨f, t, bx⟩]) = fns ys ++ [.string f, useV bx] := by rw [fns_append]; rfl
              have e2 : boxes (ys ++ [⟨f, t, bx⟩]) = boxes ys ++ [cellOR 82 2 bx [.string f, .string t]] := by simp [boxes]
              rw [e1, e2]
              exact hs5
            have HB5 := hid ((HB4.out.alloc HB4.out.size _).trans hb5)
            clear hs5 hb5 hg5
            go_wp2
            go_roundw
            case rel =>
              refine ⟨q + 1, ys.length + 1, ys ++ [⟨f, t, bx⟩], by go_num, by omega, by simp, ?_, HS5.out, HB5.out⟩
              rw [List.take_add_one, HX.out, ← HYS.out]
              simp [rbs]
            case measure => simp [intOf]; omega
          · obtain rfl : q = xs.length := by omega
            rw [List.take_of_length_le (Nat.le_refl _)] at hys
            have hln : ys.length = xs.length := by rw [← hys]; simp [rbs]
            obtain ⟨ra, rc, he, hw⟩ := WRow.of_sep hS rfl
            rw [hln] at he
            rw [hys] at hw
            subst he
            have HW := hid hw
            clear hS hw hys
            go_wp2
            go_ret2
            exact ⟨⟨ra, rc, rfl, HW.out⟩, hB2⟩
end Go.Proofs.Ytpjhmminbndgiaa
