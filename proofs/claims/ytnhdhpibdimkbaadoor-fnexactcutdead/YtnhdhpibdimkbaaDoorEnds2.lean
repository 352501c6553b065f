/- What EndsOf and DepthsOf of the program and of the model answer, at every code. -/
import Derived.Test.YtnhdhpibdimkbaaDoorGood1
namespace Go.Proofs.YtnhdhpibdimkbaaDoor
open Go.RowKit
set_option linter.unusedVariables false
set_option linter.unusedSimpArgs false
set_option maxRecDepth 100000

def endsL (xs : List Stp) : List Int := match nestO xs with
  | some (e, _) => e
  | none => []
def depsL (xs : List Stp) : List Int := match nestO xs with
  | some (_, d) => d
  | none => []
theorem endsL_some {xs : List Stp} {e d : List Int} (h : nestO xs = some (e, d)) : endsL xs = e := by simp [endsL, h]
theorem depsL_some {xs : List Stp} {e d : List Int} (h : nestO xs = some (e, d)) : depsL xs = d := by simp [depsL, h]
theorem endsL_none {xs : List Stp} (h : nestO xs = none) : endsL xs = [] := by simp [endsL, h]
theorem depsL_none {xs : List Stp} (h : nestO xs = none) : depsL xs = [] := by simp [depsL, h]
theorem endsL_len (xs : List Stp) : (endsL xs).length ≤ 60 := by
  cases h : nestO xs with
  | none => rw [endsL_none h]; simp
  | some p => obtain ⟨e, d⟩ := p; rw [endsL_some h]; have := nestO_length h; omega
theorem depsL_len (xs : List Stp) : (depsL xs).length ≤ 60 := by
  cases h : nestO xs with
  | none => rw [depsL_none h]; simp
  | some p => obtain ⟨e, d⟩ := p; rw [depsL_some h]; have := nestO_length h; omega
theorem goodS_some {xs : List Stp} {p : List Int × List Int} (h : nestO xs = some p) : goodS xs = true := by simp [goodS, h]
theorem goodS_none {xs : List Stp} (h : nestO xs = none) : goodS xs = false := by simp [goodS, h]

/-- the program's EndsOf -/
theorem iEnds_any (a : Option Addr) (c : Nat) (xs : List Stp) (w : World) (hl : xs.length ≤ 1048576) (h : TRow w a xs) (hT : Tab w) :
    Calls Tryd.prog 15 #[.slice a xs.length c] w fun e w' => (∃ v, e = .returned (.tuple #[v, .bool (goodS xs)]) ∧ w'.ownsRow w.heap.size 3 1 v (endsL xs).length (ints (endsL xs))) ∧ Below w.heap.size w w' := by
  have H : Hid (TRow w a xs ∧ Tab w) := ⟨h, hT⟩
  clear h hT
  cases hn : nestO xs with
  | none =>
    rw [goodS_none hn, endsL_none hn]
    have HN : Hid (nestO xs = none) := hn
    clear hn
    go_enter Tryd.func15, Tryd.ntmps15
    go_wp2_with fail
    refine (nest_all a c xs _ hl H.out.1 H.out.2).mono ?_
    rintro e w1 ⟨⟨oa, ol, oc, ea, el, ec, da, dl, dc, b, rfl, hm⟩, hb⟩
    rw [HN.out] at hm
    obtain rfl : b = false := hm
    go_wp2
    go_ret2
    exact ⟨⟨_, rfl, World.ownsRow_nil _ _ _ _⟩, hb.alloc hb.size _⟩
  | some p =>
    obtain ⟨en, d⟩ := p
    rw [goodS_some hn, endsL_some hn, (nestO_length hn).1]
    have HN : Hid (nestO xs = some (en, d)) := hn
    clear hn
    go_enter Tryd.func15, Tryd.ntmps15
    go_wp2_with fail
    refine (nest_all a c xs _ hl H.out.1 H.out.2).mono ?_
    rintro e w1 ⟨⟨oa, ol, oc, ea, el, ec, da, dl, dc, b, rfl, hm⟩, hb⟩
    rw [HN.out] at hm
    obtain ⟨hbt, h1, h2, h3⟩ := hm
    obtain rfl : b = true := hbt
    go_wp2
    go_ret2
    exact ⟨⟨_, rfl, h1.alloc _⟩, hb.alloc hb.size _⟩

/-- the program's DepthsOf -/
theorem iDeps_any (a : Option Addr) (c : Nat) (xs : List Stp) (w : World) (hl : xs.length ≤ 1048576) (h : TRow w a xs) (hT : Tab w) :
    Calls Tryd.prog 17 #[.slice a xs.length c] w fun e w' => (∃ v, e = .returned (.tuple #[v, .bool (goodS xs)]) ∧ w'.ownsRow w.heap.size 3 1 v (depsL xs).length (ints (depsL xs))) ∧ Below w.heap.size w w' := by
  have H : Hid (TRow w a xs ∧ Tab w) := ⟨h, hT⟩
  clear h hT
  cases hn : nestO xs with
  | none =>
    rw [goodS_none hn, depsL_none hn]
    have HN : Hid (nestO xs = none) := hn
    clear hn
    go_enter Tryd.func17, Tryd.ntmps17
    go_wp2_with fail
    refine (nest_all a c xs _ hl H.out.1 H.out.2).mono ?_
    rintro e w1 ⟨⟨oa, ol, oc, ea, el, ec, da, dl, dc, b, rfl, hm⟩, hb⟩
    rw [HN.out] at hm
    obtain rfl : b = false := hm
    go_wp2
    go_ret2
    exact ⟨⟨_, rfl, World.ownsRow_nil _ _ _ _⟩, hb.alloc hb.size _⟩
  | some p =>
    obtain ⟨en, d⟩ := p
    rw [goodS_some hn, depsL_some hn, (nestO_length hn).2.1]
    have HN : Hid (nestO xs = some (en, d)) := hn
    clear hn
    go_enter Tryd.func17, Tryd.ntmps17
    go_wp2_with fail
    refine (nest_all a c xs _ hl H.out.1 H.out.2).mono ?_
    rintro e w1 ⟨⟨oa, ol, oc, ea, el, ec, da, dl, dc, b, rfl, hm⟩, hb⟩
    rw [HN.out] at hm
    obtain ⟨hbt, h1, h2, h3⟩ := hm
    obtain rfl : b = true := hbt
    go_wp2
    go_ret2
    exact ⟨⟨_, rfl, h2.alloc _⟩, hb.alloc hb.size _⟩

/-- the model's EndsOf -/
theorem sEnds_any (a : Option Addr) (c : Nat) (xs : List Stp) (w : World) (hl : xs.length ≤ 1048576) (h : TRow w a xs) :
    Calls Tryd.prog 16 #[.slice a xs.length c] w fun e w' => (∃ v, e = .returned (.tuple #[v, .bool (goodS xs)]) ∧ w'.ownsRow w.heap.size 3 1 v (endsL xs).length (ints (endsL xs))) ∧ Below w.heap.size w w' := by
  have H : Hid (TRow w a xs) := h
  clear h
  cases hn : nestO xs with
  | none =>
    rw [goodS_none hn, endsL_none hn]
    have HN : Hid (nestO xs = none) := hn
    clear hn
    go_enter Tryd.func16, Tryd.ntmps16
    go_wp2_with fail
    refine (l3Ends_any a c xs _ hl H.out).mono ?_
    rintro e w1 ⟨⟨v, b, rfl, hm⟩, hb⟩
    rw [HN.out] at hm
    obtain rfl : b = false := hm
    go_wp2
    go_ret2
    exact ⟨⟨_, rfl, World.ownsRow_nil _ _ _ _⟩, hb⟩
  | some p =>
    obtain ⟨en, d⟩ := p
    rw [goodS_some hn, endsL_some hn, (nestO_length hn).1]
    have HN : Hid (nestO xs = some (en, d)) := hn
    clear hn
    go_enter Tryd.func16, Tryd.ntmps16
    go_wp2_with fail
    refine (l3Ends_any a c xs _ hl H.out).mono ?_
    rintro e w1 ⟨⟨v, b, rfl, hm⟩, hb⟩
    rw [HN.out] at hm
    obtain ⟨hbt, h1⟩ := hm
    obtain rfl : b = true := hbt
    go_wp2
    go_ret2
    exact ⟨⟨_, rfl, h1⟩, hb⟩

theorem news_at1 (w : World) (o1 : Obj) (v : Value) (t : TypeId) : ∀ j u, [v][j]? = some u → ((w.alloc o1).alloc (.cells #[v] t)).cell? ((⟨w.heap.size + 1, 0, none⟩ : Addr).add j) = some u := by
  refine World.news_of_block (cs := #[v]) (t := t) (fr := (0, 0)) ?_
  have := heap_alloc_new (w.alloc o1) (.cells #[v] t)
  rw [size_alloc1] at this
  exact this
theorem depL_cons (n : Int) (x : Stp) (r : List Stp) : depL n (x :: r) = n :: depL (if opensB x.1 = true then n + 1 else if x.1 = 19 then n - 1 else n) r := rfl
set_option maxHeartbeats 2000000 in
/-- the model's depths -/
theorem l3Depths_any (a : Option Addr) (c : Nat) (xs : List Stp) (w : World) (hl : xs.length ≤ 1048576) (h : TRow w a xs) :
    Calls Tryd.prog 72 #[.slice a xs.length c] w fun e w' => (∃ v, e = .returned v ∧ w'.ownsRow w.heap.size 3 1 v (depL 0 xs).length (ints (depL 0 xs))) ∧ Below w.heap.size w w' := by
  obtain ⟨i0, hi, hz0, hz1, hz2⟩ := info_parts info3
  by_cases hx : xs = []
  · subst hx
    clear h
    go_enter Tryd.func72, Tryd.ntmps72
    go_wp2
    go_loopw [3, 4, 9] (fun t3 t4 t9 wr => t3 = .slice none 0 0 ∧ t4 = .int .i64 0 ∧ t9 = .int .i64 0 ∧ wr = w) (fun _ _ _ _ => 0)
    case atStart => exact ⟨rfl, rfl, rfl, rfl⟩
    case round =>
      obtain ⟨rfl, rfl, rfl, rfl⟩ := hrel
      go_wp2
      go_ret
      exact ⟨⟨_, rfl, World.ownsRow_nil _ _ _ _⟩, Below.refl _ _⟩
  · obtain ⟨b, off, rfl, hat⟩ := h.at hx
    have HA : Hid (_) := hat
    clear hat hx h
    go_enter Tryd.func72, Tryd.ntmps72
    go_wp2
    go_loopw [3, 4, 9] (fun t3 t4 t9 wr => ∃ (k : Nat) (n : Int) (acc : List Int) (v : Value), v = t3 ∧ t4 = .int .i64 n ∧ t9 = .int .i64 k ∧ k ≤ xs.length ∧ -(k : Int) ≤ n ∧ n ≤ k ∧ acc.length = k ∧ wr.ownsRow w.heap.size 3 1 v acc.length (ints acc) ∧ depL 0 xs = acc ++ depL n (xs.drop k) ∧ Below w.heap.size w wr) (fun _ _ t9 _ => xs.length - (intOf t9).toNat)
    case atStart => exact ⟨0, 0, [], _, rfl, rfl, rfl, by omega, by omega, by omega, rfl, World.ownsRow_nil _ _ _ _, rfl, Below.refl _ _⟩
    case round =>
      obtain ⟨k, n, acc, v, rfl, rfl, rfl, hk, hn1, hn2, hal, hown, hdep, hB⟩ := hrel
      have HD : Hid (depL 0 xs = acc ++ depL n (xs.drop k)) := hdep
      have HL : Hid (acc.length = k) := hal
      clear hdep hal
      by_cases hlt : k < xs.length
      · obtain ⟨p, nn, t, ta, tc, c1, c2, c3, hbw, hs, HR, HX⟩ := HA.out wr hB k hlt
        have hbr : b < wr.heap.size := Nat.lt_of_lt_of_le hbw hB.size
        have HC : Hid (xs.drop k = (p, nn, t) :: xs.drop (k + 1)) := by
          obtain ⟨hk', he⟩ := List.getElem?_eq_some_iff.1 HX.out
          show _ = _
          rw [← he]; exact List.drop_eq_getElem_cons hk'
        have hopn := fun w => l3Opens_any p w
        obtain ⟨u, hu⟩ : ∃ u, opensB p = u := ⟨_, rfl⟩
        rw [hu] at hopn
        have HU : Hid (opensB p = u) := hu
        clear hu
        have key : ∃ n', (if opensB p = true then n + 1 else if p = 19 then n - 1 else n) = n' ∧ -((k : Int) + 1) ≤ n' ∧ n' ≤ k + 1 := ⟨_, rfl, by split <;> (try split) <;> omega, by split <;> (try split) <;> omega⟩
        obtain ⟨n', hn', hb1, hb2⟩ := key
        have HN : Hid (depL 0 xs = (acc ++ [n]) ++ depL n' (xs.drop (k + 1))) := by
          show _ = _
          rw [HD.out, HC.out, depL_cons, hn']
          simp
        have HNV : Hid ((if opensB p = true then n + 1 else if p = 19 then n - 1 else n) = n') := hn'
        clear hn'
        cases u
        · by_cases h19 : p = 19
          · have HNN : Hid (n - 1 = n') := by show n - 1 = n'; have := HNV.out; rw [HU.out] at this; simpa [h19] using this
            subst h19
            go_wp2_with (at_builtin; refine wpList_append_lies _ rfl _ _ 27 rfl w.heap.size 3 i0 (.int .i64 0) 1 8 Tryd.underlying27 hi hz0 hz1 hz2 rfl (by decide) _ _ _ rfl ((hown.alloc _).alloc _) ⟨wr.heap.size + 1, 0, none⟩ 1 1 [.int .i64 n] rfl rfl (news_at1 wr _ _ 3) (by simp [Value.oneCell']) (by decide) (by rw [HL.out]; unfold maxLen; omega) (by rw [HL.out]; omega) (by have := hB.size; simp; omega) (wr.heap.size + 1 + 1) (by simp) ?_)
            intro g2 cap2 w2 hown2 hgrow2 hat2 hlt2
            have x0 : w2.cell? ⟨wr.heap.size, 0, none⟩ = some (.int .i64 19) := by
              refine hgrow2.cell (below_cell _ (by simp [go_sem])) ?_
              intro he
              have := (hown.lt wr.heap.size he.symm).2
              omega
            have HB2 : Hid (Below w.heap.size w w2) := ((hB.alloc hB.size _).alloc (by have := hB.size; simp; omega) _).grown hgrow2 (by have := hB.size; simp; omega) (fun j hj => (hown.lt j hj).1)
            have HO2 : Hid (_) := hown2
            clear hown hown2 hgrow2 hat2
            go_wp2_with (go_at_call 111; refine (hopn _).mono ?_; rintro e' w' ⟨rfl, hw'⟩; subst w')
            go_roundw
            case rel =>
              refine ⟨k + 1, n - 1, acc ++ [n], _, rfl, rfl, by go_num, by omega, by omega, by omega, by simp [HL.out], ?_, by rw [HNN.out]; exact HN.out, HB2.out⟩
              rw [ints_append, List.length_append]; exact HO2.out
            case measure => simp [intOf]; omega
          · have HNN : Hid (n = n') := by show n = n'; have := HNV.out; rw [HU.out] at this; simpa [h19] using this
            go_wp2_with (at_builtin; refine wpList_append_lies _ rfl _ _ 27 rfl w.heap.size 3 i0 (.int .i64 0) 1 8 Tryd.underlying27 hi hz0 hz1 hz2 rfl (by decide) _ _ _ rfl ((hown.alloc _).alloc _) ⟨wr.heap.size + 1, 0, none⟩ 1 1 [.int .i64 n] rfl rfl (news_at1 wr _ _ 3) (by simp [Value.oneCell']) (by decide) (by rw [HL.out]; unfold maxLen; omega) (by rw [HL.out]; omega) (by have := hB.size; simp; omega) (wr.heap.size + 1 + 1) (by simp) ?_)
            intro g2 cap2 w2 hown2 hgrow2 hat2 hlt2
            have x0 : w2.cell? ⟨wr.heap.size, 0, none⟩ = some (.int .i64 p) := by
              refine hgrow2.cell (below_cell _ (by simp [go_sem])) ?_
              intro he
              have := (hown.lt wr.heap.size he.symm).2
              omega
            have HB2 : Hid (Below w.heap.size w w2) := ((hB.alloc hB.size _).alloc (by have := hB.size; simp; omega) _).grown hgrow2 (by have := hB.size; simp; omega) (fun j hj => (hown.lt j hj).1)
            have HO2 : Hid (_) := hown2
            clear hown hown2 hgrow2 hat2
            go_wp2_with (go_at_call 111; refine (hopn _).mono ?_; rintro e' w' ⟨rfl, hw'⟩; subst w')
            go_roundw
            case rel =>
              refine ⟨k + 1, n, acc ++ [n], _, rfl, rfl, by go_num, by omega, by omega, by omega, by simp [HL.out], ?_, by have := HN.out; rw [← HNN.out] at this; exact this, HB2.out⟩
              rw [ints_append, List.length_append]; exact HO2.out
            case measure => simp [intOf]; omega
        · have HNN : Hid (n + 1 = n') := by show n + 1 = n'; have := HNV.out; rw [HU.out] at this; simpa using this
          go_wp2_with (at_builtin; refine wpList_append_lies _ rfl _ _ 27 rfl w.heap.size 3 i0 (.int .i64 0) 1 8 Tryd.underlying27 hi hz0 hz1 hz2 rfl (by decide) _ _ _ rfl ((hown.alloc _).alloc _) ⟨wr.heap.size + 1, 0, none⟩ 1 1 [.int .i64 n] rfl rfl (news_at1 wr _ _ 3) (by simp [Value.oneCell']) (by decide) (by rw [HL.out]; unfold maxLen; omega) (by rw [HL.out]; omega) (by have := hB.size; simp; omega) (wr.heap.size + 1 + 1) (by simp) ?_)
          intro g2 cap2 w2 hown2 hgrow2 hat2 hlt2
          have x0 : w2.cell? ⟨wr.heap.size, 0, none⟩ = some (.int .i64 p) := by
            refine hgrow2.cell (below_cell _ (by simp [go_sem])) ?_
            intro he
            have := (hown.lt wr.heap.size he.symm).2
            omega
          have HB2 : Hid (Below w.heap.size w w2) := ((hB.alloc hB.size _).alloc (by have := hB.size; simp; omega) _).grown hgrow2 (by have := hB.size; simp; omega) (fun j hj => (hown.lt j hj).1)
          have HO2 : Hid (_) := hown2
          clear hown hown2 hgrow2 hat2
          go_wp2_with (go_at_call 111; refine (hopn _).mono ?_; rintro e' w' ⟨rfl, hw'⟩; subst w')
          go_roundw
          case rel =>
            refine ⟨k + 1, n + 1, acc ++ [n], _, rfl, rfl, by go_num, by omega, by omega, by omega, by simp [HL.out], ?_, by rw [HNN.out]; exact HN.out, HB2.out⟩
            rw [ints_append, List.length_append]; exact HO2.out
          case measure => simp [intOf]; omega
      · obtain rfl : k = xs.length := by omega
        go_wp2
        go_ret
        refine ⟨⟨_, rfl, ?_⟩, hB⟩
        have := HD.out
        rw [List.drop_of_length_le (Nat.le_refl _)] at this
        rw [this]
        simpa [depL] using hown

/-- the model's DepthsOf -/
theorem sDeps_any (a : Option Addr) (c : Nat) (xs : List Stp) (w : World) (hl : xs.length ≤ 1048576) (h : TRow w a xs) :
    Calls Tryd.prog 18 #[.slice a xs.length c] w fun e w' => (∃ v, e = .returned (.tuple #[v, .bool (goodS xs)]) ∧ w'.ownsRow w.heap.size 3 1 v (depsL xs).length (ints (depsL xs))) ∧ Below w.heap.size w w' := by
  have hg := fun w h => sGoodS_any a c xs w hl h
  have H : Hid (TRow w a xs) := h
  clear h
  cases hn : nestO xs with
  | none =>
    rw [goodS_none hn] at hg ⊢
    rw [depsL_none hn]
    have HG : Hid (_) := hg
    clear hn hg
    go_enter Tryd.func18, Tryd.ntmps18
    go_wp2_with (go_at_call 68; refine (HG.out _ H.out).mono ?_; rintro e w1 ⟨rfl, hb1⟩)
    go_ret2
    exact ⟨⟨_, rfl, World.ownsRow_nil _ _ _ _⟩, hb1⟩
  | some p =>
    obtain ⟨en, d⟩ := p
    rw [goodS_some hn] at hg ⊢
    rw [depsL_some hn, nestO_depths hn]
    have HG : Hid (_) := hg
    clear hn hg
    go_enter Tryd.func18, Tryd.ntmps18
    go_wp2_with (go_at_call 68; refine (HG.out _ H.out).mono ?_; rintro e w1 ⟨rfl, hb1⟩)
    refine (l3Depths_any a c xs _ hl (H.out.below hb1)).mono ?_
    rintro e w2 ⟨⟨v, rfl, hown⟩, hb2⟩
    go_wp2
    go_ret2
    exact ⟨⟨_, rfl, owns_mono hown hb1.size⟩, bstep' hb1 hb2⟩
end Go.Proofs.YtnhdhpibdimkbaaDoor
