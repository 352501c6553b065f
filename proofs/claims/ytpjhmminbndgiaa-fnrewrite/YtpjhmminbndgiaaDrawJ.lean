/- The draws of rules with two texts, and a number out of bytes. -/
import Derived.Test.YtpjhmminbndgiaaDrawS
import Derived.Test.YtpjhmminbndgiaaLawPairs
import Derived.BigQuiet
import Derived.Deep.QuietTactic
import Derived.Deep.RegionHeldLaw
namespace Go.Proofs.Ytpjhmminbndgiaa
open Go.RowKit
set_option linter.unusedVariables false
set_option linter.unusedSimpArgs false
set_option maxHeartbeats 8000000
set_option maxRecDepth 100000

theorem drawNorm_any (a : Option Addr) (c : Nat) (zs : List Int) (w : World) (h : Code w a zs) :
    Calls Try.prog 13 #[.slice a zs.length c] w fun e w' => (∃ v xs s, e = .returned (.tuple #[v, .string s]) ∧ Rows4 w' v xs ∧ s.size ≤ 100) ∧ Below w.heap.size w w' := by
  have HR := hid (drawOnce_any a c zs w h)
  clear h
  go_enter Try.func13, Try.ntmps13
  go_wp2_with fail
  refine HR.out.mono ?_
  rintro e w1 ⟨⟨v, xs, s, rfl, hd, hs⟩, hb⟩
  go_wp2
  refine bodyPost_ret (v := .tuple #[v, .string s]) (by simp [results, Try.results13, go_sem, *]) rfl ⟨⟨_, xs, s, rfl, hd, hs⟩, hb⟩
theorem code_at {w : World} {a : Option Addr} {zs : List Int} (h : Code w a zs) {k : Nat} (hk : k < zs.length) : ∃ b off z, a = some ⟨b, off, none⟩ ∧ b < w.heap.size ∧ w.cell? ⟨b, off + k, none⟩ = some (.int .u8 z) ∧ 0 ≤ z ∧ z ≤ 255 := by
  obtain ⟨b, off, rfl, hb, hc⟩ := h.2.2.resolve_left (by intro e; subst e; simp at hk)
  have e : zs[k]?.getD 0 = zs[k] := by simp [hk]
  have := hc k hk
  rw [e] at this
  exact ⟨b, off, _, rfl, hb, this, h.2.1 _ (List.getElem_mem hk)⟩
theorem numberOf_any (a : Option Addr) (c : Nat) (zs : List Int) (w : World) (h : Code w a zs) :
    Calls Try.prog 22 #[.slice a zs.length c] w fun e w' => (∃ r : Nat, e = .returned (.int .i64 (r : Int)) ∧ r < 1000003) ∧ Below w.heap.size w w' := by
  have hl := h.1
  have H := hid h
  clear h
  go_enter Try.func22, Try.ntmps22
  go_wp2
  go_loopw [3, 8] (fun t3 t8 wr => ∃ k r : Nat, t8 = .int .i64 (k : Int) ∧ t3 = .int .i64 (r : Int) ∧ k ≤ zs.length ∧ r < 1000003 ∧ Below w.heap.size w wr) (fun _ t8 _ => zs.length - (intOf t8).toNat)
  case atStart => exact ⟨0, 0, rfl, rfl, by omega, by omega, Below.refl _ _⟩
  case round =>
    obtain ⟨V0, rfl⟩ : ∃ V0, V0 = wr := ⟨_, rfl⟩
    obtain ⟨k, r, rfl, rfl, hk, hr, hB⟩ := hrel
    by_cases hlt : k < zs.length
    · obtain ⟨b, off, z, rfl, hbw, hc, hz0, hz1⟩ := code_at (H.out.later hB) hlt
      go_wp2
      go_roundw
      case rel => exact ⟨k + 1, ((31 * (r : Int) + z) % 1000003).toNat, by go_num, by go_num, by omega, by omega, hB⟩
      case measure => simp [intOf]; omega
    · go_wp2
      go_ret
      exact ⟨⟨r, rfl, hr⟩, hB⟩
theorem joined_at {w : World} {B g c : Nat} {os : List Tx} (h : Sep w B ([] ++ ⟨9, 1, .slice (some ⟨g, 0, none⟩) os.length c, os.length, strs os⟩ :: [])) (hu : ∀ (k : Nat) (u : Tx), os[k]? = some u → List.length u ≤ 100) {q : Nat} (hq : q < os.length) : ∃ u : Tx, u.length ≤ 100 ∧ w.cell? ⟨g, q, none⟩ = some (.string (Sb u)) := by
  obtain ⟨u, hx⟩ : ∃ u, os[q]? = some u := ⟨_, List.getElem?_eq_getElem hq⟩
  exact ⟨u, hu q u hx, h.cell (x := ⟨9, 1, .slice (some ⟨g, 0, none⟩) os.length c, os.length, strs os⟩) (by simp) rfl (j := q) (by simp [strs, hx])⟩
theorem drawJoined_any (a : Option Addr) (c : Nat) (zs : List Int) (w : World) (h : Code w a zs) :
    Calls Try.prog 23 #[.slice a zs.length c] w fun e w' => (∃ v xs s t, e = .returned (.tuple #[v, .string s, .string t]) ∧ Rows4 w' v xs ∧ s.size ≤ 100 ∧ t.size ≤ 100) ∧ Below w.heap.size w w' := by
  have HR := hid (rules_any w.heap.size w.heap.size 0 _ (h.cur c) (by omega))
  clear h
  go_enter Try.func23, Try.ntmps23
  go_wp2_with fail
  refine HR.out.mono ?_
  rintro e w1 ⟨⟨v, n, xs, rfl, hd, hn⟩, hc, hg⟩
  go_wp2_with fail
  refine (word15_any w.heap.size w.heap.size _ _ hc (by omega)).mono ?_
  rintro e w2 ⟨⟨s, rfl, hs⟩, hc2, hg2⟩
  have HF := hid (And.intro hd.1 hd.2.1)
  have HS2 := hid (hd.2.2.far hg2 (by simp))
  have HG2 := hid (grownBy_trans hg hg2)
  have HC2 := hid hc2
  have hr0 := (Drawn.rows ⟨hd.1, hd.2.1, HS2.out⟩ hn)
  obtain ⟨va, vc, rfl⟩ := slice_of_owned (one_sep hd.2.2)
  obtain ⟨⟨ra, rc, hrv, hr⟩, hsh, hx4⟩ := hr0
  have hnx := hd.1
  obtain ⟨rfl, rfl⟩ : va = ra ∧ vc = rc := by injection hrv with e1 e2 e3; exact ⟨e1, e3⟩
  clear hd hc hg HR hc2 hg2 hrv
  obtain ⟨f, hf⟩ : ∃ f, (rulesB (Rs xs) && okB 40 (Bt s)) = f := ⟨_, rfl⟩
  obtain ⟨os, hos⟩ : ∃ os, onceBy xs s = os := ⟨_, rfl⟩
  have HO := hid (sOnceBy_any va vc xs s w2 (by omega) hsh (by omega) hr)
  have HU := hid (fun (k : Nat) (u : Tx) (hu : os[k]? = some u) => (once_less (xs := xs) (s := s) (hos ▸ List.mem_of_getElem? hu) hs).2)
  have hol := onceBy_len xs s
  rw [hf, hos, ← hnx] at HO
  rw [hos] at hol
  clear hr hsh hos hf hnx
  go_wp2_with fail
  refine HO.out.mono ?_
  rintro e w3 ⟨⟨v3, rfl, ho3⟩, hb3⟩
  have HC3 := hid (HC2.out.far (grownBy_of_below hb3 none))
  have HS3 := hid (HS2.out.below hb3)
  have HG3 := hid (grownBy_trans HG2.out (grownBy_of_below hb3 (some w.heap.size)))
  have hw2 := HC2.out.lt
  have HT3 := hid (sep_one ho3)
  obtain ⟨oa, oc, rfl⟩ := slice_of_owned ho3
  clear ho3 hb3 HO HC2 HS2 HG2
  by_cases hy : f = true ∧ 0 < os.length
  · obtain ⟨rfl, hpos⟩ := hy
    go_wp2_with fail
    refine (one_any w.heap.size w.heap.size _ 2 _ HC3.out (by omega) (by omega) (by omega)).mono ?_
    rintro e w4 ⟨r1, rfl, hc4, hg4⟩
    have HC4 := hid hc4
    have HS4 := hid (HS3.out.far hg4 (by simp))
    have HT4 := hid (HT3.out.far hg4 hw2)
    have HG4 := hid (grownBy_trans HG3.out hg4)
    clear hc4 hg4 HC3 HS3 HT3 HG3
    cases r1 with
    | true =>
      obtain ⟨g, rfl⟩ := slice_at (one_sep HT4.out) hpos
      have CP := hid (fun (W : World) (hW : Cur W w.heap.size w.heap.size (0 + 2000 + 60 + 2)) => pick_any w.heap.size w.heap.size _ (os.length : Int) W hW (by omega) (by omega) (by omega))
      have HX := hid (fun (W : World) (q : Nat) (hq : q < os.length) (hgP : w4.grownBy W (some w.heap.size)) => joined_at (HT4.out.far hgP hw2) HU.out hq)
      go_wp2
      go_region_with ((first | (go_at_call 58; refine (CP.out w4.drew HC4.out).mono ?_; rintro e w9 ⟨r, rfl, hr, hcP, hgP⟩; obtain ⟨q, rfl⟩ : ∃ q : Nat, r = (q : Int) := ⟨r.toNat, by omega⟩; have hq : q < os.length := (by omega); have hgQ : w4.grownBy w9 (some w.heap.size) := ⟨hgP.os, hgP.tape, hgP.output, hgP.size, hgP.block⟩; obtain ⟨u, huz, huc⟩ := HX.out w9 q hq hgQ; have HG9 := hid (grownBy_trans HG4.out hgQ); have HS9 := hid (HS4.out.far hgQ (by simp)); clear hr hcP hgP hgQ)))
      all_goals go_wp2
      all_goals refine bodyPost_ret (v := .tuple #[.slice va n vc, .string s, .string (Sb u)]) (by simp [results, Try.results23, go_sem, *]) rfl ⟨⟨_, xs, s, Sb u, rfl, Drawn.rows ⟨HF.out.1, HF.out.2, HS9.out⟩ hn, hs, by rw [Bt_size, Bt_Sb]; exact huz⟩, below_of_alloc HG9.out⟩
    | false =>
      go_wp2_with fail
      refine (word15_any w.heap.size w.heap.size _ _ HC4.out (by omega)).mono ?_
      rintro e w8 ⟨⟨t, rfl, ht⟩, hc8, hg8⟩
      have HB8 := hid (below_of_alloc (grownBy_trans HG4.out hg8))
      have HD8 := hid (Drawn.rows ⟨HF.out.1, HF.out.2, HS4.out.far hg8 (by simp)⟩ hn)
      clear hc8 hg8
      go_wp2
      refine bodyPost_ret (v := .tuple #[.slice va n vc, .string s, .string t]) (by simp [results, Try.results23, go_sem, *]) rfl ⟨⟨_, xs, s, t, rfl, HD8.out, hs, ht⟩, HB8.out⟩
  · by_cases hf : f = true
    · subst hf
      have hno : ¬ 0 < os.length := by simpa using hy
      go_wp2_with fail
      refine (word15_any w.heap.size w.heap.size _ _ HC3.out (by omega)).mono ?_
      rintro e w8 ⟨⟨t, rfl, ht⟩, hc8, hg8⟩
      have HB8 := hid (below_of_alloc (grownBy_trans HG3.out hg8))
      have HD8 := hid (Drawn.rows ⟨HF.out.1, HF.out.2, HS3.out.far hg8 (by simp)⟩ hn)
      clear hc8 hg8
      go_wp2
      refine bodyPost_ret (v := .tuple #[.slice va n vc, .string s, .string t]) (by simp [results, Try.results23, go_sem, *]) rfl ⟨⟨_, xs, s, t, rfl, HD8.out, hs, ht⟩, HB8.out⟩
    · obtain rfl : f = false := by simpa using hf
      go_wp2_with fail
      refine (word15_any w.heap.size w.heap.size _ _ HC3.out (by omega)).mono ?_
      rintro e w8 ⟨⟨t, rfl, ht⟩, hc8, hg8⟩
      have HB8 := hid (below_of_alloc (grownBy_trans HG3.out hg8))
      have HD8 := hid (Drawn.rows ⟨HF.out.1, HF.out.2, HS3.out.far hg8 (by simp)⟩ hn)
      clear hc8 hg8
      go_wp2
      refine bodyPost_ret (v := .tuple #[.slice va n vc, .string s, .string t]) (by simp [results, Try.results23, go_sem, *]) rfl ⟨⟨_, xs, s, t, rfl, HD8.out, hs, ht⟩, HB8.out⟩
end Go.Proofs.Ytpjhmminbndgiaa
