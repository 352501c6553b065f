/- The nodes from which one comes into a loop: the model. -/
import Derived.Test.YthcenlplfcbfjaaJ5
import Derived.BigQuiet
namespace Go.Proofs.Ythcenlplfcbfjaa
open Go Go.RowKit
set_option linter.unusedVariables false
set_option linter.unusedSimpArgs false
set_option maxRecDepth 100000

/-- those that lead to the head from outside -/
def IsEntr (g : List (List Nat)) (l : Nat × List Nat) (T : List Nat) : Prop := T.Pairwise (· < ·) ∧ ∀ x, x ∈ T ↔ Lead g x l.1 ∧ x ∉ l.2
theorem IsEntr.unique {g : List (List Nat)} {l : Nat × List Nat} {S T : List Nat} (a : IsEntr g l S) (b : IsEntr g l T) : S = T := rising_unique a.1 b.1 (fun x => (a.2 x).trans (b.2 x).symm)
theorem IsEntr.few {g : List (List Nat)} (G : Gr g) {l : Nat × List Nat} {T : List Nat} (a : IsEntr g l T) : T.length ≤ 12 := by
  have h8 := nodup_le (n := g.length) (rising_nodup a.1) (fun x hx => RchW.lt G ((a.2 x).1 hx).1.1)
  have := G.most
  omega
/-- of so many that are come to -/
def Entr (g : List (List Nat)) (l : Nat × List Nat) (ks T : List Nat) : Prop := T.Pairwise (· < ·) ∧ ∀ x, x ∈ T ↔ x ∈ ks ∧ Lead g x l.1 ∧ x ∉ l.2
theorem Entr.begin (g : List (List Nat)) (l : Nat × List Nat) : Entr g l [] [] := ⟨by simp, by simp⟩
theorem Entr.skip {g : List (List Nat)} {l : Nat × List Nat} {ks T : List Nat} (e : Entr g l ks T) {k : Nat} (h : ¬ (Lead g k l.1 ∧ k ∉ l.2)) : Entr g l (ks ++ [k]) T := ⟨e.1, fun x => by
  rw [e.2 x, List.mem_append, List.mem_singleton]
  constructor
  · rintro ⟨h1, h2⟩
    exact ⟨.inl h1, h2⟩
  · rintro ⟨h1 | rfl, h2⟩
    · exact ⟨h1, h2⟩
    · exact absurd h2 h⟩
theorem Entr.put {g : List (List Nat)} {l : Nat × List Nat} {ks T : List Nat} (e : Entr g l ks T) {k : Nat} (h1 : Lead g k l.1) (h2 : k ∉ l.2) : Entr g l (ks ++ [k]) (putL T k) := ⟨putL_rising e.1 k, fun x => by
  rw [putL_mem, e.2 x, List.mem_append, List.mem_singleton]
  constructor
  · rintro (rfl | ⟨h3, h4⟩)
    · exact ⟨.inr rfl, h1, h2⟩
    · exact ⟨.inl h3, h4⟩
  · rintro ⟨h3 | rfl, h4⟩
    · exact .inr ⟨h3, h4⟩
    · exact .inl rfl⟩
theorem Entr.end {g : List (List Nat)} {l : Nat × List Nat} {ks T : List Nat} (e : Entr g l ks T) (h : ∀ k, k ∈ ks ↔ Come g k) : IsEntr g l T := ⟨e.1, fun x => (e.2 x).trans ⟨fun h => h.2, fun h2 => ⟨(h x).2 h2.1.1, h2⟩⟩⟩
theorem Entr.few {g : List (List Nat)} (G : Gr g) {l : Nat × List Nat} {ks T : List Nat} (a : Entr g l ks T) : T.length ≤ 12 := by
  have h8 := nodup_le (n := g.length) (rising_nodup a.1) (fun x hx => RchW.lt G ((a.2 x).1 hx).2.1.1)
  have := G.most
  omega
theorem sEntr_bad (a : Option Addr) (c : Nat) (xs : List (List Int)) (i : Int) (w : World) (hl : xs.length ≤ 9223372036854775807) (h : LRow w a xs) (hG : ¬ GoodG xs) :
    Calls Try.prog 32 #[.agg #[.slice a xs.length c], .int .i64 i] w fun e w' => e = .returned (.tuple #[.slice none 0 0, .bool false]) ∧ Below w.heap.size w w' := by
  have b0 := below1 w (.cells #[.slice a xs.length c] 28)
  have HR := hid (sLoops_bad a c xs (w.alloc (.cells #[.slice a xs.length c] 28)) hl (LRow.below h b0) hG)
  clear h
  go_enter Try.func32, Try.ntmps32
  go_wp2_with fail
  refine HR.out.mono ?_
  rintro e w1 ⟨rfl, hb1⟩
  have B1 := bstep' b0 hb1
  clear hb1 b0 HR
  go_wp2
  go_ret2
  exact ⟨rfl, B1⟩
set_option maxHeartbeats 8000000 in
theorem sEntr_good {g D : List (List Nat)} {L : List (Nat × List Nat)} (G : Gr g) (hD : IsDoms g D) (hL : Rings g D g.length L) (i : Int) (a : Option Addr) (c : Nat) (w : World) (h : GRow w a g) (hG : GoodG (g.map nats)) :
    Calls Try.prog 32 #[.agg #[.slice a g.length c], .int .i64 i] w fun e w' => (((Cyc2 g D ∨ isNode i L.length = false) ∧ e = .returned (.tuple #[.slice none 0 0, .bool false])) ∨ (¬ Cyc2 g D ∧ ∃ (x : Nat) (l : Nat × List Nat) (va : Option Addr) (vc : Nat) (T : List Nat), i = x ∧ L[x]? = some l ∧ e = .returned (.tuple #[.slice va T.length vc, .bool true]) ∧ w'.ownsRow w.heap.size 3 1 (.slice va T.length vc) T.length (ints (nats T)) ∧ IsEntr g l T)) ∧ Below w.heap.size w w' := by
  have hgm := G.most
  have b0 := below1 w (.cells #[.slice a g.length c] 28)
  have d0 : (w.alloc (.cells #[.slice a g.length c] 28)).cell? ⟨w.heap.size, 0, none⟩ = some (.slice a g.length c) := by simp [go_sem]
  have HR := hid (sLoops_good G hD a c (w.alloc (.cells #[.slice a g.length c] 28)) (LRow.below h b0) hG)
  have HW := hid (fun W (hb : Below w.heap.size w W) => sWithout_any G a c (-1) W (LRow.below h hb))
  have H := hid h
  clear h
  go_enter Try.func32, Try.ntmps32
  go_wp2_with fail
  refine HR.out.mono ?_
  rintro e w1 ⟨hc, hb1⟩
  have B1 := bstep' b0 hb1
  have d1 := cell_below d0 hb1
  clear hb1 b0 HR d0
  rcases hc with ⟨h1, rfl⟩ | ⟨h1, v, ys, rfl, ho, hla⟩
  · have HC := hid h1
    clear h1
    go_wp2
    go_ret2
    exact ⟨.inl ⟨.inl HC.out, rfl⟩, B1⟩
  · have HC := hid h1
    obtain ⟨va, vc, rfl⟩ := ho.slice
    obtain rfl : L = loopsP ys := hL.unique hla.rings
    have hyl : ys.length ≤ 12 := by have := hL.le; rw [loopsP_len] at this; omega
    have HO := hid ho
    clear h1 ho hla
    by_cases hi0 : i < 0
    · have HN : Hid (isNode i (loopsP ys).length = false) := by show _ = _; unfold isNode; simp; omega
      go_wp2
      go_ret2
      exact ⟨.inl ⟨.inr HN.out, rfl⟩, B1⟩
    · obtain ⟨x, rfl⟩ : ∃ x : Nat, i = x := ⟨i.toNat, by omega⟩
      by_cases hxl : x < ys.length
      · obtain ⟨y, hy⟩ : ∃ y, ys[x]? = some y := ⟨_, List.getElem?_eq_getElem hxl⟩
        have hib := hL.mem (List.mem_of_getElem? (loopsP_at hy))
        have hhc := isHead.come G hib.2.1
        have hrl : y.s.length ≤ 12 := hib.2.2.few G hhc
        have HY := hid (And.intro hy (And.intro hib.2.2 (loopsP_at hy)))
        clear hib hy hi0
        go_wp2_with fail
        refine (HW.out _ B1).mono ?_
        rintro e w2 ⟨ra, rc, Q, rfl, hQ, hro, hb2⟩
        have B2 := bstep' B1 hb2
        have d2 := cell_below d1 hb2
        have HO2 := hid (HO.out.below hb2)
        have hQl : Q.length ≤ 12 := by
          have h8 := nodup_le (n := g.length) hQ.1 (fun x hx => RchW.lt G ((hQ.2 x).1 hx))
          omega
        have HQR : Hid (Row w2 ra (nats Q)) := own_row (c := rc) (by rw [nats_length]; exact hro)
        clear hb2 HO B1 d1 HW hro
        go_wp2
        go_loopw [8, 31] (fun t8 t31 wr => ∃ (k : Nat) (ea : Option Addr) (ec : Nat) (T : List Nat), t31 = .int .i64 k ∧ k ≤ Q.length ∧ t8 = .slice ea T.length ec ∧ wr.ownsRow w2.heap.size 3 1 (.slice ea T.length ec) T.length (ints (nats T)) ∧ Entr g (y.h, y.s) (Q.take k) T ∧ Below w2.heap.size w2 wr) (fun _ t31 _ => Q.length - (intOf t31).toNat)
        case atStart => exact ⟨0, none, 0, [], rfl, by omega, rfl, World.ownsRow_nil _ _ _ _, Entr.begin _ _, Below.refl _ _⟩
        case round =>
          obtain ⟨k, ea, ec, T, rfl, hk, rfl, ho, he, hB⟩ := hrel
          have hTl : T.length ≤ 12 := he.few G
          have HE := hid (And.intro ho he)
          clear ho he
          by_cases hkl : k < Q.length
          · obtain ⟨q, hq⟩ : ∃ q, Q[k]? = some q := ⟨_, List.getElem?_eq_getElem hkl⟩
            have hqc : Come g q := (hQ.2 q).1 (List.mem_of_getElem? hq)
            have hqg : q < g.length := RchW.lt G hqc
            obtain ⟨l, hl⟩ : ∃ l, g[q]? = some l := ⟨_, List.getElem?_eq_getElem hqg⟩
            have hll : l.length ≤ 12 := by have h1 := nodup_le (n := g.length) (rising_nodup (G.rising _ l hl)) (fun j hj => G.below _ l hl j hj); omega
            have BW := B2.trans (hB.mono B2.size)
            obtain ⟨rb, roff, rfl, hrb, hcs⟩ := HQR.out.at (by intro e; have := congrArg List.length e; rw [nats_length] at this; simp only [List.length_nil] at this; omega)
            obtain ⟨x', hcx, hx'⟩ := hcs wr hB k (by rw [nats_length]; exact hkl)
            obtain rfl : x' = (q : Int) := by have := hx'.out; simp [nats, hq] at this; exact this.symm
            obtain ⟨gb, goff, ta, tc, rfl, hcl, hrow, hbb⟩ := GRow.at' H.out BW hl
            obtain ⟨b, ba, bc, rfl, hb1, hb2, c0, c1, c2, _, ro, hyv⟩ := (HO2.out.below hB).at HY.out.1
            have dr := cell_below d2 hB
            have HTK : Hid (Q.take (k + 1) = Q.take k ++ [q]) := by show _ = _; rw [List.take_add_one, hq]; rfl
            have HLD : Hid (Lead g q y.h ↔ y.h ∈ l) := ⟨fun ⟨_, l', hl', hm⟩ => by rw [hl] at hl'; injection hl' with e; subst e; exact hm, fun hm => ⟨hqc, l, hl, hm⟩⟩
            have H1 := hid (fun n => hasR_any ba bc y.s q (wr.drewN n) (by omega) (Row.below (own_row (c := bc) (by rw [nats_length]; exact ro)) (below_drewN (Below.refl _ _) _)))
            have H2 := hid (fun n => hasR_any ta tc l y.h (wr.drewN n) (by omega) (Row.below (Row.below hrow BW) (below_drewN (Below.refl _ _) _)))
            have HP := hid (fun n => l1Put_any (.slice ea T.length ec) T q w2.heap.size (wr.drewN n) (by omega) (by omega) (owns_below HE.out.1 (below_drewN (Below.refl _ _) _)) hB.size)
            clear ro hyv hrow hcs hx' hq hl
            by_cases hin : q ∈ y.s
            · rw [decide_eq_true hin] at H1
              go_wp2
              go_quiet (first | (go_at_call 55; refine Calls.quiet_of_same (H1.out _)))
              go_wp2
              go_roundw
              case rel => exact ⟨k + 1, ea, ec, T, by go_num, by omega, rfl, owns_below HE.out.1 (below_drewN (Below.refl _ _) _), by rw [HTK.out]; exact HE.out.2.skip (fun h => h.2 hin), below_drewN hB _⟩
              case measure => simp [intOf]; omega
            · rw [decide_eq_false hin] at H1
              by_cases hh : y.h ∈ l
              · rw [decide_eq_true hh] at H2
                go_wp2
                go_quiet (first | (go_at_call_of 55 (Value.slice ba y.s.length bc); refine Calls.quiet_of_same (H1.out _)) | (go_at_call_of 55 (Value.slice ta l.length tc); refine Calls.quiet_of_same (H2.out _)))
                go_wp2_with fail
                refine (HP.out _).mono ?_
                rintro e w6 ⟨pa, pc, rfl, hpo, hpn, hpb⟩
                have HK := hid (And.intro hpo (bstep (below_drewN hB _) hB.size hpb))
                clear hpo hpn hpb
                go_wp2
                go_roundw
                case rel => exact ⟨k + 1, pa, pc, putL T q, by go_num, by omega, rfl, HK.out.1, by rw [HTK.out]; exact HE.out.2.put (HLD.out.2 hh) hin, HK.out.2⟩
                case measure => simp [intOf]; omega
              · rw [decide_eq_false hh] at H2
                go_wp2
                go_quiet (first | (go_at_call_of 55 (Value.slice ba y.s.length bc); refine Calls.quiet_of_same (H1.out _)) | (go_at_call_of 55 (Value.slice ta l.length tc); refine Calls.quiet_of_same (H2.out _)))
                go_wp2
                go_roundw
                case rel => exact ⟨k + 1, ea, ec, T, by go_num, by omega, rfl, owns_below HE.out.1 (below_drewN (Below.refl _ _) _), by rw [HTK.out]; exact HE.out.2.skip (fun h => hh (HLD.out.1 h.1)), below_drewN hB _⟩
                case measure => simp [intOf]; omega
          · obtain rfl : k = Q.length := by omega
            have he := HE.out.2
            rw [List.take_of_length_le (Nat.le_refl _)] at he
            have HF := hid (And.intro (owns_mono HE.out.1 B2.size) (And.intro (he.end hQ.2) (B2.trans (hB.mono B2.size))))
            clear he
            go_wp2
            go_ret2
            exact ⟨.inr ⟨HC.out, x, (y.h, y.s), ea, ec, T, rfl, HY.out.2.2, rfl, HF.out.1, HF.out.2.1⟩, HF.out.2.2⟩
      · have HN : Hid (isNode (x : Int) (loopsP ys).length = false) := by show _ = _; unfold isNode; rw [loopsP_len]; simp; omega
        go_wp2
        go_ret2
        exact ⟨.inl ⟨.inr HN.out, rfl⟩, B1⟩
end Go.Proofs.Ythcenlplfcbfjaa

