/- The model's SplitNode. -/
import Derived.Test.YtjnlhffmahfekaaCopy7
namespace Go.Proofs.Ytjnlhffmahfekaa
open Go.RowKit
set_option linter.unusedVariables false
set_option linter.unusedSimpArgs false
set_option maxRecDepth 100000

/-- a node more, like k, to which f leads instead -/
def splitX (xs : List (List Int)) (k f : Nat) : List (List Int) := xs.set f (dropL (xs.getD f []) k ++ [(xs.length : Int)]) ++ [xs.getD k []]
/-- where a node can be split -/
def SplitOk (xs : List (List Int)) (k f : Int) : Prop := GoodG xs ∧ 0 < k ∧ k < xs.length ∧ 0 ≤ f ∧ f < xs.length ∧ k ∈ xs.getD f.toNat [] ∧ xs.length ≠ 12
theorem split_len (xs : List (List Int)) (k f : Nat) : (splitX xs k f).length = xs.length + 1 := by simp [splitX]
theorem getD_some {xs : List (List Int)} {k : Nat} {l : List Int} (h : xs[k]? = some l) : xs.getD k [] = l := by simp [List.getD, h]
set_option maxHeartbeats 4000000 in
theorem sSplit_bad (a : Option Addr) (c : Nat) (xs : List (List Int)) (k f : Int) (w : World) (hl : xs.length ≤ 9223372036854775807) (h : LRow w a xs) (hk1 : k < 9223372036854775808) (hN : ¬ SplitOk xs k f) :
    Calls Try.prog 32 #[.agg #[.slice a xs.length c], .int .i64 k, .int .i64 f] w fun e w' => e = .returned (.tuple #[.agg #[.slice none 0 0], .bool false]) ∧ Below w.heap.size w w' := by
  have b0 := below2 w (.cells #[.slice a xs.length c] 27) (.cells #[.slice none 0 0] 27)
  have d0 : ((w.alloc (.cells #[.slice a xs.length c] 27)).alloc (.cells #[.slice none 0 0] 27)).cell? ⟨w.heap.size, 0, none⟩ = some (.slice a xs.length c) := by simp [go_sem]
  have x0 : ((w.alloc (.cells #[.slice a xs.length c] 27)).alloc (.cells #[.slice none 0 0] 27)).cell? ⟨w.heap.size + 1, 0, none⟩ = some (.slice none 0 0) := by simp [go_sem]
  have f0 : ((w.alloc (.cells #[.slice a xs.length c] 27)).alloc (.cells #[.slice none 0 0] 27)).frozen? ⟨w.heap.size + 1, 0, none⟩ = false := by simp [go_sem]
  have z0 : ((w.alloc (.cells #[.slice a xs.length c] 27)).alloc (.cells #[.slice none 0 0] 27)).heap.size = w.heap.size + 2 := by simp
  have H := hid h
  by_cases hG : GoodG xs
  · have HC := hid (fun W hb => sGood_any a c xs true W hl (h.below hb) (by simp [hG]))
    have h12 := hG.2.2
    by_cases hk0 : k ≤ 0
    · clear h hN
      go_enter Try.func32, Try.ntmps32
      go_wp2_with fail
      refine (HC.out _ b0).mono ?_
      rintro e w1 ⟨rfl, hb1⟩
      have B1 := bstep' b0 hb1
      have d1 := cell_below d0 hb1
      have x1 := cell_below x0 hb1
      have f1 : w1.frozen? ⟨w.heap.size + 1, 0, none⟩ = false := by rw [hb1.frozen (p := ⟨w.heap.size + 1, 0, none⟩) (by show w.heap.size + 1 < _; omega)]; exact f0
      clear hb1 d0 x0 f0 b0
      go_wp2
      refine bodyPost_ret (v := .tuple #[.agg #[.slice none 0 0], .bool false]) (by simp [results, Try.results32, go_sem, *]) rfl ⟨rfl, B1.setCell (by show w.heap.size ≤ w.heap.size + 1; omega) _⟩
    by_cases hkn : (xs.length : Int) ≤ k
    · clear h hN
      go_enter Try.func32, Try.ntmps32
      go_wp2_with fail
      refine (HC.out _ b0).mono ?_
      rintro e w1 ⟨rfl, hb1⟩
      have B1 := bstep' b0 hb1
      have d1 := cell_below d0 hb1
      have x1 := cell_below x0 hb1
      have f1 : w1.frozen? ⟨w.heap.size + 1, 0, none⟩ = false := by rw [hb1.frozen (p := ⟨w.heap.size + 1, 0, none⟩) (by show w.heap.size + 1 < _; omega)]; exact f0
      clear hb1 d0 x0 f0 b0
      go_wp2
      refine bodyPost_ret (v := .tuple #[.agg #[.slice none 0 0], .bool false]) (by simp [results, Try.results32, go_sem, *]) rfl ⟨rfl, B1.setCell (by show w.heap.size ≤ w.heap.size + 1; omega) _⟩
    by_cases hf0 : f < 0
    · clear h hN
      go_enter Try.func32, Try.ntmps32
      go_wp2_with fail
      refine (HC.out _ b0).mono ?_
      rintro e w1 ⟨rfl, hb1⟩
      have B1 := bstep' b0 hb1
      have d1 := cell_below d0 hb1
      have x1 := cell_below x0 hb1
      have f1 : w1.frozen? ⟨w.heap.size + 1, 0, none⟩ = false := by rw [hb1.frozen (p := ⟨w.heap.size + 1, 0, none⟩) (by show w.heap.size + 1 < _; omega)]; exact f0
      clear hb1 d0 x0 f0 b0
      go_wp2
      refine bodyPost_ret (v := .tuple #[.agg #[.slice none 0 0], .bool false]) (by simp [results, Try.results32, go_sem, *]) rfl ⟨rfl, B1.setCell (by show w.heap.size ≤ w.heap.size + 1; omega) _⟩
    by_cases hfn : (xs.length : Int) ≤ f
    · clear h hN
      go_enter Try.func32, Try.ntmps32
      go_wp2_with fail
      refine (HC.out _ b0).mono ?_
      rintro e w1 ⟨rfl, hb1⟩
      have B1 := bstep' b0 hb1
      have d1 := cell_below d0 hb1
      have x1 := cell_below x0 hb1
      have f1 : w1.frozen? ⟨w.heap.size + 1, 0, none⟩ = false := by rw [hb1.frozen (p := ⟨w.heap.size + 1, 0, none⟩) (by show w.heap.size + 1 < _; omega)]; exact f0
      clear hb1 d0 x0 f0 b0
      go_wp2
      refine bodyPost_ret (v := .tuple #[.agg #[.slice none 0 0], .bool false]) (by simp [results, Try.results32, go_sem, *]) rfl ⟨rfl, B1.setCell (by show w.heap.size ≤ w.heap.size + 1; omega) _⟩
    obtain ⟨fN, rfl⟩ : ∃ fN : Nat, f = fN := ⟨f.toNat, by omega⟩
    have hfN : fN < xs.length := by omega
    obtain ⟨t, ht⟩ : ∃ t, xs[fN]? = some t := ⟨_, List.getElem?_eq_getElem hfN⟩
    have hx : xs ≠ [] := by intro e; subst e; simp at hfN
    have HN : Hid (k ∈ t → (xs.length : Int) = 12) := fun hm => by
      have h1 : xs.length = 12 := Classical.byContradiction fun hne => hN ⟨hG, by omega, by omega, by omega, by omega, by rw [Int.toNat_natCast, getD_some ht]; exact hm, hne⟩
      omega
    have HTT := hid ht
    obtain ⟨b, off, rfl, hbw, hat⟩ := H.out.at hx
    have HA := hid hat
    clear hat ht hx h hN hG
    go_enter Try.func32, Try.ntmps32
    go_wp2_with fail
    refine (HC.out _ b0).mono ?_
    rintro e w1 ⟨rfl, hb1⟩
    have B1 := bstep' b0 hb1
    have d1 := cell_below d0 hb1
    have x1 := cell_below x0 hb1
    have f1 : w1.frozen? ⟨w.heap.size + 1, 0, none⟩ = false := by rw [hb1.frozen (p := ⟨w.heap.size + 1, 0, none⟩) (by show w.heap.size + 1 < _; omega)]; exact f0
    obtain ⟨t', ta, tc, c0, l1, HR, HX⟩ := HA.out w1 B1 fN hfN
    have htt : t' = t := Option.some.inj (HX.out.symm.trans HTT.out)
    rw [htt] at HR c0 l1
    have HH := hid (l1Has_any ta tc t k w1 l1 (HR.out.below B1))
    clear hb1 d0 x0 f0 b0 htt HX
    cases hm : hasB t k with
    | false =>
      rw [hm] at HH
      clear hm
      go_wp2_with fail
      refine HH.out.mono ?_
      rintro e w2 ⟨rfl, hw2⟩
      subst w2
      go_wp2
      refine bodyPost_ret (v := .tuple #[.agg #[.slice none 0 0], .bool false]) (by simp [results, Try.results32, go_sem, *]) rfl ⟨rfl, B1.setCell (by show w.heap.size ≤ w.heap.size + 1; omega) _⟩
    | true =>
      have h12' := HN.out (by simpa [hasB] using hm)
      rw [hm] at HH
      clear hm
      go_wp2_with fail
      refine HH.out.mono ?_
      rintro e w2 ⟨rfl, hw2⟩
      subst w2
      go_wp2
      refine bodyPost_ret (v := .tuple #[.agg #[.slice none 0 0], .bool false]) (by simp [results, Try.results32, go_sem, *]) rfl ⟨rfl, B1.setCell (by show w.heap.size ≤ w.heap.size + 1; omega) _⟩
  · have HC := hid (fun W hb => sGood_any a c xs false W hl (h.below hb) (by simp [hG]))
    clear h hN
    go_enter Try.func32, Try.ntmps32
    go_wp2_with fail
    refine (HC.out _ b0).mono ?_
    rintro e w1 ⟨rfl, hb1⟩
    have B1 := bstep' b0 hb1
    have d1 := cell_below d0 hb1
    have x1 := cell_below x0 hb1
    have f1 : w1.frozen? ⟨w.heap.size + 1, 0, none⟩ = false := by rw [hb1.frozen (p := ⟨w.heap.size + 1, 0, none⟩) (by show w.heap.size + 1 < _; omega)]; exact f0
    clear hb1 d0 x0 f0 b0
    go_wp2
    refine bodyPost_ret (v := .tuple #[.agg #[.slice none 0 0], .bool false]) (by simp [results, Try.results32, go_sem, *]) rfl ⟨rfl, B1.setCell (by show w.heap.size ≤ w.heap.size + 1; omega) _⟩
theorem good_len {xs : List (List Int)} (h : GoodG xs) {i : Nat} {l : List Int} (hl : xs[i]? = some l) : l.length ≤ 12 := by
  obtain ⟨ks, rfl, hr, hb⟩ := (h.1 i l hl).nats
  have := Seen.len (N := xs.length) ⟨hr, hb⟩
  have := h.2.2
  rw [nats_length]; omega
set_option maxHeartbeats 8000000 in
theorem sSplit_good (a : Option Addr) (c : Nat) (xs : List (List Int)) (k f : Nat) (w : World) (h : LRow w a xs) (hOk : SplitOk xs k f) :
    Calls Try.prog 32 #[.agg #[.slice a xs.length c], .int .i64 k, .int .i64 f] w fun e w' => ∃ v ys, e = .returned (.tuple #[.agg #[v], .bool true]) ∧ OwnL w' w.heap.size v ys ∧ lists ys = splitX xs k f ∧ Below w.heap.size w w' := by
  have b0 := below2 w (.cells #[.slice a xs.length c] 27) (.cells #[.slice none 0 0] 27)
  have d0 : ((w.alloc (.cells #[.slice a xs.length c] 27)).alloc (.cells #[.slice none 0 0] 27)).cell? ⟨w.heap.size, 0, none⟩ = some (.slice a xs.length c) := by simp [go_sem]
  have x0 : ((w.alloc (.cells #[.slice a xs.length c] 27)).alloc (.cells #[.slice none 0 0] 27)).cell? ⟨w.heap.size + 1, 0, none⟩ = some (.slice none 0 0) := by simp [go_sem]
  have f0 : ((w.alloc (.cells #[.slice a xs.length c] 27)).alloc (.cells #[.slice none 0 0] 27)).frozen? ⟨w.heap.size + 1, 0, none⟩ = false := by simp [go_sem]
  have z0 : ((w.alloc (.cells #[.slice a xs.length c] 27)).alloc (.cells #[.slice none 0 0] 27)).heap.size = w.heap.size + 2 := by simp
  obtain ⟨hG, hk0, hkn, hf0, hfn, hkm, hne⟩ := hOk
  have hl12 := hG.2.2
  have hkN : k < xs.length := by omega
  have hfN : f < xs.length := by omega
  obtain ⟨t, ht⟩ : ∃ t, xs[f]? = some t := ⟨_, List.getElem?_eq_getElem hfN⟩
  rw [Int.toNat_natCast, getD_some ht] at hkm
  have hx : xs ≠ [] := by intro e; subst e; simp at hfN
  have HC := hid (fun W hb => sGood_any a c xs true W (by omega) (h.below hb) (by simp [hG]))
  have HTT := hid ht
  have HGL := hid (fun (i : Nat) l (hl : xs[i]? = some l) => good_len hG hl)
  obtain ⟨X, hX⟩ : ∃ X, X = xs.set f (dropL (xs.getD f []) k ++ [(xs.length : Int)]) := ⟨_, rfl⟩
  have HX0 : Hid (X.length = xs.length ∧ ∀ (q : Nat) l, xs[q]? = some l → X[q]? = some (if q = f then dropL l k ++ [(xs.length : Int)] else l)) := by
    refine ⟨by rw [hX]; simp, fun q l hl => ?_⟩
    rw [hX]
    by_cases e : q = f
    · subst e; rw [List.getElem?_set_self hfN, if_pos rfl, getD_some hl]
    · rw [List.getElem?_set_ne (fun h => e h.symm), if_neg e]; exact hl
  have HXS : Hid (splitX xs k f = X ++ [xs.getD k []]) := by rw [hX]; rfl
  obtain ⟨b, off, rfl, hbw, hat⟩ := h.at hx
  have HA := hid hat
  have hm : hasB t k = true := by simp [hasB, hkm]
  have hne' : ¬ (xs.length : Int) = 12 := by omega
  have hk0' : ¬ (k : Int) ≤ 0 := by omega
  have hkn' : ¬ (xs.length : Int) ≤ k := by omega
  have hfn' : ¬ (xs.length : Int) ≤ f := by omega
  have hkn2 : ¬ xs.length ≤ k := by omega
  have hfn2 : ¬ xs.length ≤ f := by omega
  have hf2 : ¬ (f : Int) < 0 := by omega
  have hne2 : ¬ xs.length = 12 := by omega
  have HNE := hid hne2
  clear hat ht hx h hG hX hkm hne
  go_enter Try.func32, Try.ntmps32
  go_wp2_with fail
  refine (HC.out _ b0).mono ?_
  rintro e w1 ⟨rfl, hb1⟩
  have B1 := bstep' b0 hb1
  have d1 := cell_below d0 hb1
  have x1 := cell_below x0 hb1
  have f1 : w1.frozen? ⟨w.heap.size + 1, 0, none⟩ = false := by rw [hb1.frozen (p := ⟨w.heap.size + 1, 0, none⟩) (by show w.heap.size + 1 < _; omega)]; exact f0
  obtain ⟨t', ta, tc, c0, l1, HR, HX⟩ := HA.out w1 B1 f hfN
  have htt : t' = t := Option.some.inj (HX.out.symm.trans HTT.out)
  rw [htt] at HR c0 l1
  have HH := hid (l1Has_any ta tc t k w1 l1 (HR.out.below B1))
  rw [hm] at HH
  clear hb1 d0 x0 f0 b0 htt HX hm HC
  go_wp2_with fail
  refine HH.out.mono ?_
  rintro e w2 ⟨rfl, hw2⟩
  subst w2
  have hz1 : w.heap.size + 2 ≤ w1.heap.size := by have := World.block_lt_of_cell? w1 _ x1; simp at this; omega
  have h0 : Made (w1.alloc (.cells #[.slice none 0 0] 27)) w1.heap.size [⟨27, 1, .slice (some ⟨w1.heap.size, 0, none⟩) 1 1, 1, [.slice none 0 0]⟩] (.slice none 0 0) [] := by
    refine ⟨fun y hy => ?_, by simp [apt, Value.ownBlock]⟩
    simp only [List.cons_append, List.nil_append, List.map_nil, List.mem_cons, List.not_mem_nil, or_false] at hy
    rcases hy with rfl | rfl
    · exact cell_own (cs := #[.slice none 0 0]) (heap_alloc_new w1 _) rfl (Nat.le_refl _)
    · exact World.ownsRow_nil _ _ _ _
  have HM0 := hid h0
  have HB0 : Hid (Below w1.heap.size w1 (w1.alloc (.cells #[.slice none 0 0] 27))) := below1 _ _
  have d2 := cell_below d1 (below1 w1 (.cells #[.slice none 0 0] 27))
  clear h0 HH c0 HR l1
  go_wp2
  any_goals (exfalso; rename_i hbad; have := HNE.out; simp at hbad; omega)
  clear hne' hne2
  generalize ((xs.length : Int) == 12) = z12
  generalize (decide ((f : Int) < 0)) = zf
  go_loopw [61] (fun t61 wr => ∃ (q : Nat) (oa : Option Addr) (oc : Nat) (ys : List LV), t61 = .int .i64 q ∧ q ≤ xs.length ∧ Made wr w1.heap.size [⟨27, 1, .slice (some ⟨w1.heap.size, 0, none⟩) 1 1, 1, [.slice oa ys.length oc]⟩] (.slice oa ys.length oc) ys ∧ lists ys = X.take q ∧ Below w1.heap.size w1 wr) (fun t61 _ => xs.length - (intOf t61).toNat)
  case atStart => exact ⟨0, none, 0, [], rfl, by omega, HM0.out, rfl, HB0.out⟩
  case round =>
    obtain ⟨q, oa, oc, ys, rfl, hq, hm, hys, hB⟩ := hrel
    have hobr : w1.heap.size ≤ wr.heap.size := hB.size
    have Bw : Below w.heap.size w wr := B1.trans (hB.mono (by omega))
    have hyl : ys.length ≤ 12 := by have := congrArg List.length hys; rw [lists_length, List.length_take] at this; omega
    have hh := hm.1 ⟨27, 1, .slice (some ⟨w1.heap.size, 0, none⟩) 1 1, 1, [.slice oa ys.length oc]⟩ (by simp)
    have co0 : wr.cell? ⟨w1.heap.size, 0, none⟩ = some (.slice oa ys.length oc) := rowT_at hh rfl rfl
    have fo0 : wr.frozen? ⟨w1.heap.size, 0, none⟩ = false := rowT_frz hh rfl 0
    have HM := hid hm
    have HYS := hid hys
    clear hm hys hh HM0 HB0
    by_cases hqt : q < xs.length
    · obtain ⟨t2, ta2, tc2, c2, l2, HR2, HX2⟩ := HA.out wr Bw q hqt
      have ht2 := HGL.out q t2 HX2.out
      have HXq := hid (HX0.out.2 q t2 HX2.out)
      have HS0 : Hid (Sep (wr.alloc (.cells #[] 3)) wr.heap.size ([] ++ ⟨3, 1, .slice (some ⟨wr.heap.size, 0, none⟩) 0 0, 0, []⟩ :: [])) := sep_one (own_new0 wr _ rfl)
      have HN0 := hid (News.ints ((HR2.out.below Bw).below (below1 wr (.cells #[] 3))))
      have HZ0 : Hid (wr.heap.size ≤ (wr.alloc (.cells #[] 3)).heap.size) := by show wr.heap.size ≤ _; simp
      go_wp2_with (at_builtin; refine wpList_append_sep eltInt rfl _ _ rfl wr.heap.size [] HS0.out rfl HN0.out rfl (by omega) HZ0.out ?_)
      intro va vc w3 hs3 hb3 hg3
      have ho3 : w3.ownsRow wr.heap.size 3 1 (.slice va t2.length vc) t2.length (ints t2) := one_sep (l2 := []) (by simpa using hs3)
      have hb3' : Below wr.heap.size wr w3 := (below1 wr _).trans hb3
      clear hs3 hb3 hg3 HN0 HS0 HZ0
      by_cases hqf : q = f
      · subst hqf
        have ht2e : t2 = t := Option.some.inj (HX2.out.symm.trans HTT.out)
        subst ht2e
        have e9 := HXq.out
        rw [if_pos rfl] at e9
        have HXq := hid e9
        have HDR := hid (l6Drop_any ta2 tc2 t2 k w3 (by omega) ((HR2.out.below Bw).below hb3'))
        have hdl := dropL_len t2 k
        have HB3 := hid hb3'
        clear hb3' ho3 e9
        go_wp2_with fail
        refine HDR.out.mono ?_
        rintro e w4 ⟨va4, vc4, rfl, ho4, hb4⟩
        have HB4 := hid (bstep' HB3.out hb4)
        obtain ⟨D, hD⟩ : ∃ D, dropL t2 k = D := ⟨_, rfl⟩
        rw [hD] at ho4 hdl HXq ⊢
        have HS4 : Hid (Sep (w4.alloc (.cells #[.int .i64 xs.length] 3)) wr.heap.size ([] ++ ⟨3, 1, .slice va4 D.length vc4, D.length, ints D⟩ :: [])) := sep_one (owns_mono (owns_below ho4 (below1 _ _)) HB3.out.size)
        have HN4 := hid (News.one w4 (.int .i64 (xs.length : Int)) 3 _ rfl rfl)
        have HZ4 : Hid (wr.heap.size ≤ (w4.alloc (.cells #[.int .i64 xs.length] 3)).heap.size) := by show wr.heap.size ≤ _; have := HB4.out.size; simp; omega
        clear ho4 hb4 hD HDR
        go_wp2_with (at_builtin; refine wpList_append_sep eltInt rfl _ _ rfl wr.heap.size [] HS4.out rfl HN4.out rfl (by omega) HZ4.out ?_)
        intro va5 vc5 w5 hs5 hb5 hg5
        have HOy : Hid (w5.ownsRow wr.heap.size 3 1 (.slice va5 (D.length + 1) vc5) (D ++ [(xs.length : Int)]).length (ints (D ++ [(xs.length : Int)]))) := by
          have := one_sep hs5
          rw [List.length_append, ints_append]; exact this
        have HBy : Hid (Below wr.heap.size wr w5) := (HB4.out.alloc HB4.out.size _).trans hb5
        clear hs5 hb5 hg5
        have HM1 := hid (((HM.out.with HBy.out hobr ⟨D ++ [(xs.length : Int)], .slice va5 (D.length + 1) vc5⟩ HOy.out)).below (below1 w5 (.cells #[.slice va5 (D.length + 1) vc5] 40)))
        have HN1 := hid (News.one w5 (.slice va5 (D.length + 1) vc5) 40 _ rfl rfl)
        have hoby : w1.heap.size ≤ w5.heap.size := Nat.le_trans hobr HBy.out.size
        have HZ1 : Hid (w1.heap.size ≤ (w5.alloc (.cells #[.slice va5 (D.length + 1) vc5] 40)).heap.size) := by show w1.heap.size ≤ _; simp; omega
        have co : w5.cell? ⟨w1.heap.size, 0, none⟩ = some (.slice oa ys.length oc) := cell_below co0 HBy.out
        have HBz : Hid (Below w1.heap.size w1 (w5.alloc (.cells #[.slice va5 (D.length + 1) vc5] 40))) := (hB.trans (HBy.out.mono hobr)).alloc hoby _
        have HD1 := hid (cell_below co (below1 w5 (.cells #[.slice va5 (D.length + 1) vc5] 40)))
        clear HM
        go_wp2_with (at_builtin; refine wpList_append_sep eltLists rfl _ _ rfl w1.heap.size [⟨27, 1, .slice (some ⟨w1.heap.size, 0, none⟩) 1 1, 1, [.slice oa ys.length oc]⟩] HM1.out rfl HN1.out rfl (by omega) HZ1.out ?_)
        intro va9 vc9 w9 hs9 hb9 hg9
        have hs9' : Sep w9 w1.heap.size ([⟨27, 1, .slice (some ⟨w1.heap.size, 0, none⟩) 1 1, 1, [.slice oa ys.length oc]⟩] ++ ⟨40, 1, .slice va9 (ys.length + 1) vc9, ys.length + 1, vals ys ++ [.slice va5 (D.length + 1) vc5]⟩ :: (ys ++ ([⟨D ++ [(xs.length : Int)], .slice va5 (D.length + 1) vc5⟩] : List LV)).map rowL) := by simpa using hs9
        have hh9 := hs9'.1 ⟨27, 1, .slice (some ⟨w1.heap.size, 0, none⟩) 1 1, 1, [.slice oa ys.length oc]⟩ (by simp)
        have c9 : w9.cell? ⟨w1.heap.size, 0, none⟩ = some (.slice oa ys.length oc) := rowT_at hh9 rfl rfl
        have f9 : w9.frozen? ⟨w1.heap.size, 0, none⟩ = false := rowT_frz hh9 rfl 0
        have HS9 := hid hs9'
        have HB9 := hid (HBz.out.trans hb9)
        clear hs9 hs9' hb9 hg9 hh9 HM1 co
        go_wp2
        go_roundw
        case rel =>
          refine ⟨q + 1, va9, vc9, ys ++ [⟨D ++ [(xs.length : Int)], .slice va5 (D.length + 1) vc5⟩], by go_num, by omega, ?_, ?_, HB9.out.setCell (Nat.le_refl _) _⟩
          · have := Sep.store [] HS9.out 0 (.slice va9 (ys.length + 1) vc9)
            rw [List.length_append]
            exact Made.grown (n := 0) this
          · rw [List.take_add_one, HXq.out, ← HYS.out]; simp [lists]
        case measure => simp [intOf]; omega
      · have e9 := HXq.out
        rw [if_neg hqf] at e9
        have HXq := hid e9
        have HOy := hid ho3
        have HBy := hid hb3'
        have hqf' : ¬ (q : Int) = f := by omega
        clear hb3' ho3 e9
        have HM1 := hid (((HM.out.with HBy.out hobr ⟨t2, .slice va t2.length vc⟩ HOy.out)).below (below1 w3 (.cells #[.slice va t2.length vc] 40)))
        have HN1 := hid (News.one w3 (.slice va t2.length vc) 40 _ rfl rfl)
        have hoby : w1.heap.size ≤ w3.heap.size := Nat.le_trans hobr HBy.out.size
        have HZ1 : Hid (w1.heap.size ≤ (w3.alloc (.cells #[.slice va t2.length vc] 40)).heap.size) := by show w1.heap.size ≤ _; simp; omega
        have co : w3.cell? ⟨w1.heap.size, 0, none⟩ = some (.slice oa ys.length oc) := cell_below co0 HBy.out
        have HBz : Hid (Below w1.heap.size w1 (w3.alloc (.cells #[.slice va t2.length vc] 40))) := (hB.trans (HBy.out.mono hobr)).alloc hoby _
        have HD1 := hid (cell_below co (below1 w3 (.cells #[.slice va t2.length vc] 40)))
        clear HM
        go_wp2_with (at_builtin; refine wpList_append_sep eltLists rfl _ _ rfl w1.heap.size [⟨27, 1, .slice (some ⟨w1.heap.size, 0, none⟩) 1 1, 1, [.slice oa ys.length oc]⟩] HM1.out rfl HN1.out rfl (by omega) HZ1.out ?_)
        intro va9 vc9 w9 hs9 hb9 hg9
        have hs9' : Sep w9 w1.heap.size ([⟨27, 1, .slice (some ⟨w1.heap.size, 0, none⟩) 1 1, 1, [.slice oa ys.length oc]⟩] ++ ⟨40, 1, .slice va9 (ys.length + 1) vc9, ys.length + 1, vals ys ++ [.slice va t2.length vc]⟩ :: (ys ++ ([⟨t2, .slice va t2.length vc⟩] : List LV)).map rowL) := by simpa using hs9
        have hh9 := hs9'.1 ⟨27, 1, .slice (some ⟨w1.heap.size, 0, none⟩) 1 1, 1, [.slice oa ys.length oc]⟩ (by simp)
        have c9 : w9.cell? ⟨w1.heap.size, 0, none⟩ = some (.slice oa ys.length oc) := rowT_at hh9 rfl rfl
        have f9 : w9.frozen? ⟨w1.heap.size, 0, none⟩ = false := rowT_frz hh9 rfl 0
        have HS9 := hid hs9'
        have HB9 := hid (HBz.out.trans hb9)
        clear hs9 hs9' hb9 hg9 hh9 HM1 co
        go_wp2
        go_roundw
        case rel =>
          refine ⟨q + 1, va9, vc9, ys ++ [⟨t2, .slice va t2.length vc⟩], by go_num, by omega, ?_, ?_, HB9.out.setCell (Nat.le_refl _) _⟩
          · have := Sep.store [] HS9.out 0 (.slice va9 (ys.length + 1) vc9)
            rw [List.length_append]
            exact Made.grown (n := 0) this
          · rw [List.take_add_one, HXq.out, ← HYS.out]; simp [lists]
        case measure => simp [intOf]; omega
    · obtain rfl : q = xs.length := by omega
      obtain ⟨t3, ta3, tc3, c3, l3, HR3, HX3⟩ := HA.out wr Bw k hkN
      have ht3 := HGL.out k t3 HX3.out
      have hwlt : w.heap.size < w1.heap.size := by omega
      have dr : wr.cell? ⟨w.heap.size, 0, none⟩ = some (.slice (some ⟨b, off, none⟩) xs.length c) := by rw [hB.cell (p := ⟨w.heap.size, 0, none⟩) hwlt]; exact d1
      have xr : wr.cell? ⟨w.heap.size + 1, 0, none⟩ = some (.slice none 0 0) := by rw [hB.cell (p := ⟨w.heap.size + 1, 0, none⟩) (by show w.heap.size + 1 < _; omega)]; exact x1
      have fr : wr.frozen? ⟨w.heap.size + 1, 0, none⟩ = false := by rw [hB.frozen (p := ⟨w.heap.size + 1, 0, none⟩) (by show w.heap.size + 1 < _; omega)]; exact f1
      have HK : Hid (∀ W, Below w1.heap.size wr W → (W.cell? ⟨w.heap.size, 0, none⟩ = some (.slice (some ⟨b, off, none⟩) xs.length c) ∧ W.cell? ⟨b, off + k, none⟩ = some (.slice ta3 t3.length tc3))) := fun W hW => ⟨by rw [hW.cell (p := ⟨w.heap.size, 0, none⟩) hwlt]; exact dr, by rw [hW.cell (p := ⟨b, off + k, none⟩) (by show b < _; omega)]; exact c3⟩
      have HCO : Hid (∀ W, Below wr.heap.size wr W → W.cell? ⟨w1.heap.size, 0, none⟩ = some (.slice oa ys.length oc)) := fun W hW => cell_below co0 hW
      have cr : wr.cell? ⟨w1.heap.size, 0, none⟩ = some (.slice oa ys.length oc) := co0
      have cr2 : (wr.alloc (.cells #[] 3)).cell? ⟨w1.heap.size, 0, none⟩ = some (.slice oa ys.length oc) := cell_below cr (below1 _ _)
      have er2 : (wr.alloc (.cells #[] 3)).cell? ⟨w.heap.size, 0, none⟩ = some (.slice (some ⟨b, off, none⟩) xs.length c) := cell_below dr (below1 _ _)
      have gr2 : (wr.alloc (.cells #[] 3)).cell? ⟨b, off + k, none⟩ = some (.slice ta3 t3.length tc3) := cell_below c3 (below1 _ _)
      have HS0 : Hid (Sep (wr.alloc (.cells #[] 3)).drew wr.heap.size ([] ++ ⟨3, 1, .slice (some ⟨wr.heap.size, 0, none⟩) 0 0, 0, []⟩ :: [])) := sep_one (show (wr.alloc (.cells #[] 3)).ownsRow wr.heap.size 3 1 (.slice (some ⟨wr.heap.size, 0, none⟩) 0 0) 0 [] from own_new0 wr _ rfl)
      have hb00 : Below wr.heap.size wr (wr.alloc (.cells #[] 3)).drew := (below1 wr _).drew
      have HB00 := hid hb00
      have HN0 := hid (News.ints ((HR3.out.below Bw).below hb00))
      have HZ0 : Hid (wr.heap.size ≤ (wr.alloc (.cells #[] 3)).drew.heap.size) := hb00.size
      have HXX := hid (And.intro xr fr)
      have HYL := hid hyl
      clear hb00 co0 fo0 xr fr
      go_wp2
      go_region_law ((first
        | (refine step_append_sep eltInt (by rfl) _ _ (by rfl) wr.heap.size [] HS0.out (by rfl) HN0.out (by rfl) (by omega) HZ0.out ?_; intro va4 vc4 w4 hs4 hb4' hg4; have hb4 := HB00.out.trans hb4'; have c4 := HCO.out _ hb4; have c5 := HCO.out _ (hb4.alloc hb4.size (.cells #[.slice va4 t3.length vc4] 40)))
        | (refine step_append_sep eltLists (by rfl) _ _ (by rfl) w1.heap.size [⟨27, 1, .slice (some ⟨w1.heap.size, 0, none⟩) 1 1, 1, [.slice oa ys.length oc]⟩] (((HM.out.with hb4 hobr ⟨t3, .slice va4 t3.length vc4⟩ (one_sep (l2 := []) (by simpa using hs4))).below (below1 w4 (.cells #[.slice va4 t3.length vc4] 40)))) (by rfl) (News.one w4 (.slice va4 t3.length vc4) 40 _ rfl rfl) (by rfl) (by omega) (by have := hb4.size; simp; omega) ?_; intro va9 vc9 w9 hs9 hb9 hg9; have HB9 : Hid (Below w1.heap.size wr w9) := ((hb4.mono hobr).alloc (Nat.le_trans hobr hb4.size) _).trans hb9; have hh9 := hs9.1 ⟨27, 1, .slice (some ⟨w1.heap.size, 0, none⟩) 1 1, 1, [.slice oa ys.length oc]⟩ (by simp); have c9 : w9.cell? ⟨w1.heap.size, 0, none⟩ = some (.slice oa ys.length oc) := rowT_at hh9 rfl rfl; have f9 : w9.frozen? ⟨w1.heap.size, 0, none⟩ = false := rowT_frz hh9 rfl 0; clear hh9)))
      all_goals
        have hs9' : Sep w9 w1.heap.size ([] ++ ⟨27, 1, .slice (some ⟨w1.heap.size, 0, none⟩) 1 1, 1, [.slice oa ys.length oc]⟩ :: ⟨40, 1, .slice va9 (ys.length + 1) vc9, ys.length + 1, vals (ys ++ [⟨t3, .slice va4 t3.length vc4⟩])⟩ :: (ys ++ ([⟨t3, .slice va4 t3.length vc4⟩] : List LV)).map rowL) := by simpa [vals] using hs9
        have x9 : w9.cell? ⟨w.heap.size + 1, 0, none⟩ = some (.slice none 0 0) := by rw [HB9.out.cell (p := ⟨w.heap.size + 1, 0, none⟩) (by show w.heap.size + 1 < _; omega)]; exact HXX.out.1
        have g9 : w9.frozen? ⟨w.heap.size + 1, 0, none⟩ = false := by rw [HB9.out.frozen (p := ⟨w.heap.size + 1, 0, none⟩) (by show w.heap.size + 1 < _; omega)]; exact HXX.out.2
        have hneA : ¬ w1.heap.size = w.heap.size + 1 := by omega
        have hneB : ¬ w.heap.size + 1 = w1.heap.size := by omega
        have HS9 := hid hs9'
        have HBB := hid (hB.trans HB9.out)
        have HBW := hid (B1.trans ((hB.trans HB9.out).mono (by omega)))
        clear hs9 hs9' hb9 hg9 hs4 hb4 hb4' hg4 c4 c5 hB
        go_wp2
        refine bodyPost_ret (v := .tuple #[.agg #[.slice va9 (ys.length + 1) vc9], .bool true]) (by simp [results, Try.results32, go_sem, *]) rfl ⟨_, ys ++ [⟨t3, .slice va4 t3.length vc4⟩], rfl, ?_, ?_, ?_⟩
        · have h1 := Sep.store [] HS9.out 0 (.slice va9 (ys.length + 1) vc9)
          have h2 : Sep (w9.setCell ⟨w1.heap.size, 0, none⟩ (.slice va9 (ys.length + 1) vc9)) w1.heap.size (rowsL (.slice va9 (ys.length + 1) vc9) (ys ++ [⟨t3, .slice va4 t3.length vc4⟩])) := by
            have h3 := Sep.tail h1
            unfold rowsL
            rw [List.length_append]
            exact h3
          exact Sep.mono (h2.aside (by omega) _) (by omega)
        · have e1 : lists (ys ++ [⟨t3, .slice va4 t3.length vc4⟩]) = lists ys ++ [t3] := by simp [lists]
          rw [e1, HYS.out, List.take_of_length_le (by rw [HX0.out.1]; exact Nat.le_refl _), HXS.out, getD_some HX3.out]
        · exact (HBW.out.setCell (by show w.heap.size ≤ w1.heap.size; omega) _).setCell (by show w.heap.size ≤ w.heap.size + 1; omega) _
end Go.Proofs.Ytjnlhffmahfekaa
