/- The model's limit: the walk. -/
import Derived.Test.YthcenlplfcbfjaaLimS8
namespace Go.Proofs.Ythcenlplfcbfjaa
open Go Go.RowKit
set_option linter.unusedVariables false
set_option linter.unusedSimpArgs false
set_option maxRecDepth 100000

theorem Lst.Goes.snoc {n : Nat} {s t : Lst} (h : Lst.Goes n s t) {k p : Nat} (c : t.Can k p) : Lst.Goes (n + 1) s (t.merge k p) := by
  induction h with
  | none s => exact .one c (.none _)
  | one c' _ ih => exact .one c' (ih c)
theorem GRow.get {w : World} {a : Option Addr} {g : List (List Nat)} (h : GRow w a g) {k : Nat} {l : List Nat} (hl : g[k]? = some l) : ∃ b off ta tc, a = some ⟨b, off, none⟩ ∧ w.cell? ⟨b, off + k, none⟩ = some (.slice ta l.length tc) ∧ Row w ta (nats l) := by
  rcases h with h | ⟨b, off, rfl, hc⟩
  · rw [List.map_eq_nil_iff] at h
    rw [h] at hl; simp at hl
  · obtain ⟨ta, tc, _, h2, h3⟩ := hc k (nats l) (by simp [hl])
    rw [nats_length] at h2
    exact ⟨b, off, ta, tc, rfl, h2, h3⟩
theorem Row.nat {w : World} {a : Option Addr} {L : List Nat} (h : Row w a (nats L)) {q x : Nat} (hx : L[q]? = some x) : ∃ b off, a = some ⟨b, off, none⟩ ∧ w.cell? ⟨b, off + q, none⟩ = some (.int .i64 (x : Int)) := by
  rcases h with h | ⟨b, off, rfl, hc⟩
  · have : L = [] := by simpa [nats] using h
    rw [this] at hx; simp at hx
  · refine ⟨b, off, rfl, ?_⟩
    rw [hc q (by rw [nats_length]; exact (List.getElem?_eq_some_iff.1 hx).1)]
    simp [nats, hx]
/-- the state between two rounds -/
structure LimSt (g : List (List Nat)) (wr : World) (B pb : Nat) (la : Option Addr) (lc : Nat) (L : List Nat) (ys : List LV) (N : List (List Nat)) (m : Nat) (L0 : List Nat) : Prop where
  ms : MS wr B pb g.length la lc L ys
  lst : lists ys = natsL N
  isN : IsN g.length N
  nodup : L.Nodup
  lt : ∀ x ∈ L, x < g.length
  noSelf : NoSelf L N
  ends : EndsN L N
  goes : Lst.Goes m (lst0 g) (Go.Proofs.Ythcenlplfcbfjaa.lst L N)
  cnt : L.length + m = L0.length
theorem LimSt.below {g : List (List Nat)} {w w' : World} {B pb : Nat} {la : Option Addr} {lc : Nat} {L : List Nat} {ys : List LV} {N : List (List Nat)} {m : Nat} {L0 : List Nat} (h : LimSt g w B pb la lc L ys N m L0) (hb : Below w.heap.size w w') : LimSt g w' B pb la lc L ys N m L0 := ⟨h.ms.below hb, h.lst, h.isN, h.nodup, h.lt, h.noSelf, h.ends, h.goes, h.cnt⟩
theorem LimSt.len {g : List (List Nat)} {w : World} {B pb : Nat} {la : Option Addr} {lc : Nat} {L : List Nat} {ys : List LV} {N : List (List Nat)} {m : Nat} {L0 : List Nat} (h : LimSt g w B pb la lc L ys N m L0) : ys.length = g.length := by
  have := congrArg List.length h.lst
  rw [lists_length] at this
  simp [natsL, h.isN.1] at this
  exact this
/-- what a node that goes leaves -/
def goneN (N : List (List Nat)) (k p : Nat) (rk rp : List Nat) : List (List Nat) := N.set p (dropN (addAll (dropN rp k) rk) p)
theorem LimSt.pure {g : List (List Nat)} {w : World} {B pb : Nat} {la : Option Addr} {lc : Nat} {L : List Nat} {ys : List LV} {N : List (List Nat)} {m : Nat} {L0 : List Nat} (h : LimSt g w B pb la lc L ys N m L0) {k p : Nat} {rk rp : List Nat} (hk : k ∈ L) (h0 : k ≠ 0) (hl : leadsTo N k L = [p]) (hrk : N[k]? = some rk) (hrp : N[p]? = some rp) :
    IsN g.length (goneN N k p rk rp) ∧ NoSelf (dropN L k) (goneN N k p rk rp) ∧ EndsN (dropN L k) (goneN N k p rk rp) ∧ Lst.Goes (m + 1) (lst0 g) (Go.Proofs.Ythcenlplfcbfjaa.lst (dropN L k) (goneN N k p rk rp)) ∧ (dropN L k).length + (m + 1) = L0.length ∧ (dropN L k).Nodup := by
  obtain ⟨hc, hp, hkp⟩ := can_of h.noSelf hk h0 hl
  have hpl : p < N.length := (List.getElem?_eq_some_iff.1 hrp).1
  have e1 : ∀ y, y ∈ (goneN N k p rk rp).getD p [] ↔ ((y ∈ N.getD p [] ∧ y ≠ k) ∨ y ∈ N.getD k []) ∧ y ≠ p := fun y => by
    unfold goneN
    rw [getD_set_self hpl, mem_dropN, addAll_mem, mem_dropN, getD_some hrp, getD_some hrk]
  have e2 : ∀ a, a ≠ p → (goneN N k p rk rp).getD a [] = N.getD a [] := fun a ha => getD_set_ne (fun e => ha e.symm)
  have hd := dropN_nodup h.nodup hk
  have hcnt := h.cnt
  refine ⟨h.isN.set (dropN_rising (addAll_rising (dropN_rising (h.isN.2 p rp hrp).1 k)) p) (fun x hx => ?_), fun a ha hm => ?_, ends_merge h.ends h.noSelf hc (fun y => mem_dropN) (fun y hy => ((e1 y).1 hy).1) e2, ?_, by omega, hd.1⟩
  · have := (mem_dropN.1 hx).1
    rw [addAll_mem, mem_dropN] at this
    rcases this with h3 | h3
    · exact (h.isN.2 p rp hrp).2 x h3.1
    · exact (h.isN.2 k rk hrk).2 x h3
  · by_cases e : a = p
    · subst e; exact ((e1 a).1 hm).2 rfl
    · rw [e2 a e] at hm
      exact h.noSelf a (mem_dropN.1 ha).1 hm
  · rw [merge_is h.noSelf hc (fun y => mem_dropN) (fun y hy => ⟨fun h => ((e1 y).1 h).1, fun h => (e1 y).2 ⟨h, hy⟩⟩) e2]
    exact h.goes.snoc hc
theorem hasB_nats (r : List Nat) (k : Nat) : hasB (nats r) (k : Int) = decide (k ∈ r) := by
  unfold hasB nats
  rw [Bool.eq_iff_iff, decide_eq_true_iff, decide_eq_true_iff, List.mem_map]
  constructor
  · rintro ⟨a, ha, e⟩
    have : a = k := by omega
    rw [← this]; exact ha
  · exact fun h => ⟨k, h, rfl⟩
theorem add_few {n k : Nat} {rp rk : List Nat} (h1 : rp.Pairwise (· < ·)) (h2 : ∀ x ∈ rp, x < n) (h3 : ∀ x ∈ rk, x < n) (j : Nat) : (addAll (dropN rp k) (rk.take j)).length ≤ n := nodup_le (n := n) (rising_nodup (addAll_rising (dropN_rising h1 k))) (fun x hx => by
  rcases addAll_mem.1 hx with h | h
  · exact h2 x (mem_dropN.1 h).1
  · exact h3 x (List.mem_of_mem_take h))
set_option maxHeartbeats 8000000 in
theorem sLimit_any {g : List (List Nat)} (G : Gr g) (a : Option Addr) (c : Nat) (w : World) (h : GRow w a g) :
    Calls Try.prog 45 #[.agg #[.slice a g.length c]] w fun e w' => (∃ R : Nat, e = .returned (.int .i64 (R : Int)) ∧ LimIs g R) ∧ Below w.heap.size w w' := by
  obtain ⟨i0, hi, hz0, hz1, hz2⟩ := info_parts info40
  have hgm := G.most
  have b0 := below1 w (.cells #[.slice a g.length c] 28)
  have d0 : (w.alloc (.cells #[.slice a g.length c] 28)).cell? ⟨w.heap.size, 0, none⟩ = some (.slice a g.length c) := by simp [go_sem]
  obtain ⟨A, hA⟩ : ∃ A, w.alloc (.cells #[.slice a g.length c] 28) = A := ⟨_, rfl⟩
  have bA : Below w.heap.size w A := by rw [← hA]; exact b0
  have dA : A.cell? ⟨w.heap.size, 0, none⟩ = some (.slice a g.length c) := by rw [← hA]; exact d0
  have zA : w.heap.size < A.heap.size := by rw [← hA]; simp
  have HR := hid (sWithout_any G a c (-1) A (LRow.below h bA))
  have HG := hid (fun W (hb : Below A.heap.size A W) => And.intro (LRow.below h (bstep' bA hb)) (cell_below dA hb))
  clear h b0 d0
  go_enter Try.func45, Try.ntmps45
  go_wp2_with (rw [hA])
  try rw [hA]
  clear hA
  refine HR.out.mono ?_
  rintro e w1 ⟨la, lc, L0, rfl, hIW, hol, hb1⟩
  have hL0l : L0.length ≤ 12 := hIW.len G
  have hlt0 : ∀ x ∈ L0, x < g.length := fun x hx => RchW.lt G ((hIW.2 x).1 hx)
  have d1 := (HG.out _ hb1).2
  clear HR
  go_wp2_with (at_make; refine wpList_make_full _ rfl _ _ 22 rfl w1.heap.size 42 i0 (.slice none 0 0) 1 Try.underlying22 hi hz0 hz1 .i64 .i64 _ _ g.length rfl rfl rfl rfl ?c1 ?c2 ?c3 ?_)
  case c1 => rw [hz2]; omega
  case c2 => unfold maxLen; omega
  case c3 => omega
  intro w2 hown0 hgrow0
  rw [made_lists] at hown0
  have hb2 : Below w1.heap.size w1 w2 := (Below.refl _ _).grown hgrow0 (Nat.le_refl _) (fun k hk => by cases hk)
  obtain ⟨pb, hpb⟩ : ∃ pb, w1.heap.size = pb := ⟨_, rfl⟩
  have zp : A.heap.size ≤ pb := by rw [← hpb]; exact hb1.size
  have HM0 : Hid (MS w2 A.heap.size pb g.length la lc L0 (noLists g.length)) := by
    rw [← hpb]
    exact Sep.append (sep_one hol) hb2 hb1.size (own_start hown0)
  have B2 := bstep' hb1 hb2
  have HIW := hid hIW
  rw [hpb]
  clear hown0 hgrow0 hb1 hb2 hol hIW d1 hpb
  go_wp2
  go_loopw [25] (fun t25 wr => ∃ (q : Nat) (ys : List LV) (N : List (List Nat)), t25 = .int .i64 q ∧ q ≤ L0.length ∧ Hid (MS wr A.heap.size pb g.length la lc L0 ys ∧ lists ys = natsL N ∧ NextIs g (L0.take q) N) ∧ Below A.heap.size A wr) (fun t25 _ => L0.length - (intOf t25).toNat)
  case atStart => exact ⟨0, noLists g.length, _, rfl, by omega, ⟨HM0.out, lists_noLists _, NextIs.begin g⟩, B2⟩
  case round =>
    obtain ⟨q, ys, N, rfl, hq, HI, hB⟩ := hrel
    have hBs := hB.size
    by_cases hqt : q < L0.length
    · obtain ⟨k, hk⟩ : ∃ k, L0[q]? = some k := ⟨_, List.getElem?_eq_getElem hqt⟩
      have hkn := hlt0 k (List.mem_of_getElem? hk)
      obtain ⟨l, hl⟩ : ∃ l, g[k]? = some l := ⟨_, List.getElem?_eq_getElem hkn⟩
      obtain ⟨lb, lo, rfl, cl⟩ := HI.out.1.left.nat hk
      obtain ⟨hgr, cg⟩ := HG.out _ hB
      obtain ⟨gb, go, ta, tc, rfl, ct, rt⟩ := GRow.get hgr hl
      have hll : l.length ≤ 12 := by have := nodup_le (n := g.length) (rising_nodup (G.rising k l hl)) (G.below k l hl); omega
      obtain ⟨r, hr⟩ : ∃ r, N[k]? = some r := ⟨_, List.getElem?_eq_getElem (by rw [HI.out.2.2.1]; exact hkn)⟩
      obtain ⟨sa, sc, hy, cs, fs, _⟩ := HI.out.1.at HI.out.2.1 hr
      have HD := hid (l6Drop_any ta tc (nats l) (k : Int) wr (by rw [nats_length]; omega) rt)
      rw [dropL_nats] at HD
      simp only [nats_length] at HD
      have HX := hid (And.intro hk (And.intro hl (And.intro hr hy)))
      clear hk hl hr hy hgr rt
      go_wp2_with fail
      refine HD.out.mono ?_
      rintro e w5 ⟨va, vc, rfl, ho5, hb5⟩
      have hyl : ys.length = g.length := by have := congrArg List.length HI.out.2.1; rw [lists_length] at this; simp [natsL, HI.out.2.2.1] at this; exact this
      have c5 := cell_below cs hb5
      have f5 : w5.frozen? ⟨pb, k, none⟩ = false := by rw [(bcell hb5).2 pb k (World.block_lt_of_cell? _ _ cs)]; exact fs
      have HN := hid (And.intro (HI.out.1.put hyl hb5 hBs HX.out.2.2.2 ho5) (And.intro (show lists (ys.set k ⟨nats (dropN l k), .slice va (dropN l k).length vc⟩) = natsL (N.set k (dropN l k)) by rw [lists_set, HI.out.2.1, natsL_set]) (show NextIs g (L0.take (q + 1)) (N.set k (dropN l k)) by rw [List.take_add_one, HX.out.1]; exact HI.out.2.2.step HX.out.2.1)))
      have HB5 := hid ((hB.trans (hb5.mono hBs)).setCell (p := ⟨pb, k, none⟩) zp (.slice va (dropN l k).length vc))
      clear ho5 hb5 hyl
      go_wp2
      go_roundw
      case rel => exact ⟨q + 1, _, _, by go_num, by omega, HN, HB5.out⟩
      case measure => simp [intOf]; omega
    · obtain rfl : q = L0.length := by omega
      rw [List.take_of_length_le (Nat.le_refl _)] at HI
      obtain ⟨W3, hW3⟩ : ∃ W3 : World, W3 = wr := ⟨_, rfl⟩
      subst hW3
      have hpure := HI.out.2.2.lst G (fun x => HIW.out.2 x)
      have HST : Hid (LimSt g W3 A.heap.size pb la lc L0 ys N 0 L0) := ⟨HI.out.1, HI.out.2.1, HI.out.2.2.isN G, HIW.out.1, hlt0, hpure.2.1, hpure.2.2, by rw [hpure.1]; exact .none _, by omega⟩
      clear hpure HI HM0 B2
      go_wp2
      go_loopg [3, 7] (L0.length + 2) (fun gk t3 t7 wr => ∃ (xa : Option Addr) (xc : Nat) (L : List Nat) (zs : List LV) (M : List (List Nat)) (m : Nat), t3 = .slice xa L.length xc ∧ Hid (LimSt g wr A.heap.size pb xa xc L zs M m L0) ∧ Below A.heap.size A wr ∧ ((t7 = .bool true ∧ L.length + 1 ≤ gk) ∨ (t7 = .bool false ∧ Hid ((lst L M).End))))
      case atStart => exact ⟨la, lc, L0, ys, N, 0, rfl, HST, hB, .inl ⟨rfl, by omega⟩⟩
      case round =>
        obtain ⟨xa, xc, L, zs, M, m, rfl, HS, hB4, hc⟩ := hrel
        obtain ⟨W4, hW4⟩ : ∃ W4 : World, W4 = wr := ⟨_, rfl⟩
        subst hW4
        have hLl : L.length ≤ 12 := by have := HS.out.cnt; omega
        have hB4s := hB4.size
        rcases hc with ⟨rfl, hgk⟩ | ⟨rfl, HEND⟩
        · go_wp2
          go_loopw [3, 7, 43] (fun t3 t7 t43 wi => ∃ i : Nat, t43 = .int .i64 i ∧ t3 = .slice xa L.length xc ∧ t7 = .bool false ∧ i ≤ L.length ∧ Hid (∀ x ∈ L.take i, x = 0 ∨ (leadsTo M x L).length ≠ 1) ∧ Below W4.heap.size W4 wi) (fun _ _ t43 _ => L.length - (intOf t43).toNat)
          case atStart => exact ⟨0, rfl, rfl, rfl, by omega, hid (by simp), Below.refl _ _⟩
          case round =>
            obtain ⟨i, rfl, rfl, rfl, hi', HNO, hB5⟩ := hrel
            obtain ⟨W5, hW5⟩ : ∃ W5 : World, W5 = wr := ⟨_, rfl⟩
            subst hW5
            have hB5s := hB5.size
            by_cases hit : i < L.length
            · obtain ⟨k, hk⟩ : ∃ k, L[i]? = some k := ⟨_, List.getElem?_eq_getElem hit⟩
              have hkn := HS.out.lt k (List.mem_of_getElem? hk)
              have HS5 := hid (HS.out.below hB5)
              obtain ⟨lb, lo, rfl, cl⟩ := HS5.out.ms.left.nat hk
              have HK := hid hk
              clear hk
              go_wp2
              go_loopw [10, 49] (fun t10 t49 wi => ∃ (j : Nat) (fa : Option Addr) (fc : Nat), t49 = .int .i64 j ∧ j ≤ L.length ∧ t10 = .slice fa (leadsTo M k (L.take j)).length fc ∧ Hid (wi.ownsRow W5.heap.size 3 1 (.slice fa (leadsTo M k (L.take j)).length fc) (leadsTo M k (L.take j)).length (ints (nats (leadsTo M k (L.take j))))) ∧ Below W5.heap.size W5 wi) (fun _ t49 _ => L.length - (intOf t49).toNat)
              case atStart => exact ⟨0, none, 0, rfl, by omega, rfl, World.ownsRow_nil _ _ _ _, Below.refl _ _⟩
              case round =>
                obtain ⟨j, fa, fc, rfl, hj, rfl, HF, hB6⟩ := hrel
                obtain ⟨W6, hW6⟩ : ∃ W6 : World, W6 = wr := ⟨_, rfl⟩
                subst hW6
                have hB6s := hB6.size
                have HS6 := hid (HS5.out.below hB6)
                have hfl : (leadsTo M k (L.take j)).length ≤ 12 := Nat.le_trans (List.length_filter_le _ _) (by rw [List.length_take]; omega)
                by_cases hjt : j < L.length
                · obtain ⟨p, hp⟩ : ∃ p, L[j]? = some p := ⟨_, List.getElem?_eq_getElem hjt⟩
                  have hpn := HS.out.lt p (List.mem_of_getElem? hp)
                  obtain ⟨rp, hrp⟩ : ∃ r, M[p]? = some r := ⟨_, List.getElem?_eq_getElem (by rw [HS.out.isN.1]; exact hpn)⟩
                  have hrf := HS.out.isN.few hrp
                  obtain ⟨lb', lo', e', cp⟩ := HS6.out.ms.left.nat hp
                  injection e' with e'
                  injection e' with e1 e2
                  subst e1 e2
                  obtain ⟨sa, sc, hy, cs, fs, rr⟩ := HS6.out.ms.at HS6.out.lst hrp
                  have hhas := l1Has_any sa sc (nats rp) (k : Int) W6 (by rw [nats_length]; omega) rr
                  rw [hasB_nats, nats_length] at hhas
                  have hlp : L.take (j + 1) = L.take j ++ [p] := by rw [List.take_add_one, hp]; rfl
                  by_cases hkr : k ∈ rp
                  · rw [decide_eq_true hkr] at hhas
                    have HH := hid hhas
                    have HLT : Hid (leadsTo M k (L.take (j + 1)) = leadsTo M k (L.take j) ++ [p]) := by rw [hlp]; exact leadsTo_yes hrp hkr
                    have HSA : Hid (Sep (W6.alloc (.cells #[.int .i64 (p : Int)] 3)) W5.heap.size ([] ++ ⟨3, 1, .slice fa (leadsTo M k (L.take j)).length fc, (leadsTo M k (L.take j)).length, ints (nats (leadsTo M k (L.take j)))⟩ :: [])) := sep_one (owns_below HF.out (below1 W6 _))
                    have HN1 := hid (News.one W6 (.int .i64 (p : Int)) 3 _ rfl rfl)
                    have HZ1 : Hid (W5.heap.size ≤ (W6.alloc (.cells #[.int .i64 (p : Int)] 3)).heap.size) := by show _ ≤ _; simp; omega
                    obtain ⟨fl, hfle⟩ : ∃ fl, leadsTo M k (L.take j) = fl := ⟨_, rfl⟩
                    rw [hfle] at HLT HSA hfl ⊢
                    clear hhas hkr hp hrp hy hlp hfle HF rr
                    go_wp2_with (first | (go_at_call 55; refine HH.out.mono ?_; rintro e w7 ⟨rfl, hw7⟩; subst w7) | (at_builtin; refine wpList_append_sep eltInt rfl _ _ rfl W5.heap.size [] HSA.out rfl HN1.out rfl (by omega) HZ1.out ?_; intro va7 vc7 w7 hs7 hb7 hg7))
                    have HK7 := hid (And.intro (one_sep hs7) ((hB6.trans ((below1 W6 (.cells #[.int .i64 (p : Int)] 3)).mono hB6s)).trans hb7))
                    clear hs7 hb7 hg7 HSA
                    go_wp2
                    go_roundw
                    case rel =>
                      refine ⟨j + 1, va7, vc7, by go_num, by omega, by rw [HLT.out, List.length_append]; rfl, ?_, HK7.out.2⟩
                      rw [HLT.out, List.length_append]
                      have e : ints (nats (fl ++ [p])) = ints (nats fl) ++ [.int .i64 (p : Int)] := by simp [ints, nats]
                      rw [e]
                      exact HK7.out.1
                    case measure => simp [intOf]; omega
                  · rw [decide_eq_false hkr] at hhas
                    have HH := hid hhas
                    have HLT : Hid (leadsTo M k (L.take (j + 1)) = leadsTo M k (L.take j)) := by rw [hlp]; exact leadsTo_no hrp hkr
                    clear hhas hkr hp hrp hy hlp rr
                    go_wp2_with (go_at_call 55; refine HH.out.mono ?_; rintro e w7 ⟨rfl, hw7⟩; subst w7)
                    go_roundw
                    case rel => exact ⟨j + 1, fa, fc, by go_num, by omega, by rw [HLT.out], by rw [HLT.out]; exact HF, hB6⟩
                    case measure => simp [intOf]; omega
                · obtain rfl : j = L.length := by omega
                  rw [List.take_of_length_le (Nat.le_refl _)] at HF hfl ⊢
                  have HNX : (k = 0 ∨ (leadsTo M k L).length ≠ 1) → Hid (∀ x ∈ L.take (i + 1), x = 0 ∨ (leadsTo M x L).length ≠ 1) := fun hx y hy => by
                    rw [List.take_add_one, HK.out] at hy
                    rcases List.mem_append.1 hy with hy | hy
                    · exact HNO.out y hy
                    · simp at hy; subst hy; exact hx
                  have HB56 := hid (hB5.trans (hB6.mono hB5s))
                  by_cases hk0 : k = 0
                  · have HNY := HNX (.inl hk0)
                    clear HNX
                    subst hk0
                    obtain ⟨fn, hfn⟩ : ∃ fn, (leadsTo M 0 L).length = fn := ⟨_, rfl⟩
                    rw [hfn]
                    clear hfn
                    go_wp2
                    go_roundw
                    case rel => exact ⟨i + 1, by go_num, rfl, rfl, by omega, HNY, HB56.out⟩
                    case measure => simp [intOf]; omega
                  · have hk1 : ((k : Int) == 0) = false := by simp [hk0]
                    by_cases hf1 : (leadsTo M k L).length = 1
                    · obtain ⟨p, hp⟩ : ∃ p, leadsTo M k L = [p] := by
                        match hl : leadsTo M k L, hf1 with
                        | [p], _ => exact ⟨p, rfl⟩
                      rw [hp] at HF ⊢
                      clear HNX hf1 hfl
                      obtain ⟨_, hpm, hkp⟩ := can_of HS.out.noSelf (List.mem_of_getElem? HK.out) hk0 hp
                      have hpn := HS.out.lt p hpm
                      obtain ⟨rp, hrp⟩ : ∃ r, M[p]? = some r := ⟨_, List.getElem?_eq_getElem (by rw [HS.out.isN.1]; exact hpn)⟩
                      obtain ⟨rk, hrk⟩ : ∃ r, M[k]? = some r := ⟨_, List.getElem?_eq_getElem (by rw [HS.out.isN.1]; exact hkn)⟩
                      have hrpf := HS.out.isN.few hrp
                      have hrkf := HS.out.isN.few hrk
                      have HPU := hid (HS.out.pure (List.mem_of_getElem? HK.out) hk0 hp hrk hrp)
                      obtain ⟨fb, hfa⟩ : ∃ fb, fa = some ⟨fb, 0, none⟩ := by
                        rcases HF.out.2 with ⟨e, h0⟩ | ⟨g', cap, cur, he, _⟩
                        · simp at h0
                        · injection he with e1 _ _; exact ⟨g', e1⟩
                      subst hfa
                      have cf : W6.cell? ⟨fb, 0, none⟩ = some (.int .i64 (p : Int)) := rowT_at HF.out rfl rfl
                      obtain ⟨sa, sc, hyp, csp, fsp, rrp⟩ := HS6.out.ms.at HS6.out.lst hrp
                      obtain ⟨ka, kc, hyk, csk, fsk, rrk⟩ := HS6.out.ms.at HS6.out.lst hrk
                      have HD := hid (l6Drop_any sa sc (nats rp) (k : Int) W6 (by rw [nats_length]; omega) rrp)
                      rw [dropL_nats] at HD
                      simp only [nats_length] at HD
                      have HAF := hid (fun j => add_few (k := k) (HS.out.isN.2 p rp hrp).1 (HS.out.isN.2 p rp hrp).2 (HS.out.isN.2 k rk hrk).2 j)
                      have HY := hid (And.intro hyp (And.intro hrp hrk))
                      have HRK := hid rrk
                      have hzl := HS.out.len
                      clear hyp hrp hrk hyk rrp rrk HF
                      go_wp2_with (go_at_call 79; refine HD.out.mono ?_; rintro e w8 ⟨va, vc, rfl, ho8, hb8⟩; have csk8 := cell_below csk hb8)
                      have HO8 := hid ho8
                      have hb8s := hb8.size
                      have HB8 := hid hb8
                      clear ho8 hb8 HD
                      go_loopw [14, 85] (fun t14 t85 wi => ∃ (j : Nat) (ua : Option Addr) (uc : Nat), t85 = .int .i64 j ∧ j ≤ rk.length ∧ t14 = .slice ua (addAll (dropN rp k) (rk.take j)).length uc ∧ Hid (wi.ownsRow W6.heap.size 3 1 (.slice ua (addAll (dropN rp k) (rk.take j)).length uc) (addAll (dropN rp k) (rk.take j)).length (ints (nats (addAll (dropN rp k) (rk.take j))))) ∧ Below w8.heap.size w8 wi) (fun _ t85 _ => rk.length - (intOf t85).toNat)
                      case atStart => exact ⟨0, va, vc, rfl, by omega, rfl, HO8, Below.refl _ _⟩
                      case round =>
                        obtain ⟨j, ua, uc, rfl, hj2, rfl, HU, hB9⟩ := hrel
                        obtain ⟨W9, hW9⟩ : ∃ W9 : World, W9 = wr := ⟨_, rfl⟩
                        subst hW9
                        have hB9s := hB9.size
                        have hB69 : Below W6.heap.size W6 W9 := HB8.out.trans (hB9.mono hb8s)
                        have hfew := HAF.out j
                        by_cases hjr : j < rk.length
                        · obtain ⟨x, hx⟩ : ∃ x, rk[j]? = some x := ⟨_, List.getElem?_eq_getElem hjr⟩
                          obtain ⟨xb, xo, rfl, cx⟩ := (HRK.out.below hB69).nat hx
                          have hxn : x < g.length := (HS.out.isN.2 k rk HY.out.2.2).2 x (List.mem_of_getElem? hx)
                          have HP := hid (l1Put_any _ _ x W6.heap.size W9 (by omega) (by omega) HU.out (by omega))
                          have HT : Hid (addAll (dropN rp k) (rk.take (j + 1)) = putL (addAll (dropN rp k) (rk.take j)) x) := by rw [List.take_add_one, hx]; exact addAll_snoc _ _ _
                          clear hx
                          go_wp2_with (go_at_call 65; refine HP.out.mono ?_; rintro e w10 ⟨ua2, uc2, rfl, ho10, _, hb10⟩)
                          have HK10 := hid (And.intro ho10 (hB9.trans (hb10.mono hB9s)))
                          clear ho10 hb10
                          go_roundw
                          case rel => exact ⟨j + 1, ua2, uc2, by go_num, by omega, by rw [HT.out], by rw [HT.out]; exact HK10.out.1, HK10.out.2⟩
                          case measure => simp [intOf]; omega
                        · obtain rfl : j = rk.length := by omega
                          rw [List.take_of_length_le (Nat.le_refl _)] at HU hfew ⊢
                          have HS9 := hid (HS6.out.below hB69)
                          have HD2 := hid (l6Drop_any ua uc (nats (addAll (dropN rp k) rk)) (p : Int) W9 (by rw [nats_length]; omega) (own_row (c := uc) (by rw [nats_length]; exact HU.out)))
                          rw [dropL_nats] at HD2
                          simp only [nats_length] at HD2
                          have hB9A : A.heap.size ≤ W9.heap.size := by omega
                          have HB9 := hid (hB4.trans ((HB56.out.trans (hB69.mono (by omega))).mono (by omega)))
                          have HMP : Hid (∀ w11 v, Below W9.heap.size W9 w11 → w11.ownsRow W9.heap.size 3 1 v (dropN (addAll (dropN rp k) rk) p).length (ints (nats (dropN (addAll (dropN rp k) rk) p))) → MS (w11.setCell ⟨pb, p, none⟩ v) A.heap.size pb g.length (some ⟨lb, lo, none⟩) xc L (zs.set p ⟨nats (dropN (addAll (dropN rp k) rk) p), v⟩)) := fun w11 v hb ho => HS9.out.ms.put hzl hb hB9A HY.out.1 ho
                          have HLD : Hid (∀ W, Row W (some ⟨lb, lo, none⟩) (nats L) → Calls Try.prog 79 #[.slice (some ⟨lb, lo, none⟩) L.length xc, .int .i64 (k : Int)] W fun e w' => ∃ va vc, e = .returned (.slice va (dropN L k).length vc) ∧ w'.ownsRow W.heap.size 3 1 (.slice va (dropN L k).length vc) (dropN L k).length (ints (nats (dropN L k))) ∧ Below W.heap.size W w') := fun W hW => by
                            have := l6Drop_any (some ⟨lb, lo, none⟩) xc (nats L) (k : Int) W (by rw [nats_length]; omega) hW
                            rw [dropL_nats] at this
                            simp only [nats_length] at this
                            exact this
                          obtain ⟨nl, hnl⟩ : ∃ nl, dropN (addAll (dropN rp k) rk) p = nl := ⟨_, rfl⟩
                          obtain ⟨al, hal⟩ : ∃ al, addAll (dropN rp k) rk = al := ⟨_, rfl⟩
                          have HNL := hid hnl
                          rw [hnl] at HD2 HMP
                          rw [hal] at HD2 ⊢
                          have csp9 := cell_below csp hB69
                          have fsp9 : W9.frozen? ⟨pb, p, none⟩ = false := by rw [(bcell hB69).2 pb p (World.block_lt_of_cell? _ _ csp)]; exact fsp
                          clear hnl hal HU hfew
                          go_wp2_with fail
                          refine HD2.out.mono ?_
                          rintro e w11 ⟨va11, vc11, rfl, ho11, hb11⟩
                          have csp11 := cell_below csp9 hb11
                          have fsp11 : w11.frozen? ⟨pb, p, none⟩ = false := by rw [(bcell hb11).2 pb p (World.block_lt_of_cell? _ _ csp9)]; exact fsp9
                          have HM11 := hid (HMP.out w11 _ hb11 ho11)
                          have hb11s := hb11.size
                          have HB11 := hid ((HB9.out.trans (hb11.mono hB9A)).setCell (p := ⟨pb, p, none⟩) zp (.slice va11 nl.length vc11))
                          have HLD2 := hid (HLD.out _ HM11.out.left)
                          clear ho11 hb11 HD2 HMP
                          go_wp2_with fail
                          refine HLD2.out.mono ?_
                          rintro e w12 ⟨va12, vc12, rfl, ho12, hb12⟩
                          have hz11 : A.heap.size ≤ (w11.setCell ⟨pb, p, none⟩ (.slice va11 nl.length vc11)).heap.size := HB11.out.size
                          have HM12 := hid (HM11.out.other hb12 hz11 ho12)
                          have HB12 := hid (HB11.out.trans (hb12.mono hz11))
                          have HST2 : Hid (LimSt g w12 A.heap.size pb va12 vc12 (dropN L k) (zs.set p ⟨nats nl, .slice va11 nl.length vc11⟩) (goneN M k p rk rp) (m + 1) L0) := ⟨HM12.out, by rw [lists_set, HS.out.lst, natsL_set]; unfold goneN; rw [HNL.out], HPU.out.1, HPU.out.2.2.2.2.2, fun x hx => HS.out.lt x (mem_dropN.1 hx).1, HPU.out.2.1, HPU.out.2.2.1, HPU.out.2.2.2.1, HPU.out.2.2.2.2.1⟩
                          have HCN : Hid ((dropN L k).length + 1 = L.length) := (dropN_nodup HS.out.nodup (List.mem_of_getElem? HK.out)).2
                          clear ho12 hb12 HM11 HM12 hz11
                          go_wp2
                          go_roundg (gk - 1)
                          case measure => omega
                          case rel => exact ⟨va12, vc12, dropN L k, _, _, m + 1, rfl, HST2, HB12.out, .inl ⟨rfl, by have := HCN.out; omega⟩⟩
                    · have HNY := HNX (.inr hf1)
                      clear HNX
                      obtain ⟨fn, hfn⟩ : ∃ fn, (leadsTo M k L).length = fn := ⟨_, rfl⟩
                      rw [hfn] at hf1 ⊢
                      have hf2 : ((fn : Int) != 1) = true := by simp; omega
                      clear hfn
                      go_wp2
                      go_roundw
                      case rel => exact ⟨i + 1, by go_num, rfl, rfl, by omega, HNY, HB56.out⟩
                      case measure => simp [intOf]; omega
            · obtain rfl : i = L.length := by omega
              rw [List.take_of_length_le (Nat.le_refl _)] at HNO
              have HE : Hid ((lst L M).End) := fun k p c => by
                have := of_can HS.out.noSelf HS.out.nodup c
                rcases HNO.out k c.node with e | e
                · exact c.ne e
                · rw [this] at e; exact e rfl
              have HS5 := hid (HS.out.below hB5)
              have HB5 := hid (hB4.trans (hB5.mono hB4.size))
              go_wp2
              go_roundg (gk - 1)
              case measure => omega
              case rel => exact ⟨xa, xc, L, zs, M, m, rfl, HS5, HB5.out, .inr ⟨rfl, HE⟩⟩
        · have HF := hid (show LimIs g L.length from ⟨L0, m, _, HIW.out, HS.out.goes, HEND.out, HS.out.cnt⟩)
          have HBF := hid (bstep' bA hB4)
          go_wp2
          go_ret
          exact ⟨⟨L.length, rfl, HF.out⟩, HBF.out⟩
end Go.Proofs.Ythcenlplfcbfjaa
