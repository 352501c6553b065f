/- Steps that use but what is there, told by sets. -/
import Derived.Test.YteihecnmnajahaaGreatDoorK3
import Derived.Test.YteihecnmnajahaaGreatDoorMgood
import Derived.Deep.RegionHeld
namespace Go.Proofs.YteihecnmnajahaaGreatDoor
section
open Go
set_option linter.unusedVariables false
set_option linter.unusedSimpArgs false

def stepT (T : List Nat) (x : Flt) : List Nat := if setsB x.op then putL T x.dst.toNat else T
def tL (T : List Nat) (l : List Flt) : List Nat := l.foldl stepT T
def useOk (T : List Nat) (x : Flt) : Bool := (useD x).all fun v => decide (v ∈ nats T)
def okL : List Nat → List Flt → Bool
  | _, [] => true
  | T, x :: r => useOk T x && okL (stepT T x) r
theorem tL_take {T : List Nat} {l : List Flt} {j : Nat} {x : Flt} (h : l[j]? = some x) : tL T (l.take (j + 1)) = stepT (tL T (l.take j)) x := by
  rw [List.take_add_one, h]; simp [tL]
theorem okL_append (T : List Nat) (l m : List Flt) : okL T (l ++ m) = (okL T l && okL (tL T l) m) := by
  induction l generalizing T with
  | nil => rfl
  | cons x r ih => simp only [List.cons_append, okL, ih, tL, List.foldl_cons, Bool.and_assoc]
theorem okL_take {T : List Nat} {l : List Flt} {j : Nat} {x : Flt} (h : l[j]? = some x) : okL T (l.take (j + 1)) = (okL T (l.take j) && useOk (tL T (l.take j)) x) := by
  rw [List.take_add_one, h, okL_append]; simp [okL]
theorem okL_false {T : List Nat} {l : List Flt} {j : Nat} (h : okL T (l.take j) = false) : okL T l = false := by
  have e : l = l.take j ++ l.drop j := (List.take_append_drop j l).symm
  rw [e, okL_append, h]; rfl
theorem stepT_rising {T : List Nat} (h : T.Pairwise (· < ·)) (x : Flt) : (stepT T x).Pairwise (· < ·) := by
  unfold stepT; split
  · exact putL_rising h _
  · exact h
theorem tL_rising {T : List Nat} (h : T.Pairwise (· < ·)) (l : List Flt) : (tL T l).Pairwise (· < ·) := by
  induction l generalizing T with
  | nil => exact h
  | cons x r ih => exact ih (stepT_rising h x)
theorem stepT_len (T : List Nat) (x : Flt) : (stepT T x).length ≤ T.length + 1 := by
  unfold stepT; split
  · exact putL_len T _
  · omega
theorem tL_len (T : List Nat) (l : List Flt) : (tL T l).length ≤ T.length + l.length := by
  induction l generalizing T with
  | nil => exact Nat.le_refl _
  | cons x r ih =>
    have h1 := ih (stepT T x)
    have h2 := stepT_len T x
    simp only [List.length_cons]
    show (tL (stepT T x) r).length ≤ _
    omega
theorem makeF_none {V : Int} {x : Flt} (h : goodFm V x = true) : (makeF x = -1 ↔ setsB x.op = false) ∧ (setsB x.op = true → 0 ≤ x.dst ∧ x.dst < V) ∧ useD x = usesF x := by
  have hb : setsB x.op = true → 0 ≤ x.dst ∧ x.dst < V := by
    intro hs
    unfold goodFm at h
    simp only [setsB, inB, decide_eq_true_eq] at hs
    split at h
    · simp only [Bool.and_eq_true, belB, inB, decide_eq_true_eq] at h; omega
    · split at h
      · simp only [Bool.and_eq_true, belB, inB, decide_eq_true_eq] at h; omega
      · split at h
        · simp only [Bool.and_eq_true, belB, inB, decide_eq_true_eq] at h; omega
        · omega
  have hu : useD x = usesF x := by
    unfold useD
    rw [if_pos]
    unfold goodFm at h
    simp only [inB, decide_eq_true_eq]
    split at h
    · omega
    · split at h
      · omega
      · split at h
        · omega
        · split at h
          · omega
          · split at h
            · omega
            · cases h
  refine ⟨?_, hb, hu⟩
  unfold makeF
  cases hs : setsB x.op with
  | true =>
    have := hb hs
    simp
    omega
  | false => simp
theorem stepT_there {V : Nat} {D : List Int} {dom : Nat → Prop} {k : Nat} {far : List Int} {T : List Nat} (hT : ∀ v : Int, v ∈ nats T ↔ There V D dom k far v) {x : Flt} (h : goodFm V x = true) (v : Int) : v ∈ nats (stepT T x) ↔ There V D dom k (far ++ if setsB x.op then [x.dst] else []) v := by
  unfold stepT
  cases hs : setsB x.op with
  | false => simpa using hT v
  | true =>
    obtain ⟨d1, d2⟩ := (makeF_none h).2.1 hs
    simp only [if_true, There, List.mem_append, List.mem_singleton]
    have h0 := hT v
    simp only [There] at h0
    have hm : v ∈ nats (putL T x.dst.toNat) ↔ v = x.dst ∨ v ∈ nats T := by
      simp only [nats, List.mem_map, putL_mem]
      constructor
      · rintro ⟨a, (rfl | ha), rfl⟩
        · exact .inl (by omega)
        · exact .inr ⟨a, ha, rfl⟩
      · rintro (rfl | ⟨a, ha, rfl⟩)
        · exact ⟨x.dst.toNat, .inl rfl, by omega⟩
        · exact ⟨a, .inr ha, rfl⟩
    rw [hm, h0]
    constructor
    · rintro (rfl | ⟨h1, h2, h3⟩)
      · exact ⟨d1, d2, .inr (.inl (.inr rfl))⟩
      · refine ⟨h1, h2, ?_⟩
        rcases h3 with h3 | h3 | h3
        · exact .inl h3
        · exact .inr (.inl (.inl h3))
        · exact .inr (.inr h3)
    · rintro ⟨h1, h2, h3⟩
      rcases h3 with h3 | (h3 | h3) | h3
      · exact .inr ⟨h1, h2, .inl h3⟩
      · exact .inr ⟨h1, h2, .inr (.inl h3)⟩
      · exact .inl h3
      · exact .inr ⟨h1, h2, .inr (.inr h3)⟩
theorem tL_there {V : Nat} {D : List Int} {dom : Nat → Prop} {k : Nat} {far : List Int} {T : List Nat} (hT : ∀ v : Int, v ∈ nats T ↔ There V D dom k far v) {l : List Flt} (h : ∀ x ∈ l, goodFm V x = true) (v : Int) : v ∈ nats (tL T l) ↔ There V D dom k (far ++ made l) v := by
  induction l generalizing T far with
  | nil => simpa [tL, made] using hT v
  | cons x r ih =>
    have h1 := ih (stepT_there hT (h x (List.mem_cons_self ..))) (fun y hy => h y (List.mem_cons_of_mem _ hy))
    have e : far ++ (if setsB x.op then [x.dst] else []) ++ made r = far ++ made (x :: r) := by
      simp only [made, List.filter_cons]
      cases setsB x.op <;> simp
    rw [e] at h1
    exact h1
theorem okL_is {V : Nat} {D : List Int} {dom : Nat → Prop} {k : Nat} {far : List Int} {T : List Nat} (hT : ∀ v : Int, v ∈ nats T ↔ There V D dom k far v) {l : List Flt} (h : ∀ x ∈ l, goodFm V x = true) : okL T l = true ↔ StepsOk V D dom k far l := by
  induction l generalizing T far with
  | nil => simp [okL, StepsOk]
  | cons x r ih =>
    have hx := h x (List.mem_cons_self ..)
    have h1 := ih (stepT_there hT hx) (fun y hy => h y (List.mem_cons_of_mem _ hy))
    simp only [okL, StepsOk, Bool.and_eq_true, h1, useOk, (makeF_none hx).2.2, List.all_eq_true, decide_eq_true_eq]
    constructor
    · rintro ⟨h2, h3⟩; exact ⟨fun v hv => (hT v).1 (h2 v hv), h3⟩
    · rintro ⟨h2, h3⟩; exact ⟨fun v hv => (hT v).2 (h2 v hv), h3⟩
def partOkB (T : List Nat) (p : Prt) : Bool := okL T p.code && (ends p).all fun v => decide (v ∈ nats (tL T p.code))
theorem partOk_is {V : Nat} {D : List Int} {dom : Nat → Prop} {k : Nat} {p : Prt} {T : List Nat} (hT : ∀ v : Int, v ∈ nats T ↔ There V D dom k p.params v) (h : ∀ x ∈ p.code, goodFm V x = true) : partOkB T p = true ↔ PartOk V D dom k p := by
  simp only [partOkB, PartOk, Bool.and_eq_true, okL_is hT h, List.all_eq_true, decide_eq_true_eq, tL_there hT h]
theorem thereL_is {V : Nat} {D : List Int} {g : List (List Nat)} {k : Nat} {r P : List Nat} {params : List Int} (hD : D.length = V) (hr : ∀ x, x ∈ r ↔ Dom g x k) (hP : params = nats P) (hPl : ∀ v ∈ params, v < (V : Int)) (v : Int) : v ∈ nats (thereL P k D (nats r) V) ↔ There V D (fun d => Dom g d k) k params v := by
  simp only [There]
  constructor
  · intro h
    obtain ⟨a, ha, rfl⟩ := List.mem_map.1 h
    rcases (thereL_mem P k D (nats r) V a).1 ha with h1 | ⟨h1, h2⟩
    · have h3 : ((a : Nat) : Int) ∈ params := by rw [hP]; exact List.mem_map.2 ⟨a, h1, rfl⟩
      exact ⟨by omega, hPl _ h3, .inr (.inl h3)⟩
    · refine ⟨by omega, by omega, ?_⟩
      simp only [inT, Bool.or_eq_true, Bool.and_eq_true, decide_eq_true_eq] at h2
      rcases h2 with h2 | ⟨h2, h3⟩
      · exact .inl (by omega)
      · refine .inr (.inr ?_)
        obtain ⟨q, hq⟩ : ∃ q, D[a]? = some q := ⟨_, List.getElem?_eq_getElem (by omega)⟩
        rw [hq] at h2 h3
        simp only [Option.getD_some] at h2 h3
        obtain ⟨x, hx, he⟩ := List.mem_map.1 h3
        subst he
        exact ⟨x, by simpa using hq, by omega, (hr x).1 hx⟩
  · rintro ⟨h1, h2, h3⟩
    refine List.mem_map.2 ⟨v.toNat, (thereL_mem P k D (nats r) V v.toNat).2 ?_, by omega⟩
    rcases h3 with h3 | h3 | ⟨d, h3, h4, h5⟩
    · exact .inr ⟨by omega, by simp [inT]; exact .inl (by omega)⟩
    · rw [hP] at h3
      obtain ⟨a, ha, rfl⟩ := List.mem_map.1 h3
      exact .inl (by simpa using ha)
    · refine .inr ⟨by omega, ?_⟩
      simp only [inT, h3, Option.getD_some, Bool.or_eq_true, Bool.and_eq_true, decide_eq_true_eq]
      exact .inr ⟨by omega, List.mem_map.2 ⟨d, (hr d).2 h5, rfl⟩⟩
theorem all_in_len : ∀ (n : Nat) (l : List Nat), (∀ k, k < n → k ∈ l) → n ≤ l.length
  | 0, _, _ => Nat.zero_le _
  | n + 1, l, h => by
    have hn : n ∈ l := h n (by omega)
    have h1 := all_in_len n (l.erase n) (fun k hk => (List.mem_erase_of_ne (by omega)).2 (h k (by omega)))
    rw [List.length_erase_of_mem hn] at h1
    have := List.length_pos_of_mem hn
    omega
/-- all come: the order is as long as the graph -/
theorem order_full {g : List (List Nat)} (G : Gr g) : (order7 g).length = g.length ↔ ∀ k, k < g.length → Come g k := by
  have hn := order_once G
  have hlt := order_lt G
  constructor
  · intro h k hk
    rw [← order_come G]
    refine Classical.byContradiction fun hk2 => ?_
    have := nodup_le (l := k :: order7 g) (n := g.length) (List.nodup_cons.2 ⟨hk2, hn⟩) (by
      intro u hu
      rcases List.mem_cons.1 hu with rfl | hu
      · exact hk
      · exact hlt u hu)
    simp at this
    omega
  · intro h
    have h1 := all_in_len g.length (order7 g) (fun k hk => (order_come G k).2 (h k hk))
    have h2 := nodup_le hn hlt
    omega
end

section
open Go Go.RowKit
set_option linter.unusedVariables false
set_option linter.unusedSimpArgs false
set_option maxRecDepth 100000

/-- how the walk stands -/
structure UseIs (w W : World) (bx : Nat) (sv : Value) (T : List Nat) : Prop where
  sep : Sep W w.heap.size [cellOR 112 1 bx [sv], ⟨3, 1, sv, T.length, ints (nats T)⟩]
  low : Below w.heap.size w W
theorem UseIs.below {w W V : World} {bx : Nat} {sv : Value} {T : List Nat} (h : UseIs w W bx sv T) (hb : Below W.heap.size W V) : UseIs w V bx sv T :=
  ⟨h.sep.below hb, h.low.trans (hb.mono h.low.size)⟩
theorem UseIs.next {w W Z : World} {bx : Nat} {sv sv' : Value} {T T' : List Nat} (h : UseIs w W bx sv T) (hs : Sep Z w.heap.size [cellOR 112 1 bx [sv'], ⟨3, 1, sv', T'.length, ints (nats T')⟩]) (ho : Only (fun b => b = bx ∨ sv.ownBlock = some b) W Z) : UseIs w Z bx sv' T' := by
  have h1 : w.heap.size ≤ bx := (Sep.size h.sep (x := cellOR 112 1 bx [sv]) (by simp) rfl).1
  have h2 : ∀ g, sv.ownBlock = some g → w.heap.size ≤ g := fun g hg => (Sep.size h.sep (x := ⟨3, 1, sv, T.length, ints (nats T)⟩) (by simp) hg).1
  refine ⟨hs, ho.below h.low ?_⟩
  rintro k (e | e)
  · omega
  · have := h2 _ e; omega
theorem UseIs.slice {w W : World} {bx : Nat} {sv : Value} {T : List Nat} (h : UseIs w W bx sv T) : ∃ xa xc, sv = .slice xa T.length xc ∧ Row W xa (nats T) ∧ W.cell? ⟨bx, 0, none⟩ = some sv := by
  have ho : W.ownsRow w.heap.size 3 1 sv T.length (ints (nats T)) := h.sep.get (x := ⟨3, 1, sv, T.length, ints (nats T)⟩) (by simp)
  have hc := Sep.cell h.sep (x := cellOR 112 1 bx [sv]) (g := bx) (j := 0) (u := sv) (by simp) rfl rfl
  obtain ⟨xa, xc, rfl⟩ := slice_own9 ho
  exact ⟨xa, xc, rfl, own_row (B := w.heap.size) (c := xc) (by rw [nats_length]; exact ho), hc⟩
set_option maxHeartbeats 8000000 in
theorem usesAreThere_any (V b o : Nat) (p : Prt) (ca ra va : Option Addr) (cc rc vc : Nat) (T : List Nat) (w0 w : World) (hV : V ≤ 250) (hg : 1 ≤ p.go ∧ p.go ≤ 5) (hTab : Tab w0) (c0 : w0.cell? ⟨b, o, none⟩ = some (.slice ca p.code.length cc)) (c1 : w0.cell? ⟨b, o + 1, none⟩ = some (.int .i64 p.go)) (c2 : w0.cell? ⟨b, o + 2, none⟩ = some (.int .i64 p.test)) (c5 : w0.cell? ⟨b, o + 5, none⟩ = some (.slice ra p.args.length rc)) (hC : FRow w0 ca p.code) (hR : LRow w0 ra p.args) (hl : p.code.length ≤ 60) (hrl : p.args.length ≤ 4000) (hrf : p.args.flatten.length ≤ 4000) (hF : ∀ x ∈ p.code, goodFm V x = true) (hTl : T.length ≤ 600) (hTr : T.Pairwise (· < ·)) (hb : Below w0.heap.size w0 w) (hO : w.ownsRow w0.heap.size 3 1 (.slice va T.length vc) T.length (ints (nats T))) :
    Calls Tryz.prog 83 #[.pointer (some ⟨b, o, none⟩), .agg #[.slice va T.length vc]] w fun e w' => e = .returned (.bool (partOkB T p)) ∧ Below w0.heap.size w0 w' := by
  have hsz := hb.size
  have hbn : Below w.heap.size w (w.alloc (.cells #[.slice va T.length vc] 112)) := below1 w _
  have HA0 : Hid (UseIs w0 (w.alloc (.cells #[.slice va T.length vc] 112)) w.heap.size (.slice va T.length vc) T) := by
    refine ⟨?_, bstep' hb hbn⟩
    refine Sep.cons9 (y := cellOR 112 1 w.heap.size [.slice va T.length vc]) (Sep.below (l := [⟨3, 1, .slice va T.length vc, T.length, ints (nats T)⟩]) (by simpa using sep_one hO) hbn) (cell_own (cs := #[.slice va T.length vc]) (Boxed.new w 112 _) rfl (by omega)) (fun k hk x hx => ?_)
    simp only [List.mem_singleton] at hx
    subst hx
    have hk2 : w.heap.size = k := Option.some.inj hk
    intro e
    have := (hO.lt k e).2
    omega
  have HK := hid (fun (W : World) (h : Below w0.heap.size w0 W) => And.intro (cell_below c0 h) (And.intro (cell_below c1 h) (And.intro (cell_below c2 h) (cell_below c5 h))))
  have HC := hid hC
  have HF := hid hF
  have HTR := hid hTr
  have HUB := hid (fun (W : World) (h : Below w0.heap.size w0 W) => usedBehind_any b o p.go p.test p.args ra rc W hg (hTab.below h) (cell_below c1 h) (cell_below c2 h) (cell_below c5 h) (hR.below h) hrl hrf)
  have HHAS := hid setHas_any
  have kk0 := cell_below c0 (bstep' hb hbn)
  have HPO : Hid (partOkB T p = (okL T p.code && (ends p).all fun v => decide (v ∈ nats (tL T p.code)))) := rfl
  obtain ⟨E, hE⟩ : ∃ l, p.args.flatten ++ (if testsB p.go then [p.test] else []) = l := ⟨_, rfl⟩
  have hel : E.length ≤ 4001 := by rw [← hE, List.length_append]; split <;> simp only [List.length_cons, List.length_nil] <;> omega
  have HEN : Hid (ends p = E) := hE
  rw [hE] at HUB
  obtain ⟨cs, hcs⟩ : ∃ cs, p.code = cs := ⟨_, rfl⟩
  rw [hcs] at HC HF HPO HK kk0 hl
  obtain ⟨PO, hPO⟩ : ∃ q, partOkB T p = q := ⟨_, rfl⟩
  rw [hPO] at HPO ⊢
  clear c0 c1 c2 c5 hC hF hTr hTab hR hrl hrf hO hbn hE hcs hPO hg
  go_enter Tryz.func83, Tryz.ntmps83
  go_wp2
  go_loopw [15] (fun t15 wr => ∃ (j : Nat) (sv : Value), t15 = .int .i64 j ∧ j ≤ cs.length ∧ okL T (cs.take j) = true ∧ UseIs w0 wr w.heap.size sv (tL T (cs.take j))) (fun t15 _ => cs.length - (intOf t15).toNat)
  case atStart => exact ⟨0, _, rfl, by omega, rfl, HA0.out⟩
  case round =>
    obtain ⟨j, sv, rfl, hj, hok, hI⟩ := hrel
    have hTl2 := tL_len T (cs.take j)
    rw [List.length_take] at hTl2
    have HTR2 := hid (tL_rising HTR.out (cs.take j))
    have HOK := hid hok
    clear hok
    by_cases hjl : j < cs.length
    · obtain ⟨cb, coff, rfl, hcw, hcat⟩ := HC.out.at (by intro e; subst e; simp at hjl)
      obtain ⟨fp, fd, ft, fx, fy, fn, f0, f1, f2, f3, f4, f5, HXF⟩ := hcat wr hI.low j hjl
      clear hcat
      obtain ⟨x, hx⟩ : ∃ x : Flt, x = ⟨fp, fd, ft, fx, fy, fn⟩ := ⟨_, rfl⟩
      have HX : Hid (cs[j]? = some x) := by rw [hx]; exact HXF.out
      have HGF := hid (makeF_none (HF.out x (List.mem_of_getElem? HX.out)))
      obtain ⟨dv, hdv⟩ : ∃ v, deedV x = v := ⟨_, rfl⟩
      have HD : Hid (∀ W, Calls Tryz.prog 90 #[.agg #[.int .i64 fp, .int .i64 fd, .int .i64 ft, .int .i64 fx, .int .i64 fy, .int .i64 fn]] W fun e w' => e = .returned dv ∧ Below W.heap.size W w') := fun W => by
        have := deed_any x W
        rw [hdv, hx] at this
        exact this
      have HU : Hid (∀ W, Calls Tryz.prog 89 #[dv] W fun e w' => ∃ a, e = .returned (.slice a (useD x).length (useD x).length) ∧ Row w' a (useD x) ∧ Below W.heap.size W w') := fun W => hdv ▸ usedBy_any x W
      have HM : Hid (∀ W, Calls Tryz.prog 119 #[dv] W fun e w' => e = .returned (.int .i64 (makeF x)) ∧ Below W.heap.size W w') := fun W => hdv ▸ madeBy_any x W
      have hul : (useD x).length ≤ 2 := by unfold useD usesF; split <;> (try split) <;> (try split) <;> simp
      obtain ⟨TT, hTT⟩ : ∃ l, tL T (cs.take j) = l := ⟨_, rfl⟩
      have HT1 : Hid (tL T (cs.take (j + 1)) = stepT TT x) := by rw [← hTT]; exact tL_take HX.out
      have HO1 : Hid (okL T (cs.take (j + 1)) = useOk TT x) := by
        show _ = _
        rw [← hTT, okL_take HX.out, HOK.out, Bool.true_and]
      rw [hTT] at hI hTl2 HTR2
      clear hdv hTT HXF
      obtain ⟨g, hgq⟩ : ∃ g, useOk TT x = g := ⟨_, rfl⟩
      have HG2 : Hid (((useD x).all fun v => decide (v ∈ nats TT)) = g) := hgq
      rw [hgq] at HO1
      clear hgq
      obtain ⟨U, hU⟩ : ∃ l, useD x = l := ⟨_, rfl⟩
      have HUU := hid hU
      rw [hU] at HU hul HG2
      clear hU
      have hbF := below1 wr (.cells #[.int .i64 fp, .int .i64 fd, .int .i64 ft, .int .i64 fx, .int .i64 fy, .int .i64 fn] 64)
      have HI := hid (hI.below hbF)
      clear hI hbF
      go_wp2_with (go_at_call 90; refine (HD.out _).mono ?_; rintro e w2 ⟨rfl, hb2⟩)
      have HI2 := hid (HI.out.below hb2)
      obtain ⟨xa, xc, rfl, hrow, hcell⟩ := HI2.out.slice
      have HROW := hid hrow
      have HCE := hid (fun (W : World) (h : Below w2.heap.size w2 W) => cell_below hcell h)
      have hsl := setIL_len U
      have H118 : Hid (∀ W a3 c3 (hb : Below w2.heap.size w2 W), Row W a3 (setIL U) → Calls Tryz.prog 118 #[.agg #[.slice xa TT.length xc], .agg #[.slice a3 (setIL U).length c3]] W fun e w' => e = .returned (.bool g) ∧ Below W.heap.size W w') := fun W a3 c3 hb h3 => by
        have := HHAS.out xa a3 xc c3 TT U W (by omega) HTR2.out (HROW.out.below hb) (by omega) h3
        rw [HG2.out] at this
        exact this
      clear hb2 hrow HI
      go_wp2
      go_region_held (fun W => W.cell? ⟨w.heap.size, 0, none⟩ = some (.slice xa TT.length xc)) ((first | exact HCE.out _ hb5 | exact HCE.out _ hb4 | exact HCE.out _ hb3 | go_keep)) ((first | (go_at_call 89; refine (HU.out _).mono ?_; rintro e w3 ⟨a3, rfl, hr3, hb3'⟩; have hb3 := below_of_drew hb3') | (go_at_call 87; refine (setOf_anyI _ _ U _ (by omega) hr3).mono ?_; rintro e w4 ⟨a4, c4, rfl, ho4, hb4'⟩; have hb4 := bstep' hb3 hb4'; have hr4 := own_row ho4) | (go_at_call 118; refine (H118.out _ _ _ hb4 hr4).mono ?_; rintro e w5 ⟨rfl, hb5'⟩; have hb5 := bstep' hb4 hb5')))
      have HI5 := hid (HI2.out.below hb5)
      clear hb3 hb3' hr3 hb4 hb4' ho4 hr4 hb5 hb5' hcell HI2 HCE HROW H118
      cases g with
      | false =>
        have HPF : Hid (PO = false) := by show _ = _; rw [HPO.out, okL_false HO1.out]; rfl
        go_wp2
        go_ret
        exact ⟨by rw [HPF.out] <;> rfl, HI5.out.low⟩
      | true =>
        by_cases hs : setsB fp = true
        · obtain ⟨d1, d2⟩ := HGF.out.2.1 (by rw [hx]; exact hs)
          have hmk : makeF x = ft := by rw [hx]; unfold makeF; rw [if_pos hs]
          have hds : x.dst = ft := by rw [hx]
          rw [hds] at d1 d2
          rw [hmk] at HM
          obtain ⟨m, hm⟩ : ∃ m : Nat, ft = m := ⟨ft.toNat, by omega⟩
          have HST : Hid (stepT TT x = putL TT m) := by
            show _ = _
            unfold stepT
            rw [if_pos (by rw [hx]; exact hs), hds, hm, Int.toNat_natCast]
          subst hm
          have hne : (((m : Int) != -1) : Bool) = true := by simp <;> omega
          have HADD := hid (fun W (hW : UseIs w0 W w.heap.size (.slice xa TT.length xc) TT) => add_any 112 1 w.heap.size 1 1 0 [.slice xa TT.length xc] (.slice xa TT.length xc) TT m [] w0.heap.size W hW.sep rfl HTR2.out (by omega) hW.low.size)
          clear hmk hds d1 d2 hs
          go_wp2_with (first | (go_at_call 119; refine (HM.out _).mono ?_; rintro e w6 ⟨rfl, hb6⟩) | (go_at_call 116; refine (HADD.out _ (HI5.out.below hb6)).mono ?_; rintro e Z ⟨rfl, sv', hs', honly, _⟩))
          have HR9 := hid ((HI5.out.below hb6).next hs' honly)
          clear hs' honly hb6
          go_roundw
          case rel => exact ⟨j + 1, sv', by simp, by omega, HO1.out, by rw [HT1.out, HST.out]; exact HR9.out⟩
          case measure => simp [intOf]; omega
        · have hmk : makeF x = -1 := by rw [hx]; unfold makeF; rw [if_neg hs]
          rw [hmk] at HM
          have HST : Hid (stepT TT x = TT) := by
            show _ = _
            unfold stepT
            rw [if_neg (by rw [hx]; exact hs)]
          clear hmk hs
          go_wp2_with (go_at_call 119; refine (HM.out _).mono ?_; rintro e w6 ⟨rfl, hb6⟩)
          have HR9 := hid (HI5.out.below hb6)
          clear hb6
          go_roundw
          case rel => exact ⟨j + 1, _, by simp, by omega, HO1.out, by rw [HT1.out, HST.out]; exact HR9.out⟩
          case measure => simp [intOf]; omega
    · obtain rfl : j = cs.length := by omega
      rw [List.take_of_length_le (Nat.le_refl _)] at hI hTl2 HTR2 HOK
      obtain ⟨TT, hTT⟩ : ∃ l, tL T cs = l := ⟨_, rfl⟩
      have HPF : Hid (PO = (E.all fun v => decide (v ∈ nats TT))) := by
        show _ = _
        rw [HPO.out, HOK.out, Bool.true_and, HEN.out, hTT]
      rw [hTT] at hI hTl2 HTR2
      obtain ⟨xa, xc, rfl, hrow, hcell⟩ := hI.slice
      have HI := hid hI
      have HROW := hid hrow
      have HCE := hid (fun (W : World) (h : Below wr.heap.size wr W) => cell_below hcell h)
      have hsl := setIL_len E
      have H118 : Hid (∀ W a3 c3 (hb : Below wr.heap.size wr W), Row W a3 (setIL E) → Calls Tryz.prog 118 #[.agg #[.slice xa TT.length xc], .agg #[.slice a3 (setIL E).length c3]] W fun e w' => e = .returned (.bool PO) ∧ Below W.heap.size W w') := fun W a3 c3 hb h3 => by
        have := HHAS.out xa a3 xc c3 TT E W (by omega) HTR2.out (HROW.out.below hb) (by omega) h3
        rw [← HPF.out] at this
        exact this
      have H59 := hid (HUB.out wr.drew hI.low.drew)
      clear hI hrow hTT
      go_wp2
      go_region_held (fun W => W.cell? ⟨w.heap.size, 0, none⟩ = some (.slice xa TT.length xc)) ((first | exact HCE.out _ hb5 | exact HCE.out _ hb4 | exact HCE.out _ hb3 | go_keep)) ((first | (go_at_call 59; refine (H59.out).mono ?_; rintro e w3 ⟨a3, c3, rfl, hr3, hb3'⟩; have hb3 := below_of_drew hb3') | (go_at_call 87; refine (setOf_anyI _ _ E _ (by omega) hr3).mono ?_; rintro e w4 ⟨a4, c4, rfl, ho4, hb4'⟩; have hb4 := bstep' hb3 hb4'; have hr4 := own_row ho4) | (go_at_call 118; refine (H118.out _ _ _ hb4 hr4).mono ?_; rintro e w5 ⟨rfl, hb5'⟩; have hb5 := bstep' hb4 hb5')))
      have HI5 := hid (HI.out.below hb5)
      clear hb3 hb3' hr3 hb4 hb4' ho4 hr4 hb5 hb5' hcell HI HCE HROW H118
      go_wp2
      go_ret
      exact ⟨rfl, HI5.out.low⟩
end
end Go.Proofs.YteihecnmnajahaaGreatDoor
