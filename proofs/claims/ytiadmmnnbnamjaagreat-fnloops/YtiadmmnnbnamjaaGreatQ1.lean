/- The model's dominators. -/
import Derived.Test.YtiadmmnnbnamjaaGreatDom7
import Derived.Test.YtiadmmnnbnamjaaGreatValues7
namespace Go.Proofs.YtiadmmnnbnamjaaGreat
section
open Go.RowKit
set_option linter.unusedVariables false
set_option linter.unusedSimpArgs false
set_option maxRecDepth 100000

/-- lists that are owned, beside rows that stay -/
def OwnR (w : World) (B : Nat) (v : Value) (ys : List LV) (R : List OR) : Prop := Sep w B (rowsL v ys ++ R)
theorem Sep.left {w : World} {B : Nat} {l m : List OR} (h : Sep w B (l ++ m)) : Sep w B l := ⟨fun x hx => h.1 x (List.mem_append_left _ hx), (List.pairwise_append.1 h.2).1⟩
theorem OwnR.plain {w : World} {B : Nat} {v : Value} {ys : List LV} {R : List OR} (h : OwnR w B v ys R) : OwnL w B v ys := Sep.left h
theorem OwnR.below {w w' : World} {B : Nat} {v : Value} {ys : List LV} {R : List OR} (h : OwnR w B v ys R) (hb : Below w.heap.size w w') : OwnR w' B v ys R := Sep.below h hb
theorem OwnR.rest {w : World} {B : Nat} {v : Value} {ys : List LV} {R : List OR} (h : OwnR w B v ys R) {x : OR} (hx : x ∈ R) : w.ownsRow B x.e x.size x.v x.n x.xs := h.1 x (List.mem_append_right _ hx)
theorem OwnR.split {w : World} {B : Nat} {v : Value} {ys : List LV} {R : List OR} (h : OwnR w B v ys R) {j : Nat} {y : LV} (hy : ys[j]? = some y) : Sep w B ((⟨35, 1, v, ys.length, vals ys⟩ :: (ys.take j).map rowL) ++ ⟨3, 1, y.v, y.r.length, ints y.r⟩ :: ((ys.drop (j + 1)).map rowL ++ R)) := by
  have e : rowsL v ys ++ R = (⟨35, 1, v, ys.length, vals ys⟩ :: (ys.take j).map rowL) ++ ⟨3, 1, y.v, y.r.length, ints y.r⟩ :: ((ys.drop (j + 1)).map rowL ++ R) := by
    conv => lhs; arg 1; rw [rowsL]
    conv => lhs; arg 1; arg 2; rw [splitL hy]
    simp [rowL]
  unfold OwnR at h
  rw [e] at h
  exact h
theorem OwnR.join {w : World} {B g cap : Nat} {ys : List LV} {R : List OR} {j : Nat} {y y' : LV} (hy : ys[j]? = some y) (h : Sep w B ((⟨35, 1, .slice (some ⟨g, 0, none⟩) ys.length cap, ys.length, vals ys⟩ :: (ys.take j).map rowL) ++ ⟨3, 1, y'.v, y'.r.length, ints y'.r⟩ :: ((ys.drop (j + 1)).map rowL ++ R))) :
    OwnR (w.setCell ⟨g, j, none⟩ y'.v) B (.slice (some ⟨g, 0, none⟩) ys.length cap) (ys.set j y') R := by
  have hj := (List.getElem?_eq_some_iff.1 hy).1
  have h2 := Sep.store [] h j y'.v
  have e : rowsL (.slice (some ⟨g, 0, none⟩) ys.length cap) (ys.set j y') ++ R = [] ++ ⟨35, 1, .slice (some ⟨g, 0, none⟩) ys.length cap, ys.length, (vals ys).set j y'.v⟩ :: ((ys.take j).map rowL ++ ⟨3, 1, y'.v, y'.r.length, ints y'.r⟩ :: ((ys.drop (j + 1)).map rowL ++ R)) := by
    rw [rowsL, List.length_set, show vals (ys.set j y') = (vals ys).set j y'.v by simp [vals, List.map_set], List.set_eq_take_append_cons_drop (l := ys), if_pos hj]
    simp [rowL]
  unfold OwnR
  rw [e]
  exact h2
def noLists (n : Nat) : List LV := List.replicate n ⟨[], .slice none 0 0⟩
theorem made_lists (n : Nat) : (madeCells #[Value.slice none 0 0] n).toList = vals (noLists n) := by
  rw [toList_madeCells_one]
  simp [vals, noLists]
theorem own_start {w : World} {B n g cap : Nat} (h : w.ownsRow B 35 1 (.slice (some ⟨g, 0, none⟩) n cap) n (vals (noLists n))) : OwnL w B (.slice (some ⟨g, 0, none⟩) n cap) (noLists n) := by
  refine ⟨fun x hx => ?_, List.pairwise_cons.2 ⟨fun x hx => ?_, ?_⟩⟩
  · rcases List.mem_cons.1 hx with rfl | hx
    · show World.ownsRow _ _ _ _ _ _ _
      rw [show (noLists n).length = n by simp [noLists]]
      exact h
    · obtain ⟨y, hy, rfl⟩ := List.mem_map.1 hx
      obtain rfl : y = ⟨[], .slice none 0 0⟩ := List.eq_of_mem_replicate hy
      exact World.ownsRow_nil _ _ _ _
  · obtain ⟨y, hy, rfl⟩ := List.mem_map.1 hx
    obtain rfl : y = ⟨[], .slice none 0 0⟩ := List.eq_of_mem_replicate hy
    right; intro he; cases he
  · rw [List.pairwise_map]
    refine List.Pairwise.imp_of_mem (R := fun _ _ => True) (fun {a b} ha hb _ => ?_) (List.pairwise_of_forall (fun _ _ => trivial))
    obtain rfl : a = ⟨[], .slice none 0 0⟩ := List.eq_of_mem_replicate ha
    exact .inl rfl
def natsL (P : List (List Nat)) : List (List Int) := P.map nats
theorem natsL_at {P : List (List Nat)} {x : Nat} {r : List Nat} (h : P[x]? = some r) : (natsL P)[x]? = some (nats r) := by simp [natsL, h]
theorem natsL_set (P : List (List Nat)) (x : Nat) (r : List Nat) : (natsL P).set x (nats r) = natsL (P.set x r) := by simp [natsL, List.map_set]
theorem lists_set (ys : List LV) (x : Nat) (y : LV) : lists (ys.set x y) = (lists ys).set x y.r := by simp [lists, List.map_set]
theorem lists_noLists (n : Nat) : lists (noLists n) = natsL (List.replicate n []) := by simp [lists, noLists, natsL, nats]
theorem own_of_lists {ys : List LV} {P : List (List Nat)} (h : lists ys = natsL P) {x : Nat} {r : List Nat} (hr : P[x]? = some r) : ∃ v, ys[x]? = some ⟨nats r, v⟩ := by
  have h1 := congrArg (·[x]?) h
  simp only [natsL_at hr] at h1
  simp only [lists, List.getElem?_map] at h1
  cases hy : ys[x]? with
  | none => rw [hy] at h1; cases h1
  | some y =>
    rw [hy] at h1
    have := Option.some.inj h1
    exact ⟨y.v, by rw [← this]⟩

theorem OwnR.kept {w w' : World} {B : Nat} {v : Value} {ys : List LV} {R : List OR} (h : OwnR w B v ys R) (hb : Below w.heap.size w w') (hB : B ≤ w.heap.size) (x : OR) (hx : x.own w' w.heap.size) : OwnR w' B v ys (R ++ [x]) := by
  have := Sep.append h hb hB (m := [x]) ⟨by intro y hy; simp at hy; subst hy; exact hx, by simp⟩
  unfold OwnR
  rw [← List.append_assoc]
  exact this
theorem OwnR.less {w : World} {B : Nat} {v : Value} {ys : List LV} {R S : List OR} (h : OwnR w B v ys (R ++ S)) : OwnR w B v ys R := by
  unfold OwnR at h ⊢
  rw [← List.append_assoc] at h
  exact Sep.left h
theorem dom_iff {g : List (List Nat)} {L M : List Nat} {d k : Nat} (hL : IsW g (-1) L) (hM : IsW g d M) (hk : k ∈ L) : Dom g d k ↔ (d ∈ L ∧ k ∉ M) := by
  unfold Dom Come
  rw [← hL.2, ← hL.2, ← hM.2]
  exact ⟨fun h => ⟨h.2.1, h.2.2⟩, fun h => ⟨hk, h.1, h.2⟩⟩
/-- the answer: rows of dominators -/
def DomAns (w w' : World) (g : List (List Nat)) (e : Ending) : Prop := ∃ va vc ys P, e = .returned (.slice va g.length vc) ∧ OwnL w' w.heap.size (.slice va g.length vc) ys ∧ lists ys = natsL P ∧ IsDoms g P ∧ Below w.heap.size w w'
theorem hasN_any (a : Option Addr) (c : Nat) (S : List Nat) (x : Nat) (w : World) (hl : S.length ≤ 1000) (B : Nat) (ho : w.ownsRow B 3 1 (.slice a S.length c) S.length (ints (nats S))) :
    Calls Tryz.prog 46 #[.slice a S.length c, .int .i64 (x : Int)] w fun e w' => e = .returned (.bool (decide (x ∈ S))) ∧ w' = w := by
  have := l1Has_any a c (nats S) x w (by rw [nats_length]; omega) (own_row (c := c) (B := B) (by rw [nats_length]; exact ho))
  rw [nats_length] at this
  have e : hasB (nats S) x = decide (x ∈ S) := by rw [Bool.eq_iff_iff]; simp [hasB, nats_mem]
  rw [e] at this
  exact this
set_option maxHeartbeats 8000000 in
theorem sDoms_any {g : List (List Nat)} (G : Gr g) (a : Option Addr) (c : Nat) (w : World) (h : GRow w a g) :
    Calls Tryz.prog 62 #[.agg #[.slice a g.length c]] w fun e w' => DomAns w w' g e := by
  have hgm := G.most
  have H := hid h
  clear h
  obtain ⟨i0, hi0, hz0, hz1, hz2⟩ := info_parts info40
  have b0 := below1 w (.cells #[.slice a g.length c] 25)
  have d0 : (w.alloc (.cells #[.slice a g.length c] 25)).cell? ⟨w.heap.size, 0, none⟩ = some (.slice a g.length c) := by simp [go_sem]
  have z0 : (w.alloc (.cells #[.slice a g.length c] 25)).heap.size = w.heap.size + 1 := by simp
  go_enter Tryz.func62, Tryz.ntmps62
  go_wp2_with (at_make; refine wpList_make_full _ rfl _ _ 23 rfl (w.heap.size + 1) 35 i0 (.slice none 0 0) 1 Tryz.underlying23 hi0 hz0 hz1 .i64 .i64 _ _ g.length rfl rfl rfl rfl ?c1 ?c2 ?c3 ?_)
  case c1 => rw [hz2]; omega
  case c2 => unfold maxLen; omega
  case c3 => omega
  intro w1 hown0 hgrow0
  rw [made_lists] at hown0
  have hB1 : Below (w.heap.size + 1) (w.alloc (.cells #[.slice a g.length c] 25)) w1 := (Below.refl _ _).grown hgrow0 (by omega) (fun k hk => by cases hk)
  have B1 : Below w.heap.size w w1 := b0.trans (hB1.mono (by omega))
  have d1 : w1.cell? ⟨w.heap.size, 0, none⟩ = some (.slice a g.length c) := by rw [hB1.cell (p := ⟨w.heap.size, 0, none⟩) (by show w.heap.size < _; omega)]; exact d0
  have HO1 := hid (own_start hown0)
  have z1 : w.heap.size + 1 ≤ w1.heap.size := by have := hB1.size; omega
  clear hown0 hgrow0 b0 d0 hB1
  go_wp2_with fail
  refine (sWithout_any G a c (-1) _ (LRow.below H.out B1)).mono ?_
  rintro e w2 ⟨la, lc, L, rfl, hL, hol, hb2⟩
  have B2 := bstep' B1 hb2
  have d2 := cell_below d1 hb2
  have hLl := hL.len G
  have HL := hid hL
  have HS2 : Hid (OwnR w2 (w.heap.size + 1) (.slice (some ⟨w.heap.size + 1, 0, none⟩) g.length g.length) (noLists g.length) [⟨3, 1, .slice la L.length lc, L.length, ints (nats L)⟩]) := Sep.append HO1.out hb2 z1 (sep_one hol)
  have z2 : w.heap.size + 1 ≤ w2.heap.size := Nat.le_trans z1 hb2.size
  clear hL hol hb2 B1 d1 HO1
  go_wp2
  go_loopw [18] (fun t18 wr => ∃ (d : Nat) (ys : List LV) (P : List (List Nat)), t18 = .int .i64 d ∧ d ≤ g.length ∧ OwnR wr (w.heap.size + 1) (.slice (some ⟨w.heap.size + 1, 0, none⟩) g.length g.length) ys [⟨3, 1, .slice la L.length lc, L.length, ints (nats L)⟩] ∧ lists ys = natsL P ∧ DS g d [] P ∧ Below w.heap.size w wr ∧ w.heap.size + 1 ≤ wr.heap.size ∧ wr.cell? ⟨w.heap.size, 0, none⟩ = some (.slice a g.length c)) (fun t18 _ => g.length - (intOf t18).toNat)
  case atStart => exact ⟨0, _, _, rfl, by omega, HS2.out, lists_noLists _, DS.begin g, B2, z2, d2⟩
  case round =>
    obtain ⟨d, ys, P, rfl, hd, hown, hys, hds, hB, hz, dr⟩ := hrel
    have HO := hid hown
    have HP := hid (And.intro hys hds)
    clear hown hys hds HS2 d2 B2
    by_cases hlt : d < g.length
    · have HWI := hid (sWithout_any G a c (d : Int) wr (LRow.below H.out hB))
      go_wp2_with fail
      refine HWI.out.mono ?_
      rintro e w3 ⟨ma, mc, M, rfl, hM, hom, hb3⟩
      have hMl := hM.len G
      have HO3 := hid (HO.out.kept hb3 hz ⟨3, 1, .slice ma M.length mc, M.length, ints (nats M)⟩ hom)
      have HM := hid hM
      have HB3 := hid (And.intro (bstep' hB hb3) (And.intro (Nat.le_trans hz hb3.size) (cell_below dr hb3)))
      clear hM hom hb3 HWI HO
      go_wp2
      go_loopw [26] (fun t26 wq => ∃ (p : Nat) (ys : List LV) (P : List (List Nat)), t26 = .int .i64 p ∧ p ≤ L.length ∧ OwnR wq (w.heap.size + 1) (.slice (some ⟨w.heap.size + 1, 0, none⟩) g.length g.length) ys ([⟨3, 1, .slice la L.length lc, L.length, ints (nats L)⟩] ++ [⟨3, 1, .slice ma M.length mc, M.length, ints (nats M)⟩]) ∧ lists ys = natsL P ∧ DS g d (L.take p) P ∧ Below w.heap.size w wq ∧ w.heap.size + 1 ≤ wq.heap.size ∧ wq.cell? ⟨w.heap.size, 0, none⟩ = some (.slice a g.length c)) (fun t26 _ => L.length - (intOf t26).toNat)
      case atStart => exact ⟨0, ys, P, rfl, by omega, HO3.out, HP.out.1, HP.out.2, HB3.out.1, HB3.out.2.1, HB3.out.2.2⟩
      case round =>
        obtain ⟨p, ys, P, rfl, hp, hown, hys, hds, hB', hz', dq⟩ := hrel
        have HO := hid hown
        have HP := hid (And.intro hys hds)
        have hol := hown.rest (x := ⟨3, 1, .slice la L.length lc, L.length, ints (nats L)⟩) (by simp)
        have hom := hown.rest (x := ⟨3, 1, .slice ma M.length mc, M.length, ints (nats M)⟩) (by simp)
        simp only [] at hol hom
        clear hown hys hds
        by_cases hpl : p < L.length
        · obtain ⟨k0, hk0⟩ : ∃ k, L[p]? = some k := ⟨_, List.getElem?_eq_getElem hpl⟩
          have hkg : k0 < g.length := ((HL.out.2 k0).1 (List.mem_of_getElem? hk0)).lt G
          obtain ⟨lg, rfl⟩ : ∃ g, la = some ⟨g, 0, none⟩ := by
            rcases hol.2 with ⟨h0, h1⟩ | ⟨g', cap, cur, he, _⟩
            · omega
            · injection he with e1 _ _; exact ⟨g', e1⟩
          have c1 : wr.cell? ⟨lg, p, none⟩ = some (.int .i64 (k0 : Int)) := rowT_at hol rfl (by simp [ints, nats, hk0])
          have e1 : L.take (p + 1) = L.take p ++ [k0] := by rw [List.take_add_one, hk0]; rfl
          have HD := hid (dom_iff HL.out HM.out (List.mem_of_getElem? hk0))
          have HH1 := hid (hasN_any (some ⟨lg, 0, none⟩) lc L d wr (by omega) _ hol)
          have HH2 := hid (hasN_any ma mc M k0 wr (by omega) _ hom)
          have HE1 := hid e1
          clear hol hom e1 hk0
          by_cases hdl : d ∈ L
          · have t1 : decide (d ∈ L) = true := decide_eq_true hdl
            rw [t1] at HH1
            by_cases hkm : k0 ∈ M
            · have t2 : decide (k0 ∈ M) = true := decide_eq_true hkm
              rw [t2] at HH2
              have HN := hid (HP.out.2.skip (k0 := k0) (fun h => (HD.out.1 h).2 hkm))
              clear t1 t2 hdl hkm
              go_wp2_with fail
              refine HH1.out.mono ?_
              rintro e w4 ⟨rfl, hw4⟩
              subst w4
              go_wp2_with fail
              refine HH2.out.mono ?_
              rintro e w5 ⟨rfl, hw5⟩
              subst w5
              go_wp2
              go_roundw
              case rel => exact ⟨p + 1, ys, P, by go_num, by omega, HO.out, HP.out.1, by rw [HE1.out]; exact HN.out, hB', hz', dq⟩
              case measure => simp [intOf]; omega
            · have t2 : decide (k0 ∈ M) = false := decide_eq_false hkm
              rw [t2] at HH2
              have HDD := hid (HD.out.2 ⟨hdl, hkm⟩)
              obtain ⟨r, hr⟩ : ∃ r, P[k0]? = some r := ⟨_, List.getElem?_eq_getElem (by rw [HP.out.2.1]; exact hkg)⟩
              obtain ⟨rv, hrv⟩ := own_of_lists HP.out.1 hr
              have hylen : ys.length = g.length := by have := congrArg List.length HP.out.1; rw [lists_length] at this; simp [natsL, HP.out.2.1] at this; exact this
              have c2 : wr.cell? ⟨w.heap.size + 1, k0, none⟩ = some rv := rowT_at HO.out.plain.outer rfl (show (vals ys)[k0]? = some rv by simp [vals, hrv])
              have hrb := HP.out.2.few G hr
              have hio := HO.out.plain.inner (List.mem_of_getElem? hrv)
              simp only [] at hio
              rw [nats_length] at hio
              have HQ := hid (l1Put_any rv r d (w.heap.size + 1) wr (by omega) (by omega) hio hz')
              have HH := hid (And.intro hr (And.intro hrv hylen))
              clear t1 t2 hdl hkm hr hrv hylen hio hrb
              go_wp2_with fail
              refine HH1.out.mono ?_
              rintro e w4 ⟨rfl, hw4⟩
              subst w4
              go_wp2_with fail
              refine HH2.out.mono ?_
              rintro e w5 ⟨rfl, hw5⟩
              subst w5
              go_wp2_with fail
              refine HQ.out.mono ?_
              rintro e w6 ⟨va, vc, rfl, ho6, hg6, hb6⟩
              have hs6 := (HO.out.split HH.out.2.1).turn _ hb6 (World.grownBy.refl _ _) ⟨3, 1, .slice va (putL r d).length vc, (nats (putL r d)).length, ints (nats (putL r d))⟩ (by show World.ownsRow _ _ _ _ _ _ _; rw [nats_length]; exact ho6) hg6
              have e0 : (Value.slice (some ⟨w.heap.size + 1, 0, none⟩) g.length g.length) = (Value.slice (some ⟨w.heap.size + 1, 0, none⟩) ys.length g.length) := by rw [HH.out.2.2]
              rw [e0] at hs6
              have HJ := hid (OwnR.join (y' := ⟨nats (putL r d), .slice va (putL r d).length vc⟩) HH.out.2.1 hs6)
              have HB6 := hid (And.intro (bstep' hB' hb6) (And.intro (Nat.le_trans hz' hb6.size) (cell_below dq hb6)))
              have c6 := rowT_at (owns_below HO.out.plain.outer hb6) rfl (show (vals ys)[k0]? = some rv by simp [vals, HH.out.2.1])
              have f6 := rowT_frz (owns_below HO.out.plain.outer hb6) rfl k0
              clear ho6 hg6 hb6 hs6 e0
              go_wp2
              go_roundw
              case rel =>
                refine ⟨p + 1, ys.set k0 ⟨nats (putL r d), .slice va (putL r d).length vc⟩, P.set k0 (putL r d), by go_num, by omega, ?_, ?_, ?_, HB6.out.1.setCell (p := ⟨w.heap.size + 1, k0, none⟩) (by show w.heap.size ≤ w.heap.size + 1; omega) _, by simp [World.setCell]; exact HB6.out.2.1, set_far HB6.out.2.2 (by omega)⟩
                · have := HJ.out
                  rw [HH.out.2.2] at this
                  exact this
                · rw [lists_set, HP.out.1, natsL_set]
                · rw [HE1.out]; exact HP.out.2.put HDD.out HH.out.1
              case measure => simp [intOf]; omega
          · have t1 : decide (d ∈ L) = false := decide_eq_false hdl
            rw [t1] at HH1
            have HN := hid (HP.out.2.skip (k0 := k0) (fun h => hdl (HD.out.1 h).1))
            clear t1 hdl
            go_wp2_with fail
            refine HH1.out.mono ?_
            rintro e w4 ⟨rfl, hw4⟩
            subst w4
            go_wp2
            go_roundw
            case rel => exact ⟨p + 1, ys, P, by go_num, by omega, HO.out, HP.out.1, by rw [HE1.out]; exact HN.out, hB', hz', dq⟩
            case measure => simp [intOf]; omega
        · obtain rfl : p = L.length := by omega
          have hds := HP.out.2
          rw [List.take_of_length_le (Nat.le_refl _)] at hds
          have HN := hid (hds.next (fun k hk => (HL.out.2 k).2 hk.1))
          have HK := hid (And.intro HO.out.less HP.out.1)
          clear hol hom hds
          go_wp2
          go_roundw
          case rel => exact ⟨d + 1, ys, P, by go_num, by omega, HK.out.1, HK.out.2, HN.out, hB', hz', dq⟩
          case measure => simp [intOf]; omega
    · obtain rfl : d = g.length := by omega
      have HF := hid (And.intro HO.out.plain (And.intro HP.out.1 (And.intro (HP.out.2.end G) hB)))
      go_wp2
      go_ret
      exact ⟨_, g.length, ys, P, rfl, Sep.mono HF.out.1 (by omega), HF.out.2.1, HF.out.2.2.1, HF.out.2.2.2⟩
end

section
open Go.RowKit
set_option linter.unusedVariables false
set_option linter.unusedSimpArgs false
set_option maxRecDepth 100000
end

section
open Go.RowKit Go.Shelf
attribute [local go_sem] Oper.semAt_some
set_option linter.unusedVariables false
set_option linter.unusedSimpArgs false
set_option maxRecDepth 100000

theorem boxed_below {W W' : World} {B : Nat} {t : TypeId} {v : Value} (h : Boxed W B t v) (hb : Below W.heap.size W W') : Boxed W' B t v := (hb.block B h.lt).trans h
def meetL (s t : List Nat) : List Nat := s.filter (fun x => decide (x ∈ t))
theorem meetL_in {s t : List Nat} {x : Nat} (h : x ∈ t) : meetL (s ++ [x]) t = meetL s t ++ [x] := by simp [meetL, h]
theorem meetL_out {s t : List Nat} {x : Nat} (h : x ∉ t) : meetL (s ++ [x]) t = meetL s t := by simp [meetL, h]
theorem meetL_len (s t : List Nat) : (meetL s t).length ≤ s.length := List.length_filter_le _ _
theorem meetL_rising {s t : List Nat} (h : s.Pairwise (· < ·)) : (meetL s t).Pairwise (· < ·) := h.filter _
theorem mem_meetL {s t : List Nat} {x : Nat} : x ∈ meetL s t ↔ x ∈ s ∧ x ∈ t := by simp [meetL]
set_option maxHeartbeats 4000000 in
theorem meet_any (a a2 : Option Addr) (c c2 : Nat) (s t : List Nat) (w : World) (hs : s.length ≤ 1000) (ht : t.length ≤ 1000) (h1 : Row w a (nats s)) (h2 : Row w a2 (nats t)) (hr : t.Pairwise (· < ·)) :
    Calls Tryz.prog 73 #[.agg #[.slice a s.length c], .agg #[.slice a2 t.length c2]] w fun e w' => ∃ va vc, e = .returned (.agg #[.slice va (meetL s t).length vc]) ∧ w'.ownsRow w.heap.size 3 1 (.slice va (meetL s t).length vc) (meetL s t).length (ints (nats (meetL s t))) ∧ Below w.heap.size w w' := by
  obtain ⟨i0, hi, hz0, hz1, hz2⟩ := info_parts info3
  have HH := hid (fun W (hb : Below w.heap.size w W) x => has_any a2 c2 t x W ht (h2.below hb) hr)
  have H1 := hid h1
  clear h1 h2 hr
  refine (callsIn_wide (n := 5)).1 ?_
  refine callsIn_of_wp_marks Tryz.func73 rfl trivial ?_ rfl
  simp only [Tryz.ntmps73, List.size_toArray, List.length_cons, List.length_nil, Nat.reduceAdd, Nat.reduceSub, Array.replicate_succ, Array.replicate_zero, List.push_toArray, List.append_toArray, List.nil_append, List.cons_append]
  gi_wp2_with (refine ⟨trivial, ?_⟩; gi_at_call 37; refine (callsIn_wide.2 (all_any _ _ _ _)).mono ?_; rintro e w' ⟨rfl, rfl⟩)
  obtain ⟨W0, hW0⟩ : ∃ W0, ((((((w.alloc (Obj.cells #[Value.slice a s.length c] 60)).alloc (Obj.cells #[Value.slice a2 t.length c2] 60)).alloc (Obj.cells #[Value.slice none 0 0] 60)).alloc (Obj.cells #[Value.slice none 0 0] 60)).alloc (Obj.cells #[Value.slice a s.length c] 60)).alloc (Obj.cells #[Value.slice a s.length c] 35)) = W0 := ⟨_, rfl⟩
  have hsz : W0.heap.size = w.heap.size + 6 := by rw [← hW0]; simp
  have B0 : Below w.heap.size w W0 := by
    rw [← hW0]
    exact (((((below1 w _).alloc (by simp) _).alloc (by simp; omega) _).alloc (by simp; omega) _).alloc (by simp; omega) _).alloc (by simp; omega) _
  have x3 : Boxed W0 (w.heap.size + 1) 60 (.slice a2 t.length c2) := by
    rw [← hW0]
    have := Boxed.new (w.alloc (Obj.cells #[Value.slice a s.length c] 60)) 60 (.slice a2 t.length c2)
    rw [World.size_alloc] at this
    exact (((this.alloc _).alloc _).alloc _).alloc _
  have x4 : Boxed W0 (w.heap.size + 1 + 1) 60 (.slice none 0 0) := by
    rw [← hW0]
    have := Boxed.new ((w.alloc (Obj.cells #[Value.slice a s.length c] 60)).alloc (Obj.cells #[Value.slice a2 t.length c2] 60)) 60 (.slice none 0 0)
    rw [World.size_alloc, World.size_alloc] at this
    exact ((this.alloc _).alloc _).alloc _
  have x5 : Boxed W0 (w.heap.size + 1 + 1 + 1) 60 (.slice none 0 0) := by
    rw [← hW0]
    have := Boxed.new (((w.alloc (Obj.cells #[Value.slice a s.length c] 60)).alloc (Obj.cells #[Value.slice a2 t.length c2] 60)).alloc (Obj.cells #[Value.slice none 0 0] 60)) 60 (.slice none 0 0)
    rw [World.size_alloc, World.size_alloc, World.size_alloc] at this
    exact (this.alloc _).alloc _
  have x7 : W0.cell? ⟨w.heap.size + 1 + 1 + 1 + 1 + 1, 0, none⟩ = some (.slice a s.length c) := by
    rw [← hW0]
    have := Boxed.new (((((w.alloc (Obj.cells #[Value.slice a s.length c] 60)).alloc (Obj.cells #[Value.slice a2 t.length c2] 60)).alloc (Obj.cells #[Value.slice none 0 0] 60)).alloc (Obj.cells #[Value.slice none 0 0] 60)).alloc (Obj.cells #[Value.slice a s.length c] 60)) 35 (.slice a s.length c)
    simp only [World.size_alloc] at this
    exact this.cell
  rw [hW0]
  clear hW0
  refine wpIn_rangeFunc_ownF rfl (by omega) (gf := 94) (lb := #[.pointer (some ⟨w.heap.size + 1 + 1 + 1 + 1 + 1, 0, none⟩)]) rfl trivial (enters_of Tryz.func94 (by kernel_rfl) rfl)
    (values_stops (fun x : Nat => (x : Int)) _ (by omega) (w.heap.size + 1 + 1 + 1 + 1 + 1) a c s hs w W0 B0 H1.out (by omega) x7) (fun {_ _ _} h k => Below.trans h k) (belowK_b (w := W0) (n₀ := w.heap.size) (by omega)) (Below.refl _ _) (fun _ => rfl)
    (fun pre W => (∃ v, Boxed W (w.heap.size + 1 + 1 + 1) 60 v ∧ W.ownsRow w.heap.size 3 1 v (meetL pre t).length (ints (nats (meetL pre t))) ∧ True) ∧ Boxed W (w.heap.size + 1) 60 (.slice a2 t.length c2) ∧ Boxed W (w.heap.size + 1 + 1) 60 (.slice none 0 0) ∧ Below w.heap.size w W)
    (fun _ _ _ => False)
    (OwnFrom.and (Own.from (holdsRow_own w.heap.size (w.heap.size + 1 + 1 + 1) 60 3 1 (fun pre => (meetL pre t).length) (fun pre => ints (nats (meetL pre t))) (fun _ _ => True)) _) (OwnFrom.and (Own.from (boxed_own _ _ _) _) (OwnFrom.and (Own.from (boxed_own _ _ _) _) (ownFrom_below (Nat.le_refl _) (by omega)))))
    (fun _ _ _ _ _ hs _ _ => hs)
    ⟨⟨_, x5, World.ownsRow_nil _ _ _ _, trivial⟩, x3, x4, B0⟩
    (fun x => { tmps := #[Value.agg #[Value.slice a s.length c], Value.agg #[Value.slice a2 t.length c2], Value.pointer (some { block := w.heap.size, off := 0 }), Value.pointer (some { block := w.heap.size + 1, off := 0 }), Value.pointer (some { block := w.heap.size + 1 + 1, off := 0 }), Value.pointer (some { block := w.heap.size + 1 + 1 + 1, off := 0 }), .int .i64 (x : Int), Value.agg #[Value.slice a s.length c], Value.func (Fn.func 94) #[] #[Value.pointer (some { block := w.heap.size + 1 + 1 + 1 + 1 + 1, off := 0 })], .int .i64 (x : Int), undef, undef, undef, undef, undef, undef, undef, undef, undef, undef], defers := [] }) ?assign ?body ?done ?stop
  case assign =>
    intro l x W K hK
    gi_wp2
    exact hK
  case body =>
    rintro l pre x W ⟨⟨v, hv, hrow, _⟩, y3, y4, hB⟩ hlen
    have hWs := hB.size
    have hpl := meetL_len pre t
    have y3c := y3.cell
    have HHx := HH.out W hB x
    have HI := hid (And.intro hv (And.intro hrow (And.intro y3 (And.intro y4 hB))))
    clear hv hrow y3 y4 hB
    by_cases hx : x ∈ t
    · have tx : decide (x ∈ t) = true := decide_eq_true hx
      rw [tx] at HHx
      have HH2 := hid HHx
      clear HHx tx
      gi_wp2_with (first | (refine ⟨trivial, ?_⟩; gi_at_call 38; refine (CallsIn.inRound l (callsIn_wide.2 HH2.out)).mono ?_; rintro e w1 ⟨rfl, hb1⟩; have hv := boxed_below HI.out.1 hb1; have hvc := hv.cell; have hrow := owns_below HI.out.2.1 hb1; have hB1 : Below w.heap.size w w1 := HI.out.2.2.2.2.trans (hb1.mono hWs)) | (gi_at_builtin; refine wpListIn_append_own _ rfl _ _ 35 rfl w.heap.size 3 i0 (.int .i64 0) 1 8 Tryz.underlying35 hi hz0 hz1 hz2 rfl (by decide) _ _ _ rfl (hrow.alloc _) ⟨w1.heap.size, 0, none⟩ 1 1 [.int .i64 (x : Int)] rfl rfl (cell_one_new _ _ _) (by simp [Value.oneCell']) (by unfold maxLen; omega) (by omega) (by have := hB1.size; simp; omega) ?_; intro v' w2 hown' hgrow _; obtain ⟨g', cap', rfl⟩ := ownsRow_succ hown'; obtain ⟨hv1, hv2, hr2, hk2, hb2⟩ := hv.appended (by decide) hrow hB1.size (by omega) hown' hgrow; have hc1 := hv1.cell; have hf1 := hv1.frozen))
      have e1 : meetL (pre ++ [x]) t = meetL pre t ++ [x] := meetL_in hx
      have z3 := boxed_below HI.out.2.2.1 hb1
      have z4 := boxed_below HI.out.2.2.2.1 hb1
      refine ⟨(keeps_below hb1).trans hk2, (hb1.mono hWs).trans hb2, ?_⟩
      simp only [e1]
      refine ⟨⟨_, hv2, ?_, trivial⟩, ((z3.alloc _).kept hgrow (z3.not_row (by decide) hrow)).other (by omega) _, ((z4.alloc _).kept hgrow (z4.not_row (by decide) hrow)).other (by omega) _, hB1.trans hb2⟩
      have e2 : ints (nats (meetL pre t ++ [x])) = ints (nats (meetL pre t)) ++ [.int .i64 (x : Int)] := by simp [ints, nats]
      rw [e2, List.length_append]
      exact hr2
    · have tx : decide (x ∈ t) = false := decide_eq_false hx
      rw [tx] at HHx
      have HH2 := hid HHx
      clear HHx tx
      gi_wp2_with (refine ⟨trivial, ?_⟩; gi_at_call 38; refine (CallsIn.inRound l (callsIn_wide.2 HH2.out)).mono ?_; rintro e w1 ⟨rfl, hb1⟩)
      have e1 : meetL (pre ++ [x]) t = meetL pre t := meetL_out hx
      refine ⟨keeps_below hb1, hb1.mono hWs, ?_⟩
      simp only [e1]
      exact ⟨⟨v, boxed_below HI.out.1 hb1, owns_below HI.out.2.1 hb1, trivial⟩, boxed_below HI.out.2.2.1 hb1, boxed_below HI.out.2.2.2.1 hb1, HI.out.2.2.2.2.trans (hb1.mono hWs)⟩
  case done =>
    rintro D ys W hD rfl ⟨⟨v, hv, hrow, _⟩, y3, y4, hB⟩ hK
    have hvc := hv.cell
    have y4c := y4.cell
    have y4f := y4.frozen
    obtain ⟨va, vc, rfl⟩ : ∃ va vc, v = .slice va (meetL ys t).length vc := by
      rcases hrow.2 with ⟨h0, h1⟩ | ⟨g', cap, cur, he, _⟩
      · exact ⟨none, 0, by rw [h0, h1]⟩
      · exact ⟨_, _, he⟩
    gi_wp2
    have hK' : (W.setCell ⟨w.heap.size + 1 + 1, 0, none⟩ (Value.slice va (meetL ys t).length vc)).heap[D]? = some (.deferred (some [])) := (KeepsOthers.setCell _ _ _).same D _ hK rfl
    have q4 := (y4.set (Value.slice va (meetL ys t).length vc)).cell
    have qr := hrow.kept (grownBy_setCell' W (w.heap.size + 1 + 1) (Value.slice va (meetL ys t).length vc)) (.inr (y4.not_row (by decide) hrow).symm)
    have qB := hB.setCell (p := ⟨w.heap.size + 1 + 1, 0, none⟩) (by show w.heap.size ≤ w.heap.size + 1 + 1; omega) (Value.slice va (meetL ys t).length vc)
    refine ⟨by simp, .inl ⟨_, _, rfl, run_takeDeferred hK', ?_⟩⟩
    have q5 := cell_kept q4 (grownBy_putObj' _ D (.deferred none)) (fun r e => by cases e; exact ⟨_, hK', rfl⟩)
    exact ⟨.agg #[.slice va (meetL ys t).length vc], by simp [results, Tryz.results73, go_sem, q5], va, vc, rfl, ownsRow_putObj qr _ hK' rfl, qB.trans (belowK_b (w := w) (Nat.le_refl _) _ D _ _ (by omega) hK' rfl rfl)⟩
  case stop =>
    rintro D c pre W _ _ h _
    exact h.elim
end
end Go.Proofs.YtiadmmnnbnamjaaGreat
