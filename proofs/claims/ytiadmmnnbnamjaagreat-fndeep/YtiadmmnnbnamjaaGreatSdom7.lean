/- The model's dominators. -/
import Derived.Test.YtiadmmnnbnamjaaGreatDom7
namespace Go.Proofs.YtiadmmnnbnamjaaGreat
open Go.RowKit
set_option linter.unusedVariables false
set_option linter.unusedSimpArgs false
set_option maxRecDepth 100000

/-- lists that are owned, beside rows that stay -/
def OwnR (w : World) (B : Nat) (v : Value) (ys : List LV) (R : List OR) : Prop := Sep w B (rowsL v ys ++ R)
theorem Sep.left {w : World} {B : Nat} {l m : List OR} (h : Sep w B (l ++ m)) : Sep w B l := ⟨fun x hx => h.1 x (List.mem_append_left _ hx), (List.pairwise_append.1 h.2).1⟩
theorem OwnR.plain {w : World} {B : Nat} {v : Value} {ys : List LV} {R : List OR} (h : OwnR w B v ys R) : OwnL w B v ys := Sep.left h
theorem OwnR.below {w w' : World} {B : Nat} {v : Value} {ys : List LV} {R : List OR} (h : OwnR w B v ys R) (hb : Below w.heap.size w w') : OwnR w' B v ys R := Sep.below h hb
theorem OwnR.rest {w : World} {B : Nat} {v : Value} {ys : List LV} {R : List OR} (h : OwnR w B v ys R) {x : OR} (hx : x ∈ R) : w.ownsRow B x.e x.size x.v x.n x.xs := h.1 x (List.mem_append_right _ hx)
theorem OwnR.split {w : World} {B : Nat} {v : Value} {ys : List LV} {R : List OR} (h : OwnR w B v ys R) {j : Nat} {y : LV} (hy : ys[j]? = some y) : Sep w B ((⟨35, 1, v, ys.length, vals ys⟩ :: (ys.take j).map rowL) ++ ⟨3, 1, y.v, y.r.length, ints y.r⟩ :: ((ys.drop (j + 1)).map rowL ++ R)) := by
  have e : rowsL v ys ++ R = (⟨35, 1, v, ys.length, vals ys⟩ :: (ys.take j).map rowL) ++ ⟨3, 1, y.v, y.r.length, ints y.r⟩ :: ((ys.drop (j + 1)).map rowL ++ R) := by
    conv => lhs; arg 1; rw [rowsL]
    conv => lhs; arg 1; arg 2; rw [splitL hy]
    simp [rowL]
  unfold OwnR at h
  rw [e] at h
  exact h
theorem OwnR.join {w : World} {B g cap : Nat} {ys : List LV} {R : List OR} {j : Nat} {y y' : LV} (hy : ys[j]? = some y) (h : Sep w B ((⟨35, 1, .slice (some ⟨g, 0, none⟩) ys.length cap, ys.length, vals ys⟩ :: (ys.take j).map rowL) ++ ⟨3, 1, y'.v, y'.r.length, ints y'.r⟩ :: ((ys.drop (j + 1)).map rowL ++ R))) :
    OwnR (w.setCell ⟨g, j, none⟩ y'.v) B (.slice (some ⟨g, 0, none⟩) ys.length cap) (ys.set j y') R := by
  have hj := (List.getElem?_eq_some_iff.1 hy).1
  have h2 := Sep.store [] h j y'.v
  have e : rowsL (.slice (some ⟨g, 0, none⟩) ys.length cap) (ys.set j y') ++ R = [] ++ ⟨35, 1, .slice (some ⟨g, 0, none⟩) ys.length cap, ys.length, (vals ys).set j y'.v⟩ :: ((ys.take j).map rowL ++ ⟨3, 1, y'.v, y'.r.length, ints y'.r⟩ :: ((ys.drop (j + 1)).map rowL ++ R)) := by
    rw [rowsL, List.length_set, show vals (ys.set j y') = (vals ys).set j y'.v by simp [vals, List.map_set], List.set_eq_take_append_cons_drop (l := ys), if_pos hj]
    simp [rowL]
  unfold OwnR
  rw [e]
  exact h2
def noLists (n : Nat) : List LV := List.replicate n ⟨[], .slice none 0 0⟩
theorem made_lists (n : Nat) : (madeCells #[Value.slice none 0 0] n).toList = vals (noLists n) := by
  rw [toList_madeCells_one]
  simp [vals, noLists]
theorem own_start {w : World} {B n g cap : Nat} (h : w.ownsRow B 35 1 (.slice (some ⟨g, 0, none⟩) n cap) n (vals (noLists n))) : OwnL w B (.slice (some ⟨g, 0, none⟩) n cap) (noLists n) := by
  refine ⟨fun x hx => ?_, List.pairwise_cons.2 ⟨fun x hx => ?_, ?_⟩⟩
  · rcases List.mem_cons.1 hx with rfl | hx
    · show World.ownsRow _ _ _ _ _ _ _
      rw [show (noLists n).length = n by simp [noLists]]
      exact h
    · obtain ⟨y, hy, rfl⟩ := List.mem_map.1 hx
      obtain rfl : y = ⟨[], .slice none 0 0⟩ := List.eq_of_mem_replicate hy
      exact World.ownsRow_nil _ _ _ _
  · obtain ⟨y, hy, rfl⟩ := List.mem_map.1 hx
    obtain rfl : y = ⟨[], .slice none 0 0⟩ := List.eq_of_mem_replicate hy
    right; intro he; cases he
  · rw [List.pairwise_map]
    refine List.Pairwise.imp_of_mem (R := fun _ _ => True) (fun {a b} ha hb _ => ?_) (List.pairwise_of_forall (fun _ _ => trivial))
    obtain rfl : a = ⟨[], .slice none 0 0⟩ := List.eq_of_mem_replicate ha
    exact .inl rfl
def natsL (P : List (List Nat)) : List (List Int) := P.map nats
theorem natsL_at {P : List (List Nat)} {x : Nat} {r : List Nat} (h : P[x]? = some r) : (natsL P)[x]? = some (nats r) := by simp [natsL, h]
theorem natsL_set (P : List (List Nat)) (x : Nat) (r : List Nat) : (natsL P).set x (nats r) = natsL (P.set x r) := by simp [natsL, List.map_set]
theorem lists_set (ys : List LV) (x : Nat) (y : LV) : lists (ys.set x y) = (lists ys).set x y.r := by simp [lists, List.map_set]
theorem lists_noLists (n : Nat) : lists (noLists n) = natsL (List.replicate n []) := by simp [lists, noLists, natsL, nats]
theorem own_of_lists {ys : List LV} {P : List (List Nat)} (h : lists ys = natsL P) {x : Nat} {r : List Nat} (hr : P[x]? = some r) : ∃ v, ys[x]? = some ⟨nats r, v⟩ := by
  have h1 := congrArg (·[x]?) h
  simp only [natsL_at hr] at h1
  simp only [lists, List.getElem?_map] at h1
  cases hy : ys[x]? with
  | none => rw [hy] at h1; cases h1
  | some y =>
    rw [hy] at h1
    have := Option.some.inj h1
    exact ⟨y.v, by rw [← this]⟩

theorem OwnR.kept {w w' : World} {B : Nat} {v : Value} {ys : List LV} {R : List OR} (h : OwnR w B v ys R) (hb : Below w.heap.size w w') (hB : B ≤ w.heap.size) (x : OR) (hx : x.own w' w.heap.size) : OwnR w' B v ys (R ++ [x]) := by
  have := Sep.append h hb hB (m := [x]) ⟨by intro y hy; simp at hy; subst hy; exact hx, by simp⟩
  unfold OwnR
  rw [← List.append_assoc]
  exact this
theorem OwnR.less {w : World} {B : Nat} {v : Value} {ys : List LV} {R S : List OR} (h : OwnR w B v ys (R ++ S)) : OwnR w B v ys R := by
  unfold OwnR at h ⊢
  rw [← List.append_assoc] at h
  exact Sep.left h
theorem dom_iff {g : List (List Nat)} {L M : List Nat} {d k : Nat} (hL : IsW g (-1) L) (hM : IsW g d M) (hk : k ∈ L) : Dom g d k ↔ (d ∈ L ∧ k ∉ M) := by
  unfold Dom Come
  rw [← hL.2, ← hL.2, ← hM.2]
  exact ⟨fun h => ⟨h.2.1, h.2.2⟩, fun h => ⟨hk, h.1, h.2⟩⟩
/-- the answer: rows of dominators -/
def DomAns (w w' : World) (g : List (List Nat)) (e : Ending) : Prop := ∃ va vc ys P, e = .returned (.slice va g.length vc) ∧ OwnL w' w.heap.size (.slice va g.length vc) ys ∧ lists ys = natsL P ∧ IsDoms g P ∧ Below w.heap.size w w'
theorem hasN_any (a : Option Addr) (c : Nat) (S : List Nat) (x : Nat) (w : World) (hl : S.length ≤ 1000) (B : Nat) (ho : w.ownsRow B 3 1 (.slice a S.length c) S.length (ints (nats S))) :
    Calls Tryz.prog 46 #[.slice a S.length c, .int .i64 (x : Int)] w fun e w' => e = .returned (.bool (decide (x ∈ S))) ∧ w' = w := by
  have := l1Has_any a c (nats S) x w (by rw [nats_length]; omega) (own_row (c := c) (B := B) (by rw [nats_length]; exact ho))
  rw [nats_length] at this
  have e : hasB (nats S) x = decide (x ∈ S) := by rw [Bool.eq_iff_iff]; simp [hasB, nats_mem]
  rw [e] at this
  exact this
set_option maxHeartbeats 8000000 in
theorem sDoms_any {g : List (List Nat)} (G : Gr g) (a : Option Addr) (c : Nat) (w : World) (h : GRow w a g) :
    Calls Tryz.prog 62 #[.agg #[.slice a g.length c]] w fun e w' => DomAns w w' g e := by
  have hgm := G.most
  have H := hid h
  clear h
  obtain ⟨i0, hi0, hz0, hz1, hz2⟩ := info_parts info40
  have b0 := below1 w (.cells #[.slice a g.length c] 25)
  have d0 : (w.alloc (.cells #[.slice a g.length c] 25)).cell? ⟨w.heap.size, 0, none⟩ = some (.slice a g.length c) := by simp [go_sem]
  have z0 : (w.alloc (.cells #[.slice a g.length c] 25)).heap.size = w.heap.size + 1 := by simp
  go_enter Tryz.func62, Tryz.ntmps62
  go_wp2_with (at_make; refine wpList_make_full _ rfl _ _ 23 rfl (w.heap.size + 1) 35 i0 (.slice none 0 0) 1 Tryz.underlying23 hi0 hz0 hz1 .i64 .i64 _ _ g.length rfl rfl rfl rfl ?c1 ?c2 ?c3 ?_)
  case c1 => rw [hz2]; omega
  case c2 => unfold maxLen; omega
  case c3 => omega
  intro w1 hown0 hgrow0
  rw [made_lists] at hown0
  have hB1 : Below (w.heap.size + 1) (w.alloc (.cells #[.slice a g.length c] 25)) w1 := (Below.refl _ _).grown hgrow0 (by omega) (fun k hk => by cases hk)
  have B1 : Below w.heap.size w w1 := b0.trans (hB1.mono (by omega))
  have d1 : w1.cell? ⟨w.heap.size, 0, none⟩ = some (.slice a g.length c) := by rw [hB1.cell (p := ⟨w.heap.size, 0, none⟩) (by show w.heap.size < _; omega)]; exact d0
  have HO1 := hid (own_start hown0)
  have z1 : w.heap.size + 1 ≤ w1.heap.size := by have := hB1.size; omega
  clear hown0 hgrow0 b0 d0 hB1
  go_wp2_with fail
  refine (sWithout_any G a c (-1) _ (LRow.below H.out B1)).mono ?_
  rintro e w2 ⟨la, lc, L, rfl, hL, hol, hb2⟩
  have B2 := bstep' B1 hb2
  have d2 := cell_below d1 hb2
  have hLl := hL.len G
  have HL := hid hL
  have HS2 : Hid (OwnR w2 (w.heap.size + 1) (.slice (some ⟨w.heap.size + 1, 0, none⟩) g.length g.length) (noLists g.length) [⟨3, 1, .slice la L.length lc, L.length, ints (nats L)⟩]) := Sep.append HO1.out hb2 z1 (sep_one hol)
  have z2 : w.heap.size + 1 ≤ w2.heap.size := Nat.le_trans z1 hb2.size
  clear hL hol hb2 B1 d1 HO1
  go_wp2
  go_loopw [18] (fun t18 wr => ∃ (d : Nat) (ys : List LV) (P : List (List Nat)), t18 = .int .i64 d ∧ d ≤ g.length ∧ OwnR wr (w.heap.size + 1) (.slice (some ⟨w.heap.size + 1, 0, none⟩) g.length g.length) ys [⟨3, 1, .slice la L.length lc, L.length, ints (nats L)⟩] ∧ lists ys = natsL P ∧ DS g d [] P ∧ Below w.heap.size w wr ∧ w.heap.size + 1 ≤ wr.heap.size ∧ wr.cell? ⟨w.heap.size, 0, none⟩ = some (.slice a g.length c)) (fun t18 _ => g.length - (intOf t18).toNat)
  case atStart => exact ⟨0, _, _, rfl, by omega, HS2.out, lists_noLists _, DS.begin g, B2, z2, d2⟩
  case round =>
    obtain ⟨d, ys, P, rfl, hd, hown, hys, hds, hB, hz, dr⟩ := hrel
    have HO := hid hown
    have HP := hid (And.intro hys hds)
    clear hown hys hds HS2 d2 B2
    by_cases hlt : d < g.length
    · have HWI := hid (sWithout_any G a c (d : Int) wr (LRow.below H.out hB))
      go_wp2_with fail
      refine HWI.out.mono ?_
      rintro e w3 ⟨ma, mc, M, rfl, hM, hom, hb3⟩
      have hMl := hM.len G
      have HO3 := hid (HO.out.kept hb3 hz ⟨3, 1, .slice ma M.length mc, M.length, ints (nats M)⟩ hom)
      have HM := hid hM
      have HB3 := hid (And.intro (bstep' hB hb3) (And.intro (Nat.le_trans hz hb3.size) (cell_below dr hb3)))
      clear hM hom hb3 HWI HO
      go_wp2
      go_loopw [26] (fun t26 wq => ∃ (p : Nat) (ys : List LV) (P : List (List Nat)), t26 = .int .i64 p ∧ p ≤ L.length ∧ OwnR wq (w.heap.size + 1) (.slice (some ⟨w.heap.size + 1, 0, none⟩) g.length g.length) ys ([⟨3, 1, .slice la L.length lc, L.length, ints (nats L)⟩] ++ [⟨3, 1, .slice ma M.length mc, M.length, ints (nats M)⟩]) ∧ lists ys = natsL P ∧ DS g d (L.take p) P ∧ Below w.heap.size w wq ∧ w.heap.size + 1 ≤ wq.heap.size ∧ wq.cell? ⟨w.heap.size, 0, none⟩ = some (.slice a g.length c)) (fun t26 _ => L.length - (intOf t26).toNat)
      case atStart => exact ⟨0, ys, P, rfl, by omega, HO3.out, HP.out.1, HP.out.2, HB3.out.1, HB3.out.2.1, HB3.out.2.2⟩
      case round =>
        obtain ⟨p, ys, P, rfl, hp, hown, hys, hds, hB', hz', dq⟩ := hrel
        have HO := hid hown
        have HP := hid (And.intro hys hds)
        have hol := hown.rest (x := ⟨3, 1, .slice la L.length lc, L.length, ints (nats L)⟩) (by simp)
        have hom := hown.rest (x := ⟨3, 1, .slice ma M.length mc, M.length, ints (nats M)⟩) (by simp)
        simp only [] at hol hom
        clear hown hys hds
        by_cases hpl : p < L.length
        · obtain ⟨k0, hk0⟩ : ∃ k, L[p]? = some k := ⟨_, List.getElem?_eq_getElem hpl⟩
          have hkg : k0 < g.length := ((HL.out.2 k0).1 (List.mem_of_getElem? hk0)).lt G
          obtain ⟨lg, rfl⟩ : ∃ g, la = some ⟨g, 0, none⟩ := by
            rcases hol.2 with ⟨h0, h1⟩ | ⟨g', cap, cur, he, _⟩
            · omega
            · injection he with e1 _ _; exact ⟨g', e1⟩
          have c1 : wr.cell? ⟨lg, p, none⟩ = some (.int .i64 (k0 : Int)) := rowT_at hol rfl (by simp [ints, nats, hk0])
          have e1 : L.take (p + 1) = L.take p ++ [k0] := by rw [List.take_add_one, hk0]; rfl
          have HD := hid (dom_iff HL.out HM.out (List.mem_of_getElem? hk0))
          have HH1 := hid (hasN_any (some ⟨lg, 0, none⟩) lc L d wr (by omega) _ hol)
          have HH2 := hid (hasN_any ma mc M k0 wr (by omega) _ hom)
          have HE1 := hid e1
          clear hol hom e1 hk0
          by_cases hdl : d ∈ L
          · have t1 : decide (d ∈ L) = true := decide_eq_true hdl
            rw [t1] at HH1
            by_cases hkm : k0 ∈ M
            · have t2 : decide (k0 ∈ M) = true := decide_eq_true hkm
              rw [t2] at HH2
              have HN := hid (HP.out.2.skip (k0 := k0) (fun h => (HD.out.1 h).2 hkm))
              clear t1 t2 hdl hkm
              go_wp2_with fail
              refine HH1.out.mono ?_
              rintro e w4 ⟨rfl, hw4⟩
              subst w4
              go_wp2_with fail
              refine HH2.out.mono ?_
              rintro e w5 ⟨rfl, hw5⟩
              subst w5
              go_wp2
              go_roundw
              case rel => exact ⟨p + 1, ys, P, by go_num, by omega, HO.out, HP.out.1, by rw [HE1.out]; exact HN.out, hB', hz', dq⟩
              case measure => simp [intOf]; omega
            · have t2 : decide (k0 ∈ M) = false := decide_eq_false hkm
              rw [t2] at HH2
              have HDD := hid (HD.out.2 ⟨hdl, hkm⟩)
              obtain ⟨r, hr⟩ : ∃ r, P[k0]? = some r := ⟨_, List.getElem?_eq_getElem (by rw [HP.out.2.1]; exact hkg)⟩
              obtain ⟨rv, hrv⟩ := own_of_lists HP.out.1 hr
              have hylen : ys.length = g.length := by have := congrArg List.length HP.out.1; rw [lists_length] at this; simp [natsL, HP.out.2.1] at this; exact this
              have c2 : wr.cell? ⟨w.heap.size + 1, k0, none⟩ = some rv := rowT_at HO.out.plain.outer rfl (show (vals ys)[k0]? = some rv by simp [vals, hrv])
              have hrb := HP.out.2.few G hr
              have hio := HO.out.plain.inner (List.mem_of_getElem? hrv)
              simp only [] at hio
              rw [nats_length] at hio
              have HQ := hid (l1Put_any rv r d (w.heap.size + 1) wr (by omega) (by omega) hio hz')
              have HH := hid (And.intro hr (And.intro hrv hylen))
              clear t1 t2 hdl hkm hr hrv hylen hio hrb
              go_wp2_with fail
              refine HH1.out.mono ?_
              rintro e w4 ⟨rfl, hw4⟩
              subst w4
              go_wp2_with fail
              refine HH2.out.mono ?_
              rintro e w5 ⟨rfl, hw5⟩
              subst w5
              go_wp2_with fail
              refine HQ.out.mono ?_
              rintro e w6 ⟨va, vc, rfl, ho6, hg6, hb6⟩
              have hs6 := (HO.out.split HH.out.2.1).turn _ hb6 (World.grownBy.refl _ _) ⟨3, 1, .slice va (putL r d).length vc, (nats (putL r d)).length, ints (nats (putL r d))⟩ (by show World.ownsRow _ _ _ _ _ _ _; rw [nats_length]; exact ho6) hg6
              have e0 : (Value.slice (some ⟨w.heap.size + 1, 0, none⟩) g.length g.length) = (Value.slice (some ⟨w.heap.size + 1, 0, none⟩) ys.length g.length) := by rw [HH.out.2.2]
              rw [e0] at hs6
              have HJ := hid (OwnR.join (y' := ⟨nats (putL r d), .slice va (putL r d).length vc⟩) HH.out.2.1 hs6)
              have HB6 := hid (And.intro (bstep' hB' hb6) (And.intro (Nat.le_trans hz' hb6.size) (cell_below dq hb6)))
              have c6 := rowT_at (owns_below HO.out.plain.outer hb6) rfl (show (vals ys)[k0]? = some rv by simp [vals, HH.out.2.1])
              have f6 := rowT_frz (owns_below HO.out.plain.outer hb6) rfl k0
              clear ho6 hg6 hb6 hs6 e0
              go_wp2
              go_roundw
              case rel =>
                refine ⟨p + 1, ys.set k0 ⟨nats (putL r d), .slice va (putL r d).length vc⟩, P.set k0 (putL r d), by go_num, by omega, ?_, ?_, ?_, HB6.out.1.setCell (p := ⟨w.heap.size + 1, k0, none⟩) (by show w.heap.size ≤ w.heap.size + 1; omega) _, by simp [World.setCell]; exact HB6.out.2.1, set_far HB6.out.2.2 (by omega)⟩
                · have := HJ.out
                  rw [HH.out.2.2] at this
                  exact this
                · rw [lists_set, HP.out.1, natsL_set]
                · rw [HE1.out]; exact HP.out.2.put HDD.out HH.out.1
              case measure => simp [intOf]; omega
          · have t1 : decide (d ∈ L) = false := decide_eq_false hdl
            rw [t1] at HH1
            have HN := hid (HP.out.2.skip (k0 := k0) (fun h => hdl (HD.out.1 h).1))
            clear t1 hdl
            go_wp2_with fail
            refine HH1.out.mono ?_
            rintro e w4 ⟨rfl, hw4⟩
            subst w4
            go_wp2
            go_roundw
            case rel => exact ⟨p + 1, ys, P, by go_num, by omega, HO.out, HP.out.1, by rw [HE1.out]; exact HN.out, hB', hz', dq⟩
            case measure => simp [intOf]; omega
        · obtain rfl : p = L.length := by omega
          have hds := HP.out.2
          rw [List.take_of_length_le (Nat.le_refl _)] at hds
          have HN := hid (hds.next (fun k hk => (HL.out.2 k).2 hk.1))
          have HK := hid (And.intro HO.out.less HP.out.1)
          clear hol hom hds
          go_wp2
          go_roundw
          case rel => exact ⟨d + 1, ys, P, by go_num, by omega, HK.out.1, HK.out.2, HN.out, hB', hz', dq⟩
          case measure => simp [intOf]; omega
    · obtain rfl : d = g.length := by omega
      have HF := hid (And.intro HO.out.plain (And.intro HP.out.1 (And.intro (HP.out.2.end G) hB)))
      go_wp2
      go_ret
      exact ⟨_, g.length, ys, P, rfl, Sep.mono HF.out.1 (by omega), HF.out.2.1, HF.out.2.2.1, HF.out.2.2.2⟩
end Go.Proofs.YtiadmmnnbnamjaaGreat
