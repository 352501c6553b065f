/- Who leads to each block: the model's way and the program's. -/
import Derived.Test.YtbibcjhfiopgdaaDoorReachI
import Derived.Test.YtbibcjhfiopgdaaDoorListL
import Derived.Test.YtbibcjhfiopgdaaDoorPredMath
namespace Go.Proofs.YtbibcjhfiopgdaaDoor
open Go.RowKit
set_option linter.unusedVariables false
set_option linter.unusedSimpArgs false
set_option maxRecDepth 100000

/-- lists that are owned, beside rows that stay -/
def OwnR (w : World) (B : Nat) (v : Value) (ys : List LV) (R : List OR) : Prop := Sep w B (rowsL v ys ++ R)
theorem Sep.left {w : World} {B : Nat} {l m : List OR} (h : Sep w B (l ++ m)) : Sep w B l := ⟨fun x hx => h.1 x (List.mem_append_left _ hx), (List.pairwise_append.1 h.2).1⟩
theorem OwnR.plain {w : World} {B : Nat} {v : Value} {ys : List LV} {R : List OR} (h : OwnR w B v ys R) : OwnL w B v ys := Sep.left h
theorem OwnR.below {w w' : World} {B : Nat} {v : Value} {ys : List LV} {R : List OR} (h : OwnR w B v ys R) (hb : Below w.heap.size w w') : OwnR w' B v ys R := Sep.below h hb
theorem OwnR.rest {w : World} {B : Nat} {v : Value} {ys : List LV} {R : List OR} (h : OwnR w B v ys R) {x : OR} (hx : x ∈ R) : w.ownsRow B x.e x.size x.v x.n x.xs := h.1 x (List.mem_append_right _ hx)
theorem OwnR.split {w : World} {B : Nat} {v : Value} {ys : List LV} {R : List OR} (h : OwnR w B v ys R) {j : Nat} {y : LV} (hy : ys[j]? = some y) : Sep w B ((⟨29, 1, v, ys.length, vals ys⟩ :: (ys.take j).map rowL) ++ ⟨3, 1, y.v, y.r.length, ints y.r⟩ :: ((ys.drop (j + 1)).map rowL ++ R)) := by
  have e : rowsL v ys ++ R = (⟨29, 1, v, ys.length, vals ys⟩ :: (ys.take j).map rowL) ++ ⟨3, 1, y.v, y.r.length, ints y.r⟩ :: ((ys.drop (j + 1)).map rowL ++ R) := by
    conv => lhs; arg 1; rw [rowsL]
    conv => lhs; arg 1; arg 2; rw [splitL hy]
    simp [rowL]
  unfold OwnR at h
  rw [e] at h
  exact h
theorem OwnR.join {w : World} {B g cap : Nat} {ys : List LV} {R : List OR} {j : Nat} {y y' : LV} (hy : ys[j]? = some y) (h : Sep w B ((⟨29, 1, .slice (some ⟨g, 0, none⟩) ys.length cap, ys.length, vals ys⟩ :: (ys.take j).map rowL) ++ ⟨3, 1, y'.v, y'.r.length, ints y'.r⟩ :: ((ys.drop (j + 1)).map rowL ++ R))) :
    OwnR (w.setCell ⟨g, j, none⟩ y'.v) B (.slice (some ⟨g, 0, none⟩) ys.length cap) (ys.set j y') R := by
  have hj := (List.getElem?_eq_some_iff.1 hy).1
  have h2 := Sep.store [] h j y'.v
  have e : rowsL (.slice (some ⟨g, 0, none⟩) ys.length cap) (ys.set j y') ++ R = [] ++ ⟨29, 1, .slice (some ⟨g, 0, none⟩) ys.length cap, ys.length, (vals ys).set j y'.v⟩ :: ((ys.take j).map rowL ++ ⟨3, 1, y'.v, y'.r.length, ints y'.r⟩ :: ((ys.drop (j + 1)).map rowL ++ R)) := by
    rw [rowsL, List.length_set, show vals (ys.set j y') = (vals ys).set j y'.v by simp [vals, List.map_set], List.set_eq_take_append_cons_drop (l := ys), if_pos hj]
    simp [rowL]
  unfold OwnR
  rw [e]
  exact h2
theorem info29 : (Tryd.prog.info? 29).map (fun i => (i.zero, i.size, i.bytes)) = some (some (.slice none 0 0), 1, 24) := by kernel_rfl
def noLists (n : Nat) : List LV := List.replicate n ⟨[], .slice none 0 0⟩
theorem made_lists (n : Nat) : (madeCells #[Value.slice none 0 0] n).toList = vals (noLists n) := by
  rw [toList_madeCells_one]
  simp [vals, noLists]
theorem own_start {w : World} {B n g cap : Nat} (h : w.ownsRow B 29 1 (.slice (some ⟨g, 0, none⟩) n cap) n (vals (noLists n))) : OwnL w B (.slice (some ⟨g, 0, none⟩) n cap) (noLists n) := by
  refine ⟨fun x hx => ?_, List.pairwise_cons.2 ⟨fun x hx => ?_, ?_⟩⟩
  · rcases List.mem_cons.1 hx with rfl | hx
    · show World.ownsRow _ _ _ _ _ _ _
      rw [show (noLists n).length = n by simp [noLists]]
      exact h
    · obtain ⟨y, hy, rfl⟩ := List.mem_map.1 hx
      obtain rfl : y = ⟨[], .slice none 0 0⟩ := List.eq_of_mem_replicate hy
      exact World.ownsRow_nil _ _ _ _
  · obtain ⟨y, hy, rfl⟩ := List.mem_map.1 hx
    obtain rfl : y = ⟨[], .slice none 0 0⟩ := List.eq_of_mem_replicate hy
    right; intro he; cases he
  · rw [List.pairwise_map]
    refine List.Pairwise.imp_of_mem (R := fun _ _ => True) (fun {a b} ha hb _ => ?_) (List.pairwise_of_forall (fun _ _ => trivial))
    obtain rfl : a = ⟨[], .slice none 0 0⟩ := List.eq_of_mem_replicate ha
    exact .inl rfl
def natsL (P : List (List Nat)) : List (List Int) := P.map nats
theorem natsL_at {P : List (List Nat)} {x : Nat} {r : List Nat} (h : P[x]? = some r) : (natsL P)[x]? = some (nats r) := by simp [natsL, h]
theorem natsL_set (P : List (List Nat)) (x : Nat) (r : List Nat) : (natsL P).set x (nats r) = natsL (P.set x r) := by simp [natsL, List.map_set]
theorem lists_set (ys : List LV) (x : Nat) (y : LV) : lists (ys.set x y) = (lists ys).set x y.r := by simp [lists, List.map_set]
theorem lists_noLists (n : Nat) : lists (noLists n) = natsL (List.replicate n []) := by simp [lists, noLists, natsL, nats]
theorem own_of_lists {ys : List LV} {P : List (List Nat)} (h : lists ys = natsL P) {x : Nat} {r : List Nat} (hr : P[x]? = some r) : ∃ v, ys[x]? = some ⟨nats r, v⟩ := by
  have h1 := congrArg (·[x]?) h
  simp only [natsL_at hr] at h1
  simp only [lists, List.getElem?_map] at h1
  cases hy : ys[x]? with
  | none => rw [hy] at h1; cases h1
  | some y =>
    rw [hy] at h1
    have := Option.some.inj h1
    exact ⟨y.v, by rw [← this]⟩
/-- what tells who leads to each block -/
def PredAns (w w' : World) (f : List Blk) (e : Ending) : Prop := ∃ v ys P, e = .returned v ∧ OwnL w' w.heap.size v ys ∧ lists ys = natsL P ∧ IsPreds f P ∧ Below w.heap.size w w'
set_option maxHeartbeats 8000000 in
theorem sPreds_any (a : Option Addr) (c : Nat) (f : List Blk) (w : World) (hg : goodFlow f = true) (h : BRow w a f) :
    Calls Tryd.prog 64 #[.slice a f.length c] w fun e w' => PredAns w w' f e := by
  have hf64 := flow_pos hg
  have HG := hid hg
  have H := hid h
  obtain ⟨b, off, rfl, hbw, hat⟩ := h.at (by intro e; subst e; simp at hf64)
  have HA := hid hat
  clear hat h hg
  obtain ⟨i0, hi0, hz0, hz1, hz2⟩ := info_parts info29
  go_enter Tryd.func64, Tryd.ntmps64
  go_wp2_with (at_make; refine wpList_make_full _ rfl _ _ 49 rfl w.heap.size 29 i0 (.slice none 0 0) 1 Tryd.underlying49 hi0 hz0 hz1 .i64 .i64 _ _ f.length rfl rfl rfl rfl ?c1 ?c2 ?c3 ?_)
  case c1 => rw [hz2]; omega
  case c2 => unfold maxLen; omega
  case c3 => omega
  intro w1 hown0 hgrow0
  rw [made_lists] at hown0
  have hB0 : Below w.heap.size w w1 := (Below.refl _ w).grown hgrow0 (Nat.le_refl _) (fun k hk => by cases hk)
  have HO1 := hid (own_start hown0)
  clear hown0 hgrow0
  go_wp2_with fail
  refine (sReach_any _ c f _ HG.out (H.out.below hB0)).mono ?_
  rintro e w2 ⟨la, lc, l, rfl, hl, hol, hb2⟩
  have hB2 := bstep' hB0 hb2
  have hl64 : l.length ≤ 64 := by
    have := nodup_le (n := f.length) (List.Pairwise.imp (fun h => Nat.ne_of_lt h) hl.1) (fun k hk => ((hl.2 k).1 hk).lt HG.out)
    omega
  have HL := hid hl
  have HS2 : Hid (OwnR w2 w.heap.size (.slice (some ⟨w.heap.size, 0, none⟩) f.length f.length) (noLists f.length) [⟨3, 1, .slice la l.length lc, l.length, ints (nats l)⟩]) := Sep.append HO1.out hb2 hB0.size (sep_one hol)
  clear hl hol hb2 hB0 HO1
  go_wp2
  go_loopw [14] (fun t14 wr => ∃ (i : Nat) (ys : List LV) (P : List (List Nat)), t14 = .int .i64 i ∧ i ≤ l.length ∧ OwnR wr w.heap.size (.slice (some ⟨w.heap.size, 0, none⟩) f.length f.length) ys [⟨3, 1, .slice la l.length lc, l.length, ints (nats l)⟩] ∧ lists ys = natsL P ∧ PS f l i 0 [] P ∧ Below w.heap.size w wr) (fun t14 _ => l.length - (intOf t14).toNat)
  case atStart => exact ⟨0, _, _, rfl, by omega, HS2.out, lists_noLists _, PS.start f l, hB2⟩
  case round =>
    obtain ⟨i, ys, P, rfl, hi, hown, hys, hps, hB⟩ := hrel
    have HO := hid hown
    have HP := hid (And.intro hys hps)
    clear hown hys hps HS2
    by_cases hlt : i < l.length
    · obtain ⟨k0, hk0⟩ : ∃ k, l[i]? = some k := ⟨_, List.getElem?_eq_getElem hlt⟩
      have hkf : k0 < f.length := ((HL.out.2 k0).1 (List.mem_of_getElem? hk0)).lt HG.out
      have hol := HO.out.rest (x := ⟨3, 1, .slice la l.length lc, l.length, ints (nats l)⟩) (by simp)
      simp only [] at hol
      obtain ⟨lg, rfl⟩ : ∃ g, la = some ⟨g, 0, none⟩ := by
        rcases hol.2 with ⟨h0, h1⟩ | ⟨g, cap, cur, he, _⟩
        · omega
        · injection he with e1 _ _; exact ⟨g, e1⟩
      have c1 : wr.cell? ⟨lg, i, none⟩ = some (.int .i64 (k0 : Int)) := rowT_at hol rfl (by simp [ints, nats, hk0])
      obtain ⟨cs, go, test, ns, ca, cc, na, nc, d0, d1, d2, d3, l1, l2, HR, HX⟩ := HA.out wr hB k0 hkf
      have HK := hid hk0
      clear hk0 d0 d1 d2 hol
      go_wp2
      go_loopw [24] (fun t24 wi => ∃ (j : Nat) (ys : List LV) (P : List (List Nat)), t24 = .int .i64 j ∧ j ≤ ns.length ∧ OwnR wi w.heap.size (.slice (some ⟨w.heap.size, 0, none⟩) f.length f.length) ys [⟨3, 1, .slice (some ⟨lg, 0, none⟩) l.length lc, l.length, ints (nats l)⟩] ∧ lists ys = natsL P ∧ PS f l i j ns P ∧ Below w.heap.size w wi) (fun t24 _ => ns.length - (intOf t24).toNat)
      case atStart => exact ⟨0, ys, P, rfl, by omega, HO.out, HP.out.1, HP.out.2.begin, hB⟩
      case round =>
        obtain ⟨j, ys, P, rfl, hj, hown, hys, hps, hB'⟩ := hrel
        have HO := hid hown
        have HP := hid (And.intro hys hps)
        clear hown hys hps c1
        by_cases hjl : j < ns.length
        · obtain ⟨nb, noff, rfl, hnw, nat⟩ := HR.out.2.at (by intro e; subst e; simp at hjl)
          obtain ⟨y, e1, HY⟩ := nat wr hB' j hjl
          obtain ⟨x, hyn, hxf, hxl⟩ := nat_of_next HG.out HX.out HY.out
          subst hyn
          obtain ⟨r, hr⟩ : ∃ r, P[x]? = some r := ⟨_, List.getElem?_eq_getElem (by rw [HP.out.2.1]; exact hxf)⟩
          obtain ⟨rv, hrv⟩ := own_of_lists HP.out.1 hr
          have hylen : ys.length = f.length := by have := congrArg List.length HP.out.1; rw [lists_length] at this; simp [natsL, HP.out.2.1] at this; exact this
          have c2 : wr.cell? ⟨w.heap.size, x, none⟩ = some rv := rowT_at HO.out.plain.outer rfl (show (vals ys)[x]? = some rv by simp [vals, hrv])
          have hrb := HP.out.2.bound HG.out HL.out hr
          have hio := HO.out.plain.inner (List.mem_of_getElem? hrv)
          simp only [] at hio
          rw [nats_length] at hio
          have HQ := hid (l1Put_any rv r k0 w.heap.size wr (by omega) (by omega) hio hB'.size)
          have HH := hid (And.intro hr (And.intro hrv (And.intro HY.out hylen)))
          clear nat HY hr hrv hylen hio hxl hrb
          go_wp2_with fail
          refine HQ.out.mono ?_
          rintro e w3 ⟨va, vc, rfl, ho3, hg3, hb3⟩
          have hs3 := (HO.out.split HH.out.2.1).turn _ hb3 (World.grownBy.refl _ _) ⟨3, 1, .slice va (putL r k0).length vc, (nats (putL r k0)).length, ints (nats (putL r k0))⟩ (by show World.ownsRow _ _ _ _ _ _ _; rw [nats_length]; exact ho3) hg3
          have hs3' : Sep w3 w.heap.size ((⟨29, 1, .slice (some ⟨w.heap.size, 0, none⟩) ys.length f.length, ys.length, vals ys⟩ :: (ys.take x).map rowL) ++ ⟨3, 1, .slice va (putL r k0).length vc, (nats (putL r k0)).length, ints (nats (putL r k0))⟩ :: ((ys.drop (x + 1)).map rowL ++ [⟨3, 1, .slice (some ⟨lg, 0, none⟩) l.length lc, l.length, ints (nats l)⟩])) := by
            have e0 : (Value.slice (some ⟨w.heap.size, 0, none⟩) f.length f.length) = (Value.slice (some ⟨w.heap.size, 0, none⟩) ys.length f.length) := by rw [HH.out.2.2.2]
            rw [e0] at hs3
            exact hs3
          have HJ := hid (OwnR.join (y' := ⟨nats (putL r k0), .slice va (putL r k0).length vc⟩) HH.out.2.1 hs3')
          have HB3 := hid (bstep' hB' hb3)
          have c3 := rowT_at (World.ownsRow.kept (owns_below HO.out.plain.outer hb3) (World.grownBy.refl _ none) (.inr (by intro h; cases h))) rfl (show (vals ys)[x]? = some rv by simp [vals, HH.out.2.1])
          have f3 := rowT_frz (owns_below HO.out.plain.outer hb3) rfl x
          clear ho3 hg3 hb3 hs3 hs3'
          go_wp2
          go_roundw
          case rel =>
            refine ⟨j + 1, ys.set x ⟨nats (putL r k0), .slice va (putL r k0).length vc⟩, P.set x (putL r k0), by go_num, by omega, ?_, ?_, ?_, HB3.out.setCell (p := ⟨w.heap.size, x, none⟩) (Nat.le_refl _) _⟩
            · have := HJ.out
              rw [HH.out.2.2.2] at this
              exact this
            · rw [lists_set, HP.out.1, natsL_set]
            · exact HP.out.2.put HK.out HH.out.2.2.1 HH.out.1 (putL_rising (HP.out.2.2 x r HH.out.1).1 k0) (fun k => putL_mem r k0 k)
          case measure => simp [intOf]; omega
        · obtain rfl : j = ns.length := by omega
          have HN := hid (HP.out.2.next HK.out HX.out)
          go_wp2
          go_roundw
          case rel => exact ⟨i + 1, ys, P, by go_num, by omega, HO.out, HP.out.1, HN.out, hB'⟩
          case measure => simp [intOf]; omega
    · obtain rfl : i = l.length := by omega
      go_wp2
      go_ret
      exact ⟨_, ys, P, rfl, HO.out.plain, HP.out.1, HP.out.2.done HL.out, hB⟩
theorem indexE_any (a : Option Addr) (c : Nat) (xs : List Int) (n : Int) (w : World) (hl : xs.length ≤ 9223372036854775807) (h : Row w a xs) :
    Calls Tryd.prog 103 #[.slice a xs.length c, .int .i64 n] w fun e w' => (∃ r : Int, e = .returned (.int .i64 r) ∧ decide (0 ≤ r) = hasB xs n) ∧ w' = w := by
  obtain ⟨G, hG⟩ : ∃ G, hasB xs n = G := ⟨_, rfl⟩
  rw [hG]
  have HG := hid hG
  have H := hid h
  clear h hG
  go_enter Tryd.func103, Tryd.ntmps103
  go_wp2
  go_loop [8] (fun t8 => ∃ (k : Nat), t8 = .int .i64 k ∧ k ≤ xs.length ∧ (∀ (j : Nat) v, j < k → xs[j]? = some v → ¬ v = n)) (fun t8 => xs.length - (intOf t8).toNat)
  case atStart => exact ⟨0, rfl, by omega, by intro j v hj; omega⟩
  case round =>
    obtain ⟨k, rfl, hk, hf⟩ := hrel
    have HF := hid hf
    clear hf
    by_cases hlt : k < xs.length
    · have hx : xs ≠ [] := by intro e; subst e; simp at hlt
      obtain ⟨b, off, rfl, hbw, hat⟩ := H.out.at hx
      obtain ⟨v, c1, HX⟩ := hat w (Below.refl _ _) k hlt
      clear hat hx
      by_cases hv : v = n
      · subst hv
        have HI := hid (HG.out.symm.trans (hasB_yes HX.out))
        go_wp2
        go_ret
        exact ⟨⟨_, rfl, by rw [HI.out]; simp⟩, rfl⟩
      · have hv' : ¬ n = v := fun h => hv h.symm
        go_wp2
        go_round
        case rel =>
          refine ⟨k + 1, by go_num, by omega, fun j u hj hu => ?_⟩
          by_cases e : j = k
          · subst e; rw [HX.out] at hu; cases hu; exact hv
          · exact HF.out j u (by omega) hu
        case measure => simp [intOf]; omega
    · obtain rfl : k = xs.length := by omega
      have HI := hid (HG.out.symm.trans (hasB_no (fun j v hv => HF.out j v (List.getElem?_eq_some_iff.1 hv).1 hv)))
      go_wp2
      go_ret
      exact ⟨⟨_, rfl, by rw [HI.out]; rfl⟩, rfl⟩
theorem containsE_any (a : Option Addr) (c : Nat) (xs : List Int) (n : Int) (w : World) (hl : xs.length ≤ 9223372036854775807) (h : Row w a xs) :
    Calls Tryd.prog 89 #[.slice a xs.length c, .int .i64 n] w fun e w' => e = .returned (.bool (hasB xs n)) ∧ w' = w := by
  have H := hid h
  clear h
  go_enter Tryd.func89, Tryd.ntmps89
  go_wp2_with fail
  refine (indexE_any a c xs n _ hl H.out).mono ?_
  rintro e w1 ⟨⟨r, rfl, hr⟩, hw⟩
  subst w1
  have HR := hid hr
  clear hr
  go_wp2
  go_ret
  exact ⟨ret_bool HR.out, rfl⟩
end Go.Proofs.YtbibcjhfiopgdaaDoor
