/- What ReachesOf of the model and MostHigh of the program and of the model answer, at every code; how long the answers are. -/
import Derived.Test.YtnhdhpibdimkbaaDoorHeights
import Derived.Test.YtnhdhpibdimkbaaDoorBooly
import Derived.Test.YtnhdhpibdimkbaaDoorMark
namespace Go.Proofs.YtnhdhpibdimkbaaDoor
open Go.RowKit
set_option linter.unusedVariables false
set_option linter.unusedSimpArgs false
set_option maxRecDepth 100000

theorem walkV_length {r : List Stp} {o : List Frm} {h : Int} {d : Bool} {hs hs' : List Int} {rs rs' : List Bool} (he : walkV r o h d hs rs = .fine hs' rs') : hs'.length = hs.length + r.length + 1 ∧ rs'.length = rs.length + r.length := by
  induction r generalizing o h d hs rs with
  | nil =>
    simp only [walkV] at he
    split at he
    · cases he; simp
    · cases he
  | cons x r ih =>
    cases hv : vstp x.1 o h d with
    | bad c => rw [walkV_bad hv] at he; cases he
    | go o' h' d' =>
      rw [walkV_go hv] at he
      have := ih he
      simp at this ⊢
      omega
theorem validR_length {xs : List Stp} {hs : List Int} {rs : List Bool} (h : validR xs = .fine hs rs) : hs.length = xs.length + 1 ∧ rs.length = xs.length ∧ xs.length ≤ 60 ∧ goodS xs = true := by
  cases hg : goodS xs with
  | false => rw [validR_bad hg] at h; cases h
  | true =>
    rw [validR_good hg] at h
    have := walkV_length h
    simp at this
    exact ⟨this.1, this.2, goodS_len hg, rfl⟩
theorem heightsR_len (xs : List Stp) : (heightsR (validR xs)).length ≤ 61 := by
  cases h : validR xs with
  | bad c k => simp [heightsR]
  | fine hs rs => have := validR_length h; simp only [heightsR]; omega
theorem reachR_len (xs : List Stp) : (reachR (validR xs)).length ≤ 61 := by
  cases h : validR xs with
  | bad c k => simp [reachR]
  | fine hs rs => have := validR_length h; simp only [reachR]; omega

set_option maxHeartbeats 2000000 in
/-- the model's ReachesOf -/
theorem sReach_any (a : Option Addr) (c : Nat) (xs : List Stp) (w : World) (hl : xs.length ≤ 1048576) (h : TRow w a xs) :
    Calls Tryd.prog 40 #[.slice a xs.length c] w fun e w' => (∃ v, e = .returned (.tuple #[v, .bool (fineR (validR xs))]) ∧ w'.ownsRow w.heap.size 4 1 v (reachR (validR xs)).length (bools (reachR (validR xs)))) ∧ Below w.heap.size w w' := by
  obtain ⟨i4, hi4, hz40, hz41, hz42⟩ := info_parts info4
  have hw := l4Valid_any a c xs w hl h
  clear h
  cases hr : validR xs with
  | bad k p =>
    rw [hr] at hw
    have HW : Hid (Calls Tryd.prog 96 #[.slice a xs.length c] w fun e w' => l4vAns w.heap.size w' e (.bad k p) ∧ Below w.heap.size w w') := hw
    clear hw hr
    simp only [reachR, fineR]
    go_enter Tryd.func40, Tryd.ntmps40
    go_wp2_with fail
    refine HW.out.mono ?_
    rintro e w1 ⟨⟨ha, hn, hc, da, dn, dc, k, p, rfl⟩, hb1⟩
    go_wp2
    go_ret2
    exact ⟨⟨_, rfl, World.ownsRow_nil _ _ _ _⟩, bstep' hb1 (below1 w1 _)⟩
  | fine hs rs =>
    rw [hr] at hw
    have hlen := validR_length hr
    have HW : Hid (Calls Tryd.prog 96 #[.slice a xs.length c] w fun e w' => l4vAns w.heap.size w' e (.fine hs rs) ∧ Below w.heap.size w w') := hw
    have HLN : Hid (rs.length ≤ 60) := by show _ ≤ _; omega
    clear hw hr hlen
    simp only [reachR, fineR]
    go_enter Tryd.func40, Tryd.ntmps40
    go_wp2_with fail
    refine HW.out.mono ?_
    rintro e w1 ⟨⟨ha, hc, da, dc, k, p, ds, rfl, hrs, o1, o2, hap⟩, hb1⟩
    have hrow : BRow w1 da ds := own_brow o2
    have h60 : ds.length ≤ 60 := by have := HLN.out; rw [hrs, nots_length] at this; exact this
    have hle := hb1.size
    generalize hA : w1.alloc (.cells #[.slice ha hs.length hc, .slice da ds.length dc, .int .i64 k, .int .i64 p] 118) = W1
    have hbA : Below w1.heap.size w1 W1 := by rw [← hA]; exact below1 w1 _
    have HA : Hid (w1.alloc (.cells #[.slice ha hs.length hc, .slice da ds.length dc, .int .i64 k, .int .i64 p] 118) = W1) := hA
    have HB1 : Hid (Below w.heap.size w W1) := bstep' hb1 hbA
    have hleA : w.heap.size ≤ W1.heap.size := HB1.out.size
    have HRS : Hid (rs = nots ds) := hrs
    have hrow1 := hrow.below hbA
    clear o1 o2 hap hA hbA hrs hrow hb1 hle
    rcases hrow1 with hx | ⟨b, off, rfl, hcell⟩
    · subst hx
      go_wp2
      go_loopw [6, 19] (fun t6 t19 wr => t6 = .slice none 0 0 ∧ t19 = .int .i64 0 ∧ wr = W1) (fun _ _ _ => 0)
      case atStart => exact ⟨rfl, rfl, HA.out⟩
      case round =>
        obtain ⟨rfl, rfl, rfl⟩ := hrel
        go_wp2
        go_ret2
        refine ⟨⟨_, rfl, ?_⟩, HB1.out⟩
        rw [HRS.out]
        exact World.ownsRow_nil _ _ _ _
    · have HCL : Hid (∀ W, Below W1.heap.size W1 W → ∀ i, i < ds.length → W.cell? ⟨b, off + i, none⟩ = some (.bool (ds[i]?.getD false))) := fun W hb i hi => by
        rw [hb.cell (World.block_lt_of_cell? _ _ (hcell i hi))]; exact hcell i hi
      clear hcell
      go_wp2
      go_loopw [6, 19] (fun t6 t19 wr => ∃ (j : Nat), t19 = .int .i64 j ∧ j ≤ ds.length ∧ wr.ownsRow W1.heap.size 4 1 t6 (nots (ds.take j)).length (bools (nots (ds.take j))) ∧ Below W1.heap.size W1 wr) (fun _ t19 _ => ds.length - (intOf t19).toNat)
      case atStart => exact ⟨0, rfl, by omega, by simpa [nots, bools] using World.ownsRow_nil _ _ _ _, by rw [HA.out]; exact Below.refl _ _⟩
      case round =>
        obtain ⟨j, rfl, hj, hown, hB⟩ := hrel
        obtain ⟨va, vc, rfl⟩ := slice_of_owned hown
        by_cases hlt : j < ds.length
        · have hc1 := HCL.out wr hB j hlt
          have HTK : Hid (nots (ds.take (j + 1)) = nots (ds.take j) ++ [!(ds[j]?.getD false)]) := by
            show _ = _
            rw [List.take_add_one, ← nots_snoc]
            congr 2
            rw [List.getElem?_eq_getElem hlt]; rfl
          have HLT : Hid ((nots (ds.take j)).length = j) := by show _ = _; rw [nots_length, List.length_take]; omega
          generalize ds[j]?.getD false = z at hc1 HTK
          have hsz := hB.size
          generalize nots (ds.take j) = L at hown HTK HLT ⊢
          go_wp2_with (at_builtin; refine wpList_append_lies _ rfl _ _ 49 rfl W1.heap.size 4 i4 (.bool false) 1 1 Tryd.underlying49 hi4 hz40 hz41 hz42 rfl (by decide) _ _ _ rfl (hown.alloc _) ⟨wr.heap.size, 0, none⟩ 1 1 [.bool (!z)] rfl rfl (news_at0 wr _ 4) (by simp [Value.oneCell']) (by decide) (by rw [HLT.out]; unfold maxLen; omega) (by rw [HLT.out]; omega) (by simp; omega) (wr.heap.size + 1) (by simp) ?_)
          intro g2 cap2 w2 hown2 hgrow2 hat2 hlt2
          have HO2 : Hid (w2.ownsRow W1.heap.size 4 1 (.slice (some ⟨g2, 0, none⟩) (L.length + 1) cap2) (L ++ [!z]).length (bools (L ++ [!z]))) := by rw [List.length_append, bools_append]; exact hown2
          have HB2 : Hid (Below W1.heap.size W1 w2) := (hB.alloc hsz _).grown hgrow2 (by simp; omega) (fun k hk => (hown.lt k hk).1)
          clear hown2 hgrow2 hat2 hlt2 hown
          go_wp2
          go_roundw
          case rel => exact ⟨j + 1, by go_num, by omega, by rw [HTK.out]; exact HO2.out, HB2.out⟩
          case measure => simp [intOf]; omega
        · obtain rfl : j = ds.length := by omega
          go_wp2
          go_ret2
          refine ⟨⟨_, rfl, ?_⟩, bstep' HB1.out hB⟩
          rw [List.take_of_length_le (Nat.le_refl _)] at hown ⊢
          rw [HRS.out]
          exact owns_mono hown hleA
end Go.Proofs.YtnhdhpibdimkbaaDoor
