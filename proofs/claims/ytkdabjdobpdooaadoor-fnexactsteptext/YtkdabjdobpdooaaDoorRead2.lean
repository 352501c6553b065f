/- What ReadSteps of the program and of the model answer, at every text. -/
import Derived.Test.YtkdabjdobpdooaaDoorRead1
namespace Go.Proofs.YtkdabjdobpdooaaDoor
open Go.RowKit
set_option linter.unusedVariables false
set_option linter.unusedSimpArgs false
set_option maxRecDepth 100000

/-- one step more -/
theorem OwnS.push {B : Nat} {wr w1 w2 : World} {v tv : Value} {ys : List SV} {x : Stp} {o1 o2 : Obj} {g cap : Nat} (h : OwnS wr B v ys) (hb : Below wr.heap.size wr w1) (hB : B ≤ wr.heap.size) (ht : w1.ownsRow wr.heap.size 3 1 tv x.2.2.length (ints x.2.2))
    (hown : w2.ownsRow B 36 3 (.slice (some ⟨g, 0, none⟩) (ys.length + 1) cap) (ys.length + 1) (flatT ys ++ [.int .i64 x.1, .int .i64 x.2.1, tv])) (hg : ((w1.alloc o1).alloc o2).grownBy w2 v.ownBlock) (hat : v.ownBlock = some g ∨ g = w1.heap.size + 1 + 1) :
    OwnS w2 B (.slice (some ⟨g, 0, none⟩) (ys.length + 1) cap) (ys ++ [(x, tv)]) := by
  have h1 := h.2.snoc hb hB (fun k hk => (h.1.lt k hk).2) x tv ht
  have h2 := (h1.below (below2 w1 o1 o2)).kept hg
  refine ⟨?_, ?_, h2.2⟩
  · rw [List.length_append, flatT_append]; exact hown
  · intro y hy
    obtain ⟨k1, k2⟩ := h2.1 y hy
    refine ⟨k1, ?_⟩
    rcases hat with hat | hat
    · rw [hat] at k2; exact k2
    · cases e : y.2.ownBlock with
      | none => exact .inl rfl
      | some j =>
        right
        have := ((h1.1 y hy).1.lt j e).2
        simp [Value.ownBlock]; omega

def readAns (B : Nat) (w' : World) (r : List Stp × Int × Bool) (e : Ending) : Prop := ∃ v ys, e = .returned (.tuple #[v, .int .i64 r.2.1, .bool r.2.2]) ∧ OwnS w' B v ys ∧ ys.map (·.1) = r.1
theorem readAns_nil {B : Nat} {w' : World} {c : Int} {b : Bool} : readAns B w' ([], c, b) (.returned (.tuple #[.slice none 0 0, .int .i64 c, .bool b])) := ⟨_, [], rfl, ⟨World.ownsRow_nil _ _ _ _, OwnT.nil _ _ _⟩, rfl⟩
/-- what the rounds of reading hold -/
def RL (s : ByteArray) (w0 wr : World) (k : Nat) (v : Value) : Prop := ∃ (ys : List SV) (f : Nat), OwnS wr w0.heap.size v ys ∧ rdL s (s.size + 1) 0 [] = rdL s f k (ys.map (·.1)) ∧ s.size - k < f ∧ k ≤ s.size ∧ ys.length ≤ k ∧ Below w0.heap.size w0 wr
theorem ownS_slice {w : World} {B : Nat} {v : Value} {ys : List SV} (h : OwnS w B v ys) : ∃ a c, v = .slice a ys.length c := by
  rcases h.1.2 with ⟨rfl, h0⟩ | ⟨g, cap, cur, rfl, _⟩
  · rw [h0]; exact ⟨none, 0, rfl⟩
  · exact ⟨_, cap, rfl⟩
theorem news_at2 (w : World) (o1 : Obj) (cs : Array Value) (t : TypeId) : ∀ j u, cs.toList[j]? = some u → ((w.alloc o1).alloc (.cells cs t)).cell? ((⟨w.heap.size + 1, 0, none⟩ : Addr).add j) = some u := by
  refine World.news_of_block (t := t) (fr := (0, 0)) ?_
  have := heap_alloc_new (w.alloc o1) (.cells cs t)
  rw [size_alloc1] at this
  exact this

set_option maxHeartbeats 4000000 in
/-- the program's ReadSteps -/
theorem iRead_any (s : ByteArray) (w : World) (hm : s.size ≤ 9223372036854775807) (hT : Tab w) :
    Calls Tryd.prog 21 #[.string s] w fun e w' => readAns w.heap.size w' (readR s) e ∧ Below w.heap.size w w' := by
  obtain ⟨i0, hi, hz0, hz1, hz2⟩ := info_parts info36
  by_cases h400 : s.size ≤ 400
  · have HT : Hid (∀ w', Below w.heap.size w w' → Tab w') := fun w' hb => hT.below hb
    clear hT
    go_enter Tryd.func21, Tryd.ntmps21
    go_wp2
    go_loopw [5, 6] (fun t5 t6 wr => ∃ (k : Nat) (v : Value), v = t5 ∧ t6 = .int .i64 k ∧ RL s w wr k v) (fun _ t6 _ => s.size - (intOf t6).toNat)
    case atStart => exact ⟨0, _, rfl, rfl, [], s.size + 1, ⟨World.ownsRow_nil _ _ _ _, OwnT.nil _ _ _⟩, rfl, by omega, by omega, by simp, Below.refl _ _⟩
    case round =>
      obtain ⟨k, v, rfl, rfl, ys, f, hown, hrd, hf, hk, hyl, hB⟩ := hrel
      have HRD : Hid (rdL s (s.size + 1) 0 [] = rdL s f k (ys.map (·.1)) ∧ s.size - k < f) := ⟨hrd, hf⟩
      clear hrd hf
      by_cases hlt : k < s.size
      · obtain ⟨f', hf'⟩ : ∃ f', f = f' + 1 := ⟨f - 1, by have := HRD.out.2; omega⟩
        subst hf'
        go_wp2_with fail
        refine (readStep_any s k _ h400 hlt (HT.out _ hB)).mono ?_
        cases hst : rdStep s k (opAt s k) with
        | bad cc =>
          rintro e w1 ⟨he, hb1⟩
          obtain rfl := he
          have hcc := rdStep_code hst
          have hcn : ¬ cc = 0 := by omega
          have HR : Hid (readR s = ([], cc, false)) := readR_bad h400 (by rw [HRD.out.1]; exact rdL_bad hlt hst)
          have HB1 : Hid (Below w.heap.size w w1) := bstep' hB hb1
          clear hb1 hcc hst
          go_wp2
          go_ret3
          refine ⟨?_, HB1.out.alloc HB1.out.size _⟩
          rw [HR.out]
          exact readAns_nil
        | ok n t e2 =>
          rintro e w1 ⟨⟨ta, tc, he, hot⟩, hb1⟩
          obtain rfl := he
          have hah := rdStep_ahead hst hlt
          have HN : Hid (rdL s (s.size + 1) 0 [] = rdL s f' e2 ((ys ++ [(((opAt s k, n, t), Value.slice ta t.length tc) : SV)]).map (·.1))) := by
            show _ = _
            rw [HRD.out.1, rdL_ok hlt hst, List.map_append]; rfl
          have hown1 := owns_below hown.1 hb1
          have HO : Hid (OwnS wr w.heap.size v ys ∧ w1.ownsRow wr.heap.size 3 1 (.slice ta t.length tc) t.length (ints t) ∧ Below wr.heap.size wr w1) := ⟨hown, hot, hb1⟩
          have hB1 : Below w.heap.size w w1 := bstep' hB hb1
          obtain ⟨op, hop⟩ : ∃ op, opAt s k = op := ⟨_, rfl⟩
          rw [hop] at HN ⊢
          obtain ⟨hh1, hh2, hh3, hh4, hh5⟩ := hah
          clear hst hown hot hb1 hop
          go_wp2_with (at_builtin; refine wpList_append_lies _ rfl _ _ 23 rfl w.heap.size 36 i0 (.agg #[.int .i64 0, .int .i64 0, .slice none 0 0]) 3 40 Tryd.underlying23 hi hz0 hz1 hz2 rfl (by decide) _ _ _ rfl ((hown1.alloc _).alloc _) ⟨w1.heap.size + 1, 0, none⟩ 1 1 [.int .i64 op, .int .i64 n, .slice ta t.length tc] rfl rfl (news_at2 w1 _ #[.int .i64 op, .int .i64 n, .slice ta t.length tc] 36) (by simp [Value.oneCell']) (by decide) (by unfold maxLen; omega) (by omega) (by have := hB1.size; simp; omega) (w1.heap.size + 1 + 1) (by simp) ?_)
          intro g cap w2 hown2 hgrow2 hat2 hlt2
          have HP : Hid (_) := HO.out.1.push (x := (op, n, t)) HO.out.2.2 hB.size HO.out.2.1 hown2 hgrow2 hat2
          have HB2 : Hid (Below w.heap.size w w2) := ((hB1.alloc hB1.size _).alloc (by have := hB1.size; simp; omega) _).grown hgrow2 (by have := hB1.size; simp; omega) (fun j hj => (hown1.lt j hj).1)
          clear hown1 hown2 hgrow2 hat2 hlt2
          go_wp2
          go_roundw
          case rel => exact ⟨e2, _, rfl, rfl, ys ++ [(((op, n, t), Value.slice ta t.length tc) : SV)], f', HP.out, HN.out, by have := HRD.out.2; omega, by omega, by simp; omega, HB2.out⟩
          case measure => simp [intOf] <;> omega
      · obtain rfl : k = s.size := by omega
        have HL : Hid (rdL s (s.size + 1) 0 [] = .inr (ys.map (·.1))) := by show _ = _; rw [HRD.out.1]; exact rdL_end hlt
        obtain ⟨va, vc, hva, hrow⟩ := hown.row
        obtain ⟨xs, hxs⟩ : ∃ xs, ys.map (·.1) = xs := ⟨_, rfl⟩
        have hxl : xs.length ≤ 400 := by rw [← hxs]; simp; omega
        rw [hxs] at hva hrow HL
        subst hva
        have HXS : Hid (ys.map (·.1) = xs) := hxs
        have HOW : Hid (OwnS wr w.heap.size (.slice va xs.length vc) ys) := hown
        clear hxs hown
        have hg := fun w h hT => iGoodS_any va vc xs w (by omega) h hT
        cases hgd : goodS xs with
        | false =>
          rw [hgd] at hg
          have HR : Hid (readR s = ([], 3, false)) := readR_no h400 HL.out hgd
          have HG : Hid (∀ w, TRow w va xs → Tab w → Calls Tryd.prog 20 #[.slice va xs.length vc] w fun e w' => e = .returned (.bool false) ∧ Below w.heap.size w w') := hg
          clear hg hgd
          go_wp2_with (go_at_call 20; refine (HG.out _ hrow (HT.out _ hB)).mono ?_; rintro e w1 ⟨rfl, hb1⟩)
          go_ret3
          refine ⟨?_, bstep' hB hb1⟩
          rw [HR.out]
          exact readAns_nil
        | true =>
          rw [hgd] at hg
          have HR : Hid (readR s = (xs, 0, true)) := readR_good h400 HL.out hgd
          have HG : Hid (∀ w, TRow w va xs → Tab w → Calls Tryd.prog 20 #[.slice va xs.length vc] w fun e w' => e = .returned (.bool true) ∧ Below w.heap.size w w') := hg
          clear hg hgd
          go_wp2_with (go_at_call 20; refine (HG.out _ hrow (HT.out _ hB)).mono ?_; rintro e w1 ⟨rfl, hb1⟩)
          go_ret3
          refine ⟨?_, bstep' hB hb1⟩
          rw [HR.out]
          exact ⟨_, ys, rfl, OwnS.below HOW.out hb1, HXS.out⟩
  · rw [readR_long h400]
    clear hT
    go_enter Tryd.func21, Tryd.ntmps21
    go_wp2
    go_ret3
    exact ⟨readAns_nil, Below.refl _ _⟩
end Go.Proofs.YtkdabjdobpdooaaDoor
