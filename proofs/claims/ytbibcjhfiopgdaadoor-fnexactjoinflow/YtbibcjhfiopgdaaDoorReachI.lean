/- The program's way to the blocks that are come to. -/
import Derived.Test.YtbibcjhfiopgdaaDoorReachS
namespace Go.Proofs.YtbibcjhfiopgdaaDoor
open Go.RowKit
set_option linter.unusedVariables false
set_option linter.unusedSimpArgs false
set_option maxRecDepth 100000

def bools (xs : List Bool) : List Value := xs.map Value.bool
theorem info4 : (Tryd.prog.info? 4).map (fun i => (i.zero, i.size, i.bytes)) = some (some (.bool false), 1, 1) := by kernel_rfl
theorem made_bools (n : Nat) : (madeCells #[Value.bool false] n).toList = bools (List.replicate n false) := by
  rw [toList_madeCells_one]
  simp [bools]
def falses : List Bool → Nat
  | [] => 0
  | b :: r => (if b = true then 0 else 1) + falses r
theorem falses_set {sn : List Bool} {y : Nat} (h : sn[y]? = some false) : falses (sn.set y true) + 1 = falses sn := by
  induction sn generalizing y with
  | nil => simp at h
  | cons b r ih =>
    cases y with
    | zero => simp at h; subst h; simp [falses]; omega
    | succ y => simp at h; have := ih h; simp [falses]; omega
theorem falses_rep (n : Nat) : falses (List.replicate n false) = n := by
  induction n with
  | zero => rfl
  | succ n ih => simp [List.replicate_succ, falses, ih]; omega
/-- what is seen, what waits, and what is looked at now -/
structure Dfs (f : List Blk) (sn : List Bool) (wt : List Nat) (now : Option Nat) : Prop where
  len : sn.length = f.length
  z : sn[0]? = some true
  r : ∀ k, sn[k]? = some true → Rch f k
  wr : ∀ k ∈ wt, sn[k]? = some true
  at' : ∀ k, now = some k → sn[k]? = some true
  c : ∀ k, sn[k]? = some true → ¬ k ∈ wt → now ≠ some k → ∀ y, Leads f k y → sn[y]? = some true
theorem Dfs.start {f : List Blk} (h : 1 ≤ f.length) : Dfs f ((List.replicate f.length false).set 0 true) [0] none := by
  have key : ∀ k : Nat, ((List.replicate f.length false).set 0 true)[k]? = some true → k = 0 := by
    intro (k : Nat) hk
    cases k with
    | zero => rfl
    | succ k =>
      rw [List.getElem?_set_ne (by omega)] at hk
      rw [List.getElem?_replicate] at hk
      split at hk <;> simp at hk
  have hz : ((List.replicate f.length false).set 0 true)[0]? = some true := by rw [List.getElem?_set_self (by simp; omega)]
  refine ⟨by simp, hz, ?_, ?_, by simp, ?_⟩
  · intro k hk; rw [key k hk]; exact .start
  · intro k hk; simp at hk; subst hk; exact hz
  · intro k hk hn; rw [key k hk] at hn; simp at hn
theorem Dfs.pop {f : List Blk} {sn : List Bool} {wt : List Nat} {x : Nat} (h : Dfs f sn (wt ++ [x]) none) : Dfs f sn wt (some x) := by
  refine ⟨h.len, h.z, h.r, fun k hk => h.wr k (List.mem_append_left _ hk), fun k hk => by cases hk; exact h.wr x (by simp), ?_⟩
  intro k hk hn hne
  refine h.c k hk ?_ (by simp)
  intro hm
  rcases List.mem_append.1 hm with hm | hm
  · exact hn hm
  · simp at hm; subst hm; exact hne rfl
theorem Dfs.push {f : List Blk} {sn : List Bool} {wt : List Nat} {x y : Nat} (h : Dfs f sn wt (some x)) (hy : sn[y]? = some false) (hl : Leads f x y) : Dfs f (sn.set y true) (wt ++ [y]) (some x) := by
  have hyl : y < sn.length := (List.getElem?_eq_some_iff.1 hy).1
  have mono : ∀ k : Nat, sn[k]? = some true → (sn.set y true)[k]? = some true := by
    intro k hk
    by_cases e : k = y
    · subst e; rw [hy] at hk; cases hk
    · rw [List.getElem?_set_ne (fun h => e h.symm)]; exact hk
  have back : ∀ k : Nat, (sn.set y true)[k]? = some true → k = y ∨ sn[k]? = some true := by
    intro k hk
    by_cases e : k = y
    · exact .inl e
    · rw [List.getElem?_set_ne (fun h => e h.symm)] at hk; exact .inr hk
  refine ⟨by simp [h.len], mono 0 h.z, ?_, ?_, fun k hk => mono k (h.at' k hk), ?_⟩
  · intro k hk
    rcases back k hk with e | hk
    · subst e; exact .step (h.r x (h.at' x rfl)) hl
    · exact h.r k hk
  · intro k hk
    rcases List.mem_append.1 hk with hk | hk
    · exact mono k (h.wr k hk)
    · simp at hk; subst hk; rw [List.getElem?_set_self hyl]
  · intro k hk hn hne z hz
    rcases back k hk with e | hk
    · subst e; exact absurd (by simp) hn
    · exact mono z (h.c k hk (fun hm => hn (List.mem_append_left _ hm)) hne z hz)
theorem Dfs.done {f : List Blk} {sn : List Bool} {wt : List Nat} {x : Nat} {b : Blk} (h : Dfs f sn wt (some x)) (hb : f[x]? = some b) (hall : ∀ (y : Nat), (y : Int) ∈ b.next → sn[y]? = some true) : Dfs f sn wt none := by
  refine ⟨h.len, h.z, h.r, h.wr, by simp, ?_⟩
  intro k hk hn _ y hy
  by_cases e : k = x
  · subst e
    obtain ⟨b', hb', hm⟩ := hy
    rw [hb] at hb'; cases hb'
    exact hall y hm
  · exact h.c k hk hn (fun h => e (Option.some.inj h).symm) y hy
theorem Dfs.all {f : List Blk} {sn : List Bool} (h : Dfs f sn [] none) (k : Nat) : sn[k]? = some true ↔ Rch f k := by
  refine ⟨h.r k, fun hk => ?_⟩
  induction hk with
  | start => exact h.z
  | step hi hl ih => exact h.c _ ih (by simp) (by simp) _ hl
/-- the places of what is true, up to one -/
def trues (sn : List Bool) (j : Nat) : List Nat := (List.range j).filter fun k => sn[k]?.getD false
theorem trues_succ (sn : List Bool) (j : Nat) : trues sn (j + 1) = if sn[j]?.getD false = true then trues sn j ++ [j] else trues sn j := by
  unfold trues
  rw [List.range_succ, List.filter_append]
  split
  · rename_i h; simp [h]
  · rename_i h; simp [h]
theorem trues_len (sn : List Bool) (j : Nat) : (trues sn j).length ≤ j := by
  unfold trues
  have := List.length_filter_le (fun k => sn[k]?.getD false) (List.range j)
  simpa using this
theorem trues_rising (sn : List Bool) (j : Nat) : (trues sn j).Pairwise (· < ·) := by
  unfold trues
  exact List.Pairwise.filter _ List.pairwise_lt_range
theorem trues_mem (sn : List Bool) (k : Nat) : k ∈ trues sn sn.length ↔ sn[k]? = some true := by
  unfold trues
  simp only [List.mem_filter, List.mem_range]
  constructor
  · rintro ⟨h1, h2⟩
    rw [List.getElem?_eq_getElem h1] at h2 ⊢
    simp at h2; rw [h2]
  · intro h
    have h1 := (List.getElem?_eq_some_iff.1 h).1
    exact ⟨h1, by rw [h]; rfl⟩
theorem bools_length (xs : List Bool) : (bools xs).length = xs.length := by simp [bools]
theorem bools_at {xs : List Bool} {k : Nat} {b : Bool} (h : xs[k]? = some b) : (bools xs)[k]? = some (.bool b) := by simp [bools, h]
theorem bools_set (xs : List Bool) (k : Nat) (b : Bool) : (bools xs).set k (.bool b) = bools (xs.set k b) := by simp [bools]
theorem sep2 {w : World} {B : Nat} {r : OR} {e : TypeId} {size n : Nat} {v : Value} {xs : List Value} {l2 : List OR} (h : Sep w B ([r] ++ ⟨e, size, v, n, xs⟩ :: l2)) : w.ownsRow B e size v n xs := h.1 ⟨e, size, v, n, xs⟩ (by simp)
theorem sep1 {w : World} {B : Nat} {e : TypeId} {size n : Nat} {v : Value} {xs : List Value} {l2 : List OR} (h : Sep w B ([⟨e, size, v, n, xs⟩] ++ l2)) : w.ownsRow B e size v n xs := h.1 ⟨e, size, v, n, xs⟩ (by simp)
theorem last_split {wt : List Nat} (h : wt ≠ []) : ∃ r x, wt = r ++ [x] ∧ r.length + 1 = wt.length := ⟨wt.dropLast, wt.getLast h, (List.dropLast_concat_getLast h).symm, by have := List.length_pos_iff.2 h; simp; omega⟩
set_option maxHeartbeats 8000000 in
/-- the program's way -/
theorem iReach_any (a : Option Addr) (c : Nat) (f : List Blk) (w : World) (hg : goodFlow f = true) (h : BRow w a f) :
    Calls Tryd.prog 56 #[.slice a f.length c] w fun e w' => ∃ va vc l, e = .returned (.slice va l.length vc) ∧ IsRch f l ∧ w'.ownsRow w.heap.size 3 1 (.slice va l.length vc) l.length (ints (nats l)) ∧ Below w.heap.size w w' := by
  have hf64 := flow_pos hg
  have HG := hid hg
  obtain ⟨b, off, rfl, hbw, hat⟩ := h.at (by intro e; subst e; simp at hf64)
  have HA := hid hat
  clear hat h hg
  obtain ⟨i0, hi0, hz0, hz1, hz2⟩ := info_parts info4
  go_enter Tryd.func56, Tryd.ntmps56
  go_wp2_with (at_make; refine wpList_make_full _ rfl _ _ 104 rfl w.heap.size 4 i0 (.bool false) 1 Tryd.underlying104 hi0 hz0 hz1 .i64 .i64 _ _ f.length rfl rfl rfl rfl ?c1 ?c2 ?c3 ?_)
  case c1 => rw [hz2]; omega
  case c2 => unfold maxLen; omega
  case c3 => omega
  intro w1 hown0 hgrow0
  rw [made_bools] at hown0
  have hB0 : Below w.heap.size w w1 := (Below.refl _ w).grown hgrow0 (Nat.le_refl _) (fun k hk => by cases hk)
  have s0 : w1.cell? ⟨w.heap.size, 0, none⟩ = some (.bool false) := by
    refine rowT_at hown0 rfl ?_
    refine bools_at ?_
    rw [List.getElem?_replicate, if_pos (by omega)]
  have f0 := hown0.frozenAt 0
  have hst := hown0.stored 0 (.bool true)
  rw [bools_set] at hst
  have HB1 := hid (hB0.setCell (p := ⟨w.heap.size, 0, none⟩) (Nat.le_refl _) (.bool true))
  have HO1 := hid hst.1
  have hlt1 : w.heap.size < w1.heap.size := (hown0.lt _ rfl).2
  clear hst hown0 hgrow0 hB0
  have HS0 : Hid (Sep ((w1.setCell ⟨w.heap.size, 0, none⟩ (.bool true)).alloc (.cells #[.int .i64 0] 3)) w.heap.size ([⟨4, 1, .slice (some ⟨w.heap.size, 0, none⟩) f.length f.length, f.length, bools ((List.replicate f.length false).set 0 true)⟩] ++ ⟨3, 1, .slice (some ⟨w1.heap.size, 0, none⟩) 1 1, 1, ints (nats [0])⟩ :: [])) := by
    have hw : (w1.setCell ⟨w.heap.size, 0, none⟩ (.bool true)).heap.size = w1.heap.size := by simp
    refine Sep.append (sep_one HO1.out) (below1 _ _) HB1.out.size (sep_one ⟨rfl, .inr ⟨w1.heap.size, 1, #[.int .i64 0], rfl, by rw [hw]; exact Nat.le_refl _, ?_, Nat.le_refl _, by unfold maxLen; omega, rfl, rfl⟩⟩)
    have := heap_alloc_new (w1.setCell ⟨w.heap.size, 0, none⟩ (.bool true)) (.cells #[.int .i64 0] 3)
    rw [hw] at this
    exact this
  have HBA := hid (bstep' HB1.out (below1 _ (.cells #[.int .i64 0] 3)))
  clear HB1 HO1
  go_wp2
  go_loopg [4] (f.length + 1) (fun gk t4 wr => ∃ (sn : List Bool) (wt : List Nat) (v : Value), v = t4 ∧ falses sn + wt.length ≤ gk ∧ falses sn + wt.length ≤ f.length ∧ Dfs f sn wt none ∧ Sep wr w.heap.size ([⟨4, 1, .slice (some ⟨w.heap.size, 0, none⟩) f.length f.length, f.length, bools sn⟩] ++ ⟨3, 1, v, wt.length, ints (nats wt)⟩ :: []) ∧ Below w.heap.size w wr)
  case atStart =>
    have := falses_set (sn := List.replicate f.length false) (y := 0) (by rw [List.getElem?_replicate, if_pos (by omega)])
    rw [falses_rep] at this
    exact ⟨_, [0], _, rfl, by simp; omega, by simp; omega, Dfs.start hf64.1, HS0.out, HBA.out⟩
  case round =>
    obtain ⟨sn, wt, v, rfl, hgk, hgf, hdfs, hsep, hB⟩ := hrel
    have HDF := hid hdfs
    have HSEP := hid hsep
    obtain ⟨wn, hwn⟩ : ∃ n, wt.length = n := ⟨_, rfl⟩
    have hrow := sep2 hsep
    rw [hwn] at hrow
    obtain ⟨wa, wc, rfl⟩ := slice_of_owned hrow
    clear hdfs hsep HS0 HBA f0 s0 hrow
    by_cases hwt : wt = []
    · subst hwt
      simp only [List.length_nil] at hwn
      subst hwn
      have HALL := hid HDF.out.all
      have HLEN := hid HDF.out.len
      have HOS := hid (sep1 HSEP.out)
      clear HSEP HDF
      go_wp2
      go_loopw [9, 56] (fun t9 t56 wi => ∃ (j : Nat) (v : Value), v = t9 ∧ t56 = .int .i64 j ∧ j ≤ f.length ∧ Sep wi w.heap.size ([⟨4, 1, .slice (some ⟨w.heap.size, 0, none⟩) f.length f.length, f.length, bools sn⟩] ++ ⟨3, 1, v, (trues sn j).length, ints (nats (trues sn j))⟩ :: []) ∧ Below w.heap.size w wi) (fun _ t56 _ => f.length - (intOf t56).toNat)
      case atStart =>
        refine ⟨0, _, rfl, rfl, by omega, ?_, hB⟩
        refine Sep.append (sep_one HOS.out) (Below.refl _ _) hB.size (sep_one (World.ownsRow_nil _ _ _ _))
      case round =>
        obtain ⟨j, v, rfl, rfl, hj, hsep, hB'⟩ := hrel
        have HSJ := hid hsep
        have htl := trues_len sn j
        obtain ⟨oa, oc, rfl⟩ := slice_of_owned (sep2 hsep)
        by_cases hjl : j < f.length
        · obtain ⟨bj, hbj⟩ : ∃ bj, sn[j]? = some bj := ⟨_, List.getElem?_eq_getElem (by rw [HLEN.out]; exact hjl)⟩
          have c1 : wr.cell? ⟨w.heap.size, j, none⟩ = some (.bool bj) := rowT_at (sep1 hsep) rfl (bools_at hbj)
          have HTS : Hid (trues sn (j + 1) = if bj = true then trues sn j ++ [j] else trues sn j) := by show _ = _; rw [trues_succ, hbj]; rfl
          clear hsep hbj
          cases bj with
          | false =>
            have HT2 : Hid (trues sn (j + 1) = trues sn j) := by show _ = _; rw [HTS.out]; rfl
            go_wp2
            go_roundw
            case rel => exact ⟨j + 1, _, rfl, by go_num, by omega, by rw [HT2.out]; exact HSJ.out, hB'⟩
            case measure => simp [intOf]; omega
          | true =>
            have HT2 : Hid (trues sn (j + 1) = trues sn j ++ [j]) := by show _ = _; rw [HTS.out]; rfl
            have HSB := hid (Sep.below HSJ.out (below1 wr (.cells #[.int .i64 (j : Int)] 3)))
            have HN1 := hid (News.one wr (.int .i64 (j : Int)) 3 _ rfl rfl)
            have HB1 := hid (bstep' hB' (below1 wr (.cells #[.int .i64 (j : Int)] 3)))
            go_wp2_with (at_builtin; refine wpList_append_sep eltInt rfl _ _ rfl w.heap.size [⟨4, 1, .slice (some ⟨w.heap.size, 0, none⟩) f.length f.length, f.length, bools sn⟩] HSB.out rfl HN1.out rfl (by omega) HB1.out.size ?_)
            intro va2 vc2 w2 hs2 hb2 hg2
            have HS2 := hid hs2
            have HB2 := hid (HB1.out.trans hb2)
            clear hs2 hb2 hg2 HSB HN1 HB1
            go_wp2
            go_roundw
            case rel =>
              refine ⟨j + 1, .slice va2 ((trues sn j).length + 1) vc2, rfl, by go_num, by omega, ?_, HB2.out⟩
              have e1 : ints (nats (trues sn j ++ [j])) = ints (nats (trues sn j)) ++ [.int .i64 (j : Int)] := by simp [ints, nats]
              rw [HT2.out, e1, List.length_append]
              exact HS2.out
            case measure => simp [intOf]; omega
        · obtain rfl : j = f.length := by omega
          have HOL : Hid (World.ownsRow wr w.heap.size 3 1 (.slice oa (trues sn f.length).length oc) (trues sn f.length).length (ints (nats (trues sn f.length)))) := sep2 hsep
          clear hsep
          go_wp2
          go_ret
          refine ⟨oa, oc, trues sn f.length, rfl, ⟨trues_rising _ _, fun k => ?_⟩, HOL.out, hB'⟩
          rw [← HLEN.out, trues_mem]
          exact HALL.out k
    · obtain ⟨rs, x, rfl, hrl⟩ := last_split hwt
      obtain rfl : wn = rs.length + 1 := by omega
      obtain ⟨wg, rfl⟩ : ∃ g, wa = some ⟨g, 0, none⟩ := by
        rcases (sep2 HSEP.out).2 with ⟨h0, h1⟩ | ⟨g, cap, cur, he, _⟩
        · simp at h1
        · injection he with e1 _ _; exact ⟨g, e1⟩
      have c1 : wr.cell? ⟨wg, rs.length, none⟩ = some (.int .i64 (x : Int)) := rowT_at (sep2 HSEP.out) rfl (by simp [ints, nats])
      have hrc : rs.length ≤ wc := by
        rcases (sep2 HSEP.out).2 with ⟨h0, h1⟩ | ⟨g, cap, cur, he, _, _, hle, _⟩
        · simp at h1
        · injection he with _ _ e3; subst e3; simp at hle; omega
      have HSC : Hid (Sep wr w.heap.size ([⟨4, 1, .slice (some ⟨w.heap.size, 0, none⟩) f.length f.length, f.length, bools sn⟩] ++ ⟨3, 1, .slice (some ⟨wg, 0, none⟩) rs.length wc, rs.length, ints (nats rs)⟩ :: [])) := by
        have hse := HSEP.out
        rw [show (rs ++ [x]).length = rs.length + 1 by simp] at hse
        have := Sep.cut [⟨4, 1, .slice (some ⟨w.heap.size, 0, none⟩) f.length f.length, f.length, bools sn⟩] hse (m := rs.length) (by simp)
        have e2 : (ints (nats (rs ++ [x]))).take (rs.length * 1) = ints (nats rs) := by simp [ints, nats]
        rw [e2] at this
        exact this
      have HDP := hid HDF.out.pop
      have hxr : sn[x]? = some true := HDF.out.wr x (by simp)
      have hxf : x < f.length := (HDF.out.r x hxr).lt HG.out
      obtain ⟨cs, go, test, ns, ca, cc, na, nc, d0, d1, d2, d3, l1, l2, HR, HX⟩ := HA.out wr hB x hxf
      have HGK : Hid (falses sn + rs.length + 1 ≤ gk ∧ falses sn + rs.length ≤ f.length) := by show _ ∧ _; omega
      have hrs : rs.length ≤ 1000 := by omega
      have hnx : ns.length ≤ 9223372036854775807 := l2
      clear hwt HDF HSEP hxr d0 d1 d2 hgk hgf hrl hwn l2
      go_wp2
      go_loopw [4, 37] (fun t4 t37 wi => ∃ (sn' : List Bool) (wt' : List Nat) (j : Nat), t37 = .int .i64 j ∧ j ≤ ns.length ∧ falses sn' + wt'.length + 1 ≤ gk ∧ falses sn' + wt'.length ≤ f.length ∧ Dfs f sn' wt' (some x) ∧ (∀ (q : Nat) (y : Nat), q < j → ns[q]? = some (y : Int) → sn'[y]? = some true) ∧ Sep wi w.heap.size ([⟨4, 1, .slice (some ⟨w.heap.size, 0, none⟩) f.length f.length, f.length, bools sn'⟩] ++ ⟨3, 1, t4, wt'.length, ints (nats wt')⟩ :: []) ∧ Below w.heap.size w wi) (fun _ t37 _ => ns.length - (intOf t37).toNat)
      case atStart => exact ⟨sn, rs, 0, rfl, by omega, HGK.out.1, HGK.out.2, HDP.out, by intro q y hq; omega, HSC.out, hB⟩
      case round =>
        obtain ⟨sn', wt', j, rfl, hj, hk1, hk2, hdf', hq, hsep', hB'⟩ := hrel
        obtain ⟨wa', wc', rfl⟩ := slice_of_owned (sep2 hsep')
        have HD' := hid (And.intro hdf' (And.intro hq (And.intro hk1 hk2)))
        have HS' := hid hsep'
        clear hdf' hq hsep' HDP HSC HGK hk1 c1
        by_cases hjl : j < ns.length
        · obtain ⟨nb, noff, rfl, hnw, nat⟩ := HR.out.2.at (by intro e; subst e; simp at hjl)
          obtain ⟨y, e1, HY⟩ := nat wr hB' j hjl
          obtain ⟨yn, hyn, hyf, hyl⟩ := nat_of_next HG.out HX.out HY.out
          subst hyn
          obtain ⟨by', hby⟩ : ∃ b, sn'[yn]? = some b := ⟨_, List.getElem?_eq_getElem (by rw [HD'.out.1.len]; exact hyf)⟩
          have c2 : wr.cell? ⟨w.heap.size, yn, none⟩ = some (.bool by') := rowT_at (sep1 HS'.out) rfl (bools_at hby)
          have fz := rowT_frz (sep1 HS'.out) rfl yn
          have HYL := hid hyl
          have HYN := hid (And.intro hby HY.out)
          clear nat hyl HY hby
          cases by' with
          | true =>
            go_wp2
            go_roundw
            case rel =>
              refine ⟨sn', wt', j + 1, by go_num, by omega, HD'.out.2.2.1, HD'.out.2.2.2, HD'.out.1, fun q z hq hz => ?_, HS'.out, hB'⟩
              by_cases e : q = j
              · subst e
                rw [HYN.out.2] at hz
                have : yn = z := by have := Option.some.inj hz; omega
                subst this
                exact HYN.out.1
              · exact HD'.out.2.1 q z (by omega) hz
            case measure => simp [intOf]; omega
          | false =>
            have HST := hid (Sep.store [] HS'.out yn (.bool true))
            have HBS := hid (hB'.setCell (p := ⟨w.heap.size, yn, none⟩) (Nat.le_refl _) (.bool true))
            have HSB := hid (Sep.below HST.out (below1 (wr.setCell ⟨w.heap.size, yn, none⟩ (.bool true)) (.cells #[.int .i64 (yn : Int)] 3)))
            have HN1 := hid (News.one (wr.setCell ⟨w.heap.size, yn, none⟩ (.bool true)) (.int .i64 (yn : Int)) 3 wr.heap.size (by simp) rfl)
            have HB1 := hid (bstep' HBS.out (below1 (wr.setCell ⟨w.heap.size, yn, none⟩ (.bool true)) (.cells #[.int .i64 (yn : Int)] 3)))
            have hwl : wt'.length ≤ 100 := by omega
            go_wp2_with (at_builtin; refine wpList_append_sep eltInt rfl _ _ rfl w.heap.size [⟨4, 1, .slice (some ⟨w.heap.size, 0, none⟩) f.length f.length, f.length, (bools sn').set yn (.bool true)⟩] HSB.out rfl HN1.out rfl (by omega) HB1.out.size ?_)
            intro va2 vc2 w2 hs2 hb2 hg2
            have HS2 := hid hs2
            have HB2 := hid (HB1.out.trans hb2)
            clear hs2 hb2 hg2 HSB HN1 HB1 HST HBS
            go_wp2
            go_roundw
            case rel =>
              have hfs := falses_set HYN.out.1
              obtain ⟨k1, k2⟩ := HD'.out.2.2
              refine ⟨sn'.set yn true, wt' ++ [yn], j + 1, by go_num, by omega, by simp; omega, by simp; omega, HD'.out.1.push HYN.out.1 HYL.out, fun q z hq hz => ?_, ?_, HB2.out⟩
              · have hyl2 : yn < sn'.length := by rw [HD'.out.1.len]; exact hyf
                by_cases e : q = j
                · subst e
                  rw [HYN.out.2] at hz
                  have : yn = z := by have := Option.some.inj hz; omega
                  subst this
                  rw [List.getElem?_set_self hyl2]
                · have := HD'.out.2.1 q z (by omega) hz
                  by_cases e2 : z = yn
                  · subst e2; rw [List.getElem?_set_self hyl2]
                  · rw [List.getElem?_set_ne (fun h => e2 h.symm)]; exact this
              · have e1 : ints (nats (wt' ++ [yn])) = ints (nats wt') ++ [.int .i64 (yn : Int)] := by simp [ints, nats]
                rw [e1, ← bools_set, List.length_append]
                exact HS2.out
            case measure => simp [intOf]; omega
        · obtain rfl : j = ns.length := by omega
          have HDN := hid (HD'.out.1.done HX.out (fun y hy => by
            obtain ⟨q, hq, he⟩ := List.mem_iff_getElem.1 hy
            exact HD'.out.2.1 q y hq (by rw [← he]; exact List.getElem?_eq_getElem hq)))
          go_wp2
          go_roundg (gk - 1)
          case measure => have := HD'.out.2.2.1; omega
          case rel => exact ⟨sn', wt', _, rfl, by have := HD'.out.2.2.1; omega, HD'.out.2.2.2, HDN.out, HS'.out, hB'⟩
end Go.Proofs.YtbibcjhfiopgdaaDoor
