/- Plain facts on running valid code: where a way out goes on, what one step makes of a machine, and that it goes on as it must. -/
import Derived.Test.YthkkhinmdlmhkaaDoorRunMath
namespace Go.Proofs.YthkkhinmdlmhkaaDoor
set_option linter.unusedVariables false
set_option linter.unusedSimpArgs false

/-- where a way out goes on: a place, its height is where what is left begins, and it is come to -/
theorem Vld.target {xs : List Stp} {e d hs : List Int} {rs : List Bool} (v : Vld xs e d hs rs) {k : Nat} (hk : k < xs.length) {o : List Frm} {h : Int} (t : Tr xs k o h false) {n : Nat} (hd : d[k]? = some (n : Int)) (dep : Nat) (hdep : dep ≤ n) :
    ∃ (q : Nat) (b : Int), specT xs e k k dep = (q : Int) ∧ q ≤ xs.length ∧ hs[q]? = some b ∧ 0 ≤ b ∧ b ≤ (inn o).1 ∧ (q < xs.length → rs[q]? = some true) := by
  obtain ⟨sp, g0, gk, g1, g2, g3⟩ := openAt v.nest k hk
  obtain ⟨m, G, hm⟩ := v.good k (by omega) t
  have hn : n = sp.length := by rw [hd] at g0; have := Option.some.inj g0; omega
  subst hn
  have hs' := specT_open gk g2 g3 (by omega) k sp.length (by omega) (by omega) (fun i s hi => by
    have := (List.getElem?_eq_some_iff.1 hi).1
    have := (gk.2 s (List.mem_of_getElem? hi)).1
    omega) dep
  have hbase := G.ok.base
  rcases Nat.lt_or_ge dep sp.length with hlt | hge
  · obtain ⟨s, hsi⟩ : ∃ s, sp[sp.length - 1 - dep]? = some s := ⟨_, List.getElem?_eq_getElem (by omega)⟩
    obtain ⟨⟨y, hy, hop⟩, w, hw, hwk⟩ := g2 s (List.mem_of_getElem? hsi)
    obtain ⟨k1, k2⟩ := g1 _ s hsi
    have hsk := (gk.2 s (List.mem_of_getElem? hsi)).1
    obtain ⟨os, hh, fs, ts, _⟩ := v.at s.2.1 (by omega)
    obtain ⟨p, b, f1, f2, f3, f4, f5, f6, f7, f8, f9, f10⟩ := v.frame hy hop ts
    have hpk : k ≤ p := by rw [hw] at f1; have := Option.some.inj f1; omega
    have hpre := f9 k hsk hpk _ _ _ t
    have hmem : (b, fs) ∈ o := by
      have : (b, fs) ∈ o.take (os.length + 1) := by rw [hpre]; simp
      exact List.mem_of_mem_take this
    have hall := pair_inn G.mono G.ok.pos (G.live rfl)
    have hfs : fs = false := hall _ hmem
    subst hfs
    have hb0 := (G.ok.bases _ hmem).1
    have hbi : b ≤ (inn o).1 := by
      have hsp := inn_split G.ok.pos
      have hr := G.ok.rise
      rw [hsp] at hr hmem
      rcases List.mem_append.1 hmem with hmem | hmem
      · exact (List.pairwise_append.1 hr).2.2 _ hmem (inn o) (by simp)
      · simp only [List.mem_singleton] at hmem
        rw [← hmem]; exact Int.le_refl _
    have ha := hs'.1 s hlt hsi
    rw [ha]
    unfold ansT
    rw [hy]
    simp only [Option.getD_some]
    by_cases h16 : y.1 = 16
    · rw [if_pos h16]
      obtain ⟨o3, h3, d3, t3, q3, q4, _⟩ := v.at (s.2.1 + 1) (by omega)
      obtain ⟨_, rfl, rfl⟩ := t3.one f7
      exact ⟨s.2.1 + 1, _, by simp, by omega, q3, hb0, hbi, fun hq => q4 hq⟩
    · rw [if_neg h16, f1]
      obtain ⟨o3, h3, d3, t3, q3, q4, _⟩ := v.at (p + 1) (by omega)
      obtain ⟨_, rfl, rfl⟩ := t3.one f8
      exact ⟨p + 1, _, by simp, by omega, q3, hb0, hbi, fun hq => q4 hq⟩
  · obtain ⟨o3, h3, d3, t3, q3, q4, q5⟩ := v.at xs.length (Nat.le_refl _)
    have hlen : o3.length = 1 := by
      obtain ⟨m', G', _⟩ := v.good xs.length (Nat.le_refl _) t3
      have hr := nestO_run v.nest
      obtain ⟨x, hx⟩ : ∃ x, xs[xs.length - 1]? = some x := ⟨_, List.getElem?_eq_getElem (by omega)⟩
      obtain ⟨oL, hL, dL, tL, _⟩ := v.at (xs.length - 1) (by omega)
      obtain ⟨mL, GL, hmL⟩ := v.good (xs.length - 1) (by omega) tL
      obtain ⟨mm, m1, m2, m3⟩ := depth_step v.nest hx
      rw [hmL (by omega)] at m1
      obtain rfl : mL = mm := by have := Option.some.inj m1; omega
      have tn : Tr xs (xs.length - 1 + 1) o3 h3 d3 := by rw [Nat.sub_add_cancel (by omega)]; exact t3
      have hgs := vgood_step GL m2 (tL.step hx tn)
      rw [hgs.len]
      have hsp : xs = xs.take (xs.length - 1) ++ [x] := by
        have h1 := List.take_append_drop (xs.length - 1) xs
        have h2 := List.drop_eq_getElem_cons (l := xs) (i := xs.length - 1) (by omega)
        have h3 : xs.drop (xs.length - 1 + 1) = [] := List.drop_of_length_le (by omega)
        rw [(List.getElem?_eq_some_iff.1 hx).2, h3] at h2
        rw [h2] at h1
        exact h1.symm
      rw [hsp] at hr
      obtain ⟨o1, e1, d1, r1, r2⟩ := runN_append hr
      cases hst : stp x o1 e1 with
      | none => rw [runN_snoc_none hst] at r2; cases r2
      | some p =>
        obtain ⟨o2, e2⟩ := p
        rw [runN_snoc_some hst] at r2
        simp [runN] at r2
        obtain ⟨rfl, _, rfl⟩ := r2
        have hdp := stp_depth hst
        have l1 := (runN_length r1).2
        have hdd : (d1 ++ [(o1.length : Int)])[xs.length - 1]? = some (o1.length : Int) := by
          have lk : d1.length = xs.length - 1 := by simp at l1; omega
          rw [List.getElem?_append_right (by omega), lk]; simp
        have := hmL (by omega)
        rw [hdd] at this
        have := Option.some.inj this
        simp only [List.length_nil] at hdp
        unfold depO
        split at hdp
        · rename_i h; rw [if_pos h]; omega
        · rename_i h
          rw [if_neg h]
          split at hdp
          · rename_i h'; rw [if_pos h']; omega
          · rename_i h'; rw [if_neg h']; omega
    obtain ⟨m', G', _⟩ := v.good xs.length (Nat.le_refl _) t3
    have hf := G'.ok.first
    have hinn : inn o3 = (0, false) := by
      have := inn_at G'.ok.pos
      rw [hlen] at this
      rw [show (1 - 1 : Nat) = 0 from rfl, hf] at this
      exact (Option.some.inj this).symm
    have h30 : h3 = 0 := by rw [q5 rfl, hinn]
    subst h30
    exact ⟨xs.length, 0, hs'.2 hge, Nat.le_refl _, q3, Int.le_refl _, hbase.1, fun hq => by omega⟩

/-- a machine: the place, the stack, the locals, the memory, what is told -/
structure Cf where
  pc : Nat
  st : List Int
  L : List Int
  M : List Int
  T : List Int
def top (l : List Int) : Int := l.getLast?.getD 0
/-- where a WIf goes on at 0: one behind this -/
def othN (e : List Int) (p : Int) : Nat → Nat → Nat
  | 0, j => j
  | f + 1, j => if e[j]?.getD 0 = p then j else othN e p f (j + 1)
def oth (e : List Int) (k : Nat) : Nat := othN e (e[k]?.getD 0) ((e[k]?.getD 0).toNat - (k + 1)) (k + 1)
/-- the way out -/
def leave (xs : List Stp) (e hs : List Int) (c : Cf) (st : List Int) (dep : Int) : Cf :=
  { c with pc := (specT xs e c.pc c.pc dep.toNat).toNat, st := st.take (hs[(specT xs e c.pc c.pc dep.toNat).toNat]?.getD 0).toNat }
/-- what one step makes of a machine; nothing, where it traps -/
def eff (xs : List Stp) (e hs : List Int) (c : Cf) (x : Stp) : Option Cf :=
  if x.1 = 1 then some { c with pc := c.pc + 1, st := c.st ++ [x.2.1] }
  else if x.1 = 2 then some { c with pc := c.pc + 1, st := c.st ++ [c.L[x.2.1.toNat]?.getD 0] }
  else if x.1 = 3 then some { c with pc := c.pc + 1, st := c.st.dropLast, L := c.L.set x.2.1.toNat (top c.st) }
  else if 4 ≤ x.1 ∧ x.1 ≤ 9 then (if doB x.1 (top c.st) = true then some { c with pc := c.pc + 1, st := c.st.dropLast.dropLast ++ [doN x.1 (top c.st.dropLast) (top c.st)] } else none)
  else if x.1 = 10 then (if top c.st < 16 then some { c with pc := c.pc + 1, st := c.st.dropLast ++ [c.M[(top c.st).toNat]?.getD 0] } else none)
  else if x.1 = 11 then (if top c.st.dropLast < 16 then some { c with pc := c.pc + 1, st := c.st.dropLast.dropLast, M := c.M.set (top c.st.dropLast).toNat (top c.st) } else none)
  else if x.1 = 12 then (if c.T.length < 100 then some { c with pc := c.pc + 1, st := c.st.dropLast, T := c.T ++ [top c.st] } else none)
  else if x.1 = 13 then some { c with pc := c.pc + 1, st := c.st.dropLast }
  else if x.1 = 14 then none
  else if x.1 = 17 then some { c with pc := (if top c.st = 0 then oth e c.pc + 1 else c.pc + 1), st := c.st.dropLast }
  else if x.1 = 18 then some { c with pc := (e[c.pc]?.getD 0).toNat + 1 }
  else if x.1 = 20 then some (leave xs e hs c c.st x.2.1)
  else if x.1 = 21 then some (if top c.st = 0 then { c with pc := c.pc + 1, st := c.st.dropLast } else leave xs e hs c c.st.dropLast x.2.1)
  else if x.1 = 22 then some (leave xs e hs c c.st.dropLast (if top c.st < x.2.2.length then x.2.2[(top c.st).toNat]?.getD 0 else x.2.1))
  else some { c with pc := c.pc + 1 }

theorem eff_1 (xs : List Stp) (e hs : List Int) (c : Cf) (x : Stp) (h : x.1 = 1) : eff xs e hs c x = some { c with pc := c.pc + 1, st := c.st ++ [x.2.1] } := by unfold eff; rw [if_pos h]
theorem eff_2 (xs : List Stp) (e hs : List Int) (c : Cf) (x : Stp) (h : x.1 = 2) : eff xs e hs c x = some { c with pc := c.pc + 1, st := c.st ++ [c.L[x.2.1.toNat]?.getD 0] } := by unfold eff; rw [if_neg (by omega), if_pos h]
theorem eff_3 (xs : List Stp) (e hs : List Int) (c : Cf) (x : Stp) (h : x.1 = 3) : eff xs e hs c x = some { c with pc := c.pc + 1, st := c.st.dropLast, L := c.L.set x.2.1.toNat (top c.st) } := by unfold eff; rw [if_neg (by omega), if_neg (by omega), if_pos h]
theorem eff_w (xs : List Stp) (e hs : List Int) (c : Cf) (x : Stp) (h : 4 ≤ x.1 ∧ x.1 ≤ 9) : eff xs e hs c x = (if doB x.1 (top c.st) = true then some { c with pc := c.pc + 1, st := c.st.dropLast.dropLast ++ [doN x.1 (top c.st.dropLast) (top c.st)] } else none) := by unfold eff; rw [if_neg (by omega), if_neg (by omega), if_neg (by omega), if_pos h]
theorem eff_10 (xs : List Stp) (e hs : List Int) (c : Cf) (x : Stp) (h : x.1 = 10) : eff xs e hs c x = (if top c.st < 16 then some { c with pc := c.pc + 1, st := c.st.dropLast ++ [c.M[(top c.st).toNat]?.getD 0] } else none) := by unfold eff; rw [if_neg (by omega), if_neg (by omega), if_neg (by omega), if_neg (by omega), if_pos h]
theorem eff_11 (xs : List Stp) (e hs : List Int) (c : Cf) (x : Stp) (h : x.1 = 11) : eff xs e hs c x = (if top c.st.dropLast < 16 then some { c with pc := c.pc + 1, st := c.st.dropLast.dropLast, M := c.M.set (top c.st.dropLast).toNat (top c.st) } else none) := by unfold eff; rw [if_neg (by omega), if_neg (by omega), if_neg (by omega), if_neg (by omega), if_neg (by omega), if_pos h]
theorem eff_12 (xs : List Stp) (e hs : List Int) (c : Cf) (x : Stp) (h : x.1 = 12) : eff xs e hs c x = (if c.T.length < 100 then some { c with pc := c.pc + 1, st := c.st.dropLast, T := c.T ++ [top c.st] } else none) := by unfold eff; rw [if_neg (by omega), if_neg (by omega), if_neg (by omega), if_neg (by omega), if_neg (by omega), if_neg (by omega), if_pos h]
theorem eff_13 (xs : List Stp) (e hs : List Int) (c : Cf) (x : Stp) (h : x.1 = 13) : eff xs e hs c x = some { c with pc := c.pc + 1, st := c.st.dropLast } := by unfold eff; rw [if_neg (by omega), if_neg (by omega), if_neg (by omega), if_neg (by omega), if_neg (by omega), if_neg (by omega), if_neg (by omega), if_pos h]
theorem eff_14 (xs : List Stp) (e hs : List Int) (c : Cf) (x : Stp) (h : x.1 = 14) : eff xs e hs c x = none := by unfold eff; rw [if_neg (by omega), if_neg (by omega), if_neg (by omega), if_neg (by omega), if_neg (by omega), if_neg (by omega), if_neg (by omega), if_neg (by omega), if_pos h]
theorem eff_17 (xs : List Stp) (e hs : List Int) (c : Cf) (x : Stp) (h : x.1 = 17) : eff xs e hs c x = some { c with pc := (if top c.st = 0 then oth e c.pc + 1 else c.pc + 1), st := c.st.dropLast } := by unfold eff; rw [if_neg (by omega), if_neg (by omega), if_neg (by omega), if_neg (by omega), if_neg (by omega), if_neg (by omega), if_neg (by omega), if_neg (by omega), if_neg (by omega), if_pos h]
theorem eff_18 (xs : List Stp) (e hs : List Int) (c : Cf) (x : Stp) (h : x.1 = 18) : eff xs e hs c x = some { c with pc := (e[c.pc]?.getD 0).toNat + 1 } := by unfold eff; rw [if_neg (by omega), if_neg (by omega), if_neg (by omega), if_neg (by omega), if_neg (by omega), if_neg (by omega), if_neg (by omega), if_neg (by omega), if_neg (by omega), if_neg (by omega), if_pos h]
theorem eff_20 (xs : List Stp) (e hs : List Int) (c : Cf) (x : Stp) (h : x.1 = 20) : eff xs e hs c x = some (leave xs e hs c c.st x.2.1) := by unfold eff; rw [if_neg (by omega), if_neg (by omega), if_neg (by omega), if_neg (by omega), if_neg (by omega), if_neg (by omega), if_neg (by omega), if_neg (by omega), if_neg (by omega), if_neg (by omega), if_neg (by omega), if_pos h]
theorem eff_21 (xs : List Stp) (e hs : List Int) (c : Cf) (x : Stp) (h : x.1 = 21) : eff xs e hs c x = some (if top c.st = 0 then { c with pc := c.pc + 1, st := c.st.dropLast } else leave xs e hs c c.st.dropLast x.2.1) := by unfold eff; rw [if_neg (by omega), if_neg (by omega), if_neg (by omega), if_neg (by omega), if_neg (by omega), if_neg (by omega), if_neg (by omega), if_neg (by omega), if_neg (by omega), if_neg (by omega), if_neg (by omega), if_neg (by omega), if_pos h]
theorem eff_22 (xs : List Stp) (e hs : List Int) (c : Cf) (x : Stp) (h : x.1 = 22) : eff xs e hs c x = some (leave xs e hs c c.st.dropLast (if top c.st < x.2.2.length then x.2.2[(top c.st).toNat]?.getD 0 else x.2.1)) := by unfold eff; rw [if_neg (by omega), if_neg (by omega), if_neg (by omega), if_neg (by omega), if_neg (by omega), if_neg (by omega), if_neg (by omega), if_neg (by omega), if_neg (by omega), if_neg (by omega), if_neg (by omega), if_neg (by omega), if_neg (by omega), if_pos h]
theorem eff_n (xs : List Stp) (e hs : List Int) (c : Cf) (x : Stp) (h : x.1 = 15 ∨ x.1 = 16 ∨ x.1 = 19) : eff xs e hs c x = some { c with pc := c.pc + 1 } := by unfold eff; rw [if_neg (by omega), if_neg (by omega), if_neg (by omega), if_neg (by omega), if_neg (by omega), if_neg (by omega), if_neg (by omega), if_neg (by omega), if_neg (by omega), if_neg (by omega), if_neg (by omega), if_neg (by omega), if_neg (by omega), if_neg (by omega)]

/-- all are words -/
def wds (l : List Int) : Prop := ∀ v ∈ l, 0 ≤ v ∧ v ≤ 65535
/-- a machine that stands as it must -/
structure Okc (xs : List Stp) (hs : List Int) (rs : List Bool) (c : Cf) : Prop where
  pc : c.pc ≤ xs.length
  ht : hs[c.pc]? = some (c.st.length : Int)
  live : c.pc < xs.length → rs[c.pc]? = some true
  st : wds c.st
  L8 : c.L.length = 8
  M16 : c.M.length = 16
  T100 : c.T.length ≤ 100
  L : wds c.L
  M : wds c.M
  T : wds c.T
theorem wds_drop {l : List Int} (h : wds l) : wds l.dropLast := fun v hv => h v ((List.dropLast_sublist _).mem hv)
theorem wds_snoc {l : List Int} {v : Int} (h : wds l) (hv : 0 ≤ v ∧ v ≤ 65535) : wds (l ++ [v]) := fun u hu => by
  rcases List.mem_append.1 hu with hu | hu
  · exact h u hu
  · simp at hu; subst hu; exact hv
theorem wds_set {l : List Int} {v : Int} {i : Nat} (h : wds l) (hv : 0 ≤ v ∧ v ≤ 65535) : wds (l.set i v) := fun u hu => by
  rcases List.mem_or_eq_of_mem_set hu with hu | hu
  · exact h u hu
  · subst hu; exact hv
theorem wds_take {l : List Int} {n : Nat} (h : wds l) : wds (l.take n) := fun v hv => h v (List.mem_of_mem_take hv)
theorem top_word {l : List Int} (h : wds l) : 0 ≤ top l ∧ top l ≤ 65535 := by
  unfold top
  cases hl : l.getLast? with
  | none => simp
  | some v => exact h v (List.mem_of_getLast? hl)
theorem at_word {l : List Int} {i : Nat} (h : wds l) : 0 ≤ l[i]?.getD 0 ∧ l[i]?.getD 0 ≤ 65535 := by
  cases hl : l[i]? with
  | none => simp
  | some v => exact h v (List.mem_of_getElem? hl)

theorem doN_range {op a b : Int} (ha : 0 ≤ a ∧ a ≤ 65535) (hb : 0 ≤ b ∧ b ≤ 65535) : 0 ≤ doN op a b ∧ doN op a b ≤ 65535 := by
  unfold doN
  have hbit : ∀ x, 0 ≤ bit x ∧ bit x ≤ 65535 := fun x => by cases x <;> simp [bit]
  split
  · omega
  · split
    · omega
    · split
      · omega
      · split
        · split
          · omega
          · refine ⟨Int.ediv_nonneg ha.1 hb.1, ?_⟩
            have := Int.ediv_le_self b ha.1
            omega
        · split
          · exact hbit _
          · exact hbit _

/-- the walk at the place of a machine that stands as it must -/
theorem Okc.tr {xs : List Stp} {e d hs : List Int} {rs : List Bool} (v : Vld xs e d hs rs) {c : Cf} (k : Okc xs hs rs c) {x : Stp} (hx : xs[c.pc]? = some x) :
    ∃ o o' h' d' n, Tr xs c.pc o c.st.length false ∧ Good o c.st.length false n ∧ d[c.pc]? = some (n : Int) ∧ Tr xs (c.pc + 1) o' h' d' ∧ vlead x.1 o ((c.st.length : Int) - offN x.1 + onN x.1) false = .go o' h' d' ∧ (inn o).1 ≤ (c.st.length : Int) - offN x.1 ∧ 0 ≤ (inn o).1 := by
  have hk := (List.getElem?_eq_some_iff.1 hx).1
  obtain ⟨o, h, f, t, q1, q2, q3⟩ := v.at c.pc (by omega)
  rw [k.ht] at q1
  obtain rfl := (Option.some.inj q1).symm
  have := q2 hk
  rw [k.live hk] at this
  obtain rfl : f = false := by simpa using this
  obtain ⟨n, G, hn⟩ := v.good c.pc (by omega) t
  obtain ⟨o', h', d', t', _⟩ := v.at (c.pc + 1) (by omega)
  have hst := t.step hx t'
  unfold vstp at hst
  have hb := G.ok.base
  split at hst
  · cases hst
  · rename_i h1
    have hge : (inn o).1 ≤ (c.st.length : Int) - offN x.1 := by simpa using h1
    have htk : takeH x.1 o c.st.length = (c.st.length : Int) - offN x.1 := by unfold takeH; rw [if_neg (by omega)]
    rw [htk] at hst
    split at hst
    · cases hst
    · exact ⟨o, o', h', d', n, t, G, hn hk, t', hst, hge, hb.1⟩
/-- there are as many words as a step takes -/
theorem Okc.need {xs : List Stp} {e d hs : List Int} {rs : List Bool} (v : Vld xs e d hs rs) {c : Cf} (k : Okc xs hs rs c) {x : Stp} (hx : xs[c.pc]? = some x) : offN x.1 ≤ (c.st.length : Int) := by
  obtain ⟨o, o', h', d', n, _, _, _, _, _, h1, h2⟩ := k.tr v hx
  omega
/-- what comes behind a step that goes on at the next place -/
theorem Okc.next {xs : List Stp} {e d hs : List Int} {rs : List Bool} (v : Vld xs e d hs rs) {c : Cf} (k : Okc xs hs rs c) {x : Stp} (hx : xs[c.pc]? = some x) (hop : x.1 ≠ 14 ∧ x.1 ≠ 20 ∧ x.1 ≠ 22 ∧ x.1 ≠ 18) : hs[c.pc + 1]? = some ((c.st.length : Int) - offN x.1 + onN x.1) ∧ (c.pc + 1 < xs.length → rs[c.pc + 1]? = some true) := by
  have hk := (List.getElem?_eq_some_iff.1 hx).1
  obtain ⟨o, o', h', d', n, t, G, hd, t', hv, h1, h2⟩ := k.tr v hx
  obtain ⟨o3, h3, d3, t3, q3, q4, _⟩ := v.at (c.pc + 1) (by omega)
  obtain ⟨rfl, rfl, rfl⟩ := t3.one t'
  have hin := G.live rfl
  unfold vlead at hv
  rw [if_neg (by omega)] at hv
  split at hv
  · cases hv; exact ⟨q3, fun h => q4 h⟩
  · rw [if_neg hop.2.2.2] at hv
    split at hv
    · split at hv
      · cases hv; rw [hin] at q4; exact ⟨q3, fun h => q4 h⟩
      · cases hv
    · cases hv; exact ⟨q3, fun h => q4 h⟩
theorem dropLast_len {l : List Int} : (l.dropLast.length : Int) = if l.length = 0 then 0 else (l.length : Int) - 1 := by
  rw [List.length_dropLast]; split <;> omega
/-- the depths of a step's ways out -/
theorem within_dep {xs : List Stp} {e d : List Int} (h : nestO xs = some (e, d)) {k : Nat} {x : Stp} (hx : xs[k]? = some x) {n : Nat} (hd : d[k]? = some (n : Int)) : oneS x = true ∧ (20 ≤ x.1 → x.2.1 ≤ n) ∧ ∀ v ∈ x.2.2, v ≤ n := by
  have hk := (List.getElem?_eq_some_iff.1 hx).1
  have hr := nestO_run h
  have hsp : xs = xs.take k ++ x :: xs.drop (k + 1) := by
    have := List.drop_eq_getElem_cons hk
    rw [(List.getElem?_eq_some_iff.1 hx).2] at this
    rw [← this, List.take_append_drop]
  rw [hsp] at hr
  obtain ⟨o1, e1, d1, r1, r2⟩ := runN_append hr
  cases hs : stp x o1 e1 with
  | none => rw [runN_snoc_none hs] at r2; cases r2
  | some p =>
    obtain ⟨o2, e2⟩ := p
    have hdd : d[k]? = some (o1.length : Int) := by
      rw [runN_snoc_some hs] at r2
      have l1 := runN_length r1
      have := runN_depths r2
      rw [this]
      have lk : d1.length = k := by have := l1.2; simp at this; omega
      rw [List.append_assoc, List.getElem?_append_right (by omega), lk]
      simp
    rw [hd] at hdd
    obtain rfl : n = o1.length := by have := Option.some.inj hdd; omega
    unfold stp at hs
    split at hs
    · rename_i hc
      simp only [Bool.and_eq_true] at hc
      refine ⟨hc.1, fun h20 => ?_, fun v hv => ?_⟩
      · have := hc.2
        simp only [withinB, Bool.and_eq_true, Bool.or_eq_true, leB, decide_eq_true_eq] at this
        rcases this.2 with h | h
        · omega
        · exact h
      · have := hc.2
        simp only [withinB, Bool.and_eq_true, List.all_eq_true, leB, decide_eq_true_eq] at this
        exact this.1 v hv
    · cases hs
end Go.Proofs.YthkkhinmdlmhkaaDoor
