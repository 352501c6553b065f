/- What is needed ahead of one flat step, as the program tells it. -/
import Derived.Test.YtiaiaejijicddaaINeed1
import Derived.Test.YtiaiaejijicddaaSNeed
import Derived.Test.YtiaiaejijicddaaSSteps
namespace Go.Proofs.Ytiaiaejijicddaa
open Go Go.RowKit
set_option linter.unusedVariables false
set_option linter.unusedSimpArgs false
set_option maxRecDepth 100000

theorem foldD_rising (l : List Nat) {s : List Nat} (h : s.Pairwise (· < ·)) : (l.foldl dropN s).Pairwise (· < ·) := by
  induction l generalizing s with
  | nil => exact h
  | cons x r ih => exact ih (h.filter _)
theorem foldD_len (l s : List Nat) : (l.foldl dropN s).length ≤ s.length := by
  induction l generalizing s with
  | nil => exact Nat.le_refl _
  | cons x r ih => exact Nat.le_trans (ih _) (List.length_filter_le _ _)
theorem fold_snoc {f : List Nat → Nat → List Nat} {s l : List Nat} {j k : Nat} (h : l[j]? = some k) : (l.take (j + 1)).foldl f s = f ((l.take j).foldl f s) k := by
  rw [List.take_add_one, h, List.foldl_append]; rfl
theorem foldP_len (l s : List Nat) : (l.foldl putL s).length ≤ s.length + l.length := by
  induction l generalizing s with
  | nil => simp
  | cons x r ih =>
    rw [List.foldl_cons]
    have := ih (putL s x)
    have h2 : (putL s x).length ≤ s.length + 1 := by
      by_cases hx : x ∈ s
      · have : (putL s x).length ≤ s.length + 1 := putL_len s x
        omega
      · rw [putL_len' s x hx]; exact Nat.le_refl _
    rw [List.length_cons]; omega
/-- what is needed ahead of a step, of what is needed behind it -/
def aheadF (x : Flt) (s : List Nat) : List Nat := (usesN x).foldl putL ((bornF x).foldl dropN s)
theorem needP_cons (ks : List Nat) (x : Flt) (r : List Flt) : needP ks (x :: r) = aheadF x (needP ks r) := by
  unfold aheadF bornF
  show List.foldl putL _ _ = _
  cases h : setsB x.op with
  | true => rfl
  | false => rfl
theorem setL_self {s : List Nat} (h : s.Pairwise (· < ·)) : setL s = s := rising_unique (setL_rising s) h (setL_mem s)
set_option maxHeartbeats 4000000 in
theorem neededFor_any (x : Flt) (ba : Option Addr) (bc : Nat) (s : List Nat) (w : World) (hg : goodFm 8 x = true) (hs : s.Pairwise (· < ·)) (hl : s.length ≤ 900) (hr : Row w ba (nats s)) :
    Calls Try.prog 49 #[.agg #[.int .i64 x.op, .int .i64 x.d, .int .i64 x.dst, .int .i64 x.a, .int .i64 x.b, .int .i64 x.n], .agg #[.slice ba s.length bc]] w fun e w' => ∃ va vc, e = .returned (.agg #[.slice va (aheadF x s).length vc]) ∧ w'.ownsRow w.heap.size 3 1 (.slice va (aheadF x s).length vc) (aheadF x s).length (ints (nats (aheadF x s))) ∧ Below w.heap.size w w' := by
  obtain ⟨p, d, t, a, b, n⟩ := x
  obtain ⟨dv, hd1, hd3⟩ : ∃ dv, (∀ W, Calls Try.prog 42 #[.agg #[.int .i64 p, .int .i64 d, .int .i64 t, .int .i64 a, .int .i64 b, .int .i64 n]] W fun e w' => e = .returned dv ∧ Below W.heap.size W w') ∧ ∀ W, Calls Try.prog 70 #[dv] W fun e w' => ∃ q, e = .returned (.slice q (useD ⟨p, d, t, a, b, n⟩).length (useD ⟨p, d, t, a, b, n⟩).length) ∧ Row w' q (useD ⟨p, d, t, a, b, n⟩) ∧ Below W.heap.size W w' ∧ ∀ b off, q = some ⟨b, off, none⟩ → W.heap.size ≤ b := ⟨_, fun W => deed_any ⟨p, d, t, a, b, n⟩ W, fun W => usedByB_any ⟨p, d, t, a, b, n⟩ W⟩
  rw [useD_good hg, ← usesN_nats hg, nats_length] at hd3
  have hul : (usesN ⟨p, d, t, a, b, n⟩).length ≤ 2 := by rw [usesN, List.length_map]; exact usesF_len2 _
  have hbl : (bornF ⟨p, d, t, a, b, n⟩).length ≤ 1 := by unfold bornF; split <;> simp
  have hb68 := fun W => bornBy_any ⟨p, d, t, a, b, n⟩ W hg
  have hA : aheadF ⟨p, d, t, a, b, n⟩ s = (usesN ⟨p, d, t, a, b, n⟩).foldl putL ((bornF ⟨p, d, t, a, b, n⟩).foldl dropN s) := rfl
  obtain ⟨U, hU⟩ : ∃ U, usesN ⟨p, d, t, a, b, n⟩ = U := ⟨_, rfl⟩
  obtain ⟨Bn, hBn⟩ : ∃ Bn, bornF ⟨p, d, t, a, b, n⟩ = Bn := ⟨_, rfl⟩
  obtain ⟨A, hAA⟩ : ∃ A, aheadF ⟨p, d, t, a, b, n⟩ s = A := ⟨_, rfl⟩
  rw [hU] at hd3 hul hA
  rw [hBn] at hbl hb68 hA
  rw [hAA] at hA
  rw [hAA]
  have HD1 := hid hd1
  have HD3 := hid hd3
  have H68 := hid hb68
  have HA := hid hA
  have bW := below3 w (.cells #[.int .i64 p, .int .i64 d, .int .i64 t, .int .i64 a, .int .i64 b, .int .i64 n] 49) (.cells #[.slice ba s.length bc] 74) (.cells #[.slice none 0 0] 74)
  have hS0 : Sep (((w.alloc (.cells #[.int .i64 p, .int .i64 d, .int .i64 t, .int .i64 a, .int .i64 b, .int .i64 n] 49)).alloc (.cells #[.slice ba s.length bc] 74)).alloc (.cells #[.slice none 0 0] 74)) w.heap.size [cellOR 74 1 (w.heap.size + 1 + 1) [.slice none 0 0], cellOR 49 6 w.heap.size [.int .i64 p, .int .i64 d, .int .i64 t, .int .i64 a, .int .i64 b, .int .i64 n]] := by
    have h1 := Sep.box (Sep.nil w w.heap.size) (Nat.le_refl _) 49 6 #[.int .i64 p, .int .i64 d, .int .i64 t, .int .i64 a, .int .i64 b, .int .i64 n] rfl
    have h2 := Sep.below h1 (below1 _ (.cells #[.slice ba s.length bc] 74))
    have h3 := Sep.box h2 (by simp; omega) 74 1 #[.slice none 0 0] rfl
    simpa using h3
  have c3 : (((w.alloc (.cells #[.int .i64 p, .int .i64 d, .int .i64 t, .int .i64 a, .int .i64 b, .int .i64 n] 49)).alloc (.cells #[.slice ba s.length bc] 74)).alloc (.cells #[.slice none 0 0] 74)).cell? ⟨w.heap.size + 1, 0, none⟩ = some (.slice ba s.length bc) := by simp [go_sem]
  obtain ⟨W1, hW1⟩ : ∃ W, W = (((w.alloc (.cells #[.int .i64 p, .int .i64 d, .int .i64 t, .int .i64 a, .int .i64 b, .int .i64 n] 49)).alloc (.cells #[.slice ba s.length bc] 74)).alloc (.cells #[.slice none 0 0] 74)) := ⟨_, rfl⟩
  rw [← hW1] at bW hS0 c3
  have HW1 := hid hW1.symm
  have HS0 := hid hS0
  have HB1 := hid bW
  have hLI := list_any ba bc s W1 (by omega) (hr.below bW)
  have hST := fun (la : Option Addr) (lc : Nat) (W : World) (h : Row W la (nats s)) => setOf_any la lc s W (by omega) h
  rw [setL_self hs] at hST
  have HLI := hid hLI
  have HST := hid hST
  have HSR := hid hs
  clear hd1 hd3 hb68 hA hAA hU hBn bW hS0 hW1 hLI hST hr hs hg
  obtain ⟨L2, hL2⟩ : ∃ L2 : List OR, [cellOR 74 1 (w.heap.size + 1 + 1) [.slice none 0 0], cellOR 49 6 w.heap.size [.int .i64 p, .int .i64 d, .int .i64 t, .int .i64 a, .int .i64 b, .int .i64 n]] = L2 := ⟨_, rfl⟩
  rw [hL2] at HS0
  have HL2 := hid hL2
  clear hL2
  go_enter Try.func49, Try.ntmps49
  go_upto_region 1 with fail
  try rw [HW1.out]
  clear HW1
  go_upto_region 2 with (first | (go_at_call 50; refine HLI.out.mono ?_; rintro e w2 ⟨la, lc, rfl, ho2, hb2⟩) | (go_at_call 47; refine (HST.out la lc _ (own_row (by rw [nats_length]; exact ho2))).mono ?_; rintro e w3 ⟨sa, sc, rfl, ho3, hb3⟩))
  have HB3 := hid (bstep' (bstep' HB1.out hb2) hb3)
  have hS3 : Sep w3 w.heap.size (⟨3, 1, .slice sa s.length sc, s.length, ints (nats s)⟩ :: L2) := Sep.add HS0.out (bstep' hb2 hb3) ⟨3, 1, .slice sa s.length sc, s.length, ints (nats s)⟩ (owns_mono ho3 (Nat.le_trans HB1.out.size hb2.size)) (fun k hk => Nat.le_trans hb2.size (ho3.lt k hk).1)
  have hS4 := Sep.box hS3 HB3.out.size 74 1 #[.slice sa s.length sc] rfl
  have HS4 : Hid (Sep (w3.alloc (.cells #[.slice sa s.length sc] 74)) w.heap.size (cellOR 74 1 w3.heap.size [.slice sa s.length sc] :: ⟨3, 1, .slice sa s.length sc, s.length, ints (nats s)⟩ :: L2)) := hS4
  have HB4 := hid (bstep' HB3.out (below1 w3 (.cells #[.slice sa s.length sc] 74)))
  obtain ⟨W4, hW4⟩ : ∃ W, W = w3.alloc (.cells #[.slice sa s.length sc] 74) := ⟨_, rfl⟩
  obtain ⟨b5, hb5⟩ : ∃ b, b = w3.heap.size := ⟨_, rfl⟩
  have h5lt : w.heap.size ≤ b5 := by rw [hb5]; exact HB3.out.size
  have h5W : b5 < W4.heap.size := by rw [hb5, hW4]; simp
  rw [← hW4, ← hb5] at HS4
  rw [← hW4] at HB4
  clear ho2 hb2 ho3 hb3 hS3 hS4 HB3 HLI HST HS0 HB1 c3
  rw [← hW4, ← hb5]
  clear hW4 hb5
  have HCF : Hid (∀ W l, Sep W w.heap.size l → (∀ y ∈ L2, y ∈ l) → W.cell? ⟨w.heap.size, 0, none⟩ = some (.int .i64 p) ∧ W.cell? ⟨w.heap.size, 1, none⟩ = some (.int .i64 d) ∧ W.cell? ⟨w.heap.size, 2, none⟩ = some (.int .i64 t) ∧ W.cell? ⟨w.heap.size, 3, none⟩ = some (.int .i64 a) ∧ W.cell? ⟨w.heap.size, 4, none⟩ = some (.int .i64 b) ∧ W.cell? ⟨w.heap.size, 5, none⟩ = some (.int .i64 n)) := fun W l hS hl => by
    have hm : cellOR 49 6 w.heap.size [.int .i64 p, .int .i64 d, .int .i64 t, .int .i64 a, .int .i64 b, .int .i64 n] ∈ l := hl _ (by rw [← HL2.out]; simp)
    exact ⟨hS.cell hm rfl (j := 0) rfl, hS.cell hm rfl (j := 1) rfl, hS.cell hm rfl (j := 2) rfl, hS.cell hm rfl (j := 3) rfl, hS.cell hm rfl (j := 4) rfl, hS.cell hm rfl (j := 5) rfl⟩
  obtain ⟨f0, f1, f2, f3, f4, f5⟩ := HCF.out W4 _ HS4.out (fun y hy => by simp [hy])
  go_wp2_with (go_at_call 68; refine (H68.out _).mono ?_; rintro e w6 ⟨na, nc, rfl, ho6, hb6⟩)
  have HS6 : Hid (Sep w6 w.heap.size (cellOR 74 1 b5 [.slice sa s.length sc] :: ⟨3, 1, .slice sa s.length sc, s.length, ints (nats s)⟩ :: (L2 ++ [⟨3, 1, .slice na Bn.length nc, Bn.length, ints (nats Bn)⟩]))) := Sep.append HS4.out hb6 HB4.out.size (sep_one ho6)
  have HB6 := hid (bstep' HB4.out hb6)
  have h56 : b5 < w6.heap.size := Nat.lt_of_lt_of_le h5W hb6.size
  clear ho6 hb6 HS4 HB4 f0 f1 f2 f3 f4 f5 H68
  go_wp2
  go_loopw [16] (fun t16 wr => ∃ (m : Nat) (sv : Value), t16 = .int .i64 m ∧ m ≤ Bn.length ∧ Hid (Sep wr w.heap.size (cellOR 74 1 b5 [sv] :: ⟨3, 1, sv, ((Bn.take m).foldl dropN s).length, ints (nats ((Bn.take m).foldl dropN s))⟩ :: (L2 ++ [⟨3, 1, .slice na Bn.length nc, Bn.length, ints (nats Bn)⟩]))) ∧ Hid (Below w.heap.size w wr)) (fun t16 _ => Bn.length - (intOf t16).toNat)
  case atStart => exact ⟨0, _, rfl, by omega, HS6.out, HB6.out⟩
  case round =>
    obtain ⟨m, sv, rfl, hm, HS, HB⟩ := hrel
    clear HS6 HB6
    by_cases hmu : m < Bn.length
    · obtain ⟨k, hk⟩ : ∃ k, Bn[m]? = some k := ⟨_, List.getElem?_eq_getElem hmu⟩
      have hbr := own_row (xs := nats Bn) (B := w.heap.size) (c := nc) (a := na) (w := wr) (by rw [nats_length]; exact HS.out.1 ⟨3, 1, .slice na Bn.length nc, Bn.length, ints (nats Bn)⟩ (by simp))
      obtain ⟨ub, uoff, rfl, hub, huat⟩ := hbr.at (by intro e; have := congrArg List.length e; rw [nats_length, List.length_nil] at this; omega)
      obtain ⟨u, uc1, HXU⟩ := huat wr (Below.refl _ _) m (by rw [nats_length]; exact hmu)
      obtain rfl : u = (k : Int) := by have := HXU.out; rw [nats_at hk] at this; cases this; rfl
      have HFS := hid (fold_snoc (f := dropN) (s := s) hk)
      have HDR := hid (drop_any 74 1 b5 1 1 0 [sv] sv ((Bn.take m).foldl dropN s) k (L2 ++ [⟨3, 1, .slice (some ⟨ub, uoff, none⟩) Bn.length nc, Bn.length, ints (nats Bn)⟩]) w.heap.size wr HS.out rfl (foldD_rising _ HSR.out) (by have := foldD_len (Bn.take m) s; omega))
      have HOB := hid (fun g hg => (HS.out.1 ⟨3, 1, sv, ((Bn.take m).foldl dropN s).length, ints (nats ((Bn.take m).foldl dropN s))⟩ (by simp)).lt g hg)
      clear hbr huat HXU hk
      go_wp2_with (go_at_call 69; refine HDR.out.mono ?_; rintro e w7 ⟨rfl, sv', hs7, ho7, _⟩)
      have HS7 := hid hs7
      have HB7 := hid (ho7.below HB.out (fun g hg => by rcases hg with rfl | hg; exact h5lt; exact (HOB.out g hg).1))
      clear hs7 ho7
      go_roundw
      case rel => exact ⟨m + 1, sv', by go_num, by omega, by show Sep _ _ _; rw [HFS.out]; exact HS7.out, HB7.out⟩
      case measure => simp [intOf]; omega
    · obtain rfl : m = Bn.length := by omega
      rw [List.take_of_length_le (Nat.le_refl _)] at HS
      obtain ⟨X, hX⟩ : ∃ X, Bn.foldl dropN s = X := ⟨_, rfl⟩
      have hXr : X.Pairwise (· < ·) := by rw [← hX]; exact foldD_rising _ HSR.out
      have hXl : X.length ≤ 900 := by rw [← hX]; have := foldD_len Bn s; omega
      have HA2 : Hid (A = U.foldl putL X) := by show _ = _; rw [HA.out, hX]
      rw [hX] at HS
      clear hX HA
      obtain ⟨f0, f1, f2, f3, f4, f5⟩ := HCF.out wr _ HS.out (fun y hy => by simp [hy])
      have h5w : b5 < wr.heap.size := (Sep.size HS.out (x := cellOR 74 1 b5 [sv]) (by simp) rfl).2
      have HOB := hid (fun g hg => (HS.out.1 ⟨3, 1, sv, X.length, ints (nats X)⟩ (by simp)).lt g hg)
      go_wp2_with (first | (go_at_call 42; refine (HD1.out _).mono ?_; rintro e w7 ⟨rfl, hb7⟩) | (go_at_call 70; refine (HD3.out _).mono ?_; rintro e w8 ⟨ua, rfl, hr8, hb8, hu8⟩))
      have HS8 := hid (Sep.below (Sep.below HS.out hb7) hb8)
      have HB8 := hid (bstep' (bstep' HB.out hb7) hb8)
      have HR8 := hid hr8
      have HU8 : Hid (∀ b off, ua = some ⟨b, off, none⟩ → b ≠ b5 ∧ sv.ownBlock ≠ some b) := fun b off hb => by
        have h1 := hu8 b off hb
        have h2 := hb7.size
        exact ⟨by omega, fun he => by have := (HOB.out b he).2; omega⟩
      clear hb7 hb8 hr8 hu8 HS HB f0 f1 f2 f3 f4 f5 HOB HD1 HD3
      go_wp2
      go_loopw [27] (fun t27 wr => ∃ (m : Nat) (sv : Value), t27 = .int .i64 m ∧ m ≤ U.length ∧ Hid (Sep wr w.heap.size (cellOR 74 1 b5 [sv] :: ⟨3, 1, sv, ((U.take m).foldl putL X).length, ints (nats ((U.take m).foldl putL X))⟩ :: (L2 ++ [⟨3, 1, .slice na Bn.length nc, Bn.length, ints (nats Bn)⟩]))) ∧ Hid (Below w.heap.size w wr) ∧ Hid (Row wr ua (nats U)) ∧ Hid (∀ b off, ua = some ⟨b, off, none⟩ → b ≠ b5 ∧ sv.ownBlock ≠ some b)) (fun t27 _ => U.length - (intOf t27).toNat)
      case atStart => exact ⟨0, sv, rfl, by omega, HS8.out, HB8.out, HR8.out, HU8.out⟩
      case round =>
        obtain ⟨m, sv, rfl, hm, HS, HB, HR, HU⟩ := hrel
        clear HS8 HB8 HR8 HU8
        by_cases hmu : m < U.length
        · obtain ⟨k, hk⟩ : ∃ k, U[m]? = some k := ⟨_, List.getElem?_eq_getElem hmu⟩
          obtain ⟨ub, uoff, rfl, hub, huat⟩ := HR.out.at (by intro e; have := congrArg List.length e; rw [nats_length, List.length_nil] at this; omega)
          obtain ⟨u, uc1, HXU⟩ := huat wr (Below.refl _ _) m (by rw [nats_length]; exact hmu)
          obtain rfl : u = (k : Int) := by have := HXU.out; rw [nats_at hk] at this; cases this; rfl
          have HFS := hid (fold_snoc (f := putL) (s := X) hk)
          have HAD := hid (add_any 74 1 b5 1 1 0 [sv] sv ((U.take m).foldl putL X) k (L2 ++ [⟨3, 1, .slice na Bn.length nc, Bn.length, ints (nats Bn)⟩]) w.heap.size wr HS.out rfl (foldP_rising _ hXr) (by have := foldP_len (U.take m) X; rw [List.length_take] at this; omega) HB.out.size)
          have HOB := hid (fun g hg => (HS.out.1 ⟨3, 1, sv, ((U.take m).foldl putL X).length, ints (nats ((U.take m).foldl putL X))⟩ (by simp)).lt g hg)
          clear huat HXU hk
          go_wp2_with (go_at_call 71; refine HAD.out.mono ?_; rintro e w9 ⟨rfl, sv', hs9, ho9, hn9⟩)
          have HS9 := hid hs9
          have HB9 := hid (ho9.below HB.out (fun g hg => by rcases hg with rfl | hg; exact h5lt; exact (HOB.out g hg).1))
          have HR9 := hid (row_only HR.out ho9 (fun b off hb hp => by have := HU.out b off hb; rcases hp with hp | hp; exact this.1 hp; exact this.2 hp))
          have HU9 : Hid (∀ b off, (some ⟨ub, uoff, none⟩ : Option Addr) = some ⟨b, off, none⟩ → b ≠ b5 ∧ sv'.ownBlock ≠ some b) := fun b off hb => ⟨(HU.out b off hb).1, fun he => by
            rcases hn9 b he with h | h
            · exact (HU.out b off hb).2 h
            · injection hb with hb; injection hb with hb; omega⟩
          clear hs9 ho9 hn9
          go_roundw
          case rel => exact ⟨m + 1, sv', by go_num, by omega, by show Sep _ _ _; rw [HFS.out]; exact HS9.out, HB9.out, HR9.out, HU9.out⟩
          case measure => simp [intOf]; omega
        · obtain rfl : m = U.length := by omega
          rw [List.take_of_length_le (Nat.le_refl _), ← HA2.out] at HS
          have hs9 := HS.out
          rw [← HL2.out] at hs9
          have hp9 := Sep.put [cellOR 74 1 b5 [sv], ⟨3, 1, sv, A.length, ints (nats A)⟩] (t := 74) (size := 1) (b := w.heap.size + 1 + 1) (xs := [.slice none 0 0]) (l2 := [cellOR 49 6 w.heap.size [.int .i64 p, .int .i64 d, .int .i64 t, .int .i64 a, .int .i64 b, .int .i64 n]] ++ [⟨3, 1, .slice na Bn.length nc, Bn.length, ints (nats Bn)⟩]) hs9 0 sv
          have c5 : wr.cell? ⟨b5, 0, none⟩ = some sv := hs9.cell (x := cellOR 74 1 b5 [sv]) (by simp) rfl rfl
          have fz : wr.frozen? ⟨w.heap.size + 1 + 1, 0, none⟩ = false := hs9.frozen (x := cellOR 74 1 (w.heap.size + 1 + 1) [.slice none 0 0]) (by simp) rfl 0
          have cz : wr.cell? ⟨w.heap.size + 1 + 1, 0, none⟩ = some (.slice none 0 0) := hs9.cell (x := cellOR 74 1 (w.heap.size + 1 + 1) [.slice none 0 0]) (by simp) rfl rfl
          have cr : (wr.setCell ⟨w.heap.size + 1 + 1, 0, none⟩ sv).cell? ⟨w.heap.size + 1 + 1, 0, none⟩ = some sv := hp9.1.cell (x := cellOR 74 1 (w.heap.size + 1 + 1) [sv]) (by simp) rfl rfl
          have hown : wr.ownsRow w.heap.size 3 1 sv A.length (ints (nats A)) := hs9.1 ⟨3, 1, sv, A.length, ints (nats A)⟩ (by simp)
          obtain ⟨ra, rc, e⟩ := slice_of_owned hown
          subst e
          have HO := hid (hp9.1.1 ⟨3, 1, .slice ra A.length rc, A.length, ints (nats A)⟩ (by simp))
          have HBB := hid (HB.out.trans hp9.2)
          have HCR := hid cr
          clear hs9 hp9 HS
          go_wp2
          have cr := HCR.out
          refine bodyPost_ret (v := .agg #[.slice ra A.length rc]) (by simp [results, Try.results49, go_sem, *]) rfl ⟨ra, rc, rfl, HO.out, HBB.out⟩
end Go.Proofs.Ytiaiaejijicddaa
