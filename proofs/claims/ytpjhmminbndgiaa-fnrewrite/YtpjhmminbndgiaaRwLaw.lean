/- What the law on rewriting asks, of texts and rules alone. -/
import Derived.Test.YtpjhmminbndgiaaConf2
namespace Go.Proofs.Ytpjhmminbndgiaa
open Go.RowKit
set_option linter.unusedVariables false
set_option maxRecDepth 100000

theorem normOf_some {last : Bool} {xs : List RB} {s : ByteArray} {t : Tx} {n : Nat} (h : normOf last xs s = some (t, n)) : rulesB (Rs xs) = true ∧ okB 40 (Bt s) = true ∧ normB last (Rs xs) 400 (Bt s) = some (t, n) := by
  unfold normOf at h
  split at h
  · rename_i hc
    obtain ⟨h1, h2⟩ := Bool.and_eq_true _ _ ▸ hc
    exact ⟨h1, h2, h⟩
  · cases h
theorem norm_facts {xs : List RB} {s : ByteArray} {t : Tx} {n : Nat} (h : normOf false xs s = some (t, n)) :
    (rulesB (Rs xs) && okB 40 (Bt (Sb t))) = true ∧ onceBy xs (Sb t) = [] ∧ (n = 0 ↔ t = Bt s) ∧ (0 < n → slB t (Bt s) = true) ∧ n ≤ 400 ∧ t.length ≤ 40 ∧ (rulesB (Rs xs) && okB 40 (Bt s)) = true := by
  obtain ⟨hl, ho, hn⟩ := normOf_some h
  obtain ⟨h1, h2, h3⟩ := norm_is hn
  have hot := star_ok hl h1 ho
  have hg : (rulesB (Rs xs) && okB 40 (Bt (Sb t))) = true := by rw [Bt_Sb, hl, hot]; rfl
  refine ⟨hg, by unfold onceBy; rw [if_pos hg, Bt_Sb]; exact h2, (norm_sl hl hn).1, (norm_sl hl hn).2, h3, ?_, by rw [hl, ho]; rfl⟩
  simp only [okB, Bool.and_eq_true, decide_eq_true_eq] at hot
  exact hot.1
theorem confL_true {l : List Rl} : ∀ {ps : List (Tx × Tx)} {b : Bool}, confL l b ps = (true, true) → b = true ∧ ∀ x ∈ ps, ∃ t n n', normB false l 400 x.1 = some (t, n) ∧ normB false l 400 x.2 = some (t, n')
  | [], b, h => by simp [confL] at h; exact ⟨h, by simp⟩
  | p :: ps, b, h => by
    unfold confL at h
    split at h
    · rename_i hj
      obtain ⟨hb, hps⟩ := confL_true h
      obtain ⟨hb1, hb2⟩ := Bool.and_eq_true _ _ ▸ hb
      refine ⟨hb1, fun x hx => ?_⟩
      rcases List.mem_cons.1 hx with rfl | hx
      · cases e1 : normB false l 400 x.1 with
        | none => rw [e1] at hb2; simp [joinV] at hb2
        | some y1 =>
          cases e2 : normB false l 400 x.2 with
          | none => rw [e1, e2] at hb2; simp [joinV] at hb2
          | some y2 =>
            rw [e1, e2] at hb2
            simp [joinV] at hb2
            obtain ⟨t1, n1⟩ := y1
            obtain ⟨t2, n2⟩ := y2
            simp only [] at hb2
            subst hb2
            exact ⟨_, _, _, rfl, rfl⟩
      · exact hps x hx
    · cases h
theorem conf_alike {xs : List RB} (hc : isConf xs = (true, true)) {s t1 t2 : Tx} (h1 : Star (Rs xs) s t1) (e1 : once (Rs xs) t1 = []) (h2 : Star (Rs xs) s t2) (e2 : once (Rs xs) t2 = []) : t1 = t2 := by
  unfold isConf at hc
  split at hc
  · rename_i hl
    exact all_alike hl (confL_true hc).2 h1 e1 h2 e2
  · cases hc
theorem conf_last {xs : List RB} {s : ByteArray} {t u : Tx} {n m : Nat} (hc : isConf xs = (true, true)) (h : normOf false xs s = some (t, n)) (h2 : normOf true xs s = some (u, m)) : u = t := by
  obtain ⟨hl, ho, hn⟩ := normOf_some h
  obtain ⟨_, _, hn2⟩ := normOf_some h2
  obtain ⟨a1, a2, _⟩ := norm_is hn
  obtain ⟨b1, b2, _⟩ := norm_is hn2
  exact conf_alike hc b1 b2 a1 a2
theorem conf_some {xs : List RB} {s : ByteArray} {t v x : Tx} {n m : Nat} (hc : isConf xs = (true, true)) (h : normOf false xs s = some (t, n)) (hv : v ∈ onceBy xs s) (hx : normOf false xs (Sb v) = some (x, m)) : x = t := by
  obtain ⟨hl, ho, hn⟩ := normOf_some h
  obtain ⟨_, _, hn2⟩ := normOf_some hx
  rw [Bt_Sb] at hn2
  obtain ⟨a1, a2, _⟩ := norm_is hn
  obtain ⟨b1, b2, _⟩ := norm_is hn2
  unfold onceBy at hv
  rw [hl, ho] at hv
  exact conf_alike hc (Star.head (by simpa using hv) b1) b2 a1 a2
/-- what LastOf tells has a text and a flag -/
theorem lastV_is {xs : List RB} {s : ByteArray} : ∃ (u : ByteArray) (b : Bool), lastV (normOf true xs s) = .tuple #[.string u, .bool b] ∧ (b = true → ∃ x m, normOf true xs s = some (x, m) ∧ u = Sb x) := by
  cases h : normOf true xs s with
  | none => exact ⟨_, _, rfl, by simp⟩
  | some y => exact ⟨_, _, rfl, fun _ => ⟨y.1, y.2, rfl, rfl⟩⟩
theorem endV_is {last : Bool} {xs : List RB} {s : ByteArray} : ∃ (u : ByteArray) (n : Int) (b : Bool), endV (normOf last xs s) = .tuple #[.string u, .int .i64 n, .bool b] ∧ (b = true → ∃ x m, normOf last xs s = some (x, m) ∧ u = Sb x) := by
  cases h : normOf last xs s with
  | none => exact ⟨_, _, _, rfl, by simp⟩
  | some y => exact ⟨_, _, _, rfl, fun _ => ⟨y.1, y.2, rfl, rfl⟩⟩
end Go.Proofs.Ytpjhmminbndgiaa
