import Derived.Test.YtdpnplanohgecaaDoorEngRw
set_option linter.unusedSimpArgs false
set_option linter.unusedVariables false
set_option linter.unusedSectionVars false
namespace Go.Eng
/-! ### sets of posts, and what is left to be won -/
def cntB : Nat → Nat → Nat
  | 0, _ => 0
  | m + 1, x => cntB m x + if x.testBit m then 1 else 0
theorem bit_one (s r : Nat) : (1 <<< s).testBit r = decide (s = r) := by rw [Nat.one_shiftLeft, Nat.testBit_two_pow]
theorem bit_or (x s r : Nat) : (x ||| 1 <<< s).testBit r = (x.testBit r || decide (s = r)) := by rw [Nat.testBit_or, bit_one]
theorem cntB_or {x k : Nat} (h : x.testBit k = false) : ∀ {m : Nat}, cntB m (x ||| 1 <<< k) = cntB m x + if k < m then 1 else 0
  | 0 => by simp [cntB]
  | m + 1 => by
    simp only [cntB]
    rw [cntB_or h, bit_or]
    by_cases e : k = m
    · subst e
      rw [h, if_neg (Nat.lt_irrefl _), if_pos (Nat.lt_succ_self _)]; simp
    · rw [decide_eq_false e, Bool.or_false]
      by_cases hl : k < m
      · rw [if_pos hl, if_pos (show k < m + 1 by omega)]; omega
      · rw [if_neg hl, if_neg (show ¬ k < m + 1 by omega)]; omega
theorem cntB_zero : ∀ m : Nat, cntB m 0 = 0
  | 0 => rfl
  | m + 1 => by simp only [cntB]; rw [cntB_zero m]; simp
theorem or_ltp {x k n : Nat} (hx : x < 2 ^ n) (hk : k < n) : x ||| 1 <<< k < 2 ^ n := Nat.or_lt_two_pow hx (by rw [Nat.one_shiftLeft]; exact Nat.pow_lt_pow_right (by omega) hk)
theorem cntB_le {n x : Nat} (hx : x < 2 ^ n) : ∀ m : Nat, cntB m x ≤ n ∧ cntB m x ≤ m
  | 0 => ⟨Nat.zero_le _, Nat.le_refl _⟩
  | m + 1 => by
    have h := cntB_le hx m
    simp only [cntB]
    by_cases hm : m < n
    · split <;> omega
    · rw [Nat.testBit_lt_two_pow (Nat.lt_of_lt_of_le hx (Nat.pow_le_pow_right (by omega) (by omega)))]
      simp; omega
theorem full_bit (n i : Nat) : (2 ^ n - 1).testBit i = decide (i < n) := Nat.testBit_two_pow_sub_one n i
theorem full_or_free {n x : Nat} (hx : x < 2 ^ n) : x = 2 ^ n - 1 ∨ ∃ k, k < n ∧ x.testBit k = false := by
  by_cases h : ∃ k, k < n ∧ x.testBit k = false
  · exact .inr h
  · left
    apply Nat.eq_of_testBit_eq
    intro i
    rw [full_bit]
    by_cases hi : i < n
    · cases hb : x.testBit i with
      | true => rw [decide_eq_true hi]
      | false => exact absurd ⟨i, hi, hb⟩ h
    · rw [decide_eq_false hi]
      exact Nat.testBit_lt_two_pow (Nat.lt_of_lt_of_le hx (Nat.pow_le_pow_right (by omega) (by omega)))
theorem cntB_lt {n x m : Nat} (hx : x < 2 ^ n) {k : Nat} (hk : k < n) (hb : x.testBit k = false) (hm : n ≤ m) : cntB m x < n := by
  have h1 := cntB_or hb (m := m)
  rw [if_pos (by omega)] at h1
  have h2 := (cntB_le (or_ltp hx hk) m).1
  omega
theorem cntB_full (n : Nat) : ∀ m : Nat, cntB m (2 ^ n - 1) = min m n
  | 0 => by simp [cntB]
  | m + 1 => by
    simp only [cntB]
    rw [cntB_full n m, full_bit]
    by_cases h : m < n
    · rw [decide_eq_true h]; simp; omega
    · rw [decide_eq_false h]; simp; omega
theorem or_gt {x k : Nat} (h : x.testBit k = false) : x < x ||| 1 <<< k := by
  have h1 := Nat.left_le_or (n := x) (m := 1 <<< k)
  by_cases e : x = x ||| 1 <<< k
  · have := bit_or x k k
    rw [← e, h, decide_eq_true rfl] at this; simp at this
  · omega
abbrev pc (x : Nat) : Nat := cntB 40 x

/-- the most that the persons who are left are worth at the posts that are left -/
structure BestN (n : Nat) (c : Nat → Nat → Int) (B : Nat → Int) : Prop where
  full : B (2 ^ n - 1) = 0
  le : ∀ t, t < 2 ^ n → ∀ q, q < n → t.testBit q = false → c (pc t) q + B (t ||| 1 <<< q) ≤ B t
  is : ∀ t, t < 2 ^ n → t ≠ 2 ^ n - 1 → ∃ q, q < n ∧ t.testBit q = false ∧ c (pc t) q + B (t ||| 1 <<< q) = B t
/-- who were given a post, as a set of posts -/
def tk (p : Nat → Nat) : Nat → Nat
  | 0 => 0
  | k + 1 => tk p k ||| 1 <<< p k
theorem tk_congr {p p' : Nat → Nat} : ∀ {k : Nat}, (∀ i, i < k → p i = p' i) → tk p k = tk p' k
  | 0, _ => rfl
  | k + 1, h => by simp only [tk]; rw [tk_congr (fun i hi => h i (by omega)), h k (by omega)]
theorem tk_bit {p : Nat → Nat} : ∀ {k r : Nat}, (tk p k).testBit r = true ↔ ∃ i, i < k ∧ p i = r
  | 0, r => by simp [tk]
  | k + 1, r => by
    simp only [tk]
    rw [bit_or, Bool.or_eq_true, decide_eq_true_eq, tk_bit]
    constructor
    · rintro (⟨i, h1, h2⟩ | h)
      · exact ⟨i, by omega, h2⟩
      · exact ⟨k, by omega, h⟩
    · rintro ⟨i, h1, h2⟩
      by_cases e : i = k
      · subst e; exact .inr h2
      · exact .inl ⟨i, by omega, h2⟩
theorem tk_lt {n : Nat} {p : Nat → Nat} : ∀ {k : Nat}, (∀ i, i < k → p i < n) → tk p k < 2 ^ n
  | 0, _ => by simp only [tk]; exact Nat.two_pow_pos n
  | k + 1, h => by simp only [tk]; exact or_ltp (tk_lt (fun i hi => h i (by omega))) (h k (by omega))
theorem tk_cnt {n : Nat} {p : Nat → Nat} (hn : n ≤ 40) : ∀ {k : Nat}, (∀ i, i < k → p i < n) → (∀ i j, i < j → j < k → p i ≠ p j) → pc (tk p k) = k
  | 0, _, _ => cntB_zero 40
  | k + 1, h, hd => by
    have ih := tk_cnt (k := k) hn (fun i hi => h i (by omega)) (fun i j h1 h2 => hd i j h1 (by omega))
    simp only [tk]
    have hb : (tk p k).testBit (p k) = false := by
      cases hb : (tk p k).testBit (p k) with
      | false => rfl
      | true => obtain ⟨i, h1, h2⟩ := tk_bit.1 hb; exact absurd h2 (hd i k h1 (by omega))
    have := cntB_or hb (m := 40)
    rw [if_pos (by have := h k (by omega); omega)] at this
    show cntB 40 (tk p k ||| 1 <<< p k) = k + 1
    rw [this]; exact congrArg (· + 1) ih
theorem tk_full {n : Nat} {p : Nat → Nat} (hn : n ≤ 40) (h : ∀ i, i < n → p i < n) (hd : ∀ i j, i < j → j < n → p i ≠ p j) : tk p n = 2 ^ n - 1 := by
  rcases full_or_free (tk_lt h) with e | ⟨k, hk, hb⟩
  · exact e
  · have h1 := cntB_lt (m := 40) (tk_lt h) hk hb hn
    have h2 := tk_cnt hn h hd
    have h2 : cntB 40 (tk p n) = n := h2
    omega
section
variable {n : Nat} {c : Nat → Nat → Int} {B : Nat → Int}
/-- no assignment is worth more than that -/
theorem BestN.most (hB : BestN n c B) (hn : n ≤ 40) {q : Nat → Nat} (hq : PermN n q) : worthN n c q ≤ B 0 := by
  have hd : ∀ i j, i < j → j < n → q i ≠ q j := fun i j h1 h2 e => by have := hq.2 i j (by omega) h2 e; omega
  have key : ∀ k, k ≤ n → sumN k (fun i => c i (q i)) + B (tk q k) ≤ B 0 := fun k => by
    induction k with
    | zero => intro _; simp [sumN, tk]
    | succ k ih =>
      intro hk
      have := ih (by omega)
      have hlt : tk q k < 2 ^ n := tk_lt (fun i hi => hq.1 i (by omega))
      have hb : (tk q k).testBit (q k) = false := by
        cases hb : (tk q k).testBit (q k) with
        | false => rfl
        | true => obtain ⟨i, h1, h2⟩ := tk_bit.1 hb; exact absurd h2 (hd i k h1 (by omega))
      have h2 := hB.le _ hlt (q k) (hq.1 k (by omega)) hb
      have h3 : pc (tk q k) = k := tk_cnt hn (fun i hi => hq.1 i (by omega)) (fun i j h1 h2 => hd i j h1 (by omega))
      rw [h3] at h2
      simp only [sumN, tk]; omega
  have h := key n (Nat.le_refl _)
  rw [tk_full hn hq.1 hd, hB.full] at h
  simp only [worthN]; omega
/-- the first posts that lead to the most -/
def Chosen (n : Nat) (c : Nat → Nat → Int) (B : Nat → Int) (ps : List Nat) : Prop := ∀ k, k < ps.length → ps.getD k 0 < n ∧ (tk (fun i => ps.getD i 0) k).testBit (ps.getD k 0) = false ∧
  c k (ps.getD k 0) + B (tk (fun i => ps.getD i 0) (k + 1)) = B (tk (fun i => ps.getD i 0) k) ∧
  ∀ q, q < ps.getD k 0 → ¬ ((tk (fun i => ps.getD i 0) k).testBit q = false ∧ c k q + B (tk (fun i => ps.getD i 0) k ||| 1 <<< q) = B (tk (fun i => ps.getD i 0) k))
theorem Chosen.nil : Chosen n c B [] := fun k h => by simp at h
theorem getD_app {ps : List Nat} {x i : Nat} (h : i < ps.length) : (ps ++ [x]).getD i 0 = ps.getD i 0 := by
  rw [List.getD_eq_getElem?_getD, List.getD_eq_getElem?_getD, List.getElem?_append_left h]
theorem getD_last {ps : List Nat} {x : Nat} : (ps ++ [x]).getD ps.length 0 = x := by
  rw [List.getD_eq_getElem?_getD, List.getElem?_append_right (Nat.le_refl _)]; simp
theorem tk_app {ps : List Nat} {x k : Nat} (h : k ≤ ps.length) : tk (fun i => (ps ++ [x]).getD i 0) k = tk (fun i => ps.getD i 0) k := tk_congr (fun i hi => getD_app (by omega))
theorem Chosen.snoc {ps : List Nat} (h : Chosen n c B ps) {x : Nat} (h1 : x < n) (h2 : (tk (fun i => ps.getD i 0) ps.length).testBit x = false) (h3 : c ps.length x + B (tk (fun i => ps.getD i 0) ps.length ||| 1 <<< x) = B (tk (fun i => ps.getD i 0) ps.length))
    (h4 : ∀ q, q < x → ¬ ((tk (fun i => ps.getD i 0) ps.length).testBit q = false ∧ c ps.length q + B (tk (fun i => ps.getD i 0) ps.length ||| 1 <<< q) = B (tk (fun i => ps.getD i 0) ps.length))) : Chosen n c B (ps ++ [x]) := fun k hk => by
  simp only [List.length_append, List.length_cons, List.length_nil] at hk
  by_cases e : k = ps.length
  · subst e
    have e1 : tk (fun i => (ps ++ [x]).getD i 0) ps.length = tk (fun i => ps.getD i 0) ps.length := tk_app (Nat.le_refl _)
    have e2 : tk (fun i => (ps ++ [x]).getD i 0) (ps.length + 1) = tk (fun i => ps.getD i 0) ps.length ||| 1 <<< x := by
      simp only [tk]; rw [e1, getD_last]
    rw [e1, e2, getD_last]
    exact ⟨h1, h2, h3, h4⟩
  · have := h k (by omega)
    rw [tk_app (by omega), tk_app (by omega), getD_app (by omega)]
    exact this
theorem Chosen.perm {ps : List Nat} (h : Chosen n c B ps) (hl : ps.length = n) : PermN n (fun i => ps.getD i 0) := by
  refine ⟨fun i hi => (h i (by omega)).1, fun i j hi hj e => ?_⟩
  have key : ∀ i j, i < j → j < n → ps.getD i 0 ≠ ps.getD j 0 := fun i j h1 h2 e => by
    have := (h j (by omega)).2.1
    rw [tk_bit.2 ⟨i, h1, e⟩] at this; cases this
  rcases Nat.lt_trichotomy i j with h1 | h1 | h1
  · exact absurd e (key i j h1 hj)
  · exact h1
  · exact absurd e.symm (key j i h1 hi)
theorem Chosen.worth {ps : List Nat} (h : Chosen n c B ps) (hB : BestN n c B) (hl : ps.length = n) (hn : n ≤ 40) : worthN n c (fun i => ps.getD i 0) = B 0 := by
  have hp := h.perm hl
  have hd : ∀ i j, i < j → j < n → ps.getD i 0 ≠ ps.getD j 0 := fun i j h1 h2 e => by have := hp.2 i j (by omega) h2 e; omega
  have key : ∀ k, k ≤ n → sumN k (fun i => c i (ps.getD i 0)) + B (tk (fun i => ps.getD i 0) k) = B 0 := fun k => by
    induction k with
    | zero => intro _; simp [sumN, tk]
    | succ k ih =>
      intro hk
      have := ih (by omega)
      have h2 := (h k (by omega)).2.2.1
      simp only [sumN]; omega
  have h1 := key n (Nat.le_refl _)
  rw [tk_full hn hp.1 hd, hB.full] at h1
  simp only [worthN]; omega
end
end Go.Eng
