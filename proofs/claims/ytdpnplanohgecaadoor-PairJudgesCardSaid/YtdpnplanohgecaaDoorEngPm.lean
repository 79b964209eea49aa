import Derived.Test.YtdpnplanohgecaaDoorEngWy
set_option linter.unusedSimpArgs false
set_option linter.unusedVariables false
set_option linter.unusedSectionVars false
namespace Go.Eng
/-! ### sums, first repetitions, walks between posts -/
def sumN : Nat → (Nat → Int) → Int
  | 0, _ => 0
  | n + 1, f => sumN n f + f n
theorem sumN_congr {f g : Nat → Int} : ∀ {n : Nat}, (∀ i, i < n → f i = g i) → sumN n f = sumN n g
  | 0, _ => rfl
  | n + 1, h => by simp only [sumN]; rw [sumN_congr (fun i hi => h i (by omega)), h n (by omega)]
theorem sumN_add {f g : Nat → Int} : ∀ {n : Nat}, sumN n (fun i => f i + g i) = sumN n f + sumN n g
  | 0 => rfl
  | n + 1 => by simp only [sumN]; rw [sumN_add]; omega
theorem sumN_sub {f g : Nat → Int} : ∀ {n : Nat}, sumN n (fun i => f i - g i) = sumN n f - sumN n g
  | 0 => rfl
  | n + 1 => by simp only [sumN]; rw [sumN_sub]; omega
theorem sumN_zero : ∀ {n : Nat}, sumN n (fun _ => 0) = 0
  | 0 => rfl
  | n + 1 => by simp only [sumN]; rw [sumN_zero]; rfl
theorem sumN_le {f g : Nat → Int} : ∀ {n : Nat}, (∀ i, i < n → f i ≤ g i) → sumN n f ≤ sumN n g
  | 0, _ => Int.le_refl _
  | n + 1, h => by simp only [sumN]; have := sumN_le (n := n) (fun i hi => h i (by omega)); have := h n (by omega); omega
theorem sumN_swap {f : Nat → Nat → Int} {m : Nat} : ∀ {n : Nat}, sumN n (fun i => sumN m (fun t => f i t)) = sumN m (fun t => sumN n (fun i => f i t))
  | 0 => by simp only [sumN]; exact sumN_zero.symm
  | n + 1 => by simp only [sumN]; rw [sumN_swap, sumN_add]
/-- one of them counts -/
theorem sumN_one {n k : Nat} {x : Nat → Int} (hk : k < n) : sumN n (fun i => if i = k then x i else 0) = x k := by
  induction n with
  | zero => omega
  | succ n ih =>
    simp only [sumN]
    by_cases h : n = k
    · subst h
      rw [if_pos rfl, sumN_congr (g := fun _ => 0) (fun i hi => if_neg (by omega)), sumN_zero]; omega
    · rw [if_neg h, ih (by omega)]; omega
theorem sumN_none {n : Nat} {p : Nat → Prop} [DecidablePred p] {x : Nat → Int} (h : ∀ i, i < n → ¬ p i) : sumN n (fun i => if p i then x i else 0) = 0 := by
  rw [sumN_congr (g := fun _ => 0) (fun i hi => if_neg (h i hi)), sumN_zero]
/-- more than there is room for: one twice -/
theorem pigeon : ∀ (n : Nat) (f : Nat → Nat), (∀ t, t ≤ n → f t < n) → ∃ a b, a < b ∧ b ≤ n ∧ f a = f b
  | 0, f, h => by have := h 0 (by omega); omega
  | n + 1, f, h => by
    by_cases hx : ∃ t, t ≤ n ∧ f t = f (n + 1)
    · obtain ⟨t, h1, h2⟩ := hx
      exact ⟨t, n + 1, by omega, by omega, h2⟩
    · obtain ⟨a, b, h1, h2, h3⟩ := pigeon n (fun t => if f t = n then f (n + 1) else f t) (fun t ht => by
        have h1 := h t (by omega)
        have h2 := h (n + 1) (by omega)
        have h3 : f t ≠ f (n + 1) := fun e => hx ⟨t, ht, e⟩
        show (if f t = n then f (n + 1) else f t) < n
        split <;> omega)
      refine ⟨a, b, h1, by omega, ?_⟩
      have ha : f a ≠ f (n + 1) := fun e => hx ⟨a, by omega, e⟩
      have hb : f b ≠ f (n + 1) := fun e => hx ⟨b, by omega, e⟩
      have h3 : (if f a = n then f (n + 1) else f a) = (if f b = n then f (n + 1) else f b) := h3
      split at h3 <;> split at h3 <;> omega
/-- the first time that something comes back -/
theorem first_back {f : Nat → Nat} : ∀ (m : Nat), (∃ a b, a < b ∧ b ≤ m ∧ f a = f b) → ∃ a b, a < b ∧ b ≤ m ∧ f a = f b ∧ ∀ s t, s < t → t < b → f s ≠ f t
  | 0, h => by obtain ⟨a, b, h1, h2, _⟩ := h; omega
  | m + 1, h => by
    by_cases hx : ∃ a b, a < b ∧ b ≤ m ∧ f a = f b
    · obtain ⟨a, b, h1, h2, h3⟩ := first_back m hx
      exact ⟨a, b, h1, by omega, h3⟩
    · obtain ⟨a, b, h1, h2, h3⟩ := h
      exact ⟨a, b, h1, h2, h3, fun s t hs ht e => hx ⟨s, t, hs, by omega, e⟩⟩
/-- each number is hit -/
theorem hit_all {n : Nat} {p : Nat → Nat} (hp : ∀ i, i < n → p i < n) (hi : ∀ i j, i < n → j < n → p i = p j → i = j) (k : Nat) (hk : k < n) : ∃ i, i < n ∧ p i = k := by
  apply Classical.byContradiction
  intro hn
  obtain ⟨a, b, h1, h2, h3⟩ := pigeon n (fun t => if t = n then k else p t) (fun t ht => by
    show (if t = n then k else p t) < n
    split
    · exact hk
    · exact hp t (by omega))
  have h3 : (if a = n then k else p a) = (if b = n then k else p b) := h3
  rw [if_neg (by omega)] at h3
  split at h3
  · exact hn ⟨a, by omega, h3⟩
  · have := hi a b (by omega) (by omega) h3; omega
theorem sumN_perm {n : Nat} {p : Nat → Nat} (hp : ∀ i, i < n → p i < n) (hi : ∀ i j, i < n → j < n → p i = p j → i = j) (v : Nat → Int) : sumN n (fun i => v (p i)) = sumN n v := by
  have e1 : sumN n (fun i => v (p i)) = sumN n (fun i => sumN n (fun k => if k = p i then v k else 0)) := sumN_congr (fun i h => (sumN_one (hp i h)).symm)
  rw [e1, sumN_swap]
  refine sumN_congr (fun k hk => ?_)
  obtain ⟨i, h1, h2⟩ := hit_all hp hi k hk
  have : sumN n (fun j => if k = p j then v k else 0) = sumN n (fun j => if j = i then v k else 0) := sumN_congr (fun j hj => by
    by_cases e : j = i
    · subst e; rw [if_pos h2.symm, if_pos rfl]
    · rw [if_neg e, if_neg (fun e' => e (hi j i hj h1 (by omega)))])
  rw [this, sumN_one (x := fun _ => v k) h1]

/-! ### an assignment that is worth most -/
/-- different posts -/
def PermN (n : Nat) (q : Nat → Nat) : Prop := (∀ i, i < n → q i < n) ∧ ∀ i j, i < n → j < n → q i = q j → i = j
def worthN (n : Nat) (c : Nat → Nat → Int) (q : Nat → Nat) : Int := sumN n (fun i => c i (q i))
/-- what person i would gain by post j -/
def gain (c : Nat → Nat → Int) (p : Nat → Nat) (i j : Nat) : Int := c i j - c i (p i)
/-- the most that can be gained on the way to post j, in r steps at most -/
def gainM (c : Nat → Nat → Int) (p : Nat → Nat) (r : Nat → Int) : Nat → Nat → Int
  | 0, j => r j
  | i + 1, j => max (gainM c p r i j) (r (p i) + gain c p i j)
def gainD (n : Nat) (c : Nat → Nat → Int) (p : Nat → Nat) : Nat → Nat → Int
  | 0, _ => 0
  | r + 1, j => gainM c p (gainD n c p r) n j
section
variable {n : Nat} {c : Nat → Nat → Int} {p : Nat → Nat}
theorem gainM_ge {r : Nat → Int} {j : Nat} : ∀ {m : Nat}, r j ≤ gainM c p r m j
  | 0 => Int.le_refl _
  | m + 1 => by have := gainM_ge (r := r) (j := j) (m := m); simp only [gainM]; omega
theorem gainM_step {r : Nat → Int} {j i : Nat} : ∀ {m : Nat}, i < m → r (p i) + gain c p i j ≤ gainM c p r m j
  | m + 1, h => by
    simp only [gainM]
    by_cases e : i = m
    · subst e; omega
    · have := gainM_step (r := r) (j := j) (i := i) (m := m) (by omega); omega
theorem gainM_is {r : Nat → Int} {j : Nat} : ∀ {m : Nat}, gainM c p r m j = r j ∨ ∃ i, i < m ∧ gainM c p r m j = r (p i) + gain c p i j
  | 0 => .inl rfl
  | m + 1 => by
    simp only [gainM]
    by_cases h : r (p m) + gain c p m j ≤ gainM c p r m j
    · rw [show max (gainM c p r m j) (r (p m) + gain c p m j) = gainM c p r m j from by omega]
      rcases gainM_is (r := r) (j := j) (m := m) with h1 | ⟨i, h1, h2⟩
      · exact .inl h1
      · exact .inr ⟨i, by omega, h2⟩
    · exact .inr ⟨m, by omega, by omega⟩
/-- what a way gains -/
def wayG (c : Nat → Nat → Int) (p : Nat → Nat) (s f : Nat → Nat) : Nat → Int
  | 0 => 0
  | m + 1 => wayG c p s f m + gain c p (s m) (f (m + 1))
/-- a way: posts, and who has them -/
def WayN (n : Nat) (p : Nat → Nat) (s f : Nat → Nat) (m : Nat) : Prop := ∀ t, t < m → s t < n ∧ f t = p (s t)
theorem gainD_way : ∀ (r j : Nat), ∃ m s f, m ≤ r ∧ WayN n p s f m ∧ f m = j ∧ gainD n c p r j = wayG c p s f m
  | 0, j => ⟨0, fun _ => 0, fun _ => j, Nat.le_refl _, fun t ht => by omega, rfl, rfl⟩
  | r + 1, j => by
    simp only [gainD]
    rcases gainM_is (c := c) (p := p) (r := gainD n c p r) (j := j) (m := n) with h | ⟨i, hi, h⟩
    · obtain ⟨m, s, f, h1, h2, h3, h4⟩ := gainD_way r j
      exact ⟨m, s, f, by omega, h2, h3, by rw [h, h4]⟩
    · obtain ⟨m, s, f, h1, h2, h3, h4⟩ := gainD_way r (p i)
      have hw : ∀ k, k ≤ m → wayG c p (fun t => if t = m then i else s t) (fun t => if t = m + 1 then j else f t) k = wayG c p s f k := by
        intro k hk
        induction k with
        | zero => rfl
        | succ k ih =>
          simp only [wayG]
          rw [ih (by omega), if_neg (by omega), if_neg (by omega)]
      refine ⟨m + 1, fun t => if t = m then i else s t, fun t => if t = m + 1 then j else f t, by omega, fun t ht => ?_, by simp, ?_⟩
      · by_cases e : t = m
        · subst e
          simp only [if_pos, if_neg (show ¬ t = t + 1 by omega)]
          exact ⟨hi, h3⟩
        · simp only [if_neg e, if_neg (show ¬ t = m + 1 by omega)]
          exact h2 t (by omega)
      · simp only [wayG]
        rw [hw m (Nat.le_refl _), h, h4]; simp
theorem way_gainD {s f : Nat → Nat} : ∀ (m : Nat), WayN n p s f m → wayG c p s f m ≤ gainD n c p m (f m)
  | 0, _ => Int.le_refl _
  | m + 1, h => by
    have ih := way_gainD m (fun t ht => h t (by omega))
    obtain ⟨h1, h2⟩ := h m (by omega)
    have := gainM_step (c := c) (p := p) (r := gainD n c p m) (j := f (m + 1)) h1
    rw [← h2] at this
    simp only [wayG, gainD]; omega
theorem gainD_mono {r r' : Nat} (h : r ≤ r') (j : Nat) : gainD n c p r j ≤ gainD n c p r' j := by
  induction h with
  | refl => exact Int.le_refl _
  | step _ ih => exact Int.le_trans ih (by simp only [gainD]; exact gainM_ge)
/-- no way round gains anything if no assignment is worth more -/
theorem round_loses (hp : PermN n p) (hbest : ∀ q, PermN n q → worthN n c q ≤ worthN n c p) {s f : Nat → Nat} {a b : Nat} (hab : a < b) (hw : ∀ t, a ≤ t → t < b → s t < n ∧ f t = p (s t)) (hf : f a = f b) (hone : ∀ s t, s < t → t < b → f s ≠ f t) :
    wayG c p s f b ≤ wayG c p s f a := by
  have hs : ∀ t t', a ≤ t → t < b → a ≤ t' → t' < b → s t = s t' → t = t' := fun t t' h1 h2 h3 h4 e => by
    have e2 : f t = f t' := by rw [(hw t h1 h2).2, (hw t' h3 h4).2, e]
    rcases Nat.lt_trichotomy t t' with h | h | h
    · exact absurd e2 (hone t t' h h4)
    · exact h
    · exact absurd e2.symm (hone t' t h h2)
  -- the number of the step of person i, if there is one
  have hq : ∀ i, ∃ k, (∃ t, a ≤ t ∧ t < b ∧ s t = i ∧ k = f (t + 1)) ∨ ((∀ t, a ≤ t → t < b → s t ≠ i) ∧ k = p i) := fun i => by
    by_cases h : ∃ t, a ≤ t ∧ t < b ∧ s t = i
    · obtain ⟨t, h1, h2, h3⟩ := h
      exact ⟨f (t + 1), .inl ⟨t, h1, h2, h3, rfl⟩⟩
    · exact ⟨p i, .inr ⟨fun t h1 h2 h3 => h ⟨t, h1, h2, h3⟩, rfl⟩⟩
  obtain ⟨q, hq⟩ := Classical.axiomOfChoice hq
  have hqs : ∀ t, a ≤ t → t < b → q (s t) = f (t + 1) := fun t h1 h2 => by
    rcases hq (s t) with ⟨t', g1, g2, g3, g4⟩ | ⟨g, _⟩
    · have := hs t' t g1 g2 h1 h2 g3; subst this; exact g4
    · exact absurd rfl (g t h1 h2)
  have hqo : ∀ i, (∀ t, a ≤ t → t < b → s t ≠ i) → q i = p i := fun i h => by
    rcases hq i with ⟨t', g1, g2, g3, g4⟩ | ⟨_, g⟩
    · exact absurd g3 (h t' g1 g2)
    · exact g
  -- what is next on the round is had by a person of the round
  have hnx : ∀ t, a ≤ t → t < b → ∃ t', a ≤ t' ∧ t' < b ∧ f (t + 1) = f t' ∧ (t' = if t + 1 = b then a else t + 1) := fun t h1 h2 => by
    by_cases e : t + 1 = b
    · exact ⟨a, Nat.le_refl _, hab, by rw [e, hf], by rw [if_pos e]⟩
    · exact ⟨t + 1, by omega, by omega, rfl, by rw [if_neg e]⟩
  have hpq : PermN n q := by
    refine ⟨fun i hi => ?_, fun i j hi hj e => ?_⟩
    · rcases hq i with ⟨t, g1, g2, g3, g4⟩ | ⟨_, g⟩
      · obtain ⟨t', k1, k2, k3, _⟩ := hnx t g1 g2
        rw [g4, k3, (hw t' k1 k2).2]; exact hp.1 _ (hw t' k1 k2).1
      · rw [g]; exact hp.1 i hi
    · rcases hq i with ⟨t, g1, g2, g3, g4⟩ | ⟨g3, g4⟩
      · obtain ⟨t1, k1, k2, k3, k4⟩ := hnx t g1 g2
        rcases hq j with ⟨t', l1, l2, l3, l4⟩ | ⟨l3, l4⟩
        · obtain ⟨t2, m1, m2, m3, m4⟩ := hnx t' l1 l2
          have e2 : f t1 = f t2 := by rw [← k3, ← m3, ← g4, ← l4, e]
          have : t1 = t2 := by
            rcases Nat.lt_trichotomy t1 t2 with h | h | h
            · exact absurd e2 (hone t1 t2 h m2)
            · exact h
            · exact absurd e2.symm (hone t2 t1 h k2)
          have : t = t' := by split at k4 <;> split at m4 <;> omega
          subst this; rw [← g3, ← l3]
        · have e2 : p (s t1) = p j := by rw [← (hw t1 k1 k2).2, ← k3, ← g4, e, l4]
          exact absurd (hp.2 _ _ (hw t1 k1 k2).1 hj e2) (l3 t1 k1 k2)
      · rcases hq j with ⟨t', l1, l2, l3, l4⟩ | ⟨l3, l4⟩
        · obtain ⟨t2, m1, m2, m3, m4⟩ := hnx t' l1 l2
          have e2 : p (s t2) = p i := by rw [← (hw t2 m1 m2).2, ← m3, ← l4, ← e, g4]
          exact absurd (hp.2 _ _ (hw t2 m1 m2).1 hi e2) (g3 t2 m1 m2)
        · exact hp.2 i j hi hj (by rw [← g4, ← l4, e])
  have hb := hbest q hpq
  have e1 : worthN n c q - worthN n c p = sumN n (fun i => gain c p i (q i)) := by
    rw [worthN, worthN, ← sumN_sub]; rfl
  have e2 : sumN n (fun i => gain c p i (q i)) = sumN n (fun i => sumN (b - a) (fun t => if i = s (a + t) then gain c p i (f (a + t + 1)) else 0)) := by
    refine sumN_congr (fun i hi => ?_)
    rcases hq i with ⟨t, g1, g2, g3, g4⟩ | ⟨g3, g4⟩
    · have : sumN (b - a) (fun u => if i = s (a + u) then gain c p i (f (a + u + 1)) else 0) = sumN (b - a) (fun u => if u = t - a then gain c p i (f (t + 1)) else 0) := sumN_congr (fun u hu => by
        by_cases e : u = t - a
        · have e' : a + u = t := by omega
          rw [if_pos e, e', if_pos g3.symm]
        · rw [if_neg e, if_neg (fun e' => e (by have := hs (a + u) t (by omega) (by omega) g1 g2 (by rw [← e', g3]); omega))])
      rw [this, sumN_one (x := fun _ => gain c p i (f (t + 1))) (by omega), g4]
    · rw [sumN_none (fun u hu e => g3 (a + u) (by omega) (by omega) e.symm), g4]
      simp [gain]
  have e3 : ∀ k, a + k ≤ b → sumN k (fun t => gain c p (s (a + t)) (f (a + t + 1))) = wayG c p s f (a + k) - wayG c p s f a := fun k => by
    induction k with
    | zero => intro _; simp [sumN]
    | succ k ih => intro hk; simp only [sumN]; rw [ih (by omega), show a + (k + 1) = (a + k) + 1 from by omega]; simp only [wayG]; omega
  have e4 : sumN n (fun i => sumN (b - a) (fun t => if i = s (a + t) then gain c p i (f (a + t + 1)) else 0)) = sumN (b - a) (fun t => gain c p (s (a + t)) (f (a + t + 1))) := by
    rw [sumN_swap]
    refine sumN_congr (fun t ht => ?_)
    rw [sumN_one (x := fun i => gain c p i (f (a + t + 1))) (hw (a + t) (by omega) (by omega)).1]
  have := e3 (b - a) (by omega)
  rw [show a + (b - a) = b from by omega] at this
  omega
/-- so ways need not be long -/
theorem gainD_rest (hn : 0 < n) (hp : PermN n p) (hbest : ∀ q, PermN n q → worthN n c q ≤ worthN n c p) : ∀ (m : Nat) (s f : Nat → Nat), WayN n p s f m → f m < n → wayG c p s f m ≤ gainD n c p (n - 1) (f m) := by
  intro m
  induction m using Nat.strongRecOn with
  | _ m ih =>
    intro s f hw hfm
    by_cases hm : m ≤ n - 1
    · exact Int.le_trans (way_gainD m hw) (gainD_mono hm _)
    · have hlt : ∀ t, t ≤ n → f t < n := fun t ht => by
        by_cases e : t = m
        · subst e; exact hfm
        · rw [(hw t (by omega)).2]; exact hp.1 _ (hw t (by omega)).1
      obtain ⟨a, b, h1, h2, h3, h4⟩ := first_back n (pigeon n f hlt)
      have hl := round_loses hp hbest (s := s) (f := f) h1 (fun t g1 g2 => hw t (by omega)) h3 h4
      have hk : ∀ k, b + k ≤ m → wayG c p (fun t => if t < a then s t else s (t + (b - a))) (fun t => if t < a then f t else f (t + (b - a))) (a + k) = wayG c p s f a + (wayG c p s f (b + k) - wayG c p s f b) := by
        intro k
        induction k with
        | zero =>
          intro _
          have : ∀ k, k ≤ a → wayG c p (fun t => if t < a then s t else s (t + (b - a))) (fun t => if t < a then f t else f (t + (b - a))) k = wayG c p s f k := by
            intro k hk
            induction k with
            | zero => rfl
            | succ k ihk =>
              simp only [wayG]
              rw [ihk (by omega), if_pos (by omega)]
              by_cases e : k + 1 < a
              · rw [if_pos e]
              · have e' : k + 1 = a := by omega
                rw [if_neg e, e', show a + (b - a) = b from by omega, h3]
          rw [Nat.add_zero, this a (Nat.le_refl _)]; simp
        | succ k ihk =>
          intro hk
          rw [show a + (k + 1) = a + k + 1 from by omega]
          simp only [wayG]
          rw [ihk (by omega), if_neg (by omega), if_neg (by omega), show a + k + (b - a) = b + k from by omega, show a + k + 1 + (b - a) = b + k + 1 from by omega]
          simp only [Nat.add_eq]; omega
      have hkm := hk (m - b) (by omega)
      rw [show b + (m - b) = m from by omega] at hkm
      have := ih (a + (m - b)) (by omega) (fun t => if t < a then s t else s (t + (b - a))) (fun t => if t < a then f t else f (t + (b - a))) (fun t ht => by
        by_cases e : t < a
        · simp only [if_pos e]; exact hw t (by omega)
        · simp only [if_neg e]; exact hw (t + (b - a)) (by omega)) (by
        show (if a + (m - b) < a then f (a + (m - b)) else f (a + (m - b) + (b - a))) < n
        rw [if_neg (by omega), show a + (m - b) + (b - a) = m from by omega]; exact hfm)
      have this : wayG c p (fun t => if t < a then s t else s (t + (b - a))) (fun t => if t < a then f t else f (t + (b - a))) (a + (m - b)) ≤ gainD n c p (n - 1) (if a + (m - b) < a then f (a + (m - b)) else f (a + (m - b) + (b - a))) := this
      rw [if_neg (show ¬ a + (m - b) < a by omega), show a + (m - b) + (b - a) = m from by omega] at this
      omega
/-- prices at rest -/
theorem gainD_closed (hn : 0 < n) (hp : PermN n p) (hbest : ∀ q, PermN n q → worthN n c q ≤ worthN n c p) {i j : Nat} (hi : i < n) (hj : j < n) : gainD n c p (n - 1) (p i) + gain c p i j ≤ gainD n c p (n - 1) j := by
  have h1 := gainM_step (c := c) (p := p) (r := gainD n c p (n - 1)) (j := j) hi
  obtain ⟨m, s, f, g1, g2, g3, g4⟩ := gainD_way (n := n) (c := c) (p := p) (n - 1 + 1) j
  simp only [gainD] at g4
  have := gainD_rest hn hp hbest m s f g2 (by rw [g3]; exact hj)
  rw [g3] at this
  omega
theorem gainD_bound {B : Int} (hB : ∀ i j, i < n → j < n → gain c p i j ≤ B) (hB0 : 0 ≤ B) {j : Nat} (hj : j < n) (hp : ∀ i, i < n → p i < n) : ∀ r : Nat, gainD n c p r j ≤ r * B := by
  intro r
  induction r generalizing j with
  | zero => simp [gainD]
  | succ r ih =>
    simp only [gainD]
    rw [show ((r + 1 : Nat) : Int) * B = r * B + B from by rw [Int.natCast_add, Int.add_mul]; simp]
    rcases gainM_is (c := c) (p := p) (r := gainD n c p r) (j := j) (m := n) with h | ⟨i, hi, h⟩
    · rw [h]; have := ih hj; omega
    · rw [h]; have := ih (hp i hi); have := hB i j hi hj; omega
end
end Go.Eng
