import Derived.Test.YtdpnplanohgecaaDoorEngVr
import Derived.Test.YtdpnplanohgecaaDoorEngRe
set_option linter.unusedSimpArgs false
set_option linter.unusedVariables false
set_option linter.unusedSectionVars false
section
namespace Go.Eng
def sumN : Nat → (Nat → Int) → Int
  | 0, _ => 0
  | n + 1, f => sumN n f + f n
theorem sumN_congr {f g : Nat → Int} : ∀ {n : Nat}, (∀ i, i < n → f i = g i) → sumN n f = sumN n g
  | 0, _ => rfl
  | n + 1, h => by simp only [sumN]; rw [sumN_congr (fun i hi => h i (by omega)), h n (by omega)]
theorem sumN_add {f g : Nat → Int} : ∀ {n : Nat}, sumN n (fun i => f i + g i) = sumN n f + sumN n g
  | 0 => rfl
  | n + 1 => by simp only [sumN]; rw [sumN_add]; omega
theorem sumN_sub {f g : Nat → Int} : ∀ {n : Nat}, sumN n (fun i => f i - g i) = sumN n f - sumN n g
  | 0 => rfl
  | n + 1 => by simp only [sumN]; rw [sumN_sub]; omega
theorem sumN_zero : ∀ {n : Nat}, sumN n (fun _ => 0) = 0
  | 0 => rfl
  | n + 1 => by simp only [sumN]; rw [sumN_zero]; rfl
theorem sumN_le {f g : Nat → Int} : ∀ {n : Nat}, (∀ i, i < n → f i ≤ g i) → sumN n f ≤ sumN n g
  | 0, _ => Int.le_refl _
  | n + 1, h => by simp only [sumN]; have := sumN_le (n := n) (fun i hi => h i (by omega)); have := h n (by omega); omega
theorem sumN_swap {f : Nat → Nat → Int} {m : Nat} : ∀ {n : Nat}, sumN n (fun i => sumN m (fun t => f i t)) = sumN m (fun t => sumN n (fun i => f i t))
  | 0 => by simp only [sumN]; exact sumN_zero.symm
  | n + 1 => by simp only [sumN]; rw [sumN_swap, sumN_add]
theorem sumN_one {n k : Nat} {x : Nat → Int} (hk : k < n) : sumN n (fun i => if i = k then x i else 0) = x k := by
  induction n with
  | zero => omega
  | succ n ih =>
    simp only [sumN]
    by_cases h : n = k
    · subst h
      rw [if_pos rfl, sumN_congr (g := fun _ => 0) (fun i hi => if_neg (by omega)), sumN_zero]; omega
    · rw [if_neg h, ih (by omega)]; omega
theorem sumN_none {n : Nat} {p : Nat → Prop} [DecidablePred p] {x : Nat → Int} (h : ∀ i, i < n → ¬ p i) : sumN n (fun i => if p i then x i else 0) = 0 := by
  rw [sumN_congr (g := fun _ => 0) (fun i hi => if_neg (h i hi)), sumN_zero]
theorem pigeon : ∀ (n : Nat) (f : Nat → Nat), (∀ t, t ≤ n → f t < n) → ∃ a b, a < b ∧ b ≤ n ∧ f a = f b
  | 0, f, h => by have := h 0 (by omega); omega
  | n + 1, f, h => by
    by_cases hx : ∃ t, t ≤ n ∧ f t = f (n + 1)
    · obtain ⟨t, h1, h2⟩ := hx
      exact ⟨t, n + 1, by omega, by omega, h2⟩
    · obtain ⟨a, b, h1, h2, h3⟩ := pigeon n (fun t => if f t = n then f (n + 1) else f t) (fun t ht => by
        have h1 := h t (by omega)
        have h2 := h (n + 1) (by omega)
        have h3 : f t ≠ f (n + 1) := fun e => hx ⟨t, ht, e⟩
        show (if f t = n then f (n + 1) else f t) < n
        split <;> omega)
      refine ⟨a, b, h1, by omega, ?_⟩
      have ha : f a ≠ f (n + 1) := fun e => hx ⟨a, by omega, e⟩
      have hb : f b ≠ f (n + 1) := fun e => hx ⟨b, by omega, e⟩
      have h3 : (if f a = n then f (n + 1) else f a) = (if f b = n then f (n + 1) else f b) := h3
      split at h3 <;> split at h3 <;> omega
theorem first_back {f : Nat → Nat} : ∀ (m : Nat), (∃ a b, a < b ∧ b ≤ m ∧ f a = f b) → ∃ a b, a < b ∧ b ≤ m ∧ f a = f b ∧ ∀ s t, s < t → t < b → f s ≠ f t
  | 0, h => by obtain ⟨a, b, h1, h2, _⟩ := h; omega
  | m + 1, h => by
    by_cases hx : ∃ a b, a < b ∧ b ≤ m ∧ f a = f b
    · obtain ⟨a, b, h1, h2, h3⟩ := first_back m hx
      exact ⟨a, b, h1, by omega, h3⟩
    · obtain ⟨a, b, h1, h2, h3⟩ := h
      exact ⟨a, b, h1, h2, h3, fun s t hs ht e => hx ⟨s, t, hs, by omega, e⟩⟩
theorem hit_all {n : Nat} {p : Nat → Nat} (hp : ∀ i, i < n → p i < n) (hi : ∀ i j, i < n → j < n → p i = p j → i = j) (k : Nat) (hk : k < n) : ∃ i, i < n ∧ p i = k := by
  apply Classical.byContradiction
  intro hn
  obtain ⟨a, b, h1, h2, h3⟩ := pigeon n (fun t => if t = n then k else p t) (fun t ht => by
    show (if t = n then k else p t) < n
    split
    · exact hk
    · exact hp t (by omega))
  have h3 : (if a = n then k else p a) = (if b = n then k else p b) := h3
  rw [if_neg (by omega)] at h3
  split at h3
  · exact hn ⟨a, by omega, h3⟩
  · have := hi a b (by omega) (by omega) h3; omega
theorem sumN_perm {n : Nat} {p : Nat → Nat} (hp : ∀ i, i < n → p i < n) (hi : ∀ i j, i < n → j < n → p i = p j → i = j) (v : Nat → Int) : sumN n (fun i => v (p i)) = sumN n v := by
  have e1 : sumN n (fun i => v (p i)) = sumN n (fun i => sumN n (fun k => if k = p i then v k else 0)) := sumN_congr (fun i h => (sumN_one (hp i h)).symm)
  rw [e1, sumN_swap]
  refine sumN_congr (fun k hk => ?_)
  obtain ⟨i, h1, h2⟩ := hit_all hp hi k hk
  have : sumN n (fun j => if k = p j then v k else 0) = sumN n (fun j => if j = i then v k else 0) := sumN_congr (fun j hj => by
    by_cases e : j = i
    · subst e; rw [if_pos h2.symm, if_pos rfl]
    · rw [if_neg e, if_neg (fun e' => e (hi j i hj h1 (by omega)))])
  rw [this, sumN_one (x := fun _ => v k) h1]
def PermN (n : Nat) (q : Nat → Nat) : Prop := (∀ i, i < n → q i < n) ∧ ∀ i j, i < n → j < n → q i = q j → i = j
def worthN (n : Nat) (c : Nat → Nat → Int) (q : Nat → Nat) : Int := sumN n (fun i => c i (q i))
def gain (c : Nat → Nat → Int) (p : Nat → Nat) (i j : Nat) : Int := c i j - c i (p i)
def gainM (c : Nat → Nat → Int) (p : Nat → Nat) (r : Nat → Int) : Nat → Nat → Int
  | 0, j => r j
  | i + 1, j => max (gainM c p r i j) (r (p i) + gain c p i j)
def gainD (n : Nat) (c : Nat → Nat → Int) (p : Nat → Nat) : Nat → Nat → Int
  | 0, _ => 0
  | r + 1, j => gainM c p (gainD n c p r) n j
section
variable {n : Nat} {c : Nat → Nat → Int} {p : Nat → Nat}
theorem gainM_ge {r : Nat → Int} {j : Nat} : ∀ {m : Nat}, r j ≤ gainM c p r m j
  | 0 => Int.le_refl _
  | m + 1 => by have := gainM_ge (r := r) (j := j) (m := m); simp only [gainM]; omega
theorem gainM_step {r : Nat → Int} {j i : Nat} : ∀ {m : Nat}, i < m → r (p i) + gain c p i j ≤ gainM c p r m j
  | m + 1, h => by
    simp only [gainM]
    by_cases e : i = m
    · subst e; omega
    · have := gainM_step (r := r) (j := j) (i := i) (m := m) (by omega); omega
theorem gainM_is {r : Nat → Int} {j : Nat} : ∀ {m : Nat}, gainM c p r m j = r j ∨ ∃ i, i < m ∧ gainM c p r m j = r (p i) + gain c p i j
  | 0 => .inl rfl
  | m + 1 => by
    simp only [gainM]
    by_cases h : r (p m) + gain c p m j ≤ gainM c p r m j
    · rw [show max (gainM c p r m j) (r (p m) + gain c p m j) = gainM c p r m j from by omega]
      rcases gainM_is (r := r) (j := j) (m := m) with h1 | ⟨i, h1, h2⟩
      · exact .inl h1
      · exact .inr ⟨i, by omega, h2⟩
    · exact .inr ⟨m, by omega, by omega⟩
def wayG (c : Nat → Nat → Int) (p : Nat → Nat) (s f : Nat → Nat) : Nat → Int
  | 0 => 0
  | m + 1 => wayG c p s f m + gain c p (s m) (f (m + 1))
def WayN (n : Nat) (p : Nat → Nat) (s f : Nat → Nat) (m : Nat) : Prop := ∀ t, t < m → s t < n ∧ f t = p (s t)
theorem gainD_way : ∀ (r j : Nat), ∃ m s f, m ≤ r ∧ WayN n p s f m ∧ f m = j ∧ gainD n c p r j = wayG c p s f m
  | 0, j => ⟨0, fun _ => 0, fun _ => j, Nat.le_refl _, fun t ht => by omega, rfl, rfl⟩
  | r + 1, j => by
    simp only [gainD]
    rcases gainM_is (c := c) (p := p) (r := gainD n c p r) (j := j) (m := n) with h | ⟨i, hi, h⟩
    · obtain ⟨m, s, f, h1, h2, h3, h4⟩ := gainD_way r j
      exact ⟨m, s, f, by omega, h2, h3, by rw [h, h4]⟩
    · obtain ⟨m, s, f, h1, h2, h3, h4⟩ := gainD_way r (p i)
      have hw : ∀ k, k ≤ m → wayG c p (fun t => if t = m then i else s t) (fun t => if t = m + 1 then j else f t) k = wayG c p s f k := by
        intro k hk
        induction k with
        | zero => rfl
        | succ k ih =>
          simp only [wayG]
          rw [ih (by omega), if_neg (by omega), if_neg (by omega)]
      refine ⟨m + 1, fun t => if t = m then i else s t, fun t => if t = m + 1 then j else f t, by omega, fun t ht => ?_, by simp, ?_⟩
      · by_cases e : t = m
        · subst e
          simp only [if_pos, if_neg (show ¬ t = t + 1 by omega)]
          exact ⟨hi, h3⟩
        · simp only [if_neg e, if_neg (show ¬ t = m + 1 by omega)]
          exact h2 t (by omega)
      · simp only [wayG]
        rw [hw m (Nat.le_refl _), h, h4]; simp
theorem way_gainD {s f : Nat → Nat} : ∀ (m : Nat), WayN n p s f m → wayG c p s f m ≤ gainD n c p m (f m)
  | 0, _ => Int.le_refl _
  | m + 1, h => by
    have ih := way_gainD m (fun t ht => h t (by omega))
    obtain ⟨h1, h2⟩ := h m (by omega)
    have := gainM_step (c := c) (p := p) (r := gainD n c p m) (j := f (m + 1)) h1
    rw [← h2] at this
    simp only [wayG, gainD]; omega
theorem gainD_mono {r r' : Nat} (h : r ≤ r') (j : Nat) : gainD n c p r j ≤ gainD n c p r' j := by
  induction h with
  | refl => exact Int.le_refl _
  | step _ ih => exact Int.le_trans ih (by simp only [gainD]; exact gainM_ge)
theorem round_loses (hp : PermN n p) (hbest : ∀ q, PermN n q → worthN n c q ≤ worthN n c p) {s f : Nat → Nat} {a b : Nat} (hab : a < b) (hw : ∀ t, a ≤ t → t < b → s t < n ∧ f t = p (s t)) (hf : f a = f b) (hone : ∀ s t, s < t → t < b → f s ≠ f t) :
    wayG c p s f b ≤ wayG c p s f a := by
  have hs : ∀ t t', a ≤ t → t < b → a ≤ t' → t' < b → s t = s t' → t = t' := fun t t' h1 h2 h3 h4 e => by
    have e2 : f t = f t' := by rw [(hw t h1 h2).2, (hw t' h3 h4).2, e]
    rcases Nat.lt_trichotomy t t' with h | h | h
    · exact absurd e2 (hone t t' h h4)
    · exact h
    · exact absurd e2.symm (hone t' t h h2)
  -- the number of the step of person i, if there is one
  have hq : ∀ i, ∃ k, (∃ t, a ≤ t ∧ t < b ∧ s t = i ∧ k = f (t + 1)) ∨ ((∀ t, a ≤ t → t < b → s t ≠ i) ∧ k = p i) := fun i => by
    by_cases h : ∃ t, a ≤ t ∧ t < b ∧ s t = i
    · obtain ⟨t, h1, h2, h3⟩ := h
      exact ⟨f (t + 1), .inl ⟨t, h1, h2, h3, rfl⟩⟩
    · exact ⟨p i, .inr ⟨fun t h1 h2 h3 => h ⟨t, h1, h2, h3⟩, rfl⟩⟩
  obtain ⟨q, hq⟩ := Classical.axiomOfChoice hq
  have hqs : ∀ t, a ≤ t → t < b → q (s t) = f (t + 1) := fun t h1 h2 => by
    rcases hq (s t) with ⟨t', g1, g2, g3, g4⟩ | ⟨g, _⟩
    · have := hs t' t g1 g2 h1 h2 g3; subst this; exact g4
    · exact absurd rfl (g t h1 h2)
  have hqo : ∀ i, (∀ t, a ≤ t → t < b → s t ≠ i) → q i = p i := fun i h => by
    rcases hq i with ⟨t', g1, g2, g3, g4⟩ | ⟨_, g⟩
    · exact absurd g3 (h t' g1 g2)
    · exact g
  -- what is next on the round is had by a person of the round
  have hnx : ∀ t, a ≤ t → t < b → ∃ t', a ≤ t' ∧ t' < b ∧ f (t + 1) = f t' ∧ (t' = if t + 1 = b then a else t + 1) := fun t h1 h2 => by
    by_cases e : t + 1 = b
    · exact ⟨a, Nat.le_refl _, hab, by rw [e, hf], by rw [if_pos e]⟩
    · exact ⟨t + 1, by omega, by omega, rfl, by rw [if_neg e]⟩
  have hpq : PermN n q := by
    refine ⟨fun i hi => ?_, fun i j hi hj e => ?_⟩
    · rcases hq i with ⟨t, g1, g2, g3, g4⟩ | ⟨_, g⟩
      · obtain ⟨t', k1, k2, k3, _⟩ := hnx t g1 g2
        rw [g4, k3, (hw t' k1 k2).2]; exact hp.1 _ (hw t' k1 k2).1
      · rw [g]; exact hp.1 i hi
    · rcases hq i with ⟨t, g1, g2, g3, g4⟩ | ⟨g3, g4⟩
      · obtain ⟨t1, k1, k2, k3, k4⟩ := hnx t g1 g2
        rcases hq j with ⟨t', l1, l2, l3, l4⟩ | ⟨l3, l4⟩
        · obtain ⟨t2, m1, m2, m3, m4⟩ := hnx t' l1 l2
          have e2 : f t1 = f t2 := by rw [← k3, ← m3, ← g4, ← l4, e]
          have : t1 = t2 := by
            rcases Nat.lt_trichotomy t1 t2 with h | h | h
            · exact absurd e2 (hone t1 t2 h m2)
            · exact h
            · exact absurd e2.symm (hone t2 t1 h k2)
          have : t = t' := by split at k4 <;> split at m4 <;> omega
          subst this; rw [← g3, ← l3]
        · have e2 : p (s t1) = p j := by rw [← (hw t1 k1 k2).2, ← k3, ← g4, e, l4]
          exact absurd (hp.2 _ _ (hw t1 k1 k2).1 hj e2) (l3 t1 k1 k2)
      · rcases hq j with ⟨t', l1, l2, l3, l4⟩ | ⟨l3, l4⟩
        · obtain ⟨t2, m1, m2, m3, m4⟩ := hnx t' l1 l2
          have e2 : p (s t2) = p i := by rw [← (hw t2 m1 m2).2, ← m3, ← l4, ← e, g4]
          exact absurd (hp.2 _ _ (hw t2 m1 m2).1 hi e2) (g3 t2 m1 m2)
        · exact hp.2 i j hi hj (by rw [← g4, ← l4, e])
  have hb := hbest q hpq
  have e1 : worthN n c q - worthN n c p = sumN n (fun i => gain c p i (q i)) := by
    rw [worthN, worthN, ← sumN_sub]; rfl
  have e2 : sumN n (fun i => gain c p i (q i)) = sumN n (fun i => sumN (b - a) (fun t => if i = s (a + t) then gain c p i (f (a + t + 1)) else 0)) := by
    refine sumN_congr (fun i hi => ?_)
    rcases hq i with ⟨t, g1, g2, g3, g4⟩ | ⟨g3, g4⟩
    · have : sumN (b - a) (fun u => if i = s (a + u) then gain c p i (f (a + u + 1)) else 0) = sumN (b - a) (fun u => if u = t - a then gain c p i (f (t + 1)) else 0) := sumN_congr (fun u hu => by
        by_cases e : u = t - a
        · have e' : a + u = t := by omega
          rw [if_pos e, e', if_pos g3.symm]
        · rw [if_neg e, if_neg (fun e' => e (by have := hs (a + u) t (by omega) (by omega) g1 g2 (by rw [← e', g3]); omega))])
      rw [this, sumN_one (x := fun _ => gain c p i (f (t + 1))) (by omega), g4]
    · rw [sumN_none (fun u hu e => g3 (a + u) (by omega) (by omega) e.symm), g4]
      simp [gain]
  have e3 : ∀ k, a + k ≤ b → sumN k (fun t => gain c p (s (a + t)) (f (a + t + 1))) = wayG c p s f (a + k) - wayG c p s f a := fun k => by
    induction k with
    | zero => intro _; simp [sumN]
    | succ k ih => intro hk; simp only [sumN]; rw [ih (by omega), show a + (k + 1) = (a + k) + 1 from by omega]; simp only [wayG]; omega
  have e4 : sumN n (fun i => sumN (b - a) (fun t => if i = s (a + t) then gain c p i (f (a + t + 1)) else 0)) = sumN (b - a) (fun t => gain c p (s (a + t)) (f (a + t + 1))) := by
    rw [sumN_swap]
    refine sumN_congr (fun t ht => ?_)
    rw [sumN_one (x := fun i => gain c p i (f (a + t + 1))) (hw (a + t) (by omega) (by omega)).1]
  have := e3 (b - a) (by omega)
  rw [show a + (b - a) = b from by omega] at this
  omega
theorem gainD_rest (hn : 0 < n) (hp : PermN n p) (hbest : ∀ q, PermN n q → worthN n c q ≤ worthN n c p) : ∀ (m : Nat) (s f : Nat → Nat), WayN n p s f m → f m < n → wayG c p s f m ≤ gainD n c p (n - 1) (f m) := by
  intro m
  induction m using Nat.strongRecOn with
  | _ m ih =>
    intro s f hw hfm
    by_cases hm : m ≤ n - 1
    · exact Int.le_trans (way_gainD m hw) (gainD_mono hm _)
    · have hlt : ∀ t, t ≤ n → f t < n := fun t ht => by
        by_cases e : t = m
        · subst e; exact hfm
        · rw [(hw t (by omega)).2]; exact hp.1 _ (hw t (by omega)).1
      obtain ⟨a, b, h1, h2, h3, h4⟩ := first_back n (pigeon n f hlt)
      have hl := round_loses hp hbest (s := s) (f := f) h1 (fun t g1 g2 => hw t (by omega)) h3 h4
      have hk : ∀ k, b + k ≤ m → wayG c p (fun t => if t < a then s t else s (t + (b - a))) (fun t => if t < a then f t else f (t + (b - a))) (a + k) = wayG c p s f a + (wayG c p s f (b + k) - wayG c p s f b) := by
        intro k
        induction k with
        | zero =>
          intro _
          have : ∀ k, k ≤ a → wayG c p (fun t => if t < a then s t else s (t + (b - a))) (fun t => if t < a then f t else f (t + (b - a))) k = wayG c p s f k := by
            intro k hk
            induction k with
            | zero => rfl
            | succ k ihk =>
              simp only [wayG]
              rw [ihk (by omega), if_pos (by omega)]
              by_cases e : k + 1 < a
              · rw [if_pos e]
              · have e' : k + 1 = a := by omega
                rw [if_neg e, e', show a + (b - a) = b from by omega, h3]
          rw [Nat.add_zero, this a (Nat.le_refl _)]; simp
        | succ k ihk =>
          intro hk
          rw [show a + (k + 1) = a + k + 1 from by omega]
          simp only [wayG]
          rw [ihk (by omega), if_neg (by omega), if_neg (by omega), show a + k + (b - a) = b + k from by omega, show a + k + 1 + (b - a) = b + k + 1 from by omega]
          simp only [Nat.add_eq]; omega
      have hkm := hk (m - b) (by omega)
      rw [show b + (m - b) = m from by omega] at hkm
      have := ih (a + (m - b)) (by omega) (fun t => if t < a then s t else s (t + (b - a))) (fun t => if t < a then f t else f (t + (b - a))) (fun t ht => by
        by_cases e : t < a
        · simp only [if_pos e]; exact hw t (by omega)
        · simp only [if_neg e]; exact hw (t + (b - a)) (by omega)) (by
        show (if a + (m - b) < a then f (a + (m - b)) else f (a + (m - b) + (b - a))) < n
        rw [if_neg (by omega), show a + (m - b) + (b - a) = m from by omega]; exact hfm)
      have this : wayG c p (fun t => if t < a then s t else s (t + (b - a))) (fun t => if t < a then f t else f (t + (b - a))) (a + (m - b)) ≤ gainD n c p (n - 1) (if a + (m - b) < a then f (a + (m - b)) else f (a + (m - b) + (b - a))) := this
      rw [if_neg (show ¬ a + (m - b) < a by omega), show a + (m - b) + (b - a) = m from by omega] at this
      omega
theorem gainD_closed (hn : 0 < n) (hp : PermN n p) (hbest : ∀ q, PermN n q → worthN n c q ≤ worthN n c p) {i j : Nat} (hi : i < n) (hj : j < n) : gainD n c p (n - 1) (p i) + gain c p i j ≤ gainD n c p (n - 1) j := by
  have h1 := gainM_step (c := c) (p := p) (r := gainD n c p (n - 1)) (j := j) hi
  obtain ⟨m, s, f, g1, g2, g3, g4⟩ := gainD_way (n := n) (c := c) (p := p) (n - 1 + 1) j
  simp only [gainD] at g4
  have := gainD_rest hn hp hbest m s f g2 (by rw [g3]; exact hj)
  rw [g3] at this
  omega
theorem gainD_bound {B : Int} (hB : ∀ i j, i < n → j < n → gain c p i j ≤ B) (hB0 : 0 ≤ B) {j : Nat} (hj : j < n) (hp : ∀ i, i < n → p i < n) : ∀ r : Nat, gainD n c p r j ≤ r * B := by
  intro r
  induction r generalizing j with
  | zero => simp [gainD]
  | succ r ih =>
    simp only [gainD]
    rw [show ((r + 1 : Nat) : Int) * B = r * B + B from by rw [Int.natCast_add, Int.add_mul]; simp]
    rcases gainM_is (c := c) (p := p) (r := gainD n c p r) (j := j) (m := n) with h | ⟨i, hi, h⟩
    · rw [h]; have := ih hj; omega
    · rw [h]; have := ih (hp i hi); have := hB i j hi hj; omega
end
end Go.Eng

end
section
namespace Go.Eng
def SlEmp (A : Option Addr) (c : Nat) : Prop := (A = none ∧ c = 0) ∨ (∃ b o, A = some ⟨b, o, none⟩) ∨ (A = some ⟨0, 0, some 1⟩ ∧ c = 0)
def SlOk (u : Value) (n : Nat) : Prop := (u = .slice none 0 0 ∧ n = 0) ∨ (∃ b o c, u = .slice (some ⟨b, o, none⟩) n (2 * c) ∧ n ≤ c) ∨ (u = .slice (some ⟨0, 0, some 1⟩) 0 0 ∧ n = 0)
theorem SlOk.emp {A : Option Addr} {c n : Nat} (h : SlOk (.slice A n c) n) : SlEmp A c := by
  rcases h with ⟨h, _⟩ | ⟨b, o, c', h, _⟩ | ⟨h, _⟩
  · cases h; exact .inl ⟨rfl, rfl⟩
  · cases h; exact .inr (.inl ⟨b, o, rfl⟩)
  · cases h; exact .inr (.inr ⟨rfl, rfl⟩)
section
variable {α : Type} {sz : Nat} {enc : α → List Value}
def RowIn (sz : Nat) (enc : α → List Value) (W : AW) (v : Value) (l : List α) : Prop :=
  ∃ A c, v = .slice A l.length c ∧ (l.length = 0 → SlEmp A c) ∧ ∀ i a, l[i]? = some a → ∃ b o, A = some ⟨b, o, none⟩ ∧ ∀ j u, (enc a)[j]? = some u → W.Has b (o + i * sz + j) u
theorem RowIn.only {W W' : AW} {v : Value} {l : List α} {K : Nat → Prop} (h : RowIn sz enc W v l) (he : Only K W W') (hk : ∀ b, b < W.next → ¬ K b) : RowIn sz enc W' v l := by
  obtain ⟨A, c, h1, h0, h2⟩ := h
  refine ⟨A, c, h1, h0, fun i a hi => ?_⟩
  obtain ⟨b, o, g1, g2⟩ := h2 i a hi
  exact ⟨b, o, g1, fun j u hu => (g2 j u hu).only he (hk b (g2 j u hu).1)⟩
theorem RowIn.ext {W W' : AW} {v : Value} {l : List α} (h : RowIn sz enc W v l) (he : Ext W W') : RowIn sz enc W' v l := h.only he (fun _ _ x => x)
theorem RowIn.len {W : AW} {v : Value} {l : List α} (h : RowIn sz enc W v l) : ∃ A c, v = .slice A l.length c := let ⟨A, c, h, _⟩ := h; ⟨A, c, h⟩
theorem RowIn.nil (W : AW) : RowIn sz enc W (.slice none 0 0) ([] : List α) := ⟨none, 0, rfl, fun _ => .inl ⟨rfl, rfl⟩, fun i a h => by simp at h⟩
def flatE (enc : α → List Value) (l : List α) : List Value := l.flatMap enc
theorem flatE_append (l m : List α) : flatE enc (l ++ m) = flatE enc l ++ flatE enc m := List.flatMap_append
theorem flatE_one (a : α) : flatE enc [a] = enc a := by simp [flatE]
theorem flatE_len (he : ∀ a, (enc a).length = sz) : ∀ l : List α, (flatE enc l).length = l.length * sz
  | [] => by simp [flatE]
  | a :: l => by
    rw [flatE, List.flatMap_cons, List.length_append, ← flatE, flatE_len he l, List.length_cons, he, Nat.add_mul]; omega
theorem flatE_get (he : ∀ a, (enc a).length = sz) : ∀ (l : List α) (i : Nat) (a : α), l[i]? = some a → ∀ j, j < sz → (flatE enc l)[i * sz + j]? = (enc a)[j]?
  | [], _, _, h => by simp at h
  | x :: l, 0, a, h => by
    simp only [List.getElem?_cons_zero, Option.some.injEq] at h; subst h
    intro j hj
    rw [flatE, List.flatMap_cons, List.getElem?_append_left (by rw [he]; omega)]
    simp
  | x :: l, i + 1, a, h => by
    intro j hj
    rw [flatE, List.flatMap_cons, List.getElem?_append_right (by rw [he, Nat.add_mul]; omega), ← flatE]
    have := flatE_get he l i a (by simpa using h) j hj
    rw [← this]
    congr 1
    rw [he, Nat.add_mul]; omega
theorem RowIn.of_cells (he : ∀ a, (enc a).length = sz) {W : AW} {b c : Nat} {l : List α} (h : ∀ i u, (flatE enc l)[i]? = some u → W.Has b i u) : RowIn sz enc W (.slice (some ⟨b, 0, none⟩) l.length c) l := by
  refine ⟨_, _, rfl, fun _ => .inr (.inl ⟨_, _, rfl⟩), fun i a hi => ⟨b, 0, rfl, fun j u hu => ?_⟩⟩
  have hj : j < sz := by have := (List.getElem?_eq_some_iff.1 hu).1; rw [he] at this; exact this
  rw [Nat.zero_add]
  exact h _ _ (by rw [flatE_get he l i a hi j hj]; exact hu)
theorem GrowsN.row (he : ∀ a, (enc a).length = sz) {W : AW} {v : Value} {l : List α} {el : TypeId} {K : Nat → Prop} (h : GrowsN W v l.length (flatE enc l) el sz K) : RowIn sz enc W v l := by
  by_cases hl : l.length = 0
  · obtain ⟨_, ⟨h1, rfl⟩ | ⟨b, c, kin, _, h2, _⟩⟩ := h
    · rw [List.length_eq_zero_iff] at hl; subst hl; exact .nil W
    · omega
  · obtain ⟨b, rfl, _, _, _, hh⟩ := h.has (by omega)
    exact .of_cells he hh
theorem HeldN.row (he : ∀ a, (enc a).length = sz) {W : AW} {v : Value} {l : List α} {el : TypeId} {K : Nat → Prop} (h : HeldN W v l.length (flatE enc l) el sz K) : RowIn sz enc W v l := by
  rcases h with h | h
  · have hn : 0 < l.length := by obtain ⟨_, b, c, kin, _, hn, _⟩ := h; exact hn
    obtain ⟨b, c, rfl, _, _, hh⟩ := HeldN.has (.inl h) hn
    exact .of_cells he hh
  · exact h.row he
theorem Var.row (he : ∀ a, (enc a).length = sz) {W : AW} {p c : Nat} {l : List α} {el : TypeId} (h : Var W p el (flatE enc l)) : RowIn sz enc W (.slice (some ⟨p, 0, none⟩) l.length c) l := .of_cells he (fun i u hu => h.has hu)
theorem RowIn.at {W : AW} {v : Value} {l : List α} (h : RowIn sz enc W v l) {i : Nat} {a : α} (hi : l[i]? = some a) {T : Tabs} {t e : TypeId} (hd : T.und.get t = some (.slice e)) (hs : aSize T e = some sz) (k : IntKind) :
    ∃ b p, aIndexAddr T t v (.int k (i : Int)) = some (.pointer (some ⟨b, p, none⟩)) ∧ ∀ j u, (enc a)[j]? = some u → W.Has b (p + j) u := by
  obtain ⟨A, c, rfl, _, h2⟩ := h
  obtain ⟨b, o, rfl, g⟩ := h2 i a hi
  exact ⟨b, o + i * sz, indexAddr_slice hd hs (List.getElem?_eq_some_iff.1 hi).1, g⟩
theorem load_cells {T : Tabs} {W : AW} {t : TypeId} {d : TypeDesc} {i : TypeInfo} (hd : T.und.get t = some d) (ha : isAggD d = true) (hi : T.info.get t = some i) {b p : Nat} {l : List Value} (hs : i.size = l.length) (hl : 0 < l.length) (h : ∀ j u, l[j]? = some u → W.Has b (p + j) u) :
    aLoadVar T W t b p = some (.agg ⟨l⟩) := by
  refine loadVar_agg hd ha hi ?_
  rw [hs]
  exact cellsAt_of_cells rfl (has_blk (h 0 _ (List.getElem?_eq_getElem hl))) (fun j hj => by
    rw [(h j _ (List.getElem?_eq_getElem hj)).2, List.getElem?_eq_getElem hj]) hl
theorem RowIn.slice {T : Tabs} {W : AW} {u : Value} {l : List α} {t e : TypeId} (hu : T.und.get t = some (.slice e)) (hs : aSize T e = some sz) (hS : SlOk u l.length) (h : RowIn sz enc W u l) {k : Nat} (hk : k ≤ l.length) :
    ∃ u', (∀ W', aSliceOp T W' t u none (some (.int .i64 (k : Nat))) none = some u') ∧ SlOk u' k ∧ RowIn sz enc W u' (l.take k) := by
  have hlen : (l.take k).length = k := by rw [List.length_take]; omega
  have emp : l.length = 0 → ∀ A c, SlEmp A c → RowIn sz enc W (.slice A 0 c) (l.take k) := fun h0 A c hA => by
    have : l.take k = [] := List.length_eq_zero_iff.1 (by omega)
    rw [this]; exact ⟨A, c, rfl, fun _ => hA, fun i a hi => by simp at hi⟩
  rcases hS with ⟨rfl, h0⟩ | ⟨b, o, c, rfl, hc⟩ | ⟨rfl, h0⟩
  · obtain rfl : k = 0 := by omega
    exact ⟨_, fun W' => by simp only [aSliceOp, hu, hs]; rfl, .inl ⟨rfl, rfl⟩, emp h0 _ _ (.inl ⟨rfl, rfl⟩)⟩
  · have hb : aHi (some (.int .i64 (k : Nat))) l.length c = some k := by
      show aBound (.int .i64 (Int.ofNat k)) c = some k
      simp only [aBound, ble_dec, show k ≤ c from by omega, decide_true]
    have e1 : (2 * c) % 2 = 0 := by omega
    have e2 : 2 * c / 2 = c := by omega
    have hsh : shiftTo o c 0 sz = o := by unfold shiftTo; split <;> simp
    refine ⟨.slice (some ⟨b, o, none⟩) k (2 * c), ?_, .inr (.inl ⟨b, o, c, rfl, by omega⟩), ?_⟩
    · intro W'; simp only [aSliceOp, hu, hs, e1, e2, Nat.beq_refl, hb, aLo, hsh, Nat.sub_zero]
    · obtain ⟨A, c', hv, _, hh⟩ := h
      cases hv
      refine ⟨some ⟨b, o, none⟩, 2 * c, by rw [hlen], fun _ => .inr (.inl ⟨_, _, rfl⟩), fun i a hi => ?_⟩
      have hik : i < k := by
        have := (List.getElem?_eq_some_iff.1 hi).1
        omega
      rw [List.getElem?_take_of_lt hik] at hi
      exact hh i a hi
  · obtain rfl : k = 0 := by omega
    exact ⟨_, fun W' => by simp only [aSliceOp, hu, hs]; rfl, .inr (.inr ⟨rfl, rfl⟩), emp h0 _ _ (.inr (.inr ⟨rfl, rfl⟩))⟩
theorem cellsAt_len0 {W : AW} {b o : Nat} {k : List Value} (h : W.cellsAt b o 0 = some k) : k = [] := by
  unfold AW.cellsAt at h
  split at h
  · split at h
    · cases h; rfl
    · cases h
  · split at h
    · cases h; rfl
    · cases h
  · cases h
theorem oneCells_flatE (h1 : ∀ a, oneCells (enc a) = true) : ∀ l : List α, oneCells (flatE enc l) = true
  | [] => rfl
  | a :: l => by
    rw [flatE, List.flatMap_cons, ← flatE]
    have h2 := oneCells_flatE h1 l
    have : ∀ x : List Value, oneCells x = true → oneCells (x ++ flatE enc l) = true := fun x => by
      induction x with
      | nil => intro _; exact h2
      | cons y x ih =>
        intro hx
        simp only [oneCells, allB, List.cons_append] at hx ⊢
        split at hx
        · exact ih hx
        · cases hx
    exact this _ (h1 a)
theorem RowIn.src (he : ∀ a, (enc a).length = sz) (hsz : 0 < sz) {W : AW} {u : Value} {l : List α} (h : RowIn sz enc W u l) : aSrc W sz u = some (l.length, flatE enc l) := by
  obtain ⟨A, c, rfl, h0, hh⟩ := h
  by_cases hl : l.length = 0
  · have hn : l = [] := List.length_eq_zero_iff.1 hl
    subst hn
    rcases h0 rfl with ⟨rfl, rfl⟩ | ⟨b, o, rfl⟩ | ⟨rfl, rfl⟩
    · rfl
    · unfold aSrc
      simp only [List.length_nil, Nat.zero_mul]
      cases hc : W.cellsAt b o 0 with
      | none => rfl
      | some k => rw [cellsAt_len0 hc]; rfl
    · rfl
  · obtain ⟨b, o, rfl, hb⟩ := hh 0 _ (List.getElem?_eq_getElem (by omega))
    have e0 := he (l[0]'(by omega))
    have hc : W.cellsAt b o (l.length * sz) = some (flatE enc l) := by
      refine cellsAt_of_cells (flatE_len he l) (has_blk (hb 0 _ (List.getElem?_eq_getElem (by omega)))) (fun j hj => ?_) (Nat.mul_pos (by omega) hsz)
      have hq : j / sz < l.length := (Nat.div_lt_iff_lt_mul hsz).2 hj
      have hr : j % sz < sz := Nat.mod_lt _ hsz
      obtain ⟨b2, o2, e2, g⟩ := hh (j / sz) _ (List.getElem?_eq_getElem hq)
      cases e2
      have hf := flatE_get he l (j / sz) _ (List.getElem?_eq_getElem hq) (j % sz) hr
      have ej : j / sz * sz + j % sz = j := by rw [Nat.mul_comm]; exact Nat.div_add_mod j sz
      rw [ej] at hf
      have e3 := he l[j / sz]
      have := (g (j % sz) _ (List.getElem?_eq_getElem (by omega))).2
      rw [Nat.add_assoc, ej] at this
      rw [this, hf, List.getElem?_eq_getElem (by omega)]
    unfold aSrc; simp only [hc]
end
def encI (k : IntKind) (x : Int) : List Value := [.int k x]
def encB (b : Bool) : List Value := [.bool b]
def encP (a : Int × Int) : List Value := [.int .i64 a.1, .int .i64 a.2]
def encV (v : Value) : List Value := [v]
theorem encI_len {k : IntKind} (x : Int) : (encI k x).length = 1 := rfl
theorem encP_len (x : Int × Int) : (encP x).length = 2 := rfl
theorem encI_one {k : IntKind} (x : Int) : oneCells (encI k x) = true := rfl
abbrev IntR := RowIn 1 (encI .i64)
abbrev BoolR := RowIn 1 encB
abbrev PairR := RowIn 2 encP
theorem RowIn.int1 {k : IntKind} {W : AW} {v : Value} {l : List Int} (h : RowIn 1 (encI k) W v l) {i : Nat} {x : Int} (hi : l[i]? = some x) {T : Tabs} {t e : TypeId} {d : TypeDesc} (hd : T.und.get t = some (.slice e)) (hs : aSize T e = some 1) (he : T.und.get e = some d) (ha : isAggD d = false) :
    ∃ b p, aIndexAddr T t v (.int .i64 (i : Int)) = some (.pointer (some ⟨b, p, none⟩)) ∧ W.Has b p (.int k x) ∧ aLoadVar T W e b p = some (.int k x) := by
  obtain ⟨b, p, h1, h2⟩ := h.at hi hd hs .i64
  have := h2 0 _ (rfl : (encI k x)[0]? = some (.int k x))
  exact ⟨b, p, h1, this, by rw [loadVar_cell he ha]; exact this.2⟩
end Go.Eng

end
section
namespace Go.Eng
def cntB : Nat → Nat → Nat
  | 0, _ => 0
  | m + 1, x => cntB m x + if x.testBit m then 1 else 0
theorem bit_one (s r : Nat) : (1 <<< s).testBit r = decide (s = r) := by rw [Nat.one_shiftLeft, Nat.testBit_two_pow]
theorem bit_or (x s r : Nat) : (x ||| 1 <<< s).testBit r = (x.testBit r || decide (s = r)) := by rw [Nat.testBit_or, bit_one]
theorem cntB_or {x k : Nat} (h : x.testBit k = false) : ∀ {m : Nat}, cntB m (x ||| 1 <<< k) = cntB m x + if k < m then 1 else 0
  | 0 => by simp [cntB]
  | m + 1 => by
    simp only [cntB]
    rw [cntB_or h, bit_or]
    by_cases e : k = m
    · subst e
      rw [h, if_neg (Nat.lt_irrefl _), if_pos (Nat.lt_succ_self _)]; simp
    · rw [decide_eq_false e, Bool.or_false]
      by_cases hl : k < m
      · rw [if_pos hl, if_pos (show k < m + 1 by omega)]; omega
      · rw [if_neg hl, if_neg (show ¬ k < m + 1 by omega)]; omega
theorem cntB_zero : ∀ m : Nat, cntB m 0 = 0
  | 0 => rfl
  | m + 1 => by simp only [cntB]; rw [cntB_zero m]; simp
theorem or_ltp {x k n : Nat} (hx : x < 2 ^ n) (hk : k < n) : x ||| 1 <<< k < 2 ^ n := Nat.or_lt_two_pow hx (by rw [Nat.one_shiftLeft]; exact Nat.pow_lt_pow_right (by omega) hk)
theorem cntB_le {n x : Nat} (hx : x < 2 ^ n) : ∀ m : Nat, cntB m x ≤ n ∧ cntB m x ≤ m
  | 0 => ⟨Nat.zero_le _, Nat.le_refl _⟩
  | m + 1 => by
    have h := cntB_le hx m
    simp only [cntB]
    by_cases hm : m < n
    · split <;> omega
    · rw [Nat.testBit_lt_two_pow (Nat.lt_of_lt_of_le hx (Nat.pow_le_pow_right (by omega) (by omega)))]
      simp; omega
theorem full_bit (n i : Nat) : (2 ^ n - 1).testBit i = decide (i < n) := Nat.testBit_two_pow_sub_one n i
theorem full_or_free {n x : Nat} (hx : x < 2 ^ n) : x = 2 ^ n - 1 ∨ ∃ k, k < n ∧ x.testBit k = false := by
  by_cases h : ∃ k, k < n ∧ x.testBit k = false
  · exact .inr h
  · left
    apply Nat.eq_of_testBit_eq
    intro i
    rw [full_bit]
    by_cases hi : i < n
    · cases hb : x.testBit i with
      | true => rw [decide_eq_true hi]
      | false => exact absurd ⟨i, hi, hb⟩ h
    · rw [decide_eq_false hi]
      exact Nat.testBit_lt_two_pow (Nat.lt_of_lt_of_le hx (Nat.pow_le_pow_right (by omega) (by omega)))
theorem cntB_lt {n x m : Nat} (hx : x < 2 ^ n) {k : Nat} (hk : k < n) (hb : x.testBit k = false) (hm : n ≤ m) : cntB m x < n := by
  have h1 := cntB_or hb (m := m)
  rw [if_pos (by omega)] at h1
  have h2 := (cntB_le (or_ltp hx hk) m).1
  omega
theorem cntB_full (n : Nat) : ∀ m : Nat, cntB m (2 ^ n - 1) = min m n
  | 0 => by simp [cntB]
  | m + 1 => by
    simp only [cntB]
    rw [cntB_full n m, full_bit]
    by_cases h : m < n
    · rw [decide_eq_true h]; simp; omega
    · rw [decide_eq_false h]; simp; omega
theorem or_gt {x k : Nat} (h : x.testBit k = false) : x < x ||| 1 <<< k := by
  have h1 := Nat.left_le_or (n := x) (m := 1 <<< k)
  by_cases e : x = x ||| 1 <<< k
  · have := bit_or x k k
    rw [← e, h, decide_eq_true rfl] at this; simp at this
  · omega
abbrev pc (x : Nat) : Nat := cntB 40 x
structure BestN (n : Nat) (c : Nat → Nat → Int) (B : Nat → Int) : Prop where
  full : B (2 ^ n - 1) = 0
  le : ∀ t, t < 2 ^ n → ∀ q, q < n → t.testBit q = false → c (pc t) q + B (t ||| 1 <<< q) ≤ B t
  is : ∀ t, t < 2 ^ n → t ≠ 2 ^ n - 1 → ∃ q, q < n ∧ t.testBit q = false ∧ c (pc t) q + B (t ||| 1 <<< q) = B t
def tk (p : Nat → Nat) : Nat → Nat
  | 0 => 0
  | k + 1 => tk p k ||| 1 <<< p k
theorem tk_congr {p p' : Nat → Nat} : ∀ {k : Nat}, (∀ i, i < k → p i = p' i) → tk p k = tk p' k
  | 0, _ => rfl
  | k + 1, h => by simp only [tk]; rw [tk_congr (fun i hi => h i (by omega)), h k (by omega)]
theorem tk_bit {p : Nat → Nat} : ∀ {k r : Nat}, (tk p k).testBit r = true ↔ ∃ i, i < k ∧ p i = r
  | 0, r => by simp [tk]
  | k + 1, r => by
    simp only [tk]
    rw [bit_or, Bool.or_eq_true, decide_eq_true_eq, tk_bit]
    constructor
    · rintro (⟨i, h1, h2⟩ | h)
      · exact ⟨i, by omega, h2⟩
      · exact ⟨k, by omega, h⟩
    · rintro ⟨i, h1, h2⟩
      by_cases e : i = k
      · subst e; exact .inr h2
      · exact .inl ⟨i, by omega, h2⟩
theorem tk_lt {n : Nat} {p : Nat → Nat} : ∀ {k : Nat}, (∀ i, i < k → p i < n) → tk p k < 2 ^ n
  | 0, _ => by simp only [tk]; exact Nat.two_pow_pos n
  | k + 1, h => by simp only [tk]; exact or_ltp (tk_lt (fun i hi => h i (by omega))) (h k (by omega))
theorem tk_cnt {n : Nat} {p : Nat → Nat} (hn : n ≤ 40) : ∀ {k : Nat}, (∀ i, i < k → p i < n) → (∀ i j, i < j → j < k → p i ≠ p j) → pc (tk p k) = k
  | 0, _, _ => cntB_zero 40
  | k + 1, h, hd => by
    have ih := tk_cnt (k := k) hn (fun i hi => h i (by omega)) (fun i j h1 h2 => hd i j h1 (by omega))
    simp only [tk]
    have hb : (tk p k).testBit (p k) = false := by
      cases hb : (tk p k).testBit (p k) with
      | false => rfl
      | true => obtain ⟨i, h1, h2⟩ := tk_bit.1 hb; exact absurd h2 (hd i k h1 (by omega))
    have := cntB_or hb (m := 40)
    rw [if_pos (by have := h k (by omega); omega)] at this
    show cntB 40 (tk p k ||| 1 <<< p k) = k + 1
    rw [this]; exact congrArg (· + 1) ih
theorem tk_full {n : Nat} {p : Nat → Nat} (hn : n ≤ 40) (h : ∀ i, i < n → p i < n) (hd : ∀ i j, i < j → j < n → p i ≠ p j) : tk p n = 2 ^ n - 1 := by
  rcases full_or_free (tk_lt h) with e | ⟨k, hk, hb⟩
  · exact e
  · have h1 := cntB_lt (m := 40) (tk_lt h) hk hb hn
    have h2 := tk_cnt hn h hd
    have h2 : cntB 40 (tk p n) = n := h2
    omega
section
variable {n : Nat} {c : Nat → Nat → Int} {B : Nat → Int}
theorem BestN.most (hB : BestN n c B) (hn : n ≤ 40) {q : Nat → Nat} (hq : PermN n q) : worthN n c q ≤ B 0 := by
  have hd : ∀ i j, i < j → j < n → q i ≠ q j := fun i j h1 h2 e => by have := hq.2 i j (by omega) h2 e; omega
  have key : ∀ k, k ≤ n → sumN k (fun i => c i (q i)) + B (tk q k) ≤ B 0 := fun k => by
    induction k with
    | zero => intro _; simp [sumN, tk]
    | succ k ih =>
      intro hk
      have := ih (by omega)
      have hlt : tk q k < 2 ^ n := tk_lt (fun i hi => hq.1 i (by omega))
      have hb : (tk q k).testBit (q k) = false := by
        cases hb : (tk q k).testBit (q k) with
        | false => rfl
        | true => obtain ⟨i, h1, h2⟩ := tk_bit.1 hb; exact absurd h2 (hd i k h1 (by omega))
      have h2 := hB.le _ hlt (q k) (hq.1 k (by omega)) hb
      have h3 : pc (tk q k) = k := tk_cnt hn (fun i hi => hq.1 i (by omega)) (fun i j h1 h2 => hd i j h1 (by omega))
      rw [h3] at h2
      simp only [sumN, tk]; omega
  have h := key n (Nat.le_refl _)
  rw [tk_full hn hq.1 hd, hB.full] at h
  simp only [worthN]; omega
def Chosen (n : Nat) (c : Nat → Nat → Int) (B : Nat → Int) (ps : List Nat) : Prop := ∀ k, k < ps.length → ps.getD k 0 < n ∧ (tk (fun i => ps.getD i 0) k).testBit (ps.getD k 0) = false ∧
  c k (ps.getD k 0) + B (tk (fun i => ps.getD i 0) (k + 1)) = B (tk (fun i => ps.getD i 0) k) ∧
  ∀ q, q < ps.getD k 0 → ¬ ((tk (fun i => ps.getD i 0) k).testBit q = false ∧ c k q + B (tk (fun i => ps.getD i 0) k ||| 1 <<< q) = B (tk (fun i => ps.getD i 0) k))
theorem Chosen.nil : Chosen n c B [] := fun k h => by simp at h
theorem getD_app {ps : List Nat} {x i : Nat} (h : i < ps.length) : (ps ++ [x]).getD i 0 = ps.getD i 0 := by
  rw [List.getD_eq_getElem?_getD, List.getD_eq_getElem?_getD, List.getElem?_append_left h]
theorem getD_last {ps : List Nat} {x : Nat} : (ps ++ [x]).getD ps.length 0 = x := by
  rw [List.getD_eq_getElem?_getD, List.getElem?_append_right (Nat.le_refl _)]; simp
theorem tk_app {ps : List Nat} {x k : Nat} (h : k ≤ ps.length) : tk (fun i => (ps ++ [x]).getD i 0) k = tk (fun i => ps.getD i 0) k := tk_congr (fun i hi => getD_app (by omega))
theorem Chosen.snoc {ps : List Nat} (h : Chosen n c B ps) {x : Nat} (h1 : x < n) (h2 : (tk (fun i => ps.getD i 0) ps.length).testBit x = false) (h3 : c ps.length x + B (tk (fun i => ps.getD i 0) ps.length ||| 1 <<< x) = B (tk (fun i => ps.getD i 0) ps.length))
    (h4 : ∀ q, q < x → ¬ ((tk (fun i => ps.getD i 0) ps.length).testBit q = false ∧ c ps.length q + B (tk (fun i => ps.getD i 0) ps.length ||| 1 <<< q) = B (tk (fun i => ps.getD i 0) ps.length))) : Chosen n c B (ps ++ [x]) := fun k hk => by
  simp only [List.length_append, List.length_cons, List.length_nil] at hk
  by_cases e : k = ps.length
  · subst e
    have e1 : tk (fun i => (ps ++ [x]).getD i 0) ps.length = tk (fun i => ps.getD i 0) ps.length := tk_app (Nat.le_refl _)
    have e2 : tk (fun i => (ps ++ [x]).getD i 0) (ps.length + 1) = tk (fun i => ps.getD i 0) ps.length ||| 1 <<< x := by
      simp only [tk]; rw [e1, getD_last]
    rw [e1, e2, getD_last]
    exact ⟨h1, h2, h3, h4⟩
  · have := h k (by omega)
    rw [tk_app (by omega), tk_app (by omega), getD_app (by omega)]
    exact this
theorem Chosen.perm {ps : List Nat} (h : Chosen n c B ps) (hl : ps.length = n) : PermN n (fun i => ps.getD i 0) := by
  refine ⟨fun i hi => (h i (by omega)).1, fun i j hi hj e => ?_⟩
  have key : ∀ i j, i < j → j < n → ps.getD i 0 ≠ ps.getD j 0 := fun i j h1 h2 e => by
    have := (h j (by omega)).2.1
    rw [tk_bit.2 ⟨i, h1, e⟩] at this; cases this
  rcases Nat.lt_trichotomy i j with h1 | h1 | h1
  · exact absurd e (key i j h1 hj)
  · exact h1
  · exact absurd e.symm (key j i h1 hi)
theorem Chosen.worth {ps : List Nat} (h : Chosen n c B ps) (hB : BestN n c B) (hl : ps.length = n) (hn : n ≤ 40) : worthN n c (fun i => ps.getD i 0) = B 0 := by
  have hp := h.perm hl
  have hd : ∀ i j, i < j → j < n → ps.getD i 0 ≠ ps.getD j 0 := fun i j h1 h2 e => by have := hp.2 i j (by omega) h2 e; omega
  have key : ∀ k, k ≤ n → sumN k (fun i => c i (ps.getD i 0)) + B (tk (fun i => ps.getD i 0) k) = B 0 := fun k => by
    induction k with
    | zero => intro _; simp [sumN, tk]
    | succ k ih =>
      intro hk
      have := ih (by omega)
      have h2 := (h k (by omega)).2.2.1
      simp only [sumN]; omega
  have h1 := key n (Nat.le_refl _)
  rw [tk_full hn hp.1 hd, hB.full] at h1
  simp only [worthN]; omega
end
end Go.Eng

end
section
namespace Go.Eng
theorem wpK_range3 {T : Tabs} {f₀ : FuncId} {A : AAct} {W : AW} {Q : AExit → AAct → AW → Prop} {id : Nat} {g : Operand} {ps : Array Tmp} {asn bd : Code} {f : FuncId} {first cap : Array Value} {fn : Func}
    (hg : aEval T A.tmps g = some (.func (.func f) first cap)) (hf : T.funcs.get f = some fn)
    (h : ∀ W5 : AW, W5.next = W.next + 2 → (∀ b, b < W.next → W5.blocks.get b = W.blocks.get b) → W5.blocks.get W.next = some ⟨.deferred (some []), []⟩ → W5.blocks.get (W.next + 1) = some ⟨.loop .ready none f₀ A.tmps A.n ps asn bd W.next, []⟩ →
      WpF T f (first.toList ++ .func (.yield (W.next + 1)) #[] #[] :: cap.toList) W5 (fun _ W₂ =>
      ∃ st p fn' t' n' ps' as' bd' df', W₂.blocks.get (W.next + 1) = some ⟨.loop st p fn' t' n' ps' as' bd' df', []⟩ ∧ st ≠ .busy ∧
        goOn (leaves id Q) { A with defers := { target := .collected W.next, args := #[] } :: A.defers } (W₂.setObj (W.next + 1) (.loop .exhausted p fn' t' n' ps' as' bd' df')) p)) :
    WpK T ⟨f₀, none⟩ (.block id (.rangeFunc g ps asn bd)) A W Q := by
  refine wpC_range hg hf (h _ rfl (fun b hb => ?_) ?_ ?_)
  · simp only [AW.beforeLoop, AW.new, Tr.get_set]; rw [if_neg (by omega), if_neg (by omega)]
  · simp only [AW.beforeLoop, AW.new, Tr.get_set]; rw [if_neg (by omega), if_true]
  · simp only [AW.beforeLoop, AW.new, Tr.get_set]; rw [if_true]
end Go.Eng

end