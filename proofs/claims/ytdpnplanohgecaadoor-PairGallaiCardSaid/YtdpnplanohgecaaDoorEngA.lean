import GoSem.Core.World
set_option linter.unusedSimpArgs false
set_option linter.unusedVariables false
set_option linter.unusedSectionVars false
namespace Go.Eng
inductive Tr (α : Type) where
 | nil
 | node (v : Option α) (l r : Tr α)
def Tr.get {α : Type} : Tr α -> Nat -> Option α
 | .nil, _ => none
 | .node v l r, n =>
  match n with
  | 0 => v
  | m + 1 => match Nat.beq (Nat.mod m 2) 0 with
   | true => l.get (Nat.div m 2)
   | false => r.get (Nat.div m 2)
def Tr.setF {α : Type} (v : Option α) : Nat -> Tr α -> Nat -> Tr α
 | 0, t, _ => t
 | f + 1, t, n =>
  match n with
  | 0 => match t with
   | .nil => .node v .nil .nil
   | .node _ l r => .node v l r
  | m + 1 => match t with
   | .nil => match Nat.beq (Nat.mod m 2) 0 with
    | true => .node none (Tr.setF v f .nil (Nat.div m 2)) .nil
    | false => .node none .nil (Tr.setF v f .nil (Nat.div m 2))
   | .node u l r => match Nat.beq (Nat.mod m 2) 0 with
    | true => .node u (Tr.setF v f l (Nat.div m 2)) r
    | false => .node u l (Tr.setF v f r (Nat.div m 2))
def Tr.set {α : Type} (t : Tr α) (n : Nat) (v : α) : Tr α := t.setF (some v) (n + 1) n
def Tr.del {α : Type} (t : Tr α) (n : Nat) : Tr α := t.setF none (n + 1) n
theorem natmod (a b : Nat) : Nat.mod a b = a % b := rfl
theorem natdiv (a b : Nat) : Nat.div a b = a / b := rfl
theorem Tr.get_nil {α : Type} (n : Nat) : (Tr.nil : Tr α).get n = none := by
 cases n <;> rfl
theorem Tr.get_setF {α : Type} (v : Option α) : ∀ (f : Nat) (t : Tr α) (n k : Nat), n < f -> (t.setF v f n).get k = if k = n then v else t.get k := by
 intro f
 induction f with
 | zero => intro t n k h; omega
 | succ f ih =>
  intro t n k h
  cases n with
  | zero =>
   cases t with
   | nil => cases k with
    | zero => simp [Tr.setF, Tr.get, natmod, natdiv]
    | succ j => simp only [Tr.setF, Tr.get, natmod, natdiv]; rw [if_neg (by omega)]; split <;> rfl
   | node u l r => cases k <;> simp [Tr.setF, Tr.get, natmod, natdiv]
  | succ m =>
   have hm : m / 2 < f := by omega
   cases t with
   | nil =>
    cases hb : Nat.beq (m % 2) 0
    ·cases k with
     | zero => simp [Tr.setF, hb, Tr.get, natmod, natdiv]
     | succ j =>
      simp only [Tr.setF, hb, Tr.get, natmod, natdiv]
      cases hj : Nat.beq (j % 2) 0
      ·simp only [ih _ _ _ hm, Tr.get_nil]
       have h1 := Nat.ne_of_beq_eq_false hb
       have h2 := Nat.ne_of_beq_eq_false hj
       by_cases e : j = m
       ·subst e; simp
       ·rw [if_neg (by omega), if_neg (by omega)]
      ·have h1 := Nat.ne_of_beq_eq_false hb
       have h2 := Nat.eq_of_beq_eq_true hj
       rw [if_neg (by omega)]
    ·cases k with
     | zero => simp [Tr.setF, hb, Tr.get, natmod, natdiv]
     | succ j =>
      simp only [Tr.setF, hb, Tr.get, natmod, natdiv]
      cases hj : Nat.beq (j % 2) 0
      ·have h1 := Nat.eq_of_beq_eq_true hb
       have h2 := Nat.ne_of_beq_eq_false hj
       rw [if_neg (by omega)]
      ·simp only [ih _ _ _ hm, Tr.get_nil]
       have h1 := Nat.eq_of_beq_eq_true hb
       have h2 := Nat.eq_of_beq_eq_true hj
       by_cases e : j = m
       ·subst e; simp
       ·rw [if_neg (by omega), if_neg (by omega)]
   | node u l r =>
    cases hb : Nat.beq (m % 2) 0
    ·cases k with
     | zero => simp [Tr.setF, hb, Tr.get, natmod, natdiv]
     | succ j =>
      simp only [Tr.setF, hb, Tr.get, natmod, natdiv]
      cases hj : Nat.beq (j % 2) 0
      ·simp only [ih _ _ _ hm]
       have h1 := Nat.ne_of_beq_eq_false hb
       have h2 := Nat.ne_of_beq_eq_false hj
       by_cases e : j = m
       ·subst e; simp
       ·rw [if_neg (by omega), if_neg (by omega)]
      ·have h1 := Nat.ne_of_beq_eq_false hb
       have h2 := Nat.eq_of_beq_eq_true hj
       rw [if_neg (by omega)]
    ·cases k with
     | zero => simp [Tr.setF, hb, Tr.get, natmod, natdiv]
     | succ j =>
      simp only [Tr.setF, hb, Tr.get, natmod, natdiv]
      cases hj : Nat.beq (j % 2) 0
      ·have h1 := Nat.eq_of_beq_eq_true hb
       have h2 := Nat.ne_of_beq_eq_false hj
       rw [if_neg (by omega)]
      ·simp only [ih _ _ _ hm]
       have h1 := Nat.eq_of_beq_eq_true hb
       have h2 := Nat.eq_of_beq_eq_true hj
       by_cases e : j = m
       ·subst e; simp
       ·rw [if_neg (by omega), if_neg (by omega)]
theorem Tr.get_set {α : Type} (t : Tr α) (n k : Nat) (v : α) : (t.set n v).get k = if k = n then some v else t.get k :=
 Tr.get_setF _ _ _ _ _ (by omega)
theorem Tr.get_del {α : Type} (t : Tr α) (n k : Nat) : (t.del n).get k = if k = n then none else t.get k :=
 Tr.get_setF _ _ _ _ _ (by omega)
def Tr.lay {α : Type} : Tr α -> Nat -> List α -> Tr α
 | t, _, [] => t
 | t, n, v :: l => (t.set n v).lay (n + 1) l
theorem Tr.get_lay {α : Type} : ∀ (l : List α) (t : Tr α) (n k : Nat), (t.lay n l).get k = if n <= k /\ k < n + l.length then l[k - n]? else t.get k
 | [], t, n, k => by simp [Tr.lay]; omega
 | v :: l, t, n, k => by
  rw [Tr.lay, Tr.get_lay l, Tr.get_set]
  by_cases h : n + 1 <= k /\ k < n + 1 + l.length
  ·rw [if_pos h, if_pos (by simp only [List.length_cons]; omega)]
   rw [show k - n = (k - (n + 1)) + 1 from by omega]; rfl
  ·rw [if_neg h]
   by_cases e : k = n
   ·subst e; simp
   ·rw [if_neg e, if_neg (by simp only [List.length_cons]; omega)]
def Tr.take {α : Type} (t : Tr α) : Nat -> Nat -> Option (List α)
 | _, 0 => some []
 | i, n + 1 => match t.get i with
  | none => none
  | some v => match t.take (i + 1) n with
   | none => none
   | some l => some (v :: l)
theorem Tr.take_spec {α : Type} (t : Tr α) : ∀ (n i : Nat) (l : List α), t.take i n = some l -> l.length = n /\ ∀ k, k < n -> t.get (i + k) = l[k]?
 | 0, i, l, h => by simp [Tr.take] at h; subst h; simp
 | n + 1, i, l, h => by
  simp only [Tr.take] at h
  split at h
  ·cases h
  ·rename_i v hv
   split at h
   ·cases h
   ·rename_i l' hl'
    cases h
    have ⟨h1, h2⟩ := Tr.take_spec t n (i + 1) l' hl'
    refine ⟨by simp [h1], fun k hk => ?_⟩
    cases k with
    | zero => simpa using hv
    | succ k => have := h2 k (by omega); rw [show i + (k + 1) = i + 1 + k from by omega]; simpa using this
end Go.Eng
