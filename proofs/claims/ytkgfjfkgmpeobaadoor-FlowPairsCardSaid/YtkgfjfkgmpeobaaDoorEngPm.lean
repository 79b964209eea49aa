import Derived.Test.YtkgfjfkgmpeobaaDoorEngVr
set_option linter.unusedSimpArgs false
set_option linter.unusedVariables false
set_option linter.unusedSectionVars false
section
namespace Go.Eng
def sumN : Nat → (Nat → Int) → Int
  | 0, _ => 0
  | n + 1, f => sumN n f + f n
def PermN (n : Nat) (q : Nat → Nat) : Prop := (∀ i, i < n → q i < n) ∧ ∀ i j, i < n → j < n → q i = q j → i = j
def worthN (n : Nat) (c : Nat → Nat → Int) (q : Nat → Nat) : Int := sumN n (fun i => c i (q i))
def gain (c : Nat → Nat → Int) (p : Nat → Nat) (i j : Nat) : Int := c i j - c i (p i)
def gainM (c : Nat → Nat → Int) (p : Nat → Nat) (r : Nat → Int) : Nat → Nat → Int
  | 0, j => r j
  | i + 1, j => max (gainM c p r i j) (r (p i) + gain c p i j)
def gainD (n : Nat) (c : Nat → Nat → Int) (p : Nat → Nat) : Nat → Nat → Int
  | 0, _ => 0
  | r + 1, j => gainM c p (gainD n c p r) n j
section
variable {n : Nat} {c : Nat → Nat → Int} {p : Nat → Nat}
def wayG (c : Nat → Nat → Int) (p : Nat → Nat) (s f : Nat → Nat) : Nat → Int
  | 0 => 0
  | m + 1 => wayG c p s f m + gain c p (s m) (f (m + 1))
def WayN (n : Nat) (p : Nat → Nat) (s f : Nat → Nat) (m : Nat) : Prop := ∀ t, t < m → s t < n ∧ f t = p (s t)
end
end Go.Eng

end
section
namespace Go.Eng
def SlEmp (A : Option Addr) (c : Nat) : Prop := (A = none ∧ c = 0) ∨ (∃ b o, A = some ⟨b, o, none⟩) ∨ (A = some ⟨0, 0, some 1⟩ ∧ c = 0)
def SlOk (u : Value) (n : Nat) : Prop := (u = .slice none 0 0 ∧ n = 0) ∨ (∃ b o c, u = .slice (some ⟨b, o, none⟩) n (2 * c) ∧ n ≤ c) ∨ (u = .slice (some ⟨0, 0, some 1⟩) 0 0 ∧ n = 0)
theorem SlOk.emp {A : Option Addr} {c n : Nat} (h : SlOk (.slice A n c) n) : SlEmp A c := by
  rcases h with ⟨h, _⟩ | ⟨b, o, c', h, _⟩ | ⟨h, _⟩
  · cases h; exact .inl ⟨rfl, rfl⟩
  · cases h; exact .inr (.inl ⟨b, o, rfl⟩)
  · cases h; exact .inr (.inr ⟨rfl, rfl⟩)
section
variable {α : Type} {sz : Nat} {enc : α → List Value}
def RowIn (sz : Nat) (enc : α → List Value) (W : AW) (v : Value) (l : List α) : Prop :=
  ∃ A c, v = .slice A l.length c ∧ (l.length = 0 → SlEmp A c) ∧ ∀ i a, l[i]? = some a → ∃ b o, A = some ⟨b, o, none⟩ ∧ ∀ j u, (enc a)[j]? = some u → W.Has b (o + i * sz + j) u
theorem RowIn.only {W W' : AW} {v : Value} {l : List α} {K : Nat → Prop} (h : RowIn sz enc W v l) (he : Only K W W') (hk : ∀ b, b < W.next → ¬ K b) : RowIn sz enc W' v l := by
  obtain ⟨A, c, h1, h0, h2⟩ := h
  refine ⟨A, c, h1, h0, fun i a hi => ?_⟩
  obtain ⟨b, o, g1, g2⟩ := h2 i a hi
  exact ⟨b, o, g1, fun j u hu => (g2 j u hu).only he (hk b (g2 j u hu).1)⟩
theorem RowIn.ext {W W' : AW} {v : Value} {l : List α} (h : RowIn sz enc W v l) (he : Ext W W') : RowIn sz enc W' v l := h.only he (fun _ _ x => x)
theorem RowIn.len {W : AW} {v : Value} {l : List α} (h : RowIn sz enc W v l) : ∃ A c, v = .slice A l.length c := let ⟨A, c, h, _⟩ := h; ⟨A, c, h⟩
theorem RowIn.nil (W : AW) : RowIn sz enc W (.slice none 0 0) ([] : List α) := ⟨none, 0, rfl, fun _ => .inl ⟨rfl, rfl⟩, fun i a h => by simp at h⟩
def flatE (enc : α → List Value) (l : List α) : List Value := l.flatMap enc
theorem flatE_len (he : ∀ a, (enc a).length = sz) : ∀ l : List α, (flatE enc l).length = l.length * sz
  | [] => by simp [flatE]
  | a :: l => by
    rw [flatE, List.flatMap_cons, List.length_append, ← flatE, flatE_len he l, List.length_cons, he, Nat.add_mul]; omega
theorem flatE_get (he : ∀ a, (enc a).length = sz) : ∀ (l : List α) (i : Nat) (a : α), l[i]? = some a → ∀ j, j < sz → (flatE enc l)[i * sz + j]? = (enc a)[j]?
  | [], _, _, h => by simp at h
  | x :: l, 0, a, h => by
    simp only [List.getElem?_cons_zero, Option.some.injEq] at h; subst h
    intro j hj
    rw [flatE, List.flatMap_cons, List.getElem?_append_left (by rw [he]; omega)]
    simp
  | x :: l, i + 1, a, h => by
    intro j hj
    rw [flatE, List.flatMap_cons, List.getElem?_append_right (by rw [he, Nat.add_mul]; omega), ← flatE]
    have := flatE_get he l i a (by simpa using h) j hj
    rw [← this]
    congr 1
    rw [he, Nat.add_mul]; omega
theorem RowIn.of_cells (he : ∀ a, (enc a).length = sz) {W : AW} {b c : Nat} {l : List α} (h : ∀ i u, (flatE enc l)[i]? = some u → W.Has b i u) : RowIn sz enc W (.slice (some ⟨b, 0, none⟩) l.length c) l := by
  refine ⟨_, _, rfl, fun _ => .inr (.inl ⟨_, _, rfl⟩), fun i a hi => ⟨b, 0, rfl, fun j u hu => ?_⟩⟩
  have hj : j < sz := by have := (List.getElem?_eq_some_iff.1 hu).1; rw [he] at this; exact this
  rw [Nat.zero_add]
  exact h _ _ (by rw [flatE_get he l i a hi j hj]; exact hu)
theorem GrowsN.row (he : ∀ a, (enc a).length = sz) {W : AW} {v : Value} {l : List α} {el : TypeId} {K : Nat → Prop} (h : GrowsN W v l.length (flatE enc l) el sz K) : RowIn sz enc W v l := by
  by_cases hl : l.length = 0
  · obtain ⟨_, ⟨h1, rfl⟩ | ⟨b, c, kin, _, h2, _⟩⟩ := h
    · rw [List.length_eq_zero_iff] at hl; subst hl; exact .nil W
    · omega
  · obtain ⟨b, rfl, _, _, _, hh⟩ := h.has (by omega)
    exact .of_cells he hh
theorem HeldN.row (he : ∀ a, (enc a).length = sz) {W : AW} {v : Value} {l : List α} {el : TypeId} {K : Nat → Prop} (h : HeldN W v l.length (flatE enc l) el sz K) : RowIn sz enc W v l := by
  rcases h with h | h
  · have hn : 0 < l.length := by obtain ⟨_, b, c, kin, _, hn, _⟩ := h; exact hn
    obtain ⟨b, c, rfl, _, _, hh⟩ := HeldN.has (.inl h) hn
    exact .of_cells he hh
  · exact h.row he
theorem Var.row (he : ∀ a, (enc a).length = sz) {W : AW} {p c : Nat} {l : List α} {el : TypeId} (h : Var W p el (flatE enc l)) : RowIn sz enc W (.slice (some ⟨p, 0, none⟩) l.length c) l := .of_cells he (fun i u hu => h.has hu)
theorem RowIn.at {W : AW} {v : Value} {l : List α} (h : RowIn sz enc W v l) {i : Nat} {a : α} (hi : l[i]? = some a) {T : Tabs} {t e : TypeId} (hd : T.und.get t = some (.slice e)) (hs : aSize T e = some sz) (k : IntKind) :
    ∃ b p, aIndexAddr T t v (.int k (i : Int)) = some (.pointer (some ⟨b, p, none⟩)) ∧ ∀ j u, (enc a)[j]? = some u → W.Has b (p + j) u := by
  obtain ⟨A, c, rfl, _, h2⟩ := h
  obtain ⟨b, o, rfl, g⟩ := h2 i a hi
  exact ⟨b, o + i * sz, indexAddr_slice hd hs (List.getElem?_eq_some_iff.1 hi).1, g⟩
theorem RowIn.slice {T : Tabs} {W : AW} {u : Value} {l : List α} {t e : TypeId} (hu : T.und.get t = some (.slice e)) (hs : aSize T e = some sz) (hS : SlOk u l.length) (h : RowIn sz enc W u l) {k : Nat} (hk : k ≤ l.length) :
    ∃ u', (∀ W', aSliceOp T W' t u none (some (.int .i64 (k : Nat))) none = some u') ∧ SlOk u' k ∧ RowIn sz enc W u' (l.take k) := by
  have hlen : (l.take k).length = k := by rw [List.length_take]; omega
  have emp : l.length = 0 → ∀ A c, SlEmp A c → RowIn sz enc W (.slice A 0 c) (l.take k) := fun h0 A c hA => by
    have : l.take k = [] := List.length_eq_zero_iff.1 (by omega)
    rw [this]; exact ⟨A, c, rfl, fun _ => hA, fun i a hi => by simp at hi⟩
  rcases hS with ⟨rfl, h0⟩ | ⟨b, o, c, rfl, hc⟩ | ⟨rfl, h0⟩
  · obtain rfl : k = 0 := by omega
    exact ⟨_, fun W' => by simp only [aSliceOp, hu, hs]; rfl, .inl ⟨rfl, rfl⟩, emp h0 _ _ (.inl ⟨rfl, rfl⟩)⟩
  · have hb : aHi (some (.int .i64 (k : Nat))) l.length c = some k := by
      show aBound (.int .i64 (Int.ofNat k)) c = some k
      simp only [aBound, ble_dec, show k ≤ c from by omega, decide_true]
    have e1 : (2 * c) % 2 = 0 := by omega
    have e2 : 2 * c / 2 = c := by omega
    have hsh : shiftTo o c 0 sz = o := by unfold shiftTo; split <;> simp
    refine ⟨.slice (some ⟨b, o, none⟩) k (2 * c), ?_, .inr (.inl ⟨b, o, c, rfl, by omega⟩), ?_⟩
    · intro W'; simp only [aSliceOp, hu, hs, e1, e2, Nat.beq_refl, hb, aLo, hsh, Nat.sub_zero]
    · obtain ⟨A, c', hv, _, hh⟩ := h
      cases hv
      refine ⟨some ⟨b, o, none⟩, 2 * c, by rw [hlen], fun _ => .inr (.inl ⟨_, _, rfl⟩), fun i a hi => ?_⟩
      have hik : i < k := by
        have := (List.getElem?_eq_some_iff.1 hi).1
        omega
      rw [List.getElem?_take_of_lt hik] at hi
      exact hh i a hi
  · obtain rfl : k = 0 := by omega
    exact ⟨_, fun W' => by simp only [aSliceOp, hu, hs]; rfl, .inr (.inr ⟨rfl, rfl⟩), emp h0 _ _ (.inr (.inr ⟨rfl, rfl⟩))⟩
theorem cellsAt_len0 {W : AW} {b o : Nat} {k : List Value} (h : W.cellsAt b o 0 = some k) : k = [] := by
  unfold AW.cellsAt at h
  split at h
  · split at h
    · cases h; rfl
    · cases h
  · split at h
    · cases h; rfl
    · cases h
  · cases h
theorem RowIn.src (he : ∀ a, (enc a).length = sz) (hsz : 0 < sz) {W : AW} {u : Value} {l : List α} (h : RowIn sz enc W u l) : aSrc W sz u = some (l.length, flatE enc l) := by
  obtain ⟨A, c, rfl, h0, hh⟩ := h
  by_cases hl : l.length = 0
  · have hn : l = [] := List.length_eq_zero_iff.1 hl
    subst hn
    rcases h0 rfl with ⟨rfl, rfl⟩ | ⟨b, o, rfl⟩ | ⟨rfl, rfl⟩
    · rfl
    · unfold aSrc
      simp only [List.length_nil, Nat.zero_mul]
      cases hc : W.cellsAt b o 0 with
      | none => rfl
      | some k => rw [cellsAt_len0 hc]; rfl
    · rfl
  · obtain ⟨b, o, rfl, hb⟩ := hh 0 _ (List.getElem?_eq_getElem (by omega))
    have e0 := he (l[0]'(by omega))
    have hc : W.cellsAt b o (l.length * sz) = some (flatE enc l) := by
      refine cellsAt_of_cells (flatE_len he l) (has_blk (hb 0 _ (List.getElem?_eq_getElem (by omega)))) (fun j hj => ?_) (Nat.mul_pos (by omega) hsz)
      have hq : j / sz < l.length := (Nat.div_lt_iff_lt_mul hsz).2 hj
      have hr : j % sz < sz := Nat.mod_lt _ hsz
      obtain ⟨b2, o2, e2, g⟩ := hh (j / sz) _ (List.getElem?_eq_getElem hq)
      cases e2
      have hf := flatE_get he l (j / sz) _ (List.getElem?_eq_getElem hq) (j % sz) hr
      have ej : j / sz * sz + j % sz = j := by rw [Nat.mul_comm]; exact Nat.div_add_mod j sz
      rw [ej] at hf
      have e3 := he l[j / sz]
      have := (g (j % sz) _ (List.getElem?_eq_getElem (by omega))).2
      rw [Nat.add_assoc, ej] at this
      rw [this, hf, List.getElem?_eq_getElem (by omega)]
    unfold aSrc; simp only [hc]
end
def encI (k : IntKind) (x : Int) : List Value := [.int k x]
def encB (b : Bool) : List Value := [.bool b]
def encP (a : Int × Int) : List Value := [.int .i64 a.1, .int .i64 a.2]
def encV (v : Value) : List Value := [v]
abbrev IntR := RowIn 1 (encI .i64)
abbrev BoolR := RowIn 1 encB
abbrev PairR := RowIn 2 encP
end Go.Eng

end