import Derived.Test.YtnnfobmfffbhaaaEngS
set_option linter.unusedSimpArgs false
set_option linter.unusedVariables false
set_option linter.unusedSectionVars false
namespace Go.Eng

mutual
theorem valEq_sound : ∀ (u v : Value), valEq u v = true → u = v
  | .bool a, v, h => by
    cases v <;> simp only [valEq, Bool.false_eq_true] at h
    rw [eq_of_beq h]
  | .int k a, v, h => by
    cases v <;> simp only [valEq, Bool.false_eq_true] at h
    split at h
    · rename_i h1
      split at h
      · rename_i h2; rw [of_decide_eq_true h1, of_decide_eq_true h2]
      · cases h
    · cases h
  | .float .., v, h => by cases v <;> simp only [valEq, Bool.false_eq_true] at h
  | .complex .., v, h => by cases v <;> simp only [valEq, Bool.false_eq_true] at h
  | .string a, v, h => by
    cases v <;> simp only [valEq, Bool.false_eq_true] at h
    rename_i b
    have := eq_of_beq h
    cases a; cases b
    simp only [Array.toList_inj] at this
    rw [this]
  | .pointer none, v, h => by
    match v, h with
    | .pointer none, _ => rfl
  | .pointer (some ⟨a, b, none⟩), v, h => by
    match v, h with
    | .pointer (some ⟨c, d, none⟩), h =>
      simp only [valEq, Bool.and_eq_true, Nat.beq_eq] at h
      rw [h.1, h.2]
  | .pointer (some ⟨a, b, some s⟩), v, h => by
    match v, h with
    | .pointer none, h => cases h
  | .slice none a b, v, h => by
    match v, h with
    | .slice none c d, h =>
      simp only [valEq, Bool.and_eq_true, Nat.beq_eq] at h
      rw [h.1, h.2]
  | .slice (some ⟨a, b, s⟩) c d, v, h => by
    match v, h with
    | .slice (some ⟨e, f, u⟩) g k, h =>
      simp only [valEq, Bool.and_eq_true, Nat.beq_eq] at h
      obtain ⟨⟨⟨⟨h1, h2⟩, h3⟩, h4⟩, h5⟩ := h
      rw [h1, h2, h3, h4, eq_of_beq h5]
  | .map none, v, h => by
    match v, h with
    | .map none, _ => rfl
  | .map (some a), v, h => by
    match v, h with
    | .map (some b), h =>
      simp only [valEq, Nat.beq_eq] at h
      rw [h]
  | .chan .., v, h => by cases v <;> simp only [valEq, Bool.false_eq_true] at h
  | .func f a c, v, h => by
    match v, h with
    | .func g b d, h =>
      simp only [valEq, Bool.and_eq_true] at h
      obtain ⟨⟨h1, h2⟩, h3⟩ := h
      rw [of_decide_eq_true h1, arrEq_sound _ _ h2, arrEq_sound _ _ h3]
  | .nilFunc, v, h => by cases v <;> simp only [valEq, Bool.false_eq_true] at h; rfl
  | .nilIface, v, h => by cases v <;> simp only [valEq, Bool.false_eq_true] at h; rfl
  | .iface t x, v, h => by
    match v, h with
    | .iface u w, h =>
      simp only [valEq, Bool.and_eq_true, Nat.beq_eq] at h
      rw [h.1, valEq_sound _ _ h.2]
  | .agg a, v, h => by
    match v, h with
    | .agg b, h =>
      simp only [valEq] at h
      rw [arrEq_sound _ _ h]
  | .tuple a, v, h => by
    match v, h with
    | .tuple b, h =>
      simp only [valEq] at h
      rw [arrEq_sound _ _ h]
theorem arrEq_sound : ∀ (a b : Array Value), arrEq a b = true → a = b
  | ⟨a⟩, ⟨b⟩, h => by
    simp only [arrEq] at h
    rw [listEq_sound _ _ h]
theorem listEq_sound : ∀ (a b : List Value), listEq a b = true → a = b
  | [], b, h => by
    match b, h with
    | [], _ => rfl
  | x :: l, b, h => by
    match b, h with
    | y :: m, h =>
      simp only [listEq, Bool.and_eq_true] at h
      rw [valEq_sound _ _ h.1, listEq_sound _ _ h.2]
end

/-- a light operation leaves the world -/
theorem aOp_light {T : Tabs} {W W' : AW} {ρ : Operand → Option Value} {o : Oper} {r : ANext} (hl : isLight o.op = true) (h : aOp T W ρ o = some (r, W')) : W' = W := by
  unfold aOp at h
  cases hop : o.op <;> simp only [hop] at h hl <;> try (cases hl; done)
  case move x => unfold opMove at h; obtain ⟨_, _, _, e⟩ := aVal_inv h; exact e
  case assign x => unfold opAssign at h; obtain ⟨_, _, _, e⟩ := aVal_inv h; exact e
  case pick c a b =>
    unfold opPick at h
    split at h
    · obtain ⟨_, _, _, e⟩ := aVal_inv h; exact e
    · obtain ⟨_, _, _, e⟩ := aVal_inv h; exact e
    · cases h
  case build t p =>
    unfold opBuild at h
    split at h
    · obtain ⟨_, _, _, e⟩ := aVal_inv h; exact e
    · cases h
  case load t a =>
    unfold opLoad at h
    split at h
    · split at h
      · obtain ⟨_, _, _, e⟩ := aVal_inv h; exact e
      · cases h
    · cases h
  case nilCheck x =>
    unfold opNilCheck at h
    split at h
    · split at h
      · cases h; rfl
      · cases h
    · cases h
  case binOp =>
    unfold opBinOp at h
    split at h
    · obtain ⟨_, _, _, e⟩ := aVal_inv h; exact e
    · cases h
  case unOp =>
    unfold opUnOp at h
    split at h
    · obtain ⟨_, _, _, e⟩ := aVal_inv h; exact e
    · cases h
  case convert =>
    unfold opConvert at h
    split at h
    · obtain ⟨_, _, _, e⟩ := aVal_inv h; exact e
    · cases h
  case makeInterface =>
    unfold opMakeInterface at h
    split at h
    · cases h
    · cases h; rfl
    · cases h
  case makeFunc =>
    unfold opMakeFunc at h
    split at h
    · split at h
      · cases h
      · cases h; rfl
    · cases h
  case slice =>
    unfold opSlice at h
    split at h
    · obtain ⟨_, _, _, e⟩ := aVal_inv h; exact e
    · cases h
  case fieldAddr =>
    unfold opFieldAddr at h
    split at h
    · obtain ⟨_, _, _, e⟩ := aVal_inv h; exact e
    · cases h
  case field =>
    unfold opField at h
    split at h
    · obtain ⟨_, _, _, e⟩ := aVal_inv h; exact e
    · cases h
  case indexAddr =>
    unfold opIndexAddr at h
    split at h
    · obtain ⟨_, _, _, e⟩ := aVal_inv h; exact e
    · cases h
  case index =>
    unfold opIndex at h
    split at h
    · obtain ⟨_, _, _, e⟩ := aVal_inv h; exact e
    · cases h
  case extract =>
    unfold opExtract at h
    split at h
    · obtain ⟨_, _, _, e⟩ := aVal_inv h; exact e
    · cases h
  case call c =>
    unfold aCall at h
    split at h
    · cases h
    · split at h
      · rename_i f hc; unfold isLight at hl; split at hl <;> simp_all
      · rename_i f n hc; unfold isLight at hl; split at hl <;> simp_all
      · rename_i bi hc
        have hb : bi = .len ∨ bi = .min ∨ bi = .max := by
          unfold isLight at hl; split at hl <;> simp_all
        rcases hb with rfl | rfl | rfl
        · unfold aCallB at h
          simp only at h
          split at h
          · split at h
            · cases h; rfl
            · cases h
          · cases h
        · unfold aCallB at h
          simp only at h
          split at h
          · split at h
            · cases h; rfl
            · cases h
          · cases h
        · unfold aCallB at h
          simp only at h
          split at h
          · split at h
            · cases h; rfl
            · cases h
          · cases h

theorem aVal_world {W W' W₁ : AW} {o : Option Value} {r : ANext} (h : aVal W o = some (r, W')) : aVal W₁ o = some (r, W₁) := by
  obtain ⟨v, rfl, rfl, rfl⟩ := aVal_inv h; rfl
/-- one that doesn't ask the world -/
theorem aOp_plain {T : Tabs} {W W' : AW} (W₁ : AW) {ρ : Operand → Option Value} {o : Oper} {r : ANext} (hl : isLight o.op = true) (hp : isPlain o.op = true) (h : aOp T W ρ o = some (r, W')) : aOp T W₁ ρ o = some (r, W₁) := by
  unfold aOp at h ⊢
  cases hop : o.op <;> simp only [hop] at h hl hp ⊢ <;> first | (cases hl; done) | (cases hp; done) | skip
  case move x => unfold opMove at h ⊢; exact aVal_world h
  case assign x => unfold opAssign at h ⊢; exact aVal_world h
  case pick c a b =>
    unfold opPick at h ⊢
    split at h
    · exact aVal_world h
    · exact aVal_world h
    · cases h
  case build t p =>
    unfold opBuild at h ⊢
    split at h
    · exact aVal_world h
    · cases h
  case nilCheck x =>
    unfold opNilCheck at h ⊢
    split at h
    · split at h
      · cases h; simp only [*]
      · cases h
    · cases h
  case binOp =>
    unfold opBinOp at h ⊢
    split at h
    · exact aVal_world h
    · cases h
  case unOp =>
    unfold opUnOp at h ⊢
    split at h
    · exact aVal_world h
    · cases h
  case makeInterface =>
    unfold opMakeInterface at h ⊢
    split at h
    · cases h
    · cases h; simp only [*]
    · cases h
  case makeFunc =>
    unfold opMakeFunc at h ⊢
    split at h
    · split at h
      · cases h
      · cases h; rfl
    · cases h
  case fieldAddr =>
    unfold opFieldAddr at h ⊢
    split at h
    · exact aVal_world h
    · cases h
  case field =>
    unfold opField at h ⊢
    split at h
    · exact aVal_world h
    · cases h
  case indexAddr =>
    unfold opIndexAddr at h ⊢
    split at h
    · exact aVal_world h
    · cases h
  case index =>
    unfold opIndex at h ⊢
    split at h
    · exact aVal_world h
    · cases h
  case extract =>
    unfold opExtract at h ⊢
    split at h
    · exact aVal_world h
    · cases h
end Go.Eng
