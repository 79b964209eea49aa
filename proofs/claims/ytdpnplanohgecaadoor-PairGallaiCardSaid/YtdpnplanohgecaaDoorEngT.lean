import Derived.Test.YtdpnplanohgecaaDoorEngS
set_option linter.unusedSimpArgs false
set_option linter.unusedVariables false
set_option linter.unusedSectionVars false
namespace Go.Eng
theorem aOp_light {T : Tabs} {W W' : AW} {ρ : Operand -> Option Value} {o : Oper} {r : ANext} (hl : isLight o.op = true) (h : aOp T W ρ o = some (r, W')) : W' = W := by
 unfold aOp at h
 cases hop : o.op <;> simp only [hop] at h hl <;> try (cases hl; done)
 case move x => unfold opMove at h; obtain ⟨_, _, _, e⟩ := aVal_inv h; exact e
 case assign x => unfold opAssign at h; obtain ⟨_, _, _, e⟩ := aVal_inv h; exact e
 case pick c a b =>
  unfold opPick at h
  split at h
  ·obtain ⟨_, _, _, e⟩ := aVal_inv h; exact e
  ·obtain ⟨_, _, _, e⟩ := aVal_inv h; exact e
  ·cases h
 case build t p =>
  unfold opBuild at h
  split at h
  ·obtain ⟨_, _, _, e⟩ := aVal_inv h; exact e
  ·cases h
 case load t a =>
  unfold opLoad at h
  split at h
  ·split at h
   ·obtain ⟨_, _, _, e⟩ := aVal_inv h; exact e
   ·cases h
  ·cases h
 case nilCheck x =>
  unfold opNilCheck at h
  split at h
  ·split at h
   ·cases h; rfl
   ·cases h
  ·cases h
 case binOp =>
  unfold opBinOp at h
  split at h
  ·obtain ⟨_, _, _, e⟩ := aVal_inv h; exact e
  ·obtain ⟨_, _, _, e⟩ := aVal_inv h; exact e
  ·cases h
 case unOp =>
  unfold opUnOp at h
  split at h
  ·obtain ⟨_, _, _, e⟩ := aVal_inv h; exact e
  ·cases h
 case convert =>
  unfold opConvert at h
  split at h
  ·obtain ⟨_, _, _, e⟩ := aVal_inv h; exact e
  ·cases h
 case makeInterface =>
  unfold opMakeInterface at h
  split at h
  ·cases h
  ·cases h; rfl
  ·cases h
 case makeFunc =>
  unfold opMakeFunc at h
  split at h
  ·split at h
   ·cases h
   ·cases h; rfl
  ·cases h
 case slice =>
  unfold opSlice at h
  split at h
  ·obtain ⟨_, _, _, e⟩ := aVal_inv h; exact e
  ·cases h
 case fieldAddr =>
  unfold opFieldAddr at h
  split at h
  ·obtain ⟨_, _, _, e⟩ := aVal_inv h; exact e
  ·cases h
 case field =>
  unfold opField at h
  split at h
  ·obtain ⟨_, _, _, e⟩ := aVal_inv h; exact e
  ·cases h
 case indexAddr =>
  unfold opIndexAddr at h
  split at h
  ·obtain ⟨_, _, _, e⟩ := aVal_inv h; exact e
  ·cases h
 case index =>
  unfold opIndex at h
  split at h
  ·obtain ⟨_, _, _, e⟩ := aVal_inv h; exact e
  ·cases h
 case extract =>
  unfold opExtract at h
  split at h
  ·obtain ⟨_, _, _, e⟩ := aVal_inv h; exact e
  ·cases h
 case lookup =>
  unfold opLookup at h
  split at h
  ·obtain ⟨_, _, _, e⟩ := aVal_inv h; exact e
  ·cases h
 case call c =>
  unfold aCall at h
  split at h
  ·cases h
  ·split at h
   ·rename_i f hc; unfold isLight at hl; split at hl <;> simp_all
   ·rename_i f n hc; unfold isLight at hl; split at hl <;> simp_all
   ·rename_i bi hc
    have hb : bi = .len \/ bi = .min \/ bi = .max := by
     unfold isLight at hl; split at hl <;> simp_all
    rcases hb with rfl | rfl | rfl
    ·unfold aCallB at h
     simp only at h
     split at h
     ·split at h
      ·cases h; rfl
      ·cases h
     ·cases h
    ·unfold aCallB at h
     simp only at h
     split at h
     ·split at h
      ·cases h; rfl
      ·cases h
     ·cases h
    ·unfold aCallB at h
     simp only at h
     split at h
     ·split at h
      ·cases h; rfl
      ·cases h
     ·cases h
theorem aVal_world {W W' W₁ : AW} {o : Option Value} {r : ANext} (h : aVal W o = some (r, W')) : aVal W₁ o = some (r, W₁) := by
 obtain ⟨v, rfl, rfl, rfl⟩ := aVal_inv h; rfl
theorem aOp_plain {T : Tabs} {W W' : AW} (W₁ : AW) {ρ : Operand -> Option Value} {o : Oper} {r : ANext} (hl : isLight o.op = true) (hp : isPlain o.op = true) (h : aOp T W ρ o = some (r, W')) : aOp T W₁ ρ o = some (r, W₁) := by
 unfold aOp at h ⊢
 cases hop : o.op <;> simp only [hop] at h hl hp ⊢ <;> first | (cases hl; done) | (cases hp; done) | skip
 case move x => unfold opMove at h ⊢; exact aVal_world h
 case assign x => unfold opAssign at h ⊢; exact aVal_world h
 case pick c a b =>
  unfold opPick at h ⊢
  split at h
  ·exact aVal_world h
  ·exact aVal_world h
  ·cases h
 case build t p =>
  unfold opBuild at h ⊢
  split at h
  ·exact aVal_world h
  ·cases h
 case nilCheck x =>
  unfold opNilCheck at h ⊢
  split at h
  ·split at h
   ·cases h; simp only [*]
   ·cases h
  ·cases h
 case binOp =>
  unfold opBinOp at h ⊢
  split at h
  ·exact aVal_world h
  ·exact aVal_world h
  ·cases h
 case unOp =>
  unfold opUnOp at h ⊢
  split at h
  ·exact aVal_world h
  ·cases h
 case makeInterface =>
  unfold opMakeInterface at h ⊢
  split at h
  ·cases h
  ·cases h; simp only [*]
  ·cases h
 case makeFunc =>
  unfold opMakeFunc at h ⊢
  split at h
  ·split at h
   ·cases h
   ·cases h; rfl
  ·cases h
 case fieldAddr =>
  unfold opFieldAddr at h ⊢
  split at h
  ·exact aVal_world h
  ·cases h
 case field =>
  unfold opField at h ⊢
  split at h
  ·exact aVal_world h
  ·cases h
 case indexAddr =>
  unfold opIndexAddr at h ⊢
  split at h
  ·exact aVal_world h
  ·cases h
 case index =>
  unfold opIndex at h ⊢
  split at h
  ·exact aVal_world h
  ·cases h
 case extract =>
  unfold opExtract at h ⊢
  split at h
  ·exact aVal_world h
  ·cases h
end Go.Eng
