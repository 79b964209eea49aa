import Derived.Test.YtdpnplanohgecaaDoorEngF
set_option linter.unusedSimpArgs false
set_option linter.unusedVariables false
set_option linter.unusedSectionVars false
namespace Go.Eng
theorem aBound_le {η : Env} {x x' : Value} {y y' i : Nat} (h : aBound x y = some i) (hy : y <= y') (hx : VR η x x') (P : Program) (w : World) (code : BoundsCode) :
  (Instr.sliceBound x' y' code).run P w = .ok i w /\ i <= y := by
 unfold aBound at h
 split at h
 ·split at h
  ·rename_i hle
   cases h; cases hx
   have hle := Nat.le_of_ble_eq_true hle
   refine ⟨?_, hle⟩
   have : i <= y' := Nat.le_trans hle hy
   simp [Instr.sliceBound, asIntOf, this]
  ·cases h
 ·cases h
def OV (η : Env) : Option Value -> Option Value -> Prop
 | none, none => True
 | some v, some v' => VR η v v'
 | _, _ => False
def aHi (hi : Option Value) (len y : Nat) : Option Nat :=
 match hi with
 | none => some len
 | some v => aBound v y
def aLo (lo : Option Value) (h : Nat) : Option Nat :=
 match lo with
 | none => some 0
 | some v => aBound v h
theorem aLo_run {η : Env} {lo lo' : Option Value} {h l : Nat} (hl : aLo lo h = some l) (ho : OV η lo lo') (P : Program) (w : World) (code : BoundsCode) :
  (match lo' with
   | some v => Instr.sliceBound v h code
   | none => (pure 0 : Sem Nat)).run P w = .ok l w /\ l <= h := by
 cases lo <;> cases lo' <;> first | exact ho.elim | skip
 ·simp only [aLo, Option.some.injEq] at hl; subst hl; exact ⟨rfl, Nat.zero_le _⟩
 ·exact aBound_le hl (Nat.le_refl _) ho P w code
theorem sb_none {η : Env} {isS : Bool} {len cap y h l : Nat} {lo hi lo' hi' : Option Value} (hh : aHi hi len y = some h) (hl : aLo lo h = some l) (hy : y <= cap)
  (olo : OV η lo lo') (ohi : OV η hi hi') (P : Program) (w : World) :
  (Instr.sliceBounds isS len cap lo' hi' none).run P w = .ok (l, h, cap) w /\ l <= h /\ (h = len \/ h <= y) := by
 have g := aLo_run hl olo P w .sliceB
 cases hi <;> cases hi' <;> first | exact ohi.elim | skip
 ·simp only [aHi, Option.some.injEq] at hh; subst hh
  refine ⟨?_, g.2, .inl rfl⟩
  cases lo' with
  | none =>
   have := g.1
   simp at this; subst this
   simp [Instr.sliceBounds]
  | some u =>
   have := g.1
   simp at this
   simp [Instr.sliceBounds, this]
 ·rename_i v v'
  have g2 := fun code => aBound_le hh hy ohi P w code
  refine ⟨?_, g.2, .inr (g2 .sliceB).2⟩
  have g3 := fun code => (g2 code).1
  cases lo' with
  | none =>
   have := g.1
   simp at this; subst this
   simp [Instr.sliceBounds, g3]
  | some u =>
   have := g.1
   simp at this
   simp [Instr.sliceBounds, g3, this]
theorem sb_some {η : Env} {isS : Bool} {len cap y m h l : Nat} {lo lo' : Option Value} {hv hv' mv mv' : Value} (hm : aBound mv y = some m) (hh : aBound hv m = some h) (hl : aLo lo h = some l) (hy : y <= cap)
  (olo : OV η lo lo') (ohi : VR η hv hv') (omx : VR η mv mv') (P : Program) (w : World) :
  (Instr.sliceBounds isS len cap lo' (some hv') (some mv')).run P w = .ok (l, h, m) w /\ l <= h /\ h <= m /\ m <= y := by
 have g := aLo_run hl olo P w .slice3C
 have g1 := fun code => aBound_le hm hy omx P w code
 have g2 := fun code => aBound_le hh (Nat.le_refl _) ohi P w code
 refine ⟨?_, g.2, (g2 .sliceB).2, (g1 .sliceB).2⟩
 have g3 := fun code => (g1 code).1
 have g4 := fun code => (g2 code).1
 cases lo' with
 | none =>
  have := g.1
  simp at this; subst this
  simp [Instr.sliceBounds, g3, g4]
 | some u =>
  have := g.1
  simp at this
  simp [Instr.sliceBounds, g3, g4, this]
def AW.ext (W : AW) (b o sz : Nat) : Nat :=
 match W.blocks.get b with
 | some ⟨.cells _ n _, _⟩ => (n - o) / sz
 | _ => 0
theorem WRel.ext_le {η : Env} {W : AW} {w : World} (h : WRel η W w) {b o sz c : Nat} {e : Nat × Nat × Nat} (he : η b = some e) (hc : e.2.1 + o + c * sz = e.2.2) : W.ext b o sz <= c := by
 unfold AW.ext
 split
 ·rename_i cs n el kin hb
  obtain ⟨c', fz, h2, h3, h4, _⟩ := h.cells hb he
  apply Nat.div_le_of_le_mul
  rw [Nat.mul_comm]
  omega
 ·exact Nat.zero_le _
def shiftTo (o m l size : Nat) : Nat :=
 match Nat.beq m l with
 | true => o
 | false => o + l * size
def aSliceOp (T : Tabs) (W : AW) (t : TypeId) (x : Value) (lo hi mx : Option Value) : Option Value :=
 match T.und.get t with
 | some .string => match x, mx with
  | .string s, none => match aHi hi s.data.toList.length s.data.toList.length with
   | some h => match aLo lo h with
    | some l => some (.string ⟨⟨(s.data.toList.drop l).take (h - l)⟩⟩)
    | none => none
   | none => none
  | _, _ => none
 | some (.array n elem) => match x, mx with
  | .pointer (some ⟨b, o, none⟩), none => match aSize T elem with
   | none => none
   | some size => match aHi hi n n with
    | some h => match aLo lo h with
     | some l => some (.slice (some ⟨b, shiftTo o n l size, none⟩) (h - l) (2 * (n - l)))
     | none => none
    | none => none
  | _, _ => none
 | some (.slice elem) => match aSize T elem with
  | none => none
  | some size => match x with
   | .slice none 0 0 => match mx with
    | none => match aHi hi 0 0 with
     | some h => match aLo lo h with
      | some _ => some (.slice none 0 0)
      | none => none
     | none => none
    | some _ => none
   | .slice (some ⟨b, o, none⟩) n code => match Nat.beq (code % 2) 0 with
    | true => match mx with
     | none => match aHi hi n (code / 2) with
      | some h => match aLo lo h with
       | some l => some (.slice (some ⟨b, shiftTo o (code / 2) l size, none⟩) (h - l) (2 * (code / 2 - l)))
       | none => none
      | none => none
     | some mv => match aBound mv (code / 2), hi with
      | some m, some hv => match aBound hv m with
       | some h => match aLo lo h with
        | some l => some (.slice (some ⟨b, shiftTo o m l size, none⟩) (h - l) (2 * (m - l)))
        | none => none
       | none => none
      | _, _ => none
    | false => match Nat.beq (code / 2) size with
     | false => none
     | true => match mx with
      | none => match aHi hi n (max n (W.ext b o size)) with
       | some h => match aLo lo h with
        | some l => match Nat.blt l h || Nat.blt l (max n (W.ext b o size)) || Nat.beq l 0 with
         | true => some (.slice (some ⟨b, o + l * size, none⟩) (h - l) (2 * size + 1))
         | false => some (.slice (some ⟨b, o + l * size, some 0⟩) 0 (2 * size + 1))
        | none => none
       | none => none
      | some mv => match aBound mv (max n (W.ext b o size)), hi with
       | some m, some hv => match aBound hv m with
        | some h => match aLo lo h with
         | some l => some (.slice (some ⟨b, shiftTo o m l size, none⟩) (h - l) (2 * (m - l)))
         | none => none
        | none => none
       | _, _ => none
   | .slice (some ⟨b, o, some 0⟩) 0 code => match mx with
    | none => match aHi hi 0 0 with
     | some h => match aLo lo h with
      | some _ => some (.slice (some ⟨b, o, some 0⟩) 0 code)
      | none => none
     | none => none
    | some _ => none
   | .slice (some ⟨0, 0, some 1⟩) 0 0 => match mx with
    | none => match aHi hi 0 0 with
     | some h => match aLo lo h with
      | some _ => some (.slice (some ⟨0, 0, some 1⟩) 0 0)
      | none => none
     | none => none
    | some _ => none
   | _ => none
 | _ => none
theorem shift_vr {η : Env} {b o m l size : Nat} {e : Nat × Nat × Nat} (he : η b = some e) (n : Nat) :
  VR η (.slice (some ⟨b, shiftTo o m l size, none⟩) n (2 * (m - l))) (.slice (if m = l then some ⟨e.1, e.2.1 + o, none⟩ else some (Addr.add ⟨e.1, e.2.1 + o, none⟩ (l * size))) n (m - l)) := by
 unfold shiftTo
 by_cases h : m = l
 ·subst h; simp only [Nat.beq_refl, if_true]; exact .sliceAt b o n _ e he
 ·have : Nat.beq m l = false := by
   cases hb : Nat.beq m l
   ·rfl
   ·exact absurd (Nat.eq_of_beq_eq_true hb) h
  rw [this, if_neg h, add_eq, Nat.add_assoc]
  exact .sliceAt b (o + l * size) n _ e he
theorem aSliceOp_spec {T : Tabs} {P : Program} (hT : T.Ok P) {η : Env} {W : AW} {w : World} (hw : WRel η W w) {t : TypeId} {x x' v : Value} {lo hi mx lo' hi' mx' : Option Value}
  (h : aSliceOp T W t x lo hi mx = some v) (hx : VR η x x') (olo : OV η lo lo') (ohi : OV η hi hi') (omx : OV η mx mx') :
  ∃ v', (Instr.sliceAt t x' lo' hi' mx').run P w = .ok v' w /\ VR η v v' := by
 unfold aSliceOp at h
 split at h
 ·rename_i hu
  split at h
  ·rename_i s
   cases hx
   cases mx' with
   | some _ => exact omx.elim
   | none =>
    split at h
    ·rename_i hh hh1
     split at h
     ·rename_i l hl1
      cases h
      obtain ⟨g1, g2, g3⟩ := sb_none (isS := false) (cap := s.size) hh1 hl1 (Nat.le_refl _) olo ohi P w
      refine ⟨_, ?_, .string _⟩
      have e : s.extract l hh = ⟨⟨(s.data.toList.drop l).take (hh - l)⟩⟩ := ByteArray.ext (Array.toList_inj.1 (Lib.extract_data s l hh))
      have g1' : (Instr.sliceBounds false s.size s.size lo' hi' none).run P w = .ok (l, hh, s.size) w := g1
      simp [Instr.sliceAt, Instr.slice, run_under (hT.und _ _ hu), g1', e]
     ·cases h
    ·cases h
  ·cases h
 ·rename_i n elem hu
  split at h
  ·rename_i b o
   cases mx' with
   | some _ => exact omx.elim
   | none =>
    split at h
    ·cases h
    ·rename_i size hs
     split at h
     ·rename_i hh hh1
      split at h
      ·rename_i l hl1
       cases h
       obtain ⟨g1, g2, g3⟩ := sb_none (isS := false) (cap := n) hh1 hl1 (Nat.le_refl _) olo ohi P w
       cases hx with
       | ptr _ _ e he =>
        refine ⟨_, ?_, shift_vr he _⟩
        simp only [Instr.sliceAt, Sem.run_bind, run_under (hT.und _ _ hu), Result.andThen_ok, Instr.sureAddr, Sem.run_pure, g1, aSize_spec hT hs]
        congr 1
        congr 1
        split <;> rfl
      ·cases h
     ·cases h
  ·cases h
 ·rename_i elem hu
  have hu1 : ∀ y, (Instr.sliceAt t y lo' hi' mx').run P w = (Instr.slice t y lo' hi' mx').run P w := fun y => by
   simp [Instr.sliceAt, run_under (hT.und _ _ hu)]
  split at h
  ·cases h
  ·rename_i size hs
   have hsz := fun w => aSize_spec hT hs w
   have fin : ∀ (a : Option Addr) (len cap l h m : Nat), (Instr.sliceBounds true len cap lo' hi' mx').run P w = .ok (l, h, m) w ->
     (Instr.slice t (.slice a len cap) lo' hi' mx').run P w = .ok (.slice (if m = l then a else a.map (·.add (l * size))) (h - l) (m - l)) w := by
    intro a len cap l h m hb
    simp [Instr.slice, run_under (hT.und _ _ hu), hb, hsz]
   split at h
   ·split at h
    ·cases mx' with
     | some _ => exact omx.elim
     | none =>
      split at h
      ·rename_i hh hh1
       split at h
       ·rename_i l hl1
        cases h
        cases hx
        obtain ⟨g1, g2, g3⟩ := sb_none (isS := true) (cap := 0) hh1 hl1 (Nat.le_refl _) olo ohi P w
        refine ⟨_, by rw [hu1, fin _ _ _ _ _ _ g1], ?_⟩
        have : hh = 0 := by omega
        subst this
        have : l = 0 := by omega
        subst this
        exact .sliceNil
       ·cases h
      ·cases h
    ·cases h
   ·rename_i b o n code
    split at h
    ·rename_i hev
     have hev := Nat.eq_of_beq_eq_true hev
     cases hx with
     | sliceEnd _ _ _ sz c e he hn hc => omega
     | sliceAt _ _ _ c e he =>
      have hc2 : 2 * c / 2 = c := by omega
      rw [hc2] at h
      split at h
      ·cases mx' with
       | some _ => exact omx.elim
       | none =>
        split at h
        ·rename_i hh hh1
         split at h
         ·rename_i l hl1
          cases h
          obtain ⟨g1, g2, g3⟩ := sb_none (isS := true) (cap := c) hh1 hl1 (Nat.le_refl _) olo ohi P w
          refine ⟨_, by rw [hu1, fin _ _ _ _ _ _ g1]; rfl, shift_vr he _⟩
         ·cases h
        ·cases h
      ·rename_i mv
       cases mx' with
       | none => exact omx.elim
       | some mv' =>
        split at h
        ·rename_i m hv hm
         cases hi' with
         | none => exact ohi.elim
         | some hv' =>
          split at h
          ·rename_i hh hh1
           split at h
           ·rename_i l hl1
            cases h
            obtain ⟨g1, g2, g3, g4⟩ := sb_some (isS := true) (len := n) (cap := c) hm hh1 hl1 (Nat.le_refl _) olo ohi omx P w
            refine ⟨_, by rw [hu1, fin _ _ _ _ _ _ g1]; rfl, shift_vr he _⟩
           ·cases h
          ·cases h
        ·cases h
    ·rename_i hod
     split at h
     ·cases h
     ·rename_i hsq
      have hsq := Nat.eq_of_beq_eq_true hsq
      cases hx with
      | sliceAt _ _ _ c e he =>
       have : (2 * c) % 2 = 0 := by omega
       rw [this] at hod; cases hod
      | sliceEnd _ _ _ sz c e he hn hc =>
       have : sz = size := by omega
       subst this
       have hy : max n (W.ext b o sz) <= c := Nat.max_le.2 ⟨hn, hw.ext_le he hc⟩
       split at h
       ·cases mx' with
        | some _ => exact omx.elim
        | none =>
         split at h
         ·rename_i hh hh1
          split at h
          ·rename_i l hl1
           obtain ⟨g1, g2, g3⟩ := sb_none (isS := true) (cap := c) hh1 hl1 hy olo ohi P w
           have hhc : hh <= c := by
            rcases g3 with h | h
            ·omega
            ·exact Nat.le_trans h hy
           have hmul : l <= c -> l * sz + (c - l) * sz = c * sz := fun hl => by rw [<- Nat.add_mul]; congr 1; omega
           split at h
           ·rename_i hcond
            cases h
            have hcond : l < hh \/ l < max n (W.ext b o sz) \/ l = 0 := by
             rw [Bool.or_eq_true, Bool.or_eq_true, Nat.blt_eq, Nat.blt_eq] at hcond
             rcases hcond with (h | h) | h
             ·exact .inl h
             ·exact .inr (.inl h)
             ·exact .inr (.inr (Nat.eq_of_beq_eq_true h))
            refine ⟨_, by rw [hu1, fin _ _ _ _ _ _ g1], ?_⟩
            have hlc : l <= c := by omega
            by_cases hcl : c = l
            ·have hl0 : l = 0 := by omega
             subst hl0
             rw [if_pos hcl]
             simp only [Nat.zero_mul, Nat.add_zero, Nat.sub_zero]
             exact .sliceEnd b o _ sz _ e he (by omega) hc
            ·rw [if_neg hcl]
             simp only [Option.map_some, add_eq, Nat.add_assoc]
             exact .sliceEnd b (o + l * sz) _ sz _ e he (by omega) (by have := hmul hlc; omega)
           ·rename_i hcond
            cases h
            simp only [Bool.or_eq_false_iff] at hcond
            have h1 : ¬ l < hh := by
             intro x
             have h2 := hcond.1.1
             rw [<- Nat.blt_eq, h2] at x
             cases x
            have hhl : hh - l = 0 := by omega
            refine ⟨_, by rw [hu1, fin _ _ _ _ _ _ g1], ?_⟩
            rw [hhl]
            by_cases hcl : c = l
            ·rw [if_pos hcl]
             have : c - l = 0 := by omega
             rw [this]
             exact .sliceDead b _ sz 0 _ e he (.inl rfl)
            ·rw [if_neg hcl]
             simp only [Option.map_some, add_eq, Nat.add_assoc]
             exact .sliceDead b _ sz _ _ e he (.inr ⟨rfl, by have := hmul (by omega); omega⟩)
          ·cases h
         ·cases h
       ·rename_i mv
        cases mx' with
        | none => exact omx.elim
        | some mv' =>
         split at h
         ·rename_i m hv hm
          cases hi' with
          | none => exact ohi.elim
          | some hv' =>
           split at h
           ·rename_i hh hh1
            split at h
            ·rename_i l hl1
             cases h
             obtain ⟨g1, g2, g3, g4⟩ := sb_some (isS := true) (len := n) (cap := c) hm hh1 hl1 hy olo ohi omx P w
             refine ⟨_, by rw [hu1, fin _ _ _ _ _ _ g1]; rfl, shift_vr he _⟩
            ·cases h
           ·cases h
         ·cases h
   ·rename_i b o code
    split at h
    ·cases mx' with
     | some _ => exact omx.elim
     | none =>
      split at h
      ·rename_i hh hh1
       split at h
       ·rename_i l hl1
        cases h
        cases hx with
        | sliceDead _ _ sz c a e he hc =>
         obtain ⟨g1, g2, g3⟩ := sb_none (isS := true) (cap := c) hh1 hl1 (Nat.zero_le _) olo ohi P w
         have : hh = 0 := by omega
         subst this
         have : l = 0 := by omega
         subst this
         refine ⟨_, by rw [hu1, fin _ _ _ _ _ _ g1], ?_⟩
         have e1 : (if c = 0 then some a else (some a).map (·.add (0 * size))) = some a := by
          split <;> simp [Addr.add]
         rw [e1]
         exact .sliceDead b o sz c a e he hc
       ·cases h
      ·cases h
    ·cases h
   ·split at h
    ·cases mx' with
     | some _ => exact omx.elim
     | none =>
      split at h
      ·rename_i hh hh1
       split at h
       ·rename_i l hl1
        cases h
        cases hx with
        | sliceVoid a =>
         obtain ⟨g1, g2, g3⟩ := sb_none (isS := true) (cap := 0) hh1 hl1 (Nat.zero_le _) olo ohi P w
         have : hh = 0 := by omega
         subst this
         have : l = 0 := by omega
         subst this
         exact ⟨_, by rw [hu1, fin _ _ _ _ _ _ g1]; rfl, .sliceVoid a⟩
       ·cases h
      ·cases h
    ·cases h
   ·cases h
 ·cases h
end Go.Eng
