import Derived.Test.YtdpnplanohgecaaDoorEngE
import Derived.IntWalk
set_option linter.unusedSimpArgs false
set_option linter.unusedVariables false
set_option linter.unusedSectionVars false
namespace Go.Eng
def aField (T : Tabs) (s : TypeId) (addr : Value) (field : Nat) : Option Value :=
 match aAddr addr with
 | none => none
 | some (b, o) => match T.und.get s with
  | some (.struct fields) => match fields.toList[field]? with
   | some f => match aSize T f.type with
    | some (_ + 1) => some (.pointer (some ⟨b, o + f.offset, none⟩))
    | _ => none
   | none => none
  | _ => none
theorem VR.ptrAt {η : Env} {b o : Nat} {e : Nat × Nat × Nat} (h : η b = some e) (n : Nat) : VR η (.pointer (some ⟨b, o + n, none⟩)) (.pointer (some ⟨e.1, e.2.1 + o + n, none⟩)) := by
 rw [Nat.add_assoc]; exact .ptr b (o + n) e h
theorem aField_spec {T : Tabs} {P : Program} (hT : T.Ok P) {η : Env} {s : TypeId} {field : Nat} {x x' v : Value} (h : aField T s x field = some v) (hx : VR η x x') (w : World) :
  ∃ v', (Instr.fieldAt s x' field).run P w = .ok v' w /\ VR η v v' := by
 unfold aField at h
 split at h
 ·cases h
 ·rename_i b o ha
  obtain ⟨e, he, rfl⟩ := aAddr_spec ha hx
  split at h
  ·rename_i fields hu
   split at h
   ·rename_i f hf
    split at h
    ·rename_i n hn
     cases h
     have hf' : fields[field]? = some f := by simpa using hf
     refine ⟨_, ?_, VR.ptrAt he f.offset⟩
     simp [Instr.fieldAt, run_under (hT.und _ _ hu), hf', Instr.sureAddr, fieldPlace, aSize_spec hT hn, add_eq]
    ·cases h
   ·cases h
  ·cases h
def aIndexAddr (T : Tabs) (t : TypeId) (x ix : Value) : Option Value :=
 match ix with
 | .int _ (.ofNat i) => match T.und.get t, x with
  | some (.array len elem), .pointer (some ⟨b, o, none⟩) => match aSize T elem, Nat.blt i len with
   | some n, true => some (.pointer (some ⟨b, o + i * n, none⟩))
   | _, _ => none
  | some (.slice elem), .slice (some ⟨b, o, none⟩) len _ => match aSize T elem, Nat.blt i len with
   | some n, true => some (.pointer (some ⟨b, o + i * n, none⟩))
   | _, _ => none
  | _, _ => none
 | _ => none
theorem aIndexAddr_spec {T : Tabs} {P : Program} (hT : T.Ok P) {η : Env} {t : TypeId} {x x' ix ix' v : Value} (h : aIndexAddr T t x ix = some v) (hx : VR η x x') (hi : VR η ix ix') (w : World) :
  ∃ v', (Instr.indexAt t x' ix').run P w = .ok v' w /\ VR η v v' := by
 unfold aIndexAddr at h
 split at h
 ·rename_i k i
  cases hi
  split at h
  ·rename_i len elem b o hu
   split at h
   ·rename_i n hn hlt
    cases h
    have hlt : i < len := by simpa [Nat.blt_eq] using hlt
    cases hx with
    | ptr _ _ e he =>
     refine ⟨_, ?_, VR.ptrAt he (i * n)⟩
     simp [Instr.indexAt, asIntOf, run_under (hT.und _ _ hu), Instr.sureAddr, aSize_spec hT hn, add_eq, hlt]
   ·cases h
  ·rename_i elem b o len c hu
   split at h
   ·rename_i n hn hlt
    cases h
    have hlt : i < len := by simpa [Nat.blt_eq] using hlt
    cases hx with
    | sliceAt _ _ _ c e he =>
     refine ⟨_, ?_, VR.ptrAt he (i * n)⟩
     simp [Instr.indexAt, asIntOf, run_under (hT.und _ _ hu), aSize_spec hT hn, add_eq, hlt]
    | sliceEnd _ _ _ sz c e he =>
     refine ⟨_, ?_, VR.ptrAt he (i * n)⟩
     simp [Instr.indexAt, asIntOf, run_under (hT.und _ _ hu), aSize_spec hT hn, add_eq, hlt]
   ·cases h
  ·cases h
 ·cases h
def aIndex (T : Tabs) (t : TypeId) (x ix : Value) : Option Value :=
 match ix with
 | .int _ (.ofNat i) => match T.und.get t, x with
  | some (.array len elem), .agg cs => match aSize T elem, Nat.blt i len with
   | some n, true => aPart T elem cs.toList (i * n)
   | _, _ => none
  | some .string, .string s => match s.data.toList[i]? with
   | some b => some (.int .u8 b.toNat)
   | none => none
  | _, _ => none
 | _ => none
theorem aIndex_spec {T : Tabs} {P : Program} (hT : T.Ok P) {η : Env} {t : TypeId} {x x' ix ix' v : Value} (h : aIndex T t x ix = some v) (hx : VR η x x') (hi : VR η ix ix') (w : World) :
  ∃ v', (Instr.index t x' ix').run P w = .ok v' w /\ VR η v v' := by
 unfold aIndex at h
 split at h
 ·rename_i k i
  cases hi
  split at h
  ·rename_i len elem cs hu
   split at h
   ·rename_i n hn hlt
    have hlt : i < len := by simpa [Nat.blt_eq] using hlt
    cases hx with
    | agg _ c' hs hc =>
     obtain ⟨v', h1, h2⟩ := sound_part hT h (AR.toList ⟨hs, hc⟩) w
     refine ⟨v', ?_, h2⟩
     simp [Instr.index, asIntOf, run_under (hT.und _ _ hu), aSize_spec hT hn, hlt, h1]
   ·cases h
  ·rename_i s hu
   cases hx
   split at h
   ·rename_i b hb
    cases h
    refine ⟨_, ?_, .int _ _⟩
    have hb' : s[i]? = some b := by
     have : s.data[i]? = some b := by simpa using hb
     obtain ⟨h1, h2⟩ := Array.getElem?_eq_some_iff.1 this
     exact (getElem?_eq_some_iff).2 ⟨h1, h2⟩
    simp [Instr.index, asIntOf, run_under (hT.und _ _ hu), hb']
   ·cases h
  ·cases h
 ·cases h
def aFieldOf (T : Tabs) (t : TypeId) (x : Value) (field : Nat) : Option Value :=
 match T.und.get t, x with
 | some (.struct fields), .agg cs => match fields.toList[field]? with
  | some f => aPart T f.type cs.toList f.offset
  | none => none
 | _, _ => none
theorem aFieldOf_spec {T : Tabs} {P : Program} (hT : T.Ok P) {η : Env} {t : TypeId} {field : Nat} {x x' v : Value} (h : aFieldOf T t x field = some v) (hx : VR η x x') (w : World) :
  ∃ v', (Instr.field t x' field).run P w = .ok v' w /\ VR η v v' := by
 unfold aFieldOf at h
 split at h
 ·rename_i fields cs hu
  split at h
  ·rename_i f hf
   have hf' : fields[field]? = some f := by simpa using hf
   cases hx with
   | agg _ c' hs hc =>
    obtain ⟨v', h1, h2⟩ := sound_part hT h (AR.toList ⟨hs, hc⟩) w
    refine ⟨v', ?_, h2⟩
    simp [Instr.field, run_under (hT.und _ _ hu), hf', asAgg, h1]
  ·cases h
 ·cases h
def aExtract (x : Value) (i : Nat) : Option Value :=
 match x with
 | .tuple vs => vs.toList[i]?
 | _ => none
theorem aExtract_spec {η : Env} {i : Nat} {x x' v : Value} (h : aExtract x i = some v) (hx : VR η x x') (P : Program) (w : World) :
  ∃ v', (Instr.extract x' i).run P w = .ok v' w /\ VR η v v' := by
 unfold aExtract at h
 split at h
 ·rename_i vs
  cases hx with
  | tuple _ c' hs hc =>
   obtain ⟨v', h1, h2⟩ := (AR.toList ⟨hs, hc⟩ : LR η _ _).get h
   have h1' : c'[i]? = some v' := by simpa using h1
   exact ⟨v', by simp [Instr.extract, h1'], h2⟩
 ·cases h
theorem map_range_zero (f : Nat -> Value) : (Array.range 0).map f = #[] := by simp
def aMakeSlice (T : Tabs) (W : AW) (t : TypeId) (len cap : Value) : Option (Value × AW) :=
 match len, cap with
 | .int _ (.ofNat l), .int _ (.ofNat c) => match T.und.get t with
  | some (.slice elem) => match T.info.get elem with
   | some i => match i.zero with
    | some z => match Nat.ble l c, Nat.ble c 4611686018427387904, Nat.ble (i.bytes * c) 281474976710656, Nat.beq (acells z).length i.size with
     | true, true, true, true => some (.slice (some ⟨W.next, 0, none⟩) l (2 * c), W.newCells elem (rep (acells z) c))
     | _, _, _, _ => none
    | none => none
   | none => none
  | _ => none
 | _, _ => none
theorem wrap64_id {n : Nat} (h : n <= 4611686018427387904) : IntKind.i64.wrap (Int.ofNat n) = (n : Int) := by
 have e : (Int.ofNat n) = (n : Int) := rfl
 rw [e]
 exact IntWalk.i64_in _ (by omega)
theorem aMakeSlice_spec {T : Tabs} {P : Program} (hT : T.Ok P) {η : Env} {W W' : AW} {w : World} (hw : WRel η W w) {t : TypeId} {l l' c c' v : Value}
  (h : aMakeSlice T W t l c = some (v, W')) (hl : VR η l l') (hc : VR η c c') : Res P η W w (Instr.makeSlice t l' c') W' (fun η' v' => VR η' v v') := by
 unfold aMakeSlice at h
 split at h
 ·rename_i k1 l k2 c
  cases hl; cases hc
  split at h
  ·rename_i elem hu
   split at h
   ·rename_i i hi
    split at h
    ·rename_i z hz
     split at h
     ·rename_i h1 h2 h3 h4
      cases h
      have h1 : l <= c := Nat.le_of_ble_eq_true h1
      have h2 : c <= 4611686018427387904 := Nat.le_of_ble_eq_true h2
      have h3 : i.bytes * c <= 281474976710656 := Nat.le_of_ble_eq_true h3
      have h4 := Nat.eq_of_beq_eq_true h4
      have zz := flat_vr η z (hT.zero _ _ _ hi hz)
      have hzl := acells_vr zz
      have hzs : z.cells.size = i.size := by rw [<- h4, hzl.1]; simp
      have hr := sound_newCells hw (elem := elem) (x := []) (hzl.rep c)
      simp only [List.append_nil] at hr
      refine ⟨_, _, .slice (some ⟨w.heap.size, 0, none⟩) l c, ?_, hr.2, hr.1, ?_⟩
      ·have hbig : ((i.bytes : Int) * (c : Int)) <= 281474976710656 := by have := Int.ofNat_le.2 h3; rw [Int.natCast_mul] at this; exact this
       simp only [Instr.makeSlice, Sem.run_bind, run_under (hT.und _ _ hu), Result.andThen_ok, asInt, asIntOf, Sem.run_pure, run_typeInfo (hT.info _ _ hi), wrap64_id h2, wrap64_id (Nat.le_trans h1 h2), run_sizeOf (hT.info _ _ hi)]
       have hcond : ((decide ((c : Int) < 0) || decide ((i.bytes : Int) * (c : Int) > 2 ^ 48)) || decide ((l : Int) < 0) || decide ((l : Int) > (c : Int))) = false := by
        simp; omega
       rw [if_neg (by rw [hcond]; simp)]
       simp only [Sem.run_bind, run_askRoom, Result.andThen_ok, Int.toNat_natCast, run_sizeOf (hT.info _ _ hi)]
       by_cases h0 : c * i.size = 0
       ·have e : rep z.cells.toList c = [] := List.length_eq_zero_iff.1 (by rw [rep_length]; simp [hzs, h0])
        rw [if_pos h0]
        simp only [Sem.run_bind, Sem.run_pure, Result.andThen_ok, newRow, run_newObj, h0, e, map_range_zero]
       ·rw [if_neg h0]
        simp only [Sem.run_bind, run_zeroValue (hT.info _ _ hi) hz, Result.andThen_ok, Sem.run_pure, newRow, run_newObj]
        rw [<- hzs, rep_range]
      ·exact VR.sliceAt W.next 0 l c (w.heap.size, 0, _) (Env.add_self _ _ _)
     ·cases h
    ·cases h
   ·cases h
  ·cases h
 ·cases h
def aBuildSlice (T : Tabs) (W : AW) (t : TypeId) (len : Nat) (parts : List (Nat × Value)) : Option (Value × AW) :=
 match T.und.get t with
 | some (.slice elem) => match T.info.get elem with
  | some i => match i.zero with
   | some z => match Nat.ble (len * i.size) 16777216, Nat.beq (acells z).length i.size with
    | true, true => match aFill (fun j => some (j * i.size, i.size)) (rep (acells z) len) parts with
     | some c => some (.slice (some ⟨W.next, 0, none⟩) len (2 * len), W.newCells elem c)
     | none => none
    | _, _ => none
   | none => none
  | none => none
 | _ => none
theorem aBuildSlice_spec {T : Tabs} {P : Program} (hT : T.Ok P) {η : Env} {W W' : AW} {w : World} (hw : WRel η W w) {t : TypeId} {len : Nat} {parts : List (Nat × Value)} {parts' : Array (Nat × Value)} {v : Value}
  (h : aBuildSlice T W t len parts = some (v, W')) (hp : PsRel η parts parts'.toList) : Res P η W w (Instr.buildSlice t len parts') W' (fun η' v' => VR η' v v') := by
 unfold aBuildSlice at h
 split at h
 ·rename_i elem hu
  split at h
  ·rename_i i hi
   split at h
   ·rename_i z hz
    split at h
    ·rename_i h1 h4
     split at h
     ·rename_i c hc
      cases h
      have h1 : len * i.size <= 16777216 := Nat.le_of_ble_eq_true h1
      have h4 := Nat.eq_of_beq_eq_true h4
      have zz := flat_vr η z (hT.zero _ _ _ hi hz)
      have hzl := acells_vr zz
      have hzs : z.cells.size = i.size := by rw [<- h4, hzl.1]; simp
      obtain ⟨r', g1, g2⟩ := sound_fill parts parts'.toList _ (rep z.cells.toList len).toArray c hc hp (by simpa using hzl.rep len)
      have hr := sound_newCells hw (elem := elem) (x := []) g2
      simp only [List.append_nil] at hr
      refine ⟨_, _, .slice (some ⟨w.heap.size, 0, none⟩) len len, ?_, hr.2, hr.1, ?_⟩
      ·simp only [Instr.buildSlice, Sem.run_bind, run_under (hT.und _ _ hu), Result.andThen_ok, run_sizeOf (hT.info _ _ hi)]
       rw [if_neg (by omega)]
       by_cases h0 : len * i.size = 0
       ·have e : rep z.cells.toList len = [] := List.length_eq_zero_iff.1 (by rw [rep_length]; simp [hzs, h0])
        rw [e] at g1
        rw [if_pos h0]
        have g1' : Instr.fill (fun j => some (j * i.size, i.size)) ((Array.range 0).map fun x => (#[] : Array Value)[x % (#[] : Array Value).size]!) parts'.toList = some r' := by rw [map_range_zero]; exact g1
        simp only [Sem.run_bind, Sem.run_pure, Result.andThen_ok, newRow, run_newObj, h0, g1']
       ·rw [if_neg h0]
        have g1' : Instr.fill (fun j => some (j * i.size, i.size)) ((Array.range (len * i.size)).map fun x => z.cells[x % z.cells.size]!) parts'.toList = some r' := by
         rw [<- hzs, rep_range]; rw [hzs]; exact g1
        simp only [Sem.run_bind, run_zeroValue (hT.info _ _ hi) hz, Result.andThen_ok, Sem.run_pure, newRow, run_newObj, g1']
      ·exact VR.sliceAt W.next 0 len len (w.heap.size, 0, _) (Env.add_self _ _ _)
     ·cases h
    ·cases h
   ·cases h
  ·cases h
 ·cases h
def aBound (x : Value) (y : Nat) : Option Nat :=
 match x with
 | .int _ (.ofNat i) => match Nat.ble i y with
  | true => some i
  | false => none
 | _ => none
end Go.Eng
