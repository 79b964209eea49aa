import Derived.Test.YtdpnplanohgecaaDoorEngC
import Derived.Laws.Tables
import Derived.Laws.Append
import Derived.Laws.BytesString
import Derived.Lib.SmallJoins
import Derived.Lib.Strings
set_option linter.unusedSimpArgs false
set_option linter.unusedVariables false
set_option linter.unusedSectionVars false
namespace Go.Eng
def aPure {α : Type} : Sem α -> Option α
 | .pure a => some a
 | _ => none
theorem aPure_spec {α : Type} {s : Sem α} {a : α} (h : aPure s = some a) : s = .pure a := by
 cases s <;> simp [aPure] at h; rw [h]
def aSize (T : Tabs) (t : TypeId) : Option Nat :=
 match T.info.get t with
 | some i => some i.size
 | none => none
theorem aSize_spec {T : Tabs} {P : Program} (hT : T.Ok P) {t : TypeId} {n : Nat} (h : aSize T t = some n) (w : World) : (sizeOf t).run P w = .ok n w := by
 unfold aSize at h
 split at h
 ·rename_i i hi; cases h; exact run_sizeOf (hT.info _ _ hi)
 ·cases h
def aZero (T : Tabs) (t : TypeId) : Option Value :=
 match T.info.get t with
 | some i => i.zero
 | none => none
theorem aZero_spec {T : Tabs} {P : Program} (hT : T.Ok P) {t : TypeId} {z : Value} (h : aZero T t = some z) (w : World) (η : Env) :
  (zeroValue t).run P w = .ok z w /\ VR η z z := by
 unfold aZero at h
 split at h
 ·rename_i i hi; exact ⟨run_zeroValue (hT.info _ _ hi) h, flat_vr η z (hT.zero _ _ _ hi h)⟩
 ·cases h
def aPart (T : Tabs) (t : TypeId) (cs : List Value) (off : Nat) : Option Value :=
 match T.und.get t with
 | some d => match isAggD d with
  | true => match aSize T t with
   | some n => match Nat.ble (off + n) cs.length with
    | true => some (.agg ⟨(cs.drop off).take n⟩)
    | false => none
   | none => none
  | false => cs[off]?
 | none => none
theorem LR.take {η : Env} {l l' : List Value} (h : LR η l l') (n : Nat) : LR η (l.take n) (l'.take n) := by
 refine ⟨by simp [h.1], fun i v v' a b => ?_⟩
 have hi : i < n := by
  rcases Nat.lt_or_ge i n with h | h
  ·exact h
  ·rw [List.getElem?_eq_none (by simp; omega)] at a; cases a
 rw [List.getElem?_take_of_lt hi] at a b
 exact h.2 i v v' a b
theorem LR.drop {η : Env} {l l' : List Value} (h : LR η l l') (n : Nat) : LR η (l.drop n) (l'.drop n) :=
 ⟨by simp [h.1], fun i v v' a b => h.2 (n + i) v v' (by simpa using a) (by simpa using b)⟩
theorem LR.get {η : Env} {l l' : List Value} (h : LR η l l') {i : Nat} {v : Value} (hv : l[i]? = some v) : ∃ v', l'[i]? = some v' /\ VR η v v' := by
 have hi : i < l.length := by
  rcases Nat.lt_or_ge i l.length with h | h
  ·exact h
  ·rw [List.getElem?_eq_none h] at hv; cases hv
 have hi' : i < l'.length := h.1 ▸ hi
 exact ⟨l'[i], List.getElem?_eq_getElem hi', h.2 i v _ hv (List.getElem?_eq_getElem hi')⟩
theorem extract_toList (cs : Array Value) (a b : Nat) : (cs.extract a b).toList = (cs.toList.drop a).take (b - a) := by
 simp [Array.toList_extract]
theorem sound_part {T : Tabs} {P : Program} (hT : T.Ok P) {η : Env} {t : TypeId} {cs : List Value} {cs' : Array Value} {off : Nat} {v : Value} (h : aPart T t cs off = some v)
  (hc : LR η cs cs'.toList) (w : World) : ∃ v', (part t cs' off).run P w = .ok v' w /\ VR η v v' := by
 unfold aPart at h
 split at h
 ·rename_i d hd
  split at h
  ·rename_i hagg
   split at h
   ·rename_i n hn
    split at h
    ·cases h
     refine ⟨.agg (cs'.extract off (off + n)), ?_, ?_⟩
     ·simp [part, run_isAgg (hT.und _ _ hd), hagg, aSize_spec hT hn]
     ·have := ((hc.drop off).take n).toArray
      rw [show (cs'.extract off (off + n)) = ((cs'.toList.drop off).take n).toArray from by
       apply Array.toList_inj.1; rw [extract_toList]; simp]
      exact .agg _ _ this.1 this.2
    ·cases h
   ·cases h
  ·rename_i hagg
   obtain ⟨v', h1, h2⟩ := hc.get h
   refine ⟨v', ?_, h2⟩
   have h1' : cs'[off]? = some v' := by simpa using h1
   simp [part, run_isAgg (hT.und _ _ hd), hagg, h1']
 ·cases h
def over (l : List Value) (off : Nat) (vl : List Value) : List Value := l.take off ++ (vl ++ l.drop (off + vl.length))
theorem fill_fold (off : Nat) : ∀ (l : List Value) (k : Nat) (cells : Array Value), off + k + l.length <= cells.size ->
  ((l.zipIdx k).foldl (fun cs (x : Value × Nat) => cs.setIfInBounds (off + x.2) x.1) cells).toList = cells.toList.take (off + k) ++ (l ++ cells.toList.drop (off + k + l.length))
 | [], k, cells, _ => by simp
 | v :: l, k, cells, h => by
  simp only [List.length_cons] at h
  simp only [List.zipIdx_cons, List.foldl_cons]
  rw [fill_fold off l (k + 1) _ (by simp; omega)]
  have hk : off + k < cells.toList.length := by simp; omega
  simp only [Array.toList_setIfInBounds]
  rw [show off + (k + 1) = off + k + 1 from by omega, List.take_succ_eq_append_getElem (by simp; omega)]
  simp only [List.take_set_of_le (Nat.le_refl _), List.getElem_set_self, List.append_assoc, List.length_cons, List.cons_append, List.nil_append]
  rw [List.drop_set_of_lt (by omega), show off + k + 1 + l.length = off + k + (l.length + 1) from by omega]
theorem sound_over {η : Env} {l : List Value} {cells : Array Value} {v v' : Value} {off : Nat} (hl : LR η l cells.toList) (hv : VR η v v') (h : off + (acells v).length <= l.length) :
  LR η (over l off (acells v)) (v'.cells.zipIdx.foldl (fun cs (x : Value × Nat) => cs.setIfInBounds (off + x.2) x.1) cells).toList := by
 have hv' := acells_vr hv
 rw [<- Array.foldl_toList, Array.toList_zipIdx, fill_fold off v'.cells.toList 0 cells (by have := hv'.1; have := hl.1; simp at *; omega)]
 unfold over
 refine (hl.take _).append (hv'.append ?_)
 rw [hv'.1]; exact hl.drop _
def aFill (place : Nat -> Option (Nat × Nat)) : List Value -> List (Nat × Value) -> Option (List Value)
 | cells, [] => some cells
 | cells, (i, v) :: rest =>
  match place i with
  | none => none
  | some (off, size) => match Nat.beq (acells v).length size with
   | true => match Nat.ble (off + size) cells.length with
    | true => aFill place (over cells off (acells v)) rest
    | false => none
   | false => none
def PsRel (η : Env) : List (Nat × Value) -> List (Nat × Value) -> Prop
 | [], [] => True
 | (i, v) :: l, (i', v') :: l' => i = i' /\ VR η v v' /\ PsRel η l l'
 | _, _ => False
theorem sound_fill {η : Env} {place : Nat -> Option (Nat × Nat)} : ∀ (parts parts' : List (Nat × Value)) (cells : List Value) (cells' : Array Value) (r : List Value),
  aFill place cells parts = some r -> PsRel η parts parts' -> LR η cells cells'.toList -> ∃ r', Instr.fill place cells' parts' = some r' /\ LR η r r'.toList
 | [], parts', cells, cells', r, h, hp, hc => by
  cases parts' with
  | nil => simp [aFill] at h; subst h; exact ⟨cells', rfl, hc⟩
  | cons _ _ => exact hp.elim
 | (i, v) :: rest, parts', cells, cells', r, h, hp, hc => by
  cases parts' with
  | nil => exact hp.elim
  | cons x rest' =>
   obtain ⟨i', v'⟩ := x
   obtain ⟨rfl, hv, hp'⟩ := hp
   simp only [aFill] at h
   split at h
   ·cases h
   ·rename_i off size hpl
    split at h
    ·rename_i hsz
     have hsz := Nat.eq_of_beq_eq_true hsz
     split at h
     ·rename_i hle
      have hle : off + size <= cells.length := by simpa using hle
      obtain ⟨r', g1, g2⟩ := sound_fill rest rest' _ (v'.cells.zipIdx.foldl (fun cs (x : Value × Nat) => cs.setIfInBounds (off + x.2) x.1) cells') r h hp' (sound_over hc hv (by omega))
      refine ⟨r', ?_, g2⟩
      have e1 : v'.cells.size = size := by have := (acells_vr hv).1; simp at this; omega
      have e2 : off + v'.cells.size <= cells'.size := by have := hc.1; simp at this; omega
      simp only [Instr.fill, hpl, e1]
      rw [if_neg (by simp; omega)]
      exact g1
     ·cases h
    ·cases h
def aPlaces (T : Tabs) : List Field -> Option (List (Nat × Nat))
 | [] => some []
 | f :: l => match aSize T f.type with
  | none => none
  | some n => match aPlaces T l with
   | none => none
   | some r => some ((f.offset, n) :: r)
theorem aPlaces_spec {T : Tabs} {P : Program} (hT : T.Ok P) (w : World) : ∀ (l : List Field) (r : List (Nat × Nat)), aPlaces T l = some r ->
  (l.mapM fun (f : Field) => do pure (f.offset, <- sizeOf f.type)).run P w = .ok r w
 | [], r, h => by simp [aPlaces] at h; subst h; simp
 | f :: l, r, h => by
  simp only [aPlaces] at h
  split at h
  ·cases h
  ·rename_i n hn
   split at h
   ·cases h
   ·rename_i r' hr
    cases h
    have := aPlaces_spec hT w l r' hr
    simp only [List.mapM_cons, Sem.run_bind, aSize_spec hT hn, Result.andThen_ok, Sem.run_pure, this]
def aBuild (T : Tabs) (t : TypeId) (parts : List (Nat × Value)) : Option Value :=
 match aZero T t with
 | none => none
 | some z => match T.und.get t with
  | some (.struct fields) => match aPlaces T fields.toList with
   | none => none
   | some places => match aFill (fun i => places[i]?) (acells z) parts with
    | some c => some (.agg ⟨c⟩)
    | none => none
  | some (.array _ elem) => match aSize T elem with
   | none => none
   | some size => match aFill (fun i => some (i * size, size)) (acells z) parts with
    | some c => some (.agg ⟨c⟩)
    | none => none
  | _ => none
theorem sound_build {T : Tabs} {P : Program} (hT : T.Ok P) {η : Env} {t : TypeId} {parts : List (Nat × Value)} {parts' : Array (Nat × Value)} {v : Value}
  (h : aBuild T t parts = some v) (hp : PsRel η parts parts'.toList) (w : World) : ∃ v', (Instr.build t parts').run P w = .ok v' w /\ VR η v v' := by
 unfold aBuild at h
 split at h
 ·cases h
 ·rename_i z hz
  obtain ⟨z1, z2⟩ := aZero_spec hT hz w η
  have hzc := acells_vr z2
  split at h
  ·rename_i fields hu
   split at h
   ·cases h
   ·rename_i places hpl
    split at h
    ·rename_i c hc
     cases h
     obtain ⟨r', g1, g2⟩ := sound_fill parts parts'.toList _ z.cells c hc hp hzc
     have hm := aPlaces_spec hT w _ _ hpl
     refine ⟨.agg r', ?_, .agg _ _ g2.toArray.1 (fun i v v' a b => g2.2 i v v' (by simpa using a) (by simpa using b))⟩
     have g1' : Instr.fill (fun x => places.toArray[x]?) z.cells parts'.toList = some r' := by simpa using g1
     simp only [Instr.build, Sem.run_bind, z1, Result.andThen_ok, run_under (hT.und _ _ hu), Array.mapM_eq_mapM_toList, Sem.run_map, hm, g1', Sem.run_pure]
    ·cases h
  ·rename_i n elem hu
   split at h
   ·cases h
   ·rename_i size hs
    split at h
    ·rename_i c hc
     cases h
     obtain ⟨r', g1, g2⟩ := sound_fill parts parts'.toList _ z.cells c hc hp hzc
     refine ⟨.agg r', ?_, .agg _ _ g2.toArray.1 (fun i v v' a b => g2.2 i v v' (by simpa using a) (by simpa using b))⟩
     simp only [Instr.build, Sem.run_bind, z1, Result.andThen_ok, run_under (hT.und _ _ hu), aSize_spec hT hs, g1, Sem.run_pure]
    ·cases h
  ·cases h
def rep (zl : List Value) : Nat -> List Value
 | 0 => []
 | n + 1 => zl ++ rep zl n
theorem rep_length (zl : List Value) : ∀ n, (rep zl n).length = n * zl.length
 | 0 => by simp [rep]
 | n + 1 => by simp [rep, rep_length zl n, Nat.succ_mul]; omega
theorem rep_get (zl : List Value) (hz : 0 < zl.length) : ∀ (n i : Nat), i < n * zl.length -> (rep zl n)[i]? = zl[i % zl.length]?
 | 0, i, h => by simp at h
 | n + 1, i, h => by
  rw [rep]
  by_cases hi : i < zl.length
  ·rw [List.getElem?_append_left hi, Nat.mod_eq_of_lt hi]
  ·rw [List.getElem?_append_right (by omega), rep_get zl hz n _ (by rw [Nat.succ_mul] at h; omega)]
   rw [Nat.mod_eq_sub_mod (show i ≥ zl.length from by omega)]
theorem rep_range (z : Array Value) (n : Nat) : ((Array.range (n * z.size)).map (fun i => z[i % z.size]!)) = (rep z.toList n).toArray := by
 apply Array.ext_getElem?
 intro i
 by_cases hz : 0 < z.size
 ·by_cases hi : i < n * z.size
  ·have h1 : i < (Array.range (n * z.size)).size := by simpa using hi
   have h2 := Nat.mod_lt i hz
   simp [hi, rep_get z.toList (by simpa using hz) n i (by simpa using hi), h2]
  ·simp [rep_length, Array.getElem?_eq_none, hi]
 ·have : z.size = 0 := by omega
  have h3 : (rep z.toList n).length = 0 := by rw [rep_length]; simp [this]
  have : n * z.size = 0 := by simp [this]
  simp [this]
  omega
theorem LR.rep {η : Env} {l l' : List Value} (h : LR η l l') : ∀ n, LR η (rep l n) (rep l' n)
 | 0 => .nil η
 | n + 1 => h.append (LR.rep h n)
end Go.Eng
