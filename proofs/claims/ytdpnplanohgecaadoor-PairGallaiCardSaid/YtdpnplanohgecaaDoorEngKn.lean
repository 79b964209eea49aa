import Derived.Test.YtdpnplanohgecaaDoorEngKm
import GoSem.Instr.MakeMap
import GoSem.Instr.MapEntry
import GoSem.Instr.Range
import GoSem.Instr.Next
set_option linter.unusedSimpArgs false
set_option linter.unusedVariables false
set_option linter.unusedSectionVars false
namespace Go.Eng
open Go.MapKept (IsKey bytes_beq run_checkKey run_findKey run_setObj_map heap_set)
def aMakeMap (T : Tabs) (W : AW) (t : TypeId) (reserve : Option Value) : Option (Value × AW) :=
 match reserve with
 | none => some (.map (some W.next), W.new (.map [] 0))
 | some (.int _ _) => match T.und.get t with
  | some (.map _ _) => some (.map (some W.next), W.new (.map [] 0))
  | _ => none
 | _ => none
theorem sound_newMap {P : Program} {η : Env} {W : AW} {w : World} (hw : WRel η W w) :
  Res P η W w (do pure (.map (some (<- newObj (.map #[] 0))))) (W.new (.map [] 0)) (fun η' v => VR η' (.map (some W.next)) v) := by
 have h0 := hw.new (o := .map [] 0) (o' := .map #[] 0) (base := 0) (size := 1) ⟨by simp [EsRel], rfl, by simp⟩ (fun c el fz x => by cases x)
 refine ⟨_, _, .map (some w.heap.size), ?_, h0.2, h0.1, ?_⟩
 ·simp [run_newObj]
 ·exact VR.map W.next (w.heap.size, 0, 1) (Env.add_self _ _ _)
theorem aMakeMap_spec {T : Tabs} {P : Program} (hT : T.Ok P) {η : Env} {W W' : AW} {w : World} (hw : WRel η W w) {t : TypeId} {r r' : Option Value} {v : Value}
  (h : aMakeMap T W t r = some (v, W')) (hr : OV η r r') : Res P η W w (Instr.makeMap t r') W' (fun η' v' => VR η' v v') := by
 unfold aMakeMap at h
 split at h
 ·cases h
  cases r' with
  | none => exact Res.of_run (by simp [Instr.makeMap]) (sound_newMap hw)
  | some _ => exact hr.elim
 ·rename_i k n
  split at h
  ·rename_i kt et hu
   cases h
   cases r' with
   | none => exact hr.elim
   | some x =>
    have hx : VR η (.int k n) x := hr
    cases hx
    exact Res.of_run (by simp [Instr.makeMap, run_under (hT.und _ _ hu), asInt, asIntOf]) (sound_newMap hw)
  ·cases h
 ·cases h
def aEntries (W : AW) : Value -> Option (List (Value × Value × Nat))
 | .map none => some []
 | .map (some r) => match W.blocks.get r with
  | some ⟨.map es _, _⟩ => some es
  | _ => none
 | _ => none
def aOkd (commaOk : Bool) (v : Value) (b : Bool) : Value :=
 match commaOk with
 | true => .tuple ⟨[v, .bool b]⟩
 | false => v
def aLookup (T : Tabs) (W : AW) (xt : TypeId) (x ix : Value) (commaOk : Bool) : Option Value :=
 match T.und.get xt with
 | some (.map kt et) => match keyOk T kt ix, aEntries W x with
  | true, some es => match aFind T kt ix es 0 with
   | some (some (_, v)) => some (aOkd commaOk v true)
   | some none => match aZero T et with
    | some z => some (aOkd commaOk z false)
    | none => none
   | none => none
  | _, _ => none
 | _ => none
theorem vr_okd {η : Env} {v v' : Value} (h : VR η v v') (c b : Bool) : VR η (aOkd c v b) (if c then .tuple #[v', .bool b] else v') := by
 cases c
 ·simpa [aOkd] using h
 ·simp only [aOkd, if_true]
  have := (LR.cons h (LR.cons (VR.bool b) (LR.nil η))).toArray
  exact VR.tuple _ _ this.1 this.2
theorem aLookup_spec {T : Tabs} {P : Program} (hT : T.Ok P) {η : Env} {W : AW} {w : World} (hw : WRel η W w) {xt : TypeId} {x x' ix ix' : Value} {c : Bool} {v : Value}
  (h : aLookup T W xt x ix c = some v) (hx : VR η x x') (hi : VR η ix ix') : ∃ v', (Instr.lookup xt x' ix' c).run P w = .ok v' w /\ VR η v v' := by
 unfold aLookup at h
 split at h
 ·rename_i kt et hu
  split at h
  ·rename_i es hk hes
   have hix : ix' = ix := flat_eq (keyOk_flat hk) hi
   subst hix
   obtain ⟨es', hes', hlook⟩ : ∃ es' : Array MapEntry, EsRel η es es'.toList /\ ∀ r', (Instr.findKey kt ix' es'.toList).run P w = .ok r' w -> (Instr.lookup xt x' ix' c).run P w = (do
     let (v, ok) <- match r' with
      | some (_, v) => pure (v, true)
      | none => pure (<- zeroValue et, false)
     pure (if c then .tuple #[v, .bool ok] else v) : Sem Value).run P w := by
    unfold aEntries at hes
    split at hes
    ·cases hes; cases hx
     refine ⟨#[], by simp [EsRel], fun r' hr' => ?_⟩
     unfold Instr.lookup
     simp only [Sem.run_bind, run_under (hT.und _ _ hu), Result.andThen_ok, Sem.run_pure, run_checkKey_ok hT hk, hr']
     rcases r' with _ | ⟨j, v⟩ <;> rfl
    ·rename_i r
     split at hes
     ·rename_i es0 ck kin hr
      cases hes
      cases hx with
      | map _ e he =>
       obtain ⟨es', h1, h2, _⟩ := hw.mapAt hr he
       refine ⟨es', h2, fun r' hr' => ?_⟩
       unfold Instr.lookup
       simp only [Sem.run_bind, run_under (hT.und _ _ hu), Result.andThen_ok, Sem.run_pure, run_getObj_map h1, run_checkKey_ok hT hk, hr']
       rcases r' with _ | ⟨j, v⟩ <;> rfl
     ·cases hes
    ·cases hes
   split at h
   ·rename_i j v0 hf
    cases h
    obtain ⟨r', g1, g2, g3⟩ := run_findKey_key hT hk w hf hes'
    obtain ⟨v', rfl, hv, _⟩ := g3 _ _ rfl
    refine ⟨_, ?_, vr_okd hv c true⟩
    rw [hlook _ g1]
    simp
   ·rename_i hf
    split at h
    ·rename_i z hz
     cases h
     obtain ⟨r', g1, g2, g3⟩ := run_findKey_key hT hk w hf hes'
     have := g2 rfl
     subst this
     obtain ⟨z1, z2⟩ := aZero_spec hT hz w η
     refine ⟨_, ?_, vr_okd z2 c false⟩
     rw [hlook _ g1]
     simp [z1]
    ·cases h
   ·cases h
  ·cases h
 ·cases h
def updAt : List (Value × Value × Nat) -> Nat -> Value -> Value -> List (Value × Value × Nat)
 | [], _, _, _ => []
 | (_, _, n) :: l, 0, k, v => (k, v, n) :: l
 | x :: l, i + 1, k, v => x :: updAt l i k v
theorem EsRel.upd {η : Env} {k v k' v' : Value} (hk : VR η k k') (hv : VR η v v') : ∀ {l : List (Value × Value × Nat)} {l' : List MapEntry} (i : Nat), EsRel η l l' ->
  EsRel η (updAt l i k v) (l'.modify i fun e => { e with key := k', val := v' })
 | [], [], i, _ => by cases i <;> simp [updAt, EsRel]
 | (_, _, _) :: _, _ :: _, 0, h => by simp only [updAt, List.modify_zero_cons]; exact ⟨hk, hv, h.2.2.1, h.2.2.2⟩
 | (_, _, _) :: _, _ :: _, i + 1, h => by simp only [updAt, List.modify_succ_cons]; exact ⟨h.1, h.2.1, h.2.2.1, EsRel.upd hk hv i h.2.2.2⟩
 | [], _ :: _, _, h => h.elim
 | _ :: _, [], _, h => h.elim
theorem EsRel.snoc {η : Env} {k v : Value} {n : Nat} {e : MapEntry} (hk : VR η k e.key) (hv : VR η v e.val) (hn : n = e.born) : ∀ {l : List (Value × Value × Nat)} {l' : List MapEntry}, EsRel η l l' ->
  EsRel η (l ++ [(k, v, n)]) (l' ++ [e])
 | [], [], _ => ⟨hk, hv, hn, trivial⟩
 | (_, _, _) :: _, _ :: _, h => ⟨h.1, h.2.1, h.2.2.1, EsRel.snoc hk hv hn h.2.2.2⟩
 | [], _ :: _, h => h.elim
 | _ :: _, [], h => h.elim
theorem sameBits_key1 {d : TypeDesc} {k : Value} (h : isKey1 d k = true) (n : Nat) : Instr.sameBits n k k = true := by
 cases d <;> cases k <;> first
  | (simp [isKey1] at h; done)
  | skip
 all_goals (cases n <;> simp [Instr.sameBits])
 all_goals exact (bytes_beq _ _).2 rfl
theorem sameBits_keys {d : TypeDesc} (n : Nat) : ∀ {l : List Value}, allB (isKey1 d) l = true -> (l.zip l).all (fun (x, y) => Instr.sameBits n x y) = true
 | [], _ => rfl
 | a :: l, h => by
  simp only [allB] at h
  split at h
  ·rename_i ha
   simp only [List.zip_cons_cons, List.all_cons, sameBits_key1 ha, Bool.true_and]
   exact sameBits_keys n h
  ·cases h
theorem sameBits_fields {T : Tabs} (n : Nat) : ∀ {fs : List Field} {l : List Value} {j : Nat}, fieldsKey T fs l j = true -> (l.zip l).all (fun (x, y) => Instr.sameBits n x y) = true
 | _, [], _, _ => rfl
 | [], _ :: _, _, h => by simp [fieldsKey] at h
 | f :: fs, a :: l, j, h => by
  obtain ⟨d, _, _, _, h4, h5⟩ := fieldsKey_cons h
  simp only [List.zip_cons_cons, List.all_cons, sameBits_key1 h4, Bool.true_and]
  exact sameBits_fields n h5
theorem run_keyStays {T : Tabs} {P : Program} (hT : T.Ok P) {t : TypeId} {k : Value} (h : keyOk T t k = true) (w : World) : (Instr.keyThatStays k k).run P w = .ok k w := by
 have : Instr.sameBits 10000 k k = true := by
  rcases keyOk_cases hT h with ⟨fs, cs, hu, rfl, hp, hf⟩ | ⟨n, e, cs, d, i, hu, rfl, hd, hi, h1, h2, h3⟩ | ⟨d, hu, _, hk⟩
  ·simp only [Instr.sameBits]
   simpa using sameBits_fields 9999 hf
  ·simp only [Instr.sameBits]
   simpa using sameBits_keys 9999 h3
  ·exact sameBits_key1 hk _
 simp [Instr.keyThatStays, this]
def aMapUpdate (T : Tabs) (W : AW) (mt : TypeId) (m key val : Value) : Option AW :=
 match T.und.get mt with
 | some (.map kt _) => match keyOk T kt key, m with
  | true, .map (some r) => match W.blocks.get r with
   | some ⟨.map es ck, []⟩ => match aFind T kt key es 0 with
    | some none => some ⟨W.blocks.set r ⟨.map (es ++ [(key, val, ck)]) (ck + 1), []⟩, W.next⟩
    | some (some (i, _)) => some ⟨W.blocks.set r ⟨.map (updAt es i key val) ck, []⟩, W.next⟩
    | none => none
   | _ => none
  | _, _ => none
 | _ => none
theorem setObj_turn {P : Program} {η : Env} {W : AW} {w : World} (hw : WRel η W w) {r : Nat} {es : List (Value × Value × Nat)} {ck : Nat} {o : AObj} {o' : Obj} {e : Nat × Nat × Nat}
  (hr : W.blocks.get r = some ⟨.map es ck, []⟩) (he : η r = some e) (ho : ORel η o e o') (hoc : ∀ c el fz, o' ≠ .cells c el fz) :
  Res P η W w (setObj e.1 o') ⟨W.blocks.set r ⟨o, []⟩, W.next⟩ (fun _ _ => True) := by
 obtain ⟨es', h1, h2, hz⟩ := hw.mapAt hr he
 have hs := heap_set (o' := o') h1
 refine ⟨η, { w with heap := w.heap.setIfInBounds e.1 o' }, (), run_setObj_map _ h1, ?_, ?_, trivial⟩
 ·exact Fr.turn rfl he hz (frozen?_other h1 hs.1 hs.2 (fun _ _ _ x => by cases x) hoc) (by simp) hs.2 rfl rfl rfl (fun c el fz x => by rw [h1] at x; cases x)
 ·exact hw.turn (k := ⟨.map es ck, []⟩) (k' := ⟨o, []⟩) hr he rfl o' hs.1 ho (by simp) hs.2
theorem aFind_val {T : Tabs} {t : TypeId} {k v : Value} : ∀ {es : List (Value × Value × Nat)} {i j : Nat} {x : Value × Value × Nat}, aFind T t k es i = some (some (i + j, v)) -> es[j]? = some x -> x.2.1 = v := by
 intro es
 induction es with
 | nil => intro i j x h; simp [aFind] at h
 | cons a es ih =>
  intro i j x h hx
  obtain ⟨k', v', c⟩ := a
  have hge : ∀ (es : List (Value × Value × Nat)) (i m : Nat) (v : Value), aFind T t k es i = some (some (m, v)) -> i <= m := by
   intro es
   induction es with
   | nil => intro i m v h; simp [aFind] at h
   | cons b es ih2 =>
    intro i m v h
    obtain ⟨k2, v2, c2⟩ := b
    simp only [aFind] at h
    split at h
    ·cases h
    ·split at h
     ·simp at h; omega
     ·have := ih2 _ _ _ h; omega
  simp only [aFind] at h
  split at h
  ·cases h
  ·split at h
   ·simp only [Option.some.injEq, Prod.mk.injEq] at h
    obtain ⟨h1, h2⟩ := h
    have : j = 0 := by omega
    subst this
    simp at hx; subst hx; exact h2
   ·have h3 := hge _ _ _ _ h
    obtain ⟨j', rfl⟩ : ∃ j', j = j' + 1 := ⟨j - 1, by omega⟩
    rw [show i + (j' + 1) = i + 1 + j' from by omega] at h
    exact ih h (by simpa using hx)
theorem aMapUpdate_spec {T : Tabs} {P : Program} (hT : T.Ok P) {η : Env} {W W' : AW} {w : World} (hw : WRel η W w) {mt : TypeId} {m m' key key' val val' : Value}
  (h : aMapUpdate T W mt m key val = some W') (hm : VR η m m') (hk : VR η key key') (hv : VR η val val') : Res P η W w (Instr.mapUpdate mt m' key' val') W' (fun _ _ => True) := by
 unfold aMapUpdate at h
 split at h
 ·rename_i kt et hu
  split at h
  ·rename_i r hko
   have hkk : key' = key := flat_eq (keyOk_flat hko) hk
   subst hkk
   cases hm with
   | map _ e he =>
    split at h
    ·rename_i es ck hr
     obtain ⟨es', h1, h2, hz⟩ := hw.mapAt hr he
     split at h
     ·rename_i hf
      cases h
      obtain ⟨r', g1, g2, g3⟩ := run_findKey_key hT hko w hf h2
      have := g2 rfl
      subst this
      have hrun : (Instr.mapUpdate mt (.map (some e.1)) key' val').run P w = (setObj e.1 (.map (es'.push { key := key', val := val', born := ck }) (ck + 1))).run P w := by
       unfold Instr.mapUpdate
       simp only [Sem.run_bind, run_under (hT.und _ _ hu), Result.andThen_ok, run_getObj_map h1, run_checkKey_ok hT hko, g1]
      refine Res.of_run hrun (setObj_turn hw hr he ?_ (fun _ _ _ x => by cases x))
      exact ⟨by simpa using EsRel.snoc (e := { key := key', val := val', born := ck }) hk hv rfl h2, rfl, hz⟩
     ·rename_i i v0 hf
      cases h
      obtain ⟨r', g1, g2, g3⟩ := run_findKey_key hT hko w hf h2
      obtain ⟨v', rfl, hv', e0, h3, h4⟩ := g3 _ _ rfl
      have h3' : es'[i]? = some e0 := by simpa using h3
      have hrun : (Instr.mapUpdate mt (.map (some e.1)) key' val').run P w = (setObj e.1 (.map (es'.modify i fun e => { e with key := key', val := val' }) ck)).run P w := by
       unfold Instr.mapUpdate
       simp only [Sem.run_bind, run_under (hT.und _ _ hu), Result.andThen_ok, run_getObj_map h1, run_checkKey_ok hT hko, g1, h3', Option.map_some, Option.getD_some, h4, run_keyStays hT hko]
      refine Res.of_run hrun (setObj_turn hw hr he ?_ (fun _ _ _ x => by cases x))
      exact ⟨by simpa using EsRel.upd hk hv i h2, rfl, hz⟩
     ·cases h
    ·cases h
  ·cases h
 ·cases h
def bornAt (b : Nat) : List (Value × Value × Nat) -> Nat -> Option Nat
 | [], _ => none
 | (_, _, n) :: l, i => match Nat.beq n b with
  | true => some i
  | false => bornAt b l (i + 1)
def putAt : List (Value × Value × Nat) -> Nat -> Value -> List (Value × Value × Nat)
 | [], _, _ => []
 | (k, _, n) :: l, 0, v => (k, v, n) :: l
 | x :: l, i + 1, v => x :: putAt l i v
theorem EsRel.put {η : Env} {v v' : Value} (hv : VR η v v') : ∀ {l : List (Value × Value × Nat)} {l' : List MapEntry} (i : Nat), EsRel η l l' -> EsRel η (putAt l i v) (l'.modify i fun e => { e with val := v' })
 | [], [], i, _ => by cases i <;> simp [putAt, EsRel]
 | (_, _, _) :: _, _ :: _, 0, h => by simp only [putAt, List.modify_zero_cons]; exact ⟨h.1, hv, h.2.2.1, h.2.2.2⟩
 | (_, _, _) :: _, _ :: _, i + 1, h => by simp only [putAt, List.modify_succ_cons]; exact ⟨h.1, h.2.1, h.2.2.1, EsRel.put hv i h.2.2.2⟩
 | [], _ :: _, _, h => h.elim
 | _ :: _, [], _, h => h.elim
theorem bornAt_spec {η : Env} {b : Nat} : ∀ {l : List (Value × Value × Nat)} {l' : List MapEntry} {i j : Nat}, bornAt b l i = some j -> EsRel η l l' -> ∃ k, j = i + k /\ l'.findIdx? (fun e => (e.born : Int) == (b : Int)) = some k
 | [], _, _, _, h, _ => by simp [bornAt] at h
 | _ :: _, [], _, _, _, h => h.elim
 | (_, _, n) :: l, e :: l', i, j, h, hr => by
  have hn : n = e.born := hr.2.2.1
  simp only [bornAt] at h
  split at h
  ·rename_i hb
   cases h
   have hb := Nat.eq_of_beq_eq_true hb
   exact ⟨0, rfl, by rw [List.findIdx?_cons, if_pos (by simp; omega)]⟩
  ·rename_i hb
   have hb := Nat.ne_of_beq_eq_false hb
   obtain ⟨k, h1, h2⟩ := bornAt_spec h hr.2.2.2
   exact ⟨k + 1, by omega, by rw [List.findIdx?_cons, if_neg (by simp; omega), h2]; rfl⟩
theorem EsRel.get {η : Env} : ∀ {l : List (Value × Value × Nat)} {l' : List MapEntry} {i : Nat} {x : Value × Value × Nat}, EsRel η l l' -> l[i]? = some x -> ∃ e, l'[i]? = some e /\ VR η x.2.1 e.val /\ x.2.2 = e.born
 | [], _, _, _, _, h => by simp at h
 | _ :: _, [], _, _, h, _ => h.elim
 | (_, _, _) :: _, e :: _, 0, _, h, hx => by simp at hx; subst hx; exact ⟨e, rfl, h.2.1, h.2.2.1⟩
 | (_, _, _) :: _, _ :: _, i + 1, _, h, hx => by
  obtain ⟨e, h1, h2⟩ := EsRel.get h.2.2.2 (by simpa using hx)
  exact ⟨e, by simpa using h1, h2⟩
def aMapEntry (T : Tabs) (W : AW) (mt : TypeId) (m key : Value) : Option (Value × AW) :=
 match T.und.get mt with
 | some (.map kt et) => match keyOk T kt key, m with
  | true, .map (some r) => match W.blocks.get r with
   | some ⟨.map es ck, []⟩ => match aFind T kt key es 0 with
    | some none => match aZero T et with
     | some z => some (.tuple ⟨[z, .int .i64 ck]⟩, ⟨W.blocks.set r ⟨.map (es ++ [(key, z, ck)]) (ck + 1), []⟩, W.next⟩)
     | none => none
    | some (some (i, v)) => match es[i]? with
     | some (_, _, n) => some (.tuple ⟨[v, .int .i64 n]⟩, ⟨W.blocks.set r ⟨.map (updAt es i key v) ck, []⟩, W.next⟩)
     | none => none
    | none => none
   | _ => none
  | _, _ => none
 | _ => none
theorem modify_key {l : List MapEntry} {i : Nat} {e0 : MapEntry} (h : l[i]? = some e0) (k : Value) : (l.modify i fun e => { e with key := k }) = l.modify i fun e => { e with key := k, val := e0.val } := by
 induction l generalizing i with
 | nil => cases i <;> rfl
 | cons a l ih =>
  cases i with
  | zero => simp at h; subst h; rfl
  | succ i => simp only [List.modify_succ_cons]; rw [ih (by simpa using h)]
theorem aMapEntry_spec {T : Tabs} {P : Program} (hT : T.Ok P) {η : Env} {W W' : AW} {w : World} (hw : WRel η W w) {mt : TypeId} {m m' key key' v : Value}
  (h : aMapEntry T W mt m key = some (v, W')) (hm : VR η m m') (hk : VR η key key') : Res P η W w (Instr.mapEntry mt m' key') W' (fun η' v' => VR η' v v') := by
 unfold aMapEntry at h
 split at h
 case h_2 => cases h
 rename_i kt et hu
 split at h
 case h_2 => cases h
 rename_i r hko
 have hkk : key' = key := flat_eq (keyOk_flat hko) hk
 subst hkk
 cases hm with
 | map _ e he =>
  split at h
  case h_2 => cases h
  rename_i es ck hr
  obtain ⟨es', h1, h2, hz⟩ := hw.mapAt hr he
  split at h
  ·rename_i hf
   split at h
   case h_2 => cases h
   rename_i z hze
   cases h
   obtain ⟨r', g1, g2, g3⟩ := run_findKey_key hT hko w hf h2
   have := g2 rfl
   subst this
   obtain ⟨z1, z2⟩ := aZero_spec hT hze w η
   have hrun : (Instr.mapEntry mt (.map (some e.1)) key').run P w = (do setObj e.1 (.map (es'.push { key := key', val := z, born := ck }) (ck + 1)); pure (.tuple #[z, goInt ck]) : Sem Value).run P w := by
    unfold Instr.mapEntry
    simp only [Sem.run_bind, run_under (hT.und _ _ hu), Result.andThen_ok, run_getObj_map h1, run_checkKey_ok hT hko, g1, z1]
   refine Res.of_run hrun ((setObj_turn hw hr he ?_ (fun _ _ _ x => by cases x)).bind fun η1 w1 _ fr hw1 _ => Res.pure hw1 ?_)
   ·exact ⟨by simpa using EsRel.snoc (e := { key := key', val := z, born := ck }) hk z2 rfl h2, rfl, hz⟩
   ·have := (LR.cons (z2.mono fr.le) (LR.cons (VR.int .i64 ck) (LR.nil η1))).toArray
    exact VR.tuple _ _ this.1 this.2
  ·rename_i i v0 hf
   split at h
   case h_2 => cases h
   rename_i k0 v1 n hei
   cases h
   obtain ⟨r', g1, g2, g3⟩ := run_findKey_key hT hko w hf h2
   obtain ⟨v', rfl, hv', e0, h3, h4⟩ := g3 _ _ rfl
   obtain ⟨e1, k1, k2, k3⟩ := EsRel.get h2 hei
   have hee : e1 = e0 := by rw [h3] at k1; exact (Option.some.inj k1).symm
   subst hee
   have h3' : es'[i]? = some e1 := by simpa using h3
   have k3 : n = e1.born := k3
   subst k3
   have hrun : (Instr.mapEntry mt (.map (some e.1)) key').run P w = (do setObj e.1 (.map (es'.modify i fun e => { e with key := key' }) ck); pure (.tuple #[v', goInt e1.born]) : Sem Value).run P w := by
    unfold Instr.mapEntry
    simp only [Sem.run_bind, run_under (hT.und _ _ hu), Result.andThen_ok, run_getObj_map h1, run_checkKey_ok hT hko, g1, h3', Option.map_some, Option.getD_some, h4, run_keyStays hT hko]
   have hv1 : v1 = v0 := aFind_val (i := 0) (j := i) (by rw [Nat.zero_add]; exact hf) hei
   subst hv1
   refine Res.of_run hrun ((setObj_turn hw hr he ?_ (fun _ _ _ x => by cases x)).bind fun η1 w1 _ fr hw1 _ => Res.pure hw1 ?_)
   ·refine ⟨?_, rfl, hz⟩
    have := EsRel.upd (v := v1) (v' := e1.val) hk k2 i h2
    rw [<- modify_key (k := key') (by simpa using h3)] at this
    simpa using this
   ·have := (LR.cons (hv'.mono fr.le) (LR.cons (VR.int .i64 (e1.born : Int)) (LR.nil η1))).toArray
    exact VR.tuple _ _ this.1 this.2
  ·cases h
def aEntryStore (W : AW) (m stamp val : Value) : Option AW :=
 match m, stamp with
 | .map (some r), .int _ (.ofNat b) => match W.blocks.get r with
  | some ⟨.map es ck, []⟩ => match bornAt b es 0 with
   | some i => some ⟨W.blocks.set r ⟨.map (putAt es i val) ck, []⟩, W.next⟩
   | none => none
  | _ => none
 | _, _ => none
theorem aEntryStore_spec {P : Program} {η : Env} {W W' : AW} {w : World} (hw : WRel η W w) {mt : TypeId} {m m' s s' val val' : Value}
  (h : aEntryStore W m s val = some W') (hm : VR η m m') (hs : VR η s s') (hv : VR η val val') : Res P η W w (Instr.entryStore mt m' s' val') W' (fun _ _ => True) := by
 unfold aEntryStore at h
 split at h
 case h_2 => cases h
 rename_i r k b
 cases hs
 cases hm with
 | map _ e he =>
  split at h
  case h_2 => cases h
  rename_i es ck hr
  obtain ⟨es', h1, h2, hz⟩ := hw.mapAt hr he
  split at h
  case h_2 => cases h
  rename_i i hb
  cases h
  obtain ⟨j, hj, hfi⟩ := bornAt_spec hb h2
  rw [Nat.zero_add] at hj
  subst hj
  have hfi' : es'.findIdx? (fun e => (e.born : Int) == (Int.ofNat b)) = some i := by
   obtain ⟨l⟩ := es'
   simpa using hfi
  have hrun : (Instr.entryStore mt (.map (some e.1)) (.int k (.ofNat b)) val').run P w = (setObj e.1 (.map (es'.modify i fun e => { e with val := val' }) ck)).run P w := by
   unfold Instr.entryStore
   simp only [Sem.run_bind, Result.andThen_ok, run_getObj_map h1, asInt, asIntOf, Sem.run_pure, hfi']
  refine Res.of_run hrun (setObj_turn hw hr he ?_ (fun _ _ _ x => by cases x))
  exact ⟨by simpa using EsRel.put hv i h2, rfl, hz⟩
abbrev Ent := Value × Value × Nat
def mOld (es : List Ent) (since : Nat) (seen : List Nat) : List Ent := (es.filter fun x => !seen.contains x.2.2).filter fun x => decide (x.2.2 < since)
def mNew (es : List Ent) (since : Nat) (seen : List Nat) : List Ent := (es.filter fun x => !seen.contains x.2.2).filter fun x => decide (x.2.2 ≥ since)
def mCands (es : List Ent) (since : Nat) (seen : List Nat) : List (Option Ent) :=
 (if (mOld es since seen).isEmpty then [none] else []) ++ (mOld es since seen ++ mNew es since seen).map some
def mGone (es : List Ent) (seen : List Nat) (last : Nat) : Bool := !seen.isEmpty && !es.isEmpty && es.all fun x => decide (x.2.2 ≥ last)
def aCands (W : AW) (iter : Value) : Option (List (Option Ent)) :=
 match iter with
 | .pointer (some ⟨b, 0, none⟩) => match W.blocks.get b with
  | some ⟨.miter none _ _ _, []⟩ => some [none]
  | some ⟨.miter (some m) since seen last, []⟩ => match W.blocks.get m with
   | some ⟨.map es _, _⟩ => match mGone es seen last with
    | true => none
    | false => some (mCands es since seen)
   | _ => none
  | _ => none
 | _ => none
def aPick (W : AW) (iter : Value) (c : Option Ent) : Option (Value × AW) :=
 match c with
 | none => some (.tuple ⟨[.bool false]⟩, W)
 | some (k, v, n) => match iter with
  | .pointer (some ⟨b, 0, none⟩) => match W.blocks.get b with
   | some ⟨.miter (some m) since seen _, []⟩ => match W.blocks.get m with
    | some ⟨.map _ clock, _⟩ => some (.tuple ⟨[.bool true, k, v]⟩, ⟨W.blocks.set b ⟨.miter (some m) since (seen ++ [n]) clock, []⟩, W.next⟩)
    | _ => none
   | _ => none
  | _ => none
theorem EsRel.filter {η : Env} (p : Nat -> Bool) : ∀ {l : List Ent} {l' : List MapEntry}, EsRel η l l' -> EsRel η (l.filter fun x => p x.2.2) (l'.filter fun e => p e.born)
 | [], [], _ => trivial
 | (k, v, n) :: l, e :: l', h => by
  obtain ⟨h1, h2, rfl, h4⟩ := h
  simp only [List.filter_cons]
  split
  ·exact ⟨h1, h2, rfl, h4.filter p⟩
  ·exact h4.filter p
 | [], _ :: _, h => h.elim
 | _ :: _, [], h => h.elim
theorem EsRel.append {η : Env} : ∀ {a b : List Ent} {a' b' : List MapEntry}, EsRel η a a' -> EsRel η b b' -> EsRel η (a ++ b) (a' ++ b')
 | [], _, [], _, _, h => h
 | _ :: _, _, _ :: _, _, h, h2 => ⟨h.1, h.2.1, h.2.2.1, EsRel.append h.2.2.2 h2⟩
 | [], _, _ :: _, _, h, _ => h.elim
 | _ :: _, _, [], _, h, _ => h.elim
theorem EsRel.isEmpty {η : Env} : ∀ {a : List Ent} {a' : List MapEntry}, EsRel η a a' -> a'.isEmpty = a.isEmpty
 | [], [], _ => rfl
 | _ :: _, _ :: _, _ => rfl
 | [], _ :: _, h => h.elim
 | _ :: _, [], h => h.elim
theorem EsRel.all {η : Env} (p : Nat -> Bool) : ∀ {l : List Ent} {l' : List MapEntry}, EsRel η l l' -> (l'.all fun e => p e.born) = l.all fun x => p x.2.2
 | [], [], _ => rfl
 | (k, v, n) :: l, e :: l', h => by
  obtain ⟨_, _, rfl, h4⟩ := h
  simp only [List.all_cons, EsRel.all p h4]
 | [], _ :: _, h => h.elim
 | _ :: _, [], h => h.elim
def CRel (η : Env) : Option Ent -> Option MapEntry -> Prop
 | none, none => True
 | some (k, v, n), some e => VR η k e.key /\ VR η v e.val /\ n = e.born
 | _, _ => False
theorem EsRel.cands {η : Env} : ∀ {l : List Ent} {l' : List MapEntry}, EsRel η l l' -> l.length = l'.length /\ ∀ (i : Nat) (c : Option Ent) (c' : Option MapEntry), (l.map some)[i]? = some c -> (l'.map some)[i]? = some c' -> CRel η c c'
 | [], [], _ => ⟨rfl, fun i c c' h => by simp at h⟩
 | (k, v, n) :: l, e :: l', h => by
  obtain ⟨h1, h2, h3, h4⟩ := h
  obtain ⟨g1, g2⟩ := EsRel.cands h4
  refine ⟨by simp [g1], fun i c c' x y => ?_⟩
  cases i with
  | zero => simp at x y; subst x; subst y; exact ⟨h1, h2, h3⟩
  | succ i => exact g2 i c c' (by simpa using x) (by simpa using y)
 | [], _ :: _, h => h.elim
 | _ :: _, [], h => h.elim
theorem mCands_rel {η : Env} {es : List Ent} {es' : Array MapEntry} (h : EsRel η es es'.toList) (since : Nat) (seen : List Nat) (seen' : Array Nat) (hs : seen = seen'.toList) :
  let left := es'.filter fun e => !seen'.contains e.born
  let old := left.filter (·.born < since)
  let new := left.filter (·.born ≥ since)
  let cs := (if old.isEmpty then #[none] else #[]) ++ (old ++ new).map some
  (mCands es since seen).length = cs.size /\ 0 < cs.size /\ ∀ (i : Nat) (c : Option Ent) (c' : Option MapEntry), (mCands es since seen)[i]? = some c -> cs[i]? = some c' -> CRel η c c' := by
 intro left old new cs
 have hold : EsRel η (mOld es since seen) old.toList := by
  have := (h.filter (fun n => !seen.contains n)).filter (fun n => decide (n < since))
  subst hs
  simpa [old, left, mOld, Array.contains_toList] using this
 have hnew : EsRel η (mNew es since seen) new.toList := by
  have := (h.filter (fun n => !seen.contains n)).filter (fun n => decide (n ≥ since))
  subst hs
  simpa [new, left, mNew, Array.contains_toList] using this
 obtain ⟨g1, g2⟩ := (hold.append hnew).cands
 have he : old.isEmpty = (mOld es since seen).isEmpty := by
  rw [<- hold.isEmpty]; simp [List.isEmpty_iff, Array.isEmpty_iff]
 have hcs : cs.toList = (if (mOld es since seen).isEmpty then [none] else []) ++ (old.toList ++ new.toList).map some := by
  simp only [cs, he, Array.toList_append, Array.toList_map]
  cases (mOld es since seen).isEmpty <;> rfl
 refine ⟨?_, ?_, fun i c c' x y => ?_⟩
 ·rw [<- Array.length_toList, hcs]
  rw [List.length_append, List.length_append] at g1
  simp only [mCands, List.length_append, List.length_map]
  cases (mOld es since seen).isEmpty <;> simp only [Bool.false_eq_true, if_true, if_false, List.length_nil, List.length_singleton] <;> omega
 ·rw [<- Array.length_toList, hcs]
  cases hb : (mOld es since seen).isEmpty with
  | true => simp
  | false =>
   simp only [Bool.false_eq_true, if_false, List.nil_append, List.length_map]
   rw [<- g1]
   have : mOld es since seen ≠ [] := by intro x; rw [x] at hb; cases hb
   have := List.length_pos_iff.2 this
   simp only [List.length_append]; omega
 ·rw [<- Array.getElem?_toList, hcs] at y
  simp only [mCands] at x
  cases hb : (mOld es since seen).isEmpty with
  | false =>
   rw [hb] at x y
   exact g2 i c c' (by simpa using x) (by simpa using y)
  | true =>
   rw [hb] at x y
   cases i with
   | zero => simp at x y; subst x; subst y; trivial
   | succ i => exact g2 i c c' (by simpa using x) (by simpa using y)
theorem run_mapNext {P : Program} {w : World} {n : Nat} (h : 0 < n) : ∃ i d, i < n /\ (choose (.mapNext n)).run P w = .ok i { w with drawn := d } := by
 unfold choose
 by_cases hf : (Question.mapNext n).forced
 ·refine ⟨0, w.drawn, h, ?_⟩
  simp [Sem.run, hf]
 ·refine ⟨w.tape w.drawn (.mapNext n) % n, w.drawn + 1, Nat.mod_lt _ h, ?_⟩
  simp [Sem.run, hf, Question.cut]
theorem next_pick {P : Program} {η : Env} {W : AW} {w : World} (hw : WRel η W w) {x x' : Value} (t : TypeId) {l : List (Option Ent)}
  (h : aCands W x = some l) (hx : VR η x x') : ∃ c v W', c ∈ l /\ aPick W x c = some (v, W') /\ Res P η W w (Instr.next x' false t) W' (fun η' v' => VR η' v v') := by
 unfold aCands at h
 split at h
 ·rename_i bl
  cases hx with
  | ptr _ _ e he =>
  split at h
  ·rename_i s0 l0 k0 hb
   cases h
   obtain ⟨o, h2, h3⟩ := hw.obj bl _ e hb he
   cases o with
   | mapIter m' s' l' k' =>
    cases m' with
    | none =>
     obtain ⟨h0, hz⟩ := h3
     have hget : (getObj e.1).run P w = .ok (.mapIter none s' l' k') w := by simp [getObj, Sem.run, h2]
     refine ⟨none, _, W, List.mem_singleton.2 rfl, rfl, η, w, .tuple #[.bool false], ?_, .refl _ _ _, hw, ?_⟩
     ·simp only [Instr.next, h0, Nat.add_zero, Sem.run_bind, hget, Result.andThen_ok, Sem.run_pure]
     ·have := (LR.cons (VR.bool (η := η) false) (LR.nil η)).toArray
      exact VR.tuple _ _ this.1 this.2
    | some m' => exact h3.elim
   | _ => exact h3.elim
  ·rename_i m since seen last hb
   split at h
   ·rename_i es ck kin hm
    split at h
    ·cases h
    rename_i hgone
    cases h
    obtain ⟨o, h2, h3⟩ := hw.obj bl _ e hb he
    cases o with
    | mapIter m' s' l' k' =>
     cases m' with
     | none => exact h3.elim
     | some m' =>
      obtain ⟨⟨em, hem, rfl⟩, rfl, hl, rfl, h0, hz⟩ := h3
      obtain ⟨om, q2, q3⟩ := hw.obj m _ em hm hem
      cases om with
      | map es' ck' =>
       obtain ⟨q3, rfl, qz⟩ := q3
       have hget : (getObj e.1).run P w = .ok (.mapIter (some em.1) since l' last) w := by simp [getObj, Sem.run, h2]
       have hgetm : (getObj em.1).run P w = .ok (.map es' ck) w := by simp [getObj, Sem.run, q2]
       obtain ⟨c1, c2, c3⟩ := mCands_rel q3 since seen l' hl
       obtain ⟨i, d, hi, hrun⟩ := run_mapNext (P := P) (w := w) c2
       have hi1 : i < (mCands es since seen).length := by rw [c1]; exact hi
       have hg' : (!l'.isEmpty && !es'.isEmpty && es'.all (·.born ≥ last)) = false := by
        rw [<- hgone]
        unfold mGone
        have e1 : l'.isEmpty = seen.isEmpty := by rw [hl]; simp [List.isEmpty_iff, Array.isEmpty_iff]
        have e2 : es'.isEmpty = es.isEmpty := by rw [<- q3.isEmpty]; simp [List.isEmpty_iff, Array.isEmpty_iff]
        have e3 := q3.all (fun n => decide (n ≥ last))
        rw [e1, e2, <- e3]; simp
       have hcr := c3 i _ _ (List.getElem?_eq_getElem hi1) (Array.getElem?_eq_getElem hi)
       have hstart : (Instr.next (.pointer (some ⟨e.1, e.2.1 + 0, none⟩)) false t).run P w = (match ((if ((es'.filter fun e => !l'.contains e.born).filter (·.born < since)).isEmpty then #[none] else #[]) ++ (((es'.filter fun e => !l'.contains e.born).filter (·.born < since)) ++ ((es'.filter fun e => !l'.contains e.born).filter (·.born ≥ since))).map some)[i]? with
         | some (some x) => (do setObj e.1 (.mapIter (some em.1) since (l'.push x.born) ck); pure (.tuple #[.bool true, x.key, x.val]) : Sem Value).run P { w with drawn := d }
         | some none => (pure (.tuple #[.bool false]) : Sem Value).run P { w with drawn := d }
         | none => (stuck "Next: no such candidate" : Sem Value).run P { w with drawn := d }) := by
        simp only [Instr.next, h0, Nat.add_zero, Sem.run_bind, hget, hgetm, Result.andThen_ok]
        rw [hg']
        simp only [Bool.false_eq_true, if_false, Sem.run_bind, hrun, Result.andThen_ok]
        have hF : ∀ o : Option (Option MapEntry), (match o with
         | some (some x) => (do setObj e.1 (.mapIter (some em.1) since (l'.push x.born) ck); pure (.tuple #[.bool true, x.key, x.val]) : Sem Value)
         | some none => pure (.tuple #[.bool false])
         | none => stuck "Next: no such candidate").run P { w with drawn := d } = (match o with
         | some (some x) => (do setObj e.1 (.mapIter (some em.1) since (l'.push x.born) ck); pure (.tuple #[.bool true, x.key, x.val]) : Sem Value).run P { w with drawn := d }
         | some none => (pure (.tuple #[.bool false]) : Sem Value).run P { w with drawn := d }
         | none => (stuck "Next: no such candidate" : Sem Value).run P { w with drawn := d }) := by
         intro o; rcases o with _ | _ | _ <;> rfl
        simp only [Sem.run_bind] at hF
        exact hF _
       generalize hA : (if ((es'.filter fun e => !l'.contains e.born).filter (·.born < since)).isEmpty then #[none] else #[]) ++ (((es'.filter fun e => !l'.contains e.born).filter (·.born < since)) ++ ((es'.filter fun e => !l'.contains e.born).filter (·.born ≥ since))).map some = A at hstart
       have hA' : A[i]? = some (A[i]'(by rw [<- hA]; exact hi)) := Array.getElem?_eq_getElem _
       have hcr' : CRel η (mCands es since seen)[i] (A[i]'(by rw [<- hA]; exact hi)) := by
        simp only [hA] at hcr; exact hcr
       generalize A[i]'(by rw [<- hA]; exact hi) = c' at hA' hcr'
       rw [hA'] at hstart
       have hmem : (mCands es since seen)[i] ∈ mCands es since seen := List.getElem_mem hi1
       generalize (mCands es since seen)[i] = c at hcr' hmem
       cases c with
       | none =>
        cases c' with
        | some _ => exact hcr'.elim
        | none =>
         refine ⟨none, _, W, hmem, rfl, η, { w with drawn := d }, .tuple #[.bool false], ?_, (Fr.refl η W w).drawn d, hw.drawn d, ?_⟩
         ·rw [hstart]; rfl
         ·have := (LR.cons (VR.bool (η := η) false) (LR.nil η)).toArray
          exact VR.tuple _ _ this.1 this.2
       | some c =>
        obtain ⟨k, v, n⟩ := c
        cases c' with
        | none => exact hcr'.elim
        | some x =>
         obtain ⟨r1, r2, r3⟩ := hcr'
         have hs := heap_set (o' := Obj.mapIter (some em.1) since (l'.push x.born) ck) h2
         refine ⟨some (k, v, n), .tuple ⟨[.bool true, k, v]⟩, ⟨W.blocks.set bl ⟨.miter (some m) since (seen ++ [n]) ck, []⟩, W.next⟩, hmem, ?_, η, { w with heap := w.heap.setIfInBounds e.1 (.mapIter (some em.1) since (l'.push x.born) ck), drawn := d }, .tuple #[.bool true, x.key, x.val], ?_, ?_, ?_, ?_⟩
         ·simp only [aPick, hb, hm]
         ·rw [hstart]
          have hset : ∀ o', (setObj e.1 o').run P { w with drawn := d } = .ok () { w with heap := w.heap.setIfInBounds e.1 o', drawn := d } := fun o' => by simp [setObj, Sem.run, h2]
          simp only [Sem.run_bind, hset, Result.andThen_ok, Sem.run_pure]
         ·have hfr : Fr η W w η ⟨W.blocks.set bl ⟨.miter (some m) since (seen ++ [n]) ck, []⟩, W.next⟩ { w with heap := w.heap.setIfInBounds e.1 (.mapIter (some em.1) since (l'.push x.born) ck) } := Fr.turn rfl he hz (frozen?_other h2 hs.1 hs.2 (fun _ _ _ x => by cases x) (fun _ _ _ x => by cases x)) (by simp) hs.2 rfl rfl rfl (fun c el fz x => by rw [h2] at x; cases x)
          exact hfr.drawn d
         ·exact (hw.turn (w' := { w with heap := w.heap.setIfInBounds e.1 (.mapIter (some em.1) since (l'.push x.born) ck) }) (k := ⟨.miter (some m) since seen last, []⟩) (k' := ⟨.miter (some m) since (seen ++ [n]) ck, []⟩) hb he rfl _ hs.1 ⟨⟨em, hem, rfl⟩, rfl, by simp [hl, r3], rfl, h0, hz⟩ (by simp) hs.2).drawn d
         ·have := (LR.cons (VR.bool (η := η) true) (LR.cons r1 (LR.cons r2 (LR.nil η)))).toArray
          exact VR.tuple _ _ this.1 this.2
      | _ => exact q3.elim
    | _ => exact h3.elim
   ·cases h
  ·cases h
 ·cases h
def aEntry (W : AW) (iter : Value) : Option Value :=
 match iter with
 | .pointer (some ⟨b, 0, none⟩) => match W.blocks.get b with
  | some ⟨.miter (some m) _ seen stepped, _⟩ => match W.blocks.get m with
   | some ⟨.map es clock, _⟩ => match Nat.beq clock stepped, seen.getLast? with
    | true, some n => match es.find? fun x => x.2.2 == n with
     | some (k, v, _) => some (.tuple ⟨[k, v]⟩)
     | none => none
    | _, _ => none
   | _ => none
  | _ => none
 | _ => none
theorem EsRel.find {η : Env} (n : Nat) : ∀ {l : List Ent} {l' : List MapEntry} {x : Ent}, EsRel η l l' -> l.find? (fun x => x.2.2 == n) = some x -> ∃ e, l'.find? (fun e => e.born == n) = some e /\ VR η x.1 e.key /\ VR η x.2.1 e.val
 | (k, v, b) :: l, e :: l', x, h, hx => by
  obtain ⟨h1, h2, rfl, h4⟩ := h
  simp only [List.find?_cons] at hx ⊢
  split at hx
  ·rename_i hb; cases hx; exact ⟨e, rfl, h1, h2⟩
  ·rename_i hb; exact h4.find n hx
 | [], _ :: _, _, h, _ => h.elim
 | _ :: _, [], _, h, _ => h.elim
 | [], [], _, _, hx => by simp at hx
theorem aEntry_spec {P : Program} {η : Env} {W : AW} {w : World} (hw : WRel η W w) {x x' v : Value}
  (h : aEntry W x = some v) (hx : VR η x x') : ∃ v', (Instr.entry x').run P w = .ok v' w /\ VR η v v' := by
 unfold aEntry at h
 split at h
 case h_2 => cases h
 rename_i bl
 cases hx with
 | ptr _ _ e he =>
 split at h
 case h_2 => cases h
 rename_i m since seen stepped kin hb
 split at h
 case h_2 => cases h
 rename_i es ck kin2 hm
 split at h
 case h_2 => cases h
 rename_i n hck hlast
 split at h
 case h_2 => cases h
 rename_i k v b hf
 cases h
 obtain rfl := Nat.eq_of_beq_eq_true hck
 obtain ⟨o, h2, h3⟩ := hw.obj bl _ e hb he
 cases o with
 | mapIter m' s' l' k' =>
  cases m' with
  | none => exact h3.elim
  | some m' =>
   obtain ⟨⟨em, hem, rfl⟩, rfl, hl, rfl, h0, hz⟩ := h3
   obtain ⟨om, q2, q3⟩ := hw.obj m _ em hm hem
   cases om with
   | map es' ck' =>
    obtain ⟨q3, rfl, qz⟩ := q3
    have hget : (getObj e.1).run P w = .ok (.mapIter (some em.1) since l' ck) w := by simp [getObj, Sem.run, h2]
    have hgetm : (getObj em.1).run P w = .ok (.map es' ck) w := by simp [getObj, Sem.run, q2]
    obtain ⟨e1, f1, f2, f3⟩ := q3.find n hf
    have hb' : l'.back? = some n := by rw [hl] at hlast; rw [<- Array.getLast?_toList]; exact hlast
    have hf' : es'.find? (fun e => e.born == n) = some e1 := by rw [<- Array.find?_toList]; exact f1
    refine ⟨.tuple #[e1.key, e1.val], ?_, ?_⟩
    ·simp only [Instr.entry, h0, Nat.add_zero, Sem.run_bind, hget, Result.andThen_ok, hb', hgetm, hf', bne_self_eq_false, Bool.false_eq_true, if_false, Sem.run_pure]
    ·have := (LR.cons f2 (LR.cons f3 (LR.nil η))).toArray
     exact VR.tuple _ _ this.1 this.2
   | _ => exact q3.elim
 | _ => exact h3.elim
def aAssert (T : Tabs) (x : Value) (asserted : TypeId) (ok : Bool) : Option Value :=
 match T.und.get asserted with
 | some (.interface _) => none
 | some _ => match x with
  | .nilIface => match ok, aZero T asserted with
   | true, some z => some (.tuple ⟨[z, .bool false]⟩)
   | _, _ => none
  | .iface t v => match Nat.beq t asserted with
   | true => some (aOkd ok v true)
   | false => match ok, aZero T asserted with
    | true, some z => some (.tuple ⟨[z, .bool false]⟩)
    | _, _ => none
  | _ => none
 | none => none
theorem aAssert_spec {T : Tabs} {P : Program} (hT : T.Ok P) {η : Env} {w : World} {x x' v : Value} {xt asserted : TypeId} {ok : Bool}
  (h : aAssert T x asserted ok = some v) (hx : VR η x x') : ∃ v', (Instr.typeAssert x' xt asserted ok).run P w = .ok v' w /\ VR η v v' := by
 have zero : ∀ z, aZero T asserted = some z -> VR η (.tuple ⟨[z, .bool false]⟩) (.tuple #[z, .bool false]) := fun z hz => by
  have := (LR.cons (aZero_spec hT hz w η).2 (LR.cons (VR.bool (η := η) false) (LR.nil η))).toArray
  exact VR.tuple _ _ this.1 this.2
 unfold aAssert at h
 split at h
 ·cases h
 ·rename_i d hni hd
  have hu := run_under (w := w) (hT.und _ _ hd)
  split at h
  ·cases hx
   split at h
   ·rename_i z hz
    cases h
    refine ⟨_, ?_, zero z hz⟩
    have hz' := (aZero_spec hT hz w η).1
    simp only [Instr.typeAssert, Sem.run_bind, hu, Result.andThen_ok]
    cases d <;> first | (exact (hni _ rfl).elim) | simp [hz']
   ·cases h
  ·rename_i t u
   cases hx with
   | iface _ _ u' hu' =>
   split at h
   ·rename_i hb
    obtain rfl := Nat.eq_of_beq_eq_true hb
    cases h
    refine ⟨_, ?_, vr_okd hu' ok true⟩
    simp only [Instr.typeAssert, Sem.run_bind, hu, Result.andThen_ok]
    cases d <;> first | (exact (hni _ rfl).elim) | simp
   ·rename_i hb
    have hne : t ≠ asserted := Nat.ne_of_beq_eq_false hb
    split at h
    ·rename_i z hz
     cases h
     refine ⟨_, ?_, zero z hz⟩
     have hz' := (aZero_spec hT hz w η).1
     simp only [Instr.typeAssert, Sem.run_bind, hu, Result.andThen_ok]
     cases d <;> first | (exact (hni _ rfl).elim) | simp [hz', hne]
    ·cases h
  ·cases h
 ·cases h
def aRangeS (T : Tabs) (W : AW) (xt : TypeId) (x : Value) : Option (Value × AW) :=
 match T.und.get xt, x with
 | some .string, .string s => some (.pointer (some ⟨W.next, 0, none⟩), W.new (.iter s 0))
 | some (.map _ _), .map none => some (.pointer (some ⟨W.next, 0, none⟩), W.new (.miter none 0 [] 0))
 | some (.map _ _), .map (some m) => match W.blocks.get m with
  | some ⟨.map _ clock, _⟩ => some (.pointer (some ⟨W.next, 0, none⟩), W.new (.miter (some m) clock [] clock))
  | _ => none
 | _, _ => none
theorem aRangeS_spec {T : Tabs} {P : Program} (hT : T.Ok P) {η : Env} {W W' : AW} {w : World} (hw : WRel η W w) {xt : TypeId} {x x' v : Value}
  (h : aRangeS T W xt x = some (v, W')) (hx : VR η x x') : Res P η W w (Instr.range xt x') W' (fun η' v' => VR η' v v') := by
 unfold aRangeS at h
 split at h
 ·rename_i s hu
  cases h; cases hx
  have h0 := hw.new (o := .iter s 0) (o' := .stringIter s 0) (base := 0) (size := 1) ⟨rfl, rfl, rfl, by simp⟩ (fun c el fz x => by cases x)
  refine ⟨_, _, .pointer (some ⟨w.heap.size, 0, none⟩), ?_, h0.2, h0.1, ?_⟩
  ·simp [Instr.range, run_under (hT.und _ _ hu), run_newObj]
  ·exact VR.ptr W.next 0 (w.heap.size, 0, 1) (Env.add_self _ _ _)
 ·rename_i kt vt hu
  cases h; cases hx
  have h0 := hw.new (o := .miter none 0 [] 0) (o' := .mapIter none 0 #[] 0) (base := 0) (size := 1) ⟨rfl, by simp⟩ (fun c el fz x => by cases x)
  refine ⟨_, _, .pointer (some ⟨w.heap.size, 0, none⟩), ?_, h0.2, h0.1, ?_⟩
  ·simp [Instr.range, run_under (hT.und _ _ hu), run_newObj]
  ·exact VR.ptr W.next 0 (w.heap.size, 0, 1) (Env.add_self _ _ _)
 ·rename_i kt vt m hu
  split at h
  ·rename_i es ck kin hm
   cases h; cases hx with
   | map _ em hem =>
    obtain ⟨om, q2, q3⟩ := hw.obj m _ em hm hem
    cases om with
    | map es' ck' =>
     obtain ⟨q3, rfl, qz⟩ := q3
     have hgetm : (getObj em.1).run P w = .ok (.map es' ck) w := by simp [getObj, Sem.run, q2]
     have hne : m ≠ W.next := fun x => absurd (hw.next _ _ (x ▸ hem)) (Nat.lt_irrefl _)
     have h0 := hw.new (o := .miter (some m) ck [] ck) (o' := .mapIter (some em.1) ck #[] ck) (base := 0) (size := 1) ⟨⟨em, by simpa [Env.add, hne] using hem, rfl⟩, rfl, rfl, rfl, rfl, by simp⟩ (fun c el fz x => by cases x)
     refine ⟨_, _, .pointer (some ⟨w.heap.size, 0, none⟩), ?_, h0.2, h0.1, ?_⟩
     ·simp [Instr.range, run_under (hT.und _ _ hu), run_newObj, hgetm]
     ·exact VR.ptr W.next 0 (w.heap.size, 0, 1) (Env.add_self _ _ _)
    | _ => exact q3.elim
  ·cases h
 ·cases h
def aNext (W : AW) (iter : Value) (isString : Bool) : Option (Value × AW) :=
 match isString, iter with
 | true, .pointer (some ⟨b, 0, none⟩) => match W.blocks.get b with
  | some ⟨.iter s pos, []⟩ => match s.data.toList[pos]? with
   | some c => match Nat.blt c.toNat 128 with
    | true => some (.tuple ⟨[.bool true, .int .i64 pos, .int .i32 c.toNat]⟩, ⟨W.blocks.set b ⟨.iter s (pos + 1), []⟩, W.next⟩)
    | false => none
   | none => some (.tuple ⟨[.bool false]⟩, W)
  | _ => none
 | false, iter => match aCands W iter with
  | some [c] => aPick W iter c
  | _ => none
 | _, _ => none
theorem aNext_spec {P : Program} {η : Env} {W W' : AW} {w : World} (hw : WRel η W w) {x x' v : Value} {b : Bool} (t : TypeId)
  (h : aNext W x b = some (v, W')) (hx : VR η x x') : Res P η W w (Instr.next x' b t) W' (fun η' v' => VR η' v v') := by
 unfold aNext at h
 split at h
 ·rename_i bl
  split at h
  ·rename_i s pos hb
   cases hx with
   | ptr _ _ e he =>
    obtain ⟨o, h2, h3⟩ := hw.obj bl _ e hb he
    cases o with
    | stringIter s' pos' =>
     obtain ⟨rfl, rfl, h0, hz⟩ := h3
     have hget : (getObj e.1).run P w = .ok (.stringIter s pos) w := by simp [getObj, Sem.run, h2]
     have hset : ∀ o', (setObj e.1 o').run P w = .ok () { w with heap := w.heap.setIfInBounds e.1 o' } := fun o' => by simp [setObj, Sem.run, h2]
     split at h
     ·rename_i c hc
      split at h
      ·rename_i hlt
       cases h
       rw [Nat.blt_eq] at hlt
       have hpos : pos < s.size := by
        have := (List.getElem?_eq_some_iff.1 hc).1
        rw [Array.length_toList] at this; exact this
       have hdec : Utf8.decode s pos = (c.toNat, 1) := by
        have hb : s.get! pos = c := by
         have := (List.getElem?_eq_some_iff.1 hc).2
         simp only [ByteArray.get!]
         rw [getElem!_pos s.data pos hpos]
         simpa using this
        unfold Utf8.decode
        simp only [Nat.add_zero, hb]
        rw [if_pos (by omega)]
       have hs := heap_set (o' := Obj.stringIter s (pos + 1)) h2
       refine ⟨η, { w with heap := w.heap.setIfInBounds e.1 (.stringIter s (pos + 1)) }, .tuple #[.bool true, goInt pos, .int .i32 c.toNat], ?_, ?_, ?_, ?_⟩
       ·rw [h0]
        unfold Instr.next
        simp only [Nat.add_zero, Sem.run_bind, hget, Result.andThen_ok]
        rw [if_pos hpos, hdec]
        simp only [Sem.run_bind, hset, Result.andThen_ok, Sem.run_pure]
       ·exact Fr.turn rfl he hz (frozen?_other h2 hs.1 hs.2 (fun _ _ _ x => by cases x) (fun _ _ _ x => by cases x)) (by simp) hs.2 rfl rfl rfl (fun c el fz x => by rw [h2] at x; cases x)
       ·exact hw.turn (k := ⟨.iter s pos, []⟩) (k' := ⟨.iter s (pos + 1), []⟩) hb he rfl _ hs.1 ⟨rfl, rfl, h0, hz⟩ (by simp) hs.2
       ·have := (LR.cons (VR.bool (η := η) true) (LR.cons (VR.int .i64 (pos : Int)) (LR.cons (VR.int .i32 (c.toNat : Int)) (LR.nil η)))).toArray
        exact VR.tuple _ _ this.1 this.2
      ·cases h
     ·rename_i hc
      cases h
      have hpos : ¬ pos < s.size := by
       have := List.getElem?_eq_none_iff.1 hc
       rw [Array.length_toList] at this; exact Nat.not_lt.2 this
      refine ⟨η, w, .tuple #[.bool false], ?_, .refl _ _ _, hw, ?_⟩
      ·simp only [Instr.next, h0, Nat.add_zero, Sem.run_bind, hget, Result.andThen_ok, if_neg hpos, Sem.run_pure]
      ·have := (LR.cons (VR.bool (η := η) false) (LR.nil η)).toArray
       exact VR.tuple _ _ this.1 this.2
    | _ => exact h3.elim
  ·cases h
 ·split at h
  ·rename_i c hc
   obtain ⟨c', v', W₁, h1, h2, h3⟩ := next_pick hw (P := P) t hc hx
   obtain rfl := List.mem_singleton.1 h1
   rw [h2] at h; cases h
   exact h3
  ·cases h
 ·cases h
end Go.Eng
