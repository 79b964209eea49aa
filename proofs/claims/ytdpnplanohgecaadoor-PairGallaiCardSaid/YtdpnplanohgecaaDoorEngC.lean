import Derived.Test.YtdpnplanohgecaaDoorEngB
import GoSem.Dispatch
import Derived.Calls
set_option linter.unusedSimpArgs false
set_option linter.unusedVariables false
set_option linter.unusedSectionVars false
namespace Go.Eng
structure Table where
 name : Nat
 cells : List Value
structure Tabs where
 info : Tr TypeInfo
 und : Tr TypeDesc
 funcs : Tr Func
 meths : Tr (List (String × FuncId))
 globs : Tr Unit
 short : Tr (List Value -> Option Value)
 tabs : List Table := []
 plain : Tr Unit := .nil
def flat1 : Value -> Bool
 | .bool _ | .int _ _ | .string _ | .pointer none | .map none | .nilFunc | .nilIface => true
 | .slice none n c => match n, c with
  | 0, 0 => true
  | _, _ => false
 | .func (.func _) a c => match a.toList, c.toList with
  | [], [] => true
  | _, _ => false
 | _ => false
def allB {α : Type} (p : α -> Bool) : List α -> Bool
 | [] => true
 | a :: l => match p a with
  | true => allB p l
  | false => false
theorem allB_mem {α : Type} {p : α -> Bool} : ∀ {l : List α}, allB p l = true -> ∀ a ∈ l, p a = true
 | [], _, _, h => by cases h
 | b :: l, h, a, ha => by
  simp only [allB] at h
  split at h
  ·rename_i hb
   rcases List.mem_cons.1 ha with rfl | h'
   ·exact hb
   ·exact allB_mem h a h'
  ·cases h
def flat : Value -> Bool
 | .agg c => allB flat1 c.toList
 | .tuple c => allB flat1 c.toList
 | v => flat1 v
theorem flat1_vr (η : Env) (v : Value) (h : flat1 v = true) : VR η v v := by
 unfold flat1 at h
 split at h <;> first | (constructor; done) | cases h | skip
 ·split at h
  ·exact .sliceNil
  ·cases h
 ·split at h
  ·rename_i f a c _ _ h1 h2
   have e1 : a = #[] := by simpa using h1
   have e2 : c = #[] := by simpa using h2
   subst e1; subst e2
   exact .func _ _ _ _ _ _ rfl rfl rfl (fun i v v' a => by simp at a) (fun i v v' a => by simp at a)
  ·cases h
theorem flat_vr (η : Env) (v : Value) (h : flat v = true) : VR η v v := by
 unfold flat at h
 split at h
 ·rename_i c
  refine .agg c c rfl (fun i v v' a b => ?_)
  rw [a] at b; cases b
  exact flat1_vr η v (allB_mem h v (by have := Array.mem_of_getElem? a; simpa using this))
 ·rename_i c
  refine .tuple c c rfl (fun i v v' a b => ?_)
  rw [a] at b; cases b
  exact flat1_vr η v (allB_mem h v (by have := Array.mem_of_getElem? a; simpa using this))
 ·exact flat1_vr η v h
theorem flat1_eq {η : Env} {v v' : Value} (h : flat1 v = true) (hv : VR η v v') : v' = v := by
 unfold flat1 at h
 split at h
 ·cases hv; rfl
 ·cases hv; rfl
 ·cases hv; rfl
 ·cases hv; rfl
 ·cases hv; rfl
 ·cases hv; rfl
 ·cases hv; rfl
 ·split at h
  ·cases hv; rfl
  ·cases h
 ·split at h
  ·rename_i f a c _ _ h1 h2
   have e1 : a = #[] := by simpa using h1
   have e2 : c = #[] := by simpa using h2
   subst e1; subst e2
   cases hv with
   | func _ f' _ a' _ c' hf ha hc =>
    have hf' : f' = .func f := by cases f' <;> exact (show Fn.func f = _ from hf).symm
    subst hf'
    have h3 : a' = #[] := Array.eq_empty_of_size_eq_zero (by simpa using ha.symm)
    have h4 : c' = #[] := Array.eq_empty_of_size_eq_zero (by simpa using hc.symm)
    rw [h3, h4]
  ·cases h
 ·cases h
theorem flat1s_eq {η : Env} {c c' : Array Value} (h : allB flat1 c.toList = true) (hs : c.size = c'.size) (hv : ∀ (i : Nat) (v v' : Value), c[i]? = some v -> c'[i]? = some v' -> VR η v v') : c' = c := by
 apply Array.ext hs.symm
 intro i h1 h2
 have hm : c[i] ∈ c.toList := by simp
 exact flat1_eq (allB_mem h _ hm) (hv i _ _ (Array.getElem?_eq_getElem h2) (Array.getElem?_eq_getElem h1))
theorem flat_eq {η : Env} {v v' : Value} (h : flat v = true) (hv : VR η v v') : v' = v := by
 unfold flat at h
 split at h
 ·cases hv with
  | agg c c' hs hc => rw [flat1s_eq h hs hc]
 ·cases hv with
  | tuple c c' hs hc => rw [flat1s_eq h hs hc]
 ·exact flat1_eq h hv
theorem flats_eq {η : Env} {l l' : List Value} (h : allB flat l = true) (hv : LR η l l') : l' = l := by
 apply List.ext_getElem hv.1.symm
 intro i h1 h2
 exact flat_eq (allB_mem h _ (List.getElem_mem h2)) (hv.2 i _ _ (List.getElem?_eq_getElem h2) (List.getElem?_eq_getElem h1))
def TabsRead (ts : List Table) (w : World) : Prop := ∀ t ∈ ts, ∃ (c : Array Value) (el : TypeId) (fz : Nat × Nat), w.heap[t.name]? = some (.cells c el fz) /\ t.cells.length <= c.size /\ ∀ i (h : i < t.cells.length), c[i]? = some t.cells[i]
structure Tabs.Ok (T : Tabs) (P : Program) : Prop where
 info : ∀ t i, T.info.get t = some i -> P.info? t = some i
 und : ∀ t d, T.und.get t = some d -> P.underlying t = some d
 func : ∀ f fn, T.funcs.get f = some fn -> P.funcs[f]? = some fn
 call : ∀ f fn, T.funcs.get f = some fn -> ∀ args w, (callFunc f args).run P w = .ok (.enter f args) w
 meth : ∀ t l, T.meths.get t = some l -> ∀ x ∈ l, ∀ v w, (method (P.types.size + Made.depth) t v x.1).run P w = .ok (x.2, v) w
 ahead : ∀ t l, T.meths.get t = some l -> ∀ x ∈ l, ∀ v w, (nilAhead (P.types.size + Made.depth) t v x.1).run P w = .ok (some false) w
 zero : ∀ t i z, T.info.get t = some i -> i.zero = some z -> flat z = true
 mixed : P.follows .mixedOrders = true
 plain : ∀ t u, T.plain.get t = some u -> P.stoodInHeld t = false
 short : ∀ f s, T.short.get f = some s -> ∀ args v, s args = some v -> allB flat args = true /\ flat v = true /\ ∀ w, TabsRead T.tabs w -> Calls P f args.toArray w fun e w' => e = .returned v /\ Onto w w'
section runs
variable {P : Program} {w : World}
theorem run_typeInfo {t : TypeId} {i : TypeInfo} (h : P.info? t = some i) : (typeInfo t).run P w = .ok i w := by simp [typeInfo, h]
theorem run_under {t : TypeId} {d : TypeDesc} (h : P.underlying t = some d) : (underlying t).run P w = .ok d w := by simp [underlying, h]
theorem run_sizeOf {t : TypeId} {i : TypeInfo} (h : P.info? t = some i) : (sizeOf t).run P w = .ok i.size w := by simp [sizeOf, run_typeInfo h]
theorem run_zeroValue {t : TypeId} {i : TypeInfo} {z : Value} (h : P.info? t = some i) (hz : i.zero = some z) : (zeroValue t).run P w = .ok z w := by
 simp [zeroValue, run_typeInfo h, hz]
def isAggD : TypeDesc -> Bool
 | .struct _ | .array _ _ => true
 | _ => false
theorem run_isAgg {t : TypeId} {d : TypeDesc} (h : P.underlying t = some d) : (isAgg t).run P w = .ok (isAggD d) w := by
 simp only [isAgg, Sem.run_bind, run_under h, Result.andThen_ok]
 cases d <;> rfl
end runs
def Res {α : Type} (P : Program) (η : Env) (W : AW) (w : World) (s : Sem α) (W' : AW) (R : Env -> α -> Prop) : Prop :=
 ∃ η' w' a, s.run P w = .ok a w' /\ Fr η W w η' W' w' /\ WRel η' W' w' /\ R η' a
section res
variable {α β : Type} {P : Program} {η : Env} {w : World} {W W' W₂ : AW} {R : Env -> α -> Prop} {R₂ : Env -> β -> Prop}
theorem Res.bind {s : Sem α} {f : α -> Sem β} (h : Res P η W w s W' R)
  (hf : ∀ η₁ w₁ a, Fr η W w η₁ W' w₁ -> WRel η₁ W' w₁ -> R η₁ a -> Res P η₁ W' w₁ (f a) W₂ R₂) : Res P η W w (s >>= f) W₂ R₂ := by
 obtain ⟨η₁, w₁, a, h1, h2, h3, h4⟩ := h
 obtain ⟨η₂, w₂, b, g1, g2, g3, g4⟩ := hf η₁ w₁ a h2 h3 h4
 exact ⟨η₂, w₂, b, by simp [h1, g1], h2.trans g2, g3, g4⟩
theorem Res.pure {a : α} (hw : WRel η W w) (h : R η a) : Res P η W w (Pure.pure a : Sem α) W R := ⟨η, w, a, rfl, .refl _ _ _, hw, h⟩
theorem Res.of_run {s s' : Sem α} (h : s.run P w = s'.run P w) (h' : Res P η W w s' W' R) : Res P η W w s W' R := by
 obtain ⟨η₁, w₁, a, h1, h2⟩ := h'; exact ⟨η₁, w₁, a, h.trans h1, h2⟩
theorem Res.step {s : Sem α} {f : α -> Sem β} {a : α} (h : s.run P w = .ok a w) (hf : Res P η W w (f a) W₂ R₂) : Res P η W w (s >>= f) W₂ R₂ := by
 obtain ⟨η₂, w₂, b, g1, g2⟩ := hf; exact ⟨η₂, w₂, b, by simp [h, g1], g2⟩
theorem Res.of_eq {s : Sem α} {a : α} (hw : WRel η W w) (h : s.run P w = .ok a w) (hr : R η a) : Res P η W w s W R := ⟨η, w, a, h, .refl _ _ _, hw, hr⟩
end res
theorem add_eq (b o n : Nat) : Addr.add ⟨b, o, none⟩ n = ⟨b, o + n, none⟩ := by
 unfold Addr.add; split
 ·rename_i h; subst h; rfl
 ·rfl
def aAddr : Value -> Option (Nat × Nat)
 | .pointer (some ⟨b, o, none⟩) => some (b, o)
 | _ => none
theorem aAddr_spec {η : Env} {v v' : Value} {b o : Nat} (h : aAddr v = some (b, o)) (hv : VR η v v') : ∃ e, η b = some e /\ v' = .pointer (some ⟨e.1, e.2.1 + o, none⟩) := by
 unfold aAddr at h
 split at h
 ·cases h; cases hv with | ptr _ _ e he => exact ⟨e, he, rfl⟩
 ·cases h
def AW.cellsAt (W : AW) (b o n : Nat) : Option (List Value) :=
 match W.blocks.get b with
 | some ⟨.cells c m _, _⟩ => match Nat.ble (o + n) m with
  | true => c.take o n
  | false => none
 | some ⟨.ro c m _, _⟩ => match Nat.ble (o + n) m with
  | true => c.take o n
  | false => none
 | _ => none
theorem take_cells {P : Program} {η : Env} {w : World} {c : Tr Value} {m o n : Nat} {l : List Value} {r base : Nat} {c' : Array Value} {el : TypeId} {fz : Nat × Nat} (hle : o + n <= m) (hg : c.take o n = some l)
  (h2 : w.heap[r]? = some (.cells c' el fz)) (h4 : base + m <= c'.size) (h6 : ∀ i v, i < m -> c.get i = some v -> ∃ v', c'[base + i]? = some v' /\ VR η v v') :
  ∃ l', (loadCells ⟨r, base + o, none⟩ n).run P w = .ok l'.toArray w /\ LR η l l' := by
 obtain ⟨t1, t2⟩ := Tr.take_spec c n o l hg
 let l' := (c'.toList.drop (base + o)).take n
 have hlen : l'.length = n := by simp only [l', List.length_take, List.length_drop, Array.length_toList]; omega
 have hget : ∀ j, j < n -> l'[j]? = c'[base + o + j]? := fun j hj => by
  simp only [l']; rw [List.getElem?_take_of_lt hj, List.getElem?_drop]; simp
 refine ⟨l', ?_, by omega, fun i v v' a b => ?_⟩
 ·have := run_loadCells_list (P := P) w ⟨r, base + o, none⟩ l' (fun j v hj => by
   have hj' : j < n := by
    rcases Nat.lt_or_ge j n with h | h
    ·exact h
    ·rw [List.getElem?_eq_none (by omega)] at hj; cases hj
   rw [add_eq, cell?_of h2, <- hget j hj', hj])
  rwa [hlen] at this
 ·have hi : i < n := by
   rcases Nat.lt_or_ge i n with h | h
   ·exact h
   ·rw [List.getElem?_eq_none (by omega)] at a; cases a
  rw [hget i hi] at b
  obtain ⟨u, x, y⟩ := h6 (o + i) v (by omega) ((t2 i hi).trans a)
  rw [show base + (o + i) = base + o + i from by omega] at x
  rw [x] at b; cases b; exact y
theorem WRel.loadCells {P : Program} {η : Env} {W : AW} {w : World} (h : WRel η W w) {b o n : Nat} {l : List Value} {e : Nat × Nat × Nat} (hg : W.cellsAt b o n = some l) (he : η b = some e) :
  ∃ l', (loadCells ⟨e.1, e.2.1 + o, none⟩ n).run P w = .ok l'.toArray w /\ LR η l l' := by
 unfold AW.cellsAt at hg
 split at hg
 ·rename_i c m el kin hb
  split at hg
  ·rename_i hle
   obtain ⟨c', fz, h2, h3, h4, h5, h6⟩ := h.cells hb he
   exact take_cells (by simpa using hle) hg h2 h4 h6
  ·cases hg
 ·rename_i c m el kin hb
  split at hg
  ·rename_i hle
   obtain ⟨c', el', fz, h2, h4, h6⟩ := h.ros hb he
   exact take_cells (by simpa using hle) hg h2 h4 h6
  ·cases hg
 ·cases hg
def aLoadVar (T : Tabs) (W : AW) (t : TypeId) (b o : Nat) : Option Value :=
 match T.und.get t with
 | some d => match isAggD d with
  | true => match T.info.get t with
   | some i => match W.cellsAt b o i.size with
    | some l => some (.agg ⟨l⟩)
    | none => none
   | none => none
  | false => W.cell b o
 | none => none
theorem sound_loadVar {T : Tabs} {P : Program} (hT : T.Ok P) {η : Env} {W : AW} {w : World} (h : WRel η W w) {t : TypeId} {b o : Nat} {v : Value} {e : Nat × Nat × Nat}
  (hg : aLoadVar T W t b o = some v) (he : η b = some e) : ∃ v', (loadVar t ⟨e.1, e.2.1 + o, none⟩).run P w = .ok v' w /\ VR η v v' := by
 unfold aLoadVar at hg
 split at hg
 ·rename_i d hd
  have hd' := hT.und _ _ hd
  split at hg
  ·rename_i hagg
   split at hg
   ·rename_i i hi
    split at hg
    ·rename_i l hl
     cases hg
     obtain ⟨l', h1, h2⟩ := h.loadCells (P := P) hl he
     refine ⟨.agg l'.toArray, ?_, .agg _ _ h2.toArray.1 h2.toArray.2⟩
     simp [loadVar, run_isAgg hd', hagg, run_sizeOf (hT.info _ _ hi), h1]
    ·cases hg
   ·cases hg
  ·rename_i hagg
   obtain ⟨v', h1, h2⟩ := h.load hg he
   refine ⟨v', ?_, h2⟩
   simp [loadVar, run_isAgg hd', hagg, h1]
 ·cases hg
def acells : Value -> List Value
 | .agg c => c.toList
 | v => [v]
theorem acells_vr {η : Env} {v v' : Value} (h : VR η v v') : LR η (acells v) v'.cells.toList := by
 cases h with
 | agg c c' hs h => exact AR.toList ⟨hs, h⟩
 | _ => exact LR.cons (by constructor <;> assumption) (LR.nil η)
theorem oneCell_vr {η : Env} {v v' : Value} (h : VR η v v') : v'.oneCell' = v.oneCell' := by cases h <;> rfl
def AW.storeList : AW -> Nat -> Nat -> List Value -> Option AW
 | W, _, _, [] => some W
 | W, b, o, v :: l => match v.oneCell' with
  | true => match W.store b o v with
   | some W' => W'.storeList b (o + 1) l
   | none => none
  | false => none
theorem sound_storeList {P : Program} {η : Env} : ∀ (l l' : List Value) (W W' : AW) (w : World) (b o k : Nat) (e : Nat × Nat × Nat), WRel η W w -> W.storeList b (o + k) l = some W' -> η b = some e -> LR η l l' ->
  ∃ w', (storeCells ⟨e.1, e.2.1 + o, none⟩ l' k).run P w = .ok () w' /\ Fr η W w η W' w' /\ WRel η W' w'
 | [], l', W, W', w, b, o, k, e, hw, hs, he, hl => by
  rw [hl.of_nil]
  simp only [AW.storeList, Option.some.injEq] at hs; subst hs
  exact ⟨w, rfl, .refl _ _ _, hw⟩
 | v :: l, l', W, W', w, b, o, k, e, hw, hs, he, hl => by
  obtain ⟨v', t, rfl, hv, ht⟩ := hl.uncons
  simp only [AW.storeList] at hs
  split at hs
  ·rename_i hone
   split at hs
   ·rename_i W₁ hW₁
    obtain ⟨⟨u, h1⟩, h2, h3, h4⟩ := hw.store hW₁ he hv
    obtain ⟨w', g1, g2, g3⟩ := sound_storeList l t W₁ W' _ b o (k + 1) e h3 (by rw [<- Nat.add_assoc]; exact hs) he ht
    refine ⟨w', ?_, h4.trans g2, g3⟩
    rw [<- Nat.add_assoc] at h1 h2 g1
    simp only [storeCells, Sem.run_bind, add_eq, run_store _ _ _ _ _ (show v'.oneCell' = true from (oneCell_vr hv).trans hone), h1, h2]
    simpa using g1
   ·cases hs
  ·cases hs
def aStoreVar (T : Tabs) (W : AW) (t : TypeId) (b o : Nat) (v : Value) : Option AW :=
 match T.info.get t with
 | some i => match Nat.beq (acells v).length i.size with
  | true => W.storeList b o (acells v)
  | false => none
 | none => none
theorem sound_storeVar {T : Tabs} {P : Program} (hT : T.Ok P) {η : Env} {W W' : AW} {w : World} (h : WRel η W w) {t : TypeId} {b o : Nat} {v v' : Value} {e : Nat × Nat × Nat}
  (hg : aStoreVar T W t b o v = some W') (he : η b = some e) (hv : VR η v v') : ∃ w', (storeVar t ⟨e.1, e.2.1 + o, none⟩ v').run P w = .ok () w' /\ Fr η W w η W' w' /\ WRel η W' w' := by
 unfold aStoreVar at hg
 split at hg
 ·rename_i i hi
  split at hg
  ·rename_i hsz
   have hsz := Nat.eq_of_beq_eq_true hsz
   have hl := acells_vr hv
   obtain ⟨w', g1, g2, g3⟩ := sound_storeList (P := P) (acells v) v'.cells.toList W W' w b o 0 e h hg he hl
   refine ⟨w', ?_, g2, g3⟩
   have : v'.cells.size = i.size := by rw [<- hsz, hl.1]; simp
   simp [storeVar, run_sizeOf (hT.info _ _ hi), this, g1]
  ·cases hg
 ·cases hg
def AW.newCells (W : AW) (elem : TypeId) (l : List Value) : AW := W.new (.cells (Tr.nil.lay 0 l) l.length elem)
theorem sound_newCells {η : Env} {W : AW} {w : World} (h : WRel η W w) {elem : TypeId} {l l' x : List Value} (hl : LR η l l') :
  let η' := η.add W.next (w.heap.size, 0, (l' ++ x).length)
  WRel η' (W.newCells elem l) { w with heap := w.heap.push (.cells (l' ++ x).toArray elem) } /\ Fr η W w η' (W.newCells elem l) { w with heap := w.heap.push (.cells (l' ++ x).toArray elem) } := by
 intro η'
 have hfresh : η W.next = none := by
  cases hn : η W.next with
  | none => rfl
  | some e => exact absurd (h.next _ e hn) (Nat.lt_irrefl _)
 refine h.new ⟨rfl, by simp, by simp [hl.1], ?_, fun i v hi hv => ?_⟩ (fun c el fz x => by cases x; rfl)
 ·intro i _ _ hh; simp at hh
 ·rw [Tr.get_lay] at hv
  simp only [Nat.zero_le, Nat.zero_add, true_and, Nat.sub_zero] at hv
  rw [if_pos hi] at hv
  have : i < l'.length := by rw [<- hl.1]; exact hi
  refine ⟨l'[i], by simp only [Nat.zero_add, List.getElem?_toArray]; rw [List.getElem?_append_left this]; exact List.getElem?_eq_getElem this, (hl.2 i v _ hv (List.getElem?_eq_getElem this)).mono (Env.le_add _ hfresh)⟩
theorem sound_newVar {P : Program} {η : Env} {W : AW} {w : World} (h : WRel η W w) {t : TypeId} {v v' : Value} (hv : VR η v v') :
  Res P η W w (do pure (.pointer (some (<- newVar t v')))) (W.newCells t (acells v)) (fun η' p => VR η' (.pointer (some ⟨W.next, 0, none⟩)) p) := by
 have := sound_newCells h (elem := t) (x := []) (acells_vr hv)
 simp only [List.append_nil] at this
 refine ⟨_, _, .pointer (some ⟨w.heap.size, 0, none⟩), ?_, this.2, this.1, ?_⟩
 ·simp [newVar, newRow]
 ·exact VR.ptr W.next 0 (w.heap.size, 0, _) (Env.add_self _ _ _)
end Go.Eng
