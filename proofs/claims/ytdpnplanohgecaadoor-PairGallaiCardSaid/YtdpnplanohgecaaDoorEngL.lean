import Derived.Test.YtdpnplanohgecaaDoorEngKn
set_option linter.unusedSimpArgs false
set_option linter.unusedVariables false
set_option linter.unusedSectionVars false
namespace Go.Eng
inductive ANext where
 | value (v : Value)
 | skip
 | enter (f : FuncId) (args : List Value)
 | round (l : Nat) (fn : FuncId) (tmps : Tr Value) (n : Nat) (assign body : Code)
 | defer (d : Deferred)
 | recover
def NRel (η : Env) : ANext -> Next -> Prop
 | .value v, .value v' => VR η v v'
 | .skip, .skip => True
 | .enter f a, .enter f' a' => f = f' /\ LR η a a'.toList
 | .round l fn t n as bd, .round l' fn' t' as' bd' => (∃ e, η l = some e /\ e.1 = l') /\ fn = fn' /\ TR η t n t' /\ as = as' /\ bd = bd'
 | .defer d, .defer d' => DRel η d d'
 | .recover, .recover => True
 | _, _ => False
def aEval (T : Tabs) (t : Tr Value) : Operand -> Option Value
 | .tmp i => t.get i
 | .const v => match flat v with
  | true => some v
  | false => none
 | .global g => match T.globs.get g with
  | some _ => some (.pointer (some ⟨g, 0, none⟩))
  | none => none
 | .func f => some (.func (.func f) #[] #[])
def GRel (T : Tabs) (η : Env) : Prop := ∀ g u, T.globs.get g = some u -> ∃ sz, η g = some (g, 0, sz)
theorem GRel.mono {T : Tabs} {η η' : Env} (h : GRel T η) (hη : η.Le η') : GRel T η' := fun g u x => let ⟨sz, y⟩ := h g u x; ⟨sz, hη _ _ y⟩
theorem aEval_spec {T : Tabs} {η : Env} (hG : GRel T η) {t : Tr Value} {n : Nat} {a : Act} (ht : TR η t n a.tmps) {x : Operand} {v : Value} (h : aEval T t x = some v) : VR η v (a.eval x) := by
 cases x with
 | tmp i =>
  obtain ⟨v', h1, h2⟩ := ht.2 i v h
  have : a.eval (.tmp i) = v' := by simp [Act.eval, h1]
  rw [this]; exact h2
 | const u =>
  simp only [aEval] at h
  split at h
  ·rename_i hf; cases h; exact flat_vr η _ hf
  ·cases h
 | func f =>
  simp only [aEval, Option.some.injEq] at h
  subst h
  exact .func _ _ _ _ _ _ rfl rfl rfl (fun i v v' a => by simp at a) (fun i v v' a => by simp at a)
 | _ =>
  rename_i g
  simp only [aEval] at h
  split at h
  ·rename_i u hg
   cases h
   obtain ⟨sz, he⟩ := hG g u hg
   exact .ptr g 0 (g, 0, sz) he
  ·cases h
def aVals (ρ : Operand -> Option Value) : List Operand -> Option (List Value)
 | [] => some []
 | x :: l => match ρ x with
  | none => none
  | some v => match aVals ρ l with
   | none => none
   | some r => some (v :: r)
theorem aVals_spec {η : Env} {ρ : Operand -> Option Value} {ρ' : Operand -> Value} (hρ : ∀ x v, ρ x = some v -> VR η v (ρ' x)) : ∀ {l : List Operand} {r : List Value}, aVals ρ l = some r -> LR η r (l.map ρ')
 | [], r, h => by simp [aVals] at h; subst h; exact .nil η
 | x :: l, r, h => by
  simp only [aVals] at h
  split at h
  ·cases h
  ·rename_i v hv
   split at h
   ·cases h
   ·rename_i r' hr
    cases h
    exact .cons (hρ x v hv) (aVals_spec hρ hr)
def aParts (ρ : Operand -> Option Value) : List (Nat × Operand) -> Option (List (Nat × Value))
 | [] => some []
 | (i, x) :: l => match ρ x with
  | none => none
  | some v => match aParts ρ l with
   | none => none
   | some r => some ((i, v) :: r)
theorem aParts_spec {η : Env} {ρ : Operand -> Option Value} {ρ' : Operand -> Value} (hρ : ∀ x v, ρ x = some v -> VR η v (ρ' x)) : ∀ {l : List (Nat × Operand)} {r : List (Nat × Value)}, aParts ρ l = some r ->
  PsRel η r (l.map fun (i, x) => (i, ρ' x))
 | [], r, h => by simp [aParts] at h; subst h; trivial
 | (i, x) :: l, r, h => by
  simp only [aParts] at h
  split at h
  ·cases h
  ·rename_i v hv
   split at h
   ·cases h
   ·rename_i r' hr
    cases h
    exact ⟨rfl, hρ x v hv, aParts_spec hρ hr⟩
def aOpt (ρ : Operand -> Option Value) : Option Operand -> Option (Option Value)
 | none => some none
 | some x => match ρ x with
  | some v => some (some v)
  | none => none
theorem aOpt_spec {η : Env} {ρ : Operand -> Option Value} {ρ' : Operand -> Value} (hρ : ∀ x v, ρ x = some v -> VR η v (ρ' x)) {o : Option Operand} {r : Option Value} (h : aOpt ρ o = some r) : OV η r (o.map ρ') := by
 cases o with
 | none => simp [aOpt] at h; subst h; trivial
 | some x =>
  simp only [aOpt] at h
  split at h
  ·rename_i v hv; cases h; exact hρ x v hv
  ·cases h
def aSetAll : Tr Value -> Nat -> List Tmp -> List Value -> Option (Tr Value)
 | t, _, [], [] => some t
 | t, n, p :: ps, v :: vs => match Nat.blt p n with
  | true => aSetAll (t.set p v) n ps vs
  | false => none
 | _, _, _, _ => none
theorem aSetAll_spec {η : Env} {n : Nat} : ∀ {ps : List Tmp} {vs vs' : List Value} {t t' : Tr Value} {a : Array Value}, aSetAll t n ps vs = some t' -> TR η t n a -> LR η vs vs' ->
  ps.length = vs'.length /\ TR η t' n ((ps.zip vs').foldl (fun tmps (x : Tmp × Value) => tmps.setIfInBounds x.1 x.2) a)
 | [], [], vs', t, t', a, h, ht, hl => by rw [hl.of_nil]; simp [aSetAll] at h; subst h; exact ⟨rfl, ht⟩
 | p :: ps, v :: vs, vs', t, t', a, h, ht, hl => by
  obtain ⟨v', r, rfl, hv, hr⟩ := hl.uncons
  simp only [aSetAll] at h
  split at h
  ·rename_i hp
   have hp : p < n := by rw [Nat.blt_eq] at hp; exact hp
   obtain ⟨g1, g2⟩ := aSetAll_spec h (ht.set hp hv) hr
   exact ⟨by simp [g1], g2⟩
  ·cases h
 | [], _ :: _, _, _, _, _, h, _, _ => by simp [aSetAll] at h
 | _ :: _, [], _, _, _, _, h, _, _ => by simp [aSetAll] at h
def aEnter (T : Tabs) (W : AW) (f : Fn) (args cap : List Value) : Option ANext :=
 match f with
 | .func g => match T.funcs.get g with
  | some _ => some (.enter g (args ++ cap))
  | none => none
 | .yield l => match W.blocks.get l with
  | some ⟨.loop _ _ fn t n ps as bd _, _⟩ => match aSetAll t n ps.toList args with
   | some t' => some (.round l fn t' n as bd)
   | none => none
  | _ => none
 | _ => none
theorem WRel.loopAt {η : Env} {W : AW} {w : World} (h : WRel η W w) {l : Nat} {st : LoopState} {p : Option Code} {fn : FuncId} {t : Tr Value} {n : Nat} {ps : Array Tmp} {as bd : Code} {df : Nat} {kin : List (Nat × Bool)}
  (hg : W.blocks.get l = some ⟨.loop st p fn t n ps as bd df, kin⟩) {e : Nat × Nat × Nat} (he : η l = some e) :
  ∃ lp, w.heap[e.1]? = some (.loop lp) /\ lp.state = st /\ lp.pending = p /\ lp.fn = fn /\ TR η t n lp.tmps /\ lp.params = ps /\ lp.assign = as /\ lp.body = bd /\ (∃ e2, η df = some e2 /\ e2.1 = lp.defers) /\ e.2.2 ≠ 0 := by
 obtain ⟨o, h2, h3⟩ := h.obj l _ e hg he
 cases o with
 | loop lp => obtain ⟨h0, h3, h4, h5, h6, h7, h8, h9, h10⟩ := h3; exact ⟨lp, h2, h3, h4, h5, h6, h7, h8, h9, h10, h0⟩
 | _ => exact h3.elim
theorem run_getLoop {P : Program} {w : World} {r : Nat} {lp : Loop} (h : w.heap[r]? = some (.loop lp)) : (Instr.getLoop r).run P w = .ok lp w := by
 simp [Instr.getLoop, getObj, Sem.run, h]
theorem aEnter_spec {T : Tabs} {P : Program} (hT : T.Ok P) {η : Env} {W : AW} {w : World} (hw : WRel η W w) {f f' : Fn} {args args' cap cap' : List Value} {r : ANext} (h : aEnter T W f args cap = some r)
  (hf : FnRel η f f') (ha : LR η args args') (hc : LR η cap cap') :
  ∃ r', (invoke (.fn f' cap'.toArray) args'.toArray).run P w = .ok r' w /\ NRel η r r' := by
 unfold aEnter at h
 split at h
 ·rename_i g
  split at h
  ·rename_i fn hfn
   cases h
   have : f' = .func g := by
    cases f' <;> exact (show Fn.func g = _ from hf).symm
   subst this
   refine ⟨.enter g (args' ++ cap').toArray, ?_, rfl, ha.append hc⟩
   have e : args'.toArray ++ cap'.toArray = (args' ++ cap').toArray := by simp
   simp only [invoke, e]
   exact hT.call g fn hfn _ w
  ·cases h
 ·rename_i l
  split at h
  ·rename_i st p fn t n ps as bd df kin hb
   split at h
   ·rename_i t' hst
    cases h
    have hf2 : ∃ e, η l = some e /\ f' = .yield e.1 := by
     cases f' <;> first
      | (obtain ⟨e, x, y⟩ := hf; exact ⟨e, x, by rw [y]⟩)
      | exact hf.elim
    obtain ⟨e, h1, rfl⟩ := hf2
    obtain ⟨lp, h2, h3, h4, h5, h6, h7, h8, h9, _⟩ := hw.loopAt hb h1
    obtain ⟨k1, k2⟩ := aSetAll_spec hst h6 ha
    refine ⟨.round e.1 lp.fn ((ps.toList.zip args').foldl (fun tmps (x : Tmp × Value) => tmps.setIfInBounds x.1 x.2) lp.tmps) lp.assign lp.body, ?_, ⟨e, h1, rfl⟩, h5.symm, k2, h8.symm, h9.symm⟩
    have hsz : args'.toArray.size = lp.params.size := by rw [h7]; simp [<- k1]
    have hz : ((lp.params.zip args'.toArray).foldl (fun tmps (x : Tmp × Value) => tmps.setIfInBounds x.1 x.2) lp.tmps) = ((ps.toList.zip args').foldl (fun tmps (x : Tmp × Value) => tmps.setIfInBounds x.1 x.2) lp.tmps) := by
     rw [<- Array.foldl_toList, Array.toList_zip, h7]
    simp only [invoke, Instr.yield, Sem.run_bind, run_getLoop h2, Result.andThen_ok]
    rw [if_neg (by simp [hsz])]
    simp only [Sem.run_pure, hz]
   ·cases h
  ·cases h
 ·cases h
def aMeth (name : String) : List (String × FuncId) -> Option FuncId
 | [] => none
 | (s, f) :: l => match decide (s = name) with
  | true => some f
  | false => aMeth name l
theorem aMeth_spec {name : String} : ∀ {l : List (String × FuncId)} {f : FuncId}, aMeth name l = some f -> (name, f) ∈ l
 | (s, g) :: l, f, h => by
  simp only [aMeth] at h
  split at h
  ·rename_i hd; cases h; have := of_decide_eq_true hd; subst this; exact List.mem_cons_self ..
  ·exact List.mem_cons_of_mem _ (aMeth_spec h)
def aCallB (T : Tabs) (W : AW) (b : Builtin) (tys : List TypeId) (args : List Value) : Option (ANext × AW) :=
 match b with
 | .len => match tys, args with
  | t :: _, x :: _ => match aLen T W t x with
   | some v => some (.value v, W)
   | none => none
  | _, _ => none
 | .append => match aAppend T W tys args with
  | some (v, W') => some (.value v, W')
  | none => none
 | .copy => match aCopy T W tys args with
  | some (v, W') => some (.value v, W')
  | none => none
 | .min => match args with
  | x :: l => match aMinMax false x l with
   | some v => some (.value v, W)
   | none => none
  | [] => none
 | .max => match args with
  | x :: l => match aMinMax true x l with
   | some v => some (.value v, W)
   | none => none
  | [] => none
 | .recover => some (.recover, W)
 | .clear => match tys, args with
  | t :: _, x :: _ => match aClear T W t x with
   | some W' => some (.value (.tuple ⟨[]⟩), W')
   | none => none
  | _, _ => none
 | _ => none
def aCallI (T : Tabs) (W : AW) (name : String) (recv : Option Value) (args : List Value) : Option (ANext × AW) :=
 match recv with
 | some (.iface t v) => match T.meths.get t with
  | some l => match aMeth name l with
   | some g => match T.funcs.get g with
    | some _ => some (.enter g (v :: args), W)
    | none => none
   | none => none
  | none => none
 | _ => none
def aCallV (T : Tabs) (W : AW) (f : Option Value) (args : List Value) : Option (ANext × AW) :=
 match f with
 | some (.func fn first cap) => match aEnter T W fn (first.toList ++ args) cap.toList with
  | some r => some (r, W)
  | none => none
 | _ => none
def aCall (T : Tabs) (W : AW) (ρ : Operand -> Option Value) (c : Call) : Option (ANext × AW) :=
 match aVals ρ c.args.toList with
 | none => none
 | some args => match c.callee with
  | .value f => aCallV T W (ρ f) args
  | .invoke recv name => aCallI T W name (ρ recv) args
  | .builtin b => aCallB T W b c.argTypes.toList args
theorem aCall_spec {T : Tabs} {P : Program} (hT : T.Ok P) {η : Env} {W W' : AW} {w : World} (hw : WRel η W w) {ρ : Operand -> Option Value} {ρ' : Operand -> Value} (hρ : ∀ x v, ρ x = some v -> VR η v (ρ' x))
  {c : Call} (ty : TypeId) {r : ANext} (h : aCall T W ρ c = some (r, W')) : Res P η W w (do let d <- resolve ρ' c ty; invoke d.target d.args) W' (fun η' r' => NRel η' r r') := by
 unfold aCall at h
 split at h
 ·cases h
 rename_i args hargs
 have hl := aVals_spec hρ hargs
 have hmap : c.args.map ρ' = (c.args.toList.map ρ').toArray := Array.toList_inj.1 (by rw [Array.toList_map])
 split at h
 ·rename_i f hcal
  unfold aCallV at h
  split at h
  ·rename_i fn first cap hf
   split at h
   ·rename_i r' hr
    cases h
    have hv := hρ _ _ hf
    generalize hfv : ρ' f = fv at hv
    cases hv with
    | func _ f' _ a' _ c' hfn ha hc hav hcv =>
     obtain ⟨r', g1, g2⟩ := aEnter_spec hT hw hr hfn ((AR.toList ⟨ha, hav⟩ : LR η _ _).append hl) (AR.toList ⟨hc, hcv⟩)
     refine ⟨η, w, r', ?_, .refl _ _ _, hw, g2⟩
     have e : a' ++ c.args.map ρ' = (a'.toList ++ c.args.toList.map ρ').toArray := Array.toList_inj.1 (by simp)
     simp only [resolve, hcal, hfv, Deferred.ofValue, Sem.run_bind, Sem.run_pure, Result.andThen_ok, e]
     rw [Array.toArray_toList] at g1
     exact g1
   ·cases h
  ·cases h
 ·rename_i recv name hcal
  unfold aCallI at h
  split at h
  ·rename_i t v hrecv
   split at h
   ·rename_i l hm
    split at h
    ·rename_i g hg
     split at h
     ·rename_i fn hfn
      cases h
      have hv := hρ _ _ hrecv
      generalize hrv : ρ' recv = rv at hv
      cases hv with
      | iface _ _ v' hv' =>
       refine ⟨η, w, .enter g (v' :: c.args.toList.map ρ').toArray, ?_, .refl _ _ _, hw, rfl, .cons hv' hl⟩
       have hmt := hT.meth t l hm _ (aMeth_spec hg) v' w
       have e1 : (#[Value.iface t v'] ++ c.args.map ρ').extract 1 (#[Value.iface t v'] ++ c.args.map ρ').size = c.args.map ρ' := by
        apply Array.toList_inj.1; rw [extract_toList]; simp; rw [List.take_of_length_le (by simp)]
       have e2 : #[v'] ++ c.args.map ρ' = (v' :: c.args.toList.map ρ').toArray := Array.toList_inj.1 (by simp)
       have e3 : (#[Value.iface t v'] ++ c.args.map ρ')[0]? = some (.iface t v') := by rw [<- Array.getElem?_toList, Array.toList_append]; rfl
       have hinv : (invoke (.fn (.method name) #[]) (#[Value.iface t v'] ++ c.args.map ρ')).run P w = .ok (.enter g (v' :: c.args.toList.map ρ').toArray) w := by
        unfold invoke
        simp only [e3, e1]
        unfold callMethod
        simp only [Sem.run_bind, run_program, Result.andThen_ok, hmt, e2]
        exact hT.call g fn hfn _ w
       have hres : (resolve ρ' c ty).run P w = .ok { target := .fn (.method name) #[], args := #[Value.iface t v'] ++ c.args.map ρ' } w := by
        simp only [resolve, hcal, hrv]; rfl
       simp only [Sem.run_bind, hres, Result.andThen_ok]
       exact hinv
     ·cases h
    ·cases h
   ·cases h
  ·cases h
 ·rename_i b hcal
  have hres : (resolve ρ' c ty).run P w = .ok { target := .builtin b c.argTypes ty (c.args.map fun | .const _ => true | _ => false), args := c.args.map ρ' } w := by
   simp only [resolve, hcal]; rfl
  have lift : ∀ (s : Sem Value) (v : Value) (W1 : AW), (∀ η' v', VR η' v v' -> NRel η' (.value v) (.value v')) -> Res P η W w s W1 (fun η' v' => VR η' v v') ->
    Res P η W w (do pure (.value (<- s)) : Sem Next) W1 (fun η' r' => NRel η' (.value v) r') := fun s v W1 _ hr => hr.bind fun η₁ w₁ a _ h2 h3 => Res.pure h2 h3
  unfold aCallB at h
  split at h
  ·split at h
   ·rename_i t ts x xs ht
    split at h
    ·rename_i v hv
     cases h
     refine Res.step hres ?_
     obtain ⟨x', r', hl1, hx', hl2⟩ := hl.uncons
     have h1 : c.argTypes[0]? = some t := by
      rw [<- Array.getElem?_toList, ht]; rfl
     have h2 : (c.args.map ρ')[0]? = some x' := by rw [hmap, hl1]; rfl
     obtain ⟨g1, g2⟩ := aLen_spec hT hw h1 ty h2 hv hx'
     exact lift _ _ _ (fun _ _ h => h) (Res.of_eq hw g1 g2)
    ·cases h
   ·cases h
  ·split at h
   ·rename_i v W1 hv
    cases h
    refine Res.step hres ?_
    have := aAppend_spec hT hw ty hv hl
    simp only [Array.toArray_toList] at this
    rw [<- hmap] at this
    exact lift _ _ _ (fun _ _ h => h) this
   ·cases h
  ·split at h
   ·rename_i v W1 hv
    cases h
    refine Res.step hres ?_
    have := aCopy_spec hT hw ty hv hl
    simp only [Array.toArray_toList] at this
    rw [<- hmap] at this
    exact lift _ _ _ (fun _ _ h => h) this
   ·cases h
  ·split at h
   ·rename_i x l
    split at h
    ·rename_i v hv
     cases h
     refine Res.step hres ?_
     obtain ⟨x', r', hl1, hx', hl2⟩ := hl.uncons
     obtain ⟨v', g1, g2⟩ := aMinMax_spec P w false _ _ _ _ _ hv hx' hl2
     refine lift _ _ _ (fun _ _ h => h) (Res.of_eq hw ?_ g2)
     simp only [Builtin.min_, hmap, hl1]
     simpa using g1
    ·cases h
   ·cases h
  ·split at h
   ·rename_i x l
    split at h
    ·rename_i v hv
     cases h
     refine Res.step hres ?_
     obtain ⟨x', r', hl1, hx', hl2⟩ := hl.uncons
     obtain ⟨v', g1, g2⟩ := aMinMax_spec P w true _ _ _ _ _ hv hx' hl2
     refine lift _ _ _ (fun _ _ h => h) (Res.of_eq hw ?_ g2)
     simp only [Builtin.max_, hmap, hl1]
     simpa using g1
    ·cases h
   ·cases h
  ·cases h
   refine Res.step hres ?_
   exact ⟨η, w, .recover, rfl, .refl _ _ _, hw, trivial⟩
  ·split at h
   ·rename_i t ts x xs ht
    split at h
    ·rename_i W1 hv
     cases h
     refine Res.step hres ?_
     obtain ⟨x', r', hl1, hx', hl2⟩ := hl.uncons
     have h1 : c.argTypes[0]? = some t := by
      rw [<- Array.getElem?_toList, ht]; rfl
     have h2 : (c.args.map ρ')[0]? = some x' := by rw [hmap, hl1]; rfl
     exact lift _ _ _ (fun _ _ h => h) (aClear_spec hT hw ty h1 h2 hv hx')
    ·cases h
   ·cases h
  ·cases h
end Go.Eng
