import Derived.Test.YtdpnplanohgecaaDoorEngN
import Derived.AtR
import Derived.Defers
set_option linter.unusedSimpArgs false
set_option linter.unusedVariables false
set_option linter.unusedSectionVars false
namespace Go.Eng
def ARel (η : Env) (A : AAct) (a : Act) : Prop := TR η A.tmps A.n a.tmps /\ DsRel η A.defers a.defers
theorem ARel.mono {η η' : Env} (hη : η.Le η') {A : AAct} {a : Act} (h : ARel η A a) : ARel η' A a := ⟨h.1.mono hη, h.2.mono hη⟩
def RoRel (η : Env) : Option Nat -> Option Nat -> Prop
 | none, none => True
 | some l, some l' => ∃ e, η l = some e /\ e.1 = l'
 | _, _ => False
theorem RoRel.mono {η η' : Env} (hη : η.Le η') : ∀ {x y : Option Nat}, RoRel η x y -> RoRel η' x y
 | none, none, _ => trivial
 | some _, some _, ⟨e, h1, h2⟩ => ⟨e, hη _ _ h1, h2⟩
 | none, some _, h => h.elim
 | some _, none, h => h.elim
def Ctx (k : CallKind) (cs : List Frame) : Prop := k = .normal \/ (k = .deferred /\ ∃ c cs', cs = c :: cs' /\ c.mode = .returning)
def Arr (P : Program) (m : Machine) (b : Frame) (k : List Item) (cs : List Frame) : AExit -> Act -> World -> Prop
 | .normal, a, w => Steps P m (lone (b.atR a k) cs w)
 | .exit id, a, w => ∃ k₁, exitTo id k₁ = exitTo id k /\ Steps P m (lone (b.atR a (.code (.exit id) :: k₁)) cs w)
 | .ret, a, w => ∃ k₁, Steps P m (lone (b.atR a (.code .ret :: k₁)) cs w)
theorem Arr.of_steps {P : Program} {m m₁ : Machine} {b : Frame} {k : List Item} {cs : List Frame} {e : AExit} {a : Act} {w : World} (h : Steps P m m₁) (h' : Arr P m₁ b k cs e a w) : Arr P m b k cs e a w := by
 cases e with
 | normal => exact h.trans h'
 | exit id => obtain ⟨k₁, x, y⟩ := h'; exact ⟨k₁, x, h.trans y⟩
 | ret => obtain ⟨k₁, y⟩ := h'; exact ⟨k₁, h.trans y⟩
structure CodeOk (T : Tabs) (P : Program) (f : Cx -> Code -> AAct -> AW -> Option (AExit × AAct × AW)) (pre : Code -> List Item -> List Item) : Prop where
 run : ∀ cx c A W e A' W', f cx c A W = some (e, A', W') -> ∀ (η : Env) (w : World) (a : Act) (b : Frame) (k : List Item) (cs : List Frame), WRel η W w -> GRel T η -> ARel η A a -> b.fn = cx.fn -> RoRel η cx.ro b.roundOf -> Ctx b.kind cs ->
  ∃ η' a' w', Fr η W w η' W' w' /\ WRel η' W' w' /\ ARel η' A' a' /\ Arr P (lone (b.atR a (pre c k)) cs w) b k cs e a' w'
def Done (P : Program) (fr : Frame) (f : FuncId) (kind : CallKind) (w : World) (v : Value) : Prop :=
 fr.mode = .returning /\ fr.defers = [] /\ fr.kind = kind /\ fr.fn = f /\ ∃ fn, P.funcs[f]? = some fn /\ (results fn fr.tmps).run P w = .ok v w
structure IhOk (T : Tabs) (P : Program) (ih : Ih) : Prop where
 code : CodeOk T P ih.code (fun c k => .code c :: k)
 loop : CodeOk T P ih.loop (fun c k => .code c :: .inLoop c :: k)
 call : ∀ f args W v W', ih.call f args W = some (v, W') -> ∀ (η : Env) (w : World) (args' : Array Value) (kind : CallKind) (cs : List Frame), WRel η W w -> GRel T η -> LR η args args'.toList -> Ctx kind cs ->
  ∃ η' w' fr v', Fr η W w η' W' w' /\ WRel η' W' w' /\ VR η' v v' /\ Steps P (lone (Frame.enter P f args' kind) cs w) (lone fr cs w') /\ Done P fr f kind w' v'
 round : ∀ l fn t n as bd W v W', ih.round l fn t n as bd W = some (v, W') -> ∀ (η : Env) (w : World) (e : Nat × Nat × Nat) (tmps : Array Value) (c : Frame) (cs : List Frame), WRel η W w -> GRel T η -> η l = some e -> TR η t n tmps ->
  ∃ η' w' v', Fr η W w η' W' w' /\ WRel η' W' w' /\ VR η' v v' /\ Steps P (lone (Frame.round e.1 fn tmps as bd .normal) (c :: cs) w) (lone (c.finish v') cs w')
 defers : ∀ ds W W', ih.defers ds W = some W' -> ∀ (η : Env) (w : World) (ds' : List Deferred) (fr : Frame) (cs : List Frame), WRel η W w -> GRel T η -> DsRel η ds ds' -> fr.mode = .returning -> fr.defers = ds' ->
  ∃ η' w', Fr η W w η' W' w' /\ WRel η' W' w' /\ Steps P (lone fr cs w) (lone { fr with defers := [] } cs w')
theorem aEvalF_get (T : Tabs) (t : Tr Value) (x : Operand) : aEvalF T t.get x = aEval T t x := by cases x <;> rfl
theorem put_rel {η : Env} {A A' : AAct} {a : Act} {dst : Option Tmp} {v v' : Value} (h : A.put dst v = some A') (ha : ARel η A a) (hv : VR η v v') : ARel η A' (a.put dst v') := by
 unfold AAct.put at h
 split at h
 ·cases h; exact ha
 ·split at h
  ·rename_i d hd
   cases h
   rw [Nat.blt_eq] at hd
   exact ⟨ha.1.set hd hv, ha.2⟩
  ·cases h
theorem vr_undef (η : Env) : VR η undef undef := .tuple _ _ rfl (fun i v v' a => by simp [undef] at a)
theorem aWanted_spec {η : Env} {ops : Array Oper} {o : Oper} {f : Tmp -> Option Value} {tmps : Array Value} {r : Bool} (h : aWanted ops.toList o f = some r)
  (hf : ∀ d v, f d = some v -> VR η v (tmps.getD d undef)) : Region.wanted o (yielded ops tmps) = r := by
 unfold aWanted at h
 unfold Region.wanted
 split at h
 ·rename_i hg; cases h; simp [hg]
 ·rename_i j want hg
  simp only [hg]
  split at h
  ·rename_i hj
   cases h
   have hj' : ops[j]? = none := by simpa using hj
   simp [yielded, hj']
  ·rename_i oj hj
   have hj' : ops[j]? = some oj := by simpa using hj
   split at h
   ·rename_i hd; cases h; simp [yielded, hj', hd]
   ·rename_i d hd
    have key : ∀ v, f d = some v -> yielded ops tmps j = match v with | .bool b => some b | _ => none := by
     intro v hv
     have hr := hf d v hv
     simp only [yielded, hj', hd, Option.bind_some]
     by_cases hlt : d < tmps.size
     ·have e1 : tmps[d]? = some tmps[d] := Array.getElem?_eq_getElem hlt
      have e2 : tmps.getD d undef = tmps[d] := by simp [Array.getD, hlt]
      rw [e2] at hr
      rw [e1]
      generalize tmps[d] = u at hr
      cases hr <;> rfl
     ·have e1 : tmps[d]? = none := Array.getElem?_eq_none (Nat.le_of_not_lt hlt)
      have e2 : tmps.getD d undef = undef := by simp [Array.getD, hlt]
      rw [e2] at hr
      rw [e1]
      generalize hu : undef = u at hr
      cases hr <;> first | rfl | (cases hu)
    split at h
    ·cases h
    ·rename_i b hv; cases h
     rw [key _ hv]; simp
    ·rename_i v hnb hv
     cases h
     rw [key _ hv]
     cases v <;> first | rfl | exact absurd rfl (hnb _)
mutual
theorem valEq_sound : ∀ (u v : Value), valEq u v = true -> u = v
 | .bool a, v, h => by
  cases v <;> simp only [valEq, Bool.false_eq_true] at h
  rw [eq_of_beq h]
 | .int k a, v, h => by
  cases v <;> simp only [valEq, Bool.false_eq_true] at h
  split at h
  ·rename_i h1
   split at h
   ·rename_i h2; rw [of_decide_eq_true h1, of_decide_eq_true h2]
   ·cases h
  ·cases h
 | .float .., v, h => by cases v <;> simp only [valEq, Bool.false_eq_true] at h
 | .complex .., v, h => by cases v <;> simp only [valEq, Bool.false_eq_true] at h
 | .string a, v, h => by
  cases v <;> simp only [valEq, Bool.false_eq_true] at h
  rename_i b
  have := eq_of_beq h
  cases a; cases b
  simp only [Array.toList_inj] at this
  rw [this]
 | .pointer none, v, h => by
  match v, h with
  | .pointer none, _ => rfl
 | .pointer (some ⟨a, b, none⟩), v, h => by
  match v, h with
  | .pointer (some ⟨c, d, none⟩), h =>
   simp only [valEq, Bool.and_eq_true, Nat.beq_eq] at h
   rw [h.1, h.2]
 | .pointer (some ⟨a, b, some s⟩), v, h => by
  match v, h with
  | .pointer none, h => cases h
 | .slice none a b, v, h => by
  match v, h with
  | .slice none c d, h =>
   simp only [valEq, Bool.and_eq_true, Nat.beq_eq] at h
   rw [h.1, h.2]
 | .slice (some ⟨a, b, s⟩) c d, v, h => by
  match v, h with
  | .slice (some ⟨e, f, u⟩) g k, h =>
   simp only [valEq, Bool.and_eq_true, Nat.beq_eq] at h
   obtain ⟨⟨⟨⟨h1, h2⟩, h3⟩, h4⟩, h5⟩ := h
   rw [h1, h2, h3, h4, eq_of_beq h5]
 | .map none, v, h => by
  match v, h with
  | .map none, _ => rfl
 | .map (some a), v, h => by
  match v, h with
  | .map (some b), h =>
   simp only [valEq, Nat.beq_eq] at h
   rw [h]
 | .chan .., v, h => by cases v <;> simp only [valEq, Bool.false_eq_true] at h
 | .func f a c, v, h => by
  match v, h with
  | .func g b d, h =>
   simp only [valEq, Bool.and_eq_true] at h
   obtain ⟨⟨h1, h2⟩, h3⟩ := h
   rw [of_decide_eq_true h1, arrEq_sound _ _ h2, arrEq_sound _ _ h3]
 | .nilFunc, v, h => by cases v <;> simp only [valEq, Bool.false_eq_true] at h; rfl
 | .nilIface, v, h => by cases v <;> simp only [valEq, Bool.false_eq_true] at h; rfl
 | .iface t x, v, h => by
  match v, h with
  | .iface u w, h =>
   simp only [valEq, Bool.and_eq_true, Nat.beq_eq] at h
   rw [h.1, valEq_sound _ _ h.2]
 | .agg a, v, h => by
  match v, h with
  | .agg b, h =>
   simp only [valEq] at h
   rw [arrEq_sound _ _ h]
 | .tuple a, v, h => by
  match v, h with
  | .tuple b, h =>
   simp only [valEq] at h
   rw [arrEq_sound _ _ h]
theorem arrEq_sound : ∀ (a b : Array Value), arrEq a b = true -> a = b
 | ⟨a⟩, ⟨b⟩, h => by
  simp only [arrEq] at h
  rw [listEq_sound _ _ h]
theorem listEq_sound : ∀ (a b : List Value), listEq a b = true -> a = b
 | [], b, h => by
  match b, h with
  | [], _ => rfl
 | x :: l, b, h => by
  match b, h with
  | y :: m, h =>
   simp only [listEq, Bool.and_eq_true] at h
   rw [valEq_sound _ _ h.1, listEq_sound _ _ h.2]
end
theorem tabIn_spec {t : Table} {W : AW} (h : tabIn t W = true) {η : Env} {w : World} (hw : WRel η W w) {sz : Nat} (he : η t.name = some (t.name, 0, sz)) :
  ∃ (c : Array Value) (el : TypeId) (fz : Nat × Nat), w.heap[t.name]? = some (.cells c el fz) /\ t.cells.length <= c.size /\ ∀ i (h : i < t.cells.length), c[i]? = some t.cells[i] := by
 unfold tabIn at h
 split at h
 case h_2 => cases h
 rename_i c n el kin hb
 split at h
 case h_2 => cases h
 rename_i l h2 h3 h4
 have h2 : t.cells.length <= n := by simpa using h2
 have hl := listEq_sound _ _ h
 subst hl
 obtain ⟨o, g1, g2⟩ := hw.obj _ _ _ hb he
 obtain ⟨t1, t2⟩ := Tr.take_spec c t.cells.length 0 t.cells h3
 cases o with
 | cells c' el' fz =>
  obtain ⟨g3, g4, g5⟩ := g2
  simp only [Nat.zero_add] at g4 g5
  refine ⟨c', el', fz, g1, by omega, fun i hi => ?_⟩
  have hg : c.get i = some t.cells[i] := by
   have := t2 i hi
   rw [Nat.zero_add] at this
   rw [this]; exact List.getElem?_eq_getElem hi
  obtain ⟨u, q1, q2⟩ := g5 i _ (by omega) hg
  rw [q1, flat_eq (allB_mem h4 _ (List.getElem_mem hi)) q2]
 | _ => exact g2.elim
theorem tabsIn_spec {T : Tabs} {η : Env} (hG : GRel T η) {w : World} {W : AW} (hw : WRel η W w) : ∀ {ts : List Table}, tabsIn T ts W = true -> TabsRead ts w
 | [], _ => fun t ht => by cases ht
 | t :: ts, h => by
  simp only [tabsIn] at h
  split at h
  case h_2 => cases h
  rename_i u hu ht
  obtain ⟨sz, he⟩ := hG _ _ hu
  intro t' ht'
  cases ht' with
  | head => exact tabIn_spec ht hw he
  | tail _ ht' => exact tabsIn_spec hG hw h t' ht'
section oper
variable {T : Tabs} {P : Program} (hT : T.Ok P) {ih : Ih} (hih : IhOk T P ih)
theorem tryRecover_none {fr : Frame} {cs : List Frame} (h : Ctx fr.kind cs) : tryRecover fr cs = none := by
 rcases h with h | ⟨h, c, cs', rfl, hc⟩
 ·simp [tryRecover, h]
 ·simp [tryRecover, h, hc]
include hT hih in
theorem aOper_spec {ro : Option Nat} {o : Oper} {f : Tmp -> Option Value} {W W' : AW} {v : Value} {ds : List Deferred} (h : aOper ih T ro o f W = some (v, ds, W')) {η : Env} {w : World} {a : Act} {b : Frame} {k : List Item} {cs : List Frame}
  (hw : WRel η W w) (hG : GRel T η) (hρ : ∀ x u, aEvalF T f x = some u -> VR η u (a.eval x)) (hro : RoRel η ro b.roundOf) (hk : Ctx b.kind cs)
  {ops : Array Oper} {i : Nat} {rest : List Nat} (ho : ops[i]? = some o) (hwant : Region.wanted o (yielded ops a.tmps) = true) :
  ∃ η' v' ds' w', Fr η W w η' W' w' /\ WRel η' W' w' /\ VR η' v v' /\ DsRel η' ds ds' /\
   Steps P (lone (b.atR a (.inRegion ops (i :: rest) :: k)) cs w) (lone (b.atR (({ a with defers := ds' ++ a.defers } : Act).put o.dst v') (.inRegion ops rest :: k)) cs w') := by
 have hg := stepGR_op (P := P) (b := b) (k := k) (cs := cs) (w := w) (rest := rest) ho hwant
 have hfin : ∀ (a : Act) (v : Value), (b.atR a (.inRegion ops (i :: rest) :: k)).finish v = b.atR (a.put o.dst v) (.inRegion ops rest :: k) := by
  intro a v; rw [Frame.finish_atR, ho]; rfl
 unfold aOper at h
 have hnd : ro ≠ none -> isDefer o.op = false := by
  intro hne
  cases ro with
  | none => exact absurd rfl hne
  | some l =>
   cases hd : isDefer o.op
   ·rfl
   ·rw [hd] at h; cases h
 have hsem : o.semAt b.roundOf a.eval = execOp a.eval o := by
  cases hr : b.roundOf with
  | none => rfl
  | some l' =>
   have hne : ro ≠ none := by
    intro x; subst x; rw [hr] at hro; exact hro.elim
   have := hnd hne
   exact Oper.semAt_eq _ _ _ (fun c hc => by rw [hc] at this; cases this)
 rw [hsem] at hg
 have hkind : (match (b.atR a (.inRegion ops (i :: rest) :: k)).todo with | .call _ true _ _ :: _ => CallKind.wrapped | _ => .normal) = .normal := rfl
 split at h
 ·cases h
 ·split at h
  ·rename_i u W₁ hop
   cases h
   obtain ⟨η', w', r', g1, g2, g3, g4⟩ := aOp_spec hT hw hρ hop
   cases r' <;> try (exact g4.elim)
   rename_i v'
   refine ⟨η', v', [], w', g2, g3, g4, trivial, .one (step_lone_go ?_)⟩
   rw [hg]
   simp only [List.nil_append]
   rw [<- hfin]
   simp [stepG.apply, g1]
  ·rename_i W₁ hop
   cases h
   obtain ⟨η', w', r', g1, g2, g3, g4⟩ := aOp_spec hT hw hρ hop
   cases r' <;> try (exact g4.elim)
   refine ⟨η', undef, [], w', g2, g3, vr_undef _, trivial, .one (step_lone_go ?_)⟩
   rw [hg]
   simp only [List.nil_append]
   rw [<- hfin]
   simp [stepG.apply, g1]
  ·rename_i g args W₁ hop
   split at h
   ·rename_i u hsh
    split at h
    case h_2 => cases h
    rename_i htb
    cases h
    obtain ⟨η₁, w₁, r', g1, g2, g3, g4⟩ := aOp_spec hT hw hρ hop
    cases r' <;> try (exact g4.elim)
    rename_i g' args'
    obtain ⟨rfl, ha⟩ := g4
    unfold shortOf at hsh
    split at hsh
    case h_2 => cases hsh
    rename_i s hs
    obtain ⟨k1, k2, k3⟩ := hT.short _ _ hs _ _ hsh
    have hargs : args' = args.toArray := by rw [<- flats_eq k1 ha]
    subst hargs
    obtain ⟨e, w₂, fr, ⟨rfl, hon⟩, q1, q2, q3⟩ := k3 w₁ (tabsIn_spec (hG.mono g2.le) g3 htb) (b.atR a (.inRegion ops (i :: rest) :: k) :: cs)
    refine ⟨η₁, v, [], _, g2.onto hon, g3.onto hon, flat_vr _ _ k2, trivial, ?_⟩
    have henter : step P (lone (b.atR a (.inRegion ops (i :: rest) :: k)) cs w) = .next (lone (Frame.enter P g args.toArray .normal) (b.atR a (.inRegion ops (i :: rest) :: k) :: cs) w₁) :=
     step_lone_go (by rw [hg]; simp [stepG.apply, g1, Frame.atR])
    have q1' : Steps P _ _ := q1
    refine .head henter (q1'.trans (.one ?_))
    simp only [List.nil_append]
    rw [<- hfin]
    exact step_leave_returned q3
   split at h
   ·rename_i u W₂ hcall
    cases h
    obtain ⟨η₁, w₁, r', g1, g2, g3, g4⟩ := aOp_spec hT hw hρ hop
    cases r' <;> try (exact g4.elim)
    rename_i g' args'
    obtain ⟨rfl, ha⟩ := g4
    obtain ⟨η₂, w₂, fr, v', q1, q2, q3, q4, q5⟩ := hih.call _ _ _ _ _ hcall η₁ w₁ args' .normal (b.atR a (.inRegion ops (i :: rest) :: k) :: cs) g3 (hG.mono g2.le) ha (.inl rfl)
    refine ⟨η₂, v', [], w₂, g2.trans q1, q2, q3, trivial, ?_⟩
    have henter : step P (lone (b.atR a (.inRegion ops (i :: rest) :: k)) cs w) = .next (lone (Frame.enter P g args' .normal) (b.atR a (.inRegion ops (i :: rest) :: k) :: cs) w₁) :=
     step_lone_go (by rw [hg]; simp [stepG.apply, g1, Frame.atR])
    refine .head henter (q4.trans (.one ?_))
    simp only [List.nil_append]
    rw [<- hfin]
    obtain ⟨d1, d2, d3, d4, fn, d5, d6⟩ := q5
    exact step_leave_returned ⟨d1, d2, d3, fn, d4 ▸ d5, d6⟩
   ·cases h
  ·rename_i l fn tm n as bd W₁ hop
   split at h
   ·rename_i u W₂ hround
    cases h
    obtain ⟨η₁, w₁, r', g1, g2, g3, g4⟩ := aOp_spec hT hw hρ hop
    cases r' <;> try (exact g4.elim)
    rename_i l' fn' tm' as' bd'
    obtain ⟨⟨e, he1, he2⟩, rfl, ht, rfl, rfl⟩ := g4
    subst he2
    obtain ⟨η₂, w₂, v', q1, q2, q3, q4⟩ := hih.round _ _ _ _ _ _ _ _ _ hround η₁ w₁ e tm' (b.atR a (.inRegion ops (i :: rest) :: k)) cs g3 (hG.mono g2.le) he1 ht
    refine ⟨η₂, v', [], w₂, g2.trans q1, q2, q3, trivial, ?_⟩
    have henter : step P (lone (b.atR a (.inRegion ops (i :: rest) :: k)) cs w) = .next (lone (Frame.round e.1 fn tm' as bd .normal) (b.atR a (.inRegion ops (i :: rest) :: k) :: cs) w₁) :=
     step_lone_go (by rw [hg]; simp [stepG.apply, g1, Frame.atR])
    refine .head henter ?_
    simp only [List.nil_append]
    rw [<- hfin]
    exact q4
   ·cases h
  ·rename_i d W₁ hop
   cases h
   obtain ⟨η', w', r', g1, g2, g3, g4⟩ := aOp_spec hT hw hρ hop
   cases r' <;> try (exact g4.elim)
   rename_i d'
   refine ⟨η', undef, [d'], w', g2, g3, vr_undef _, ⟨g4, trivial⟩, .one (step_lone_go ?_)⟩
   rw [hg]
   have : ({ b.atR a (.inRegion ops (i :: rest) :: k) with defers := d' :: a.defers } : Frame).finish undef = b.atR (({ a with defers := [d'] ++ a.defers } : Act).put o.dst undef) (.inRegion ops rest :: k) :=
    hfin { a with defers := d' :: a.defers } undef
   simp only [stepG.apply, Sem.runT_eq, g1, GStep.bare_after]
   exact congrArg (fun fr => GStep.go { frame := fr, callers := cs, status := .running, dying := none } w') this
  ·rename_i W₁ hop
   split at h
   ·cases h
    obtain ⟨η', w', r', g1, g2, g3, g4⟩ := aOp_spec hT hw hρ hop
    cases r' <;> try (exact g4.elim)
    have hr0 : b.roundOf = none := by
     cases hr : b.roundOf with
     | none => rfl
     | some l => rw [hr] at hro; exact hro.elim
    refine ⟨η', .nilIface, [], w', g2, g3, .nilIface, trivial, .one (step_lone_go ?_)⟩
    rw [hg]
    simp only [List.nil_append]
    rw [<- hfin]
    have htr := tryRecover_none (fr := b.atR a (.inRegion ops (i :: rest) :: k)) hk
    have hro' : (b.atR a (.inRegion ops (i :: rest) :: k)).roundOf = none := hr0
    simp [stepG.apply, g1, hro', htr]
   ·cases h
  ·cases h
theorem ARel.evalF {η : Env} (hG : GRel T η) {A : AAct} {a : Act} (ha : ARel η A a) (x : Operand) (u : Value) (h : aEvalF T A.tmps.get x = some u) : VR η u (a.eval x) := by
 rw [aEvalF_get] at h; exact aEval_spec hG ha.1 h
theorem ARel.look {η : Env} {A : AAct} {a : Act} (ha : ARel η A a) (d : Tmp) (v : Value) (h : A.tmps.get d = some v) : VR η v (a.tmps.getD d undef) := by
 obtain ⟨v', h1, h2⟩ := ha.1.2 d v h
 have : a.tmps.getD d undef = v' := by
  obtain ⟨h3, h4⟩ := Array.getElem?_eq_some_iff.1 h1
  simp [Array.getD, h3, h4]
 rw [this]; exact h2
include hT hih in
theorem aOps_spec {ro : Option Nat} {ops : Array Oper} : ∀ (l : List Oper) (i : Nat) (A : AAct) (W : AW) (A' : AAct) (W' : AW) (η : Env) (w : World) (a : Act) (b : Frame) (k : List Item) (cs : List Frame), (∀ j, l[j]? = ops[i + j]?) ->
  aOps ih T ro ops.toList l A W = some (A', W') -> WRel η W w -> GRel T η -> ARel η A a -> RoRel η ro b.roundOf -> Ctx b.kind cs ->
  ∃ η' a' w', Fr η W w η' W' w' /\ WRel η' W' w' /\ ARel η' A' a' /\
   Steps P (lone (b.atR a (.inRegion ops (upFrom i l.length) :: k)) cs w) (lone (b.atR a' (.inRegion ops [] :: k)) cs w')
 | [], i, A, W, A', W', η, w, a, b, k, cs, hl, h, hw, hG, ha, hro, hk => by
  simp only [aOps, Option.some.injEq, Prod.mk.injEq] at h
  obtain ⟨rfl, rfl⟩ := h
  exact ⟨η, a, w, .refl _ _ _, hw, ha, .refl _ _⟩
 | o :: l, i, A, W, A', W', η, w, a, b, k, cs, hl, h, hw, hG, ha, hro, hk => by
  have ho : ops[i]? = some o := by simpa using (hl 0).symm
  have hl' : ∀ j, l[j]? = ops[i + 1 + j]? := fun j => by have := hl (j + 1); simpa [Nat.add_assoc, Nat.add_comm 1 j] using this
  simp only [aOps] at h
  split at h
  ·cases h
  ·rename_i hwa
   have hwant := aWanted_spec (ops := ops) (tmps := a.tmps) hwa ha.look
   split at h
   ·rename_i A₁ hput
    have ha₁ := put_rel hput ha (vr_undef η)
    obtain ⟨η', a', w', g1, g2, g3, g4⟩ := aOps_spec l (i + 1) A₁ W A' W' η w _ b k cs hl' h hw hG ha₁ hro hk
    refine ⟨η', a', w', g1, g2, g3, .head ?_ g4⟩
    have := stepR_op_skip (P := P) (b := b) (a := a) (k := k) (cs := cs) (w := w) (ops := ops) (i := i) (rest := upFrom (i + 1) l.length) (by simp [ho, hwant])
    simp only [ho, Option.bind_some] at this
    exact this
   ·cases h
  ·rename_i hwa
   have hwant := aWanted_spec (ops := ops) (tmps := a.tmps) hwa ha.look
   split at h
   ·cases h
   ·rename_i v ds W₁ hop
    split at h
    ·rename_i A₁ hput
     obtain ⟨η₁, v', ds', w₁, q1, q2, q3, q4, q5⟩ := aOper_spec hT hih hop hw hG (ha.evalF hG) hro hk (k := k) (rest := upFrom (i + 1) l.length) ho hwant
     have ha₀ : ARel η₁ { A with defers := ds ++ A.defers } { a with defers := ds' ++ a.defers } := ⟨ha.1.mono q1.le, q4.append (ha.2.mono q1.le)⟩
     have ha₁ := put_rel hput ha₀ q3
     obtain ⟨η', a', w', g1, g2, g3, g4⟩ := aOps_spec l (i + 1) A₁ W₁ A' W' η₁ w₁ _ b k cs hl' h q2 (hG.mono q1.le) ha₁ (hro.mono q1.le) hk
     exact ⟨η', a', w', q1.trans g1, g2, g3, q5.trans g4⟩
    ·cases h
theorem range_upFrom : ∀ (n i : Nat), (List.range' i n) = upFrom i n
 | 0, _ => rfl
 | n + 1, i => by rw [List.range'_succ, range_upFrom n (i + 1)]; rfl
end oper
end Go.Eng
