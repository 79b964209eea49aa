import Derived.Test.YtfnigiojgbeklaaDoorEngZ
import Derived.Test.YtfnigiojgbeklaaDoorEngS
set_option linter.unusedSimpArgs false
set_option linter.unusedVariables false
set_option linter.unusedSectionVars false
section
set_option linter.unusedSimpArgs false
set_option linter.unusedVariables false
namespace Go.Eng
def SC (T : Tabs) (P : Program) (cx : Cx) (pre : List Item → List Item) (A : AAct) (W : AW) (Q : AExit → AAct → AW → Prop) : Prop :=
  ∀ (η : Env) (w : World) (a : Act) (b : Frame) (k : List Item) (cs : List Frame), WRel η W w → GRel T η → ARel η A a → b.fn = cx.fn → RoRel η cx.ro b.roundOf → Ctx b.kind cs →
    ∃ e A' W' η' a' w', Q e A' W' ∧ Fr η W w η' W' w' ∧ WRel η' W' w' ∧ ARel η' A' a' ∧ Arr P (lone (b.atR a (pre k)) cs w) b k cs e a' w'
def SF (T : Tabs) (P : Program) (f : FuncId) (args : List Value) (W : AW) (R : Value → AW → Prop) : Prop :=
  ∀ (η : Env) (w : World) (args' : Array Value) (kind : CallKind) (cs : List Frame), WRel η W w → GRel T η → LR η args args'.toList → Ctx kind cs →
    ∃ v W' η' w' fr v', R v W' ∧ Fr η W w η' W' w' ∧ WRel η' W' w' ∧ VR η' v v' ∧ Steps P (lone (Frame.enter P f args' kind) cs w) (lone fr cs w') ∧ Done P fr f kind w' v'
def SO (T : Tabs) (P : Program) (ro : Option Nat) (ops : Array Oper) (i : Nat) (A : AAct) (W : AW) (R : AAct → AW → Prop) : Prop :=
  ∀ (η : Env) (w : World) (a : Act) (b : Frame) (k : List Item) (cs : List Frame), WRel η W w → GRel T η → ARel η A a → RoRel η ro b.roundOf → Ctx b.kind cs →
    ∃ A' W' η' a' w', R A' W' ∧ Fr η W w η' W' w' ∧ WRel η' W' w' ∧ ARel η' A' a' ∧
      Steps P (lone (b.atR a (.inRegion ops (upFrom i (ops.size - i)) :: k)) cs w) (lone (b.atR a' (.inRegion ops [] :: k)) cs w')
section
variable {T : Tabs} {P : Program} {cx : Cx} {A : AAct} {W : AW} {Q : AExit → AAct → AW → Prop}
theorem SC.mono {pre : List Item → List Item} {Q' : AExit → AAct → AW → Prop} (h : SC T P cx pre A W Q) (hq : ∀ e A' W', Q e A' W' → Q' e A' W') : SC T P cx pre A W Q' := by
  intro η w a b k cs h1 h2 h3 h4 h5 h6
  obtain ⟨e, A', W', η', a', w', q, r⟩ := h η w a b k cs h1 h2 h3 h4 h5 h6
  exact ⟨e, A', W', η', a', w', hq _ _ _ q, r⟩
theorem SF.mono {f : FuncId} {args : List Value} {R R' : Value → AW → Prop} (h : SF T P f args W R) (hq : ∀ v W', R v W' → R' v W') : SF T P f args W R' := by
  intro η w a k cs h1 h2 h3 h4
  obtain ⟨v, W', η', w', fr, v', q, r⟩ := h η w a k cs h1 h2 h3 h4
  exact ⟨v, W', η', w', fr, v', hq _ _ q, r⟩
theorem SO.mono {ro : Option Nat} {ops : Array Oper} {i : Nat} {R R' : AAct → AW → Prop} (h : SO T P ro ops i A W R) (hq : ∀ A' W', R A' W' → R' A' W') : SO T P ro ops i A W R' := by
  intro η w a b k cs h1 h2 h3 h4 h5
  obtain ⟨A', W', η', a', w', q, r⟩ := h η w a b k cs h1 h2 h3 h4 h5
  exact ⟨A', W', η', a', w', hq _ _ q, r⟩
theorem sc_ev (hT : T.Ok P) {n : Nat} {c : Code} {e : AExit} {A' : AAct} {W' : AW} (h : (ev T n).code cx c A W = some (e, A', W')) (hq : Q e A' W') : SC T P cx (fun k => .code c :: k) A W Q := by
  intro η w a b k cs h1 h2 h3 h4 h5 h6
  obtain ⟨η', a', w', r⟩ := (ev_ok hT n).code.run _ _ _ _ _ _ _ h η w a b k cs h1 h2 h3 h4 h5 h6
  exact ⟨e, A', W', η', a', w', hq, r⟩
theorem sf_ev (hT : T.Ok P) {n : Nat} {f : FuncId} {args : List Value} {R : Value → AW → Prop} {v : Value} {W' : AW} (h : (ev T n).call f args W = some (v, W')) (hq : R v W') : SF T P f args W R := by
  intro η w a k cs h1 h2 h3 h4
  obtain ⟨η', w', fr, v', r⟩ := (ev_ok hT n).call _ _ _ _ _ h η w a k cs h1 h2 h3 h4
  exact ⟨v, W', η', w', fr, v', hq, r⟩
theorem sc_skip (h : Q .normal A W) : SC T P cx (fun k => .code .skip :: k) A W Q := fun η w a b k cs h1 _ h3 _ _ _ => ⟨_, A, W, η, a, w, h, .refl _ _ _, h1, h3, .one stepR_skip⟩
theorem sc_label {l : Nat} (h : Q .normal A W) : SC T P cx (fun k => .code (.label l) :: k) A W Q := fun η w a b k cs h1 _ h3 _ _ _ => ⟨_, A, W, η, a, w, h, .refl _ _ _, h1, h3, .one stepR_label⟩
theorem sc_exit {id : Nat} (h : Q (.exit id) A W) : SC T P cx (fun k => .code (.exit id) :: k) A W Q := fun η w a b k cs h1 _ h3 _ _ _ => ⟨_, A, W, η, a, w, h, .refl _ _ _, h1, h3, k, rfl, .refl _ _⟩
theorem sc_ret (h : Q .ret A W) : SC T P cx (fun k => .code .ret :: k) A W Q := fun η w a b k cs h1 _ h3 _ _ _ => ⟨_, A, W, η, a, w, h, .refl _ _ _, h1, h3, k, .refl _ _⟩
def behindN (Q : AExit → AAct → AW → Prop) (next : AAct → AW → Prop) : AExit → AAct → AW → Prop
  | .normal => next
  | .exit id => Q (.exit id)
  | .ret => Q .ret
theorem sc_seq {x y : Code} (h : SC T P cx (fun k => .code x :: k) A W (behindN Q fun A' W' => SC T P cx (fun k => .code y :: k) A' W' Q)) : SC T P cx (fun k => .code (.seq x y) :: k) A W Q := by
  intro η w a b k cs hw hG ha hf hro hk
  obtain ⟨e, A₁, W₁, η₁, a₁, w₁, hq, g1, g2, g3, g4⟩ := h η w a b (.code y :: k) cs hw hG ha hf hro hk
  cases e with
  | normal =>
    obtain ⟨e, A₂, W₂, η₂, a₂, w₂, hq, q1, q2, q3, q4⟩ := hq η₁ w₁ a₁ b k cs g2 (hG.mono g1.le) g3 hf (hro.mono g1.le) hk
    exact ⟨e, A₂, W₂, η₂, a₂, w₂, hq, g1.trans q1, q2, q3, .of_steps (.head stepR_seq g4) q4⟩
  | exit id =>
    obtain ⟨k₁, x, y⟩ := g4
    exact ⟨_, A₁, W₁, η₁, a₁, w₁, hq, g1, g2, g3, .of_steps (.one stepR_seq) ⟨k₁, by simpa [exitTo] using x, y⟩⟩
  | ret => exact ⟨_, A₁, W₁, η₁, a₁, w₁, hq, g1, g2, g3, .of_steps (.one stepR_seq) g4⟩
theorem sc_cond {c : Operand} {x y : Code} {v : Bool} (hc : aEval T A.tmps c = some (.bool v)) (h : SC T P cx (fun k => .code (if v then x else y) :: k) A W Q) : SC T P cx (fun k => .code (.cond c x y) :: k) A W Q := by
  intro η w a b k cs hw hG ha hf hro hk
  have hv := aEval_spec (a := a) hG ha.1 hc
  have hv' : a.eval c = .bool v := by generalize a.eval c = u at hv; cases hv; rfl
  obtain ⟨e, A₁, W₁, η₁, a₁, w₁, hq, g1, g2, g3, g4⟩ := h η w a b k cs hw hG ha hf hro hk
  exact ⟨e, A₁, W₁, η₁, a₁, w₁, hq, g1, g2, g3, .of_steps (.one (stepR_cond hv')) g4⟩
def leavesN (id : Nat) (Q : AExit → AAct → AW → Prop) : AExit → AAct → AW → Prop
  | .normal => Q .normal
  | .exit id' => fun A W => match Nat.beq id' id with
    | true => Q .normal A W
    | false => Q (.exit id') A W
  | .ret => Q .ret
theorem sc_block {id : Nat} {c : Code} (h : SC T P cx (fun k => .code c :: k) A W (leavesN id Q)) : SC T P cx (fun k => .code (.block id c) :: k) A W Q := by
  intro η w a b k cs hw hG ha hf hro hk
  obtain ⟨e, A₁, W₁, η₁, a₁, w₁, hq, g1, g2, g3, g4⟩ := h η w a b (.inBlock id :: k) cs hw hG ha hf hro hk
  cases e with
  | normal => exact ⟨_, A₁, W₁, η₁, a₁, w₁, hq, g1, g2, g3, .of_steps (.one stepR_block) (Steps.trans g4 (.one stepR_inBlock))⟩
  | exit id' =>
    obtain ⟨k₁, x, y⟩ := g4
    simp only [leavesN] at hq
    split at hq
    · rename_i hid
      have hid' : id' = id := Nat.eq_of_beq_eq_true hid
      subst hid'
      have hx : exitTo id' k₁ = some k := by rw [x]; simp [exitTo]
      exact ⟨_, A₁, W₁, η₁, a₁, w₁, hq, g1, g2, g3, .head stepR_block (y.trans (.one (stepR_exit hx)))⟩
    · rename_i hid
      have hid' : id' ≠ id := fun x => by subst x; simp at hid
      refine ⟨_, A₁, W₁, η₁, a₁, w₁, hq, g1, g2, g3, k₁, ?_, .head stepR_block y⟩
      rw [x]; simp [exitTo, Ne.symm hid']
  | ret => exact ⟨_, A₁, W₁, η₁, a₁, w₁, hq, g1, g2, g3, .of_steps (.one stepR_block) g4⟩
theorem sc_scope {c : Code} (h : SC T P cx (fun k => .code c :: k) A W Q) : SC T P cx (fun k => .code (.scope c) :: k) A W Q := by
  intro η w a b k cs hw hG ha hf hro hk
  obtain ⟨e, A₁, W₁, η₁, a₁, w₁, hq, g1, g2, g3, g4⟩ := h η w a b (.inScope c :: k) cs hw hG ha hf hro hk
  refine ⟨e, A₁, W₁, η₁, a₁, w₁, hq, g1, g2, g3, .of_steps (.one stepR_scope) ?_⟩
  cases e with
  | normal => exact Steps.trans g4 (.one stepR_inScope)
  | exit id => obtain ⟨k₁, x, y⟩ := g4; exact ⟨k₁, by simpa [exitTo] using x, y⟩
  | ret => exact g4
theorem sc_loop {c : Code} (h : SC T P cx (fun k => .code c :: .inLoop c :: k) A W Q) : SC T P cx (fun k => .code (.loop c) :: k) A W Q := by
  intro η w a b k cs hw hG ha hf hro hk
  obtain ⟨e, A₁, W₁, η₁, a₁, w₁, hq, g1, g2, g3, g4⟩ := h η w a b k cs hw hG ha hf hro hk
  exact ⟨e, A₁, W₁, η₁, a₁, w₁, hq, g1, g2, g3, .of_steps (.one stepR_loop) g4⟩
theorem sc_round {c : Code} (h : SC T P cx (fun k => .code c :: k) A W (behindN Q fun A' W' => SC T P cx (fun k => .code c :: .inLoop c :: k) A' W' Q)) : SC T P cx (fun k => .code c :: .inLoop c :: k) A W Q := by
  intro η w a b k cs hw hG ha hf hro hk
  obtain ⟨e, A₁, W₁, η₁, a₁, w₁, hq, g1, g2, g3, g4⟩ := h η w a b (.inLoop c :: k) cs hw hG ha hf hro hk
  cases e with
  | normal =>
    obtain ⟨e, A₂, W₂, η₂, a₂, w₂, hq, q1, q2, q3, q4⟩ := hq η₁ w₁ a₁ b k cs g2 (hG.mono g1.le) g3 hf (hro.mono g1.le) hk
    exact ⟨e, A₂, W₂, η₂, a₂, w₂, hq, g1.trans q1, q2, q3, .of_steps (Steps.trans g4 (.one stepR_inLoop)) q4⟩
  | exit id =>
    obtain ⟨k₁, x, y⟩ := g4
    exact ⟨_, A₁, W₁, η₁, a₁, w₁, hq, g1, g2, g3, k₁, by simpa [exitTo] using x, y⟩
  | ret => exact ⟨_, A₁, W₁, η₁, a₁, w₁, hq, g1, g2, g3, g4⟩
theorem sc_region {id : Nat} {ops : Array Oper} (h : SO T P cx.ro ops 0 A W (Q .normal)) : SC T P cx (fun k => .code (.region id ops false) :: k) A W Q := by
  intro η w a b k cs hw hG ha hf hro hk
  obtain ⟨A₁, W₁, η₁, a₁, w₁, hq, g1, g2, g3, g4⟩ := h η w a b k cs hw hG ha hro hk
  refine ⟨.normal, A₁, W₁, η₁, a₁, w₁, hq, g1, g2, g3, .head stepR_region ?_⟩
  have : List.range ops.size = upFrom 0 (ops.size - 0) := by
    rw [← range_upFrom, List.range_eq_range']; simp
  rw [this]
  exact g4.trans (.one stepR_region_end)
section ops
variable {ro : Option Nat} {ops : Array Oper} {i : Nat} {R : AAct → AW → Prop}
theorem so_end (hi : ops.size ≤ i) (h : R A W) : SO T P ro ops i A W R := by
  intro η w a b k cs hw hG ha hro hk
  refine ⟨A, W, η, a, w, h, .refl _ _ _, hw, ha, ?_⟩
  rw [Nat.sub_eq_zero_of_le hi]
  exact .refl _ _
theorem up_cons (hi : i < ops.size) : upFrom i (ops.size - i) = i :: upFrom (i + 1) (ops.size - (i + 1)) := by
  rw [show ops.size - i = (ops.size - (i + 1)) + 1 from by omega]; rfl
theorem so_skip {o : Oper} {A₁ : AAct} (ho : ops[i]? = some o) (hw0 : aWanted ops.toList o A.tmps.get = some false) (hput : A.put o.dst undef = some A₁) (h : SO T P ro ops (i + 1) A₁ W R) : SO T P ro ops i A W R := by
  intro η w a b k cs hw hG ha hro hk
  have hi : i < ops.size := (Array.getElem?_eq_some_iff.1 ho).1
  have hwant := aWanted_spec (ops := ops) (tmps := a.tmps) hw0 ha.look
  have ha₁ := put_rel hput ha (vr_undef η)
  obtain ⟨A', W', η', a', w', hq, g1, g2, g3, g4⟩ := h η w _ b k cs hw hG ha₁ hro hk
  refine ⟨A', W', η', a', w', hq, g1, g2, g3, ?_⟩
  rw [up_cons hi]
  refine .head ?_ g4
  have := stepR_op_skip (P := P) (b := b) (a := a) (k := k) (cs := cs) (w := w) (ops := ops) (i := i) (rest := upFrom (i + 1) (ops.size - (i + 1))) (by simp [ho, hwant])
  simp only [ho, Option.bind_some] at this
  exact this
theorem so_ev (hT : T.Ok P) {n : Nat} {o : Oper} {A₁ : AAct} {v : Value} {ds : List Deferred} {W₁ : AW} (ho : ops[i]? = some o) (hw0 : aWanted ops.toList o A.tmps.get = some true) (hop : aOper (ev T n) T ro o A.tmps.get W = some (v, ds, W₁))
    (hput : ({ A with defers := ds ++ A.defers } : AAct).put o.dst v = some A₁) (h : SO T P ro ops (i + 1) A₁ W₁ R) : SO T P ro ops i A W R := by
  intro η w a b k cs hw hG ha hro hk
  have hi : i < ops.size := (Array.getElem?_eq_some_iff.1 ho).1
  have hwant := aWanted_spec (ops := ops) (tmps := a.tmps) hw0 ha.look
  obtain ⟨η₁, v', ds', w₁, q1, q2, q3, q4, q5⟩ := aOper_spec hT (ev_ok hT n) hop hw hG (ha.evalF hG) hro hk (k := k) (rest := upFrom (i + 1) (ops.size - (i + 1))) ho hwant
  have ha₀ : ARel η₁ { A with defers := ds ++ A.defers } { a with defers := ds' ++ a.defers } := ⟨ha.1.mono q1.le, q4.append (ha.2.mono q1.le)⟩
  have ha₁ := put_rel hput ha₀ q3
  obtain ⟨A', W', η', a', w', hq, g1, g2, g3, g4⟩ := h η₁ w₁ _ b k cs q2 (hG.mono q1.le) ha₁ (hro.mono q1.le) hk
  refine ⟨A', W', η', a', w', hq, q1.trans g1, g2, g3, ?_⟩
  rw [up_cons hi]
  exact q5.trans g4
theorem sem_op {o : Oper} (hd : isDefer o.op = false) {a : Act} {ro : Option Nat} : o.semAt ro a.eval = execOp a.eval o := by
  cases ro with
  | none => rfl
  | some l => exact Oper.semAt_eq _ _ _ (fun c hc => by rw [hc] at hd; cases hd)
theorem so_call (hT : T.Ok P) {o : Oper} {g : FuncId} {args : List Value} {W₁ : AW} (hd : isDefer o.op = false) (ho : ops[i]? = some o) (hw0 : aWanted ops.toList o A.tmps.get = some true) (hop : aOp T W (aEvalF T A.tmps.get) o = some (.enter g args, W₁))
    (h : SF T P g args W₁ fun v W₂ => ∃ A₁, A.put o.dst v = some A₁ ∧ SO T P ro ops (i + 1) A₁ W₂ R) : SO T P ro ops i A W R := by
  intro η w a b k cs hw hG ha hro hk
  have hi : i < ops.size := (Array.getElem?_eq_some_iff.1 ho).1
  have hwant := aWanted_spec (ops := ops) (tmps := a.tmps) hw0 ha.look
  have hg := stepGR_op (P := P) (b := b) (k := k) (cs := cs) (w := w) (rest := upFrom (i + 1) (ops.size - (i + 1))) ho hwant
  rw [sem_op hd] at hg
  obtain ⟨η₁, w₁, r', g1, g2, g3, g4⟩ := aOp_spec hT hw (ha.evalF hG) hop
  cases r' <;> try (exact g4.elim)
  rename_i g' args'
  obtain ⟨rfl, hargs⟩ := g4
  obtain ⟨v, W₂, η₂, w₂, fr, v', ⟨A₁, hput, hso⟩, q1, q2, q3, q4, q5⟩ := h η₁ w₁ args' .normal (b.atR a (.inRegion ops (i :: upFrom (i + 1) (ops.size - (i + 1))) :: k) :: cs) g3 (hG.mono g2.le) hargs (.inl rfl)
  have ha₁ := put_rel hput ((ha.mono g2.le).mono q1.le) q3
  obtain ⟨A', W', η', a', w', hq, x1, x2, x3, x4⟩ := hso η₂ w₂ _ b k cs q2 ((hG.mono g2.le).mono q1.le) ha₁ ((hro.mono g2.le).mono q1.le) hk
  refine ⟨A', W', η', a', w', hq, (g2.trans q1).trans x1, x2, x3, ?_⟩
  have henter : step P (lone (b.atR a (.inRegion ops (i :: upFrom (i + 1) (ops.size - (i + 1))) :: k)) cs w) = .next (lone (Frame.enter P g args' .normal) (b.atR a (.inRegion ops (i :: upFrom (i + 1) (ops.size - (i + 1))) :: k) :: cs) w₁) :=
    step_lone_go (by rw [hg]; simp [stepG.apply, g1, Frame.atR])
  rw [up_cons hi]
  refine .head henter (q4.trans (.head ?_ x4))
  have hfin : (b.atR a (.inRegion ops (i :: upFrom (i + 1) (ops.size - (i + 1))) :: k)).finish v' = b.atR (a.put o.dst v') (.inRegion ops (upFrom (i + 1) (ops.size - (i + 1))) :: k) := by
    rw [Frame.finish_atR, ho]; rfl
  rw [← hfin]
  obtain ⟨d1, d2, d3, d4, fn, d5, d6⟩ := q5
  exact step_leave_returned ⟨d1, d2, d3, fn, d4 ▸ d5, d6⟩
theorem so_next {o : Oper} {x : Operand} {xv : Value} {l : List (Option Ent)} (hox : o.op = .next x false) (ho : ops[i]? = some o) (hw0 : aWanted ops.toList o A.tmps.get = some true) (hx : aEvalF T A.tmps.get x = some xv) (hl : aCands W xv = some l)
    (h : ∀ c ∈ l, ∀ v W₁, aPick W xv c = some (v, W₁) → ∃ A₁, A.put o.dst v = some A₁ ∧ SO T P ro ops (i + 1) A₁ W₁ R) : SO T P ro ops i A W R := by
  intro η w a b k cs hw hG ha hro hk
  have hi : i < ops.size := (Array.getElem?_eq_some_iff.1 ho).1
  have hwant := aWanted_spec (ops := ops) (tmps := a.tmps) hw0 ha.look
  have hg := stepGR_op (P := P) (b := b) (k := k) (cs := cs) (w := w) (rest := upFrom (i + 1) (ops.size - (i + 1))) ho hwant
  rw [sem_op (by rw [hox]; rfl)] at hg
  obtain ⟨c, v, W₁, hc, hp, η₁, w₁, v', g1, g2, g3, g4⟩ := next_pick (P := P) hw o.type hl (ha.evalF hG x xv hx)
  obtain ⟨A₁, hput, hso⟩ := h c hc v W₁ hp
  have ha₁ := put_rel hput (ha.mono g2.le) g4
  obtain ⟨A', W', η', a', w', hq, x1, x2, x3, x4⟩ := hso η₁ w₁ _ b k cs g3 (hG.mono g2.le) ha₁ (hro.mono g2.le) hk
  refine ⟨A', W', η', a', w', hq, g2.trans x1, x2, x3, ?_⟩
  rw [up_cons hi]
  refine .head (step_lone_go ?_) x4
  have hfin : (b.atR a (.inRegion ops (i :: upFrom (i + 1) (ops.size - (i + 1))) :: k)).finish v' = b.atR (a.put o.dst v') (.inRegion ops (upFrom (i + 1) (ops.size - (i + 1))) :: k) := by
    rw [Frame.finish_atR, ho]; rfl
  have hex : (execOp a.eval o).run P w = .ok (.value v') w₁ := by
    simp only [execOp, hox, Sem.run_bind, g1, Result.andThen_ok, Sem.run_pure]
  rw [hg, ← hfin]
  simp [stepG.apply, hex]
end ops
theorem sf_body (hT : T.Ok P) {n : Nat} {f : FuncId} {fn : Func} {c : Code} {args : List Value} {R : Value → AW → Prop} (hf : T.funcs.get f = some fn) (hb : fn.body = some c)
    (h : SC T P ⟨f, none⟩ (fun k => .code c :: k) ⟨Tr.nil.lay 0 args, max fn.ntmps args.length, []⟩ W (fun e A' W' => (e = .normal ∨ e = .ret) ∧ ∃ W'', (ev T n).defers A'.defers W' = some W'' ∧ ∃ l, aResults T W'' A'.tmps fn.results.toList = some l ∧ R (tupled l) W'')) :
    SF T P f args W R := by
  intro η w args' kind cs hw hG ha hk
  have hfn' := hT.func _ _ hf
  let b : Frame := { (default : Frame) with fn := f, kind := kind, roundOf := none }
  have henter : Frame.enter P f args' kind = b.atR { tmps := args' ++ Array.replicate (fn.ntmps - args'.size) undef, defers := [] } [.code c] := by
    simp [Frame.enter, Frame.atR, hfn', hb, b]
  have hlen := ha.1
  have ht : TR η (Tr.nil.lay 0 args) (max fn.ntmps args.length) (args' ++ Array.replicate (fn.ntmps - args'.size) undef) := by
    refine ⟨?_, fun i u hu => ?_⟩
    · have : args.length = args'.size := by simpa using hlen
      simp; omega
    · rw [Tr.get_lay] at hu
      split at hu
      · rename_i hi
        have hi' : i < args'.toList.length := by omega
        have hi2 : i < args'.size := by simpa using hi'
        refine ⟨args'[i], ?_, ha.2 i u _ (by simpa using hu) (by simp [hi2])⟩
        rw [Array.getElem?_append_left hi2]; simp
      · simp [Tr.get] at hu
  obtain ⟨e, A₁, W₁, η₁, a, w₁, ⟨he, W₂, hdf, l, hl, hR⟩, g1, g2, g3, g4⟩ := h η w { tmps := args' ++ Array.replicate (fn.ntmps - args'.size) undef, defers := [] } b [] cs hw hG ⟨ht, trivial⟩ rfl trivial hk
  rw [henter]
  have main : ∀ (fr : Frame), fr.mode = .returning → fr.tmps = a.tmps → fr.defers = a.defers → fr.fn = f → fr.kind = kind →
      Steps P (lone (b.atR { tmps := args' ++ Array.replicate (fn.ntmps - args'.size) undef, defers := [] } [.code c]) cs w) (lone fr cs w₁) →
      ∃ v W' η' w' fr v', R v W' ∧ Fr η W w η' W' w' ∧ WRel η' W' w' ∧ VR η' v v' ∧ Steps P (lone (b.atR { tmps := args' ++ Array.replicate (fn.ntmps - args'.size) undef, defers := [] } [.code c]) cs w) (lone fr cs w') ∧ Done P fr f kind w' v' := by
    intro fr hm ht hd hff hkk hs
    obtain ⟨η₂, w₂, x1, x2, x3⟩ := (ev_ok hT n).defers _ _ _ hdf η₁ w₁ a.defers fr cs g2 (hG.mono g1.le) g3.2 hm hd
    obtain ⟨v', y1, y2⟩ := results_ok hT x2 (g3.1.mono x1.le) hl
    exact ⟨tupled l, W₂, η₂, w₂, { fr with defers := [] }, v', hR, g1.trans x1, x2, y2, hs.trans x3, hm, rfl, hkk, hff, fn, hfn', by rw [← ht] at y1; exact y1⟩
  rcases he with rfl | rfl
  · exact main _ rfl rfl rfl rfl rfl (Steps.trans g4 (.one (stepR_end rfl)))
  · obtain ⟨k₁, g4⟩ := g4
    exact main _ rfl rfl rfl rfl rfl (g4.trans (.one (stepR_ret rfl)))
end
abbrev Outs := List (AExit × AAct × AW)
structure IhN where
  code : Cx → Code → AAct → AW → Option Outs
  loop : Cx → Code → AAct → AW → Option Outs
  call : FuncId → List Value → AW → Option (List (Value × AW))
def bindN {α β : Type} (f : α → Option (List β)) : List α → Option (List β)
  | [] => some []
  | a :: l => match f a, bindN f l with
    | some x, some y => some (x ++ y)
    | _, _ => none
theorem bindN_mem {α β : Type} {f : α → Option (List β)} : ∀ {l : List α} {r : List β}, bindN f l = some r → ∀ a ∈ l, ∃ x, f a = some x ∧ ∀ y ∈ x, y ∈ r
  | b :: l, r, h, a, ha => by
    simp only [bindN] at h
    split at h
    · rename_i x y h1 h2
      cases h
      cases ha with
      | head => exact ⟨x, h1, fun z hz => List.mem_append_left _ hz⟩
      | tail _ ha => obtain ⟨u, g1, g2⟩ := bindN_mem h2 a ha; exact ⟨u, g1, fun z hz => List.mem_append_right _ (g2 z hz)⟩
    · cases h
def nextOf : Op → Option Operand
  | .next x false => some x
  | _ => none
def opsN (ih : IhN) (d : Ih) (T : Tabs) (D : Tr Unit) (ro : Option Nat) (all : List Oper) : List Oper → AAct → AW → Option (List (AAct × AW))
  | [], A, W => some [(A, W)]
  | o :: rest, A, W => match aWanted all o A.tmps.get with
    | none => none
    | some false => match A.put o.dst undef with
      | some A' => opsN ih d T D ro all rest A' W
      | none => none
    | some true => match nextOf o.op with
      | some x => match aEvalF T A.tmps.get x with
        | none => none
        | some xv => match aCands W xv with
          | none => none
          | some l => bindN (fun c => match aPick W xv c with
            | none => none
            | some (v, W₁) => match A.put o.dst v with
              | none => none
              | some A₁ => opsN ih d T D ro all rest A₁ W₁) l
      | none => match isDefer o.op, aOp T W (aEvalF T A.tmps.get) o with
        | false, some (.enter g args, W₁) => match D.get g with
          | some _ => match ih.call g args W₁ with
            | none => none
            | some l => bindN (fun x : Value × AW => match A.put o.dst x.1 with
              | none => none
              | some A₁ => opsN ih d T D ro all rest A₁ x.2) l
          | none => match d.call g args W₁ with
            | none => none
            | some (v, W₂) => match A.put o.dst v with
              | none => none
              | some A₁ => opsN ih d T D ro all rest A₁ W₂
        | _, _ => match aOper d T ro o A.tmps.get W with
          | none => none
          | some (v, ds, W₁) => match ({ A with defers := ds ++ A.defers } : AAct).put o.dst v with
            | none => none
            | some A₁ => opsN ih d T D ro all rest A₁ W₁
def stepN (d : Ih) (T : Tabs) (D : Tr Unit) (ih : IhN) : IhN where
  code := fun cx c A W => match c with
    | .skip => some [(.normal, A, W)]
    | .label _ => some [(.normal, A, W)]
    | .exit id => some [(.exit id, A, W)]
    | .ret => some [(.ret, A, W)]
    | .seq a b => match ih.code cx a A W with
      | none => none
      | some l => bindN (fun r : AExit × AAct × AW => match r with
        | (.normal, A₁, W₁) => ih.code cx b A₁ W₁
        | r => some [r]) l
    | .cond c x y => match aEval T A.tmps c with
      | some (.bool true) => ih.code cx x A W
      | some (.bool false) => ih.code cx y A W
      | _ => none
    | .block id b => match ih.code cx b A W with
      | none => none
      | some l => some (l.map fun r => match r with
        | (.exit id', A₁, W₁) => match Nat.beq id' id with
          | true => (.normal, A₁, W₁)
          | false => (.exit id', A₁, W₁)
        | r => r)
    | .loop b => ih.loop cx b A W
    | .scope b => ih.code cx b A W
    | .region _ ops false => match opsN ih d T D cx.ro ops.toList ops.toList A W with
      | some l => some (l.map fun x => (.normal, x.1, x.2))
      | none => none
    | c => match d.code cx c A W with
      | some r => some [r]
      | none => none
  loop := fun cx c A W => match ih.code cx c A W with
    | none => none
    | some l => bindN (fun r : AExit × AAct × AW => match r with
      | (.normal, A₁, W₁) => ih.loop cx c A₁ W₁
      | r => some [r]) l
  call := fun f args W => match T.funcs.get f with
    | none => none
    | some fn => match fn.body with
      | none => none
      | some c => match ih.code ⟨f, none⟩ c ⟨Tr.nil.lay 0 args, max fn.ntmps args.length, []⟩ W with
        | none => none
        | some l => bindN (fun r : AExit × AAct × AW => match r with
          | (.exit _, _, _) => none
          | (_, A, W₁) => match d.defers A.defers W₁ with
            | none => none
            | some W₂ => match aResults T W₂ A.tmps fn.results.toList with
              | none => none
              | some l => some [(tupled l, W₂)]) l
def IhN.none' : IhN where
  code := fun _ _ _ _ => none
  loop := fun _ _ _ _ => none
  call := fun _ _ _ => none
def evN (d : Ih) (T : Tabs) (D : Tr Unit) : Nat → IhN
  | 0 => IhN.none'
  | n + 1 => stepN d T D (evN d T D n)
structure IhNOk (T : Tabs) (P : Program) (ih : IhN) : Prop where
  code : ∀ cx c A W l, ih.code cx c A W = some l → SC T P cx (fun k => .code c :: k) A W fun e A' W' => (e, A', W') ∈ l
  loop : ∀ cx c A W l, ih.loop cx c A W = some l → SC T P cx (fun k => .code c :: .inLoop c :: k) A W fun e A' W' => (e, A', W') ∈ l
  call : ∀ f args W l, ih.call f args W = some l → SF T P f args W fun v W' => (v, W') ∈ l
theorem opsN_ok {T : Tabs} {P : Program} (hT : T.Ok P) {n : Nat} {D : Tr Unit} {ih : IhN} (hih : IhNOk T P ih) {ro : Option Nat} {ops : Array Oper} : ∀ (l : List Oper) (i : Nat) (A : AAct) (W : AW) (r : List (AAct × AW)), (∀ j, l[j]? = ops[i + j]?) →
    opsN ih (ev T n) T D ro ops.toList l A W = some r → SO T P ro ops i A W fun A' W' => (A', W') ∈ r
  | [], i, A, W, r, hl, h => by
    simp only [opsN, Option.some.injEq] at h
    subst h
    have : ops.size ≤ i := by
      have := hl 0
      simp only [List.getElem?_nil, Nat.add_zero] at this
      exact Array.getElem?_eq_none_iff.1 this.symm
    exact so_end this (List.mem_singleton.2 rfl)
  | o :: l, i, A, W, r, hl, h => by
    have ho : ops[i]? = some o := by simpa using (hl 0).symm
    have hl' : ∀ j, l[j]? = ops[i + 1 + j]? := fun j => by have := hl (j + 1); simpa [Nat.add_assoc, Nat.add_comm 1 j] using this
    simp only [opsN] at h
    split at h
    · cases h
    · rename_i hwa
      split at h
      · rename_i A₁ hput
        exact so_skip ho hwa hput (opsN_ok hT hih l (i + 1) A₁ W r hl' h)
      · cases h
    · rename_i hwa
      split at h
      · rename_i x hx
        have hox : o.op = .next x false := by
          unfold nextOf at hx
          split at hx
          · rename_i y hy; cases hx; exact hy
          · cases hx
        split at h
        · cases h
        rename_i xv hxv
        split at h
        · cases h
        rename_i cs hcs
        refine so_next hox ho hwa hxv hcs fun c hc v W₁ hp => ?_
        obtain ⟨r₁, h1, h2⟩ := bindN_mem h c hc
        simp only [hp] at h1
        split at h1
        · cases h1
        rename_i A₁ hput
        exact ⟨A₁, hput, (opsN_ok hT hih l (i + 1) A₁ W₁ r₁ hl' h1).mono fun A' W' hm => h2 _ hm⟩
      · split at h
        · rename_i g args W₁ hd hop
          split at h
          · split at h
            · cases h
            rename_i cl hcl
            refine so_call hT hd ho hwa hop ((hih.call _ _ _ _ hcl).mono fun v W₂ hm => ?_)
            obtain ⟨r₁, h1, h2⟩ := bindN_mem h _ hm
            simp only at h1
            split at h1
            · cases h1
            rename_i A₁ hput
            exact ⟨A₁, hput, (opsN_ok hT hih l (i + 1) A₁ W₂ r₁ hl' h1).mono fun A' W' hm => h2 _ hm⟩
          · split at h
            · cases h
            rename_i v W₂ hcl
            split at h
            · cases h
            rename_i A₁ hput
            exact so_call hT hd ho hwa hop (sf_ev hT hcl ⟨A₁, hput, opsN_ok hT hih l (i + 1) A₁ W₂ r hl' h⟩)
        · split at h
          · cases h
          rename_i v ds W₁ hop
          split at h
          · cases h
          rename_i A₁ hput
          exact so_ev hT ho hwa hop hput (opsN_ok hT hih l (i + 1) A₁ W₁ r hl' h)
theorem evN_ok {T : Tabs} {P : Program} (hT : T.Ok P) (m : Nat) (D : Tr Unit) : ∀ n, IhNOk T P (evN (ev T m) T D n)
  | 0 => ⟨fun _ _ _ _ _ h => (by cases h), fun _ _ _ _ _ h => (by cases h), fun _ _ _ _ h => (by cases h)⟩
  | n + 1 => by
    have hih := evN_ok hT m D n
    refine ⟨fun cx c A W l h => ?_, fun cx c A W l h => ?_, fun f args W l h => ?_⟩
    · simp only [evN, stepN] at h
      split at h
      · cases h; exact sc_skip (List.mem_singleton.2 rfl)
      · cases h; exact sc_label (List.mem_singleton.2 rfl)
      · cases h; exact sc_exit (List.mem_singleton.2 rfl)
      · cases h; exact sc_ret (List.mem_singleton.2 rfl)
      · split at h
        · cases h
        rename_i l₁ h1
        refine sc_seq ((hih.code _ _ _ _ _ h1).mono fun e A' W' hm => ?_)
        obtain ⟨r₁, h2, h3⟩ := bindN_mem h _ hm
        cases e with
        | normal => exact (hih.code _ _ _ _ _ h2).mono fun e A' W' hm => h3 _ hm
        | exit id => cases h2; exact h3 _ (List.mem_singleton.2 rfl)
        | ret => cases h2; exact h3 _ (List.mem_singleton.2 rfl)
      · split at h
        · rename_i hc; exact sc_cond hc (hih.code _ _ _ _ _ h)
        · rename_i hc; exact sc_cond hc (hih.code _ _ _ _ _ h)
        · cases h
      · split at h
        · cases h
        rename_i id b l₁ h1
        cases h
        refine sc_block ((hih.code _ _ _ _ _ h1).mono fun e A' W' hm => ?_)
        cases e with
        | normal => exact List.mem_map.2 ⟨_, hm, rfl⟩
        | exit id' =>
          simp only [leavesN]
          split
          · rename_i hb; exact List.mem_map.2 ⟨_, hm, by simp only [hb]⟩
          · rename_i hb; exact List.mem_map.2 ⟨_, hm, by simp only [hb]⟩
        | ret => exact List.mem_map.2 ⟨_, hm, rfl⟩
      · exact sc_loop (hih.loop _ _ _ _ _ h)
      · exact sc_scope (hih.code _ _ _ _ _ h)
      · split at h
        · rename_i ops l₁ h1
          cases h
          exact sc_region ((opsN_ok hT hih _ 0 A W l₁ (fun j => by simp) h1).mono fun A' W' hm => List.mem_map.2 ⟨_, hm, rfl⟩)
        · cases h
      · split at h
        · rename_i r hr
          cases h
          obtain ⟨e, A', W'⟩ := r
          exact sc_ev hT hr (List.mem_singleton.2 rfl)
        · cases h
    · simp only [evN, stepN] at h
      split at h
      · cases h
      rename_i l₁ h1
      refine sc_round ((hih.code _ _ _ _ _ h1).mono fun e A' W' hm => ?_)
      obtain ⟨r₁, h2, h3⟩ := bindN_mem h _ hm
      cases e with
      | normal => exact (hih.loop _ _ _ _ _ h2).mono fun e A' W' hm => h3 _ hm
      | exit id => cases h2; exact h3 _ (List.mem_singleton.2 rfl)
      | ret => cases h2; exact h3 _ (List.mem_singleton.2 rfl)
    · simp only [evN, stepN] at h
      split at h
      · cases h
      rename_i fn hf
      split at h
      · cases h
      rename_i c hb
      split at h
      · cases h
      rename_i l₁ h1
      refine sf_body hT (n := m) hf hb ((hih.code _ _ _ _ _ h1).mono fun e A' W' hm => ?_)
      obtain ⟨r₁, h2, h3⟩ := bindN_mem h _ hm
      have fin : (match (ev T m).defers A'.defers W' with
            | none => none
            | some W₂ => match aResults T W₂ A'.tmps fn.results.toList with
              | none => none
              | some l => some [(tupled l, W₂)]) = some r₁ → ∃ W'', (ev T m).defers A'.defers W' = some W'' ∧ ∃ l', aResults T W'' A'.tmps fn.results.toList = some l' ∧ (tupled l', W'') ∈ l := by
        intro h2
        split at h2
        · cases h2
        rename_i W₂ hdf
        split at h2
        · cases h2
        rename_i l' hl'
        cases h2
        exact ⟨W₂, hdf, l', hl', h3 _ (List.mem_singleton.2 rfl)⟩
      cases e with
      | exit id => cases h2
      | normal => exact ⟨.inl rfl, fin h2⟩
      | ret => exact ⟨.inr rfl, fin h2⟩
end Go.Eng

end
section
set_option linter.unusedSimpArgs false
set_option linter.unusedVariables false
namespace Go.Eng
theorem sf_calls {T : Tabs} {P : Program} {f : FuncId} {args : List Value} {W : AW} {R : Value → AW → Prop} (h : SF T P f args W R) {η : Env} {w : World} {args' : Array Value}
    (hw : WRel η W w) (hG : GRel T η) (ha : LR η args args'.toList) : Calls P f args' w fun e w' => ∃ η' v v' W', e = .returned v' ∧ R v W' ∧ Fr η W w η' W' w' ∧ WRel η' W' w' ∧ VR η' v v' := by
  intro cs
  obtain ⟨v, W', η', w', fr, v', hR, q1, q2, q3, q4, d1, d2, d3, d4, fn, d5, d6⟩ := h η w args' .normal cs hw hG ha (.inl rfl)
  exact ⟨.returned v', w', fr, ⟨η', v, v', W', rfl, hR, q1, q2, q3⟩, q4, d4, d1, d2, d3, fn, d4 ▸ d5, d6⟩
theorem sf_tables {T : Tabs} {P : Program} (hT : T.Ok P) {ts : List Table} {N : Nat} (hN : allB (fun t => Nat.blt t.name N) ts = true) (hfl : allB (fun t : Table => allB flat t.cells) ts = true) (hg : ∀ g u, T.globs.get g = some u → ∃ t, tableOf ts g = some t) {f : FuncId} {args : List Value} {v : Value}
    (h : SF T P f args ⟨tabWorld ts, N⟩ fun u _ => u = v) (hargs : allB flat args = true) (hv : flat v = true) {w : World} (hl : TabsRead ts w) :
    Calls P f args.toArray w fun e w' => e = .returned v ∧ Onto w w' := by
  let η : Env := fun g => match tableOf ts g with | some t => some (g, 0, 0) | none => none
  have hη : ∀ g e, η g = some e → ∃ t, tableOf ts g = some t ∧ e = (g, 0, 0) := by
    intro g e he
    simp only [η] at he
    split at he
    · rename_i t ht; cases he; exact ⟨t, ht, rfl⟩
    · cases he
  have hw : WRel η ⟨tabWorld ts, N⟩ w := by
    refine ⟨fun b k e hb he => ?_, fun b₁ b₂ k₁ k₂ e₁ e₂ h1 h2 h3 h4 h5 h6 => ?_, fun b e he => ?_, fun b e he => ?_⟩
    · obtain ⟨t, ht, rfl⟩ := hη b e he
      obtain ⟨t', ht', rfl⟩ := tabWorld_spec ts b k hb
      rw [ht] at ht'; cases ht'
      obtain ⟨hm, rfl⟩ := tableOf_spec ht
      obtain ⟨c, el, fz, g1, g2, g3⟩ := hl t hm
      refine ⟨_, g1, rfl, by simpa using g2, fun i u hi hu => ?_⟩
      rw [Tr.get_lay] at hu
      simp only [Nat.zero_le, Nat.zero_add, true_and, Nat.sub_zero] at hu
      rw [if_pos hi] at hu
      have hu' : t.cells[i] = u := by rw [List.getElem?_eq_getElem hi] at hu; exact Option.some.inj hu
      refine ⟨u, by simpa [hu'] using g3 i hi, flat_vr _ _ (allB_mem (allB_mem hfl t hm) u (List.mem_of_getElem? hu))⟩
    · obtain ⟨t, _, rfl⟩ := hη _ _ h3
      obtain ⟨t', _, rfl⟩ := hη _ _ h4
      exact absurd h5 h6
    · obtain ⟨t, ht, rfl⟩ := hη b e he
      obtain ⟨hm, rfl⟩ := tableOf_spec ht
      have := allB_mem hN t hm
      rwa [Nat.blt_eq] at this
    · obtain ⟨t, ht, rfl⟩ := hη b e he
      obtain ⟨hm, rfl⟩ := tableOf_spec ht
      obtain ⟨c, el, fz, g1, _⟩ := hl t hm
      exact (Array.getElem?_eq_some_iff.1 g1).1
  have hG : GRel T η := fun g u hu => by
    obtain ⟨t, ht⟩ := hg g u hu
    exact ⟨0, by simp only [η, ht]⟩
  have ha : LR η args args := ⟨rfl, fun i x x' h1 h2 => by
    rw [h1] at h2; cases h2
    exact flat_vr _ _ (allB_mem hargs x (List.mem_of_getElem? h1))⟩
  intro cs
  obtain ⟨e, w', fr, ⟨η', v₁, v', W', rfl, rfl, q1, q2, q3⟩, r1, r2⟩ := sf_calls h hw hG (args' := args.toArray) (by simpa using ha) cs
  have hv' := flat_eq hv q3
  subst hv'
  refine ⟨_, w', fr, ⟨rfl, q1.size, fun r hr => q1.keep r hr (fun b e he hz => ?_), q1.froz, q1.tape, q1.os, q1.output⟩, r1, r2⟩
  obtain ⟨t, _, rfl⟩ := hη b e he
  exact absurd rfl hz
def memoRunN (T : Tabs) (D : Tr Unit) (N m n : Nat) (x : Memo) : Bool :=
  match allB (fun t => Nat.blt t.name N) T.tabs, allB (fun t : Table => allB flat t.cells) T.tabs, allB flat x.args, flat x.ans, (evN (ev T m) T D n).call x.f x.args ⟨tabWorld T.tabs, N⟩ with
  | true, true, true, true, some l => allB (fun y : Value × AW => valEq y.1 x.ans) l
  | _, _, _, _, _ => false
theorem Memo.holds_of_runN {T : Tabs} {P : Program} (hT : T.Ok P) (hg : globsIn T.tabs T.globs) {D : Tr Unit} {N m n : Nat} {x : Memo} (h : memoRunN T D N m n x = true) : x.Holds P T.tabs := by
  unfold memoRunN at h
  split at h
  · rename_i l h4 h5 h1 h2 h3
    exact ⟨h1, h2, fun w hw => sf_tables hT h4 h5 hg (((evN_ok hT m D n).call _ _ _ _ h3).mono fun v W' hm => valEq_sound _ _ (allB_mem h _ hm)) h1 h2 hw⟩
  · cases h
end Go.Eng

end
section
set_option linter.unusedSimpArgs false
set_option linter.unusedVariables false
namespace Go.Eng
structure Joint where
  tmps : List (Nat × Value)
  n : Nat
  rows : List (Nat × List Value × TypeId)
  next : Nat
def setL : List (Nat × Value) → Tr Value
  | [] => .nil
  | (i, v) :: l => (setL l).set i v
def Joint.A (L : Joint) : AAct := ⟨setL L.tmps, L.n, []⟩
def rowsL (ts : List Table) : List (Nat × List Value × TypeId) → Tr ABlk
  | [] => tabWorld ts
  | (b, l, el) :: r => (rowsL ts r).set b ⟨.cells (Tr.nil.lay 0 l) l.length el, []⟩
def Joint.W (ts : List Table) (L : Joint) : AW := ⟨rowsL ts L.rows, L.next⟩
def tmpsIn (t : Tr Value) : List (Nat × Value) → Bool
  | [] => true
  | (i, v) :: l => match t.get i with
    | some u => match valEq u v with
      | true => tmpsIn t l
      | false => false
    | none => false
def rowsIn (W : AW) : List (Nat × List Value × TypeId) → Bool
  | [] => true
  | (b, l, el) :: r => match W.blocks.get b with
    | some ⟨.cells c n el', []⟩ => match Nat.beq n l.length, Nat.beq el' el, c.take 0 l.length with
      | true, true, some m => match listEq m l with
        | true => rowsIn W r
        | false => false
      | _, _, _ => false
    | _ => false
def tabsLie (W : AW) : List Table → Bool
  | [] => true
  | t :: ts => match W.blocks.get t.name with
    | some ⟨.ro c n _, []⟩ => match Nat.ble t.cells.length n, c.take 0 t.cells.length with
      | true, some l => match listEq l t.cells with
        | true => tabsLie W ts
        | false => false
      | _, _ => false
    | _ => false
def Joint.lies (ts : List Table) (L : Joint) : AExit × AAct × AW → Bool
  | (.normal, A, W) => match A.defers with
    | [] => match Nat.beq A.n L.n, Nat.beq W.next L.next, tmpsIn A.tmps L.tmps with
      | true, true, true => match rowsIn W L.rows, tabsLie W ts with
        | true, true => true
        | _, _ => false
      | _, _, _ => false
    | _ => false
  | _ => false
theorem setL_get : ∀ {l : List (Nat × Value)} {i : Nat} {v : Value}, (setL l).get i = some v → (i, v) ∈ l
  | [], i, v, h => by rw [show setL [] = .nil from rfl, Tr.get_nil] at h; cases h
  | (j, u) :: l, i, v, h => by
    simp only [setL, Tr.get_set] at h
    split at h
    · rename_i e; cases h; subst e; exact List.mem_cons_self ..
    · exact List.mem_cons_of_mem _ (setL_get h)
theorem tmpsIn_spec {t : Tr Value} : ∀ {l : List (Nat × Value)}, tmpsIn t l = true → ∀ i v, (i, v) ∈ l → t.get i = some v
  | (j, u) :: l, h, i, v, hm => by
    simp only [tmpsIn] at h
    split at h
    · rename_i x hx
      split at h
      · rename_i hb
        cases hm with
        | head => rw [hx, valEq_sound _ _ hb]
        | tail _ hm => exact tmpsIn_spec h i v hm
      · cases h
    · cases h
theorem rowsIn_spec {W : AW} : ∀ {l : List (Nat × List Value × TypeId)}, rowsIn W l = true → ∀ b r el, (b, r, el) ∈ l → ∃ c, W.blocks.get b = some ⟨.cells c r.length el, []⟩ ∧ ∀ i, i < r.length → c.get i = r[i]?
  | (b', r', el') :: l, h, b, r, el, hm => by
    simp only [rowsIn] at h
    split at h
    · rename_i c n el'' hb
      split at h
      · rename_i m h1 h2 h3
        split at h
        · rename_i hq
          cases hm with
          | head =>
            obtain rfl := Nat.eq_of_beq_eq_true h1
            obtain rfl := Nat.eq_of_beq_eq_true h2
            obtain ⟨t1, t2⟩ := Tr.take_spec c _ 0 m h3
            have hq := listEq_sound _ _ hq
            refine ⟨c, hb, fun i hi => ?_⟩
            have := t2 i hi
            rwa [Nat.zero_add, hq] at this
          | tail _ hm => exact rowsIn_spec h b r el hm
        · cases h
      · cases h
    · cases h
theorem tabsLie_spec {W : AW} : ∀ {ts : List Table}, tabsLie W ts = true → ∀ t ∈ ts, ∃ c n el, W.blocks.get t.name = some ⟨.ro c n el, []⟩ ∧ t.cells.length ≤ n ∧ ∀ i, i < t.cells.length → c.get i = t.cells[i]?
  | t' :: ts, h, t, hm => by
    simp only [tabsLie] at h
    split at h
    · rename_i c n el hb
      split at h
      · rename_i l h1 h3
        split at h
        · rename_i hq
          cases hm with
          | head =>
            have h1 := Nat.le_of_ble_eq_true h1
            obtain ⟨t1, t2⟩ := Tr.take_spec c _ 0 l h3
            have hq := listEq_sound _ _ hq
            refine ⟨c, n, el, hb, h1, fun i hi => ?_⟩
            have := t2 i hi
            rwa [Nat.zero_add, hq] at this
          | tail _ hm => exact tabsLie_spec h t hm
        · cases h
      · cases h
    · cases h
theorem rowsL_get {ts : List Table} : ∀ {l : List (Nat × List Value × TypeId)} {b : Nat} {k : ABlk}, (rowsL ts l).get b = some k → (∃ r el, (b, r, el) ∈ l ∧ k = ⟨.cells (Tr.nil.lay 0 r) r.length el, []⟩) ∨ (tabWorld ts).get b = some k
  | [], b, k, h => .inr h
  | (b', r, el) :: l, b, k, h => by
    simp only [rowsL, Tr.get_set] at h
    split at h
    · rename_i e; cases h; subst e; exact .inl ⟨r, el, List.mem_cons_self .., rfl⟩
    · rcases rowsL_get h with ⟨r, el, h1, h2⟩ | h1
      · exact .inl ⟨r, el, List.mem_cons_of_mem _ h1, h2⟩
      · exact .inr h1
theorem lay_get {r : List Value} {i : Nat} {v : Value} (h : (Tr.nil.lay 0 r : Tr Value).get i = some v) (hi : i < r.length) : r[i]? = some v := by
  rw [Tr.get_lay] at h
  simp only [Nat.zero_le, Nat.zero_add, true_and, Nat.sub_zero] at h
  rwa [if_pos hi] at h
theorem Joint.relW {ts : List Table} {L : Joint} {A : AAct} {W : AW} (h : L.lies ts (.normal, A, W) = true) {η : Env} {w : World} (hw : WRel η W w) : WRel η (L.W ts) w ∧ W.next = L.next := by
  simp only [Joint.lies] at h
  split at h
  case h_2 => cases h
  rename_i hd
  split at h
  case h_2 => cases h
  rename_i h1 h2 h3
  split at h
  case h_2 => cases h
  rename_i h4 h5
  have hn := Nat.eq_of_beq_eq_true h2
  have hkin : ∀ b k, (L.W ts).blocks.get b = some k → ∃ k', W.blocks.get b = some k' ∧ k'.kin = [] ∧ ∀ η e o, ORel η k'.obj e o → ORel η k.obj e o := by
    intro b k hb
    rcases rowsL_get hb with ⟨r, el, hm, rfl⟩ | hb
    · obtain ⟨c, q1, q2⟩ := rowsIn_spec h4 b r el hm
      refine ⟨_, q1, rfl, fun η e o ho => ?_⟩
      cases o with
      | cells c' el' fz =>
        obtain ⟨g1, g2, g3, g4, g5⟩ := ho
        refine ⟨g1, g2, g3, g4, fun i v hi hv => ?_⟩
        exact g5 i v hi (by rw [q2 i hi]; exact lay_get hv hi)
      | _ => exact ho.elim
    · obtain ⟨t, ht, rfl⟩ := tabWorld_spec ts b k hb
      obtain ⟨hm, rfl⟩ := tableOf_spec ht
      obtain ⟨c, n, el, q1, q2, q3⟩ := tabsLie_spec h5 t hm
      refine ⟨_, q1, rfl, fun η e o ho => ?_⟩
      cases o with
      | cells c' el' fz =>
        obtain ⟨g1, g2, g3⟩ := ho
        refine ⟨g1, by omega, fun i v hi hv => ?_⟩
        exact g3 i v (by omega) (by rw [q3 i hi]; exact lay_get hv hi)
      | _ => exact ho.elim
  refine ⟨⟨fun b k e hb he => ?_, fun b₁ b₂ k₁ k₂ e₁ e₂ g1 g2 x1 x2 hee hne => ?_, fun b e he => ?_, hw.inHeap⟩, hn⟩
  · obtain ⟨k', q1, q2, q3⟩ := hkin b k hb
    obtain ⟨o, h1, h2⟩ := hw.obj b k' e q1 he
    exact ⟨o, h1, q3 η e o h2⟩
  · obtain ⟨k₁', q1, q2, q3⟩ := hkin b₁ k₁ g1
    obtain ⟨k₂', p1, p2, p3⟩ := hkin b₂ k₂ g2
    obtain ⟨f, hf, _⟩ := hw.apart b₁ b₂ k₁' k₂' e₁ e₂ q1 p1 x1 x2 hee hne
    rw [q2] at hf; cases hf
  · show b < L.next
    rw [← hn]; exact hw.next b e he
theorem Joint.relA {ts : List Table} {L : Joint} {A : AAct} {W : AW} (h : L.lies ts (.normal, A, W) = true) {η : Env} {a : Act} (ha : ARel η A a) : ARel η L.A a := by
  simp only [Joint.lies] at h
  split at h
  case h_2 => cases h
  rename_i hd
  split at h
  case h_2 => cases h
  rename_i h1 h2 h3
  have h1 := Nat.eq_of_beq_eq_true h1
  refine ⟨⟨by rw [ha.1.1]; exact h1, fun i v hv => ?_⟩, ?_⟩
  · exact ha.1.2 i v (tmpsIn_spec h3 i v (setL_get hv))
  · have := ha.2; rw [hd] at this; exact this
theorem Joint.go {T : Tabs} {P : Program} {cx : Cx} {pre : List Item → List Item} {L : Joint} {A : AAct} {W : AW} {Q : AExit → AAct → AW → Prop} {ts : List Table} (h : L.lies ts (.normal, A, W) = true) (hs : SC T P cx pre L.A (L.W ts) Q) : SC T P cx pre A W Q := by
  intro η w a b k cs hw hG ha hf hro hk
  obtain ⟨g1, g2⟩ := Joint.relW h hw
  obtain ⟨e, A', W', η', a', w', hq, q1, q2⟩ := hs η w a b k cs g1 hG (Joint.relA h ha) hf hro hk
  exact ⟨e, A', W', η', a', w', hq, ⟨q1.le, q1.size, q1.keep, q1.new, q1.froz, q1.tape, q1.os, q1.output, by rw [g2]; exact q1.next, fun b e he => by rw [g2]; exact q1.fresh b e he, q1.sort⟩, q2⟩
def pieceOk (T : Tabs) (D : Tr Unit) (m n : Nat) (cx : Cx) (c : Code) (L L' : Joint) : Bool :=
  match (evN (ev T m) T D n).code cx c L.A (L.W T.tabs) with
  | some l => allB (L'.lies T.tabs) l
  | none => false
theorem piece {T : Tabs} {P : Program} (hT : T.Ok P) {D : Tr Unit} {m n : Nat} {cx : Cx} {c d : Code} {L L' : Joint} {Q : AExit → AAct → AW → Prop} (h : pieceOk T D m n cx c L L' = true)
    (hs : SC T P cx (fun k => .code d :: k) L'.A (L'.W T.tabs) Q) : SC T P cx (fun k => .code (.seq c d) :: k) L.A (L.W T.tabs) Q := by
  unfold pieceOk at h
  split at h
  · rename_i l hl
    refine sc_seq (((evN_ok hT m D n).code _ _ _ _ _ hl).mono fun e A' W' hm => ?_)
    have hlie := allB_mem h _ hm
    cases e with
    | normal => exact Joint.go hlie hs
    | exit id => cases hlie
    | ret => cases hlie
  · cases h
def lastOk (T : Tabs) (D : Tr Unit) (m n : Nat) (cx : Cx) (c : Code) (rs : List ResultVar) (L : Joint) (ans : Value) : Bool :=
  match (evN (ev T m) T D n).code cx c L.A (L.W T.tabs) with
  | some l => allB (fun r : AExit × AAct × AW => match r with
    | (.exit _, _, _) => false
    | (_, A, W) => match (ev T m).defers A.defers W with
      | none => false
      | some W₂ => match aResults T W₂ A.tmps rs with
        | none => false
        | some l => valEq (tupled l) ans) l
  | none => false
theorem lastPiece {T : Tabs} {P : Program} (hT : T.Ok P) {D : Tr Unit} {m n : Nat} {cx : Cx} {c : Code} {rs : List ResultVar} {L : Joint} {ans : Value} (h : lastOk T D m n cx c rs L ans = true) :
    SC T P cx (fun k => .code c :: k) L.A (L.W T.tabs) fun e A' W' => (e = .normal ∨ e = .ret) ∧ ∃ W'', (ev T m).defers A'.defers W' = some W'' ∧ ∃ l, aResults T W'' A'.tmps rs = some l ∧ tupled l = ans := by
  unfold lastOk at h
  split at h
  · rename_i l hl
    refine ((evN_ok hT m D n).code _ _ _ _ _ hl).mono fun e A' W' hm => ?_
    have hlie := allB_mem h _ hm
    have fin : (match (ev T m).defers A'.defers W' with
      | none => false
      | some W₂ => match aResults T W₂ A'.tmps rs with
        | none => false
        | some l => valEq (tupled l) ans) = true → ∃ W'', (ev T m).defers A'.defers W' = some W'' ∧ ∃ l, aResults T W'' A'.tmps rs = some l ∧ tupled l = ans := by
      intro h2
      split at h2
      · cases h2
      rename_i W₂ hdf
      split at h2
      · cases h2
      rename_i l' hl'
      exact ⟨W₂, hdf, l', hl', valEq_sound _ _ h2⟩
    cases e with
    | exit id => cases hlie
    | normal => exact ⟨.inl rfl, fin hlie⟩
    | ret => exact ⟨.inr rfl, fin hlie⟩
  · cases h
theorem Memo.holds_of_pieces {T : Tabs} {P : Program} (hT : T.Ok P) (hg : globsIn T.tabs T.globs) {m N : Nat} {f : FuncId} {fn : Func} {c : Code} {ans : Value} {L : Joint} (hf : T.funcs.get f = some fn) (hb : fn.body = some c)
    (hL : L = ⟨[], max fn.ntmps 0, [], N⟩) (h0 : allB (fun t => Nat.blt t.name N) T.tabs = true) (h1 : allB (fun t : Table => allB flat t.cells) T.tabs = true) (h2 : flat ans = true)
    (h : SC T P ⟨f, none⟩ (fun k => .code c :: k) L.A (L.W T.tabs) fun e A' W' => (e = .normal ∨ e = .ret) ∧ ∃ W'', (ev T m).defers A'.defers W' = some W'' ∧ ∃ l, aResults T W'' A'.tmps fn.results.toList = some l ∧ tupled l = ans) : Memo.Holds P T.tabs ⟨f, [], ans⟩ := by
  refine ⟨rfl, h2, fun w hw => sf_tables (N := N) hT h0 h1 hg (sf_body hT (n := m) hf hb ?_) rfl h2 hw⟩
  subst hL
  exact h
end Go.Eng

end