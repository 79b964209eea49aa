import Derived.Test.YtdpnplanohgecaaDoorEngZ
set_option linter.unusedSimpArgs false
set_option linter.unusedVariables false
set_option linter.unusedSectionVars false
namespace Go.Eng
def Evt {α : Type} (p : Nat -> Option α) (r : α) : Prop := ∃ N, ∀ n, N <= n -> p n = some r
theorem Evt.shift {α : Type} {p : Nat -> Option α} {r : α} {N : Nat} (h : ∀ n, N <= n -> p (n + 1) = some r) : Evt p r := by
 refine ⟨N + 1, fun n hn => ?_⟩
 cases n with
 | zero => omega
 | succ m => exact h m (by omega)
theorem aOper_nd {ih : Ih} {T : Tabs} {ro : Option Nat} {o : Oper} {f : Tmp -> Option Value} {W : AW} (hd : isDefer o.op = false) : aOper ih T ro o f W = match aOp T W (aEvalF T f) o with
  | some (.value v, W') => some (v, [], W')
  | some (.skip, W') => some (undef, [], W')
  | some (.enter g args, W') => match shortOf T g args with
   | some v => match tabsIn T T.tabs W' with
    | true => some (v, [], W')
    | false => none
   | none => match ih.call g args W' with
    | some (v, W'') => some (v, [], W'')
    | none => none
  | some (.round l fn tm n as bd, W') => match ih.round l fn tm n as bd W' with
   | some (v, W'') => some (v, [], W'')
   | none => none
  | some (.defer d, W') => some (undef, [d], W')
  | some (.recover, W') => match ro with
   | none => some (.nilIface, [], W')
   | some _ => none
  | none => none := by
 unfold aOper
 rw [hd]
 cases ro <;> rfl
def WpC (T : Tabs) (cx : Cx) (c : Code) (A : AAct) (W : AW) (Q : AExit -> AAct -> AW -> Prop) : Prop :=
 ∃ e A' W', Evt (fun n => (ev T n).code cx c A W) (e, A', W') /\ Q e A' W'
def WpL (T : Tabs) (cx : Cx) (c : Code) (A : AAct) (W : AW) (Q : AExit -> AAct -> AW -> Prop) : Prop :=
 ∃ e A' W', Evt (fun n => (ev T n).loop cx c A W) (e, A', W') /\ Q e A' W'
def WpF (T : Tabs) (f : FuncId) (args : List Value) (W : AW) (Q : Value -> AW -> Prop) : Prop :=
 ∃ v W', Evt (fun n => (ev T n).call f args W) (v, W') /\ Q v W'
def WpR (T : Tabs) (l : Nat) (fn : FuncId) (t : Tr Value) (n : Nat) (as bd : Code) (W : AW) (Q : Value -> AW -> Prop) : Prop :=
 ∃ v W', Evt (fun m => (ev T m).round l fn t n as bd W) (v, W') /\ Q v W'
def WpO (T : Tabs) (ro : Option Nat) (all rest : List Oper) (A : AAct) (W : AW) (Q : AAct -> AW -> Prop) : Prop :=
 ∃ A' W', Evt (fun n => aOps (ev T n) T ro all rest A W) (A', W') /\ Q A' W'
section rules
variable {T : Tabs} {cx : Cx} {A : AAct} {W : AW} {Q : AExit -> AAct -> AW -> Prop}
theorem WpC.mono {c : Code} {Q' : AExit -> AAct -> AW -> Prop} (h : WpC T cx c A W Q) (hq : ∀ e A' W', Q e A' W' -> Q' e A' W') : WpC T cx c A W Q' := by
 obtain ⟨e, A', W', h1, h2⟩ := h; exact ⟨e, A', W', h1, hq _ _ _ h2⟩
theorem WpF.mono {f : FuncId} {args : List Value} {Q Q' : Value -> AW -> Prop} (h : WpF T f args W Q) (hq : ∀ v W', Q v W' -> Q' v W') : WpF T f args W Q' := by
 obtain ⟨v, W', h1, h2⟩ := h; exact ⟨v, W', h1, hq _ _ h2⟩
def behind (Q : AExit -> AAct -> AW -> Prop) (next : AAct -> AW -> Prop) : AExit -> AAct -> AW -> Prop
 | .normal => next
 | .exit id => Q (.exit id)
 | .ret => Q .ret
theorem wpC_seq {a b : Code} (h : WpC T cx a A W (behind Q fun A' W' => WpC T cx b A' W' Q)) : WpC T cx (.seq a b) A W Q := by
 obtain ⟨e, A', W', ⟨N, h1⟩, h2⟩ := h
 cases e with
 | normal =>
  obtain ⟨e2, A2, W2, ⟨M, g1⟩, g2⟩ := h2
  exact ⟨e2, A2, W2, Evt.shift (N := max N M) (fun n hn => by
   show (evStep T (ev T n)).code cx (.seq a b) A W = _
   simp only [evStep, h1 n (by omega)]; exact g1 n (by omega)), g2⟩
 | exit id =>
  exact ⟨_, A', W', Evt.shift (N := N) (fun n hn => by
   show (evStep T (ev T n)).code cx (.seq a b) A W = _
   simp only [evStep, h1 n hn]), h2⟩
 | ret =>
  exact ⟨_, A', W', Evt.shift (N := N) (fun n hn => by
   show (evStep T (ev T n)).code cx (.seq a b) A W = _
   simp only [evStep, h1 n hn]), h2⟩
theorem wpC_skip (h : Q .normal A W) : WpC T cx .skip A W Q := ⟨_, _, _, Evt.shift (N := 0) (fun _ _ => rfl), h⟩
theorem wpC_label {l : Nat} (h : Q .normal A W) : WpC T cx (.label l) A W Q := ⟨_, _, _, Evt.shift (N := 0) (fun _ _ => rfl), h⟩
theorem wpC_exit {id : Nat} (h : Q (.exit id) A W) : WpC T cx (.exit id) A W Q := ⟨_, _, _, Evt.shift (N := 0) (fun _ _ => rfl), h⟩
theorem wpC_ret (h : Q .ret A W) : WpC T cx .ret A W Q := ⟨_, _, _, Evt.shift (N := 0) (fun _ _ => rfl), h⟩
theorem wpC_cond {c : Operand} {x y : Code} {b : Bool} (hc : aEval T A.tmps c = some (.bool b)) (h1 : b = true -> WpC T cx x A W Q) (h2 : b = false -> WpC T cx y A W Q) : WpC T cx (.cond c x y) A W Q := by
 cases b with
 | true =>
  obtain ⟨e, A', W', ⟨N, g1⟩, g2⟩ := h1 rfl
  exact ⟨e, A', W', Evt.shift (N := N) (fun n hn => by
   show (evStep T (ev T n)).code cx (.cond c x y) A W = _
   simp only [evStep, hc]; exact g1 n hn), g2⟩
 | false =>
  obtain ⟨e, A', W', ⟨N, g1⟩, g2⟩ := h2 rfl
  exact ⟨e, A', W', Evt.shift (N := N) (fun n hn => by
   show (evStep T (ev T n)).code cx (.cond c x y) A W = _
   simp only [evStep, hc]; exact g1 n hn), g2⟩
def leaves (id : Nat) (Q : AExit -> AAct -> AW -> Prop) : AExit -> AAct -> AW -> Prop
 | .normal => Q .normal
 | .exit id' => fun A W => match Nat.beq id' id with
  | true => Q .normal A W
  | false => Q (.exit id') A W
 | .ret => Q .ret
theorem wpC_block {id : Nat} {b : Code} (h : WpC T cx b A W (leaves id Q)) : WpC T cx (.block id b) A W Q := by
 obtain ⟨e, A', W', ⟨N, h1⟩, h2⟩ := h
 cases e with
 | normal =>
  exact ⟨_, A', W', Evt.shift (N := N) (fun n hn => by
   show (evStep T (ev T n)).code cx (.block id b) A W = _
   simp only [evStep, h1 n hn]), h2⟩
 | exit id' =>
  simp only [leaves] at h2
  cases hb : Nat.beq id' id
  ·rw [hb] at h2
   exact ⟨_, A', W', Evt.shift (N := N) (fun n hn => by
    show (evStep T (ev T n)).code cx (.block id b) A W = _
    simp only [evStep, h1 n hn, hb]), h2⟩
  ·rw [hb] at h2
   exact ⟨_, A', W', Evt.shift (N := N) (fun n hn => by
    show (evStep T (ev T n)).code cx (.block id b) A W = _
    simp only [evStep, h1 n hn, hb]), h2⟩
 | ret =>
  exact ⟨_, A', W', Evt.shift (N := N) (fun n hn => by
   show (evStep T (ev T n)).code cx (.block id b) A W = _
   simp only [evStep, h1 n hn]), h2⟩
theorem wpC_loop {b : Code} (h : WpL T cx b A W Q) : WpC T cx (.loop b) A W Q := by
 obtain ⟨e, A', W', ⟨N, h1⟩, h2⟩ := h
 exact ⟨e, A', W', Evt.shift (N := N) (fun n hn => h1 n hn), h2⟩
theorem wpL_step {b : Code} (h : WpC T cx b A W (behind Q fun A' W' => WpL T cx b A' W' Q)) : WpL T cx b A W Q := by
 obtain ⟨e, A', W', ⟨N, h1⟩, h2⟩ := h
 cases e with
 | normal =>
  obtain ⟨e2, A2, W2, ⟨M, g1⟩, g2⟩ := h2
  exact ⟨e2, A2, W2, Evt.shift (N := max N M) (fun n hn => by
   show (evStep T (ev T n)).loop cx b A W = _
   simp only [evStep, h1 n (by omega)]; exact g1 n (by omega)), g2⟩
 | exit id =>
  exact ⟨_, A', W', Evt.shift (N := N) (fun n hn => by
   show (evStep T (ev T n)).loop cx b A W = _
   simp only [evStep, h1 n hn]), h2⟩
 | ret =>
  exact ⟨_, A', W', Evt.shift (N := N) (fun n hn => by
   show (evStep T (ev T n)).loop cx b A W = _
   simp only [evStep, h1 n hn]), h2⟩
theorem wpL_inv {b : Code} (I : Nat -> AAct -> AW -> Prop) (hI : ∀ k A W, I k A W -> WpC T cx b A W (behind Q fun A' W' => ∃ k', k' < k /\ I k' A' W')) {k : Nat} (h : I k A W) : WpL T cx b A W Q := by
 induction k using Nat.strongRecOn generalizing A W with
 | _ k ih =>
  refine wpL_step ((hI k A W h).mono fun e A' W' hq => ?_)
  cases e with
  | normal => obtain ⟨k', h1, h2⟩ := hq; exact ih k' h1 h2
  | exit id => exact hq
  | ret => exact hq
theorem wpC_scope {b : Code} (h : WpC T cx b A W Q) : WpC T cx (.scope b) A W Q := by
 obtain ⟨e, A', W', ⟨N, h1⟩, h2⟩ := h
 exact ⟨e, A', W', Evt.shift (N := N) (fun n hn => h1 n hn), h2⟩
theorem wpC_region {i : Nat} {ops : Array Oper} (h : WpO T cx.ro ops.toList ops.toList A W (fun A' W' => Q .normal A' W')) : WpC T cx (.region i ops false) A W Q := by
 obtain ⟨A', W', ⟨N, h1⟩, h2⟩ := h
 exact ⟨.normal, A', W', Evt.shift (N := N) (fun n hn => by
  show (evStep T (ev T n)).code cx (.region i ops false) A W = _
  simp only [evStep, h1 n hn]), h2⟩
theorem wpC_draw {i : Nat} {ops : Array Oper} (h : ∃ A' W', Evt (fun n => aDraw (ev T n) T cx.ro ops.toList A W) (A', W') /\ Q .normal A' W') : WpC T cx (.region i ops true) A W Q := by
 obtain ⟨A', W', ⟨N, h1⟩, h2⟩ := h
 exact ⟨.normal, A', W', Evt.shift (N := N) (fun n hn => by
  show (evStep T (ev T n)).code cx (.region i ops true) A W = _
  simp only [evStep, h1 n hn]), h2⟩
section ops
variable {ro : Option Nat} {all rest : List Oper} {o : Oper} {R : AAct -> AW -> Prop}
theorem wpO_nil (h : R A W) : WpO T ro all [] A W R := ⟨A, W, ⟨0, fun _ _ => rfl⟩, h⟩
end ops
abbrev Kont := AAct -> AW -> (AAct -> AW -> Prop) -> Prop
def gotS (K : Kont) (W : AW) (R : AAct -> AW -> Prop) : Option AAct -> Prop
 | some A' => K A' W R
 | none => False
def onlyIf : Bool -> Prop -> Prop
 | true, p => p
 | false, _ => False
@[simp] theorem onlyIf_true {p : Prop} : onlyIf true p = p := rfl
def callS (T : Tabs) (K : Kont) (A : AAct) (W : AW) (R : AAct -> AW -> Prop) (dst : Option Tmp) (g : FuncId) (args : List Value) : Option Value -> Prop
 | some v => onlyIf (tabsIn T T.tabs W) (gotS K W R (A.put dst v))
 | none => WpF T g args W (fun v W' => gotS K W' R (A.put dst v))
def nextS (T : Tabs) (K : Kont) (A : AAct) (R : AAct -> AW -> Prop) (dst : Option Tmp) : Option (ANext × AW) -> Prop
 | some (.value v, W) => gotS K W R (A.put dst v)
 | some (.skip, W) => gotS K W R (A.put dst undef)
 | some (.enter g args, W) => callS T K A W R dst g args (shortOf T g args)
 | some (.round l fn t n as bd, W) => WpR T l fn t n as bd W (fun v W' => gotS K W' R (A.put dst v))
 | _ => False
def wantS (T : Tabs) (K : Kont) (o : Oper) (A : AAct) (W : AW) (R : AAct -> AW -> Prop) : Option Bool -> Prop
 | some true => nextS T K A R o.dst (aOp T W (aEvalF T A.tmps.get) o)
 | some false => gotS K W R (A.put o.dst undef)
 | none => False
def undef? (b : Bool) (p : Prop) : Prop := match b with
 | true => False
 | false => p
def WpS (T : Tabs) (all : List Oper) : List Oper -> Kont
 | [], A, W, R => R A W
 | o :: rest, A, W, R => undef? (isDefer o.op) (wantS T (WpS T all rest) o A W R (aWanted all o A.tmps.get))
theorem wpO_of_S {ro : Option Nat} {all : List Oper} {R : AAct -> AW -> Prop} : ∀ {rest : List Oper} {A : AAct} {W : AW}, WpS T all rest A W R -> WpO T ro all rest A W R
 | [], _, _, h => wpO_nil h
 | o :: rest, A, W, h => by
  simp only [WpS] at h
  unfold undef? at h
  split at h
  ·exact h.elim
  rename_i hd
  have put : ∀ {v : Value} {W₁ : AW}, gotS (WpS T all rest) W₁ R (A.put o.dst v) -> ∃ A₁, A.put o.dst v = some A₁ /\ WpO T ro all rest A₁ W₁ R := by
   intro v W₁ h
   unfold gotS at h
   split at h
   ·rename_i A₁ h1; exact ⟨A₁, h1, wpO_of_S h⟩
   ·exact h.elim
  cases hw : aWanted all o A.tmps.get with
  | none => rw [hw] at h; exact h.elim
  | some b =>
   rw [hw] at h
   cases b with
   | false =>
    obtain ⟨A₁, h1, A', W', ⟨N, h2⟩, h3⟩ := put h
    exact ⟨A', W', ⟨N, fun n hn => by simp only [aOps, hw, h1]; exact h2 n hn⟩, h3⟩
   | true =>
    simp only [wantS] at h
    have hop := fun ih : Ih => aOper_nd (ih := ih) (T := T) (ro := ro) (W := W) (f := A.tmps.get) hd
    generalize aOp T W (aEvalF T A.tmps.get) o = r at h hop
    have fin : ∀ {v : Value} {W₁ : AW}, gotS (WpS T all rest) W₁ R (A.put o.dst v) -> (∃ N, ∀ n, N <= n -> aOper (ev T n) T ro o A.tmps.get W = some (v, [], W₁)) -> WpO T ro all (o :: rest) A W R := by
     intro v W₁ h ⟨M, hM⟩
     obtain ⟨A₁, h1, A', W', ⟨N, h2⟩, h3⟩ := put h
     exact ⟨A', W', ⟨max N M, fun n hn => by simp only [aOps, hw, hM n (by omega), List.nil_append, h1]; exact h2 n (by omega)⟩, h3⟩
    match r, h, hop with
    | some (.value v, W₁), h, hop => exact fin h ⟨0, fun n _ => hop _⟩
    | some (.skip, W₁), h, hop => exact fin h ⟨0, fun n _ => hop _⟩
    | some (.enter g args, W₁), h, hop =>
     simp only [nextS] at h
     cases hs : shortOf T g args with
     | some v =>
      rw [hs] at h
      simp only [callS] at h
      cases ht : tabsIn T T.tabs W₁ with
      | false => rw [ht] at h; exact h.elim
      | true =>
       rw [ht] at h
       exact fin h ⟨0, fun n _ => by rw [hop]; simp only [hs, ht]⟩
     | none =>
      rw [hs] at h
      obtain ⟨v, W₂, ⟨M, g1⟩, g2⟩ := h
      exact fin g2 ⟨M, fun n hn => by rw [hop]; simp only [hs, g1 n hn]⟩
    | some (.round l fn t n as bd, W₁), h, hop =>
     obtain ⟨v, W₂, ⟨M, g1⟩, g2⟩ := h
     exact fin g2 ⟨M, fun n hn => by rw [hop]; simp only [g1 n hn]⟩
    | some (.defer _, W₁), h, _ => exact h.elim
    | some (.recover, W₁), h, _ => exact h.elim
    | none, h, _ => exact h.elim
def condS (K1 K2 : Prop) : Option Value -> Prop
 | some (.bool true) => K1
 | some (.bool false) => K2
 | _ => False
def WpK (T : Tabs) (cx : Cx) : Code -> AAct -> AW -> (AExit -> AAct -> AW -> Prop) -> Prop
 | .skip, A, W, Q => Q .normal A W
 | .label _, A, W, Q => Q .normal A W
 | .exit id, A, W, Q => Q (.exit id) A W
 | .ret, A, W, Q => Q .ret A W
 | .seq a b, A, W, Q => WpK T cx a A W (behind Q fun A' W' => WpK T cx b A' W' Q)
 | .cond c x y, A, W, Q => condS (WpK T cx x A W Q) (WpK T cx y A W Q) (aEval T A.tmps c)
 | .block id b, A, W, Q => WpK T cx b A W (leaves id Q)
 | .loop b, A, W, Q => WpL T cx b A W Q
 | .region _ ops false, A, W, Q => WpS T ops.toList ops.toList A W (Q .normal)
 | .scope b, A, W, Q => WpK T cx b A W Q
 | c, A, W, Q => WpC T cx c A W Q
theorem wpC_of_K : ∀ {c : Code} {A : AAct} {W : AW} {Q : AExit -> AAct -> AW -> Prop}, WpK T cx c A W Q -> WpC T cx c A W Q
 | .skip, _, _, _, h => wpC_skip h
 | .label _, _, _, _, h => wpC_label h
 | .exit _, _, _, _, h => wpC_exit h
 | .ret, _, _, _, h => wpC_ret h
 | .seq a b, _, _, Q, h => wpC_seq ((wpC_of_K (c := a) h).mono fun e A' W' hq => by
   cases e with
   | normal => exact wpC_of_K (c := b) hq
   | exit id => exact hq
   | ret => exact hq)
 | .cond c x y, A, _, _, h => by
  simp only [WpK] at h
  unfold condS at h
  split at h
  ·rename_i hc; exact wpC_cond hc (fun _ => wpC_of_K h) (fun x => by cases x)
  ·rename_i hc; exact wpC_cond hc (fun x => by cases x) (fun _ => wpC_of_K h)
  ·exact h.elim
 | .block _ b, _, _, _, h => wpC_block (wpC_of_K (c := b) h)
 | .loop _, _, _, _, h => wpC_loop h
 | .region _ _ false, _, _, _, h => wpC_region (wpO_of_S h)
 | .region _ _ true, _, _, _, h => h
 | .rangeFunc .., _, _, _, h => h
 | .scope b, _, _, _, h => wpC_scope (wpC_of_K (c := b) h)
 | .goto _, _, _, _, h => h
 | .refuse _, _, _, _, h => h
theorem wpL_of_K {c : Code} {I : Nat -> AAct -> AW -> Prop} {Q : AExit -> AAct -> AW -> Prop} {A : AAct} {W : AW} (hI : ∀ k A W, I k A W -> WpK T cx c A W (behind Q fun A' W' => ∃ k', k' < k /\ I k' A' W')) {k : Nat} (h : I k A W) : WpL T cx c A W Q :=
 wpL_inv I (fun k A W h => wpC_of_K (hI k A W h)) h
theorem wpF {f : FuncId} {fn : Func} {c : Code} {args : List Value} {R : Value -> AW -> Prop} (hf : T.funcs.get f = some fn) (hb : fn.body = some c)
  (h : WpK T ⟨f, none⟩ c ⟨Tr.nil.lay 0 args, max fn.ntmps args.length, []⟩ W (fun e A' W' => (e = .normal \/ e = .ret) /\ A'.defers = [] /\ ∃ l, aResults T W' A'.tmps fn.results.toList = some l /\ R (tupled l) W')) :
  WpF T f args W R := by
 obtain ⟨e, A', W', ⟨N, h1⟩, h2, h3, l, h4, h5⟩ := wpC_of_K h
 refine ⟨tupled l, W', Evt.shift (N := N + 1) (fun n hn => ?_), h5⟩
 show (evStep T (ev T n)).call f args W = _
 have hdf : (ev T n).defers A'.defers W' = some W' := by
  rw [h3]
  cases n with
  | zero => omega
  | succ m => rfl
 simp only [evStep, aBody, hf, hb, h1 n (by omega)]
 rcases h2 with rfl | rfl <;> simp only [hdf, h4]
end rules
theorem WpK.congr {T : Tabs} {cx : Cx} {c : Code} {A A' : AAct} {W W' : AW} {Q : AExit -> AAct -> AW -> Prop} (hA : A = A') (hW : W = W') : WpK T cx c A W Q = WpK T cx c A' W' Q := by rw [hA, hW]
theorem WpS.congr {T : Tabs} {all rest : List Oper} {A A' : AAct} {W W' : AW} {R : AAct -> AW -> Prop} (hA : A = A') (hW : W = W') : WpS T all rest A W R = WpS T all rest A' W' R := by rw [hA, hW]
theorem WpL.congr {T : Tabs} {cx : Cx} {c : Code} {A A' : AAct} {W W' : AW} {Q : AExit -> AAct -> AW -> Prop} (hA : A = A') (hW : W = W') : WpL T cx c A W Q = WpL T cx c A' W' Q := by rw [hA, hW]
theorem WpC.congr {T : Tabs} {cx : Cx} {c : Code} {A A' : AAct} {W W' : AW} {Q : AExit -> AAct -> AW -> Prop} (hA : A = A') (hW : W = W') : WpC T cx c A W Q = WpC T cx c A' W' Q := by rw [hA, hW]
theorem WpF.congr {T : Tabs} {f : FuncId} {a a' : List Value} {W W' : AW} {Q : Value -> AW -> Prop} (hA : a = a') (hW : W = W') : WpF T f a W Q = WpF T f a' W' Q := by rw [hA, hW]
theorem gotS.congr {K : Kont} {W W' : AW} {R : AAct -> AW -> Prop} {x x' : Option AAct} (hW : W = W') (h : x = x') : gotS K W R x = gotS K W' R x' := by rw [hW, h]
theorem callS.congr {T : Tabs} {K : Kont} {A : AAct} {W : AW} {R : AAct -> AW -> Prop} {dst : Option Tmp} {g : FuncId} {args args' : List Value} {x x' : Option Value} (ha : args = args') (h : x = x') : callS T K A W R dst g args x = callS T K A W R dst g args' x' := by rw [ha, h]
theorem nextS.congr {T : Tabs} {K : Kont} {A : AAct} {R : AAct -> AW -> Prop} {dst : Option Tmp} {x x' : Option (ANext × AW)} (h : x = x') : nextS T K A R dst x = nextS T K A R dst x' := by rw [h]
theorem wantS.congr {T : Tabs} {K : Kont} {o : Oper} {A : AAct} {W : AW} {R : AAct -> AW -> Prop} {x x' : Option Bool} (h : x = x') : wantS T K o A W R x = wantS T K o A W R x' := by rw [h]
theorem condS.congr {K1 K2 : Prop} {x x' : Option Value} (h : x = x') : condS K1 K2 x = condS K1 K2 x' := by rw [h]
theorem WpS_nil {T : Tabs} {all : List Oper} {A : AAct} {W : AW} {R : AAct -> AW -> Prop} : WpS T all [] A W R = R A W := rfl
theorem WpS_cons {T : Tabs} {all rest : List Oper} {o : Oper} {A : AAct} {W : AW} {R : AAct -> AW -> Prop} : WpS T all (o :: rest) A W R = undef? (isDefer o.op) (wantS T (WpS T all rest) o A W R (aWanted all o A.tmps.get)) := rfl
theorem undef_false {p : Prop} : undef? false p = p := rfl
theorem undef_congr {b b' : Bool} {p : Prop} (h : b = b') : undef? b p = undef? b' p := by rw [h]
theorem gotS_some {K : Kont} {W : AW} {R : AAct -> AW -> Prop} {A : AAct} : gotS K W R (some A) = K A W R := rfl
theorem callS_some {T : Tabs} {K : Kont} {A : AAct} {W : AW} {R : AAct -> AW -> Prop} {dst : Option Tmp} {g : FuncId} {args : List Value} {v : Value} : callS T K A W R dst g args (some v) = onlyIf (tabsIn T T.tabs W) (gotS K W R (A.put dst v)) := rfl
theorem zzD {T : Tabs} {K : Kont} {A : AAct} {W : AW} {R : AAct -> AW -> Prop} {dst : Option Tmp} {g : FuncId} {args : List Value} : callS T K A W R dst g args none = WpF T g args W (fun v W' => gotS K W' R (A.put dst v)) := rfl
theorem nextS_value {T : Tabs} {K : Kont} {A : AAct} {W : AW} {R : AAct -> AW -> Prop} {dst : Option Tmp} {v : Value} : nextS T K A R dst (some (.value v, W)) = gotS K W R (A.put dst v) := rfl
theorem nextS_skip {T : Tabs} {K : Kont} {A : AAct} {W : AW} {R : AAct -> AW -> Prop} {dst : Option Tmp} : nextS T K A R dst (some (.skip, W)) = gotS K W R (A.put dst undef) := rfl
theorem nextS_enter {T : Tabs} {K : Kont} {A : AAct} {W : AW} {R : AAct -> AW -> Prop} {dst : Option Tmp} {g : FuncId} {args : List Value} : nextS T K A R dst (some (.enter g args, W)) = callS T K A W R dst g args (shortOf T g args) := rfl
theorem nextS_round {T : Tabs} {K : Kont} {A : AAct} {W : AW} {R : AAct -> AW -> Prop} {dst : Option Tmp} {l : Nat} {fn : FuncId} {t : Tr Value} {n : Nat} {as bd : Code} : nextS T K A R dst (some (.round l fn t n as bd, W)) = WpR T l fn t n as bd W (fun v W' => gotS K W' R (A.put dst v)) := rfl
theorem wantS_true {T : Tabs} {K : Kont} {o : Oper} {A : AAct} {W : AW} {R : AAct -> AW -> Prop} : wantS T K o A W R (some true) = nextS T K A R o.dst (aOp T W (aEvalF T A.tmps.get) o) := rfl
theorem wantS_false {T : Tabs} {K : Kont} {o : Oper} {A : AAct} {W : AW} {R : AAct -> AW -> Prop} : wantS T K o A W R (some false) = gotS K W R (A.put o.dst undef) := rfl
theorem zzG {Q : AExit -> AAct -> AW -> Prop} {next : AAct -> AW -> Prop} : behind Q next .normal = next := rfl
theorem behind_ret {Q : AExit -> AAct -> AW -> Prop} {next : AAct -> AW -> Prop} : behind Q next .ret = Q .ret := rfl
theorem zzH {Q : AExit -> AAct -> AW -> Prop} {id : Nat} : leaves id Q .normal = Q .normal := rfl
theorem leaves_ret {Q : AExit -> AAct -> AW -> Prop} {id : Nat} : leaves id Q .ret = Q .ret := rfl
theorem leaves_exit {Q : AExit -> AAct -> AW -> Prop} {id id' : Nat} {A : AAct} {W : AW} : leaves id Q (.exit id') A W = if id' = id then Q .normal A W else Q (.exit id') A W := by
 simp only [leaves]
 by_cases h : id' = id
 ·subst h; simp
 ·rw [if_neg h]
  have : Nat.beq id' id = false := by cases hb : Nat.beq id' id; rfl; exact absurd (Nat.eq_of_beq_eq_true hb) h
  rw [this]
section steps
variable {T : Tabs} {cx : Cx} {A A' : AAct} {W W' : AW} {Q : AExit -> AAct -> AW -> Prop}
theorem wpK_reg {i : Nat} {ops : Array Oper} {b : Code} (h : ∀ R : AAct -> AW -> Prop, R A' W' -> WpS T ops.toList ops.toList A W R) (h2 : WpK T cx b A' W' Q) : WpK T cx (.seq (.region i ops false) b) A W Q :=
 h (fun A W => WpK T cx b A W Q) h2
theorem wpK_reg1 {i : Nat} {ops : Array Oper} (h : ∀ R : AAct -> AW -> Prop, R A' W' -> WpS T ops.toList ops.toList A W R) (h2 : Q .normal A' W') : WpK T cx (.region i ops false) A W Q :=
 h (Q .normal) h2
theorem wpK_regc {i : Nat} {ops : Array Oper} {b : Code} (J : AAct -> AW -> Prop) (h : ∀ R : AAct -> AW -> Prop, (∀ A' W', J A' W' -> R A' W') -> WpS T ops.toList ops.toList A W R) (h2 : ∀ A' W', J A' W' -> WpK T cx b A' W' Q) : WpK T cx (.seq (.region i ops false) b) A W Q :=
 h (fun A W => WpK T cx b A W Q) h2
theorem wpK_then {a b : Code} (h : WpK T cx a A W (behind Q fun A' W' => WpK T cx b A' W' Q)) : WpK T cx (.seq a b) A W Q := h
theorem zzA {a b c : Code} : WpK T cx (.seq (.seq a b) c) A W Q = WpK T cx (.seq a (.seq b c)) A W Q := by
 simp only [WpK]
 have e : (behind (behind Q fun A' W' => WpK T cx c A' W' Q) fun A' W' => WpK T cx b A' W' (behind Q fun A' W' => WpK T cx c A' W' Q)) = (behind Q fun A' W' => WpK T cx b A' W' (behind Q fun A' W' => WpK T cx c A' W' Q)) := by
  funext e; cases e <;> rfl
 rw [e]
theorem zzE {c : Operand} {x y b : Code} (hc : aEval T A.tmps c = some (.bool true)) (h : WpK T cx x A W (behind Q fun A' W' => WpK T cx b A' W' Q)) : WpK T cx (.seq (.cond c x y) b) A W Q := by
 simp only [WpK, hc]; exact h
theorem zzF {c : Operand} {x y b : Code} (hc : aEval T A.tmps c = some (.bool false)) (h : WpK T cx y A W (behind Q fun A' W' => WpK T cx b A' W' Q)) : WpK T cx (.seq (.cond c x y) b) A W Q := by
 simp only [WpK, hc]; exact h
theorem wpK_onT {c : Operand} {y b : Code} (hc : aEval T A.tmps c = some (.bool true)) (h : WpK T cx b A W Q) : WpK T cx (.seq (.cond c .skip y) b) A W Q := zzE hc h
theorem wpK_onF {c : Operand} {x b : Code} (hc : aEval T A.tmps c = some (.bool false)) (h : WpK T cx b A W Q) : WpK T cx (.seq (.cond c x .skip) b) A W Q := zzF hc h
theorem wpK_out {c : Operand} {id : Nat} {x b : Code} (hc : aEval T A.tmps c = some (.bool false)) (h : Q (.exit id) A W) : WpK T cx (.seq (.cond c x (.exit id)) b) A W Q := zzF hc h
theorem wpK_endT {c : Operand} {x y : Code} (hc : aEval T A.tmps c = some (.bool true)) (h : WpK T cx x A W Q) : WpK T cx (.cond c x y) A W Q := by
 simp only [WpK, hc]; exact h
theorem zzB {c : Operand} {x y : Code} (hc : aEval T A.tmps c = some (.bool false)) (h : WpK T cx y A W Q) : WpK T cx (.cond c x y) A W Q := by
 simp only [WpK, hc]; exact h
theorem wpK_ret (h : Q .ret A W) : WpK T cx .ret A W Q := h
theorem wpK_skip (h : Q .normal A W) : WpK T cx .skip A W Q := h
theorem wpK_block {id : Nat} {a b : Code} (h : WpK T cx a A W (leaves id (behind Q fun A' W' => WpK T cx b A' W' Q))) : WpK T cx (.seq (.block id a) b) A W Q := h
theorem wpK_block1 {id : Nat} {a : Code} (h : WpK T cx a A W (leaves id Q)) : WpK T cx (.block id a) A W Q := h
theorem wpK_while {id : Nat} {body b : Code} (I : Nat -> AAct -> AW -> Prop) (J Rt : AAct -> AW -> Prop) {k : Nat} (h : I k A W)
  (hI : ∀ k A W, I k A W -> ∀ Q' : AExit -> AAct -> AW -> Prop, (∀ A' W', J A' W' -> Q' (.exit id) A' W') -> (∀ A' W', Rt A' W' -> Q' .ret A' W') -> (∀ k' A' W', k' < k -> I k' A' W' -> Q' .normal A' W') -> WpK T cx body A W Q')
  (hR : ∀ A' W', Rt A' W' -> Q .ret A' W') (hJ : ∀ A' W', J A' W' -> WpK T cx b A' W' Q) : WpK T cx (.seq (.block id (.loop body)) b) A W Q := by
 show WpL T cx body A W (leaves id (behind Q fun A' W' => WpK T cx b A' W' Q))
 refine wpL_of_K (I := I) (fun k A W hi => hI k A W hi _ (fun A' W' hj => ?_) (fun A' W' hr => hR A' W' hr) (fun k' A' W' hk hi' => ⟨k', hk, hi'⟩)) h
 show leaves id _ (.exit id) A' W'
 rw [leaves_exit, if_pos rfl]
 exact hJ A' W' hj
theorem wpK_while1 {id : Nat} {body : Code} (I : Nat -> AAct -> AW -> Prop) (J Rt : AAct -> AW -> Prop) {k : Nat} (h : I k A W)
  (hI : ∀ k A W, I k A W -> ∀ Q' : AExit -> AAct -> AW -> Prop, (∀ A' W', J A' W' -> Q' (.exit id) A' W') -> (∀ A' W', Rt A' W' -> Q' .ret A' W') -> (∀ k' A' W', k' < k -> I k' A' W' -> Q' .normal A' W') -> WpK T cx body A W Q')
  (hR : ∀ A' W', Rt A' W' -> Q .ret A' W') (hJ : ∀ A' W', J A' W' -> Q .normal A' W') : WpK T cx (.block id (.loop body)) A W Q := by
 show WpL T cx body A W (leaves id Q)
 refine wpL_of_K (I := I) (fun k A W hi => hI k A W hi _ (fun A' W' hj => ?_) (fun A' W' hr => hR A' W' hr) (fun k' A' W' hk hi' => ⟨k', hk, hi'⟩)) h
 show leaves id _ (.exit id) A' W'
 rw [leaves_exit, if_pos rfl]
 exact hJ A' W' hj
end steps
end Go.Eng
