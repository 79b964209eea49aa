import Derived.Test.YtdpnplanohgecaaDoorEngSm
set_option linter.unusedSimpArgs false
set_option linter.unusedVariables false
set_option linter.unusedSectionVars false
section
namespace Go.Eng
theorem WpDr_nil {T : Tabs} {all : List Oper} {wr bits : Tr Nat} {t : Tr Value} {W : AW} {S : DSt} {R : AW -> DSt -> Prop} : WpDr T all wr bits t [] W S R = R W { S with ws := S.ws ++ [W] } := rfl
theorem WpDr_cons {T : Tabs} {all : List Oper} {wr bits : Tr Nat} {t : Tr Value} {i : Nat} {rest : List Nat} {W : AW} {S : DSt} {R : AW -> DSt -> Prop} :
  WpDr T all wr bits t (i :: rest) W S R = atS T (WpDr T all wr bits t rest) all wr bits t W S i R all[i]? (bits.get i) (S.vals.get i) := rfl
theorem atS_some {T : Tabs} {K : DKont} {all : List Oper} {wr bits : Tr Nat} {t : Tr Value} {W : AW} {S : DSt} {i : Nat} {R : AW -> DSt -> Prop} {o : Oper} {m : Nat} :
  atS T K all wr bits t W S i R (some o) (some m) none = dwantS T K o (dLook wr bits S.vals t i m) W S i R (aWanted all o (dLook wr bits S.vals t i m)) := rfl
section
variable {T : Tabs} {K : DKont} {o : Oper} {f : Tmp -> Option Value} {W W' : AW} {S : DSt} {i : Nat} {R : AW -> DSt -> Prop} {b c : Bool} {v : Value} {g : FuncId} {args : List Value}
theorem dwantS_true : dwantS T K o f W S i R (some true) = kindS T K o f W S i R (isLight o.op) (isFloat o.op) (isDefer o.op) := rfl
theorem dwantS_false : dwantS T K o f W S i R (some false) = K W { S with vals := S.vals.set i undef } R := rfl
theorem kindS_light : kindS T K o f W S i R true b c = lightS K W S i R (aOp T W (aEvalF T f) o) := rfl
theorem kindS_float : kindS T K o f W S i R false true b = floatS K W S i R (aFlt T (aEvalF T f) o.op) := rfl
theorem kindS_heavy : kindS T K o f W S i R false false false = heavyS T K W S i R (aOp T W (aEvalF T f) o) := rfl
theorem lightS_value : lightS K W S i R (some (.value v, W')) = K W { S with vals := S.vals.set i v } R := rfl
theorem floatS_some {F : AFlt} : floatS K W S i R (some F) = K (W.newCells F.elem F.cells) { S with vals := S.vals.set i (F.val W.next), flts := S.flts.set i (W.next, F), iv := S.iv.set i (W.next, W.next + 1) } R := rfl
theorem heavyS_value : heavyS T K W S i R (some (.value v, W')) = doneS K W S i R v W' := rfl
theorem heavyS_skip : heavyS T K W S i R (some (.skip, W')) = doneS K W S i R undef W' := rfl
theorem heavyS_enter : heavyS T K W S i R (some (.enter g args, W')) = dcallS T K W S i R W' g args (shortOf T g args) := rfl
theorem dcallS_some : dcallS T K W S i R W' g args (some v) = onlyIf (tabsIn T T.tabs W') (doneS K W S i R v W') := rfl
theorem dcallS_none : dcallS T K W S i R W' g args none = WpF T g args W' (fun v W'' => doneS K W S i R v W'') := rfl
theorem doneS_eq : doneS K W S i R v W' = (W.next <= W'.next /\ K W' { S with vals := S.vals.set i v, hs := S.hs ++ [i], ws := S.ws ++ [W], iv := S.iv.set i (W.next, W'.next) } R) := rfl
end
def dEnd (T : Tabs) (all : List Oper) (wr bits : Tr Nat) (A : AAct) (G : AAct -> AW -> Prop) : AW -> DSt -> Prop := fun W' S =>
 dChain bits S.hs = true /\ dLights T all wr bits A.tmps S all 0 = true /\ dFreshes bits S all 0 = true /\ ∃ A', dPut all 0 S.vals A = some A' /\ G A' W'
section
variable {T : Tabs} {cx : Cx} {A : AAct} {W : AW} {Q : AExit -> AAct -> AW -> Prop}
theorem wpK_dr1 {id : Nat} {ops : Array Oper} (wr bits : Tr Nat) (ord : List Nat) (J : AAct -> AW -> Prop)
  (hwr : dWr ops.toList 0 .nil = some wr) (hbits : dBitsAll ops.toList 0 .nil = some bits)
  (hord : (match anyFloat ops.toList with | true => dOrder (ops.toList.length + 1) (dIdx bits ops.toList 0) 0 [] | false => upFrom 0 ops.toList.length) = ord)
  (h : ∀ G : AAct -> AW -> Prop, (∀ A' W', J A' W' -> G A' W') -> WpDr T ops.toList wr bits A.tmps ord W ⟨.nil, .nil, [], [], .nil⟩ (dEnd T ops.toList wr bits A G))
  (h2 : ∀ A' W', J A' W' -> Q .normal A' W') : WpK T cx (.region id ops true) A W Q := by
 show WpC T cx (.region id ops true) A W Q
 refine wpC_draw' hwr hbits hord ?_
 have := h (Q .normal) h2
 have e : dEnd T ops.toList wr bits A (Q .normal) = fun W' S => dChain bits S.hs = true /\ dLights T ops.toList wr bits A.tmps S ops.toList 0 = true /\ dFreshes bits S ops.toList 0 = true /\ gotD Q W' (dPut ops.toList 0 S.vals A) := by
  funext W' S
  simp only [dEnd]
  cases hp : dPut ops.toList 0 S.vals A <;> simp [gotD]
 rwa [e] at this
theorem wpK_dr {id : Nat} {ops : Array Oper} {b : Code} (wr bits : Tr Nat) (ord : List Nat) (J : AAct -> AW -> Prop)
  (hwr : dWr ops.toList 0 .nil = some wr) (hbits : dBitsAll ops.toList 0 .nil = some bits)
  (hord : (match anyFloat ops.toList with | true => dOrder (ops.toList.length + 1) (dIdx bits ops.toList 0) 0 [] | false => upFrom 0 ops.toList.length) = ord)
  (h : ∀ G : AAct -> AW -> Prop, (∀ A' W', J A' W' -> G A' W') -> WpDr T ops.toList wr bits A.tmps ord W ⟨.nil, .nil, [], [], .nil⟩ (dEnd T ops.toList wr bits A G))
  (h2 : ∀ A' W', J A' W' -> WpK T cx b A' W' Q) : WpK T cx (.seq (.region id ops true) b) A W Q := by
 show WpK T cx (.region id ops true) A W (behind Q fun A' W' => WpK T cx b A' W' Q)
 exact wpK_dr1 wr bits ord J hwr hbits hord h h2
end
theorem dLights_nil {T : Tabs} {all : List Oper} {wr bits : Tr Nat} {t : Tr Value} {S : DSt} {i : Nat} : dLights T all wr bits t S [] i = true := rfl
theorem dLights_skip {T : Tabs} {all : List Oper} {wr bits : Tr Nat} {t : Tr Value} {S : DSt} {i : Nat} {o : Oper} {rest : List Oper} (h : (isLight o.op && !isPlain o.op) = false) : dLights T all wr bits t S (o :: rest) i = dLights T all wr bits t S rest (i + 1) := by
 simp only [dLights]
 split
 ·rename_i h1 h2; rw [h1, h2] at h; cases h
 ·rfl
def sameV (v : Value) : Option (ANext × AW) -> Bool
 | some (.value u, _) => valEq u v
 | _ => false
theorem sameV_value {u v : Value} {W : AW} : sameV v (some (.value u, W)) = valEq u v := rfl
def oneW (T : Tabs) (o : Oper) (f : Tmp -> Option Value) (v : Value) (bits : Tr Nat) (i m : Nat) (S : DSt) (rest : Bool) : Option Bool -> Bool
 | some true => dLight T o f v bits i m S.hs 0 S.ws && rest
 | _ => rest
theorem oneW_true {T : Tabs} {o : Oper} {f : Tmp -> Option Value} {v : Value} {bits : Tr Nat} {i m : Nat} {S : DSt} {rest : Bool} : oneW T o f v bits i m S rest (some true) = (dLight T o f v bits i m S.hs 0 S.ws && rest) := rfl
theorem oneW_false {T : Tabs} {o : Oper} {f : Tmp -> Option Value} {v : Value} {bits : Tr Nat} {i m : Nat} {S : DSt} {rest : Bool} : oneW T o f v bits i m S rest (some false) = rest := rfl
def oneL (T : Tabs) (all : List Oper) (wr bits : Tr Nat) (t : Tr Value) (S : DSt) (o : Oper) (i : Nat) (rest : Bool) : Option Nat -> Option Value -> Bool
 | some m, some v => oneW T o (dLook wr bits S.vals t i m) v bits i m S rest (aWanted all o (dLook wr bits S.vals t i m))
 | _, _ => false
theorem oneL_some {T : Tabs} {all : List Oper} {wr bits : Tr Nat} {t : Tr Value} {S : DSt} {o : Oper} {i m : Nat} {rest : Bool} {v : Value} : oneL T all wr bits t S o i rest (some m) (some v) = oneW T o (dLook wr bits S.vals t i m) v bits i m S rest (aWanted all o (dLook wr bits S.vals t i m)) := rfl
theorem dLights_one {T : Tabs} {all : List Oper} {wr bits : Tr Nat} {t : Tr Value} {S : DSt} {i : Nat} {o : Oper} {rest : List Oper} (h : (isLight o.op && !isPlain o.op) = true) :
  dLights T all wr bits t S (o :: rest) i = oneL T all wr bits t S o i (dLights T all wr bits t S rest (i + 1)) (bits.get i) (S.vals.get i) := by
 simp only [Bool.and_eq_true, Bool.not_eq_true'] at h
 simp only [dLights, h.1, h.2]
 cases hm : bits.get i with
 | none => rfl
 | some m =>
  cases hv : S.vals.get i with
  | none => rfl
  | some v =>
   simp only [oneL]
   cases hw : aWanted all o (dLook wr bits S.vals t i m) with
   | none => rfl
   | some b =>
    cases b with
    | false => rfl
    | true =>
     simp only [oneW]
     cases dLight T o (dLook wr bits S.vals t i m) v bits i m S.hs 0 S.ws <;> rfl
theorem dLight_nil {T : Tabs} {o : Oper} {f : Tmp -> Option Value} {v : Value} {bits : Tr Nat} {i m j : Nat} {hs : List Nat} : dLight T o f v bits i m hs j [] = true := rfl
theorem dLight_no {T : Tabs} {o : Oper} {f : Tmp -> Option Value} {v : Value} {bits : Tr Nat} {i m j : Nat} {hs : List Nat} {W : AW} {ws : List AW} (h : dMay bits i m j 0 hs = false) : dLight T o f v bits i m hs j (W :: ws) = dLight T o f v bits i m hs (j + 1) ws := by
 simp only [dLight, h]
theorem dLight_yes {T : Tabs} {o : Oper} {f : Tmp -> Option Value} {v : Value} {bits : Tr Nat} {i m j : Nat} {hs : List Nat} {W : AW} {ws : List AW} (h : dMay bits i m j 0 hs = true) :
  dLight T o f v bits i m hs j (W :: ws) = (sameV v (aOp T W (aEvalF T f) o) && dLight T o f v bits i m hs (j + 1) ws) := by
 simp only [dLight, h]
 generalize aOp T W (aEvalF T f) o = r
 match r with
 | some (.value u, W') => simp only [sameV]; cases valEq u v <;> rfl
 | some (.skip, _) => rfl
 | some (.enter .., _) => rfl
 | some (.round .., _) => rfl
 | some (.defer _, _) => rfl
 | some (.recover, _) => rfl
 | none => rfl
theorem dLight_cons {T : Tabs} {o : Oper} {f : Tmp -> Option Value} {v : Value} {bits : Tr Nat} {i m j : Nat} {hs : List Nat} {W : AW} {ws : List AW} :
  dLight T o f v bits i m hs j (W :: ws) = bif dMay bits i m j 0 hs then (sameV v (aOp T W (aEvalF T f) o) && dLight T o f v bits i m hs (j + 1) ws) else dLight T o f v bits i m hs (j + 1) ws := by
 cases h : dMay bits i m j 0 hs with
 | true => rw [dLight_yes h]; rfl
 | false => rw [dLight_no h]; rfl
theorem dFreshes_nil {bits : Tr Nat} {S : DSt} {i : Nat} : dFreshes bits S [] i = true := rfl
def oneF (bits : Tr Nat) (S : DSt) (i : Nat) (rest : Bool) : Option (Nat × AFlt) -> Option Nat -> Bool
 | none, _ => rest
 | some (b, F), some m => dFresh bits i m S.hs b F.elem F.cells 0 S.ws && rest
 | some _, none => false
theorem oneF_none {bits : Tr Nat} {S : DSt} {i : Nat} {rest : Bool} {x : Option Nat} : oneF bits S i rest none x = rest := rfl
theorem oneF_some {bits : Tr Nat} {S : DSt} {i b m : Nat} {rest : Bool} {F : AFlt} : oneF bits S i rest (some (b, F)) (some m) = (dFresh bits i m S.hs b F.elem F.cells 0 S.ws && rest) := rfl
theorem dFreshes_one {bits : Tr Nat} {S : DSt} {i : Nat} {o : Oper} {rest : List Oper} : dFreshes bits S (o :: rest) i = oneF bits S i (dFreshes bits S rest (i + 1)) (S.flts.get i) (bits.get i) := by
 simp only [dFreshes]
 cases S.flts.get i with
 | none => rfl
 | some p =>
  obtain ⟨b, F⟩ := p
  cases bits.get i with
  | none => rfl
  | some m => simp only [oneF]; cases dFresh bits i m S.hs b F.elem F.cells 0 S.ws <;> rfl
theorem dFresh_nil {bits : Tr Nat} {i m j b : Nat} {hs : List Nat} {el : TypeId} {l : List Value} : dFresh bits i m hs b el l j [] = true := rfl
theorem dFresh_no {bits : Tr Nat} {i m j b : Nat} {hs : List Nat} {el : TypeId} {l : List Value} {W : AW} {ws : List AW} (h : dMay bits i m j 0 hs = false) : dFresh bits i m hs b el l j (W :: ws) = dFresh bits i m hs b el l (j + 1) ws := by
 simp only [dFresh, h]
theorem dFresh_yes {bits : Tr Nat} {i m j b : Nat} {hs : List Nat} {el : TypeId} {l : List Value} {W : AW} {ws : List AW} (h : dMay bits i m j 0 hs = true) : dFresh bits i m hs b el l j (W :: ws) = (freshB W b el l && dFresh bits i m hs b el l (j + 1) ws) := by
 simp only [dFresh, h]
 cases freshB W b el l <;> rfl
theorem dFresh_cons {bits : Tr Nat} {i m j b : Nat} {hs : List Nat} {el : TypeId} {l : List Value} {W : AW} {ws : List AW} :
  dFresh bits i m hs b el l j (W :: ws) = bif dMay bits i m j 0 hs then (freshB W b el l && dFresh bits i m hs b el l (j + 1) ws) else dFresh bits i m hs b el l (j + 1) ws := by
 cases h : dMay bits i m j 0 hs with
 | true => rw [dFresh_yes h]; rfl
 | false => rw [dFresh_no h]; rfl
end Go.Eng

end
section
namespace Go.Eng
theorem growKin_other (t : Tr ABlk) (nb next : Nat) : ∀ (l : List (Nat × Bool)) (x : Nat), (∀ f, (x, f) ∉ l) -> (growKin t nb next l).1.get x = t.get x
 | [], _, _ => rfl
 | (m, f) :: l, x, h => by
  have hx : x ≠ m := fun e => h f (by rw [e]; exact List.mem_cons_self ..)
  have ih := growKin_other t nb next l x (fun g hg => h g (List.mem_cons_of_mem _ hg))
  simp only [growKin]
  split
  ·split
   ·simp only [Tr.get_set, if_neg hx]; exact ih
   ·simp only [Tr.get_del, if_neg hx]; exact ih
  ·simp only [Tr.get_del, if_neg hx]; exact ih
def Grows (W : AW) (v : Value) (l : List Value) (el : TypeId) (K : Nat -> Prop) : Prop :=
 (l = [] /\ v = .slice none 0 0) \/
 ∃ b c kin, v = .slice (some ⟨b, 0, none⟩) l.length 3 /\ l ≠ [] /\ K b /\ b < W.next /\ W.blocks.get b = some ⟨.cells c l.length el, kin⟩ /\ (∀ i, i < l.length -> c.get i = l[i]?) /\ ∀ p ∈ kin, K p.1
end Go.Eng

end
section
namespace Go.Eng
theorem WpR.mono {T : Tabs} {l : Nat} {fn : FuncId} {t : Tr Value} {n : Nat} {as bd : Code} {W : AW} {Q Q' : Value -> AW -> Prop} (h : WpR T l fn t n as bd W Q) (hq : ∀ v W', Q v W' -> Q' v W') : WpR T l fn t n as bd W Q' :=
 let ⟨v, W', h1, h2⟩ := h
 ⟨v, W', h1, hq _ _ h2⟩
def leftBy : AExit -> LoopState × Option Code × Bool
 | .normal => (.ready, none, true)
 | .ret => (.done, some .ret, false)
 | .exit id => (.done, some (.exit id), false)
theorem wpR {T : Tabs} {l : Nat} {fn : FuncId} {t : Tr Value} {n : Nat} {as bd : Code} {W : AW} {Q : Value -> AW -> Prop}
  (h : WpK T ⟨fn, some l⟩ as ⟨t, n, []⟩ W (fun e A₁ W₁ => e = .normal /\ ∃ p fn' t' n' ps as' bd' df, W₁.blocks.get l = some ⟨.loop .ready p fn' t' n' ps as' bd' df, []⟩ /\
   WpK T ⟨fn, some l⟩ bd A₁ (W₁.setObj l (.loop .busy p fn' t' n' ps as' bd' df)) (fun e _ W₂ => ∃ st p fn' t' n' ps as' bd' df, W₂.blocks.get l = some ⟨.loop st p fn' t' n' ps as' bd' df, []⟩ /\
    Q (.bool (leftBy e).2.2) (W₂.setObj l (.loop (leftBy e).1 (leftBy e).2.1 fn' t' n' ps as' bd' df))))) : WpR T l fn t n as bd W Q := by
 obtain ⟨_, A₁, W₁, ⟨N, h1⟩, rfl, p, fn', t', n', ps, as', bd', df, h2, h3⟩ := wpC_of_K h
 obtain ⟨e, A₂, W₂, ⟨M, h4⟩, st, p2, fn2, t2, n2, ps2, as2, bd2, df2, h5, h6⟩ := wpC_of_K h3
 refine ⟨_, _, Evt.shift (N := max N M) (fun m hm => ?_), h6⟩
 show (evStep T (ev T m)).round l fn t n as bd W = _
 simp only [evStep, aRound, h1 m (by omega), h2, h4 m (by omega), h5]
 cases e <;> rfl
def Collects : List Deferred -> AW -> AW -> Prop
 | [], W, W' => W' = W
 | d :: ds, W, W' => ∃ r, d.target = .collected r /\ W.blocks.get r = some ⟨.deferred (some []), []⟩ /\ Collects ds (W.setObj r (.deferred none)) W'
theorem Collects.evt {T : Tabs} : ∀ {ds : List Deferred} {W W' : AW}, Collects ds W W' -> Evt (fun n => (ev T n).defers ds W) W'
 | [], W, W', h => by
  have h : W' = W := h
  subst h
  exact Evt.shift (N := 0) (fun _ _ => rfl)
 | d :: ds, W, W', h => by
  obtain ⟨r, h1, h2, h3⟩ := h
  obtain ⟨N, h4⟩ := Collects.evt (T := T) h3
  refine Evt.shift (N := N) (fun n hn => ?_)
  show (evStep T (ev T n)).defers (d :: ds) W = _
  simp only [evStep, aDefers, h1, h2, List.nil_append]
  exact h4 n hn
theorem wpFd {T : Tabs} {W : AW} {f : FuncId} {fn : Func} {c : Code} {args : List Value} {R : Value -> AW -> Prop} (hf : T.funcs.get f = some fn) (hb : fn.body = some c)
  (h : WpK T ⟨f, none⟩ c ⟨Tr.nil.lay 0 args, max fn.ntmps args.length, []⟩ W (fun e A' W' => (e = .normal \/ e = .ret) /\ ∃ W'', Collects A'.defers W' W'' /\ ∃ l, aResults T W'' A'.tmps fn.results.toList = some l /\ R (tupled l) W'')) :
  WpF T f args W R := by
 obtain ⟨e, A', W', ⟨N, h1⟩, h2, W'', h3, l, h4, h5⟩ := wpC_of_K h
 obtain ⟨M, h6⟩ := Collects.evt (T := T) h3
 refine ⟨tupled l, W'', Evt.shift (N := max N M) (fun n hn => ?_), h5⟩
 show (evStep T (ev T n)).call f args W = _
 simp only [evStep, aBody, hf, hb, h1 n (by omega)]
 rcases h2 with rfl | rfl <;> simp only [h6 n (by omega), h4]
def goOn (Q : AExit -> AAct -> AW -> Prop) (A : AAct) (W : AW) : Option Code -> Prop
 | none => Q .normal A W
 | some .ret => Q .ret A W
 | some (.exit id) => Q (.exit id) A W
 | some _ => False
def ranOut (A : AAct) (W : AW) : Option Code -> Option (AExit × AAct × AW)
 | none => some (.normal, A, W)
 | some .ret => some (.ret, A, W)
 | some (.exit id) => some (.exit id, A, W)
 | some _ => none
def AW.beforeLoop (W : AW) (fn : FuncId) (A : AAct) (ps : Array Tmp) (as bd : Code) : AW :=
 (W.new (.deferred (some []))).new (.loop .ready none fn A.tmps A.n ps as bd W.next)
theorem wpC_range {T : Tabs} {f₀ : FuncId} {A : AAct} {W : AW} {Q : AExit -> AAct -> AW -> Prop} {g : Operand} {ps : Array Tmp} {as bd : Code} {f : FuncId} {first cap : Array Value} {fn : Func}
  (hg : aEval T A.tmps g = some (.func (.func f) first cap)) (hf : T.funcs.get f = some fn)
  (h : WpF T f (first.toList ++ .func (.yield (W.next + 1)) #[] #[] :: cap.toList) (W.beforeLoop f₀ A ps as bd) (fun _ W₂ =>
   ∃ st p fn' t' n' ps' as' bd' df', W₂.blocks.get (W.next + 1) = some ⟨.loop st p fn' t' n' ps' as' bd' df', []⟩ /\ st ≠ .busy /\
    goOn Q { A with defers := { target := .collected W.next, args := #[] } :: A.defers } (W₂.setObj (W.next + 1) (.loop .exhausted p fn' t' n' ps' as' bd' df')) p)) : WpC T ⟨f₀, none⟩ (.rangeFunc g ps as bd) A W Q := by
 obtain ⟨v, W₂, ⟨N, h1⟩, st, p, fn', t', n', ps', as', bd', df', h2, h3, h4⟩ := h
 have key : ∀ m, N <= m -> ∀ r, ranOut { A with defers := { target := .collected W.next, args := #[] } :: A.defers } (W₂.setObj (W.next + 1) (.loop .exhausted p fn' t' n' ps' as' bd' df')) p = r -> (ev T (m + 1)).code ⟨f₀, none⟩ (.rangeFunc g ps as bd) A W = r := by
  intro m hm r hr
  show (evStep T (ev T m)).code ⟨f₀, none⟩ (.rangeFunc g ps as bd) A W = _
  have h1' : (ev T m).call f (first.toList ++ .func (.yield (W.new (.deferred (some []))).next) #[] #[] :: cap.toList) ((W.new (.deferred (some []))).new (.loop .ready none f₀ A.tmps A.n ps as bd W.next)) = some (v, W₂) := h1 m hm
  have h2' : W₂.blocks.get (W.new (.deferred (some []))).next = some ⟨.loop st p fn' t' n' ps' as' bd' df', []⟩ := h2
  simp only [evStep, aRange, hg, hf, h1', h2']
  cases st with
  | busy => exact absurd rfl h3
  | _ => rw [<- hr]; rfl
 unfold goOn at h4
 split at h4
 ·exact ⟨_, _, _, Evt.shift (N := N) (fun m hm => key m hm _ rfl), h4⟩
 ·exact ⟨_, _, _, Evt.shift (N := N) (fun m hm => key m hm _ rfl), h4⟩
 ·exact ⟨_, _, _, Evt.shift (N := N) (fun m hm => key m hm _ rfl), h4⟩
 ·exact h4.elim
theorem wpK_range {T : Tabs} {f₀ : FuncId} {A : AAct} {W : AW} {Q : AExit -> AAct -> AW -> Prop} {id : Nat} {b : Code} {g : Operand} {ps : Array Tmp} {as bd : Code} {f : FuncId} {first cap : Array Value} {fn : Func}
  (hg : aEval T A.tmps g = some (.func (.func f) first cap)) (hf : T.funcs.get f = some fn)
  (h : WpF T f (first.toList ++ .func (.yield (W.next + 1)) #[] #[] :: cap.toList) (W.beforeLoop f₀ A ps as bd) (fun _ W₂ =>
   ∃ st p fn' t' n' ps' as' bd' df', W₂.blocks.get (W.next + 1) = some ⟨.loop st p fn' t' n' ps' as' bd' df', []⟩ /\ st ≠ .busy /\
    goOn (leaves id (behind Q fun A' W' => WpK T ⟨f₀, none⟩ b A' W' Q)) { A with defers := { target := .collected W.next, args := #[] } :: A.defers } (W₂.setObj (W.next + 1) (.loop .exhausted p fn' t' n' ps' as' bd' df')) p)) :
  WpK T ⟨f₀, none⟩ (.seq (.block id (.rangeFunc g ps as bd)) b) A W Q :=
 wpC_range hg hf h
end Go.Eng

end
section
namespace Go.Eng
def GrowsN (W : AW) (v : Value) (n : Nat) (l : List Value) (el : TypeId) (sz : Nat) (K : Nat -> Prop) : Prop :=
 l.length = n * sz /\ ((n = 0 /\ v = .slice none 0 0) \/
 ∃ b c kin, v = .slice (some ⟨b, 0, none⟩) n (2 * sz + 1) /\ 0 < n /\ K b /\ b < W.next /\ W.blocks.get b = some ⟨.cells c l.length el, kin⟩ /\ (∀ i, i < l.length -> c.get i = l[i]?) /\ ∀ p ∈ kin, K p.1)
theorem GrowsN.only {W W' : AW} {v : Value} {n : Nat} {l : List Value} {el : TypeId} {sz : Nat} {K K' : Nat -> Prop} (h : GrowsN W v n l el sz K) (ho : Only K' W W') (hd : ∀ b, b < W.next -> K b -> ¬ K' b) : GrowsN W' v n l el sz K := by
 obtain ⟨h0, h | ⟨b, c, kin, h1, h2, h3, h4, h5, h6, h7⟩⟩ := h
 ·exact ⟨h0, .inl h⟩
 ·exact ⟨h0, .inr ⟨b, c, kin, h1, h2, h3, Nat.lt_of_lt_of_le h4 ho.1, by rw [ho.2 b h4 (hd b h4 h3)]; exact h5, h6, h7⟩⟩
theorem GrowsN.mono {W : AW} {v : Value} {n : Nat} {l : List Value} {el : TypeId} {sz : Nat} {K K' : Nat -> Prop} (h : GrowsN W v n l el sz K) (hk : ∀ b, K b -> K' b) : GrowsN W v n l el sz K' := by
 obtain ⟨h0, h | ⟨b, c, kin, h1, h2, h3, h4, h5, h6, h7⟩⟩ := h
 ·exact ⟨h0, .inl h⟩
 ·exact ⟨h0, .inr ⟨b, c, kin, h1, h2, hk b h3, h4, h5, h6, fun p hp => hk _ (h7 p hp)⟩⟩
theorem GrowsN.nil (W : AW) (el : TypeId) (sz : Nat) (K : Nat -> Prop) : GrowsN W (.slice none 0 0) 0 [] el sz K := ⟨by simp, .inl ⟨rfl, rfl⟩⟩
theorem GrowsN.has {W : AW} {v : Value} {n : Nat} {l : List Value} {el : TypeId} {sz : Nat} {K : Nat -> Prop} (h : GrowsN W v n l el sz K) (hn : 0 < n) :
  ∃ b, v = .slice (some ⟨b, 0, none⟩) n (2 * sz + 1) /\ K b /\ b < W.next /\ (∃ k, W.blocks.get b = some k) /\ ∀ i u, l[i]? = some u -> W.Has b i u := by
 obtain ⟨h0, ⟨h, _⟩ | ⟨b, c, kin, h1, h2, h3, h4, h5, h6, h7⟩⟩ := h
 ·omega
 ·refine ⟨b, h1, h3, h4, ⟨_, h5⟩, fun i u hu => ⟨h4, ?_⟩⟩
  have hi : i < l.length := (List.getElem?_eq_some_iff.1 hu).1
  simp only [AW.cell, h5, blt_dec, hi, decide_true]
  rw [h6 i hi]; exact hu
theorem GrowsN.len {W : AW} {v : Value} {n : Nat} {l : List Value} {el : TypeId} {sz : Nat} {K : Nat -> Prop} (h : GrowsN W v n l el sz K) : ∃ a c, v = .slice a n c := by
 obtain ⟨_, ⟨rfl, rfl⟩ | ⟨b, c, kin, rfl, _⟩⟩ := h
 ·exact ⟨_, _, rfl⟩
 ·exact ⟨_, _, rfl⟩
theorem append_growsN {T : Tabs} {W : AW} {t el : TypeId} {i : TypeInfo} {z : Value} {sz : Nat} (hsz : 0 < sz) (ht : T.und.get t = some (.slice el)) (hi : T.info.get el = some i) (hs : i.size = sz) (hz : i.zero = some z) (hz1 : (acells z).length = sz)
  {v : Value} {n : Nat} {l : List Value} {K : Nat -> Prop} (h : GrowsN W v n l el sz K) {bx c : Nat} {u : List Value} (hul : u.length = sz) (hx : W.cellsAt bx 0 sz = some u) (hu : oneCells u = true)
  (hby : (2 * (n + 1)) * i.bytes <= 281474976710656) (hsm : n + 1 <= 4611686018427387904) :
  ∃ v' W', aAppend T W [t, t] [v, .slice (some ⟨bx, 0, none⟩) 1 c] = some (v', W') /\ W'.next = W.next + 1 /\ GrowsN W' v' (n + 1) (l ++ u) el sz (fun b => K b \/ b = W.next) /\ Only K W W' := by
 have hhead : aAppend T W [t, t] [v, .slice (some ⟨bx, 0, none⟩) 1 c] = aApp1 W el sz i.bytes 1 u v := by
  simp only [aAppend, ht, hi, hs, hz, notInt, aSrc, Nat.one_mul, hx, hz1, beq_dec, hul, hu, decide_true]
  first | done | rfl
 rw [hhead]
 obtain ⟨h0, ⟨rfl, rfl⟩ | ⟨b, cc, kin, rfl, h2, h3, h4, h5, h6, h7⟩⟩ := h
 ·have hl : l = [] := List.length_eq_zero_iff.1 (by omega)
  subst hl
  refine ⟨.slice (some ⟨W.next, 0, none⟩) 1 (2 * sz + 1), W.newCells el u, ?_, rfl, ⟨by simp [hul], .inr ⟨W.next, Tr.nil.lay 0 u, [], rfl, by omega, .inr rfl, Nat.lt_succ_self _, by rw [newCells_get, if_pos rfl]; rfl, ?_, by simp⟩⟩, .newCells _ _ _⟩
  ·have hby' : (2 * (0 + 1)) * i.bytes <= 281474976710656 := hby
   simp only [aApp1, ble_dec]
   rw [decide_eq_true hby', decide_eq_true (by omega)]
   rfl
  ·intro j hj
   rw [Tr.get_lay]
   simp only [List.nil_append] at hj ⊢
   rw [if_pos (by omega)]; simp
 ·have hold : W.cellsAt b 0 (n * sz) = some l := by
   simp only [AW.cellsAt, h5, ble_dec]
   rw [decide_eq_true (by omega)]
   exact take_get cc _ 0 l h0 (fun j hj => by rw [Nat.zero_add]; exact h6 j (by omega))
  have hnb : ¬ ((n + 1) * sz <= n * sz) := by
   have : (n + 1) * sz = n * sz + sz := by rw [Nat.add_mul, Nat.one_mul]
   omega
  have happ : aApp1 W el sz i.bytes 1 u (.slice (some ⟨b, 0, none⟩) n (2 * sz + 1)) = some (.slice (some ⟨W.next, 0, none⟩) (n + 1) (2 * sz + 1), aGrow W b W.next cc l.length el kin 0 (l ++ u)) := by
   have e1 : (2 * sz + 1) % 2 = 1 := by omega
   have e2 : (2 * sz + 1) / 2 = sz := by omega
   simp only [aApp1, ble_dec, hby, hsm, decide_true, beq_dec, h5, blt_dec, e1, e2, hsz, Nat.zero_add, hold, h0]
   rw [decide_eq_false hnb]
   rfl
  refine ⟨_, _, happ, aGrow_next .., ⟨by rw [List.length_append, h0, hul, Nat.add_mul, Nat.one_mul], .inr ?_⟩, ?_, ?_⟩
  ·simp only [aGrow]
   refine ⟨W.next, Tr.nil.lay 0 (l ++ u), (b, true) :: (growKin W.blocks l.length W.next kin).2, rfl, by omega, .inr rfl, Nat.lt_succ_self _, by simp [Tr.get_set], fun j hj => ?_, fun p hp => ?_⟩
   ·rw [Tr.get_lay, if_pos (by omega)]; simp
   ·rcases List.mem_cons.1 hp with rfl | hp
    ·exact .inl h3
    ·exact .inl (h7 p ((growKin_spec W.blocks l.length W.next kin).sub p hp).1)
  ·rw [aGrow_next]; exact Nat.le_succ _
  ·intro x hx hk
   simp only [aGrow, Tr.get_set]
   rw [if_neg (by omega), if_neg (fun e : x = b => hk (by rw [e]; exact h3))]
   exact growKin_other _ _ _ _ _ (fun f hf => hk (h7 _ hf))
theorem push_ownN {T : Tabs} {W : AW} {t el : TypeId} {i it : TypeInfo} {z : Value} {sz : Nat} (hsz : 0 < sz) (ht : T.und.get t = some (.slice el)) (hi : T.info.get el = some i) (hs : i.size = sz) (hz : i.zero = some z) (hz1 : (acells z).length = sz) (hit : T.info.get t = some it) (hits : it.size = 1)
  {v : Value} {m : Nat} {l : List Value} {K : Nat -> Prop} (h : GrowsN W v m l el sz K) {p o n : Nat} {elp : TypeId} {c8 : Tr Value} (hp : W.blocks.get p = some ⟨.cells c8 n elp, []⟩) (hpn : p < W.next) (hpK : ¬ K p) (ho : o + 1 <= n) {u : List Value} (hul : u.length = sz) (hu : oneCells u = true)
  (hby : (2 * (m + 1)) * i.bytes <= 281474976710656) (hsm : m + 1 <= 4611686018427387904) :
  ∃ v' W4 W5, aAppend T (W.newCells el u) [t, t] [v, .slice (some ⟨W.next, 0, none⟩) 1 (2 * 1)] = some (v', W4) /\ aStoreVar T W4 t p o v' = some W5 /\ W4.next = W.next + 2 /\ W5.next = W.next + 2 /\ W5.blocks.get p = some ⟨.cells (c8.set o v') n elp, []⟩ /\
   GrowsN W5 v' (m + 1) (l ++ u) el sz (fun b => K b \/ b = W.next + 1) /\ Only K W W4 /\ Only (fun b => K b \/ b = p) W W5 := by
 have h1 : GrowsN (W.newCells el u) v m l el sz K := h.only (K' := fun _ => False) (.newCells _ _ _) (fun _ _ _ x => x)
 have hx : (W.newCells el u).cellsAt W.next 0 sz = some u := by
  simp only [AW.cellsAt, newCells_get, if_pos, ble_dec]
  rw [decide_eq_true (by omega)]
  exact take_get _ sz 0 u hul (fun j hj => by rw [Tr.get_lay, if_pos (by omega)]; simp)
 obtain ⟨v', W4, a1, a2, a3, a4⟩ := append_growsN hsz ht hi hs hz hz1 h1 hul hx hu hby hsm (c := 2 * 1)
 rw [newCells_next] at a2
 have hp4 : W4.blocks.get p = some ⟨.cells c8 n elp, []⟩ := by
  rw [a4.2 p (by rw [newCells_next]; omega) hpK, newCells_get, if_neg (by omega)]; exact hp
 obtain ⟨bv, hv', hkv, _⟩ := a3.has (by omega)
 have hac : acells v' = [v'] := by rw [hv']; rfl
 obtain ⟨W5, b1, b2, b3, b4⟩ := storeVar_own (T := T) (v := v') (o := o) hit (by rw [hac, hits]; rfl) hp4 (by rw [hac]; exact ho) (by rw [hac, hv']; rfl)
 have hO : Only (fun b => b = p) W4 W5 := ⟨by rw [b2]; exact Nat.le_refl _, fun b _ hb => b3 b hb⟩
 have hO4 : Only K W W4 := ⟨by omega, fun b hb hk => by rw [a4.2 b (by rw [newCells_next]; omega) hk, newCells_get, if_neg (by omega)]⟩
 refine ⟨v', W4, W5, a1, b1, by omega, by omega, by rw [b4, hac]; rfl, ?_, hO4, ?_⟩
 ·refine (a3.only hO ?_).mono (fun b hb => hb.elim .inl (fun e => .inr (by rw [newCells_next] at e; exact e)))
  intro b hb hk e
  rcases hk with hk | hk
  ·exact hpK (e ▸ hk)
  ·rw [newCells_next] at hk; omega
 ·refine ⟨by omega, fun b hb hk => ?_⟩
  rw [b3 b (fun e => hk (.inr e)), hO4.2 b hb (fun e => hk (.inl e))]
theorem aFind_none {T : Tabs} {t : TypeId} {k : Value} : ∀ {es : List (Value × Value × Nat)} {i : Nat}, (∀ e ∈ es, keyOk T t e.1 = true) -> (∀ e ∈ es, keyEq k e.1 = false) -> aFind T t k es i = some none
 | [], _, _, _ => rfl
 | (k', v, c) :: es, i, h1, h2 => by
  have a1 : keyOk T t k' = true := h1 _ (List.mem_cons_self ..)
  have a2 : keyEq k k' = false := h2 _ (List.mem_cons_self ..)
  simp only [aFind, a1, a2]
  exact aFind_none (fun e he => h1 e (List.mem_cons_of_mem _ he)) (fun e he => h2 e (List.mem_cons_of_mem _ he))
theorem aFind_some {T : Tabs} {t : TypeId} {k : Value} : ∀ {es : List (Value × Value × Nat)} {i : Nat}, (∀ e ∈ es, keyOk T t e.1 = true) -> (∃ e ∈ es, keyEq k e.1 = true) -> ∃ j e, aFind T t k es i = some (some (i + j, e.2.1)) /\ es[j]? = some e /\ keyEq k e.1 = true
 | [], _, _, h => by obtain ⟨e, he, _⟩ := h; cases he
 | (k', v, c) :: es, i, h1, h2 => by
  have a1 : keyOk T t k' = true := h1 _ (List.mem_cons_self ..)
  cases a2 : keyEq k k' with
  | true => exact ⟨0, (k', v, c), by simp only [aFind, a1, a2]; rfl, rfl, a2⟩
  | false =>
   have h3 : ∃ e ∈ es, keyEq k e.1 = true := by
    obtain ⟨e, he, hk⟩ := h2
    rcases List.mem_cons.1 he with rfl | he
    ·rw [a2] at hk; cases hk
    ·exact ⟨e, he, hk⟩
   obtain ⟨j, e, g1, g2, g3⟩ := aFind_some (i := i + 1) (fun e he => h1 e (List.mem_cons_of_mem _ he)) h3
   refine ⟨j + 1, e, ?_, g2, g3⟩
   simp only [aFind, a1, a2]
   rw [g1, show i + (j + 1) = i + 1 + j from by omega]
end Go.Eng

end
section
namespace Go.Eng
structure Fld where
 n : Nat
 l : List Value
 el : TypeId
 sz : Nat
structure GObj (W : AW) (p N : Nat) (ST : TypeId) (col : Nat -> Nat) (F : Nat -> Option Fld) (c : Tr Value) : Prop where
 blk : W.blocks.get p = some ⟨.cells c N ST, []⟩
 fld : ∀ o fl, F o = some fl -> o < N /\ ∃ v, c.get o = some v /\ GrowsN W v fl.n fl.l fl.el fl.sz (fun b => col b = o + 1)
 cp : col p = N + 1
 lt : ∀ b, col b ≠ 0 -> b < W.next
end Go.Eng

end
section
namespace Go.Eng
def MadeN (W : AW) (v : Value) (n : Nat) (l : List Value) (el : TypeId) (sz : Nat) (K : Nat -> Prop) : Prop :=
 l.length = n * sz /\ ∃ b c kin, v = .slice (some ⟨b, 0, none⟩) n (2 * n) /\ 0 < n /\ K b /\ b < W.next /\ W.blocks.get b = some ⟨.cells c l.length el, kin⟩ /\ (∀ i, i < l.length -> c.get i = l[i]?) /\ ∀ p ∈ kin, K p.1
def HeldN (W : AW) (v : Value) (n : Nat) (l : List Value) (el : TypeId) (sz : Nat) (K : Nat -> Prop) : Prop := MadeN W v n l el sz K \/ GrowsN W v n l el sz K
theorem HeldN.only {W W' : AW} {v : Value} {n : Nat} {l : List Value} {el : TypeId} {sz : Nat} {K K' : Nat -> Prop} (h : HeldN W v n l el sz K) (ho : Only K' W W') (hd : ∀ b, b < W.next -> K b -> ¬ K' b) : HeldN W' v n l el sz K := by
 rcases h with ⟨h0, b, c, kin, h1, h2, h3, h4, h5, h6, h7⟩ | h
 ·exact .inl ⟨h0, b, c, kin, h1, h2, h3, Nat.lt_of_lt_of_le h4 ho.1, by rw [ho.2 b h4 (hd b h4 h3)]; exact h5, h6, h7⟩
 ·exact .inr (h.only ho hd)
theorem HeldN.mono {W : AW} {v : Value} {n : Nat} {l : List Value} {el : TypeId} {sz : Nat} {K K' : Nat -> Prop} (h : HeldN W v n l el sz K) (hk : ∀ b, K b -> K' b) : HeldN W v n l el sz K' := by
 rcases h with ⟨h0, b, c, kin, h1, h2, h3, h4, h5, h6, h7⟩ | h
 ·exact .inl ⟨h0, b, c, kin, h1, h2, hk b h3, h4, h5, h6, fun p hp => hk _ (h7 p hp)⟩
 ·exact .inr (h.mono hk)
theorem HeldN.has {W : AW} {v : Value} {n : Nat} {l : List Value} {el : TypeId} {sz : Nat} {K : Nat -> Prop} (h : HeldN W v n l el sz K) (hn : 0 < n) :
  ∃ b c, v = .slice (some ⟨b, 0, none⟩) n c /\ K b /\ b < W.next /\ ∀ i u, l[i]? = some u -> W.Has b i u := by
 rcases h with ⟨h0, b, c, kin, h1, h2, h3, h4, h5, h6, h7⟩ | h
 ·refine ⟨b, _, h1, h3, h4, fun i u hu => ⟨h4, ?_⟩⟩
  have hi : i < l.length := (List.getElem?_eq_some_iff.1 hu).1
  simp only [AW.cell, h5, blt_dec, hi, decide_true]
  rw [h6 i hi]; exact hu
 ·obtain ⟨b, h1, h2, h3, _, h4⟩ := h.has hn
  exact ⟨b, _, h1, h2, h3, h4⟩
theorem append_heldN {T : Tabs} {W : AW} {t el : TypeId} {i : TypeInfo} {z : Value} {sz : Nat} (hsz : 0 < sz) (ht : T.und.get t = some (.slice el)) (hi : T.info.get el = some i) (hs : i.size = sz) (hz : i.zero = some z) (hz1 : (acells z).length = sz)
  {v : Value} {n : Nat} {l : List Value} {K : Nat -> Prop} (h : HeldN W v n l el sz K) {bx c : Nat} {u : List Value} (hul : u.length = sz) (hx : W.cellsAt bx 0 sz = some u) (hu : oneCells u = true)
  (hby : (2 * (n + 1)) * i.bytes <= 281474976710656) (hsm : n + 1 <= 4611686018427387904) :
  ∃ v' W', aAppend T W [t, t] [v, .slice (some ⟨bx, 0, none⟩) 1 c] = some (v', W') /\ W'.next = W.next + 1 /\ HeldN W' v' (n + 1) (l ++ u) el sz (fun b => K b \/ b = W.next) /\ Only K W W' := by
 rcases h with ⟨h0, b, cc, kin, rfl, h2, h3, h4, h5, h6, h7⟩ | h
 ·have hhead : aAppend T W [t, t] [.slice (some ⟨b, 0, none⟩) n (2 * n), .slice (some ⟨bx, 0, none⟩) 1 c] = aApp1 W el sz i.bytes 1 u (.slice (some ⟨b, 0, none⟩) n (2 * n)) := by
   simp only [aAppend, ht, hi, hs, hz, notInt, aSrc, Nat.one_mul, hx, hz1, beq_dec, hul, hu, decide_true]
   first | done | rfl
  have hold : W.cellsAt b 0 (n * sz) = some l := by
   simp only [AW.cellsAt, h5, ble_dec]
   rw [decide_eq_true (by omega)]
   exact take_get cc _ 0 l h0 (fun j hj => by rw [Nat.zero_add]; exact h6 j (by omega))
  have e1 : (2 * n) % 2 = 0 := by omega
  have e2 : (2 * n) / 2 = n := by omega
  have e3 : ¬ (n + 1 <= n) := by omega
  have happ : aApp1 W el sz i.bytes 1 u (.slice (some ⟨b, 0, none⟩) n (2 * n)) = some (.slice (some ⟨W.next, 0, none⟩) (n + 1) (2 * sz + 1), W.newCells el (l ++ u)) := by
   simp only [aApp1, ble_dec, hby, hsm, decide_true, beq_dec, e1, e2, e3, decide_false, hold]
  rw [hhead]
  refine ⟨_, _, happ, rfl, .inr ⟨by rw [List.length_append, h0, hul, Nat.add_mul, Nat.one_mul], .inr ⟨W.next, Tr.nil.lay 0 (l ++ u), [], rfl, by omega, .inr rfl, Nat.lt_succ_self _, by rw [newCells_get, if_pos rfl], fun j hj => ?_, by simp⟩⟩, .newCells _ _ _⟩
  rw [Tr.get_lay, if_pos (by omega)]; simp
 ·obtain ⟨v', W', a1, a2, a3, a4⟩ := append_growsN hsz ht hi hs hz hz1 h hul hx hu hby hsm
  exact ⟨v', W', a1, a2, .inr a3, a4⟩
end Go.Eng

end
section
namespace Go.Eng
theorem wpK_outT {T : Tabs} {cx : Cx} {c : Operand} {id : Nat} {y b : Code} {A : AAct} {W : AW} {Q : AExit -> AAct -> AW -> Prop} (hc : aEval T A.tmps c = some (.bool true)) (h : Q (.exit id) A W) : WpK T cx (.seq (.cond c (.exit id) y) b) A W Q := zzE hc h
end Go.Eng

end