import Derived.Test.YtdpnplanohgecaaDoorEngMe
set_option linter.unusedSimpArgs false
set_option linter.unusedVariables false
set_option linter.unusedSectionVars false
namespace Go.Eng

/-! ### draws, step by step -/
theorem WpDr_nil {T : Tabs} {all : List Oper} {wr bits : Tr Nat} {t : Tr Value} {W : AW} {S : DSt} {R : AW → DSt → Prop} : WpDr T all wr bits t [] W S R = R W { S with ws := S.ws ++ [W] } := rfl
theorem WpDr_cons {T : Tabs} {all : List Oper} {wr bits : Tr Nat} {t : Tr Value} {i : Nat} {rest : List Nat} {W : AW} {S : DSt} {R : AW → DSt → Prop} :
    WpDr T all wr bits t (i :: rest) W S R = atS T (WpDr T all wr bits t rest) all wr bits t W S i R all[i]? (bits.get i) (S.vals.get i) := rfl
theorem atS_some {T : Tabs} {K : DKont} {all : List Oper} {wr bits : Tr Nat} {t : Tr Value} {W : AW} {S : DSt} {i : Nat} {R : AW → DSt → Prop} {o : Oper} {m : Nat} :
    atS T K all wr bits t W S i R (some o) (some m) none = dwantS T K o (dLook wr bits S.vals t i m) W S i R (aWanted all o (dLook wr bits S.vals t i m)) := rfl
section
variable {T : Tabs} {K : DKont} {o : Oper} {f : Tmp → Option Value} {W W' : AW} {S : DSt} {i : Nat} {R : AW → DSt → Prop} {b c : Bool} {v : Value} {g : FuncId} {args : List Value}
theorem dwantS_true : dwantS T K o f W S i R (some true) = kindS T K o f W S i R (isLight o.op) (isFloat o.op) (isDefer o.op) := rfl
theorem dwantS_false : dwantS T K o f W S i R (some false) = K W { S with vals := S.vals.set i undef } R := rfl
theorem kindS_light : kindS T K o f W S i R true b c = lightS K W S i R (aOp T W (aEvalF T f) o) := rfl
theorem kindS_float : kindS T K o f W S i R false true b = floatS K W S i R (aFlt T (aEvalF T f) o.op) := rfl
theorem kindS_heavy : kindS T K o f W S i R false false false = heavyS T K W S i R (aOp T W (aEvalF T f) o) := rfl
theorem lightS_value : lightS K W S i R (some (.value v, W')) = K W { S with vals := S.vals.set i v } R := rfl
theorem floatS_some {F : AFlt} : floatS K W S i R (some F) = K (W.newCells F.elem F.cells) { S with vals := S.vals.set i (F.val W.next), flts := S.flts.set i (W.next, F), iv := S.iv.set i (W.next, W.next + 1) } R := rfl
theorem heavyS_value : heavyS T K W S i R (some (.value v, W')) = doneS K W S i R v W' := rfl
theorem heavyS_skip : heavyS T K W S i R (some (.skip, W')) = doneS K W S i R undef W' := rfl
theorem heavyS_enter : heavyS T K W S i R (some (.enter g args, W')) = dcallS T K W S i R W' g args (shortOf T g args) := rfl
theorem dcallS_some : dcallS T K W S i R W' g args (some v) = onlyIf (tabsIn T T.tabs W') (doneS K W S i R v W') := rfl
theorem dcallS_none : dcallS T K W S i R W' g args none = WpF T g args W' (fun v W'' => doneS K W S i R v W'') := rfl
theorem doneS_eq : doneS K W S i R v W' = (W.next ≤ W'.next ∧ K W' { S with vals := S.vals.set i v, hs := S.hs ++ [i], ws := S.ws ++ [W], iv := S.iv.set i (W.next, W'.next) } R) := rfl
end

/-- the end of a draw -/
def dEnd (T : Tabs) (all : List Oper) (wr bits : Tr Nat) (A : AAct) (G : AAct → AW → Prop) : AW → DSt → Prop := fun W' S =>
  dChain bits S.hs = true ∧ dLights T all wr bits A.tmps S all 0 = true ∧ dFreshes bits S all 0 = true ∧ ∃ A', dPut all 0 S.vals A = some A' ∧ G A' W'
section
variable {T : Tabs} {cx : Cx} {A : AAct} {W : AW} {Q : AExit → AAct → AW → Prop}
theorem wpK_dr1 {id : Nat} {ops : Array Oper} (wr bits : Tr Nat) (ord : List Nat) (J : AAct → AW → Prop)
    (hwr : dWr ops.toList 0 .nil = some wr) (hbits : dBitsAll ops.toList 0 .nil = some bits)
    (hord : (match anyFloat ops.toList with | true => dOrder (ops.toList.length + 1) (dIdx bits ops.toList 0) 0 [] | false => upFrom 0 ops.toList.length) = ord)
    (h : ∀ G : AAct → AW → Prop, (∀ A' W', J A' W' → G A' W') → WpDr T ops.toList wr bits A.tmps ord W ⟨.nil, .nil, [], [], .nil⟩ (dEnd T ops.toList wr bits A G))
    (h2 : ∀ A' W', J A' W' → Q .normal A' W') : WpK T cx (.region id ops true) A W Q := by
  show WpC T cx (.region id ops true) A W Q
  refine wpC_draw' hwr hbits hord ?_
  have := h (Q .normal) h2
  have e : dEnd T ops.toList wr bits A (Q .normal) = fun W' S => dChain bits S.hs = true ∧ dLights T ops.toList wr bits A.tmps S ops.toList 0 = true ∧ dFreshes bits S ops.toList 0 = true ∧ gotD Q W' (dPut ops.toList 0 S.vals A) := by
    funext W' S
    simp only [dEnd]
    cases hp : dPut ops.toList 0 S.vals A <;> simp [gotD]
  rwa [e] at this
theorem wpK_dr {id : Nat} {ops : Array Oper} {b : Code} (wr bits : Tr Nat) (ord : List Nat) (J : AAct → AW → Prop)
    (hwr : dWr ops.toList 0 .nil = some wr) (hbits : dBitsAll ops.toList 0 .nil = some bits)
    (hord : (match anyFloat ops.toList with | true => dOrder (ops.toList.length + 1) (dIdx bits ops.toList 0) 0 [] | false => upFrom 0 ops.toList.length) = ord)
    (h : ∀ G : AAct → AW → Prop, (∀ A' W', J A' W' → G A' W') → WpDr T ops.toList wr bits A.tmps ord W ⟨.nil, .nil, [], [], .nil⟩ (dEnd T ops.toList wr bits A G))
    (h2 : ∀ A' W', J A' W' → WpK T cx b A' W' Q) : WpK T cx (.seq (.region id ops true) b) A W Q := by
  show WpK T cx (.region id ops true) A W (behind Q fun A' W' => WpK T cx b A' W' Q)
  exact wpK_dr1 wr bits ord J hwr hbits hord h h2
end

theorem dLights_nil {T : Tabs} {all : List Oper} {wr bits : Tr Nat} {t : Tr Value} {S : DSt} {i : Nat} : dLights T all wr bits t S [] i = true := rfl
theorem dLights_skip {T : Tabs} {all : List Oper} {wr bits : Tr Nat} {t : Tr Value} {S : DSt} {i : Nat} {o : Oper} {rest : List Oper} (h : (isLight o.op && !isPlain o.op) = false) : dLights T all wr bits t S (o :: rest) i = dLights T all wr bits t S rest (i + 1) := by
  simp only [dLights]
  split
  · rename_i h1 h2; rw [h1, h2] at h; cases h
  · rfl
/-- is a value the same? -/
def sameV (v : Value) : Option (ANext × AW) → Bool
  | some (.value u, _) => valEq u v
  | _ => false
theorem sameV_value {u v : Value} {W : AW} : sameV v (some (.value u, W)) = valEq u v := rfl
def oneW (T : Tabs) (o : Oper) (f : Tmp → Option Value) (v : Value) (bits : Tr Nat) (i m : Nat) (S : DSt) (rest : Bool) : Option Bool → Bool
  | some true => dLight T o f v bits i m S.hs 0 S.ws && rest
  | _ => rest
theorem oneW_true {T : Tabs} {o : Oper} {f : Tmp → Option Value} {v : Value} {bits : Tr Nat} {i m : Nat} {S : DSt} {rest : Bool} : oneW T o f v bits i m S rest (some true) = (dLight T o f v bits i m S.hs 0 S.ws && rest) := rfl
theorem oneW_false {T : Tabs} {o : Oper} {f : Tmp → Option Value} {v : Value} {bits : Tr Nat} {i m : Nat} {S : DSt} {rest : Bool} : oneW T o f v bits i m S rest (some false) = rest := rfl
def oneL (T : Tabs) (all : List Oper) (wr bits : Tr Nat) (t : Tr Value) (S : DSt) (o : Oper) (i : Nat) (rest : Bool) : Option Nat → Option Value → Bool
  | some m, some v => oneW T o (dLook wr bits S.vals t i m) v bits i m S rest (aWanted all o (dLook wr bits S.vals t i m))
  | _, _ => false
theorem oneL_some {T : Tabs} {all : List Oper} {wr bits : Tr Nat} {t : Tr Value} {S : DSt} {o : Oper} {i m : Nat} {rest : Bool} {v : Value} : oneL T all wr bits t S o i rest (some m) (some v) = oneW T o (dLook wr bits S.vals t i m) v bits i m S rest (aWanted all o (dLook wr bits S.vals t i m)) := rfl
theorem dLights_one {T : Tabs} {all : List Oper} {wr bits : Tr Nat} {t : Tr Value} {S : DSt} {i : Nat} {o : Oper} {rest : List Oper} (h : (isLight o.op && !isPlain o.op) = true) :
    dLights T all wr bits t S (o :: rest) i = oneL T all wr bits t S o i (dLights T all wr bits t S rest (i + 1)) (bits.get i) (S.vals.get i) := by
  simp only [Bool.and_eq_true, Bool.not_eq_true'] at h
  simp only [dLights, h.1, h.2]
  cases hm : bits.get i with
  | none => rfl
  | some m =>
    cases hv : S.vals.get i with
    | none => rfl
    | some v =>
      simp only [oneL]
      cases hw : aWanted all o (dLook wr bits S.vals t i m) with
      | none => rfl
      | some b =>
        cases b with
        | false => rfl
        | true =>
          simp only [oneW]
          cases dLight T o (dLook wr bits S.vals t i m) v bits i m S.hs 0 S.ws <;> rfl
theorem dLight_nil {T : Tabs} {o : Oper} {f : Tmp → Option Value} {v : Value} {bits : Tr Nat} {i m j : Nat} {hs : List Nat} : dLight T o f v bits i m hs j [] = true := rfl
theorem dLight_no {T : Tabs} {o : Oper} {f : Tmp → Option Value} {v : Value} {bits : Tr Nat} {i m j : Nat} {hs : List Nat} {W : AW} {ws : List AW} (h : dMay bits i m j 0 hs = false) : dLight T o f v bits i m hs j (W :: ws) = dLight T o f v bits i m hs (j + 1) ws := by
  simp only [dLight, h]
theorem dLight_yes {T : Tabs} {o : Oper} {f : Tmp → Option Value} {v : Value} {bits : Tr Nat} {i m j : Nat} {hs : List Nat} {W : AW} {ws : List AW} (h : dMay bits i m j 0 hs = true) :
    dLight T o f v bits i m hs j (W :: ws) = (sameV v (aOp T W (aEvalF T f) o) && dLight T o f v bits i m hs (j + 1) ws) := by
  simp only [dLight, h]
  generalize aOp T W (aEvalF T f) o = r
  match r with
  | some (.value u, W') => simp only [sameV]; cases valEq u v <;> rfl
  | some (.skip, _) => rfl
  | some (.enter .., _) => rfl
  | some (.round .., _) => rfl
  | some (.defer _, _) => rfl
  | some (.recover, _) => rfl
  | none => rfl
theorem dLight_cons {T : Tabs} {o : Oper} {f : Tmp → Option Value} {v : Value} {bits : Tr Nat} {i m j : Nat} {hs : List Nat} {W : AW} {ws : List AW} :
    dLight T o f v bits i m hs j (W :: ws) = bif dMay bits i m j 0 hs then (sameV v (aOp T W (aEvalF T f) o) && dLight T o f v bits i m hs (j + 1) ws) else dLight T o f v bits i m hs (j + 1) ws := by
  cases h : dMay bits i m j 0 hs with
  | true => rw [dLight_yes h]; rfl
  | false => rw [dLight_no h]; rfl
theorem dFreshes_nil {bits : Tr Nat} {S : DSt} {i : Nat} : dFreshes bits S [] i = true := rfl
theorem dFreshes_skip {bits : Tr Nat} {S : DSt} {i : Nat} {o : Oper} {rest : List Oper} (h : S.flts.get i = none) : dFreshes bits S (o :: rest) i = dFreshes bits S rest (i + 1) := by
  simp only [dFreshes, h]
def oneF (bits : Tr Nat) (S : DSt) (i : Nat) (rest : Bool) : Option (Nat × AFlt) → Option Nat → Bool
  | none, _ => rest
  | some (b, F), some m => dFresh bits i m S.hs b F.elem F.cells 0 S.ws && rest
  | some _, none => false
theorem oneF_none {bits : Tr Nat} {S : DSt} {i : Nat} {rest : Bool} {x : Option Nat} : oneF bits S i rest none x = rest := rfl
theorem oneF_some {bits : Tr Nat} {S : DSt} {i b m : Nat} {rest : Bool} {F : AFlt} : oneF bits S i rest (some (b, F)) (some m) = (dFresh bits i m S.hs b F.elem F.cells 0 S.ws && rest) := rfl
theorem dFreshes_one {bits : Tr Nat} {S : DSt} {i : Nat} {o : Oper} {rest : List Oper} : dFreshes bits S (o :: rest) i = oneF bits S i (dFreshes bits S rest (i + 1)) (S.flts.get i) (bits.get i) := by
  simp only [dFreshes]
  cases S.flts.get i with
  | none => rfl
  | some p =>
    obtain ⟨b, F⟩ := p
    cases bits.get i with
    | none => rfl
    | some m => simp only [oneF]; cases dFresh bits i m S.hs b F.elem F.cells 0 S.ws <;> rfl
theorem dFresh_nil {bits : Tr Nat} {i m j b : Nat} {hs : List Nat} {el : TypeId} {l : List Value} : dFresh bits i m hs b el l j [] = true := rfl
theorem dFresh_no {bits : Tr Nat} {i m j b : Nat} {hs : List Nat} {el : TypeId} {l : List Value} {W : AW} {ws : List AW} (h : dMay bits i m j 0 hs = false) : dFresh bits i m hs b el l j (W :: ws) = dFresh bits i m hs b el l (j + 1) ws := by
  simp only [dFresh, h]
theorem dFresh_yes {bits : Tr Nat} {i m j b : Nat} {hs : List Nat} {el : TypeId} {l : List Value} {W : AW} {ws : List AW} (h : dMay bits i m j 0 hs = true) : dFresh bits i m hs b el l j (W :: ws) = (freshB W b el l && dFresh bits i m hs b el l (j + 1) ws) := by
  simp only [dFresh, h]
  cases freshB W b el l <;> rfl
theorem dFresh_cons {bits : Tr Nat} {i m j b : Nat} {hs : List Nat} {el : TypeId} {l : List Value} {W : AW} {ws : List AW} :
    dFresh bits i m hs b el l j (W :: ws) = bif dMay bits i m j 0 hs then (freshB W b el l && dFresh bits i m hs b el l (j + 1) ws) else dFresh bits i m hs b el l (j + 1) ws := by
  cases h : dMay bits i m j 0 hs with
  | true => rw [dFresh_yes h]; rfl
  | false => rw [dFresh_no h]; rfl
end Go.Eng
