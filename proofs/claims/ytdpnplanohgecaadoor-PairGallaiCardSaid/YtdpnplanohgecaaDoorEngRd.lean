import Derived.Test.YtdpnplanohgecaaDoorEngRn
set_option linter.unusedSimpArgs false
set_option linter.unusedVariables false
set_option linter.unusedSectionVars false
namespace Go.Eng
abbrev DKont := AW -> DSt -> (AW -> DSt -> Prop) -> Prop
def lightS (K : DKont) (W : AW) (S : DSt) (i : Nat) (R : AW -> DSt -> Prop) : Option (ANext × AW) -> Prop
 | some (.value v, _) => K W { S with vals := S.vals.set i v } R
 | _ => False
def floatS (K : DKont) (W : AW) (S : DSt) (i : Nat) (R : AW -> DSt -> Prop) : Option AFlt -> Prop
 | some F => K (W.newCells F.elem F.cells) { S with vals := S.vals.set i (F.val W.next), flts := S.flts.set i (W.next, F), iv := S.iv.set i (W.next, W.next + 1) } R
 | none => False
def doneS (K : DKont) (W : AW) (S : DSt) (i : Nat) (R : AW -> DSt -> Prop) (v : Value) (W' : AW) : Prop :=
 W.next <= W'.next /\ K W' { S with vals := S.vals.set i v, hs := S.hs ++ [i], ws := S.ws ++ [W], iv := S.iv.set i (W.next, W'.next) } R
def dcallS (T : Tabs) (K : DKont) (W : AW) (S : DSt) (i : Nat) (R : AW -> DSt -> Prop) (W' : AW) (g : FuncId) (args : List Value) : Option Value -> Prop
 | some v => onlyIf (tabsIn T T.tabs W') (doneS K W S i R v W')
 | none => WpF T g args W' (fun v W'' => doneS K W S i R v W'')
def heavyS (T : Tabs) (K : DKont) (W : AW) (S : DSt) (i : Nat) (R : AW -> DSt -> Prop) : Option (ANext × AW) -> Prop
 | some (.value v, W') => doneS K W S i R v W'
 | some (.skip, W') => doneS K W S i R undef W'
 | some (.enter g args, W') => dcallS T K W S i R W' g args (shortOf T g args)
 | _ => False
def kindS (T : Tabs) (K : DKont) (o : Oper) (f : Tmp -> Option Value) (W : AW) (S : DSt) (i : Nat) (R : AW -> DSt -> Prop) : Bool -> Bool -> Bool -> Prop
 | true, _, _ => lightS K W S i R (aOp T W (aEvalF T f) o)
 | false, true, _ => floatS K W S i R (aFlt T (aEvalF T f) o.op)
 | false, false, false => heavyS T K W S i R (aOp T W (aEvalF T f) o)
 | false, false, true => False
def dwantS (T : Tabs) (K : DKont) (o : Oper) (f : Tmp -> Option Value) (W : AW) (S : DSt) (i : Nat) (R : AW -> DSt -> Prop) : Option Bool -> Prop
 | some true => kindS T K o f W S i R (isLight o.op) (isFloat o.op) (isDefer o.op)
 | some false => K W { S with vals := S.vals.set i undef } R
 | none => False
def atS (T : Tabs) (K : DKont) (all : List Oper) (wr bits : Tr Nat) (t : Tr Value) (W : AW) (S : DSt) (i : Nat) (R : AW -> DSt -> Prop) : Option Oper -> Option Nat -> Option Value -> Prop
 | some o, some m, none => dwantS T K o (dLook wr bits S.vals t i m) W S i R (aWanted all o (dLook wr bits S.vals t i m))
 | _, _, _ => False
def WpDr (T : Tabs) (all : List Oper) (wr bits : Tr Nat) (t : Tr Value) : List Nat -> DKont
 | [], W, S, R => R W { S with ws := S.ws ++ [W] }
 | i :: rest, W, S, R => atS T (WpDr T all wr bits t rest) all wr bits t W S i R all[i]? (bits.get i) (S.vals.get i)
theorem dRun_of_S {T : Tabs} {ro : Option Nat} {all : List Oper} {wr bits : Tr Nat} {t : Tr Value} {R : AW -> DSt -> Prop} : ∀ {l : List Nat} {W : AW} {S : DSt}, WpDr T all wr bits t l W S R ->
  ∃ W' S', Evt (fun n => dRun (ev T n) T ro all wr bits t l W S) (W', S') /\ R W' S'
 | [], W, S, h => ⟨W, _, ⟨0, fun _ _ => rfl⟩, h⟩
 | i :: rest, W, S, h => by
  simp only [WpDr] at h
  unfold atS at h
  split at h
  case h_2 => exact h.elim
  rename_i o m ho hm hv
  unfold dwantS at h
  split at h
  case h_3 => exact h.elim
  case h_2 =>
   rename_i hw
   obtain ⟨W', S', ⟨N, h1⟩, h2⟩ := dRun_of_S h
   exact ⟨W', S', ⟨N, fun n hn => by simp only [dRun, ho, hm, hv, hw]; exact h1 n hn⟩, h2⟩
  rename_i hw
  unfold kindS at h
  split at h
  case h_4 => exact h.elim
  ·rename_i hl
   unfold lightS at h
   split at h
   ·rename_i v W₁ hop
    obtain ⟨W', S', ⟨N, h1⟩, h2⟩ := dRun_of_S h
    exact ⟨W', S', ⟨N, fun n hn => by simp only [dRun, ho, hm, hv, hw, hl, hop]; exact h1 n hn⟩, h2⟩
   ·exact h.elim
  ·rename_i hl hf
   unfold floatS at h
   split at h
   ·rename_i F hF
    obtain ⟨W', S', ⟨N, h1⟩, h2⟩ := dRun_of_S h
    exact ⟨W', S', ⟨N, fun n hn => by simp only [dRun, ho, hm, hv, hw, hl, hf, hF]; exact h1 n hn⟩, h2⟩
   ·exact h.elim
  ·rename_i hl hf hd
   have hop := fun ih : Ih => aOper_nd (ih := ih) (T := T) (ro := ro) (W := W) (f := dLook wr bits S.vals t i m) hd
   have fin : ∀ {v : Value} {W₁ : AW}, doneS (WpDr T all wr bits t rest) W S i R v W₁ -> (∃ N, ∀ n, N <= n -> aOper (ev T n) T ro o (dLook wr bits S.vals t i m) W = some (v, [], W₁)) ->
     ∃ W' S', Evt (fun n => dRun (ev T n) T ro all wr bits t (i :: rest) W S) (W', S') /\ R W' S' := by
    intro v W₁ ⟨hle, h⟩ ⟨M, hM⟩
    obtain ⟨W', S', ⟨N, h1⟩, h2⟩ := dRun_of_S h
    have hb : Nat.ble W.next W₁.next = true := Nat.ble_eq_true_of_le hle
    exact ⟨W', S', ⟨max N M, fun n hn => by simp only [dRun, ho, hm, hv, hw, hl, hf, hM n (by omega), hb]; exact h1 n (by omega)⟩, h2⟩
   generalize aOp T W (aEvalF T (dLook wr bits S.vals t i m)) o = r at h hop
   match r, h, hop with
   | some (.value v, W₁), h, hop => exact fin h ⟨0, fun n _ => hop _⟩
   | some (.skip, W₁), h, hop => exact fin h ⟨0, fun n _ => hop _⟩
   | some (.enter g args, W₁), h, hop =>
    simp only [heavyS] at h
    cases hs : shortOf T g args with
    | some v =>
     rw [hs] at h
     simp only [dcallS] at h
     cases ht : tabsIn T T.tabs W₁ with
     | false => rw [ht] at h; exact h.elim
     | true =>
      rw [ht] at h
      exact fin h ⟨0, fun n _ => by rw [hop]; simp only [hs, ht]⟩
    | none =>
     rw [hs] at h
     obtain ⟨v, W₂, ⟨M, g1⟩, g2⟩ := h
     exact fin g2 ⟨M, fun n hn => by rw [hop]; simp only [hs, g1 n hn]⟩
   | some (.round .., W₁), h, _ => exact h.elim
   | some (.defer _, W₁), h, _ => exact h.elim
   | some (.recover, W₁), h, _ => exact h.elim
   | none, h, _ => exact h.elim
def gotD (Q : AExit -> AAct -> AW -> Prop) (W : AW) : Option AAct -> Prop
 | some A' => Q .normal A' W
 | none => False
theorem wpC_draw' {T : Tabs} {cx : Cx} {A : AAct} {W : AW} {Q : AExit -> AAct -> AW -> Prop} {id : Nat} {ops : Array Oper} {wr bits : Tr Nat} {ord : List Nat}
  (hwr : dWr ops.toList 0 .nil = some wr) (hbits : dBitsAll ops.toList 0 .nil = some bits)
  (hord : (match anyFloat ops.toList with | true => dOrder (ops.toList.length + 1) (dIdx bits ops.toList 0) 0 [] | false => upFrom 0 ops.toList.length) = ord)
  (h : WpDr T ops.toList wr bits A.tmps ord W ⟨.nil, .nil, [], [], .nil⟩ fun W' S => dChain bits S.hs = true /\ dLights T ops.toList wr bits A.tmps S ops.toList 0 = true /\ dFreshes bits S ops.toList 0 = true /\
   gotD Q W' (dPut ops.toList 0 S.vals A)) : WpC T cx (.region id ops true) A W Q := by
 obtain ⟨W', S, ⟨N, h1⟩, h2, h3, h4, h5⟩ := dRun_of_S (ro := cx.ro) h
 unfold gotD at h5
 split at h5
 ·rename_i A' hA
  refine wpC_draw ⟨A', W', ⟨N, fun n hn => ?_⟩, h5⟩
  have h1n := h1 n hn
  cases haf : anyFloat ops.toList <;> simp only [haf] at hord <;> subst hord <;> simp only [aDraw, hwr, hbits, haf, h1n, h2, h3, h4, hA]
 ·exact h5.elim
end Go.Eng
