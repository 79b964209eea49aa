import Derived.Test.YtdpnplanohgecaaDoorEngM
set_option linter.unusedSimpArgs false
set_option linter.unusedVariables false
set_option linter.unusedSectionVars false
namespace Go.Eng
structure AAct where
 tmps : Tr Value
 n : Nat
 defers : List Deferred
inductive AExit where
 | normal
 | exit (id : Nat)
 | ret
def AAct.put (A : AAct) (dst : Option Tmp) (v : Value) : Option AAct :=
 match dst with
 | none => some A
 | some d => match Nat.blt d A.n with
  | true => some { A with tmps := A.tmps.set d v }
  | false => none
structure Cx where
 fn : FuncId
 ro : Option Nat
structure Ih where
 code : Cx -> Code -> AAct -> AW -> Option (AExit × AAct × AW)
 loop : Cx -> Code -> AAct -> AW -> Option (AExit × AAct × AW)
 call : FuncId -> List Value -> AW -> Option (Value × AW)
 round : Nat -> FuncId -> Tr Value -> Nat -> Code -> Code -> AW -> Option (Value × AW)
 defers : List Deferred -> AW -> Option AW
def aEvalF (T : Tabs) (f : Tmp -> Option Value) : Operand -> Option Value
 | .tmp i => f i
 | .const v => match flat v with
  | true => some v
  | false => none
 | .global g => match T.globs.get g with
  | some _ => some (.pointer (some ⟨g, 0, none⟩))
  | none => none
 | .func f => some (.func (.func f) #[] #[])
def aWanted (all : List Oper) (o : Oper) (f : Tmp -> Option Value) : Option Bool :=
 match o.guard with
 | none => some true
 | some (j, want) => match all[j]? with
  | none => some false
  | some oj => match oj.dst with
   | none => some false
   | some d => match f d with
    | none => none
    | some (.bool b) => some (b == want)
    | some _ => some false
def isDefer : Op -> Bool
 | .defer _ => true
 | _ => false
def shortOf (T : Tabs) (f : FuncId) (args : List Value) : Option Value :=
 match T.short.get f with
 | some s => s args
 | none => none
mutual
def valEq : Value -> Value -> Bool
 | .bool a, .bool b => a == b
 | .int k a, .int l b => match decide (k = l) with
  | true => match decide (a = b) with
   | true => true
   | false => false
  | false => false
 | .string a, .string b => a.data.toList == b.data.toList
 | .pointer none, .pointer none => true
 | .pointer (some ⟨a, b, none⟩), .pointer (some ⟨c, d, none⟩) => Nat.beq a c && Nat.beq b d
 | .slice none a b, .slice none c d => Nat.beq a c && Nat.beq b d
 | .slice (some ⟨a, b, s⟩) c d, .slice (some ⟨e, f, u⟩) g h => Nat.beq a e && Nat.beq b f && Nat.beq c g && Nat.beq d h && (s == u)
 | .map none, .map none => true
 | .map (some a), .map (some b) => Nat.beq a b
 | .nilFunc, .nilFunc => true
 | .nilIface, .nilIface => true
 | .iface t v, .iface u w => Nat.beq t u && valEq v w
 | .agg a, .agg b => arrEq a b
 | .tuple a, .tuple b => arrEq a b
 | .func f a c, .func g b d => decide (f = g) && arrEq a b && arrEq c d
 | _, _ => false
def arrEq : Array Value -> Array Value -> Bool
 | ⟨a⟩, ⟨b⟩ => listEq a b
def listEq : List Value -> List Value -> Bool
 | [], [] => true
 | a :: l, b :: m => valEq a b && listEq l m
 | _, _ => false
end
def tabIn (t : Table) (W : AW) : Bool :=
 match W.blocks.get t.name with
 | some ⟨.ro c n _, _⟩ => match Nat.ble t.cells.length n, c.take 0 t.cells.length, allB flat t.cells with
  | true, some l, true => listEq l t.cells
  | _, _, _ => false
 | _ => false
def tabsIn (T : Tabs) : List Table -> AW -> Bool
 | [], _ => true
 | t :: l, W => match T.globs.get t.name, tabIn t W with
  | some _, true => tabsIn T l W
  | _, _ => false
def aOper (ih : Ih) (T : Tabs) (ro : Option Nat) (o : Oper) (f : Tmp -> Option Value) (W : AW) : Option (Value × List Deferred × AW) :=
 match ro, isDefer o.op with
 | some _, true => none
 | _, _ => match aOp T W (aEvalF T f) o with
  | some (.value v, W') => some (v, [], W')
  | some (.skip, W') => some (undef, [], W')
  | some (.enter g args, W') => match shortOf T g args with
   | some v => match tabsIn T T.tabs W' with
    | true => some (v, [], W')
    | false => none
   | none => match ih.call g args W' with
    | some (v, W'') => some (v, [], W'')
    | none => none
  | some (.round l fn tm n as bd, W') => match ih.round l fn tm n as bd W' with
   | some (v, W'') => some (v, [], W'')
   | none => none
  | some (.defer d, W') => some (undef, [d], W')
  | some (.recover, W') => match ro with
   | none => some (.nilIface, [], W')
   | some _ => none
  | none => none
def aOps (ih : Ih) (T : Tabs) (ro : Option Nat) (all : List Oper) : List Oper -> AAct -> AW -> Option (AAct × AW)
 | [], A, W => some (A, W)
 | o :: rest, A, W => match aWanted all o A.tmps.get with
  | none => none
  | some false => match A.put o.dst undef with
   | some A' => aOps ih T ro all rest A' W
   | none => none
  | some true => match aOper ih T ro o A.tmps.get W with
   | none => none
   | some (v, ds, W') => match ({ A with defers := ds ++ A.defers } : AAct).put o.dst v with
    | some A' => aOps ih T ro all rest A' W'
    | none => none
def bindsAny (g : Ground) : Bool :=
 match g with
 | .textOnly _ => false
 | .gcOnly _ => false
 | _ => true
def dBits (bits : Tr Nat) : List Edge -> Option Nat
 | [] => some 0
 | e :: l => match dBits bits l with
  | none => none
  | some m => match bindsAny e.ground with
   | false => some m
   | true => match bits.get e.on with
    | some k => some (Nat.lor (Nat.lor m k) (Nat.pow 2 e.on))
    | none => none
def dBitsAll : List Oper -> Nat -> Tr Nat -> Option (Tr Nat)
 | [], _, bits => some bits
 | o :: l, i, bits => match dBits bits o.after.toList with
  | some m => dBitsAll l (i + 1) (bits.set i m)
  | none => none
def dWr : List Oper -> Nat -> Tr Nat -> Option (Tr Nat)
 | [], _, wr => some wr
 | o :: l, i, wr => match o.dst with
  | none => dWr l (i + 1) wr
  | some d => match wr.get d with
   | some _ => none
   | none => dWr l (i + 1) (wr.set d i)
def dLook (wr bits : Tr Nat) (vals t : Tr Value) (i m : Nat) (d : Tmp) : Option Value :=
 match wr.get d with
 | none => t.get d
 | some q => match Nat.testBit m q with
  | true => vals.get q
  | false => match Nat.beq q i with
   | true => t.get d
   | false => match bits.get q with
    | none => none
    | some mq => match Nat.testBit mq i with
     | true => t.get d
     | false => none
def isLight : Op -> Bool
 | .move _ | .assign _ | .pick .. | .build .. | .load .. | .nilCheck _ | .binOp .. | .unOp .. | .convert .. | .makeInterface .. | .makeFunc .. | .slice ..
 | .fieldAddr .. | .field .. | .indexAddr .. | .index .. | .extract .. | .lookup .. => true
 | .call { callee := .builtin .len, .. } | .call { callee := .builtin .min, .. } | .call { callee := .builtin .max, .. } => true
 | _ => false
structure AFlt where
 elem : TypeId
 cells : List Value
 ptr : Bool
 len : Nat
 cap : Nat
def AFlt.val (F : AFlt) (b : Nat) : Value :=
 match F.ptr with
 | true => .pointer (some ⟨b, 0, none⟩)
 | false => .slice (some ⟨b, 0, none⟩) F.len (2 * F.cap)
def aFlt (T : Tabs) (ρ : Operand -> Option Value) (o : Op) : Option AFlt :=
 match o with
 | .alloc elem => match aZero T elem with
  | some z => some ⟨elem, acells z, true, 0, 0⟩
  | none => none
 | .box elem x => match ρ x with
  | some v => some ⟨elem, acells v, true, 0, 0⟩
  | none => none
 | .makeSlice t l c => match ρ l, ρ c with
  | some (.int _ (.ofNat l)), some (.int _ (.ofNat c)) => match T.und.get t with
   | some (.slice elem) => match T.info.get elem with
    | some i => match i.zero with
     | some z => match Nat.ble l c, Nat.ble c 4611686018427387904, Nat.ble (i.bytes * c) 281474976710656, Nat.beq (acells z).length i.size with
      | true, true, true, true => some ⟨elem, rep (acells z) c, false, l, c⟩
      | _, _, _, _ => none
     | none => none
    | none => none
   | _ => none
  | _, _ => none
 | .buildSlice t len parts => match aParts ρ parts.toList with
  | some ps => match T.und.get t with
   | some (.slice elem) => match T.info.get elem with
    | some i => match i.zero with
     | some z => match Nat.ble (len * i.size) 16777216, Nat.beq (acells z).length i.size with
      | true, true => match aFill (fun j => some (j * i.size, i.size)) (rep (acells z) len) ps with
       | some c => some ⟨elem, c, false, len, len⟩
       | none => none
      | _, _ => none
     | none => none
    | none => none
   | _ => none
  | none => none
 | _ => none
def isFloat : Op -> Bool
 | .alloc _ | .box .. | .makeSlice .. | .buildSlice .. => true
 | _ => false
def dIdx (bits : Tr Nat) : List Oper -> Nat -> List (Nat × Nat × Bool)
 | [], _ => []
 | o :: l, i => match bits.get i with
  | some m => (i, m, !(isLight o.op || isFloat o.op)) :: dIdx bits l (i + 1)
  | none => []
def dSub (m done : Nat) : Bool := Nat.beq (Nat.land m done) m
def dPass : List (Nat × Nat × Bool) -> Nat -> List Nat -> List (Nat × Nat × Bool) -> Nat × List Nat × List (Nat × Nat × Bool)
 | [], done, ord, rest => (done, ord, rest.reverse)
 | (i, m, hv) :: l, done, ord, rest => match hv, dSub m done with
  | false, true => dPass l (Nat.lor done (Nat.pow 2 i)) (i :: ord) rest
  | _, _ => dPass l done ord ((i, m, hv) :: rest)
def dTake : List (Nat × Nat × Bool) -> Nat -> List (Nat × Nat × Bool) -> Option (Nat × List (Nat × Nat × Bool))
 | [], _, _ => none
 | (i, m, hv) :: l, done, rest => match hv, dSub m done with
  | true, true => some (i, rest.reverse ++ l)
  | _, _ => dTake l done ((i, m, hv) :: rest)
def dOrder : Nat -> List (Nat × Nat × Bool) -> Nat -> List Nat -> List Nat
 | 0, _, _, ord => ord.reverse
 | f + 1, l, done, ord => match dPass l done ord [] with
  | (done', ord', rest) => match dTake rest done' [] with
   | none => ord'.reverse
   | some (i, rest') => dOrder f rest' (Nat.lor done' (Nat.pow 2 i)) (i :: ord')
def anyFloat : List Oper -> Bool
 | [] => false
 | o :: l => match isFloat o.op with
  | true => true
  | false => anyFloat l
def upFrom : Nat -> Nat -> List Nat
 | _, 0 => []
 | i, n + 1 => i :: upFrom (i + 1) n
structure DSt where
 vals : Tr Value
 flts : Tr (Nat × AFlt)
 hs : List Nat
 ws : List AW
 iv : Tr (Nat × Nat)
def dRun (ih : Ih) (T : Tabs) (ro : Option Nat) (all : List Oper) (wr bits : Tr Nat) (t : Tr Value) : List Nat -> AW -> DSt -> Option (AW × DSt)
 | [], W, S => some (W, { S with ws := S.ws ++ [W] })
 | i :: rest, W, S => match all[i]?, bits.get i, S.vals.get i with
  | some o, some m, none => match aWanted all o (dLook wr bits S.vals t i m) with
   | none => none
   | some false => dRun ih T ro all wr bits t rest W { S with vals := S.vals.set i undef }
   | some true => match isLight o.op, isFloat o.op with
    | true, _ => match aOp T W (aEvalF T (dLook wr bits S.vals t i m)) o with
     | some (.value v, _) => dRun ih T ro all wr bits t rest W { S with vals := S.vals.set i v }
     | _ => none
    | false, true => match aFlt T (aEvalF T (dLook wr bits S.vals t i m)) o.op with
     | some F => dRun ih T ro all wr bits t rest (W.newCells F.elem F.cells) { S with vals := S.vals.set i (F.val W.next), flts := S.flts.set i (W.next, F), iv := S.iv.set i (W.next, W.next + 1) }
     | none => none
    | false, false => match aOper ih T ro o (dLook wr bits S.vals t i m) W with
     | some (v, [], W') => match Nat.ble W.next W'.next with
      | true => dRun ih T ro all wr bits t rest W' { S with vals := S.vals.set i v, hs := S.hs ++ [i], ws := S.ws ++ [W], iv := S.iv.set i (W.next, W'.next) }
      | false => none
     | _ => none
  | _, _, _ => none
def dChain (bits : Tr Nat) : List Nat -> Bool
 | a :: b :: l => match bits.get b with
  | some m => match Nat.testBit m a with
   | true => dChain bits (b :: l)
   | false => false
  | none => false
 | _ => true
def dMay (bits : Tr Nat) (i m j : Nat) : Nat -> List Nat -> Bool
 | _, [] => true
 | q, h :: hs => match bits.get h with
  | none => true
  | some mh => match Nat.testBit m h, Nat.blt q j, Nat.testBit mh i with
   | true, false, _ => false
   | _, true, true => false
   | _, _, _ => dMay bits i m j (q + 1) hs
def dLight (T : Tabs) (o : Oper) (f : Tmp -> Option Value) (v : Value) (bits : Tr Nat) (i m : Nat) (hs : List Nat) : Nat -> List AW -> Bool
 | _, [] => true
 | j, W :: ws => match dMay bits i m j 0 hs with
  | false => dLight T o f v bits i m hs (j + 1) ws
  | true => match aOp T W (aEvalF T f) o with
   | some (.value u, _) => match valEq u v with
    | true => dLight T o f v bits i m hs (j + 1) ws
    | false => false
   | _ => false
def isPlain : Op -> Bool
 | .load .. | .convert .. | .slice .. | .call _ | .lookup .. => false
 | _ => true
def dLights (T : Tabs) (all : List Oper) (wr bits : Tr Nat) (t : Tr Value) (S : DSt) : List Oper -> Nat -> Bool
 | [], _ => true
 | o :: rest, i => match isLight o.op, isPlain o.op with
  | true, false => match bits.get i, S.vals.get i with
   | some m, some v => match aWanted all o (dLook wr bits S.vals t i m) with
    | some true => match dLight T o (dLook wr bits S.vals t i m) v bits i m S.hs 0 S.ws with
     | true => dLights T all wr bits t S rest (i + 1)
     | false => false
    | _ => dLights T all wr bits t S rest (i + 1)
   | _, _ => false
  | _, _ => dLights T all wr bits t S rest (i + 1)
def freshB (W : AW) (b : Nat) (elem : TypeId) (l : List Value) : Bool :=
 match W.blocks.get b with
 | some ⟨.cells c n el, []⟩ => match Nat.beq n l.length, Nat.beq el elem, Nat.blt b W.next, c.take 0 n with
  | true, true, true, some m => listEq m l
  | _, _, _, _ => false
 | _ => false
def dFresh (bits : Tr Nat) (i m : Nat) (hs : List Nat) (b : Nat) (elem : TypeId) (l : List Value) : Nat -> List AW -> Bool
 | _, [] => true
 | j, W :: ws => match dMay bits i m j 0 hs with
  | false => dFresh bits i m hs b elem l (j + 1) ws
  | true => match freshB W b elem l with
   | true => dFresh bits i m hs b elem l (j + 1) ws
   | false => false
def dFreshes (bits : Tr Nat) (S : DSt) : List Oper -> Nat -> Bool
 | [], _ => true
 | _ :: rest, i => match S.flts.get i, bits.get i with
  | none, _ => dFreshes bits S rest (i + 1)
  | some (b, F), some m => match dFresh bits i m S.hs b F.elem F.cells 0 S.ws with
   | true => dFreshes bits S rest (i + 1)
   | false => false
  | some _, none => false
def dPut : List Oper -> Nat -> Tr Value -> AAct -> Option AAct
 | [], _, _, A => some A
 | o :: l, i, vals, A => match vals.get i with
  | none => none
  | some v => match A.put o.dst v with
   | none => none
   | some A' => dPut l (i + 1) vals A'
def aDraw (ih : Ih) (T : Tabs) (ro : Option Nat) (all : List Oper) (A : AAct) (W : AW) : Option (AAct × AW) :=
 match dWr all 0 .nil, dBitsAll all 0 .nil with
 | some wr, some bits =>
  match dRun ih T ro all wr bits A.tmps (match anyFloat all with
   | true => dOrder (all.length + 1) (dIdx bits all 0) 0 []
   | false => upFrom 0 all.length) W ⟨.nil, .nil, [], [], .nil⟩ with
  | none => none
  | some (W', S) => match dChain bits S.hs, dLights T all wr bits A.tmps S all 0, dFreshes bits S all 0 with
   | true, true, true => match dPut all 0 S.vals A with
    | some A' => some (A', W')
    | none => none
   | _, _, _ => none
 | _, _ => none
def AW.setObj (W : AW) (b : Nat) (o : AObj) : AW := ⟨W.blocks.set b ⟨o, []⟩, W.next⟩
def aRound (ih : Ih) (l : Nat) (fn : FuncId) (t : Tr Value) (n : Nat) (as bd : Code) (W : AW) : Option (Value × AW) :=
 match ih.code ⟨fn, some l⟩ as ⟨t, n, []⟩ W with
 | some (.normal, A₁, W₁) => match W₁.blocks.get l with
  | some ⟨.loop .ready p fn' t' n' ps as' bd' df, []⟩ =>
   match ih.code ⟨fn, some l⟩ bd A₁ (W₁.setObj l (.loop .busy p fn' t' n' ps as' bd' df)) with
   | some (e, _, W₂) => match W₂.blocks.get l with
    | some ⟨.loop _ _ fn' t' n' ps as' bd' df, []⟩ => match e with
     | .normal => some (.bool true, W₂.setObj l (.loop .ready none fn' t' n' ps as' bd' df))
     | .ret => some (.bool false, W₂.setObj l (.loop .done (some .ret) fn' t' n' ps as' bd' df))
     | .exit id => some (.bool false, W₂.setObj l (.loop .done (some (.exit id)) fn' t' n' ps as' bd' df))
    | _ => none
   | none => none
  | _ => none
 | _ => none
def aRange (ih : Ih) (T : Tabs) (cx : Cx) (g : Operand) (ps : Array Tmp) (as bd : Code) (A : AAct) (W : AW) : Option (AExit × AAct × AW) :=
 match aEval T A.tmps g with
 | some (.func (.func f) first cap) => match T.funcs.get f with
  | none => none
  | some _ =>
   let s : Option (Nat × AW × AAct) := match cx.ro with
    | none => some (W.next, W.new (.deferred (some [])), { A with defers := { target := .collected W.next, args := #[] } :: A.defers })
    | some l => match W.blocks.get l with
     | some ⟨.loop _ _ _ _ _ _ _ _ df, _⟩ => some (df, W, A)
     | _ => none
   match s with
   | none => none
   | some (df, W₁, A₁) =>
    match ih.call f (first.toList ++ .func (.yield W₁.next) #[] #[] :: cap.toList) (W₁.new (.loop .ready none cx.fn A.tmps A.n ps as bd df)) with
    | none => none
    | some (_, W₂) => match W₂.blocks.get W₁.next with
     | some ⟨.loop st p fn' t' n' ps' as' bd' df', []⟩ => match st with
      | .busy => none
      | _ =>
       let W₃ := W₂.setObj W₁.next (.loop .exhausted p fn' t' n' ps' as' bd' df')
       match p with
       | none => some (.normal, A₁, W₃)
       | some .ret => some (.ret, A₁, W₃)
       | some (.exit id) => some (.exit id, A₁, W₃)
       | some _ => none
     | _ => none
 | _ => none
def aResults (T : Tabs) (W : AW) (t : Tr Value) : List ResultVar -> Option (List Value)
 | [] => some []
 | .tmp i :: l => match t.get i, aResults T W t l with
  | some v, some r => some (v :: r)
  | _, _ => none
 | .cell a ty :: l => match t.get a with
  | some p => match aAddr p with
   | some (b, o) => match aLoadVar T W ty b o, aResults T W t l with
    | some v, some r => some (v :: r)
    | _, _ => none
   | none => none
  | none => none
def tupled : List Value -> Value
 | [v] => v
 | l => .tuple ⟨l⟩
def aBody (ih : Ih) (T : Tabs) (f : FuncId) (args : List Value) (W : AW) : Option (Value × AW) :=
 match T.funcs.get f with
 | none => none
 | some fn => match fn.body with
  | none => none
  | some c => match ih.code ⟨f, none⟩ c ⟨Tr.nil.lay 0 args, max fn.ntmps args.length, []⟩ W with
   | some (.exit _, _, _) => none
   | some (_, A, W₁) => match ih.defers A.defers W₁ with
    | none => none
    | some W₂ => match aResults T W₂ A.tmps fn.results.toList with
     | none => none
     | some l => some (tupled l, W₂)
   | none => none
def aDefers (ih : Ih) (T : Tabs) : List Deferred -> AW -> Option AW
 | [], W => some W
 | d :: ds, W => match d.target with
  | .fn f cap => match aEnter T W f d.args.toList cap.toList with
   | some (.enter g args) => match ih.call g args W with
    | some (_, W') => ih.defers ds W'
    | none => none
   | _ => none
  | .collected r => match W.blocks.get r with
   | some ⟨.deferred (some l), []⟩ => ih.defers (l ++ ds) (W.setObj r (.deferred none))
   | _ => none
  | _ => none
def evStep (T : Tabs) (ih : Ih) : Ih where
 code := fun cx c A W => match c with
  | .skip => some (.normal, A, W)
  | .label _ => some (.normal, A, W)
  | .seq a b => match ih.code cx a A W with
   | some (.normal, A₁, W₁) => ih.code cx b A₁ W₁
   | r => r
  | .cond c x y => match aEval T A.tmps c with
   | some (.bool true) => ih.code cx x A W
   | some (.bool false) => ih.code cx y A W
   | _ => none
  | .block id b => match ih.code cx b A W with
   | some (.exit id', A₁, W₁) => match Nat.beq id' id with
    | true => some (.normal, A₁, W₁)
    | false => some (.exit id', A₁, W₁)
   | r => r
  | .loop b => ih.loop cx b A W
  | .exit id => some (.exit id, A, W)
  | .ret => some (.ret, A, W)
  | .region _ ops false => match aOps ih T cx.ro ops.toList ops.toList A W with
   | some (A', W') => some (.normal, A', W')
   | none => none
  | .region _ ops true => match aDraw ih T cx.ro ops.toList A W with
   | some (A', W') => some (.normal, A', W')
   | none => none
  | .rangeFunc g ps as bd => aRange ih T cx g ps as bd A W
  | .scope b => ih.code cx b A W
  | _ => none
 loop := fun cx c A W => match ih.code cx c A W with
  | some (.normal, A₁, W₁) => ih.loop cx c A₁ W₁
  | r => r
 call := fun f args W => aBody ih T f args W
 round := fun l fn t n as bd W => aRound ih l fn t n as bd W
 defers := fun ds W => aDefers ih T ds W
def Ih.none' : Ih where
 code := fun _ _ _ _ => none
 loop := fun _ _ _ _ => none
 call := fun _ _ _ => none
 round := fun _ _ _ _ _ _ _ => none
 defers := fun _ _ => none
def ev (T : Tabs) : Nat -> Ih
 | 0 => Ih.none'
 | n + 1 => evStep T (ev T n)
end Go.Eng
