import Derived.Test.YtdpnplanohgecaaDoorEngL
import Derived.Laws.StructEq
set_option linter.unusedSimpArgs false
set_option linter.unusedVariables false
set_option linter.unusedSectionVars false
namespace Go.Eng
def nilChecked (T : Tabs) : Value -> Bool
 | .pointer none | .nilIface | .nilFunc => false
 | .func (.method name) first _ => match first.toList with
  | .iface t _ :: _ => match T.meths.get t with
   | some l => match aMeth name l with
    | some _ => true
    | none => false
   | none => false
  | _ => false
 | _ => true
def aDefer (ρ : Operand -> Option Value) (c : Call) : Option Deferred :=
 match c.callee with
 | .value f => match ρ f, aVals ρ c.args.toList with
  | some (.func fn first cap), some args => match fn with
   | .yield _ => none
   | _ => some { target := .fn fn cap, args := ⟨first.toList ++ args⟩ }
  | _, _ => none
 | _ => none
def aVal (W : AW) : Option Value -> Option (ANext × AW)
 | some v => some (.value v, W)
 | none => none
def aValW : Option (Value × AW) -> Option (ANext × AW)
 | some (v, W) => some (.value v, W)
 | none => none
def opMove (T : Tabs) (W : AW) (ρ : Operand -> Option Value) (x : Operand) : Option (ANext × AW) :=
 aVal W (ρ x)
def opAssign (T : Tabs) (W : AW) (ρ : Operand -> Option Value) (x : Operand) : Option (ANext × AW) :=
 aVal W (ρ x)
def opPick (T : Tabs) (W : AW) (ρ : Operand -> Option Value) (c a b : Operand) : Option (ANext × AW) :=
 match ρ c with
 | some (.bool true) => aVal W (ρ a)
 | some (.bool false) => aVal W (ρ b)
 | _ => none
def opAlloc (T : Tabs) (W : AW) (ρ : Operand -> Option Value) (elem : TypeId) : Option (ANext × AW) :=
 match aZero T elem with
 | some z => some (.value (.pointer (some ⟨W.next, 0, none⟩)), W.newCells elem (acells z))
 | none => none
def opBox (T : Tabs) (W : AW) (ρ : Operand -> Option Value) (elem : TypeId) (x : Operand) : Option (ANext × AW) :=
 match ρ x with
 | some v => some (.value (.pointer (some ⟨W.next, 0, none⟩)), W.newCells elem (acells v))
 | none => none
def opBuild (T : Tabs) (W : AW) (ρ : Operand -> Option Value) (t : TypeId) (parts : Array (Nat × Operand)) : Option (ANext × AW) :=
 match aParts ρ parts.toList with
 | some ps => aVal W (aBuild T t ps)
 | none => none
def opBuildSlice (T : Tabs) (W : AW) (ρ : Operand -> Option Value) (t : TypeId) (len : Nat) (parts : Array (Nat × Operand)) : Option (ANext × AW) :=
 match aParts ρ parts.toList with
 | some ps => aValW (aBuildSlice T W t len ps)
 | none => none
def opLoad (T : Tabs) (W : AW) (ρ : Operand -> Option Value) (t : TypeId) (a : Operand) : Option (ANext × AW) :=
 match ρ a with
 | some v => match aAddr v with
  | some (b, o) => aVal W (aLoadVar T W t b o)
  | none => none
 | none => none
def opStore (T : Tabs) (W : AW) (ρ : Operand -> Option Value) (t : TypeId) (a x : Operand) : Option (ANext × AW) :=
 match ρ a, ρ x with
 | some v, some u => match aAddr v with
  | some (b, o) => match aStoreVar T W t b o u with
   | some W' => some (.skip, W')
   | none => none
  | none => none
 | _, _ => none
def opNilCheck (T : Tabs) (W : AW) (ρ : Operand -> Option Value) (x : Operand) : Option (ANext × AW) :=
 match ρ x with
 | some v => match nilChecked T v with
  | true => some (.value v, W)
  | false => none
 | none => none
def aAgg (T : Tabs) (op : BinOp) (t : TypeId) (a b : Value) : Option Value :=
 match T.und.get t with
 | some (.array _ e) => match T.und.get e, keyOk T t a, keyOk T t b with
  | some (.int _), true, true => match op with
   | .eql => some (.bool (keyEq a b))
   | .neq => some (.bool (!keyEq a b))
   | _ => none
  | _, _, _ => none
 | _ => none
theorem guard_arr {T : Tabs} {P : Program} (hT : T.Ok P) {t : TypeId} {n : Nat} {e : TypeId} {k : IntKind} (hu : T.und.get t = some (.array n e)) (he : T.und.get e = some (.int k)) : P.eqGuardType P.depth t = false := by
 obtain ⟨m, hm⟩ : ∃ m, P.depth = m + 1 + 1 := ⟨2 * (P.types.size + Made.depth), rfl⟩
 rw [hm]
 simp only [Program.eqGuardType, hT.und _ _ hu, hT.und _ _ he]
theorem aAgg_spec {T : Tabs} {P : Program} (hT : T.Ok P) {η : Env} {op : BinOp} {t : TypeId} {xo yo : Operand} {a b : Array Value} {x' y' v : Value} (h : aAgg T op t (.agg a) (.agg b) = some v)
  (hx : VR η (.agg a) x') (hy : VR η (.agg b) y') (w : World) : (do eqGuard op t xo yo x' y'; binOp op t x' y').run P w = .ok v w /\ VR η v v := by
 unfold aAgg at h
 split at h
 ·rename_i n e hu
  split at h
  ·rename_i k he k1 k2
   cases flat_eq (keyOk_flat k1) hx
   cases flat_eq (keyOk_flat k2) hy
   have hb := binOp_eql_other (t := t) hx hy (fun k a k' b hh => by cases hh.1) (fun a b hh => by cases hh.1)
   have hg := fun op => run_eqGuard_agg (P := P) (w := w) op t xo yo a b (guard_arr hT hu he)
   have hq := run_equal_key hT k1 k2 w
   split at h
   ·cases h
    rw [hb.1]
    refine ⟨?_, .bool _⟩
    simp only [Sem.run_bind, hg, hq, Result.andThen_ok, Sem.run_pure]
   ·cases h
    rw [hb.2]
    refine ⟨?_, .bool _⟩
    simp only [Sem.run_bind, hg, hq, Result.andThen_ok, Sem.run_pure]
   ·cases h
  ·cases h
 ·cases h
def opBinOp (T : Tabs) (W : AW) (ρ : Operand -> Option Value) (op : BinOp) (t : TypeId) (x y : Operand) : Option (ANext × AW) :=
 match ρ x, ρ y with
 | some (.agg a), some (.agg b) => aVal W (aAgg T op t (.agg a) (.agg b))
 | some a, some b => aVal W (aBin T op t x y a b)
 | _, _ => none
def opUnOp (T : Tabs) (W : AW) (ρ : Operand -> Option Value) (op : UnOp) (x : Operand) : Option (ANext × AW) :=
 match ρ x with
 | some a => aVal W (aUn op a)
 | none => none
def opConvert (T : Tabs) (W : AW) (ρ : Operand -> Option Value) (s d : TypeId) (x : Operand) : Option (ANext × AW) :=
 match ρ x with
 | some a => aVal W (aConv T W s d a)
 | none => none
def opMakeInterface (T : Tabs) (W : AW) (ρ : Operand -> Option Value) (t : TypeId) (x : Operand) : Option (ANext × AW) :=
 match T.und.get t, ρ x with
 | some (.interface _), _ => none
 | some _, some v => some (.value (.iface t v), W)
 | _, _ => none
def opMakeFunc (T : Tabs) (W : AW) (ρ : Operand -> Option Value) (fn : Fn) (first cap : Array Operand) : Option (ANext × AW) :=
 match aVals ρ first.toList, aVals ρ cap.toList with
 | some a, some c => match fn with
  | .yield _ => none
  | fn => some (.value (.func fn ⟨a⟩ ⟨c⟩), W)
 | _, _ => none
def opMakeSlice (T : Tabs) (W : AW) (ρ : Operand -> Option Value) (t : TypeId) (l c : Operand) : Option (ANext × AW) :=
 match ρ l, ρ c with
 | some a, some b => aValW (aMakeSlice T W t a b)
 | _, _ => none
def opSlice (T : Tabs) (W : AW) (ρ : Operand -> Option Value) (t : TypeId) (x : Operand) (lo hi mx : Option Operand) : Option (ANext × AW) :=
 match ρ x, aOpt ρ lo, aOpt ρ hi, aOpt ρ mx with
 | some v, some l, some h, some m => aVal W (aSliceOp T W t v l h m)
 | _, _, _, _ => none
def opFieldAddr (T : Tabs) (W : AW) (ρ : Operand -> Option Value) (s : TypeId) (x : Operand) (f : Nat) : Option (ANext × AW) :=
 match ρ x with
 | some v => aVal W (aField T s v f)
 | none => none
def opField (T : Tabs) (W : AW) (ρ : Operand -> Option Value) (t : TypeId) (x : Operand) (f : Nat) : Option (ANext × AW) :=
 match ρ x with
 | some v => aVal W (aFieldOf T t v f)
 | none => none
def opIndexAddr (T : Tabs) (W : AW) (ρ : Operand -> Option Value) (t : TypeId) (x ix : Operand) : Option (ANext × AW) :=
 match ρ x, ρ ix with
 | some v, some i => aVal W (aIndexAddr T t v i)
 | _, _ => none
def opIndex (T : Tabs) (W : AW) (ρ : Operand -> Option Value) (t : TypeId) (x ix : Operand) : Option (ANext × AW) :=
 match ρ x, ρ ix with
 | some v, some i => aVal W (aIndex T t v i)
 | _, _ => none
def opExtract (T : Tabs) (W : AW) (ρ : Operand -> Option Value) (x : Operand) (i : Nat) : Option (ANext × AW) :=
 match ρ x with
 | some v => aVal W (aExtract v i)
 | none => none
def opDefer (T : Tabs) (W : AW) (ρ : Operand -> Option Value) (c : Call) : Option (ANext × AW) :=
 match aDefer ρ c with
 | some d => some (.defer d, W)
 | none => none
def opMakeMap (T : Tabs) (W : AW) (ρ : Operand -> Option Value) (t : TypeId) (r : Option Operand) : Option (ANext × AW) :=
 match aOpt ρ r with
 | some o => aValW (aMakeMap T W t o)
 | none => none
def opLookup (T : Tabs) (W : AW) (ρ : Operand -> Option Value) (xt : TypeId) (x ix : Operand) (c : Bool) : Option (ANext × AW) :=
 match ρ x, ρ ix with
 | some a, some b => aVal W (aLookup T W xt a b c)
 | _, _ => none
def opMapUpdate (T : Tabs) (W : AW) (ρ : Operand -> Option Value) (mt : TypeId) (m k x : Operand) : Option (ANext × AW) :=
 match ρ m, ρ k, ρ x with
 | some a, some b, some c => match aMapUpdate T W mt a b c with
  | some W' => some (.skip, W')
  | none => none
 | _, _, _ => none
def opMapEntry (T : Tabs) (W : AW) (ρ : Operand -> Option Value) (mt : TypeId) (m k : Operand) : Option (ANext × AW) :=
 match ρ m, ρ k with
 | some a, some b => aValW (aMapEntry T W mt a b)
 | _, _ => none
def opEntryStore (W : AW) (ρ : Operand -> Option Value) (m s x : Operand) : Option (ANext × AW) :=
 match ρ m, ρ s, ρ x with
 | some a, some b, some c => match aEntryStore W a b c with
  | some W' => some (.skip, W')
  | none => none
 | _, _, _ => none
def opRange (T : Tabs) (W : AW) (ρ : Operand -> Option Value) (xt : TypeId) (x : Operand) : Option (ANext × AW) :=
 match ρ x with
 | some a => aValW (aRangeS T W xt a)
 | none => none
def opNext (T : Tabs) (W : AW) (ρ : Operand -> Option Value) (x : Operand) (s : Bool) : Option (ANext × AW) :=
 match ρ x with
 | some a => aValW (aNext W a s)
 | none => none
def opEntry (W : AW) (ρ : Operand -> Option Value) (x : Operand) : Option (ANext × AW) :=
 match ρ x with
 | some a => aVal W (aEntry W a)
 | none => none
def opAssert (T : Tabs) (W : AW) (ρ : Operand -> Option Value) (x : Operand) (t : TypeId) (ok : Bool) : Option (ANext × AW) :=
 match ρ x with
 | some a => aVal W (aAssert T a t ok)
 | none => none
def aOp (T : Tabs) (W : AW) (ρ : Operand -> Option Value) (o : Oper) : Option (ANext × AW) :=
 match o.op with
 | .move x => opMove T W ρ x
 | .assign x => opAssign T W ρ x
 | .pick c a b => opPick T W ρ c a b
 | .alloc elem => opAlloc T W ρ elem
 | .box elem x => opBox T W ρ elem x
 | .build t parts => opBuild T W ρ t parts
 | .buildSlice t len parts => opBuildSlice T W ρ t len parts
 | .load t a => opLoad T W ρ t a
 | .store t a x => opStore T W ρ t a x
 | .nilCheck x => opNilCheck T W ρ x
 | .binOp op t x y _ => opBinOp T W ρ op t x y
 | .unOp op _ x => opUnOp T W ρ op x
 | .convert s d x => opConvert T W ρ s d x
 | .makeInterface t x => opMakeInterface T W ρ t x
 | .makeFunc fn first cap => opMakeFunc T W ρ fn first cap
 | .makeSlice t l c => opMakeSlice T W ρ t l c
 | .slice t x lo hi mx => opSlice T W ρ t x lo hi mx
 | .fieldAddr s x f => opFieldAddr T W ρ s x f
 | .field t x f => opField T W ρ t x f
 | .indexAddr t x ix => opIndexAddr T W ρ t x ix
 | .index t x ix => opIndex T W ρ t x ix
 | .extract x i => opExtract T W ρ x i
 | .call c => aCall T W ρ c
 | .defer c => opDefer T W ρ c
 | .makeMap t r => opMakeMap T W ρ t r
 | .lookup xt x ix c => opLookup T W ρ xt x ix c
 | .mapUpdate mt m k x => opMapUpdate T W ρ mt m k x
 | .insert mt m k x => opMapUpdate T W ρ mt m k x
 | .mapEntry mt m k => opMapEntry T W ρ mt m k
 | .entryStore _ m s x => opEntryStore W ρ m s x
 | .range xt x => opRange T W ρ xt x
 | .next x s => opNext T W ρ x s
 | .entry x => opEntry W ρ x
 | .typeAssert x _ t ok => opAssert T W ρ x t ok
 | _ => none
section
variable {T : Tabs} {P : Program} (hT : T.Ok P) {η : Env} {W W' : AW} {w : World} (hw : WRel η W w) {ρ : Operand -> Option Value} {ρ' : Operand -> Value} (hρ : ∀ x v, ρ x = some v -> VR η v (ρ' x))
theorem res_value {s : Sem Value} {v : Value} {W' : AW} (h : Res P η W w s W' (fun η' v' => VR η' v v')) : Res P η W w (do pure (.value (<- s)) : Sem Next) W' (fun η' r' => NRel η' (.value v) r') :=
 h.bind fun _ _ _ _ h2 h3 => Res.pure h2 h3
theorem res_skip {s : Sem Unit} {W' : AW} (h : Res P η W w s W' (fun _ _ => True)) : Res P η W w (do s; pure .skip : Sem Next) W' (fun η' r' => NRel η' .skip r') :=
 h.bind fun _ _ _ _ h2 _ => Res.pure h2 trivial
include hw in
theorem res_valueEx {s : Sem Value} {v : Value} (h : ∃ v', s.run P w = .ok v' w /\ VR η v v') : Res P η W w (do pure (.value (<- s)) : Sem Next) W (fun η' r' => NRel η' (.value v) r') := by
 obtain ⟨v', h1, h2⟩ := h
 exact res_value (Res.of_eq hw h1 h2)
theorem aVal_inv {o : Option Value} {r : ANext} (h : aVal W o = some (r, W')) : ∃ v, o = some v /\ r = .value v /\ W' = W := by
 cases o with
 | none => cases h
 | some v => cases h; exact ⟨v, rfl, rfl, rfl⟩
theorem aValW_inv {o : Option (Value × AW)} {r : ANext} (h : aValW o = some (r, W')) : ∃ v, o = some (v, W') /\ r = .value v := by
 cases o with
 | none => cases h
 | some v => cases h; exact ⟨_, rfl, rfl⟩
include hT hw hρ
set_option maxHeartbeats 1000000 in
theorem aOp_spec {o : Oper} {r : ANext} (h : aOp T W ρ o = some (r, W')) : Res P η W w (execOp ρ' o) W' (fun η' r' => NRel η' r r') := by
 unfold aOp at h
 unfold execOp
 cases hop : o.op <;> simp only [hop] at h ⊢ <;> try (cases h; done)
 case move x =>
  unfold opMove at h
  obtain ⟨v, hv, rfl, rfl⟩ := aVal_inv h
  exact Res.pure hw (hρ _ _ hv)
 case assign x =>
  unfold opAssign at h
  obtain ⟨v, hv, rfl, rfl⟩ := aVal_inv h
  exact Res.pure hw (hρ _ _ hv)
 case pick c a b =>
  unfold opPick at h
  split at h
  ·rename_i hc
   obtain ⟨v, hv, rfl, rfl⟩ := aVal_inv h
   have hcv := hρ _ _ hc
   generalize ρ' c = cv at hcv
   cases hcv
   exact ⟨η, w, .value (ρ' a), by simp [asBool], .refl _ _ _, hw, hρ _ _ hv⟩
  ·rename_i hc
   obtain ⟨v, hv, rfl, rfl⟩ := aVal_inv h
   have hcv := hρ _ _ hc
   generalize ρ' c = cv at hcv
   cases hcv
   exact ⟨η, w, .value (ρ' b), by simp [asBool], .refl _ _ _, hw, hρ _ _ hv⟩
  ·cases h
 case alloc elem =>
  unfold opAlloc at h
  split at h
  ·rename_i z hz
   cases h
   obtain ⟨z1, z2⟩ := aZero_spec hT hz w η
   refine res_value ?_
   have := sound_newVar (P := P) hw (t := elem) z2
   refine Res.of_run ?_ this
   simp [Instr.alloc, z1]
  ·cases h
 case box elem x =>
  unfold opBox at h
  split at h
  ·rename_i v hv
   cases h
   refine res_value ?_
   have := sound_newVar (P := P) hw (t := elem) (hρ _ _ hv)
   exact Res.of_run (by simp [Instr.box]) this
  ·cases h
 case build t parts =>
  unfold opBuild at h
  split at h
  ·rename_i ps hps
   obtain ⟨v, hv, rfl, rfl⟩ := aVal_inv h
   have hp := aParts_spec hρ hps
   exact res_valueEx hw (sound_build hT hv (by rw [Array.toList_map]; exact hp) w)
  ·cases h
 case buildSlice t len parts =>
  unfold opBuildSlice at h
  split at h
  ·rename_i ps hps
   obtain ⟨v, hv, rfl⟩ := aValW_inv h
   have hp := aParts_spec hρ hps
   exact res_value (aBuildSlice_spec hT hw hv (by rw [Array.toList_map]; exact hp))
  ·cases h
 case load t a =>
  unfold opLoad at h
  split at h
  ·rename_i v hv
   split at h
   ·rename_i b o ha
    obtain ⟨u, hu, rfl, rfl⟩ := aVal_inv h
    obtain ⟨e, he, hr⟩ := aAddr_spec ha (hρ _ _ hv)
    obtain ⟨v', h1, h2⟩ := sound_loadVar hT hw hu he
    refine res_valueEx hw ⟨v', ?_, h2⟩
    simp [Instr.loadAt, hr, Instr.sureAddr, h1]
   ·cases h
  ·cases h
 case store t a x =>
  unfold opStore at h
  split at h
  ·rename_i v u hv hu
   split at h
   ·rename_i b o ha
    split at h
    ·rename_i W1 hst
     cases h
     obtain ⟨e, he, hr⟩ := aAddr_spec ha (hρ _ _ hv)
     obtain ⟨w', g1, g2, g3⟩ := sound_storeVar hT hw hst he (hρ _ _ hu)
     refine res_skip ⟨η, w', (), ?_, g2, g3, trivial⟩
     simp [Instr.storeAt, hr, Instr.sureAddr, g1]
    ·cases h
   ·cases h
  ·cases h
 case nilCheck x =>
  unfold opNilCheck at h
  split at h
  ·rename_i v hv
   split at h
   ·rename_i hc
    cases h
    have hr := hρ _ _ hv
    generalize hx : ρ' x = xv at hr
    refine ⟨η, w, .value xv, ?_, .refl _ _ _, hw, hr⟩
    cases hr <;> first
     | rfl
     | (simp [nilChecked] at hc; done)
     | skip
    rename_i f f' a a' c c' hf ha hcs hav hcv
    cases f' <;> first
     | rfl
     | skip
    rename_i name
    cases f <;> first
     | (cases hf; done)
     | exact hf.elim
     | skip
    rename_i name'
    have hnn : name' = name := by have := (show Fn.method name' = Fn.method name from hf); injection this
    subst hnn
    simp only [nilChecked] at hc
    split at hc
    ·rename_i t v0 tl hfirst
     split at hc
     ·rename_i l hm
      split at hc
      ·rename_i g hg
       have hfl : LR η a.toList a'.toList := AR.toList ⟨ha, hav⟩
       rw [hfirst] at hfl
       obtain ⟨u', tl', he, hu, _⟩ := hfl.uncons
       cases hu with
       | iface _ _ v' hv' =>
        have h0 : a'[0]? = some (.iface t v') := by rw [<- Array.getElem?_toList, he]; rfl
        have hmt := hT.ahead t l hm _ (aMeth_spec hg) v' w
        simp only [h0, Sem.run_bind, run_program, Result.andThen_ok, hmt]
        rfl
      ·cases hc
     ·cases hc
    ·cases hc
   ·cases h
  ·cases h
 case binOp op t x y ty =>
  unfold opBinOp at h
  split at h
  ·rename_i a b ha hb
   obtain ⟨v, hv, rfl, rfl⟩ := aVal_inv h
   exact res_valueEx hw ⟨v, aAgg_spec hT hv (hρ _ _ ha) (hρ _ _ hb) w⟩
  ·rename_i a b _ ha hb
   obtain ⟨v, hv, rfl, rfl⟩ := aVal_inv h
   exact res_valueEx hw ⟨v, aBin_spec hT hv (hρ _ _ ha) (hρ _ _ hb) w⟩
  ·cases h
 case unOp op t x =>
  unfold opUnOp at h
  split at h
  ·rename_i a ha
   obtain ⟨v, hv, rfl, rfl⟩ := aVal_inv h
   exact res_valueEx hw ⟨v, aUn_spec hv (hρ _ _ ha) P w⟩
  ·cases h
 case convert s d x =>
  unfold opConvert at h
  split at h
  ·rename_i a ha
   obtain ⟨v, hv, rfl, rfl⟩ := aVal_inv h
   exact res_valueEx hw ⟨v, aConv_spec hT hw hv (hρ _ _ ha)⟩
  ·cases h
 case makeInterface t x =>
  unfold opMakeInterface at h
  split at h
  ·cases h
  ·rename_i d v hni hu hv
   cases h
   refine res_valueEx hw ⟨.iface t (ρ' x), ?_, .iface t _ _ (hρ _ _ hv)⟩
   simp only [Instr.makeInterface, Sem.run_bind, run_under (hT.und _ _ hu), Result.andThen_ok]
   cases d <;> first | rfl | exact (hni _ hu).elim
  ·cases h
 case makeFunc fn first cap =>
  unfold opMakeFunc at h
  split at h
  ·rename_i a c ha hc
   split at h
   ·cases h
   ·rename_i hny
    cases h
    have h1 := aVals_spec hρ ha
    have h2 := aVals_spec hρ hc
    have e1 : first.map ρ' = (first.toList.map ρ').toArray := Array.toList_inj.1 (by rw [Array.toList_map])
    have e2 : cap.map ρ' = (cap.toList.map ρ').toArray := Array.toList_inj.1 (by rw [Array.toList_map])
    refine res_valueEx hw ⟨.func fn (first.map ρ') (cap.map ρ'), by simp [Instr.makeFunc], ?_⟩
    rw [e1, e2]
    refine .func _ _ _ _ _ _ ?_ h1.toArray.1 h2.toArray.1 h1.toArray.2 h2.toArray.2
    cases fn <;> first | rfl | exact (hny _ rfl).elim
  ·cases h
 case makeSlice t l c =>
  unfold opMakeSlice at h
  split at h
  ·rename_i a b ha hb
   obtain ⟨v, hv, rfl⟩ := aValW_inv h
   exact res_value (aMakeSlice_spec hT hw hv (hρ _ _ ha) (hρ _ _ hb))
  ·cases h
 case slice t x lo hi mx =>
  unfold opSlice at h
  split at h
  ·rename_i v l hh m hv h1 h2 h3
   obtain ⟨u, hu, rfl, rfl⟩ := aVal_inv h
   exact res_valueEx hw (aSliceOp_spec hT hw hu (hρ _ _ hv) (aOpt_spec hρ h1) (aOpt_spec hρ h2) (aOpt_spec hρ h3))
  ·cases h
 case fieldAddr s x f =>
  unfold opFieldAddr at h
  split at h
  ·rename_i v hv
   obtain ⟨u, hu, rfl, rfl⟩ := aVal_inv h
   exact res_valueEx hw (aField_spec hT hu (hρ _ _ hv) w)
  ·cases h
 case field t x f =>
  unfold opField at h
  split at h
  ·rename_i v hv
   obtain ⟨u, hu, rfl, rfl⟩ := aVal_inv h
   exact res_valueEx hw (aFieldOf_spec hT hu (hρ _ _ hv) w)
  ·cases h
 case indexAddr t x ix =>
  unfold opIndexAddr at h
  split at h
  ·rename_i v i hv hi
   obtain ⟨u, hu, rfl, rfl⟩ := aVal_inv h
   exact res_valueEx hw (aIndexAddr_spec hT hu (hρ _ _ hv) (hρ _ _ hi) w)
  ·cases h
 case index t x ix =>
  unfold opIndex at h
  split at h
  ·rename_i v i hv hi
   obtain ⟨u, hu, rfl, rfl⟩ := aVal_inv h
   exact res_valueEx hw (aIndex_spec hT hu (hρ _ _ hv) (hρ _ _ hi) w)
  ·cases h
 case extract x i =>
  unfold opExtract at h
  split at h
  ·rename_i v hv
   obtain ⟨u, hu, rfl, rfl⟩ := aVal_inv h
   exact res_valueEx hw (aExtract_spec hu (hρ _ _ hv) P w)
  ·cases h
 case call c => exact aCall_spec hT hw hρ o.type h
 case makeMap t r =>
  unfold opMakeMap at h
  split at h
  ·rename_i o ho
   obtain ⟨v, hv, rfl⟩ := aValW_inv h
   exact res_value (aMakeMap_spec hT hw hv (aOpt_spec hρ ho))
  ·cases h
 case lookup xt x ix c =>
  unfold opLookup at h
  split at h
  ·rename_i a b ha hb
   obtain ⟨u, hu, rfl, rfl⟩ := aVal_inv h
   exact res_valueEx hw (aLookup_spec hT hw hu (hρ _ _ ha) (hρ _ _ hb))
  ·cases h
 case mapUpdate mt m k x =>
  unfold opMapUpdate at h
  split at h
  ·rename_i a b c ha hb hc
   split at h
   ·rename_i W1 hu
    cases h
    exact res_skip (aMapUpdate_spec hT hw hu (hρ _ _ ha) (hρ _ _ hb) (hρ _ _ hc))
   ·cases h
  ·cases h
 case insert mt m k x =>
  unfold opMapUpdate at h
  split at h
  ·rename_i a b c ha hb hc
   split at h
   ·rename_i W1 hu
    cases h
    exact res_skip (aMapUpdate_spec hT hw hu (hρ _ _ ha) (hρ _ _ hb) (hρ _ _ hc))
   ·cases h
  ·cases h
 case mapEntry mt m k =>
  unfold opMapEntry at h
  split at h
  ·rename_i a b ha hb
   obtain ⟨v, hv, rfl⟩ := aValW_inv h
   exact res_value (aMapEntry_spec hT hw hv (hρ _ _ ha) (hρ _ _ hb))
  ·cases h
 case entryStore mt m s x =>
  unfold opEntryStore at h
  split at h
  ·rename_i a b c ha hb hc
   split at h
   ·rename_i W1 hu
    cases h
    exact res_skip (aEntryStore_spec hw hu (hρ _ _ ha) (hρ _ _ hb) (hρ _ _ hc))
   ·cases h
  ·cases h
 case range xt x =>
  unfold opRange at h
  split at h
  ·rename_i a ha
   obtain ⟨v, hv, rfl⟩ := aValW_inv h
   exact res_value (aRangeS_spec hT hw hv (hρ _ _ ha))
  ·cases h
 case next x s =>
  unfold opNext at h
  split at h
  ·rename_i a ha
   obtain ⟨v, hv, rfl⟩ := aValW_inv h
   exact res_value (aNext_spec hw _ hv (hρ _ _ ha))
  ·cases h
 case entry x =>
  unfold opEntry at h
  split at h
  ·rename_i a ha
   obtain ⟨u, hu, rfl, rfl⟩ := aVal_inv h
   exact res_valueEx hw (aEntry_spec hw hu (hρ _ _ ha))
  ·cases h
 case typeAssert x xt t ok =>
  unfold opAssert at h
  split at h
  ·rename_i a ha
   obtain ⟨u, hu, rfl, rfl⟩ := aVal_inv h
   exact res_valueEx hw (aAssert_spec hT hu (hρ _ _ ha))
  ·cases h
 case defer c =>
  unfold opDefer at h
  split at h
  ·rename_i d hd
   cases h
   unfold aDefer at hd
   split at hd
   ·rename_i f hcal
    split at hd
    ·rename_i fn first cap args hf hargs
     split at hd
     ·cases hd
     ·rename_i hny
      cases hd
      have hl := aVals_spec hρ hargs
      have hv := hρ _ _ hf
      generalize hfv : ρ' f = fv at hv
      cases hv with
      | func _ f' _ a' _ c' hfn ha hc hav hcv =>
       have e : a' ++ c.args.map ρ' = (a'.toList ++ c.args.toList.map ρ').toArray := Array.toList_inj.1 (by simp)
       refine ⟨η, w, .defer { target := .fn f' c', args := a' ++ c.args.map ρ' }, ?_, .refl _ _ _, hw, ⟨hfn, hc, hcv⟩, ?_⟩
       ·simp only [resolve, hcal, hfv, Deferred.ofValue]; rfl
       ·rw [e]
        exact ((AR.toList ⟨ha, hav⟩ : LR η _ _).append hl).toArray
    ·cases hd
   ·cases hd
  ·cases h
end
end Go.Eng
