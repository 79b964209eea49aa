import Derived.Test.YtdpnplanohgecaaDoorEngW
set_option linter.unusedSimpArgs false
set_option linter.unusedVariables false
set_option linter.unusedSectionVars false
namespace Go.Eng
def curD (wr : Tr Nat) (vals t : Tr Value) (listed : Array Bool) (d : Nat) : Option Value :=
 match wr.get d with
 | some q => if listed.getD q false = true then vals.get q else t.get d
 | none => t.get d
structure Plan (T : Tabs) (ih : Ih) (ro : Option Nat) (ops : Array Oper) (wr bits : Tr Nat) (A : AAct) (W₀ W' : AW) (S : DSt) : Prop where
 wr1 : ∀ d q, wr.get d = some q -> ∃ o, ops[q]? = some o /\ o.dst = some d
 wr2 : ∀ (j : Nat) (o : Oper) d, ops[j]? = some o -> o.dst = some d -> wr.get d = some j
 bitsOk : ∀ (i : Nat) (o : Oper), ops[i]? = some o -> ∃ m, bits.get i = some m /\ BitsOk bits o i m
 vals : ∀ (i : Nat) (o : Oper), ops[i]? = some o -> ∃ v, S.vals.get i = some v
 dst : ∀ (i : Nat) (o : Oper) d, ops[i]? = some o -> o.dst = some d -> d < A.n
 fact : ∀ i v, S.vals.get i = some v -> OpFact ih T ro ops.toList wr bits A.tmps S i v
 chain : dChain bits S.hs = true
 lights : dLights T ops.toList wr bits A.tmps S ops.toList 0 = true
 fresh : dFreshes bits S ops.toList 0 = true
 disj : Disj S.iv
 low : ∀ i lo hi, S.iv.get i = some (lo, hi) -> W₀.next <= lo
 len : S.ws.length = S.hs.length + 1
 last : ∃ r, S.ws = r ++ [W']
 dup : S.hs.Nodup
 hv : ∀ h ∈ S.hs, S.vals.get h ≠ none
structure Mid (wr bits : Tr Nat) (ops : Array Oper) (A : AAct) (W₀ : AW) (S : DSt) (η₀ : Env) (w₀ : World) (listed : Array Bool) (j : Nat) (η : Env) (a : Act) (w : World) : Prop where
 size : listed.size = ops.size
 closed : ∀ i m q, listed.getD i false = true -> bits.get i = some m -> Nat.testBit m q = true -> listed.getD q false = true
 heavy : ∀ (r h : Nat), S.hs[r]? = some h -> (listed.getD h false = true ↔ r < j)
 world : ∃ Wj, S.ws[j]? = some Wj /\ WRel η Wj w /\ W₀.next <= Wj.next
 frame : Fr η₀ W₀ w₀ η W₀ w
 dom : ∀ b e, η b = some e -> b < W₀.next \/ ∃ i lo hi, listed.getD i false = true /\ S.iv.get i = some (lo, hi) /\ lo <= b /\ b < hi
 slots : a.tmps.size = A.n /\ ∀ d v, curD wr S.vals A.tmps listed d = some v -> ∃ v', a.tmps[d]? = some v' /\ VR η v v'
 defers : DsRel η A.defers a.defers
theorem getD_set_self {listed : Array Bool} {i : Nat} (h : i < listed.size) : (listed.setIfInBounds i true).getD i false = true := by simp [h]
section
variable {T : Tabs} {P : Program} (hT : T.Ok P) {ih : Ih} (hih : IhOk T P ih) {ro : Option Nat} {ops : Array Oper} {wr bits : Tr Nat} {A : AAct} {W₀ W' : AW} {S : DSt} (hp : Plan T ih ro ops wr bits A W₀ W' S)
include hp in
theorem slots_put {listed : Array Bool} {i : Nat} {o : Oper} {v v' : Value} {η η' : Env} {a : Act} (ho : ops[i]? = some o) (hsz : listed.size = ops.size) (hv : S.vals.get i = some v) (hle : η.Le η') (hr : VR η' v v')
  (hs : a.tmps.size = A.n /\ ∀ d v, curD wr S.vals A.tmps listed d = some v -> ∃ v', a.tmps[d]? = some v' /\ VR η v v') :
  (a.put o.dst v').tmps.size = A.n /\ ∀ d v, curD wr S.vals A.tmps (listed.setIfInBounds i true) d = some v -> ∃ u, (a.put o.dst v').tmps[d]? = some u /\ VR η' v u := by
 have hi : i < listed.size := by rw [hsz]; exact (Array.getElem?_eq_some_iff.1 ho).1
 have hput : (a.put o.dst v').tmps = match o.dst with | some d => a.tmps.setIfInBounds d v' | none => a.tmps := by
  cases hd : o.dst <;> simp [Act.put]
 refine ⟨?_, fun d u hu => ?_⟩
 ·rw [hput]; cases o.dst <;> simp [hs.1]
 ·by_cases hw : wr.get d = some i
  ·obtain ⟨o', ho', hd⟩ := hp.wr1 _ _ hw
   rw [ho] at ho'; cases ho'
   unfold curD at hu
   rw [hw] at hu
   simp only [getD_set_self hi, if_true, hv] at hu
   cases hu
   have hlt := hp.dst i o d ho hd
   rw [hput, hd]
   exact ⟨v', by simp [hs.1, hlt], hr⟩
  ·have hcur : curD wr S.vals A.tmps listed d = some u := by
    unfold curD at hu ⊢
    split at hu
    ·rename_i q hq
     have hne : i ≠ q := fun e => hw (e ▸ hq)
     rw [getD_set_ne false hne] at hu
     exact hu
    ·exact hu
   obtain ⟨u', g1, g2⟩ := hs.2 d u hcur
   refine ⟨u', ?_, g2.mono hle⟩
   rw [hput]
   cases hd : o.dst with
   | none => exact g1
   | some d₀ =>
    have hne : d₀ ≠ d := fun e => hw (hp.wr2 i o d ho (e ▸ hd))
    simp only
    rw [Array.getElem?_setIfInBounds_ne hne]; exact g1
include hT hih hp in
theorem mid_step {η₀ : Env} {w₀ : World} {listed : Array Bool} {j : Nat} {η : Env} {a : Act} {w : World} (hm : Mid wr bits ops A W₀ S η₀ w₀ listed j η a w) {i : Nat} (hi : i ∈ Region.ready .any ops listed)
  (hG : GRel T η₀) {b : Frame} (hro : RoRel η₀ ro b.roundOf) {cs : List Frame} (hk : Ctx b.kind cs) (rest : List Nat) (k : List Item) :
  ∃ j' η' a' w', Mid wr bits ops A W₀ S η₀ w₀ (listed.setIfInBounds i true) j' η' a' w' /\
   Steps P (lone (b.atR a (.inRegion ops (i :: rest) :: k)) cs w) (lone (b.atR a' (.inRegion ops rest :: k)) cs w') := by
 obtain ⟨hnl, o, ho, hall⟩ := mem_ready.1 hi
 have hilt : i < listed.size := by rw [hm.size]; exact (Array.getElem?_eq_some_iff.1 ho).1
 have hni : listed.getD i false = false := by
  have : listed[i]? = some listed[i] := Array.getElem?_eq_getElem hilt
  simp [this] at hnl ⊢; exact hnl
 have hG' := hG.mono hm.frame.le
 have hro' := hro.mono hm.frame.le
 obtain ⟨m, hbm, hb1, hb2⟩ := hp.bitsOk i o ho
 have hpre : ∀ q, Nat.testBit m q = true -> listed.getD q false = true := by
  intro q hq
  obtain ⟨e, he, hb, hx⟩ := hb2 q hq
  have hl : listed.getD e.on false = true := hall e (Array.mem_toList_iff.1 he) (by
   unfold bindsAny at hb
   unfold Region.binds
   split at hb
   ·cases hb
   ·cases hb
   ·split <;> simp_all)
  rcases hx with rfl | ⟨mq, h1, h2⟩
  ·exact hl
  ·exact hm.closed _ _ _ hl h1 h2
 have hclosed : ∀ i' m' q, (listed.setIfInBounds i true).getD i' false = true -> bits.get i' = some m' -> Nat.testBit m' q = true -> (listed.setIfInBounds i true).getD q false = true := by
  intro i' m' q h1 h2 h3
  apply getD_set_true
  by_cases e : i = i'
  ·subst e; rw [hbm] at h2; cases h2; exact hpre q h3
  ·rw [getD_set_ne false e] at h1; exact hm.closed _ _ _ h1 h2 h3
 obtain ⟨v, hv⟩ := hp.vals i o ho
 have hlook : ∀ d u, dLook wr bits S.vals A.tmps i m d = some u -> VR η u (a.tmps.getD d undef) := by
  intro d u hu
  have hc : curD wr S.vals A.tmps listed d = some u := by
   unfold dLook at hu
   unfold curD
   split at hu
   ·rename_i hq; rw [hq]; exact hu
   ·rename_i q hq
    rw [hq]
    simp only
    split at hu
    ·rename_i hb; rw [if_pos (hpre q hb)]; exact hu
    ·split at hu
     ·rename_i hqi
      have hqi := Nat.eq_of_beq_eq_true hqi
      subst hqi
      rw [if_neg (by rw [hni]; simp)]; exact hu
     ·split at hu
      ·cases hu
      ·rename_i mq hmq
       split at hu
       ·rename_i hbi
        rw [if_neg]
        ·exact hu
        ·intro hl
         have := hm.closed _ _ _ hl hmq hbi
         rw [hni] at this; cases this
       ·cases hu
  obtain ⟨u', g1, g2⟩ := hm.slots.2 d u hc
  obtain ⟨g3, g4⟩ := Array.getElem?_eq_some_iff.1 g1
  have : a.tmps.getD d undef = u' := by simp [Array.getD, g3, g4]
  rw [this]; exact g2
 obtain ⟨Wj, hWj, hwj, hW0⟩ := hm.world
 obtain ⟨o', m', f, ho', hbm', hf, hcase⟩ := hp.fact i v hv
 have : o' = o := by simpa [ho] using ho'.symm
 subst this
 have : m' = m := by rw [hbm] at hbm'; exact (Option.some.inj hbm').symm
 subst this
 have hfa : ∀ d u, f d = some u -> VR η u (a.tmps.getD d undef) := fun d u hu => hlook d u (hf d u hu)
 have hρ : ∀ (g : Tmp -> Option Value), (∀ d u, g d = some u -> VR η u (a.tmps.getD d undef)) -> ∀ x u, aEvalF T g x = some u -> VR η u (a.eval x) := by
  intro g hg x u hu
  cases x with
  | tmp d => exact hg d u hu
  | const c =>
   have : aEval T (.nil : Tr Value) (.const c) = some u := hu
   exact aEval_spec (n := a.tmps.size) hG' ⟨rfl, fun i v h => by simp [Tr.get_nil] at h⟩ this
  | global c =>
   have : aEval T (.nil : Tr Value) (.global c) = some u := hu
   exact aEval_spec (n := a.tmps.size) hG' ⟨rfl, fun i v h => by simp [Tr.get_nil] at h⟩ this
  | func c =>
   have : aEval T (.nil : Tr Value) (.func c) = some u := hu
   exact aEval_spec (n := a.tmps.size) hG' ⟨rfl, fun i v h => by simp [Tr.get_nil] at h⟩ this
 have hheavy : i ∉ S.hs -> ∀ (r h : Nat), S.hs[r]? = some h -> ((listed.setIfInBounds i true).getD h false = true ↔ r < j) := by
  intro hin r h hr
  have hne : i ≠ h := fun e => hin (e ▸ List.mem_of_getElem? hr)
  rw [getD_set_ne false hne]; exact hm.heavy r h hr
 have hdom : ∀ b' e, η b' = some e -> b' < W₀.next \/ ∃ i' lo hi, (listed.setIfInBounds i true).getD i' false = true /\ S.iv.get i' = some (lo, hi) /\ lo <= b' /\ b' < hi := by
  intro b' e he
  exact (hm.dom b' e he).imp id fun ⟨i', lo, hi, h1, h2⟩ => ⟨i', lo, hi, getD_set_true h1, h2⟩
 have hsz' : (listed.setIfInBounds i true).size = ops.size := by simp [hm.size]
 have hmay : dMay bits i m' j 0 S.hs = true := by
  cases hd : dMay bits i m' j 0 S.hs with
  | true => rfl
  | false =>
   obtain ⟨r, h, mh, h1, h2, h3⟩ := dMay_spec bits i m' j S.hs 0 hd
   rw [Nat.zero_add] at h3
   rcases h3 with ⟨h3, h4⟩ | ⟨h3, h4⟩
   ·exact absurd ((hm.heavy r h h1).1 (hpre h h3)) h4
   ·have := hm.closed _ _ _ ((hm.heavy r h h1).2 h3) h2 h4
    rw [hni] at this; cases this
 rcases hcase with ⟨hw, rfl, hin⟩ | ⟨hw, hcase⟩
 ·-- not carried out
  have hwant := aWanted_spec (ops := ops) (tmps := a.tmps) hw hfa
  refine ⟨j, η, a.put o'.dst undef, w, ⟨hsz', hclosed, hheavy hin, ⟨Wj, hWj, hwj, hW0⟩, hm.frame, hdom, slots_put hp ho hm.size hv (.refl η) (vr_undef η) hm.slots, ?_⟩, .one ?_⟩
  ·cases o'.dst <;> exact hm.defers
  ·have := stepR_op_skip (P := P) (b := b) (a := a) (k := k) (cs := cs) (w := w) (ops := ops) (i := i) (rest := rest) (by simp [ho, hwant])
   simp only [ho, Option.bind_some] at this
   exact this
 ·have hwant := aWanted_spec (ops := ops) (tmps := a.tmps) hw hfa
  rcases hcase with ⟨hl, hin, W₁, W₂, hop⟩ | ⟨hl, hfl, hin, F, bn, hop, rfl, hflt, hiv⟩ | ⟨hl, hfl, j', Wj', W'', Wn, hj', hWj', hWn, hop, hgrow, hiv⟩
  ·-- light
   have key : ∃ g, (∀ d u, g d = some u -> VR η u (a.tmps.getD d undef)) /\ aOp T Wj (aEvalF T g) o' = some (.value v, Wj) := by
    cases hpl : isPlain o'.op with
    | true => exact ⟨f, hfa, aOp_plain Wj hl hpl hop⟩
    | false =>
     obtain ⟨m₂, v₂, h1, h2, h3⟩ := dLights_spec T ops.toList wr bits A.tmps S ops.toList 0 hp.lights i o' (by simpa using ho) hl hpl
     rw [Nat.zero_add] at h1 h2 h3
     rw [hbm] at h1; cases h1
     rw [hv] at h2; cases h2
     obtain ⟨W₃, h4⟩ := dLight_spec T o' _ v bits i m' S.hs S.ws 0 (h3 (aWanted_mono hf hw)) j Wj hWj (by rw [Nat.zero_add]; exact hmay)
     have := aOp_light hl h4
     subst this
     exact ⟨_, hlook, h4⟩
   obtain ⟨g, hg, hop'⟩ := key
   have hnd : isDefer o'.op = false := by cases hx : o'.op <;> first | rfl | (rw [hx] at hl; cases hl)
   have hoper : aOper ih T ro o' g Wj = some (v, [], Wj) := by
    unfold aOper
    rw [hnd, hop']
    cases ro <;> rfl
   obtain ⟨η', v', ds', w', q1, q2, q3, q4, q5⟩ := aOper_spec hT hih hoper hwj hG' (hρ g hg) hro' hk (k := k) (rest := rest) ho hwant
   have hds : ds' = [] := by cases ds' with
    | nil => rfl
    | cons _ _ => exact q4.elim
   subst hds
   refine ⟨j, η', _, w', ⟨hsz', hclosed, hheavy hin, ⟨Wj, hWj, q2, hW0⟩, hm.frame.trans (q1.weak hW0), fun b' e he => ?_, ?_, ?_⟩, q5⟩
   ·rcases q1.fresh b' e he with h1 | h1
    ·exact hdom b' e h1
    ·exact absurd (q2.next b' e he) (Nat.not_lt.2 h1)
   ·exact slots_put hp ho hm.size hv q1.le q3 (a := { a with defers := [] ++ a.defers }) hm.slots
   ·have := hm.defers.mono q1.le
    cases o'.dst <;> exact this
  ·-- floats
   obtain ⟨l', v', h1, h2, h3⟩ := aFlt_run hT (hρ f hfa) hop w
   obtain ⟨m₂, h4, h5⟩ := dFreshes_spec bits S ops.toList 0 hp.fresh i o' (by simpa using ho) bn F (by rw [Nat.zero_add]; exact hflt)
   rw [Nat.zero_add] at h4 h5
   rw [hbm] at h4; cases h4
   have hfr := dFresh_spec bits i m' S.hs bn F.elem F.cells S.ws 0 h5 j Wj hWj (by rw [Nat.zero_add]; exact hmay)
   have hb : η bn = none := by
    cases hx : η bn with
    | none => rfl
    | some e =>
     have hlow := hp.low _ _ _ hiv
     rcases hm.dom bn e hx with h6 | ⟨i', lo, hi', h6, h7, h8, h9⟩
     ·omega
     ·have hne : i ≠ i' := fun e => by subst e; rw [hni] at h6; cases h6
      rcases hp.disj _ _ _ _ _ _ hne hiv h7 with h | h <;> omega
   obtain ⟨q1, q2⟩ := hwj.late hfr hb h2
   have q2 := q2 W₀ (hp.low _ _ _ hiv)
   have hself : (η.add bn (w.heap.size, 0, l'.length)) bn = some (w.heap.size, 0, l'.length) := Env.add_self _ _ _
   have hnd : ∀ c, o'.op ≠ .defer c := fun c hc => by rw [hc] at hfl; cases hfl
   have hg := stepGR_op (P := P) (b := b) (k := k) (cs := cs) (w := w) (rest := rest) ho hwant
   rw [Oper.semAt_eq _ _ _ hnd] at hg
   have hfin : (b.atR a (.inRegion ops (i :: rest) :: k)).finish v' = b.atR (a.put o'.dst v') (.inRegion ops rest :: k) := by
    rw [Frame.finish_atR, ho]; rfl
   refine ⟨j, _, a.put o'.dst v', _, ⟨hsz', hclosed, hheavy hin, ⟨Wj, hWj, q1, hW0⟩, hm.frame.trans q2, fun b' e he => ?_, slots_put hp ho hm.size hv q2.le (h3 _ _ _ hself) hm.slots, ?_⟩, .one (step_lone_go ?_)⟩
   ·by_cases hbb : b' = bn
    ·subst hbb
     exact .inr ⟨i, b', b' + 1, getD_set_self hilt, hiv, Nat.le_refl _, Nat.lt_succ_self _⟩
    ·exact hdom b' e (by simpa [Env.add, hbb] using he)
   ·have := hm.defers.mono q2.le
    cases o'.dst <;> exact this
   ·rw [hg, <- hfin]
    simp [stepG.apply, h1]
  ·-- heavy
   have hjj : j' = j := by
    have h1 : ¬ j' < j := fun h => by have := (hm.heavy j' i hj').2 h; rw [hni] at this; cases this
    cases j' with
    | zero => omega
    | succ r =>
     have hr : ∃ h, S.hs[r]? = some h := by
      have := (List.getElem?_eq_some_iff.1 hj').1
      exact ⟨S.hs[r], List.getElem?_eq_getElem (by omega)⟩
     obtain ⟨h, hr⟩ := hr
     obtain ⟨m₂, h2, h3⟩ := dChain_spec bits S.hs hp.chain r h i hr hj'
     rw [hbm] at h2; cases h2
     have := (hm.heavy r h hr).1 (hpre h h3)
     omega
   subst hjj
   rw [hWj] at hWj'; cases hWj'
   obtain ⟨η', v', ds', w', q1, q2, q3, q4, q5⟩ := aOper_spec hT hih hop hwj hG' (hρ f hfa) hro' hk (k := k) (rest := rest) ho hwant
   have hds : ds' = [] := by cases ds' with
    | nil => rfl
    | cons _ _ => exact q4.elim
   subst hds
   refine ⟨j' + 1, η', _, w', ⟨hsz', hclosed, fun r h hr => ?_, ⟨Wn, hWn, q2.grow hgrow, Nat.le_trans hW0 (Nat.le_trans q1.next hgrow.1)⟩, hm.frame.trans (q1.weak hW0), fun b' e he => ?_, ?_, ?_⟩, q5⟩
   ·by_cases e : i = h
    ·subst e
     have : r = j' := by
      have h1 := List.getElem?_eq_some_iff.1 hr
      have h2 := List.getElem?_eq_some_iff.1 hj'
      exact (List.getElem_inj hp.dup).1 (h1.2.trans h2.2.symm)
     subst this
     simp only [getD_set_self hilt, true_iff]; omega
    ·rw [getD_set_ne false e, hm.heavy r h hr]
     have : r ≠ j' := fun x => by subst x; rw [hj'] at hr; exact e (Option.some.inj hr)
     omega
   ·rcases q1.fresh b' e he with h1 | h1
    ·exact hdom b' e h1
    ·exact .inr ⟨i, _, _, getD_set_self hilt, hiv, h1, q2.next b' e he⟩
   ·exact slots_put hp ho hm.size hv q1.le q3 (a := { a with defers := [] ++ a.defers }) hm.slots
   ·have := hm.defers.mono q1.le
    cases o'.dst <;> exact this
end
end Go.Eng
