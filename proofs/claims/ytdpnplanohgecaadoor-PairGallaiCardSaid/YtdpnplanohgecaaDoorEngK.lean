import Derived.Test.YtdpnplanohgecaaDoorEngJ
set_option linter.unusedSimpArgs false
set_option linter.unusedVariables false
set_option linter.unusedSectionVars false
namespace Go.Eng
def aLen (T : Tabs) (W : AW) (t : TypeId) (x : Value) : Option Value :=
 match T.und.get t, x with
 | some .string, .string s => some (.int .i64 s.data.toList.length)
 | some (.array n _), _ => some (.int .i64 n)
 | some (.pointer arr), _ => match T.und.get arr with
  | some (.array n _) => some (.int .i64 n)
  | _ => none
 | some (.slice _), .slice _ n _ => some (.int .i64 n)
 | some (.map _ _), .map none => some (.int .i64 0)
 | some (.map _ _), .map (some r) => match W.blocks.get r with
  | some ⟨.map es _, _⟩ => some (.int .i64 es.length)
  | _ => none
 | _, _ => none
theorem EsRel.length {η : Env} : ∀ {l : List (Value × Value × Nat)} {l' : List MapEntry}, EsRel η l l' -> l.length = l'.length
 | [], [], _ => rfl
 | (_, _, _) :: _, _ :: _, h => by simp [EsRel.length h.2.2.2]
 | [], _ :: _, h => h.elim
 | _ :: _, [], h => h.elim
theorem WRel.mapAt {η : Env} {W : AW} {w : World} (h : WRel η W w) {r : Nat} {es : List (Value × Value × Nat)} {k : Nat} {kin : List (Nat × Bool)} (hg : W.blocks.get r = some ⟨.map es k, kin⟩) {e : Nat × Nat × Nat} (he : η r = some e) :
  ∃ es', w.heap[e.1]? = some (.map es' k) /\ EsRel η es es'.toList /\ e.2.2 ≠ 0 := by
 obtain ⟨o, h2, h3⟩ := h.obj r _ e hg he
 cases o with
 | map es' k' => obtain ⟨h4, rfl, h5⟩ := h3; exact ⟨es', h2, h4, h5⟩
 | _ => exact h3.elim
theorem run_getObj_map {P : Program} {w : World} {r : Nat} {es : Array MapEntry} {k : Nat} (h : w.heap[r]? = some (.map es k)) : (getObj r).run P w = .ok (.map es k) w := by
 simp [getObj, Sem.run, h]
theorem aLen_spec {T : Tabs} {P : Program} (hT : T.Ok P) {η : Env} {W : AW} {w : World} (hw : WRel η W w) {t : TypeId} {tys : Array TypeId} (ht : tys[0]? = some t) (ty : TypeId) {x x' v : Value} {args : Array Value} (hargs : args[0]? = some x')
  (h : aLen T W t x = some v) (hx : VR η x x') : (Builtin.len_ tys ty args).run P w = .ok v w /\ VR η v v := by
 unfold aLen at h
 split at h
 ·rename_i s hu
  cases h; cases hx
  exact ⟨by simp [Builtin.len_, ht, hargs, run_under (hT.und _ _ hu), goInt], .int _ _⟩
 ·rename_i n e hu
  cases h
  exact ⟨by simp [Builtin.len_, ht, hargs, run_under (hT.und _ _ hu), goInt], .int _ _⟩
 ·rename_i arr hu
  split at h
  ·rename_i n e hu2
   cases h
   exact ⟨by simp [Builtin.len_, ht, hargs, run_under (hT.und _ _ hu), run_under (hT.und _ _ hu2), goInt], .int _ _⟩
  ·cases h
 ·rename_i e a n c hu
  cases h
  refine ⟨?_, .int _ _⟩
  cases hx <;> simp [Builtin.len_, ht, hargs, run_under (hT.und _ _ hu), goInt]
 ·rename_i hu
  cases h; cases hx
  exact ⟨by simp [Builtin.len_, ht, hargs, run_under (hT.und _ _ hu), goInt], .int _ _⟩
 ·rename_i k e r hu
  split at h
  ·rename_i es ck kin hr
   cases h
   cases hx with
   | map _ e2 he =>
    obtain ⟨es', h2, h3, _⟩ := hw.mapAt hr he
    have := h3.length
    refine ⟨?_, .int _ _⟩
    simp [Builtin.len_, ht, hargs, run_under (hT.und _ _ hu), run_getObj_map h2, goInt, this]
  ·cases h
 ·cases h
def aLenOf : Value -> Option Nat
 | .slice _ n _ => some n
 | .string s => some s.data.toList.length
 | _ => none
def aSrcN (W : AW) (size n : Nat) (x : Value) : Option (List Value) :=
 match x with
 | .slice none 0 0 => some []
 | .slice (some ⟨b, o, none⟩) _ _ => W.cellsAt b o (n * size)
 | .slice (some ⟨_, _, some 0⟩) 0 _ => match n with
  | 0 => some []
  | _ + 1 => none
 | .string s => some ((s.data.toList.take n).map fun b => .int .u8 b.toNat)
 | _ => none
def minN (a b : Nat) : Nat :=
 match Nat.ble a b with
 | true => a
 | false => b
theorem minN_eq (a b : Nat) : minN a b = Nat.min a b := by
 unfold minN
 cases h : Nat.ble a b
 ·have : ¬ a <= b := fun x => by rw [Nat.ble_eq_true_of_le x] at h; cases h
  show b = min a b
  omega
 ·have := Nat.le_of_ble_eq_true h
  show a = min a b
  omega
theorem aLenOf_spec {η : Env} {x x' : Value} {n : Nat} (h : aLenOf x = some n) (hx : VR η x x') (P : Program) (w : World) : (Builtin.lenOf x').run P w = .ok n w := by
 unfold aLenOf at h
 split at h
 ·cases h; cases hx <;> rfl
 ·cases h; cases hx; rfl
 ·cases h
theorem aSrcN_spec {P : Program} {η : Env} {W : AW} {w : World} (hw : WRel η W w) {size n : Nat} {x x' : Value} {l : List Value} (h : aSrcN W size n x = some l) (hx : VR η x x') :
  ∃ l', (Builtin.firstCells size n x').run P w = .ok l'.toArray w /\ LR η l l' := by
 unfold aSrcN at h
 split at h
 ·cases h; cases hx; exact ⟨[], rfl, .nil η⟩
 ·rename_i b o n0 c
  have fin : ∀ (e : Nat × Nat × Nat) (c' : Nat), η b = some e ->
    ∃ l', (Builtin.firstCells size n (.slice (some ⟨e.1, e.2.1 + o, none⟩) n0 c')).run P w = .ok l'.toArray w /\ LR η l l' := fun e c' he => by
   obtain ⟨l', g1, g2⟩ := hw.loadCells (P := P) h he
   exact ⟨l', g1, g2⟩
  cases hx with
  | sliceAt _ _ _ c e he => exact fin e _ he
  | sliceEnd _ _ _ sz c e he => exact fin e _ he
 ·split at h
  ·cases h; cases hx
   exact ⟨[], by simp [Builtin.firstCells, loadCells, loadCellsFrom], .nil η⟩
  ·cases h
 ·rename_i s
  cases h; cases hx
  refine ⟨(s.data.toList.take n).map fun b => .int .u8 b.toNat, ?_, rfl, fun i v v' a b => ?_⟩
  ·have e : (s.extract 0 n).data.toList = s.data.toList.take n := by rw [Lib.extract_data, List.drop_zero, Nat.sub_zero]
   simp only [Builtin.firstCells, Sem.run_pure]
   congr 1
   apply Array.toList_inj.1
   rw [Array.toList_map, e]
  ·rw [a] at b; cases b
   simp only [List.getElem?_map, Option.map_eq_some_iff] at a
   obtain ⟨u, _, rfl⟩ := a
   exact .int _ _
 ·cases h
def aCopy (T : Tabs) (W : AW) (argTypes : List TypeId) (args : List Value) : Option (Value × AW) :=
 match argTypes, args with
 | dT :: _, [d, x] => match T.und.get dT with
  | some (.slice elem) => match aSize T elem, aLenOf x, aLenOf d with
   | some size, some m, some k => match aSrcN W size (minN m k) x, d with
    | some _, .slice none 0 0 => some (.int .i64 (minN m k), W)
    | some l, .slice (some ⟨b, o, none⟩) _ _ => match W.storeList b o l with
     | some W' => some (.int .i64 (minN m k), W')
     | none => none
    | some [], .slice (some ⟨_, _, some 0⟩) 0 _ => some (.int .i64 (minN m k), W)
    | _, _ => none
   | _, _, _ => none
  | _ => none
 | _, _ => none
theorem aCopy_spec {T : Tabs} {P : Program} (hT : T.Ok P) {η : Env} {W W' : AW} {w : World} (hw : WRel η W w) {tys : List TypeId} {args args' : List Value} {v : Value} (ty : TypeId)
  (h : aCopy T W tys args = some (v, W')) (ha : LR η args args') : Res P η W w (Builtin.copy_ tys.toArray ty args'.toArray) W' (fun η' v' => VR η' v v') := by
 unfold aCopy at h
 split at h
 case h_2 => cases h
 rename_i dT rest d x
 obtain ⟨d', t1, rfl, hd', ht1⟩ := ha.uncons
 obtain ⟨x', t2, rfl, hx', ht2⟩ := ht1.uncons
 rw [ht2.of_nil]
 split at h
 case h_2 => cases h
 rename_i elem hu
 split at h
 case h_2 => cases h
 rename_i size m k hs hm hk
 have g1 := aLenOf_spec hm hx' P w
 have e := minN_eq m k
 have hmin : Nat.min m k = min m k := rfl
 split at h
 ·rename_i l hl
  cases h; cases hd'
  obtain ⟨l', g2, g3⟩ := aSrcN_spec (P := P) hw hl hx'
  refine Res.of_eq hw ?_ (.int _ _)
  simp only [aLenOf, Option.some.injEq] at hk
  subst hk
  rw [e] at g2 ⊢
  simp [Builtin.copy_, run_under (hT.und _ _ hu), aSize_spec hT hs, g1, g2, goInt]
  rw [show Nat.min m 0 = 0 from Nat.min_zero m] at g2
  simp [g2]
 ·rename_i l b o n0 c hl
  split at h
  ·rename_i W1 hst
   cases h
   obtain ⟨l', g2, g3⟩ := aSrcN_spec (P := P) hw hl hx'
   simp only [aLenOf, Option.some.injEq] at hk
   subst hk
   have fin : ∀ (e2 : Nat × Nat × Nat) (c' : Nat), η b = some e2 ->
     Res P η W w (Builtin.copy_ (dT :: rest).toArray ty [Value.slice (some ⟨e2.1, e2.2.1 + o, none⟩) n0 c', x'].toArray) W' (fun η' v' => VR η' (.int .i64 (minN m n0)) v') := fun e2 c' he => by
    obtain ⟨w', k1, k2, k3⟩ := sound_storeList (P := P) l l' W W' w b o 0 e2 hw (by simpa using hst) he g3
    refine ⟨η, w', .int .i64 (minN m n0), ?_, k2, k3, .int _ _⟩
    rw [e] at g2 ⊢
    simp [Builtin.copy_, run_under (hT.und _ _ hu), aSize_spec hT hs, g1, g2, goInt, k1]
   cases hd' with
   | sliceAt _ _ _ c e he => exact fin e _ he
   | sliceEnd _ _ _ sz c e he => exact fin e _ he
  ·cases h
 ·rename_i b o c hl
  cases h; cases hd'
  obtain ⟨l', g2, g3⟩ := aSrcN_spec (P := P) hw hl hx'
  rw [g3.of_nil] at g2
  refine Res.of_eq hw ?_ (.int _ _)
  simp only [aLenOf, Option.some.injEq] at hk
  subst hk
  rw [e] at g2 ⊢
  simp [Builtin.copy_, run_under (hT.und _ _ hu), aSize_spec hT hs, g1, goInt]
  rw [show Nat.min m 0 = 0 from Nat.min_zero m] at g2
  simp [g2, storeCells]
 ·cases h
def aMinMax (isMax : Bool) : Value -> List Value -> Option Value
 | x, [] => some x
 | .int k x, .int _ y :: l => match isMax with
  | true => match decide (y > x) with
   | true => aMinMax isMax (.int k y) l
   | false => aMinMax isMax (.int k x) l
  | false => match decide (y < x) with
   | true => aMinMax isMax (.int k y) l
   | false => aMinMax isMax (.int k x) l
 | _, _ => none
theorem aMinMax_spec {η : Env} (P : Program) (w : World) : ∀ (isMax : Bool) (l l' : List Value) (x x' v : Value), aMinMax isMax x l = some v -> VR η x x' -> LR η l l' ->
  ∃ v', (if isMax then l'.foldlM Builtin.max2 x' else l'.foldlM Builtin.min2 x').run P w = .ok v' w /\ VR η v v'
 | isMax, [], l', x, x', v, h, hx, hl => by
  rw [hl.of_nil]
  have : v = x := by cases x <;> (simp [aMinMax] at h; exact h.symm)
  subst this
  exact ⟨x', by cases isMax <;> rfl, hx⟩
 | isMax, y :: l, l', x, x', v, h, hx, hl => by
  obtain ⟨y', t, rfl, hy, ht⟩ := hl.uncons
  cases x <;> try (simp [aMinMax] at h; done)
  cases y <;> try (simp [aMinMax] at h; done)
  rename_i k a k' b
  cases hx; cases hy
  cases isMax with
  | true =>
   simp only [aMinMax] at h
   split at h
   ·rename_i hc
    have hc := of_decide_eq_true hc
    obtain ⟨v', g1, g2⟩ := aMinMax_spec P w true l t _ _ v h (.int k b) ht
    exact ⟨v', by simpa [Builtin.max2, hc] using g1, g2⟩
   ·rename_i hc
    have hc := of_decide_eq_false hc
    obtain ⟨v', g1, g2⟩ := aMinMax_spec P w true l t _ _ v h (.int k a) ht
    exact ⟨v', by simpa [Builtin.max2, hc] using g1, g2⟩
  | false =>
   simp only [aMinMax] at h
   split at h
   ·rename_i hc
    have hc := of_decide_eq_true hc
    obtain ⟨v', g1, g2⟩ := aMinMax_spec P w false l t _ _ v h (.int k b) ht
    exact ⟨v', by simpa [Builtin.min2, hc] using g1, g2⟩
   ·rename_i hc
    have hc := of_decide_eq_false hc
    obtain ⟨v', g1, g2⟩ := aMinMax_spec P w false l t _ _ v h (.int k a) ht
    exact ⟨v', by simpa [Builtin.min2, hc] using g1, g2⟩
def aClear (T : Tabs) (W : AW) (t : TypeId) (x : Value) : Option AW :=
 match T.und.get t with
 | some d => match x with
  | .slice none _ _ => some W
  | .slice (some a) n _ => match n, a with
   | 0, _ => some W
   | n, ⟨b, o, none⟩ => match d with
    | .slice elem => match T.info.get elem with
     | some i => match i.zero with
      | some z => match Nat.beq (acells z).length i.size, Nat.blt 0 i.size with
       | true, true => W.storeList b o (rep (acells z) n)
       | _, _ => none
      | none => none
     | none => none
    | _ => none
   | _, _ => none
  | _ => none
 | none => none
theorem rep_zeroCells {η : Env} {z : Value} (hz : VR η z z) (h0 : 0 < (acells z).length) (n : Nat) : LR η (rep (acells z) n) (Builtin.zeroCells z.cells n).toList := by
 have hc := acells_vr hz
 have hl : z.cells.size = (acells z).length := by rw [hc.1]; simp
 refine ⟨by rw [rep_length]; simp [Builtin.zeroCells, hl], fun i v v' a b => ?_⟩
 have hi : i < n * (acells z).length := by
  have := (List.getElem?_eq_some_iff.1 a).1
  rwa [rep_length] at this
 rw [rep_get _ h0 n i hi] at a
 have : v' = z.cells[i % z.cells.size]! := by
  simp only [Builtin.zeroCells, Array.toList_map, List.getElem?_map] at b
  rw [show (Array.range (n * z.cells.size)).toList[i]? = some i from by simp [hl, hi]] at b
  simpa using b.symm
 subst this
 have hm : i % z.cells.size < z.cells.size := Nat.mod_lt _ (by omega)
 rw [getElem!_pos z.cells _ hm]
 refine hc.2 (i % (acells z).length) _ _ a ?_
 rw [<- hl]
 simp [hm]
theorem aClear_spec {T : Tabs} {P : Program} (hT : T.Ok P) {η : Env} {W W' : AW} {w : World} (hw : WRel η W w) {t : TypeId} {x x' : Value} {tys : Array TypeId} {args : Array Value} (ty : TypeId)
  (ht : tys[0]? = some t) (ha : args[0]? = some x') (h : aClear T W t x = some W') (hx : VR η x x') : Res P η W w (Builtin.clear_ tys ty args) W' (fun η' v' => VR η' (.tuple ⟨[]⟩) v') := by
 have hv : ∀ η : Env, VR η (.tuple ⟨[]⟩) (.tuple #[]) := fun η => .tuple _ _ rfl (fun i v v' a => by simp at a)
 unfold aClear at h
 split at h
 case h_2 => cases h
 rename_i d hd
 have hu := run_under (w := w) (hT.und _ _ hd)
 split at h
 ·cases h
  cases hx
  refine ⟨η, w, .tuple #[], ?_, .refl _ _ _, hw, hv η⟩
  simp only [Builtin.clear_, ht, ha, Sem.run_bind, hu, Result.andThen_ok]
  rfl
 ·rename_i a n c
  split at h
  ·cases h
   refine ⟨η, w, .tuple #[], ?_, .refl _ _ _, hw, hv η⟩
   have : ∃ a' c', x' = .slice (some a') 0 c' := by cases hx <;> exact ⟨_, _, rfl⟩
   obtain ⟨a', c', rfl⟩ := this
   simp only [Builtin.clear_, ht, ha, Sem.run_bind, hu, Result.andThen_ok]
   rfl
  ·rename_i b o hn
   split at h
   case h_2 => cases h
   rename_i elem
   split at h
   case h_2 => cases h
   rename_i i hi
   split at h
   case h_2 => cases h
   rename_i z hz
   split at h
   case h_2 => cases h
   rename_i h1 h2
   have hz0 : aZero T elem = some z := by simp [aZero, hi, hz]
   obtain ⟨z1, z2⟩ := aZero_spec hT hz0 w η
   have h1 := Nat.eq_of_beq_eq_true h1
   rw [Nat.blt_eq] at h2
   have key : ∀ e c', η b = some e -> x' = .slice (some ⟨e.1, e.2.1 + o, none⟩) n c' -> Res P η W w (Builtin.clear_ tys ty args) W' (fun η' v' => VR η' (.tuple ⟨[]⟩) v') := by
    intro e c' he hxe
    subst hxe
    obtain ⟨w', g1, g2, g3⟩ := sound_storeList (P := P) _ _ W W' w b o 0 e hw h he (rep_zeroCells z2 (by omega) n)
    refine ⟨η, w', .tuple #[], ?_, g2, g3, hv η⟩
    simp only [Builtin.clear_, ht, ha, Sem.run_bind, hu, Result.andThen_ok]
    cases n with
    | zero => exact (hn rfl).elim
    | succ n => simp only [Sem.run_bind, z1, Result.andThen_ok, g1, Sem.run_pure]
   cases hx with
   | sliceAt _ _ _ c e he => exact key e _ he rfl
   | sliceEnd _ _ _ sz c e he _ _ => exact key e _ he rfl
  ·cases h
 ·cases h
end Go.Eng
