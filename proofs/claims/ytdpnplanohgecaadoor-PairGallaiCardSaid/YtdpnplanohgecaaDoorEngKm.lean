import Derived.Test.YtdpnplanohgecaaDoorEngK
import Derived.WideKeyRuns
import Derived.MapKept
import Derived.Laws.StructEq
set_option linter.unusedSimpArgs false
set_option linter.unusedVariables false
set_option linter.unusedSectionVars false
namespace Go.Eng
open Go.MapKept (IsKey bytes_beq run_checkKey run_findKey)
def isKey1 : TypeDesc -> Value -> Bool
 | .bool, .bool _ => true
 | .int k, .int k' _ => ikEq k' k
 | .string, .string _ => true
 | _, _ => false
theorem isKey1_spec {d : TypeDesc} {v : Value} (h : isKey1 d v = true) : IsKey d v := by
 cases d <;> cases v <;> first
  | (simp [isKey1] at h; done)
  | exact ikEq_spec (show ikEq _ _ = true from h)
  | trivial
theorem isKey1_flat {d : TypeDesc} {v : Value} (h : isKey1 d v = true) : flat1 v = true := by
 cases d <;> cases v <;> first
  | rfl
  | (simp [isKey1] at h; done)
def isArr : TypeDesc -> Bool
 | .array _ _ => true
 | .struct _ => true
 | _ => false
def fieldsKey (T : Tabs) : List Field -> List Value -> Nat -> Bool
 | [], [], _ => true
 | f :: fs, c :: cs, j => match T.und.get f.type, Nat.beq f.offset j, f.name == "_" with
  | some d, true, false => match isKey1 d c with
   | true => fieldsKey T fs cs (j + 1)
   | false => false
  | _, _, _ => false
 | _, _, _ => false
def keyOk (T : Tabs) (t : TypeId) (k : Value) : Bool :=
 match T.und.get t with
 | some (.struct fs) => match k, T.plain.get t with
  | .agg cs, some _ => fieldsKey T fs.toList cs.toList 0
  | _, _ => false
 | some (.array n e) => match k, T.und.get e, T.info.get e with
  | .agg cs, some d, some i => match Nat.beq i.size 1, Nat.beq cs.toList.length n with
   | true, true => allB (isKey1 d) cs.toList
   | _, _ => false
  | _, _, _ => false
 | some d => isKey1 d k
 | none => false
def key1Eq : Value -> Value -> Bool
 | .int _ (.ofNat a), .int _ (.ofNat b) => Nat.beq a b
 | .int _ a, .int _ b => decide (a = b)
 | .bool a, .bool b => a == b
 | .string a, .string b => decide (a.data.toList.map UInt8.toNat = b.data.toList.map UInt8.toNat)
 | _, _ => false
def keysEq : List Value -> List Value -> Bool
 | [], [] => true
 | a :: l, b :: m => match key1Eq a b with
  | true => keysEq l m
  | false => false
 | _, _ => false
def keyEq : Value -> Value -> Bool
 | .agg a, .agg b => keysEq a.toList b.toList
 | a, b => key1Eq a b
theorem strNat_inj {a b : ByteArray} (h : a.data.toList.map UInt8.toNat = b.data.toList.map UInt8.toNat) : a = b := by
 have h2 : a.data.toList = b.data.toList := by
  have hi : Function.Injective UInt8.toNat := fun x y hxy => UInt8.toNat_inj.1 hxy
  exact (List.map_inj_right (fun x y hxy => hi hxy)).1 h
 cases a; cases b; simp only [ByteArray.mk.injEq]; exact Array.toList_inj.1 h2
theorem key1Eq_spec {d : TypeDesc} {a b : Value} (ha : isKey1 d a = true) (hb : isKey1 d b = true) : key1Eq a b = true ↔ a = b := by
 cases d <;> cases a <;> first
  | (simp [isKey1] at ha; done)
  | skip
 all_goals cases b <;> first
  | (simp [isKey1] at hb; done)
  | skip
 ·rename_i x y; simp [key1Eq]
 ·rename_i k j x l y
  have h1 := ikEq_spec ha
  have h2 := ikEq_spec hb
  subst h1; subst h2
  cases x <;> cases y <;> simp [key1Eq] <;> omega
 ·rename_i x y
  simp only [key1Eq, decide_eq_true_eq, Value.string.injEq]
  exact ⟨strNat_inj, fun h => by rw [h]⟩
theorem keysEq_spec {d : TypeDesc} : ∀ {l m : List Value}, allB (isKey1 d) l = true -> allB (isKey1 d) m = true -> (keysEq l m = true ↔ l = m)
 | [], [], _, _ => by simp [keysEq]
 | [], _ :: _, _, _ => by simp [keysEq]
 | _ :: _, [], _, _ => by simp [keysEq]
 | a :: l, b :: m, ha, hb => by
  simp only [allB] at ha hb
  split at ha
  ·rename_i ha1
   split at hb
   ·rename_i hb1
    have h1 := key1Eq_spec ha1 hb1
    have h2 := keysEq_spec ha hb
    simp only [keysEq, List.cons.injEq]
    split
    ·rename_i he; rw [h2]; exact ⟨fun x => ⟨h1.1 he, x⟩, fun x => x.2⟩
    ·rename_i he
     constructor
     ·intro x; cases x
     ·intro x; have := h1.2 x.1; rw [he] at this; cases this
   ·cases hb
  ·cases ha
theorem fieldsKey_cons {T : Tabs} {f : Field} {fs : List Field} {c : Value} {cs : List Value} {j : Nat} (h : fieldsKey T (f :: fs) (c :: cs) j = true) :
  ∃ d, T.und.get f.type = some d ∧ f.offset = j ∧ f.name ≠ "_" ∧ isKey1 d c = true ∧ fieldsKey T fs cs (j + 1) = true := by
 simp only [fieldsKey] at h
 split at h
 case h_2 => cases h
 rename_i d h1 h2 h3
 split at h
 ·rename_i h4
  exact ⟨d, h1, Nat.eq_of_beq_eq_true h2, fun e => by rw [e] at h3; simp at h3, h4, h⟩
 ·cases h
theorem fieldsKey_flat {T : Tabs} : ∀ {fs : List Field} {cs : List Value} {j : Nat}, fieldsKey T fs cs j = true -> allB flat1 cs = true
 | [], [], _, _ => rfl
 | [], _ :: _, _, h => by simp [fieldsKey] at h
 | _ :: _, [], _, h => by simp [fieldsKey] at h
 | f :: fs, c :: cs, j, h => by
  obtain ⟨d, _, _, _, h4, h5⟩ := fieldsKey_cons h
  simp only [allB, isKey1_flat h4]
  exact fieldsKey_flat h5
theorem fieldsKey_eq {T : Tabs} : ∀ {fs : List Field} {cs ds : List Value} {j : Nat}, fieldsKey T fs cs j = true -> fieldsKey T fs ds j = true -> (keysEq cs ds = true ↔ cs = ds)
 | [], [], [], _, _, _ => by simp [keysEq]
 | [], _ :: _, _, _, h, _ => by simp [fieldsKey] at h
 | [], [], _ :: _, _, _, h => by simp [fieldsKey] at h
 | _ :: _, [], _, _, h, _ => by simp [fieldsKey] at h
 | _ :: _, _ :: _, [], _, _, h => by simp [fieldsKey] at h
 | f :: fs, c :: cs, c' :: ds, j, h, h' => by
  obtain ⟨d, a1, _, _, a4, a5⟩ := fieldsKey_cons h
  obtain ⟨d', b1, _, _, b4, b5⟩ := fieldsKey_cons h'
  rw [a1] at b1; cases b1
  have h1 := key1Eq_spec a4 b4
  have h2 := fieldsKey_eq a5 b5
  simp only [keysEq, List.cons.injEq]
  split
  ·rename_i he; rw [h2]; exact ⟨fun x => ⟨h1.1 he, x⟩, fun x => x.2⟩
  ·rename_i he
   constructor
   ·intro x; cases x
   ·intro x; have := h1.2 x.1; rw [he] at this; cases this
theorem keyOk_flat {T : Tabs} {t : TypeId} {k : Value} (h : keyOk T t k = true) : flat k = true := by
 unfold keyOk at h
 split at h
 ·split at h
  ·simp only [flat]; exact fieldsKey_flat h
  ·cases h
 ·split at h
  ·rename_i cs d i _ _
   split at h
   ·simp only [flat]
    generalize cs.toList = l at h
    induction l with
    | nil => rfl
    | cons a l ih =>
     simp only [allB] at h ⊢
     split at h
     ·rename_i ha; rw [isKey1_flat ha]; exact ih h
     ·cases h
   ·cases h
  ·cases h
 ·rename_i d _ _ _
  have := isKey1_flat h
  cases d <;> cases k <;> first
   | exact this
   | (simp [isKey1] at h; done)
 ·cases h
section runs
variable {P : Program}
theorem run_checkKey_array (em : Bool) (d : Nat) {t e : TypeId} {n : Nat} {i : TypeInfo} (xs : Array Value) (hu : P.underlying t = some (.array n e)) (hi : P.info? e = some i) (w : World)
  (hel : ∀ j, j < n -> ∃ a, (part e xs (j * i.size)).run P w = .ok a w /\ (Instr.checkKey em d e a).run P w = .ok () w) : (Instr.checkKey em (d + 1) t (.agg xs)).run P w = .ok () w := by
 simp only [Instr.checkKey, Sem.run_bind, run_under hu, Result.andThen_ok]
 simp only [Std.Legacy.Range.forIn_eq_forIn_range', Std.Legacy.Range.size, Nat.sub_zero, Nat.add_one_sub_one, Nat.div_one]
 have hmem : ∀ j ∈ List.range' 0 n, j < n := fun j hj => by have := List.mem_range'_1.1 hj; omega
 generalize List.range' 0 n = is at hmem
 induction is with
 | nil => simp
 | cons j is ih =>
  obtain ⟨a, h1, h2⟩ := hel j (hmem j (List.mem_cons_self ..))
  simp only [List.forIn_cons, Sem.run_bind, run_sizeOf hi, h1, h2, Result.andThen_ok, Sem.run_pure]
  exact ih (fun j hj => hmem j (List.mem_cons_of_mem _ hj))
theorem run_checkKey1 {d : TypeDesc} {t : TypeId} {k : Value} (hu : P.underlying t = some d) (hk : isKey1 d k = true) (em : Bool) (n : Nat) (w : World) : (Instr.checkKey em (n + 1) t k).run P w = .ok () w :=
 run_checkKey hu (isKey1_spec hk) em n
theorem notAgg_of_key {d : TypeDesc} {v : Value} (h : isKey1 d v = true) : isAggD d = false := by
 cases d <;> first | rfl | (cases v <;> simp [isKey1] at h)
theorem run_part_key {e : TypeId} {d : TypeDesc} {xs : Array Value} {j : Nat} {a : Value} (hd : P.underlying e = some d) (hk : isKey1 d a = true) (ha : xs[j]? = some a) (w : World) : (part e xs j).run P w = .ok a w := by
 simp [part, run_isAgg hd, notAgg_of_key hk, ha]
theorem run_equalIn_key1 {d : TypeDesc} {t : TypeId} {a b : Value} (hu : P.underlying t = some d) (ha : isKey1 d a = true) (hb : isKey1 d b = true) (n : Nat) (w : World) :
  (Op.equalIn (n + 1) t a b).run P w = .ok (key1Eq a b) w := by
 have hs := key1Eq_spec ha hb
 cases d <;> cases a <;> first
  | (simp [isKey1] at ha; done)
  | skip
 all_goals cases b <;> first
  | (simp [isKey1] at hb; done)
  | skip
 ·simp [Op.equalIn, run_under hu, key1Eq]
 ·rename_i k j x l y
  have h1 := ikEq_spec ha
  have h2 := ikEq_spec hb
  subst h1; subst h2
  have : (x == y) = key1Eq (.int l x) (.int l y) := by
   rw [Bool.eq_iff_iff, hs]; simp
  simp [Op.equalIn, run_under hu, this]
 ·rename_i x y
  have : (x == y) = key1Eq (.string x) (.string y) := by
   rw [Bool.eq_iff_iff, hs, bytes_beq]; simp
  simp [Op.equalIn, run_under hu, this]
theorem run_eqItems (dd : Nat) {e : TypeId} {d : TypeDesc} (hd : P.underlying e = some d) (w : World) : ∀ (xs ys : List Value) (X Y : Array Value) (k : Nat),
  (∀ j v, xs[j]? = some v -> X[k + j]? = some v) -> (∀ j v, ys[j]? = some v -> Y[k + j]? = some v) -> xs.length = ys.length -> allB (isKey1 d) xs = true -> allB (isKey1 d) ys = true ->
  (Op.eqItems (dd + 1) e 1 X Y (List.range' k xs.length)).run P w = .ok (keysEq xs ys) w
 | [], [], X, Y, k, _, _, _, _, _ => by simp [Op.eqItems, keysEq]
 | [], _ :: _, X, Y, k, _, _, h, _, _ => by simp at h
 | _ :: _, [], X, Y, k, _, _, h, _, _ => by simp at h
 | a :: l, b :: m, X, Y, k, hX, hY, hlen, ha, hb => by
  simp only [allB] at ha hb
  split at ha
  ·rename_i ha1
   split at hb
   ·rename_i hb1
    have x0 := hX 0 a rfl
    have y0 := hY 0 b rfl
    simp only [Nat.add_zero] at x0 y0
    simp only [List.length_cons, List.range'_succ, Op.eqItems, Nat.mul_one, Sem.run_bind, run_part_key hd ha1 x0, run_part_key hd hb1 y0, run_equalIn_key1 hd ha1 hb1, Result.andThen_ok, keysEq]
    cases hk : key1Eq a b
    ·simp
    ·have := run_eqItems dd hd w l m X Y (k + 1) (fun j v hj => by have := hX (j + 1) v (by simpa using hj); rwa [show k + (j + 1) = k + 1 + j from by omega] at this)
      (fun j v hj => by have := hY (j + 1) v (by simpa using hj); rwa [show k + (j + 1) = k + 1 + j from by omega] at this) (by simpa using hlen) ha hb
     simpa using this
   ·cases hb
  ·cases ha
theorem run_checkKey_fields {T : Tabs} (hT : T.Ok P) (em : Bool) (n : Nat) (w : World) (X : Array Value) : ∀ (fs : List Field) (cs : List Value) (j : Nat), fieldsKey T fs cs j = true -> (∀ i v, cs[i]? = some v -> X[j + i]? = some v) ->
  (forIn fs PUnit.unit (fun (f : Field) (_ : PUnit) => if f.name ≠ "_" then (do Instr.checkKey em (n + 1) f.type (← part f.type X f.offset); pure (ForInStep.yield PUnit.unit)) else pure (ForInStep.yield PUnit.unit))).run P w = .ok PUnit.unit w
 | [], [], _, _, _ => by simp
 | [], _ :: _, _, h, _ => by simp [fieldsKey] at h
 | _ :: _, [], _, h, _ => by simp [fieldsKey] at h
 | f :: fs, c :: cs, j, h, hX => by
  obtain ⟨d, h1, h2, h3, h4, h5⟩ := fieldsKey_cons h
  have x0 := hX 0 c rfl
  rw [Nat.add_zero, <- h2] at x0
  simp only [List.forIn_cons, Sem.run_bind, Sem.run_ite, if_pos h3, run_part_key (hT.und _ _ h1) h4 x0, Result.andThen_ok, run_checkKey1 (hT.und _ _ h1) h4 em n w, Sem.run_pure]
  exact run_checkKey_fields hT em n w X fs cs (j + 1) h5 (fun i v hv => by have := hX (i + 1) v (by simpa using hv); rwa [show j + (i + 1) = j + 1 + i from by omega] at this)
theorem run_eqFields {T : Tabs} (hT : T.Ok P) (dd : Nat) (w : World) (X Y : Array Value) : ∀ (fs : List Field) (cs ds : List Value) (j : Nat), fieldsKey T fs cs j = true -> fieldsKey T fs ds j = true -> (∀ i v, cs[i]? = some v -> X[j + i]? = some v) -> (∀ i v, ds[i]? = some v -> Y[j + i]? = some v) ->
  (Op.eqFields (dd + 1) X Y fs).run P w = .ok (keysEq cs ds) w
 | [], [], [], _, _, _, _, _ => by simp [Op.eqFields, keysEq]
 | [], _ :: _, _, _, h, _, _, _ => by simp [fieldsKey] at h
 | [], [], _ :: _, _, _, h, _, _ => by simp [fieldsKey] at h
 | _ :: _, [], _, _, h, _, _, _ => by simp [fieldsKey] at h
 | _ :: _, _ :: _, [], _, _, h, _, _ => by simp [fieldsKey] at h
 | f :: fs, c :: cs, c' :: ds, j, h, h', hX, hY => by
  obtain ⟨d, a1, a2, a3, a4, a5⟩ := fieldsKey_cons h
  obtain ⟨d', b1, _, _, b4, b5⟩ := fieldsKey_cons h'
  rw [a1] at b1; cases b1
  have x0 := hX 0 c rfl
  have y0 := hY 0 c' rfl
  rw [Nat.add_zero, <- a2] at x0 y0
  have hd := hT.und _ _ a1
  simp only [Op.eqFields, if_pos a3, Sem.run_bind, run_part_key hd a4 x0, run_part_key hd b4 y0, run_equalIn_key1 hd a4 b4, Result.andThen_ok, keysEq]
  cases hk : key1Eq c c'
  ·simp
  ·have := run_eqFields hT dd w X Y fs cs ds (j + 1) a5 b5 (fun i v hv => by have := hX (i + 1) v (by simpa using hv); rwa [show j + (i + 1) = j + 1 + i from by omega] at this)
    (fun i v hv => by have := hY (i + 1) v (by simpa using hv); rwa [show j + (i + 1) = j + 1 + i from by omega] at this)
   simpa using this
theorem keyOk_cases {T : Tabs} (hT : T.Ok P) {t : TypeId} {k : Value} (h : keyOk T t k = true) :
  (∃ fs cs, P.underlying t = some (.struct fs) /\ k = .agg cs /\ P.stoodInHeld t = false /\ fieldsKey T fs.toList cs.toList 0 = true) \/
  (∃ n e cs d i, P.underlying t = some (.array n e) /\ k = .agg cs /\ P.underlying e = some d /\ P.info? e = some i /\ i.size = 1 /\ cs.size = n /\ allB (isKey1 d) cs.toList = true) \/
  (∃ d, P.underlying t = some d /\ isArr d = false /\ isKey1 d k = true) := by
 unfold keyOk at h
 split at h
 ·rename_i fs hu
  split at h
  ·rename_i cs u hp
   exact .inl ⟨fs, cs, hT.und _ _ hu, rfl, hT.plain _ _ hp, h⟩
  ·cases h
 ·rename_i n e hu
  split at h
  ·rename_i cs d i hd hi
   split at h
   ·rename_i h1 h2
    exact .inr <| .inl ⟨n, e, cs, d, i, hT.und _ _ hu, rfl, hT.und _ _ hd, hT.info _ _ hi, Nat.eq_of_beq_eq_true h1, by simpa using Nat.eq_of_beq_eq_true h2, h⟩
   ·cases h
  ·cases h
 ·rename_i d hns hna hu
  refine .inr <| .inr ⟨d, hT.und _ _ hu, ?_, h⟩
  cases d <;> first | rfl | exact (hna _ _ rfl).elim | exact (hns _ rfl).elim
 ·cases h
theorem run_checkKey_struct {T : Tabs} (hT : T.Ok P) (em : Bool) (n : Nat) (w : World) {t : TypeId} {fs : Array Field} {cs : Array Value} (hu : P.underlying t = some (.struct fs)) (hf : fieldsKey T fs.toList cs.toList 0 = true) :
  (Instr.checkKey em (n + 1 + 1) t (.agg cs)).run P w = .ok () w := by
 have := run_checkKey_fields hT em n w cs fs.toList cs.toList 0 hf (fun i v hv => by simpa using hv)
 generalize n + 1 = m at this
 simp only [Instr.checkKey, Sem.run_bind, run_under hu, Result.andThen_ok]
 rw [<- Array.forIn_toList]
 generalize fs.toList = l at this
 rw [this]; rfl
theorem run_checkKey_ok {T : Tabs} (hT : T.Ok P) {t : TypeId} {k : Value} (h : keyOk T t k = true) (em : Bool) (w : World) : (Instr.checkKey em 10000 t k).run P w = .ok () w := by
 rcases keyOk_cases hT h with ⟨fs, cs, hu, rfl, hp, hf⟩ | ⟨n, e, cs, d, i, hu, rfl, hd, hi, h1, h2, h3⟩ | ⟨d, hu, _, hk⟩
 ·exact run_checkKey_struct hT em 9998 w hu hf
 ·refine run_checkKey_array em 9999 cs hu hi w (fun j hj => ?_)
  have hlt : j < cs.size := by omega
  have hm := allB_mem h3 cs[j] (by simp)
  refine ⟨cs[j], ?_, run_checkKey1 hd hm em 9998 w⟩
  rw [h1, Nat.mul_one]
  exact run_part_key hd hm (Array.getElem?_eq_getElem hlt) w
 ·exact run_checkKey1 hu hk em 9999 w
theorem run_equal_key {T : Tabs} (hT : T.Ok P) {t : TypeId} {a b : Value} (ha : keyOk T t a = true) (hb : keyOk T t b = true) (w : World) : (Op.equal t a b).run P w = .ok (keyEq a b) w := by
 rcases keyOk_cases hT ha with ⟨fs, cs, hu, rfl, hp, hf⟩ | ⟨n, e, cs, d, i, hu, rfl, hd, hi, h1, h2, h3⟩ | ⟨d, hu, harr, hk⟩
 ·rcases keyOk_cases hT hb with ⟨fs', cs', hu', rfl, hp', hf'⟩ | ⟨n', e', cs', d', i', hu', rfl, hd', hi', h1', h2', h3'⟩ | ⟨d', hu', harr', hk'⟩
  ·rw [hu] at hu'; cases hu'
   have hfo : P.fieldsOf t = fs := by simp only [Program.fieldsOf, hu]
   have := run_equalIn_struct (P := P) w 9999 t cs cs' (by rw [hfo]; exact hu) hp
   rw [hfo] at this
   unfold Op.equal
   rw [show Op.maxDepth = 9999 + 1 from rfl, this, run_eqFields hT 9998 w cs cs' fs.toList cs.toList cs'.toList 0 hf hf' (fun i v hv => by simpa using hv) (fun i v hv => by simpa using hv)]
   simp [keyEq]
  ·rw [hu] at hu'; cases hu'
  ·rw [hu] at hu'; cases hu'; cases harr'
 ·rcases keyOk_cases hT hb with ⟨fs', cs', hu', rfl, hp', hf'⟩ | ⟨n', e', cs', d', i', hu', rfl, hd', hi', h1', h2', h3'⟩ | ⟨d', hu', harr', hk'⟩
  ·rw [hu] at hu'; cases hu'
  ·rw [hu] at hu'; cases hu'
   rw [hd] at hd'; cases hd'
   have := run_equalIn_array (P := P) w 9999 cs cs' hu hi
   unfold Op.equal
   rw [show Op.maxDepth = 9999 + 1 from rfl, this]
   have hc : P.cellsOf e = 1 := by simp [Program.cellsOf, hi, h1]
   rw [hc, List.range_eq_range']
   have hn : n = cs.toList.length := by simpa using h2.symm
   rw [hn]
   have := run_eqItems (P := P) 9998 hd w cs.toList cs'.toList cs cs' 0 (fun j v hj => by simpa using hj) (fun j v hj => by simpa using hj) (by simp [h2, h2']) h3 h3'
   simpa [keyEq] using this
  ·rw [hu] at hu'; cases hu'; cases harr'
 ·rcases keyOk_cases hT hb with ⟨fs', cs', hu', rfl, hp', hf'⟩ | ⟨n', e', cs', d', i', hu', rfl, hd', hi', h1', h2', h3'⟩ | ⟨d', hu', harr', hk'⟩
  ·rw [hu] at hu'; cases hu'; cases harr
  ·rw [hu] at hu'; cases hu'; cases harr
  ·rw [hu] at hu'; cases hu'
   have := run_equalIn_key1 hu hk hk' 9999 w
   have e1 : keyEq a b = key1Eq a b := by
    cases d <;> cases a <;> first | rfl | (simp [isKey1] at hk; done)
   rw [e1]; exact this
def aFind (T : Tabs) (t : TypeId) (k : Value) : List (Value × Value × Nat) -> Nat -> Option (Option (Nat × Value))
 | [], _ => some none
 | (k', v, _) :: es, i => match keyOk T t k' with
  | false => none
  | true => match keyEq k k' with
   | true => some (some (i, v))
   | false => aFind T t k es (i + 1)
theorem run_findAsking_key {T : Tabs} (hT : T.Ok P) {η : Env} {t : TypeId} {k : Value} (hk : keyOk T t k = true) (w : World) : ∀ (es : List (Value × Value × Nat)) (es' : List MapEntry) (i : Nat) (r : Option (Nat × Value)),
  aFind T t k es i = some r -> EsRel η es es' ->
  ∃ r', (Instr.findAsking t k es' i).run P w = .ok r' w /\ (r = none -> r' = none) /\ (∀ j v, r = some (j, v) -> ∃ v', r' = some (j, v') /\ VR η v v' /\ i <= j /\ ∃ e, es'[j - i]? = some e /\ e.key = k)
 | [], [], i, r, h, _ => by
  simp only [aFind, Option.some.injEq] at h; subst h
  exact ⟨none, by simp [Instr.findAsking], fun _ => rfl, fun j v h => by cases h⟩
 | [], _ :: _, _, _, _, h => h.elim
 | _ :: _, [], _, _, _, h => h.elim
 | (k1, v1, n1) :: es, e :: es', i, r, h, hr => by
  obtain ⟨h1, h2, _, h4⟩ := hr
  simp only [aFind] at h
  split at h
  ·cases h
  ·rename_i hk1
   have he : e.key = k1 := flat_eq (keyOk_flat hk1) h1
   have hq := run_equal_key hT hk hk1 w
   simp only [Instr.findAsking, he, Sem.run_bind, hq, Result.andThen_ok]
   split at h
   ·rename_i hkk
    cases h
    rw [hkk]
    refine ⟨some (i, e.val), by simp, (fun h => by cases h), fun j v h => ?_⟩
    cases h
    refine ⟨e.val, rfl, h2, Nat.le_refl _, e, by simp, ?_⟩
    rw [he]
    -- equal keys are the same
    rcases keyOk_cases hT hk with ⟨fs, cs, hu, rfl, hp, hf⟩ | ⟨n, e', cs, d, i', hu, rfl, hd, hi, g1, g2, g3⟩ | ⟨d, hu, harr, hk'⟩
    ·rcases keyOk_cases hT hk1 with ⟨fs', cs', hu', rfl, hp', hf'⟩ | ⟨n', e'', cs', d', i'', hu', rfl, hd', hi', g1', g2', g3'⟩ | ⟨d', hu', harr', hk''⟩
     ·rw [hu] at hu'; cases hu'
      have := (fieldsKey_eq hf hf').1 hkk
      rw [Array.toList_inj.1 this]
     ·rw [hu] at hu'; cases hu'
     ·rw [hu] at hu'; cases hu'; cases harr'
    ·rcases keyOk_cases hT hk1 with ⟨fs', cs', hu', rfl, hp', hf'⟩ | ⟨n', e'', cs', d', i'', hu', rfl, hd', hi', g1', g2', g3'⟩ | ⟨d', hu', harr', hk''⟩
     ·rw [hu] at hu'; cases hu'
     ·rw [hu] at hu'; cases hu'
      rw [hd] at hd'; cases hd'
      have := (keysEq_spec g3 g3').1 hkk
      rw [Array.toList_inj.1 this]
     ·rw [hu] at hu'; cases hu'; cases harr'
    ·rcases keyOk_cases hT hk1 with ⟨fs', cs', hu', rfl, hp', hf'⟩ | ⟨n', e'', cs', d', i'', hu', rfl, hd', hi', g1', g2', g3'⟩ | ⟨d', hu', harr', hk''⟩
     ·rw [hu] at hu'; cases hu'; cases harr
     ·rw [hu] at hu'; cases hu'; cases harr
     ·rw [hu] at hu'; cases hu'
      have e1 : keyEq k k1 = key1Eq k k1 := by
       cases d <;> cases k <;> first | rfl | (simp [isKey1] at hk'; done)
      rw [e1] at hkk
      exact ((key1Eq_spec hk' hk'').1 hkk).symm
   ·rename_i hkk
    rw [hkk]
    obtain ⟨r', g1, g2, g3⟩ := run_findAsking_key hT hk w es es' (i + 1) r h h4
    refine ⟨r', by simpa using g1, g2, fun j v hj => ?_⟩
    obtain ⟨v', a1, a2, a3, e', a4, a5⟩ := g3 j v hj
    refine ⟨v', a1, a2, by omega, e', ?_, a5⟩
    rw [show j - i = (j - (i + 1)) + 1 from by omega]; simpa using a4
theorem sameNow_key {d : TypeDesc} {a b : Value} (ha : isKey1 d a = true) (hb : isKey1 d b = true) : Instr.sameNow d a b = some (key1Eq a b) := by
 have hs := key1Eq_spec ha hb
 cases d <;> cases a <;> first
  | (simp [isKey1] at ha; done)
  | skip
 all_goals cases b <;> first
  | (simp [isKey1] at hb; done)
  | skip
 ·simp [Instr.sameNow, key1Eq]
 ·rename_i k j x l y
  have h1 := ikEq_spec ha
  have h2 := ikEq_spec hb
  subst h1; subst h2
  have : (x == y) = key1Eq (.int l x) (.int l y) := by
   rw [Bool.eq_iff_iff, hs]; simp
  simp [Instr.sameNow, this]
 ·rename_i x y
  have : (x == y) = key1Eq (.string x) (.string y) := by
   rw [Bool.eq_iff_iff, hs, bytes_beq]; simp
  simp [Instr.sameNow, this]
theorem findNow_asking {T : Tabs} (hT : T.Ok P) {η : Env} {t : TypeId} {d : TypeDesc} (hu : P.underlying t = some d) (harr : isArr d = false) {k : Value} (hk : keyOk T t k = true) (w : World) :
  ∀ (es : List (Value × Value × Nat)) (es' : List MapEntry) (i : Nat) (r : Option (Nat × Value)), aFind T t k es i = some r -> EsRel η es es' ->
  ∀ r', (Instr.findAsking t k es' i).run P w = .ok r' w -> Instr.findNow d k es' i = some r'
 | [], [], i, r, h, _, r', hr' => by
  simp only [Instr.findAsking, Sem.run_pure, Result.ok.injEq, and_true] at hr'; subst hr'; rfl
 | [], _ :: _, _, _, _, h, _, _ => h.elim
 | _ :: _, [], _, _, _, h, _, _ => h.elim
 | (k1, v1, n1) :: es, e :: es', i, r, h, hr, r', hr' => by
  obtain ⟨h1, h2, _, h4⟩ := hr
  simp only [aFind] at h
  split at h
  ·cases h
  ·rename_i hk1
   have he : e.key = k1 := flat_eq (keyOk_flat hk1) h1
   have hq := run_equal_key hT hk hk1 w
   have hka : isKey1 d k = true /\ isKey1 d k1 = true := by
    rcases keyOk_cases hT hk with ⟨fs, cs, hu', _⟩ | ⟨n, e', cs, d', i', hu', _⟩ | ⟨d', hu', _, hk'⟩
    ·rw [hu] at hu'; cases hu'; cases harr
    ·rw [hu] at hu'; cases hu'; cases harr
    ·rw [hu] at hu'; cases hu'
     rcases keyOk_cases hT hk1 with ⟨fs, cs, hu', _⟩ | ⟨n, e', cs, d', i', hu', _⟩ | ⟨d', hu', _, hk''⟩
     ·rw [hu] at hu'; cases hu'; cases harr
     ·rw [hu] at hu'; cases hu'; cases harr
     ·rw [hu] at hu'; cases hu'; exact ⟨hk', hk''⟩
   have e1 : keyEq k k1 = key1Eq k k1 := by
    cases d <;> cases k <;> first | rfl | (simp [isKey1] at hka; done)
   simp only [Instr.findNow, he, sameNow_key hka.1 hka.2, <- e1]
   simp only [Instr.findAsking, he, Sem.run_bind, hq, Result.andThen_ok] at hr'
   split at h
   ·rename_i hkk
    rw [hkk] at hr' ⊢
    simp only [if_true, Sem.run_pure, Result.ok.injEq, and_true] at hr'
    subst hr'; rfl
   ·rename_i hkk
    rw [hkk] at hr' ⊢
    simp only [Bool.false_eq_true, if_false] at hr'
    exact findNow_asking hT hu harr hk w es es' (i + 1) r h h4 r' hr'
theorem run_findKey_key {T : Tabs} (hT : T.Ok P) {η : Env} {t : TypeId} {k : Value} (hk : keyOk T t k = true) (w : World) {es : List (Value × Value × Nat)} {es' : List MapEntry} {r : Option (Nat × Value)}
  (h : aFind T t k es 0 = some r) (hr : EsRel η es es') :
  ∃ r', (Instr.findKey t k es').run P w = .ok r' w /\ (r = none -> r' = none) /\ (∀ j v, r = some (j, v) -> ∃ v', r' = some (j, v') /\ VR η v v' /\ ∃ e, es'[j]? = some e /\ e.key = k) := by
 obtain ⟨r', g1, g2, g3⟩ := run_findAsking_key hT hk w es es' 0 r h hr
 refine ⟨r', ?_, g2, fun j v hj => by obtain ⟨v', a, b, _, c⟩ := g3 j v hj; exact ⟨v', a, b, by simpa using c⟩⟩
 rcases keyOk_cases hT hk with ⟨fs, cs, hu, _⟩ | ⟨n, e', cs, d', i', hu, _⟩ | ⟨d, hu, harr, hk'⟩
 ·rw [run_findKey_eq w (by rw [hu]) k es']; exact g1
 ·rw [run_findKey_eq w (by rw [hu]) k es']; exact g1
 ·exact run_findKey hu (findNow_asking hT hu harr hk w es es' 0 r h hr r' g1)
end runs
end Go.Eng
