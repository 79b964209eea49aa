import Derived.Test.YtdpnplanohgecaaDoorEngG
set_option linter.unusedSimpArgs false
set_option linter.unusedVariables false
set_option linter.unusedSectionVars false
namespace Go.Eng
theorem storeCells_raw {P : Program} (r : Nat) (el : TypeId) (fz : Nat × Nat) (p : Nat) : ∀ (l : List Value) (k : Nat) (c : Array Value) (w : World), w.heap[r]? = some (.cells c el fz) ->
  p + k + l.length <= c.size -> (∀ i, p <= i -> i < c.size -> ¬ (fz.1 <= i /\ i < fz.2)) -> (∀ v ∈ l, v.oneCell' = true) ->
  ∃ c' w', (storeCells ⟨r, p, none⟩ l k).run P w = .ok () w' /\ w'.heap[r]? = some (.cells c' el fz) /\ c'.size = c.size /\
   (∀ i, c'[i]? = if p + k <= i /\ i < p + k + l.length then l[i - (p + k)]? else c[i]?) /\ w'.heap.size = w.heap.size /\ (∀ r', r' ≠ r -> w'.heap[r']? = w.heap[r']?) /\
   w'.tape = w.tape /\ w'.os = w.os /\ w'.output = w.output
 | [], k, c, w, h, hs, hf, ho => ⟨c, w, rfl, h, rfl, fun i => by rw [if_neg (by simp only [List.length_nil]; omega)], rfl, fun _ _ => rfl, rfl, rfl, rfl⟩
 | v :: l, k, c, w, h, hs, hf, ho => by
  simp only [List.length_cons] at hs
  have hv := ho v (List.mem_cons_self ..)
  have h1 : w.cell? ⟨r, p + k, none⟩ = some (c[p + k]'(by omega)) := by rw [cell?_of h]; exact Array.getElem?_eq_getElem _
  have h2 : w.frozen? ⟨r, p + k, none⟩ = false := by
   simp only [World.frozen?, h]
   have := hf (p + k) (by omega) (by omega)
   simp only [Bool.and_eq_false_iff, decide_eq_false_iff_not]
   by_cases hx : fz.1 <= p + k
   ·exact .inr (fun x => this ⟨hx, x⟩)
   ·exact .inl hx
  obtain ⟨c', w', g1, g2, g3, g4, g5, g6, g7, g8, g9⟩ := storeCells_raw (P := P) r el fz p l (k + 1) (c.setIfInBounds (p + k) v) (w.setCell ⟨r, p + k, none⟩ v) (setCell_heap _ _ _ _ _ _ _ h)
   (by simp; omega) (by simpa using hf) (fun u hu => ho u (List.mem_cons_of_mem _ hu))
  refine ⟨c', w', ?_, g2, by simpa using g3, fun i => ?_, by rw [g5, setCell_size], fun r' hr => by rw [g6 r' hr, setCell_heap_ne _ _ _ _ _ hr], g7, g8, g9⟩
  ·simp only [storeCells, Sem.run_bind, add_eq, run_store _ _ _ _ _ hv, h1, h2]
   simpa using g1
  ·rw [g4 i]
   by_cases hi : i = p + k
   ·subst hi
    rw [if_neg (by omega), if_pos (by simp), Array.getElem?_setIfInBounds_self_of_lt (by omega)]
    simp
   ·by_cases hi2 : p + (k + 1) <= i /\ i < p + (k + 1) + l.length
    ·rw [if_pos hi2, if_pos (by simp only [List.length_cons]; omega), show i - (p + k) = (i - (p + (k + 1))) + 1 from by omega]
     simp
    ·rw [if_neg hi2, if_neg (by simp only [List.length_cons]; omega), Array.getElem?_setIfInBounds_ne (Ne.symm hi)]
def aBytes (s : ByteArray) : List Value := s.data.toList.map fun b => .int .u8 b.toNat
def aSrc (W : AW) (size : Nat) (x : Value) : Option (Nat × List Value) :=
 match x with
 | .slice none 0 0 => some (0, [])
 | .slice (some ⟨b, o, none⟩) n _ => match W.cellsAt b o (n * size) with
  | some l => some (n, l)
  | none => match n with
   | 0 => some (0, [])
   | _ => none
 | .slice (some ⟨_, _, some 0⟩) 0 _ => some (0, [])
 | .slice (some ⟨_, _, some 1⟩) 0 0 => some (0, [])
 | .string s => some (s.data.toList.length, aBytes s)
 | _ => none
theorem aSrc_spec {P : Program} {η : Env} {W : AW} {w : World} (hw : WRel η W w) {size n : Nat} {x x' : Value} {l : List Value} (h : aSrc W size x = some (n, l)) (hx : VR η x x') :
  (Builtin.lenOf x').run P w = .ok n w /\ ∃ l', (Builtin.firstCells size n x').run P w = .ok l'.toArray w /\ LR η l l' := by
 unfold aSrc at h
 split at h
 ·cases h; cases hx; exact ⟨rfl, [], rfl, .nil η⟩
 ·rename_i b o n0 c
  split at h
  ·rename_i l1 hl
   cases h
   have fin : ∀ (e : Nat × Nat × Nat) (c' : Nat), η b = some e -> (Builtin.lenOf (.slice (some ⟨e.1, e.2.1 + o, none⟩) n c')).run P w = .ok n w /\
     ∃ l', (Builtin.firstCells size n (.slice (some ⟨e.1, e.2.1 + o, none⟩) n c')).run P w = .ok l'.toArray w /\ LR η l l' := fun e c' he => by
    obtain ⟨l', g1, g2⟩ := hw.loadCells (P := P) hl he
    exact ⟨rfl, l', g1, g2⟩
   cases hx with
   | sliceAt _ _ _ c e he => exact fin e _ he
   | sliceEnd _ _ _ sz c e he => exact fin e _ he
  ·split at h
   ·cases h
    cases hx with
    | sliceAt _ _ _ c e he => exact ⟨rfl, [], by simp [Builtin.firstCells, loadCells, loadCellsFrom], .nil η⟩
    | sliceEnd _ _ _ sz c e he => exact ⟨rfl, [], by simp [Builtin.firstCells, loadCells, loadCellsFrom], .nil η⟩
   ·cases h
 ·cases h; cases hx
  refine ⟨rfl, [], ?_, .nil η⟩
  simp [Builtin.firstCells, loadCells, loadCellsFrom]
 ·cases h; cases hx
  refine ⟨rfl, [], ?_, .nil η⟩
  simp [Builtin.firstCells, loadCells, loadCellsFrom]
 ·rename_i s
  cases h; cases hx
  refine ⟨rfl, aBytes s, ?_, ?_⟩
  ·have e : (s.extract 0 s.data.toList.length).data.toList = s.data.toList := by rw [Lib.extract_data, List.drop_zero, Nat.sub_zero, List.take_length]
   simp only [Builtin.firstCells, Sem.run_pure]
   congr 1
   apply Array.toList_inj.1
   rw [Array.toList_map, e]; rfl
  ·refine ⟨rfl, fun i v v' a b => ?_⟩
   rw [a] at b; cases b
   simp only [aBytes, List.getElem?_map, Option.map_eq_some_iff] at a
   obtain ⟨u, _, rfl⟩ := a
   exact .int _ _
 ·cases h
def growKin (t : Tr ABlk) (nb next : Nat) : List (Nat × Bool) -> Tr ABlk × List (Nat × Bool)
 | [] => (t, [])
 | (m, f) :: l => match growKin t nb next l with
  | (t', kept) => match f, t'.get m with
   | true, some ⟨.cells c n el, ks⟩ => match Nat.ble n nb with
    | true => (t'.set m ⟨.cells c n el, (next, true) :: ks⟩, (m, true) :: kept)
    | false => (t'.del m, kept)
   | _, _ => (t'.del m, kept)
def aGrow (W : AW) (b next : Nat) (c : Tr Value) (nb : Nat) (el : TypeId) (kin : List (Nat × Bool)) (o : Nat) (l : List Value) : AW :=
 match o with
 | 0 => match growKin W.blocks nb next kin with
  | (t, kept) => ⟨(t.set b ⟨.cells c nb el, (next, true) :: kept⟩).set next ⟨.cells (Tr.nil.lay 0 l) l.length el, (b, true) :: kept⟩, next + 1⟩
 | _ + 1 => ⟨((AW.kill W.blocks kin).set b ⟨.cells c nb el, [(next, false)]⟩).set next ⟨.cells (Tr.nil.lay 0 l) l.length el, [(b, false)]⟩, next + 1⟩
def oneCells (l : List Value) : Bool := allB Value.oneCell' l
def aApp0 (W : AW) (s : Value) : Option (Value × AW) :=
 match s with
 | .slice none 0 0 => some (.slice none 0 0, W)
 | .slice (some ⟨b, o, none⟩) n0 code => match Nat.beq (code % 2) 0 with
  | true => match Nat.ble n0 (code / 2) with
   | true => some (.slice (some ⟨b, o, none⟩) n0 code, W)
   | false => none
  | false => some (.slice (some ⟨b, o, none⟩) n0 code, W)
 | .slice (some ⟨b, o, some 0⟩) 0 code => some (.slice (some ⟨b, o, some 0⟩) 0 code, W)
 | _ => none
def aApp1 (W : AW) (elem : TypeId) (size bytes n : Nat) (nl : List Value) (s : Value) : Option (Value × AW) :=
 match s with
 | .slice none 0 0 => match Nat.ble ((2 * (0 + n)) * bytes) 281474976710656, Nat.ble (0 + n) 4611686018427387904 with
  | true, true => some (.slice (some ⟨W.next, 0, none⟩) (0 + n) (2 * size + 1), W.newCells elem ([] ++ nl))
  | _, _ => none
 | .slice (some ⟨b, o, none⟩) n0 code => match Nat.ble ((2 * (n0 + n)) * bytes) 281474976710656, Nat.ble (n0 + n) 4611686018427387904 with
  | true, true => match Nat.beq (code % 2) 0 with
   | true => match Nat.ble (n0 + n) (code / 2) with
    | true => match W.storeList b (o + n0 * size) nl with
     | some W' => some (.slice (some ⟨b, o, none⟩) (n0 + n) code, W')
     | none => none
    | false => match W.cellsAt b o (n0 * size) with
     | some old => some (.slice (some ⟨W.next, 0, none⟩) (n0 + n) (2 * size + 1), W.newCells elem (old ++ nl))
     | none => none
   | false => match Nat.beq (code / 2) size, Nat.blt 0 size with
    | true, true => match W.blocks.get b with
     | some ⟨.cells c nb el, kin⟩ => match Nat.ble (o + (n0 + n) * size) nb with
      | true => match W.storeList b (o + n0 * size) nl with
       | some W' => some (.slice (some ⟨b, o, none⟩) (n0 + n) code, W')
       | none => none
      | false => match Nat.beq (o + n0 * size) nb, Nat.beq el elem, W.cellsAt b o (n0 * size) with
       | true, true, some old => some (.slice (some ⟨W.next, 0, none⟩) (n0 + n) (2 * size + 1), aGrow W b W.next c nb el kin o (old ++ nl))
       | _, _, _ => none
     | _ => none
    | _, _ => none
  | _, _ => none
 | .slice (some ⟨b, o, some 0⟩) 0 code => match Nat.ble ((2 * (0 + n)) * bytes) 281474976710656, Nat.ble (0 + n) 4611686018427387904 with
  | true, true => match Nat.beq (code % 2) 0 with
   | true => none
   | false => match Nat.beq (code / 2) size, W.blocks.get b with
    | true, some ⟨.cells c nb el, kin⟩ => match Nat.beq (o + 0 * size) nb, Nat.beq el elem, W.cellsAt b o (0 * size) with
     | true, true, some old => some (.slice (some ⟨W.next, 0, none⟩) (0 + n) (2 * size + 1), aGrow W b W.next c nb el kin o (old ++ nl))
     | _, _, _ => none
    | _, _ => none
  | _, _ => none
 | _ => none
def notInt : TypeDesc -> Bool
 | .int _ => false
 | _ => true
def aAppend (T : Tabs) (W : AW) (argTypes : List TypeId) (args : List Value) : Option (Value × AW) :=
 match argTypes, args with
 | [sT, xT], [s, x] => match T.und.get sT, T.und.get xT with
  | some (.slice elem), some xd => match notInt xd, T.info.get elem with
   | true, some i => match aSrc W i.size x, i.zero with
    | some (n, nl), some z => match Nat.beq (acells z).length i.size, Nat.beq nl.length (n * i.size), oneCells nl with
     | true, true, true => match Nat.beq n 0 with
      | true => aApp0 W s
      | false => aApp1 W elem i.size i.bytes n nl s
     | _, _, _ => none
    | _, _ => none
   | _, _ => none
  | _, _ => none
 | _, _ => none
theorem zeroCells_size (z : Array Value) (n : Nat) : (Builtin.zeroCells z n).size = n * z.size := by simp [Builtin.zeroCells]
theorem run_append_grow' {P : Program} {w : World} {sT xT : TypeId} {elem : TypeId} {xd : TypeDesc} (hs : P.underlying sT = some (.slice elem)) (hx : P.underlying xT = some xd)
  (hnz : ∀ k, xd ≠ .int k) {i : TypeInfo} (hi : P.info? elem = some i) {z : Value} (hz : i.zero = some z)
  {base : Option Addr} {sl sc n : Nat} {x' : Value} {nl old : List Value} (ty : TypeId) (hn : (Builtin.lenOf x').run P w = .ok n w) (hgrow : sc < sl + n)
  (hb : (2 * (sl + n)) * i.bytes <= 281474976710656) (hsmall : sl + n <= 4611686018427387904)
  (hold' : (Builtin.firstCells i.size sl (.slice base sl sc)).run P w.drew = .ok old.toArray w.drew)
  (hnew' : (Builtin.firstCells i.size n x').run P w.drew = .ok nl.toArray w.drew) :
  ∃ cap, sl + n <= cap /\ (Builtin.append_ #[sT, xT] ty #[.slice base sl sc, x']).run P w =
   .ok (.slice (some ⟨w.heap.size, 0, none⟩) (sl + n) cap) (w.drew.alloc (.cells (old ++ nl ++ (Builtin.zeroCells z.cells (cap - (sl + n))).toList).toArray elem)) := by
 refine ⟨(Question.appendCap (sl + n) sc elem).cut (w.tape w.drawn (.appendCap (sl + n) sc elem)), by simp only [Question.cut]; omega, ?_⟩
 have hno : ¬ (sl + n <= sc) := by omega
 have h63 : ¬ (9223372036854775807 < ((sl : Int) + (n : Int))) := by omega
 have hcap : ¬ (281474976710656 < Builtin.nextslicecap (sl + n) sc * i.bytes) := by
  have h1 := nextslicecap_le hgrow
  have := Nat.mul_le_mul_right i.bytes h1
  omega
 have e : ∀ (x : Array Value), old.toArray ++ (nl.toArray ++ x) = (old ++ (nl ++ x.toList)).toArray := fun x => by
  apply Array.toList_inj.1; simp
 simp [Builtin.append_, run_under hs, run_under hx, sizeOf, typeInfo, zeroValue, hi, hz, hn, hno, h63, hcap, Question.forced, newRow, hold', hnew', e]
theorem run_append_fits' {P : Program} {w w' : World} {sT xT : TypeId} {elem : TypeId} {xd : TypeDesc} (hs : P.underlying sT = some (.slice elem)) (hx : P.underlying xT = some xd)
  (hnz : ∀ k, xd ≠ .int k) {i : TypeInfo} (hi : P.info? elem = some i)
  {a : Addr} {sl sc n : Nat} {x' : Value} {nl : List Value} (ty : TypeId) (hn : (Builtin.lenOf x').run P w = .ok n w) (hfit : sl + n <= sc)
  (hnew : (Builtin.firstCells i.size n x').run P w = .ok nl.toArray w) (hst : (storeCells (a.add (sl * i.size)) nl).run P w = .ok () w') :
  (Builtin.append_ #[sT, xT] ty #[.slice (some a) sl sc, x']).run P w = .ok (.slice (some a) (sl + n) sc) w' := by
 simp [Builtin.append_, run_under hs, run_under hx, sizeOf, typeInfo, hi, hn, hfit, hnew, hst]
theorem run_append_nothing {P : Program} {w : World} {sT xT : TypeId} {elem : TypeId} {xd : TypeDesc} (hs : P.underlying sT = some (.slice elem)) (hx : P.underlying xT = some xd)
  (hnz : ∀ k, xd ≠ .int k) {i : TypeInfo} (hi : P.info? elem = some i)
  {base : Option Addr} {sl sc : Nat} {x' : Value} (ty : TypeId) (hn : (Builtin.lenOf x').run P w = .ok 0 w) (hfit : sl <= sc)
  (hnew : (Builtin.firstCells i.size 0 x').run P w = .ok #[] w) :
  (Builtin.append_ #[sT, xT] ty #[.slice base sl sc, x']).run P w = .ok (.slice base sl sc) w := by
 cases base <;> simp [Builtin.append_, run_under hs, run_under hx, sizeOf, typeInfo, hi, hn, hfit, hnew, storeCells]
theorem oneCells_vr {η : Env} {l l' : List Value} (h : LR η l l') (ho : oneCells l = true) : ∀ v ∈ l', v.oneCell' = true := by
 intro v hv
 obtain ⟨j, hj, rfl⟩ := List.mem_iff_getElem.1 hv
 have hj' : j < l.length := h.1 ▸ hj
 have := h.2 j l[j] l'[j] (List.getElem?_eq_getElem hj') (List.getElem?_eq_getElem hj)
 rw [oneCell_vr this]
 exact allB_mem ho _ (List.getElem_mem hj')
theorem WRel.drew {η : Env} {W : AW} {w : World} (h : WRel η W w) : WRel η W w.drew := h.drawn _
theorem Fr.drew_left {η η' : Env} {W W' : AW} {w w' : World} (h : Fr η W w.drew η' W' w') : Fr η W w η' W' w' := ⟨h.le, h.size, h.keep, h.new, h.froz, h.tape, h.os, h.output, h.next, h.fresh, h.sort⟩
structure Kept (t t' : Tr ABlk) (nb next : Nat) (l kept : List (Nat × Bool)) : Prop where
 sub : ∀ p ∈ kept, p ∈ l /\ p.2 = true
 get : ∀ x k', t'.get x = some k' -> ∃ k, t.get x = some k /\ k'.obj = k.obj /\ (∀ p ∈ k.kin, p ∈ k'.kin) /\
  (∀ f, (x, f) ∈ l -> f = true /\ (x, true) ∈ kept /\ (next, true) ∈ k'.kin /\ ∃ c n el, k.obj = .cells c n el /\ n <= nb)
theorem growKin_spec (t : Tr ABlk) (nb next : Nat) : ∀ (l : List (Nat × Bool)), Kept t (growKin t nb next l).1 nb next l (growKin t nb next l).2
 | [] => ⟨fun p h => by simp [growKin] at h, fun x k' h => ⟨k', h, rfl, fun _ h => h, fun f h => by simp at h⟩⟩
 | (m, f) :: l => by
  have ih := growKin_spec t nb next l
  have hdel : Kept t ((growKin t nb next l).1.del m) nb next ((m, f) :: l) (growKin t nb next l).2 := by
   refine ⟨fun p hp => ⟨List.mem_cons_of_mem _ (ih.sub p hp).1, (ih.sub p hp).2⟩, fun x k' h => ?_⟩
   rw [Tr.get_del] at h
   split at h
   ·cases h
   ·rename_i hne
    obtain ⟨k, h1, h2, h3, h4⟩ := ih.get x k' h
    refine ⟨k, h1, h2, h3, fun g hg => ?_⟩
    rcases List.mem_cons.1 hg with hg | hg
    ·cases hg; exact absurd rfl hne
    ·exact h4 g hg
  simp only [growKin]
  split
  ·rename_i c n el ks hget
   split
   ·rename_i hn
    have hn : n <= nb := Nat.le_of_ble_eq_true hn
    refine ⟨fun p hp => ?_, fun x k' h => ?_⟩
    ·rcases List.mem_cons.1 hp with hp | hp
     ·subst hp; exact ⟨List.mem_cons_self .., rfl⟩
     ·exact ⟨List.mem_cons_of_mem _ (ih.sub p hp).1, (ih.sub p hp).2⟩
    ·simp only [Tr.get_set] at h
     split at h
     ·rename_i hx
      subst hx
      cases h
      obtain ⟨k, h1, h2, h3, h4⟩ := ih.get x _ hget
      refine ⟨k, h1, h2, fun p hp => List.mem_cons_of_mem _ (h3 p hp), fun g hg => ⟨?_, List.mem_cons_self .., List.mem_cons_self .., c, n, el, h2.symm, hn⟩⟩
      rcases List.mem_cons.1 hg with hg | hg
      ·cases hg; rfl
      ·exact (h4 g hg).1
     ·rename_i hne
      obtain ⟨k, h1, h2, h3, h4⟩ := ih.get x k' h
      refine ⟨k, h1, h2, h3, fun g hg => ?_⟩
      rcases List.mem_cons.1 hg with hg | hg
      ·cases hg; exact absurd rfl hne
      ·obtain ⟨y1, y2, y3⟩ := h4 g hg; exact ⟨y1, List.mem_cons_of_mem _ y2, y3⟩
   ·exact hdel
  ·exact hdel
structure Grown (W : AW) (b : Nat) (c : Tr Value) (nb : Nat) (el : TypeId) (kin : List (Nat × Bool)) (o : Nat) (l : List Value) (x : Nat) (k' : ABlk) : Prop where
 new : x = W.next -> k'.obj = .cells (Tr.nil.lay 0 l) l.length el
 self : x = b -> x ≠ W.next -> k'.obj = .cells c nb el
 rest : x ≠ b -> x ≠ W.next -> ∃ k, W.blocks.get x = some k /\ k'.obj = k.obj /\ (∀ p ∈ k.kin, p ∈ k'.kin) /\
  (∀ f, (x, f) ∈ kin -> o = 0 /\ f = true /\ (W.next, true) ∈ k'.kin /\ ∃ c n el, k.obj = .cells c n el /\ n <= nb)
 newKin : x = W.next -> (∃ f, (b, f) ∈ k'.kin /\ (f = true -> o = 0))
 selfKin : x = b -> x ≠ W.next -> (∃ f, (W.next, f) ∈ k'.kin /\ (f = true -> o = 0))
theorem aGrow_get {W : AW} {b : Nat} {c : Tr Value} {nb : Nat} {el : TypeId} {kin : List (Nat × Bool)} {o : Nat} {l : List Value} {x : Nat} {k' : ABlk}
  (h : (aGrow W b W.next c nb el kin o l).blocks.get x = some k') : Grown W b c nb el kin o l x k' := by
 unfold aGrow at h
 split at h
 ·have hk := growKin_spec W.blocks nb W.next kin
  generalize growKin W.blocks nb W.next kin = r at h hk
  obtain ⟨t, kept⟩ := r
  simp only [Tr.get_set] at h
  split at h
  ·rename_i hx; cases h
   exact ⟨fun _ => rfl, fun _ y => absurd hx y, fun _ y => absurd hx y, fun _ => ⟨true, List.mem_cons_self .., fun _ => rfl⟩, fun _ y => absurd hx y⟩
  ·rename_i hx
   split at h
   ·rename_i hb; cases h
    exact ⟨fun y => absurd y hx, fun _ _ => rfl, fun y => absurd hb y, fun y => absurd y hx, fun _ _ => ⟨true, List.mem_cons_self .., fun _ => rfl⟩⟩
   ·rename_i hb
    obtain ⟨k, h1, h2, h3, h4⟩ := hk.get x k' h
    exact ⟨fun y => absurd y hx, fun y => absurd y hb, fun _ _ => ⟨k, h1, h2, h3, fun f hf => ⟨rfl, (h4 f hf).1, (h4 f hf).2.2.1, (h4 f hf).2.2.2⟩⟩, fun y => absurd y hx, fun y => absurd y hb⟩
 ·simp only [Tr.get_set] at h
  split at h
  ·rename_i hx; cases h
   exact ⟨fun _ => rfl, fun _ y => absurd hx y, fun _ y => absurd hx y, fun _ => ⟨false, List.mem_cons_self .., fun y => by cases y⟩, fun _ y => absurd hx y⟩
  ·rename_i hx
   split at h
   ·rename_i hb; cases h
    exact ⟨fun y => absurd y hx, fun _ _ => rfl, fun y => absurd hb y, fun y => absurd y hx, fun _ _ => ⟨false, List.mem_cons_self .., fun y => by cases y⟩⟩
   ·rename_i hb
    obtain ⟨h1, h2⟩ := AW.get_kill h
    exact ⟨fun y => absurd y hx, fun y => absurd y hb, fun _ _ => ⟨k', h1, rfl, fun _ h => h, fun f hf => absurd hf (h2 f)⟩, fun y => absurd y hx, fun y => absurd y hb⟩
theorem aGrow_kept {W : AW} {b : Nat} {c : Tr Value} {nb : Nat} {el : TypeId} {kin : List (Nat × Bool)} {o : Nat} {l : List Value} {x : Nat} {k' : ABlk} (hx : x ≠ b) (hx' : x ≠ W.next)
  (h : (aGrow W b W.next c nb el kin o l).blocks.get x = some k') {f : Bool} (hf : (x, f) ∈ kin) :
  o = 0 /\ (∀ y k, y = b \/ y = W.next -> (aGrow W b W.next c nb el kin o l).blocks.get y = some k -> (x, true) ∈ k.kin) := by
 unfold aGrow at h ⊢
 split at h
 ·have hk := growKin_spec W.blocks nb W.next kin
  generalize growKin W.blocks nb W.next kin = r at h hk
  obtain ⟨t, kept⟩ := r
  simp only [Tr.get_set] at h ⊢
  rw [if_neg hx', if_neg hx] at h
  obtain ⟨k, h1, h2, h3, h4⟩ := hk.get x k' h
  refine ⟨by trivial, fun y k0 hy hg => ?_⟩
  have hm := (h4 f hf).2.1
  split at hg
  ·cases hg; exact List.mem_cons_of_mem _ hm
  ·rename_i hy1
   rw [if_pos (hy.resolve_right hy1)] at hg
   cases hg; exact List.mem_cons_of_mem _ hm
 ·simp only [Tr.get_set] at h
  rw [if_neg hx', if_neg hx] at h
  exact absurd hf ((AW.get_kill h).2 f)
theorem aGrow_next (W : AW) (b : Nat) (c : Tr Value) (nb : Nat) (el : TypeId) (kin : List (Nat × Bool)) (o : Nat) (l : List Value) : (aGrow W b W.next c nb el kin o l).next = W.next + 1 := by
 unfold aGrow; split <;> rfl
theorem WRel.growIn {η : Env} {W : AW} {w w' : World} (hw : WRel η W w) {b o : Nat} {c : Tr Value} {nb : Nat} {el : TypeId} {kin : List (Nat × Bool)} {e : Nat × Nat × Nat}
  (hb : W.blocks.get b = some ⟨.cells c nb el, kin⟩) (he : η b = some e) {l l' : List Value} {c0 c2 : Array Value} {fz : Nat × Nat}
  (h1 : w'.heap[e.1]? = some (.cells c2 el fz)) (h0 : w.heap[e.1]? = some (.cells c0 el fz)) (h02 : c2.size = c0.size) (hkeep : ∀ i, i < e.2.1 + nb -> c2[i]? = c0[i]?)
  (hlen : e.2.1 + o + l.length <= c2.size) (hl : l.length = l'.length) (hnew : ∀ (i : Nat) (v v' : Value), l[i]? = some v -> l'[i]? = some v' -> VR η v v') (hc2 : ∀ i, i < l'.length -> c2[e.2.1 + o + i]? = l'[i]?)
  (hsize : w'.heap.size = w.heap.size) (hrest : ∀ r, r ≠ e.1 -> w'.heap[r]? = w.heap[r]?) (ht : w'.tape = w.tape) (hos : w'.os = w.os) (hout : w'.output = w.output) :
  WRel (η.add W.next (e.1, e.2.1 + o, e.2.2)) (aGrow W b W.next c nb el kin o l) w' /\ Fr η W w (η.add W.next (e.1, e.2.1 + o, e.2.2)) (aGrow W b W.next c nb el kin o l) w' := by
 have hfresh : η W.next = none := by
  cases hn : η W.next with
  | none => rfl
  | some e => exact absurd (hw.next _ e hn) (Nat.lt_irrefl _)
 have hle := Env.le_add (e.1, e.2.1 + o, e.2.2) hfresh
 have hbn : b ≠ W.next := fun x => by have := hw.next b e he; omega
 have old : ∀ b e', b ≠ W.next -> (η.add W.next (e.1, e.2.1 + o, e.2.2)) b = some e' -> η b = some e' := fun b e hb hx => by simpa [Env.add, hb] using hx
 obtain ⟨c0', fz', y1, y2, y3, y4, y5⟩ := hw.cells hb he
 rw [h0] at y1; cases y1
 -- what is said of a block that begins there and is no longer stays
 have stays : ∀ (c1 : Tr Value) (n : Nat) (el1 : TypeId) (e1 : Nat × Nat × Nat) (o1 : Obj), e1.1 = e.1 -> e1.2.1 = e.2.1 -> n <= nb -> w.heap[e1.1]? = some o1 -> ORel η (.cells c1 n el1) e1 o1 -> ORel η (.cells c1 n el1) e1 (.cells c2 el fz) := by
  intro c1 n el1 e1 o1 g1 g2 g3 g4 g5
  rw [g1, h0] at g4; cases g4
  obtain ⟨z1, z2, z3, z4, z5⟩ := g5
  refine ⟨z1, h02.trans z2, by omega, fun i a b => z4 i a (by omega), fun i v hi hv => ?_⟩
  obtain ⟨v', q1, q2⟩ := z5 i v hi hv
  exact ⟨v', by rw [hkeep _ (by omega)]; exact q1, q2⟩
 refine ⟨⟨?_, ?_, ?_, ?_⟩, ⟨hle, by omega, fun r _ hr => ?_, ?_, frozen?_cells h0 h1 hrest, ht, hos, hout, by rw [aGrow_next]; exact Nat.le_succ _, ?_, fun r c1 el1 fz1 x => by
  by_cases hr : r = e.1
  ·subst hr
   rw [h0] at x; cases x
   exact ⟨c2, h1, h02⟩
  ·exact ⟨c1, by rw [hrest r hr]; exact x, rfl⟩⟩⟩
 ·intro b₁ k₁ e₁ hg x0
  have hgr := aGrow_get hg
  by_cases h2 : b₁ = W.next
  ·have hob := hgr.new h2
   subst h2
   rw [Env.add_self] at x0; cases x0
   rw [hob]
   refine ⟨_, h1, rfl, h02.trans y2, hlen, fun i hi hi2 => y4 i (by simp at hi; omega) (by omega), fun i v hi hv => ?_⟩
   rw [Tr.get_lay] at hv
   simp only [Nat.zero_le, Nat.zero_add, true_and, Nat.sub_zero] at hv
   rw [if_pos hi] at hv
   have hi' : i < l'.length := by omega
   refine ⟨l'[i], ?_, (hnew i v _ hv (List.getElem?_eq_getElem hi')).mono hle⟩
   show c2[e.2.1 + o + i]? = _
   rw [hc2 i hi']; exact List.getElem?_eq_getElem hi'
  ·have x1 := old _ _ h2 x0
   by_cases h3 : b₁ = b
   ·have hob := hgr.self h3 h2
    subst h3
    rw [he] at x1; cases x1
    rw [hob]
    refine ⟨_, h1, ORel.mono hle (stays c nb el e _ rfl rfl (Nat.le_refl _) h0 ⟨rfl, y2, y3, y4, y5⟩)⟩
   ·obtain ⟨k, z1, z2, z3, z4⟩ := hgr.rest h3 h2
    obtain ⟨o₁, x2, x3⟩ := hw.obj b₁ k e₁ z1 x1
    rw [z2]
    by_cases hh : e₁.1 = e.1
    ·obtain ⟨f, q1, q2⟩ := hw.apart b b₁ _ k e e₁ hb z1 he x1 hh.symm (Ne.symm h3)
     obtain ⟨p1, p2, p3, c1, n1, el1, p4, p5⟩ := z4 f q1
     rw [p4] at x3 ⊢
     refine ⟨_, by rw [hh]; exact h1, ORel.mono hle (stays c1 n1 el1 e₁ o₁ hh ?_ p5 x2 x3)⟩
     exact (q2 p2).symm
    ·exact ⟨o₁, by rw [hrest _ hh]; exact x2, x3.mono hle⟩
 ·intro b₁ b₂ k₁ k₂ e₁ e₂ g1 g2 x1 x2 hee hne
  have G1 := aGrow_get g1
  have G2 := aGrow_get g2
  by_cases h1 : b₁ = W.next
  ·have hb2 : b₂ ≠ W.next := fun x => hne (h1.trans x.symm)
   have x2' := old _ _ hb2 x2
   have he1 : e₁ = (e.1, e.2.1 + o, e.2.2) := by subst h1; rw [Env.add_self] at x1; cases x1; rfl
   subst he1
   by_cases h2 : b₂ = b
   ·obtain ⟨f, q1, q2⟩ := G1.newKin h1
    subst h2
    rw [he] at x2'; cases x2'
    exact ⟨f, q1, fun hf => by simp [q2 hf]⟩
   ·obtain ⟨k, z1, z2, z3, z4⟩ := G2.rest h2 hb2
    obtain ⟨f, q1, q2⟩ := hw.apart b b₂ _ k e e₂ hb z1 he x2' hee (Ne.symm h2)
    obtain ⟨p1, p2, _⟩ := z4 f q1
    exact ⟨true, (aGrow_kept h2 hb2 g2 q1).2 b₁ k₁ (.inr h1) g1, fun _ => by subst p1; exact q2 p2⟩
  ·have x1' := old _ _ h1 x1
   by_cases h2 : b₂ = W.next
   ·have he2 : e₂ = (e.1, e.2.1 + o, e.2.2) := by subst h2; rw [Env.add_self] at x2; cases x2; rfl
    subst he2
    by_cases h3 : b₁ = b
    ·obtain ⟨f, q1, q2⟩ := G1.selfKin h3 h1
     subst h3
     rw [he] at x1'; cases x1'
     subst h2
     exact ⟨f, q1, fun hf => by simp [q2 hf]⟩
    ·obtain ⟨k, z1, z2, z3, z4⟩ := G1.rest h3 h1
     obtain ⟨f, q1, q2⟩ := hw.apart b b₁ _ k e e₁ hb z1 he x1' hee.symm (Ne.symm h3)
     obtain ⟨p1, p2, p3, _⟩ := z4 f q1
     subst h2
     exact ⟨true, p3, fun _ => by subst p1; exact (q2 p2).symm⟩
   ·have x2' := old _ _ h2 x2
    by_cases h3 : b₁ = b
    ·have h4 : b₂ ≠ b := fun x => hne (h3.trans x.symm)
     obtain ⟨k, z1, z2, z3, z4⟩ := G2.rest h4 h2
     have x1b : η b = some e₁ := h3 ▸ x1'
     rw [he] at x1b; cases x1b
     obtain ⟨f, q1, q2⟩ := hw.apart b b₂ _ k e e₂ hb z1 he x2' hee (Ne.symm h4)
     exact ⟨true, (aGrow_kept h4 h2 g2 q1).2 b₁ k₁ (.inl h3) g1, fun _ => q2 (z4 f q1).2.1⟩
    ·obtain ⟨k, z1, z2, z3, z4⟩ := G1.rest h3 h1
     by_cases h4 : b₂ = b
     ·subst h4
      obtain ⟨f, q1, q2⟩ := hw.apart b₁ b₂ k _ e₁ e₂ z1 hb x1' x2' hee hne
      exact ⟨f, z3 _ q1, q2⟩
     ·obtain ⟨k', z1', _⟩ := G2.rest h4 h2
      obtain ⟨f, q1, q2⟩ := hw.apart b₁ b₂ k k' e₁ e₂ z1 z1' x1' x2' hee hne
      exact ⟨f, z3 _ q1, q2⟩
 ·intro b₁ e₁ hx
  rw [aGrow_next]
  by_cases h2 : b₁ = W.next
  ·omega
  ·have := hw.next b₁ e₁ (old _ _ h2 hx); omega
 ·intro b₁ e₁ hx
  by_cases h2 : b₁ = W.next
  ·subst h2; rw [Env.add_self] at hx; cases hx; rw [hsize]; exact hw.inHeap b e he
  ·rw [hsize]; exact hw.inHeap b₁ e₁ (old _ _ h2 hx)
 ·by_cases hr2 : r = e.1
  ·subst hr2
   by_cases hz : e.2.2 = 0
   ·have e1 : c0 = #[] := Array.eq_empty_of_size_eq_zero (by omega)
    have e2 : c2 = #[] := Array.eq_empty_of_size_eq_zero (by omega)
    rw [h1, h0, e1, e2]
   ·exact absurd rfl (hr b e he hz)
  ·exact hrest r hr2
 ·intro b₁ e₁ hx hz
  by_cases h2 : b₁ = W.next
  ·subst h2; rw [Env.add_self] at hx; cases hx; exact .inr (.inr ⟨b, e, he, hz, rfl⟩)
  ·exact .inl (old _ _ h2 hx)
 ·intro b₁ e₁ hx
  by_cases h2 : b₁ = W.next
  ·exact .inr (Nat.le_of_eq h2.symm)
  ·exact .inl (old _ _ h2 hx)
theorem WRel.growNew {η : Env} {W : AW} {w : World} (hw : WRel η W w) {b o : Nat} {c : Tr Value} {nb : Nat} {el : TypeId} {kin : List (Nat × Bool)} {e : Nat × Nat × Nat}
  (hb : W.blocks.get b = some ⟨.cells c nb el, kin⟩) (he : η b = some e) {l l' x : List Value} (hl : LR η l l') :
  WRel (η.add W.next (w.heap.size, 0, (l' ++ x).length)) (aGrow W b W.next c nb el kin o l) { w with heap := w.heap.push (.cells (l' ++ x).toArray el) } /\
   Fr η W w (η.add W.next (w.heap.size, 0, (l' ++ x).length)) (aGrow W b W.next c nb el kin o l) { w with heap := w.heap.push (.cells (l' ++ x).toArray el) } := by
 obtain ⟨h1, h2⟩ := sound_newCells hw (elem := el) (x := x) hl
 have old : ∀ b e', b ≠ W.next -> (η.add W.next (w.heap.size, 0, (l' ++ x).length)) b = some e' -> η b = some e' := fun b e hb hx => by simpa [Env.add, hb] using hx
 refine ⟨⟨?_, ?_, fun b e hx => ?_, h1.inHeap⟩, ⟨h2.le, h2.size, h2.keep, h2.new, h2.froz, h2.tape, h2.os, h2.output, by rw [aGrow_next]; exact Nat.le_succ _, h2.fresh, h2.sort⟩⟩
 ·intro b₁ k₁ e₁ hg x0
  have G := aGrow_get hg
  by_cases h3 : b₁ = W.next
  ·rw [G.new h3]
   subst h3
   exact h1.obj W.next ⟨.cells (Tr.nil.lay 0 l) l.length el, []⟩ e₁ (by simp [AW.newCells, AW.new, Tr.get_set]) x0
  ·by_cases h4 : b₁ = b
   ·rw [G.self h4 h3]
    subst h4
    exact h1.obj b₁ ⟨.cells c nb el, kin⟩ e₁ (by simp [AW.newCells, AW.new, Tr.get_set, h3, hb]) x0
   ·obtain ⟨k, z1, z2, _⟩ := G.rest h4 h3
    rw [z2]
    exact h1.obj b₁ k e₁ (by simp [AW.newCells, AW.new, Tr.get_set, h3, z1]) x0
 ·intro b₁ b₂ k₁ k₂ e₁ e₂ g1 g2 x1 x2 hee hne
  have G1 := aGrow_get g1
  have G2 := aGrow_get g2
  by_cases h3 : b₁ = W.next
  ·have hb2 : b₂ ≠ W.next := fun x => hne (h3.trans x.symm)
   subst h3
   rw [Env.add_self] at x1; cases x1
   have := hw.inHeap b₂ e₂ (old _ _ hb2 x2)
   simp only at hee; omega
  ·by_cases h4 : b₂ = W.next
   ·subst h4
    rw [Env.add_self] at x2; cases x2
    have := hw.inHeap b₁ e₁ (old _ _ h3 x1)
    simp only at hee; omega
   ·have x1' := old _ _ h3 x1
    have x2' := old _ _ h4 x2
    by_cases h5 : b₁ = b
    ·have h6 : b₂ ≠ b := fun x => hne (h5.trans x.symm)
     obtain ⟨k, z1, z2, z3, z4⟩ := G2.rest h6 h4
     have x1b : η b = some e₁ := h5 ▸ x1'
     obtain ⟨f, q1, q2⟩ := hw.apart b b₂ _ k e₁ e₂ hb z1 x1b x2' hee (Ne.symm h6)
     exact ⟨true, (aGrow_kept h6 h4 g2 q1).2 b₁ k₁ (.inl h5) g1, fun _ => q2 (z4 f q1).2.1⟩
    ·obtain ⟨k, z1, z2, z3, z4⟩ := G1.rest h5 h3
     by_cases h6 : b₂ = b
     ·subst h6
      obtain ⟨f, q1, q2⟩ := hw.apart b₁ b₂ k _ e₁ e₂ z1 hb x1' x2' hee hne
      exact ⟨f, z3 _ q1, q2⟩
     ·obtain ⟨k', z1', _⟩ := G2.rest h6 h4
      obtain ⟨f, q1, q2⟩ := hw.apart b₁ b₂ k k' e₁ e₂ z1 z1' x1' x2' hee hne
      exact ⟨f, z3 _ q1, q2⟩
 ·have := h1.next b e hx
  rw [aGrow_next]; exact this
end Go.Eng
