import Derived.Test.YtdpnplanohgecaaDoorEngH
set_option linter.unusedSimpArgs false
set_option linter.unusedVariables false
set_option linter.unusedSectionVars false
namespace Go.Eng
theorem takes_any {T : Tabs} {P : Program} {η : Env} {W : AW} {w : World} (hw : WRel η W w) {size n : Nat} {x x' : Value} {l : List Value} (h : aSrc W size x = some (n, l)) (hx : VR η x x') :
  ∃ l', (Builtin.lenOf x').run P w = .ok n w /\ (Builtin.firstCells size n x').run P w = .ok l'.toArray w /\ (Builtin.firstCells size n x').run P w.drew = .ok l'.toArray w.drew /\ LR η l l' := by
 obtain ⟨h1, l1, h2, h3⟩ := aSrc_spec (P := P) hw h hx
 obtain ⟨_, l2, h5, h6⟩ := aSrc_spec (P := P) hw.drew h hx
 -- a draw turns no cell
 have : l2 = l1 := by
  unfold aSrc at h
  split at h
  ·cases h
   rw [h6.of_nil, h3.of_nil]
  ·split at h
   ·rename_i b o n0 c l hl
    cases h
    have key : ∀ (a : Addr) (k c' : Nat), (Builtin.firstCells size k (.slice (some a) k c')).run P w = .ok l1.toArray w -> (Builtin.firstCells size k (.slice (some a) k c')).run P w.drew = .ok l2.toArray w.drew -> l2 = l1 := by
     intro a k c' g1 g2
     have hrun : ∀ (m i : Nat) (acc acc' : Array Value), (loadCellsFrom a i m acc).run P w = .ok acc' w -> (loadCellsFrom a i m acc).run P w.drew = .ok acc' w.drew := by
      intro m
      induction m with
      | zero => intro i acc acc' h; simp [loadCellsFrom] at h ⊢; exact h
      | succ m ih =>
       intro i acc acc' h
       simp only [loadCellsFrom, Sem.run_bind, run_load] at h ⊢
       have hc : w.drew.cell? (a.add i) = w.cell? (a.add i) := rfl
       rw [hc]
       cases hcell : w.cell? (a.add i) with
       | some u =>
        rw [hcell] at h
        simp only [Result.andThen_ok] at h ⊢
        exact ih _ _ _ h
       | none =>
        rw [hcell] at h
        simp only at h ⊢
        have hfar : w.drew.farLoad P (a.add i) (Mode.plain == .atomic) = w.farLoad P (a.add i) (Mode.plain == .atomic) := rfl
        rw [hfar]
        cases hf : w.farLoad P (a.add i) (Mode.plain == .atomic) with
        | ok q =>
         rw [hf] at h
         simp only [Result.andThen_ok] at h ⊢
         exact ih _ _ _ h
        | error er => rw [hf] at h; simp at h
     have := hrun (k * size) 0 #[] l1.toArray g1
     have g2' : (loadCellsFrom a 0 (k * size) #[]).run P w.drew = .ok l2.toArray w.drew := g2
     rw [this] at g2'
     injection g2' with g3
     exact (List.toArray_inj g3).symm
    cases hx with
    | sliceAt _ _ _ c e he => exact key _ _ _ h2 h5
    | sliceEnd _ _ _ sz c e he => exact key _ _ _ h2 h5
   ·split at h
    ·cases h
     rw [h6.of_nil, h3.of_nil]
    ·cases h
  ·cases h
   rw [h6.of_nil, h3.of_nil]
  ·cases h
   rw [h6.of_nil, h3.of_nil]
  ·rename_i s
   cases h; cases hx
   have e1 : l1 = aBytes s := by
    have : (Builtin.firstCells size s.data.toList.length (.string s)).run P w = .ok ((s.extract 0 s.data.toList.length).data.map fun b => .int .u8 b.toNat) w := rfl
    rw [this] at h2
    injection h2 with h2
    have e : (s.extract 0 s.data.toList.length).data.toList = s.data.toList := by rw [Lib.extract_data, List.drop_zero, Nat.sub_zero, List.take_length]
    have := congrArg Array.toList h2
    rw [Array.toList_map, e] at this
    simpa [aBytes] using this.symm
   have e2 : l2 = aBytes s := by
    have : (Builtin.firstCells size s.data.toList.length (.string s)).run P w.drew = .ok ((s.extract 0 s.data.toList.length).data.map fun b => .int .u8 b.toNat) w.drew := rfl
    rw [this] at h5
    injection h5 with h5
    have e : (s.extract 0 s.data.toList.length).data.toList = s.data.toList := by rw [Lib.extract_data, List.drop_zero, Nat.sub_zero, List.take_length]
    have := congrArg Array.toList h5
    rw [Array.toList_map, e] at this
    simpa [aBytes] using this.symm
   rw [e1, e2]
  ·cases h
 subst this
 exact ⟨l2, h1, h2, h5, h3⟩
section
variable {T : Tabs} {P : Program} (hT : T.Ok P) {η : Env} {W : AW} {w : World} (hw : WRel η W w) {sT xT ty elem : TypeId} {xd : TypeDesc} (hs : T.und.get sT = some (.slice elem)) (hx : T.und.get xT = some xd)
  (hnz : ∀ k, xd ≠ .int k) {i : TypeInfo} (hi : T.info.get elem = some i) {z : Value} (hz : i.zero = some z) (hzl : (acells z).length = i.size)
  {n : Nat} {x' : Value} {nl nl' : List Value} (hn : (Builtin.lenOf x').run P w = .ok n w) (hnew : (Builtin.firstCells i.size n x').run P w = .ok nl'.toArray w)
  (hnew' : (Builtin.firstCells i.size n x').run P w.drew = .ok nl'.toArray w.drew) (hl : LR η nl nl') (hone : oneCells nl = true) (hnl : nl.length = n * i.size)
include hT hs hx hnz hi hz hzl hn hnew' hl hnl hw
theorem append_anew {base : Option Addr} {sl sc : Nat} {old old' : List Value} (hgrow : sc < sl + n) (hb : (2 * (sl + n)) * i.bytes <= 281474976710656) (hsmall : sl + n <= 4611686018427387904)
  (hold' : (Builtin.firstCells i.size sl (.slice base sl sc)).run P w.drew = .ok old'.toArray w.drew) (ho : LR η old old') (hol : old.length = sl * i.size) :
  Res P η W w (Builtin.append_ #[sT, xT] ty #[.slice base sl sc, x']) (W.newCells elem (old ++ nl)) (fun η' v' => VR η' (.slice (some ⟨W.next, 0, none⟩) (sl + n) (2 * i.size + 1)) v') := by
 obtain ⟨cap, h1, h2⟩ := run_append_grow' (hT.und _ _ hs) (hT.und _ _ hx) hnz (hT.info _ _ hi) hz ty hn hgrow hb hsmall hold' hnew'
 have hr := sound_newCells hw.drew (elem := elem) (x := (Builtin.zeroCells z.cells (cap - (sl + n))).toList) (ho.append hl)
 refine ⟨_, _, _, h2, hr.2.drew_left, hr.1, ?_⟩
 have hzs : z.cells.size = i.size := by rw [<- hzl, (acells_vr (flat_vr η z (hT.zero _ _ _ hi hz))).1]; simp
 refine VR.sliceEnd W.next 0 (sl + n) i.size cap (w.heap.size, 0, _) (Env.add_self _ _ _) h1 ?_
 have e1 := ho.1
 have e2 := hl.1
 simp only [Nat.zero_add, List.length_append, Array.length_toList, zeroCells_size, hzs]
 rw [<- e1, <- e2, hol, hnl, <- Nat.add_mul, <- Nat.add_mul]
 congr 1; omega
theorem append_into (hone : oneCells nl = true) {b o sl sc code : Nat} {e : Nat × Nat × Nat} (he : η b = some e) {W' : AW} (hst : W.storeList b (o + sl * i.size) nl = some W')
  (hnewq : (Builtin.firstCells i.size n x').run P w = .ok nl'.toArray w) (hfit : sl + n <= sc) (hv : ∀ k, k <= sc -> VR η (.slice (some ⟨b, o, none⟩) k code) (.slice (some ⟨e.1, e.2.1 + o, none⟩) k sc)) :
  Res P η W w (Builtin.append_ #[sT, xT] ty #[.slice (some ⟨e.1, e.2.1 + o, none⟩) sl sc, x']) W' (fun η' v' => VR η' (.slice (some ⟨b, o, none⟩) (sl + n) code) v') := by
 obtain ⟨w', g1, g2, g3⟩ := sound_storeList (P := P) nl nl' W W' w b (o + sl * i.size) 0 e hw (by simpa using hst) he hl
 refine ⟨η, w', _, run_append_fits' (hT.und _ _ hs) (hT.und _ _ hx) hnz (hT.info _ _ hi) ty hn hfit hnewq ?_, g2, g3, hv _ hfit⟩
 rw [add_eq, Nat.add_assoc]; exact g1
theorem append_open (hone : oneCells nl = true) (hnewq : (Builtin.firstCells i.size n x').run P w = .ok nl'.toArray w) {b o sl sc : Nat} {c : Tr Value} {nb : Nat} {kin : List (Nat × Bool)} {e : Nat × Nat × Nat} (he : η b = some e)
  (hb : W.blocks.get b = some ⟨.cells c nb elem, kin⟩) (hc : e.2.1 + o + sc * i.size = e.2.2) (hend : o + sl * i.size = nb) {old : List Value} (ho : W.cellsAt b o (sl * i.size) = some old)
  (hby : (2 * (sl + n)) * i.bytes <= 281474976710656) (hsmall : sl + n <= 4611686018427387904) (hle : sl <= sc) :
  Res P η W w (Builtin.append_ #[sT, xT] ty #[.slice (some ⟨e.1, e.2.1 + o, none⟩) sl sc, x']) (aGrow W b W.next c nb elem kin o (old ++ nl)) (fun η' v' => VR η' (.slice (some ⟨W.next, 0, none⟩) (sl + n) (2 * i.size + 1)) v') := by
 obtain ⟨c', fz, h2, h3, h4, h5, h6⟩ := hw.cells hb he
 obtain ⟨old', g1, g2⟩ := hw.loadCells (P := P) ho he
 obtain ⟨old'', g1', g2'⟩ := hw.drew.loadCells (P := P) ho he
 have hol : old.length = sl * i.size := by
  have ho' := ho
  unfold AW.cellsAt at ho'
  rw [hb] at ho'
  simp only at ho'
  split at ho'
  ·exact (Tr.take_spec _ _ _ _ ho').1
  ·cases ho'
 by_cases hfit : sl + n <= sc
 ·-- in place
  have hmul : sl * i.size + n * i.size <= sc * i.size := by rw [<- Nat.add_mul]; exact Nat.mul_le_mul_right _ hfit
  obtain ⟨c2, w', k1, k2, k3, k4, k5, k6, k7, k8, k9⟩ := storeCells_raw (P := P) e.1 elem fz (e.2.1 + o + sl * i.size) nl' 0 c' w h2 (by have := hl.1; omega) (fun j hj => h5 j (by omega)) (oneCells_vr hl hone)
  have hin := hw.growIn (o := o) (l := old ++ nl) (l' := old' ++ nl') (c0 := c') (c2 := c2) (fz := fz) hb he k2 h2 k3 (fun j hj => by rw [k4 j, if_neg (by omega)])
   (by have := hl.1; simp only [List.length_append]; omega) ((g2.append hl).1) ((g2.append hl).2)
   (fun j hj => by
    have e1 := hl.1
    have e2 := g2.1
    simp only [List.length_append] at hj
    rw [k4 (e.2.1 + o + j)]
    by_cases hj2 : j < old'.length
    ·rw [if_neg (by omega), List.getElem?_append_left hj2]
     -- what was there is what was read
     have hcells : (loadCells ⟨e.1, e.2.1 + o, none⟩ (sl * i.size)).run P w = .ok old'.toArray w := g1
     have key := run_loadCells_list (P := P) w ⟨e.1, e.2.1 + o, none⟩ ((c'.toList.drop (e.2.1 + o)).take (sl * i.size)) (fun q v hq => by
      have hq' : q < sl * i.size := by
       rcases Nat.lt_or_ge q (sl * i.size) with h | h
       ·exact h
       ·rw [List.getElem?_eq_none (by simp; omega)] at hq; cases hq
      rw [add_eq, cell?_of h2]
      rw [List.getElem?_take_of_lt hq', List.getElem?_drop] at hq
      simpa using hq)
     have hlen : ((c'.toList.drop (e.2.1 + o)).take (sl * i.size)).length = sl * i.size := by simp; omega
     rw [hlen, hcells] at key
     injection key with key
     have key := List.toArray_inj key
     rw [key, List.getElem?_take_of_lt (by omega), List.getElem?_drop]
     simp
    ·rw [if_pos (by omega), List.getElem?_append_right (by omega)]
     congr 1; omega)
   k5 k6 k7 k8 k9
  refine ⟨_, w', _, run_append_fits' (hT.und _ _ hs) (hT.und _ _ hx) hnz (hT.info _ _ hi) ty hn hfit hnewq ?_, hin.2, hin.1, ?_⟩
  ·rw [add_eq]; exact k1
  ·have := VR.sliceEnd W.next 0 (sl + n) i.size sc (e.1, e.2.1 + o, e.2.2) (Env.add_self η _ _) hfit (by simpa using hc)
   simpa using this
 ·-- anew
  obtain ⟨cap, q1, q2⟩ := run_append_grow' (base := some ⟨e.1, e.2.1 + o, none⟩) (sl := sl) (sc := sc) (old := old'') (hT.und _ _ hs) (hT.und _ _ hx) hnz (hT.info _ _ hi) hz ty hn (by omega) hby hsmall g1' hnew'
  have hr := hw.drew.growNew (o := o) (x := (Builtin.zeroCells z.cells (cap - (sl + n))).toList) hb he (g2'.append hl)
  refine ⟨_, _, _, q2, hr.2.drew_left, hr.1, ?_⟩
  have hzs : z.cells.size = i.size := by rw [<- hzl, (acells_vr (flat_vr η z (hT.zero _ _ _ hi hz))).1]; simp
  refine VR.sliceEnd W.next 0 (sl + n) i.size cap (w.heap.size, 0, _) (Env.add_self _ _ _) q1 ?_
  have e1 := g2'.1
  have e2 := hl.1
  simp only [Nat.zero_add, List.length_append, Array.length_toList, zeroCells_size, hzs]
  rw [<- e1, <- e2, hol, hnl, <- Nat.add_mul, <- Nat.add_mul]
  congr 1; omega
end
end Go.Eng
