import Derived.Test.YtdpnplanohgecaaDoorEngI
set_option linter.unusedSimpArgs false
set_option linter.unusedVariables false
set_option linter.unusedSectionVars false
namespace Go.Eng
theorem odd_of {c n : Nat} (h : Nat.beq (c % 2) 0 = false) (e : c = 2 * n) : False := by
 subst e; rw [show 2 * n % 2 = 0 from by omega] at h; cases h
theorem even_of {c n : Nat} (h : Nat.beq (c % 2) 0 = true) (e : c = 2 * n + 1) : False := by
 subst e; rw [show (2 * n + 1) % 2 = 1 from by omega] at h; cases h
section
variable {T : Tabs} {P : Program} (hT : T.Ok P) {η : Env} {W W' : AW} {w : World} (hw : WRel η W w) {sT xT ty elem : TypeId} {xd : TypeDesc} (hs : T.und.get sT = some (.slice elem)) (hx : T.und.get xT = some xd)
  (hnz : ∀ k, xd ≠ .int k) {i : TypeInfo} (hi : T.info.get elem = some i) {s s' x' v : Value}
include hT hs hx hnz hi hw
theorem aApp0_spec (hn : (Builtin.lenOf x').run P w = .ok 0 w) (hnew : (Builtin.firstCells i.size 0 x').run P w = .ok #[] w) (h : aApp0 W s = some (v, W')) (hs' : VR η s s') :
  Res P η W w (Builtin.append_ #[sT, xT] ty #[s', x']) W' (fun η' v' => VR η' v v') := by
 have fin : ∀ (a : Option Addr) (l c : Nat), l <= c -> (Builtin.append_ #[sT, xT] ty #[.slice a l c, x']).run P w = .ok (.slice a l c) w := fun a l c hle =>
  run_append_nothing (hT.und _ _ hs) (hT.und _ _ hx) hnz (hT.info _ _ hi) ty hn hle hnew
 unfold aApp0 at h
 split at h
 ·cases h; cases hs'; exact Res.of_eq hw (fin _ _ _ (Nat.le_refl _)) .sliceNil
 ·split at h
  ·rename_i hev
   split at h
   ·rename_i hle
    have hle := Nat.le_of_ble_eq_true hle
    cases h
    cases hs' with
    | sliceAt _ _ _ c e he => exact Res.of_eq hw (fin _ _ _ (by omega)) (.sliceAt _ _ _ _ _ he)
    | sliceEnd _ _ _ sz c e he => exact (even_of hev rfl).elim
   ·cases h
  ·rename_i hod
   cases h
   cases hs' with
   | sliceAt _ _ _ c e he => exact (odd_of hod rfl).elim
   | sliceEnd _ _ _ sz c e he h1 h2 => exact Res.of_eq hw (fin _ _ _ h1) (.sliceEnd _ _ _ _ _ _ he h1 h2)
 ·cases h
  cases hs' with
  | sliceDead _ _ sz c a e he hc => exact Res.of_eq hw (fin _ _ _ (Nat.zero_le _)) (.sliceDead _ _ _ _ _ _ he hc)
 ·cases h
variable {z : Value} (hz : i.zero = some z) (hzl : (acells z).length = i.size)
  {n : Nat} {nl nl' : List Value} (hn : (Builtin.lenOf x').run P w = .ok n w) (hnew : (Builtin.firstCells i.size n x').run P w = .ok nl'.toArray w)
  (hnew' : (Builtin.firstCells i.size n x').run P w.drew = .ok nl'.toArray w.drew) (hl : LR η nl nl') (hone : oneCells nl = true) (hnl : nl.length = n * i.size) (hn0 : 0 < n)
include hz hzl hn hnew hnew' hl hone hnl hn0
theorem aApp1_spec (h : aApp1 W elem i.size i.bytes n nl s = some (v, W')) (hs' : VR η s s') :
  Res P η W w (Builtin.append_ #[sT, xT] ty #[s', x']) W' (fun η' v' => VR η' v v') := by
 unfold aApp1 at h
 split at h
 ·split at h
  ·rename_i h1 h2
   have h1 := Nat.le_of_ble_eq_true h1
   have h2 := Nat.le_of_ble_eq_true h2
   cases h; cases hs'
   exact append_anew hT hw hs hx hnz hi hz hzl hn hnew' hl hnl (old := []) (old' := []) (by omega) h1 h2 (by simp [Builtin.firstCells]) (.nil η) (by simp)
  ·cases h
 ·rename_i b o n0 code
  split at h
  ·rename_i h1 h2
   have h1 := Nat.le_of_ble_eq_true h1
   have h2 := Nat.le_of_ble_eq_true h2
   split at h
   ·rename_i hev
    cases hs' with
    | sliceEnd _ _ _ sz c e he => exact (even_of hev rfl).elim
    | sliceAt _ _ _ c e he =>
     rw [show 2 * c / 2 = c from by omega] at h
     split at h
     ·rename_i hfit
      have hfit := Nat.le_of_ble_eq_true hfit
      split at h
      ·rename_i W1 hst
       cases h
       exact append_into hT hw hs hx hnz hi hz hzl hn hnew' hl hnl hone he hst hnew hfit (fun k _ => .sliceAt _ _ _ _ _ he)
      ·cases h
     ·rename_i hfit
      have hfit : ¬ n0 + n <= c := fun x => by rw [Nat.ble_eq_true_of_le x] at hfit; cases hfit
      split at h
      ·rename_i old ho
       cases h
       obtain ⟨old', g1, g2⟩ := hw.drew.loadCells (P := P) ho he
       have hol : old.length = n0 * i.size := by
        unfold AW.cellsAt at ho
        split at ho
        ·split at ho
         ·exact (Tr.take_spec _ _ _ _ ho).1
         ·cases ho
        ·split at ho
         ·exact (Tr.take_spec _ _ _ _ ho).1
         ·cases ho
        ·cases ho
       exact append_anew hT hw hs hx hnz hi hz hzl hn hnew' hl hnl (by omega) h1 h2 g1 g2 hol
      ·cases h
   ·rename_i hod
    split at h
    ·rename_i hsq hpos
     have hsq := Nat.eq_of_beq_eq_true hsq
     have hpos : 0 < i.size := by rw [Nat.blt_eq] at hpos; exact hpos
     cases hs' with
     | sliceAt _ _ _ c e he => exact (odd_of hod rfl).elim
     | sliceEnd _ _ _ sz c e he hle hc =>
      have hsz : sz = i.size := by omega
      subst hsz
      split at h
      ·rename_i cs nb el kin hb
       split at h
       ·rename_i hin
        have hin := Nat.le_of_ble_eq_true hin
        split at h
        ·rename_i W1 hst
         cases h
         obtain ⟨c', fz, y2, y3, y4, _⟩ := hw.cells hb he
         have hfit : n0 + n <= c := by
          have : (n0 + n) * i.size <= c * i.size := by omega
          exact Nat.le_of_mul_le_mul_right this hpos
         exact append_into hT hw hs hx hnz hi hz hzl hn hnew' hl hnl hone he hst hnew hfit (fun k hk => .sliceEnd _ _ _ _ _ _ he hk hc)
        ·cases h
       ·split at h
        ·rename_i old hend hel ho
         have hend := Nat.eq_of_beq_eq_true hend
         have hel := Nat.eq_of_beq_eq_true hel
         subst hel
         cases h
         exact append_open hT hw hs hx hnz hi hz hzl hn hnew' hl hnl hone hnew he hb hc hend ho h1 h2 hle
        ·cases h
      ·cases h
    ·cases h
  ·cases h
 ·rename_i b o code
  split at h
  ·rename_i h1 h2
   have h1 := Nat.le_of_ble_eq_true h1
   have h2 := Nat.le_of_ble_eq_true h2
   split at h
   ·cases h
   ·rename_i hod
    split at h
    ·rename_i cs nb el kin hsq hb
     have hsq := Nat.eq_of_beq_eq_true hsq
     split at h
     ·rename_i old hend hel ho
      have hend := Nat.eq_of_beq_eq_true hend
      have hel := Nat.eq_of_beq_eq_true hel
      subst hel
      cases h
      cases hs' with
      | sliceDead _ _ sz c a e he hc =>
       have hsz : sz = i.size := by omega
       subst hsz
       have hold0 : old = [] := by
        have ho' := ho
        unfold AW.cellsAt at ho'
        rw [hb] at ho'
        simp only [Nat.zero_mul] at ho'
        split at ho'
        ·simp [Tr.take] at ho'; exact ho'
        ·cases ho'
       rcases hc with hc | ⟨ha, hc⟩
       ·subst hc
        subst hold0
        obtain ⟨cap, q1, q2⟩ := run_append_grow' (base := some a) (sl := 0) (sc := 0) (old := []) (hT.und _ _ hs) (hT.und _ _ hx) hnz (hT.info _ _ hi) hz ty hn (by omega) h1 h2 (by simp [Builtin.firstCells, loadCells, loadCellsFrom]) hnew'
        have hr := hw.drew.growNew (o := o) (x := (Builtin.zeroCells z.cells (cap - (0 + n))).toList) hb he hl
        refine ⟨_, _, _, q2, hr.2.drew_left, hr.1, ?_⟩
        have hzs : z.cells.size = i.size := by rw [<- hzl, (acells_vr (flat_vr η z (hT.zero _ _ _ hi hz))).1]; simp
        refine VR.sliceEnd W.next 0 (0 + n) i.size cap (w.heap.size, 0, _) (Env.add_self _ _ _) q1 ?_
        have e2 := hl.1
        simp only [Nat.zero_add, List.length_append, Array.length_toList, zeroCells_size, hzs]
        rw [<- e2, hnl, <- Nat.add_mul]
        congr 1; omega
       ·subst ha
        exact append_open hT hw hs hx hnz hi hz hzl hn hnew' hl hnl hone hnew he hb hc hend ho h1 h2 (Nat.zero_le _)
     ·cases h
    ·cases h
  ·cases h
 ·cases h
end
theorem aAppend_spec {T : Tabs} {P : Program} (hT : T.Ok P) {η : Env} {W W' : AW} {w : World} (hw : WRel η W w) {tys : List TypeId} {args args' : List Value} {v : Value} (ty : TypeId)
  (h : aAppend T W tys args = some (v, W')) (ha : LR η args args') : Res P η W w (Builtin.append_ tys.toArray ty args'.toArray) W' (fun η' v' => VR η' v v') := by
 unfold aAppend at h
 split at h
 case h_2 => cases h
 rename_i sT xT s x
 obtain ⟨s', t1, rfl, hs', ht1⟩ := ha.uncons
 obtain ⟨x', t2, rfl, hx', ht2⟩ := ht1.uncons
 rw [ht2.of_nil]
 split at h
 case h_2 => cases h
 rename_i elem xd hs hx
 split at h
 case h_2 => cases h
 rename_i i hnz hi
 have hnz' : ∀ k, xd ≠ .int k := fun k e => by subst e; cases hnz
 split at h
 case h_2 => cases h
 rename_i n nl z hsrc hz
 obtain ⟨nl', g1, g2, g3, g4⟩ := takes_any (T := T) (P := P) hw hsrc hx'
 split at h
 case h_2 => cases h
 rename_i hzl0 hnl0 hone
 have hzl := Nat.eq_of_beq_eq_true hzl0
 have hnl := Nat.eq_of_beq_eq_true hnl0
 clear hzl0 hnl0
 split at h
 ·rename_i hn0
  have hn0 := Nat.eq_of_beq_eq_true hn0
  subst hn0
  have e : nl' = [] := List.length_eq_zero_iff.1 (by rw [<- g4.1, hnl, Nat.zero_mul])
  subst e
  exact aApp0_spec hT hw hs hx hnz' hi g1 g2 h hs'
 ·rename_i hn0
  have hn0 : 0 < n := by
   rcases Nat.eq_zero_or_pos n with e | e
   ·subst e; cases hn0
   ·exact e
  exact aApp1_spec hT hw hs hx hnz' hi hz hzl g1 g2 g3 g4 hone hnl hn0 h hs'
end Go.Eng
