import Derived.Test.YtdpnplanohgecaaDoorEngVr
import Derived.Test.YtdpnplanohgecaaDoorEngRe
set_option linter.unusedSimpArgs false
set_option linter.unusedVariables false
set_option linter.unusedSectionVars false
section
namespace Go.Eng
def sumN : Nat -> (Nat -> Int) -> Int
 | 0, _ => 0
 | n + 1, f => sumN n f + f n
theorem sumN_congr {f g : Nat -> Int} : ∀ {n : Nat}, (∀ i, i < n -> f i = g i) -> sumN n f = sumN n g
 | 0, _ => rfl
 | n + 1, h => by simp only [sumN]; rw [sumN_congr (fun i hi => h i (by omega)), h n (by omega)]
theorem sumN_add {f g : Nat -> Int} : ∀ {n : Nat}, sumN n (fun i => f i + g i) = sumN n f + sumN n g
 | 0 => rfl
 | n + 1 => by simp only [sumN]; rw [sumN_add]; omega
theorem sumN_zero : ∀ {n : Nat}, sumN n (fun _ => 0) = 0
 | 0 => rfl
 | n + 1 => by simp only [sumN]; rw [sumN_zero]; rfl
theorem sumN_swap {f : Nat -> Nat -> Int} {m : Nat} : ∀ {n : Nat}, sumN n (fun i => sumN m (fun t => f i t)) = sumN m (fun t => sumN n (fun i => f i t))
 | 0 => by simp only [sumN]; exact sumN_zero.symm
 | n + 1 => by simp only [sumN]; rw [sumN_swap, sumN_add]
theorem sumN_one {n k : Nat} {x : Nat -> Int} (hk : k < n) : sumN n (fun i => if i = k then x i else 0) = x k := by
 induction n with
 | zero => omega
 | succ n ih =>
  simp only [sumN]
  by_cases h : n = k
  ·subst h
   rw [if_pos rfl, sumN_congr (g := fun _ => 0) (fun i hi => if_neg (by omega)), sumN_zero]; omega
  ·rw [if_neg h, ih (by omega)]; omega
def PermN (n : Nat) (q : Nat -> Nat) : Prop := (∀ i, i < n -> q i < n) /\ ∀ i j, i < n -> j < n -> q i = q j -> i = j
def worthN (n : Nat) (c : Nat -> Nat -> Int) (q : Nat -> Nat) : Int := sumN n (fun i => c i (q i))
def gain (c : Nat -> Nat -> Int) (p : Nat -> Nat) (i j : Nat) : Int := c i j - c i (p i)
def gainM (c : Nat -> Nat -> Int) (p : Nat -> Nat) (r : Nat -> Int) : Nat -> Nat -> Int
 | 0, j => r j
 | i + 1, j => max (gainM c p r i j) (r (p i) + gain c p i j)
def gainD (n : Nat) (c : Nat -> Nat -> Int) (p : Nat -> Nat) : Nat -> Nat -> Int
 | 0, _ => 0
 | r + 1, j => gainM c p (gainD n c p r) n j
section
variable {n : Nat} {c : Nat -> Nat -> Int} {p : Nat -> Nat}
def wayG (c : Nat -> Nat -> Int) (p : Nat -> Nat) (s f : Nat -> Nat) : Nat -> Int
 | 0 => 0
 | m + 1 => wayG c p s f m + gain c p (s m) (f (m + 1))
def WayN (n : Nat) (p : Nat -> Nat) (s f : Nat -> Nat) (m : Nat) : Prop := ∀ t, t < m -> s t < n /\ f t = p (s t)
end
end Go.Eng

end
section
namespace Go.Eng
def SlEmp (A : Option Addr) (c : Nat) : Prop := (A = none /\ c = 0) \/ (∃ b o, A = some ⟨b, o, none⟩) \/ (A = some ⟨0, 0, some 1⟩ /\ c = 0)
def SlOk (u : Value) (n : Nat) : Prop := (u = .slice none 0 0 /\ n = 0) \/ (∃ b o c, u = .slice (some ⟨b, o, none⟩) n (2 * c) /\ n <= c) \/ (u = .slice (some ⟨0, 0, some 1⟩) 0 0 /\ n = 0)
theorem SlOk.emp {A : Option Addr} {c n : Nat} (h : SlOk (.slice A n c) n) : SlEmp A c := by
 rcases h with ⟨h, _⟩ | ⟨b, o, c', h, _⟩ | ⟨h, _⟩
 ·cases h; exact .inl ⟨rfl, rfl⟩
 ·cases h; exact .inr (.inl ⟨b, o, rfl⟩)
 ·cases h; exact .inr (.inr ⟨rfl, rfl⟩)
section
variable {α : Type} {sz : Nat} {enc : α -> List Value}
def RowIn (sz : Nat) (enc : α -> List Value) (W : AW) (v : Value) (l : List α) : Prop :=
 ∃ A c, v = .slice A l.length c /\ (l.length = 0 -> SlEmp A c) /\ ∀ i a, l[i]? = some a -> ∃ b o, A = some ⟨b, o, none⟩ /\ ∀ j u, (enc a)[j]? = some u -> W.Has b (o + i * sz + j) u
theorem RowIn.only {W W' : AW} {v : Value} {l : List α} {K : Nat -> Prop} (h : RowIn sz enc W v l) (he : Only K W W') (hk : ∀ b, b < W.next -> ¬ K b) : RowIn sz enc W' v l := by
 obtain ⟨A, c, h1, h0, h2⟩ := h
 refine ⟨A, c, h1, h0, fun i a hi => ?_⟩
 obtain ⟨b, o, g1, g2⟩ := h2 i a hi
 exact ⟨b, o, g1, fun j u hu => (g2 j u hu).only he (hk b (g2 j u hu).1)⟩
theorem RowIn.ext {W W' : AW} {v : Value} {l : List α} (h : RowIn sz enc W v l) (he : Ext W W') : RowIn sz enc W' v l := h.only he (fun _ _ x => x)
theorem RowIn.len {W : AW} {v : Value} {l : List α} (h : RowIn sz enc W v l) : ∃ A c, v = .slice A l.length c := let ⟨A, c, h, _⟩ := h; ⟨A, c, h⟩
theorem RowIn.nil (W : AW) : RowIn sz enc W (.slice none 0 0) ([] : List α) := ⟨none, 0, rfl, fun _ => .inl ⟨rfl, rfl⟩, fun i a h => by simp at h⟩
def flatE (enc : α -> List Value) (l : List α) : List Value := l.flatMap enc
theorem flatE_append (l m : List α) : flatE enc (l ++ m) = flatE enc l ++ flatE enc m := List.flatMap_append
theorem flatE_one (a : α) : flatE enc [a] = enc a := by simp [flatE]
theorem flatE_len (he : ∀ a, (enc a).length = sz) : ∀ l : List α, (flatE enc l).length = l.length * sz
 | [] => by simp [flatE]
 | a :: l => by
  rw [flatE, List.flatMap_cons, List.length_append, <- flatE, flatE_len he l, List.length_cons, he, Nat.add_mul]; omega
theorem flatE_get (he : ∀ a, (enc a).length = sz) : ∀ (l : List α) (i : Nat) (a : α), l[i]? = some a -> ∀ j, j < sz -> (flatE enc l)[i * sz + j]? = (enc a)[j]?
 | [], _, _, h => by simp at h
 | x :: l, 0, a, h => by
  simp only [List.getElem?_cons_zero, Option.some.injEq] at h; subst h
  intro j hj
  rw [flatE, List.flatMap_cons, List.getElem?_append_left (by rw [he]; omega)]
  simp
 | x :: l, i + 1, a, h => by
  intro j hj
  rw [flatE, List.flatMap_cons, List.getElem?_append_right (by rw [he, Nat.add_mul]; omega), <- flatE]
  have := flatE_get he l i a (by simpa using h) j hj
  rw [<- this]
  congr 1
  rw [he, Nat.add_mul]; omega
theorem RowIn.of_cells (he : ∀ a, (enc a).length = sz) {W : AW} {b c : Nat} {l : List α} (h : ∀ i u, (flatE enc l)[i]? = some u -> W.Has b i u) : RowIn sz enc W (.slice (some ⟨b, 0, none⟩) l.length c) l := by
 refine ⟨_, _, rfl, fun _ => .inr (.inl ⟨_, _, rfl⟩), fun i a hi => ⟨b, 0, rfl, fun j u hu => ?_⟩⟩
 have hj : j < sz := by have := (List.getElem?_eq_some_iff.1 hu).1; rw [he] at this; exact this
 rw [Nat.zero_add]
 exact h _ _ (by rw [flatE_get he l i a hi j hj]; exact hu)
theorem GrowsN.row (he : ∀ a, (enc a).length = sz) {W : AW} {v : Value} {l : List α} {el : TypeId} {K : Nat -> Prop} (h : GrowsN W v l.length (flatE enc l) el sz K) : RowIn sz enc W v l := by
 by_cases hl : l.length = 0
 ·obtain ⟨_, ⟨h1, rfl⟩ | ⟨b, c, kin, _, h2, _⟩⟩ := h
  ·rw [List.length_eq_zero_iff] at hl; subst hl; exact .nil W
  ·omega
 ·obtain ⟨b, rfl, _, _, _, hh⟩ := h.has (by omega)
  exact .of_cells he hh
theorem RowIn.at {W : AW} {v : Value} {l : List α} (h : RowIn sz enc W v l) {i : Nat} {a : α} (hi : l[i]? = some a) {T : Tabs} {t e : TypeId} (hd : T.und.get t = some (.slice e)) (hs : aSize T e = some sz) (k : IntKind) :
  ∃ b p, aIndexAddr T t v (.int k (i : Int)) = some (.pointer (some ⟨b, p, none⟩)) /\ ∀ j u, (enc a)[j]? = some u -> W.Has b (p + j) u := by
 obtain ⟨A, c, rfl, _, h2⟩ := h
 obtain ⟨b, o, rfl, g⟩ := h2 i a hi
 exact ⟨b, o + i * sz, indexAddr_slice hd hs (List.getElem?_eq_some_iff.1 hi).1, g⟩
theorem load_cells {T : Tabs} {W : AW} {t : TypeId} {d : TypeDesc} {i : TypeInfo} (hd : T.und.get t = some d) (ha : isAggD d = true) (hi : T.info.get t = some i) {b p : Nat} {l : List Value} (hs : i.size = l.length) (hl : 0 < l.length) (h : ∀ j u, l[j]? = some u -> W.Has b (p + j) u) :
  aLoadVar T W t b p = some (.agg ⟨l⟩) := by
 refine loadVar_agg hd ha hi ?_
 rw [hs]
 exact cellsAt_of_cells rfl (has_blk (h 0 _ (List.getElem?_eq_getElem hl))) (fun j hj => by
  rw [(h j _ (List.getElem?_eq_getElem hj)).2, List.getElem?_eq_getElem hj]) hl
theorem cellsAt_len0 {W : AW} {b o : Nat} {k : List Value} (h : W.cellsAt b o 0 = some k) : k = [] := by
 unfold AW.cellsAt at h
 split at h
 ·split at h
  ·cases h; rfl
  ·cases h
 ·split at h
  ·cases h; rfl
  ·cases h
 ·cases h
theorem oneCells_flatE (h1 : ∀ a, oneCells (enc a) = true) : ∀ l : List α, oneCells (flatE enc l) = true
 | [] => rfl
 | a :: l => by
  rw [flatE, List.flatMap_cons, <- flatE]
  have h2 := oneCells_flatE h1 l
  have : ∀ x : List Value, oneCells x = true -> oneCells (x ++ flatE enc l) = true := fun x => by
   induction x with
   | nil => intro _; exact h2
   | cons y x ih =>
    intro hx
    simp only [oneCells, allB, List.cons_append] at hx ⊢
    split at hx
    ·exact ih hx
    ·cases hx
  exact this _ (h1 a)
theorem RowIn.src (he : ∀ a, (enc a).length = sz) (hsz : 0 < sz) {W : AW} {u : Value} {l : List α} (h : RowIn sz enc W u l) : aSrc W sz u = some (l.length, flatE enc l) := by
 obtain ⟨A, c, rfl, h0, hh⟩ := h
 by_cases hl : l.length = 0
 ·have hn : l = [] := List.length_eq_zero_iff.1 hl
  subst hn
  rcases h0 rfl with ⟨rfl, rfl⟩ | ⟨b, o, rfl⟩ | ⟨rfl, rfl⟩
  ·rfl
  ·unfold aSrc
   simp only [List.length_nil, Nat.zero_mul]
   cases hc : W.cellsAt b o 0 with
   | none => rfl
   | some k => rw [cellsAt_len0 hc]; rfl
  ·rfl
 ·obtain ⟨b, o, rfl, hb⟩ := hh 0 _ (List.getElem?_eq_getElem (by omega))
  have e0 := he (l[0]'(by omega))
  have hc : W.cellsAt b o (l.length * sz) = some (flatE enc l) := by
   refine cellsAt_of_cells (flatE_len he l) (has_blk (hb 0 _ (List.getElem?_eq_getElem (by omega)))) (fun j hj => ?_) (Nat.mul_pos (by omega) hsz)
   have hq : j / sz < l.length := (Nat.div_lt_iff_lt_mul hsz).2 hj
   have hr : j % sz < sz := Nat.mod_lt _ hsz
   obtain ⟨b2, o2, e2, g⟩ := hh (j / sz) _ (List.getElem?_eq_getElem hq)
   cases e2
   have hf := flatE_get he l (j / sz) _ (List.getElem?_eq_getElem hq) (j % sz) hr
   have ej : j / sz * sz + j % sz = j := by rw [Nat.mul_comm]; exact Nat.div_add_mod j sz
   rw [ej] at hf
   have e3 := he l[j / sz]
   have := (g (j % sz) _ (List.getElem?_eq_getElem (by omega))).2
   rw [Nat.add_assoc, ej] at this
   rw [this, hf, List.getElem?_eq_getElem (by omega)]
  unfold aSrc; simp only [hc]
theorem GrowsN.appRow {T : Tabs} {W : AW} {t el : TypeId} {i : TypeInfo} {z : Value} (he : ∀ a, (enc a).length = sz) (h1 : ∀ a, oneCells (enc a) = true) (hsz : 0 < sz) (ht : T.und.get t = some (.slice el)) (hi : T.info.get el = some i) (hs : i.size = sz) (hz : i.zero = some z) (hz1 : (acells z).length = sz)
  {v : Value} {n : Nat} {l : List Value} {K : Nat -> Prop} (h : GrowsN W v n l el sz K) {u : Value} {m : List α} (hx : RowIn sz enc W u m)
  (hby : (2 * (n + m.length)) * i.bytes <= 281474976710656) (hsm : n + m.length <= 4611686018427387904) :
  ∃ v' W', aAppend T W [t, t] [v, u] = some (v', W') /\ W.next <= W'.next /\ W'.next <= W.next + 1 /\ GrowsN W' v' (n + m.length) (l ++ flatE enc m) el sz (fun b => K b \/ b = W.next) /\ Only K W W' := by
 have hsrc := hx.src he hsz
 have hone := oneCells_flatE h1 m
 have hfl := flatE_len he m
 have hhead : aAppend T W [t, t] [v, u] = match Nat.beq m.length 0 with
   | true => aApp0 W v
   | false => aApp1 W el sz i.bytes m.length (flatE enc m) v := by
  simp only [aAppend, ht, hi, hs, hz, notInt, hsrc, hz1, beq_dec, hfl, hone, decide_true]
  rfl
 rw [hhead]
 by_cases hm : m.length = 0
 ·have hn : m = [] := List.length_eq_zero_iff.1 hm
  subst hn
  have ha : aApp0 W v = some (v, W) := by
   obtain ⟨_, ⟨rfl, rfl⟩ | ⟨b, c, kin, rfl, _⟩⟩ := h
   ·rfl
   ·have e1 : (2 * sz + 1) % 2 = 1 := by omega
    simp only [aApp0, beq_dec, e1]; rfl
  refine ⟨v, W, ha, Nat.le_refl _, Nat.le_succ _, ?_, .refl _ _⟩
  simp only [List.length_nil, Nat.add_zero, flatE, List.flatMap_nil, List.append_nil]
  exact h.mono (fun b hb => .inl hb)
 ·have hb : Nat.beq m.length 0 = false := by rw [beq_dec]; exact decide_eq_false hm
  rw [hb]
  obtain ⟨h0, ⟨rfl, rfl⟩ | ⟨b, cc, kin, rfl, h2, h3, h4, h5, h6, h7⟩⟩ := h
  ·have hl : l = [] := List.length_eq_zero_iff.1 (by omega)
   subst hl
   refine ⟨.slice (some ⟨W.next, 0, none⟩) (0 + m.length) (2 * sz + 1), W.newCells el ([] ++ flatE enc m), ?_, Nat.le_succ _, Nat.le_refl _, ⟨?_, .inr ⟨W.next, Tr.nil.lay 0 (flatE enc m), [], rfl, by omega, .inr rfl, Nat.lt_succ_self _, by rw [newCells_get, if_pos rfl]; rfl, ?_, by simp⟩⟩, .newCells _ _ _⟩
   ·simp only [aApp1, ble_dec]
    rw [decide_eq_true hby, decide_eq_true hsm]
   ·rw [List.nil_append, hfl, Nat.zero_add]
   ·intro j hj
    rw [List.nil_append] at hj ⊢
    rw [Tr.get_lay, if_pos (by omega)]; simp
  ·have hold : W.cellsAt b 0 (n * sz) = some l := by
    simp only [AW.cellsAt, h5, ble_dec]
    rw [decide_eq_true (by omega)]
    exact take_get cc _ 0 l h0 (fun j hj => by rw [Nat.zero_add]; exact h6 j (by omega))
   have hnb : ¬ ((n + m.length) * sz <= n * sz) := by
    have e : (n + m.length) * sz = n * sz + m.length * sz := by rw [Nat.add_mul]
    have : 0 < m.length * sz := Nat.mul_pos (by omega) hsz
    omega
   have happ : aApp1 W el sz i.bytes m.length (flatE enc m) (.slice (some ⟨b, 0, none⟩) n (2 * sz + 1)) = some (.slice (some ⟨W.next, 0, none⟩) (n + m.length) (2 * sz + 1), aGrow W b W.next cc l.length el kin 0 (l ++ flatE enc m)) := by
    have e1 : (2 * sz + 1) % 2 = 1 := by omega
    have e2 : (2 * sz + 1) / 2 = sz := by omega
    simp only [aApp1, ble_dec, hby, hsm, decide_true, beq_dec, h5, blt_dec, e1, e2, hsz, Nat.zero_add, hold, h0]
    rw [decide_eq_false hnb]
    rfl
   refine ⟨_, _, happ, by rw [aGrow_next]; exact Nat.le_succ _, by rw [aGrow_next]; exact Nat.le_refl _, ⟨by rw [List.length_append, h0, hfl, Nat.add_mul], .inr ?_⟩, ?_⟩
   ·simp only [aGrow]
    refine ⟨W.next, Tr.nil.lay 0 (l ++ flatE enc m), (b, true) :: (growKin W.blocks l.length W.next kin).2, rfl, by omega, .inr rfl, Nat.lt_succ_self _, by simp [Tr.get_set], fun j hj => ?_, fun p hp => ?_⟩
    ·rw [Tr.get_lay, if_pos (by omega)]; simp
    ·rcases List.mem_cons.1 hp with rfl | hp
     ·exact .inl h3
     ·exact .inl (h7 p ((growKin_spec W.blocks l.length W.next kin).sub p hp).1)
   ·refine ⟨by rw [aGrow_next]; exact Nat.le_succ _, fun x hx hk => ?_⟩
    simp only [aGrow, Tr.get_set]
    rw [if_neg (by omega), if_neg (fun e : x = b => hk (by rw [e]; exact h3))]
    exact growKin_other _ _ _ _ _ (fun f hf => hk (h7 _ hf))
end
def encI (k : IntKind) (x : Int) : List Value := [.int k x]
def encB (b : Bool) : List Value := [.bool b]
def encP (a : Int × Int) : List Value := [.int .i64 a.1, .int .i64 a.2]
def encV (v : Value) : List Value := [v]
theorem encI_len {k : IntKind} (x : Int) : (encI k x).length = 1 := rfl
theorem encP_len (x : Int × Int) : (encP x).length = 2 := rfl
theorem encI_one {k : IntKind} (x : Int) : oneCells (encI k x) = true := rfl
abbrev IntR := RowIn 1 (encI .i64)
abbrev BoolR := RowIn 1 encB
abbrev PairR := RowIn 2 encP
theorem RowIn.int1 {k : IntKind} {W : AW} {v : Value} {l : List Int} (h : RowIn 1 (encI k) W v l) {i : Nat} {x : Int} (hi : l[i]? = some x) {T : Tabs} {t e : TypeId} {d : TypeDesc} (hd : T.und.get t = some (.slice e)) (hs : aSize T e = some 1) (he : T.und.get e = some d) (ha : isAggD d = false) :
  ∃ b p, aIndexAddr T t v (.int .i64 (i : Int)) = some (.pointer (some ⟨b, p, none⟩)) /\ W.Has b p (.int k x) /\ aLoadVar T W e b p = some (.int k x) := by
 obtain ⟨b, p, h1, h2⟩ := h.at hi hd hs .i64
 have := h2 0 _ (rfl : (encI k x)[0]? = some (.int k x))
 exact ⟨b, p, h1, this, by rw [loadVar_cell he ha]; exact this.2⟩
end Go.Eng

end
section
namespace Go.Eng
def cntB : Nat -> Nat -> Nat
 | 0, _ => 0
 | m + 1, x => cntB m x + if x.testBit m then 1 else 0
theorem bit_one (s r : Nat) : (1 <<< s).testBit r = decide (s = r) := by rw [Nat.one_shiftLeft, Nat.testBit_two_pow]
theorem bit_or (x s r : Nat) : (x ||| 1 <<< s).testBit r = (x.testBit r || decide (s = r)) := by rw [Nat.testBit_or, bit_one]
theorem cntB_or {x k : Nat} (h : x.testBit k = false) : ∀ {m : Nat}, cntB m (x ||| 1 <<< k) = cntB m x + if k < m then 1 else 0
 | 0 => by simp [cntB]
 | m + 1 => by
  simp only [cntB]
  rw [cntB_or h, bit_or]
  by_cases e : k = m
  ·subst e
   rw [h, if_neg (Nat.lt_irrefl _), if_pos (Nat.lt_succ_self _)]; simp
  ·rw [decide_eq_false e, Bool.or_false]
   by_cases hl : k < m
   ·rw [if_pos hl, if_pos (show k < m + 1 by omega)]; omega
   ·rw [if_neg hl, if_neg (show ¬ k < m + 1 by omega)]; omega
theorem cntB_zero : ∀ m : Nat, cntB m 0 = 0
 | 0 => rfl
 | m + 1 => by simp only [cntB]; rw [cntB_zero m]; simp
theorem or_ltp {x k n : Nat} (hx : x < 2 ^ n) (hk : k < n) : x ||| 1 <<< k < 2 ^ n := Nat.or_lt_two_pow hx (by rw [Nat.one_shiftLeft]; exact Nat.pow_lt_pow_right (by omega) hk)
theorem cntB_le {n x : Nat} (hx : x < 2 ^ n) : ∀ m : Nat, cntB m x <= n /\ cntB m x <= m
 | 0 => ⟨Nat.zero_le _, Nat.le_refl _⟩
 | m + 1 => by
  have h := cntB_le hx m
  simp only [cntB]
  by_cases hm : m < n
  ·split <;> omega
  ·rw [Nat.testBit_lt_two_pow (Nat.lt_of_lt_of_le hx (Nat.pow_le_pow_right (by omega) (by omega)))]
   simp; omega
theorem full_bit (n i : Nat) : (2 ^ n - 1).testBit i = decide (i < n) := Nat.testBit_two_pow_sub_one n i
theorem cntB_full (n : Nat) : ∀ m : Nat, cntB m (2 ^ n - 1) = min m n
 | 0 => by simp [cntB]
 | m + 1 => by
  simp only [cntB]
  rw [cntB_full n m, full_bit]
  by_cases h : m < n
  ·rw [decide_eq_true h]; simp; omega
  ·rw [decide_eq_false h]; simp; omega
abbrev pc (x : Nat) : Nat := cntB 40 x
structure BestN (n : Nat) (c : Nat -> Nat -> Int) (B : Nat -> Int) : Prop where
 full : B (2 ^ n - 1) = 0
 le : ∀ t, t < 2 ^ n -> ∀ q, q < n -> t.testBit q = false -> c (pc t) q + B (t ||| 1 <<< q) <= B t
 is : ∀ t, t < 2 ^ n -> t ≠ 2 ^ n - 1 -> ∃ q, q < n /\ t.testBit q = false /\ c (pc t) q + B (t ||| 1 <<< q) = B t
def tk (p : Nat -> Nat) : Nat -> Nat
 | 0 => 0
 | k + 1 => tk p k ||| 1 <<< p k
theorem tk_bit {p : Nat -> Nat} : ∀ {k r : Nat}, (tk p k).testBit r = true ↔ ∃ i, i < k /\ p i = r
 | 0, r => by simp [tk]
 | k + 1, r => by
  simp only [tk]
  rw [bit_or, Bool.or_eq_true, decide_eq_true_eq, tk_bit]
  constructor
  ·rintro (⟨i, h1, h2⟩ | h)
   ·exact ⟨i, by omega, h2⟩
   ·exact ⟨k, by omega, h⟩
  ·rintro ⟨i, h1, h2⟩
   by_cases e : i = k
   ·subst e; exact .inr h2
   ·exact .inl ⟨i, by omega, h2⟩
theorem tk_lt {n : Nat} {p : Nat -> Nat} : ∀ {k : Nat}, (∀ i, i < k -> p i < n) -> tk p k < 2 ^ n
 | 0, _ => by simp only [tk]; exact Nat.two_pow_pos n
 | k + 1, h => by simp only [tk]; exact or_ltp (tk_lt (fun i hi => h i (by omega))) (h k (by omega))
theorem tk_cnt {n : Nat} {p : Nat -> Nat} (hn : n <= 40) : ∀ {k : Nat}, (∀ i, i < k -> p i < n) -> (∀ i j, i < j -> j < k -> p i ≠ p j) -> pc (tk p k) = k
 | 0, _, _ => cntB_zero 40
 | k + 1, h, hd => by
  have ih := tk_cnt (k := k) hn (fun i hi => h i (by omega)) (fun i j h1 h2 => hd i j h1 (by omega))
  simp only [tk]
  have hb : (tk p k).testBit (p k) = false := by
   cases hb : (tk p k).testBit (p k) with
   | false => rfl
   | true => obtain ⟨i, h1, h2⟩ := tk_bit.1 hb; exact absurd h2 (hd i k h1 (by omega))
  have := cntB_or hb (m := 40)
  rw [if_pos (by have := h k (by omega); omega)] at this
  show cntB 40 (tk p k ||| 1 <<< p k) = k + 1
  rw [this]; exact congrArg (· + 1) ih
section
variable {n : Nat} {c : Nat -> Nat -> Int} {B : Nat -> Int}
def Chosen (n : Nat) (c : Nat -> Nat -> Int) (B : Nat -> Int) (ps : List Nat) : Prop := ∀ k, k < ps.length -> ps.getD k 0 < n /\ (tk (fun i => ps.getD i 0) k).testBit (ps.getD k 0) = false /\
 c k (ps.getD k 0) + B (tk (fun i => ps.getD i 0) (k + 1)) = B (tk (fun i => ps.getD i 0) k) /\
 ∀ q, q < ps.getD k 0 -> ¬ ((tk (fun i => ps.getD i 0) k).testBit q = false /\ c k q + B (tk (fun i => ps.getD i 0) k ||| 1 <<< q) = B (tk (fun i => ps.getD i 0) k))
theorem getD_app {ps : List Nat} {x i : Nat} (h : i < ps.length) : (ps ++ [x]).getD i 0 = ps.getD i 0 := by
 rw [List.getD_eq_getElem?_getD, List.getD_eq_getElem?_getD, List.getElem?_append_left h]
theorem getD_last {ps : List Nat} {x : Nat} : (ps ++ [x]).getD ps.length 0 = x := by
 rw [List.getD_eq_getElem?_getD, List.getElem?_append_right (Nat.le_refl _)]; simp
end
end Go.Eng

end
section
namespace Go.Eng
theorem wpK_range3 {T : Tabs} {f₀ : FuncId} {A : AAct} {W : AW} {Q : AExit -> AAct -> AW -> Prop} {id : Nat} {g : Operand} {ps : Array Tmp} {asn bd : Code} {f : FuncId} {first cap : Array Value} {fn : Func}
  (hg : aEval T A.tmps g = some (.func (.func f) first cap)) (hf : T.funcs.get f = some fn)
  (h : ∀ W5 : AW, W5.next = W.next + 2 -> (∀ b, b < W.next -> W5.blocks.get b = W.blocks.get b) -> W5.blocks.get W.next = some ⟨.deferred (some []), []⟩ -> W5.blocks.get (W.next + 1) = some ⟨.loop .ready none f₀ A.tmps A.n ps asn bd W.next, []⟩ ->
   WpF T f (first.toList ++ .func (.yield (W.next + 1)) #[] #[] :: cap.toList) W5 (fun _ W₂ =>
   ∃ st p fn' t' n' ps' as' bd' df', W₂.blocks.get (W.next + 1) = some ⟨.loop st p fn' t' n' ps' as' bd' df', []⟩ /\ st ≠ .busy /\
    goOn (leaves id Q) { A with defers := { target := .collected W.next, args := #[] } :: A.defers } (W₂.setObj (W.next + 1) (.loop .exhausted p fn' t' n' ps' as' bd' df')) p)) :
  WpK T ⟨f₀, none⟩ (.block id (.rangeFunc g ps asn bd)) A W Q := by
 refine wpC_range hg hf (h _ rfl (fun b hb => ?_) ?_ ?_)
 ·simp only [AW.beforeLoop, AW.new, Tr.get_set]; rw [if_neg (by omega), if_neg (by omega)]
 ·simp only [AW.beforeLoop, AW.new, Tr.get_set]; rw [if_neg (by omega), if_true]
 ·simp only [AW.beforeLoop, AW.new, Tr.get_set]; rw [if_true]
end Go.Eng

end