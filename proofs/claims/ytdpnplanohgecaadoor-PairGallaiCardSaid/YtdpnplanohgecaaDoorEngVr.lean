import Derived.Test.YtdpnplanohgecaaDoorEngBt
import Derived.Test.YtdpnplanohgecaaDoorEngRe
set_option linter.unusedSimpArgs false
set_option linter.unusedVariables false
set_option linter.unusedSectionVars false
section
namespace Go.Eng
def Var (W : AW) (p : Nat) (el : TypeId) (l : List Value) : Prop := p < W.next /\ ∃ c, W.blocks.get p = some ⟨.cells c l.length el, []⟩ /\ ∀ j, j < l.length -> c.get j = l[j]?
theorem Var.new (W : AW) (el : TypeId) (l : List Value) : Var (W.newCells el l) W.next el l :=
 ⟨Nat.lt_succ_self _, Tr.nil.lay 0 l, by rw [newCells_get, if_pos rfl], fun j hj => by rw [Tr.get_lay, if_pos (by omega)]; simp⟩
theorem Var.only {W W' : AW} {p : Nat} {el : TypeId} {l : List Value} {K : Nat -> Prop} (h : Var W p el l) (ho : Only K W W') (hk : ¬ K p) : Var W' p el l := by
 obtain ⟨h1, c, h2, h3⟩ := h
 exact ⟨Nat.lt_of_lt_of_le h1 ho.1, c, by rw [ho.2 p h1 hk]; exact h2, h3⟩
theorem Var.ext {W W' : AW} {p : Nat} {el : TypeId} {l : List Value} (h : Var W p el l) (ho : Ext W W') : Var W' p el l := h.only ho (fun x => x)
theorem Var.has {W : AW} {p : Nat} {el : TypeId} {l : List Value} (h : Var W p el l) {j : Nat} {v : Value} (hj : l[j]? = some v) : W.Has p j v := by
 obtain ⟨h1, c, h2, h3⟩ := h
 have hlt : j < l.length := (List.getElem?_eq_some_iff.1 hj).1
 refine ⟨h1, ?_⟩
 simp only [AW.cell, h2, blt_dec, hlt, decide_true]
 rw [h3 j hlt]; exact hj
theorem Var.cellsAt {W : AW} {p : Nat} {el : TypeId} {l : List Value} (h : Var W p el l) (o n : Nat) (hle : o + n <= l.length) : W.cellsAt p o n = some ((l.drop o).take n) := by
 obtain ⟨h1, c, h2, h3⟩ := h
 simp only [AW.cellsAt, h2, ble_dec, hle, decide_true]
 refine take_get c n o _ (by rw [List.length_take, List.length_drop]; omega) (fun j hj => ?_)
 rw [h3 _ (by omega), List.getElem?_take_of_lt hj, List.getElem?_drop]
theorem Var.load {T : Tabs} {W : AW} {p : Nat} {el t : TypeId} {l : List Value} (h : Var W p el l) {d : TypeDesc} {i : TypeInfo} (hd : T.und.get t = some d) (ha : isAggD d = true) (hi : T.info.get t = some i) (hs : i.size = l.length) : aLoadVar T W t p 0 = some (.agg ⟨l⟩) := by
 refine loadVar_agg hd ha hi ?_
 rw [hs, h.cellsAt 0 l.length (by omega)]; simp
theorem Var.load1 {T : Tabs} {W : AW} {p : Nat} {el t : TypeId} {l : List Value} (h : Var W p el l) {d : TypeDesc} (hd : T.und.get t = some d) (ha : isAggD d = false) {j : Nat} {v : Value} (hj : l[j]? = some v) : aLoadVar T W t p j = some v := by
 rw [loadVar_cell hd ha]; exact (h.has hj).2
theorem Var.store {T : Tabs} {W : AW} {p : Nat} {el t : TypeId} {l : List Value} (h : Var W p el l) {i : TypeInfo} {v : Value} {o : Nat} (hi : T.info.get t = some i) (hs : (acells v).length = i.size) (hle : o + (acells v).length <= l.length) (hone : allB Value.oneCell' (acells v) = true) :
  ∃ W', aStoreVar T W t p o v = some W' /\ W'.next = W.next /\ Only (fun b => b = p) W W' /\ Var W' p el (l.take o ++ acells v ++ l.drop (o + (acells v).length)) := by
 obtain ⟨h1, c, h2, h3⟩ := h
 obtain ⟨W', g1, g2, g3, g4⟩ := storeVar_own (T := T) hi hs h2 hle hone
 have hlen : (l.take o ++ acells v ++ l.drop (o + (acells v).length)).length = l.length := by simp only [List.length_append, List.length_take, List.length_drop]; omega
 refine ⟨W', g1, g2, ⟨by omega, fun b _ hb => g3 b hb⟩, by omega, c.lay o (acells v), by rw [hlen]; exact g4, fun j hj => ?_⟩
 rw [hlen] at hj
 rw [Tr.get_lay]
 by_cases a1 : o <= j /\ j < o + (acells v).length
 ·rw [if_pos a1, List.append_assoc, List.getElem?_append_right (by simp only [List.length_take]; omega), List.getElem?_append_left (by simp only [List.length_take]; omega)]
  congr 1
  simp only [List.length_take]; omega
 ·rw [if_neg a1, h3 j hj]
  by_cases a2 : j < o
  ·rw [List.append_assoc, List.getElem?_append_left (by simp only [List.length_take]; omega), List.getElem?_take_of_lt a2]
  ·rw [List.getElem?_append_right (by simp only [List.length_append, List.length_take]; omega), List.getElem?_drop]
   congr 1
   simp only [List.length_append, List.length_take]; omega
theorem storeVar_new {T : Tabs} {W : AW} {t : TypeId} {i : TypeInfo} {v : Value} {z : List Value} (hi : T.info.get t = some i) (hs : (acells v).length = i.size) (hz : z.length = i.size) (hone : allB Value.oneCell' (acells v) = true) :
  ∃ W', aStoreVar T (W.newCells t z) t W.next 0 v = some W' /\ W'.next = W.next + 1 /\ Ext W W' /\ Var W' W.next t (acells v) := by
 obtain ⟨W', g1, g2, g3, g4⟩ := (Var.new W t z).store (T := T) (t := t) (v := v) (o := 0) hi hs (by omega) hone
 refine ⟨W', g1, by rw [g2, newCells_next], ⟨by rw [g2, newCells_next]; omega, fun b hb _ => ?_⟩, ?_⟩
 ·rw [g3.2 b (by rw [newCells_next]; omega) (by omega), newCells_get, if_neg (by omega)]
 ·have : ([] ++ acells v ++ z.drop (0 + (acells v).length)) = acells v := by rw [List.drop_of_length_le (by omega)]; simp
  rw [List.take_zero, this] at g4; exact g4
theorem Var.push {T : Tabs} {W : AW} {t el : TypeId} {i it : TypeInfo} {z : Value} {sz : Nat} (hsz : 0 < sz) (ht : T.und.get t = some (.slice el)) (hi : T.info.get el = some i) (hs : i.size = sz) (hz : i.zero = some z) (hz1 : (acells z).length = sz) (hit : T.info.get t = some it) (hits : it.size = 1)
  {v : Value} {m : Nat} {l : List Value} {K : Nat -> Prop} (h : GrowsN W v m l el sz K) {p o : Nat} {elp : TypeId} {cs : List Value} (hp : Var W p elp cs) (hpK : ¬ K p) (ho : o < cs.length) {u : List Value} (hul : u.length = sz) (hu : oneCells u = true)
  (hby : (2 * (m + 1)) * i.bytes <= 281474976710656) (hsm : m + 1 <= 4611686018427387904) :
  ∃ v' W4 W5, aAppend T (W.newCells el u) [t, t] [v, .slice (some ⟨W.next, 0, none⟩) 1 (2 * 1)] = some (v', W4) /\ aStoreVar T W4 t p o v' = some W5 /\ W4.next = W.next + 2 /\ W5.next = W.next + 2 /\ Var W5 p elp (cs.set o v') /\
   GrowsN W5 v' (m + 1) (l ++ u) el sz (fun b => K b \/ b = W.next + 1) /\ Only (fun b => K b \/ b = p) W W5 := by
 obtain ⟨h1, c, h2, h3⟩ := hp
 obtain ⟨v', W4, W5, a1, a2, a3, a4, a5, a6, _, a8⟩ := push_ownN hsz ht hi hs hz hz1 hit hits h h2 h1 hpK (by omega : o + 1 <= cs.length) hul hu hby hsm
 refine ⟨v', W4, W5, a1, a2, a3, a4, ⟨by omega, c.set o v', by rw [List.length_set]; exact a5, fun j hj => ?_⟩, a6, a8⟩
 rw [List.length_set] at hj
 rw [Tr.get_set]
 by_cases e : j = o
 ·subst e; rw [if_pos rfl, List.getElem?_set_self hj]
 ·rw [if_neg e, h3 j hj, List.getElem?_set_ne (by omega)]
abbrev Tri := Int × Int × Int
def cells3 (a : Tri) : List Value := [.int .i64 a.1, .int .i64 a.2.1, .int .i64 a.2.2]
def flat3 (l : List Tri) : List Value := l.flatMap cells3
def TriIn (W : AW) (v : Value) (l : List Tri) : Prop :=
 ∃ A c, v = .slice A l.length c /\ ∀ i a, l[i]? = some a -> ∃ b o, A = some ⟨b, o, none⟩ /\ W.Has b (o + 3 * i) (.int .i64 a.1) /\ W.Has b (o + 3 * i + 1) (.int .i64 a.2.1) /\ W.Has b (o + 3 * i + 2) (.int .i64 a.2.2)
theorem has_blk {W : AW} {b o : Nat} {v : Value} (h : W.Has b o v) : ∃ k, W.blocks.get b = some k := by
 have := h.2
 unfold AW.cell at this
 split at this
 ·rename_i hb; exact ⟨_, hb⟩
 ·rename_i hb; exact ⟨_, hb⟩
 ·cases this
end Go.Eng

end
section
namespace Go.Eng
section
variable {T : Tabs} {cx : Cx} {A : AAct} {W : AW} {Q : AExit -> AAct -> AW -> Prop}
end
end Go.Eng

end
section
namespace Go.Eng
section
variable {T : Tabs} {all rest : List Oper} {o : Oper} {A A' : AAct} {W : AW} {R : AAct -> AW -> Prop} {v : Value}
theorem wpS_step (hd : isDefer o.op = false) (hg : o.guard = none) (hop : aOp T W (aEvalF T A.tmps.get) o = some (.value v, W)) (hput : A.put o.dst v = some A') (h : WpS T all rest A' W R) : WpS T all (o :: rest) A W R := by
 rw [WpS_cons, hd]
 show wantS T (WpS T all rest) o A W R (aWanted all o A.tmps.get)
 have : aWanted all o A.tmps.get = some true := by simp only [aWanted, hg]
 rw [this, wantS_true, hop, nextS_value, hput, gotS_some]
 exact h
theorem aOp_bin {ρ : Operand -> Option Value} {op : BinOp} {t u : TypeId} {x y : Operand} {a b : Value} (ho : o.op = .binOp op t x y u) (hx : ρ x = some a) (hy : ρ y = some b) (hv : aBin T op t x y a b = some v) : aOp T W ρ o = some (.value v, W) := by
 unfold aOp
 rw [ho]
 simp only [opBinOp, hx, hy]
 split
 ·rename_i h1 h2
  cases h1; cases h2
  cases op <;> simp [aBin, aGuard, aBinO] at hv
 ·rename_i h1 h2
  cases h1; cases h2
  rw [hv]; rfl
 ·rename_i h1
  exact (h1 _ _ rfl rfl).elim
theorem aOp_ix {ρ : Operand -> Option Value} {t : TypeId} {x y : Operand} {a b : Value} (ho : o.op = .indexAddr t x y) (hx : ρ x = some a) (hy : ρ y = some b) (hv : aIndexAddr T t a b = some v) : aOp T W ρ o = some (.value v, W) := by
 unfold aOp
 rw [ho]
 simp only [opIndexAddr, hx, hy, hv, aVal]
theorem aEvalF_glob {f : Tmp -> Option Value} {g : Nat} {u : Unit} (h : T.globs.get g = some u) : aEvalF T f (.global g) = some (.pointer (some ⟨g, 0, none⟩)) := by
 simp only [aEvalF, h]
end
end Go.Eng

end
section
namespace Go.Eng
section
variable {T : Tabs} {cx : Cx} {A : AAct} {W : AW} {Q : AExit -> AAct -> AW -> Prop}
theorem wpK_x0  {P : AW -> Prop} {A' : AW -> AAct} {V : AW -> AW} {i : Nat} {ops : Array Oper} {b : Code} (h : ∀ R : AAct -> AW -> Prop, (∀ W', P W' -> R (A' W') (V W')) -> WpS T ops.toList ops.toList A W R) (h2 : ∀ W', P W' -> WpK T cx b (A' W') (V W') Q) : WpK T cx (.seq (.region i ops false) b) A W Q :=
 h (fun A W => WpK T cx b A W Q) h2
theorem wpK_d0  {P : AW -> Prop} {A' : AW -> AAct} {V : AW -> AW} {id : Nat} {ops : Array Oper} {b : Code} (wr bits : Tr Nat) (ord : List Nat)
  (hwr : dWr ops.toList 0 .nil = some wr) (hbits : dBitsAll ops.toList 0 .nil = some bits)
  (hord : (match anyFloat ops.toList with | true => dOrder (ops.toList.length + 1) (dIdx bits ops.toList 0) 0 [] | false => upFrom 0 ops.toList.length) = ord)
  (h : ∀ G : AAct -> AW -> Prop, (∀ W', P W' -> G (A' W') (V W')) -> WpDr T ops.toList wr bits A.tmps ord W ⟨.nil, .nil, [], [], .nil⟩ (dEnd T ops.toList wr bits A G))
  (h2 : ∀ W', P W' -> WpK T cx b (A' W') (V W') Q) : WpK T cx (.seq (.region id ops true) b) A W Q :=
 wpK_dr wr bits ord (fun A₁ W₁ => ∃ W', P W' /\ A₁ = A' W' /\ W₁ = V W') hwr hbits hord (fun G hG => h G (fun W' hp => hG _ _ ⟨W', hp, rfl, rfl⟩)) (fun A₁ W₁ ⟨W', hp, e1, e2⟩ => by subst e1; subst e2; exact h2 W' hp)
theorem wpK_x1 {α : Type} {P : α -> AW -> Prop} {A' : α -> AW -> AAct} {V : α -> AW -> AW} {i : Nat} {ops : Array Oper} {b : Code} (h : ∀ R : AAct -> AW -> Prop, (∀ x1 W', P x1 W' -> R (A' x1 W') (V x1 W')) -> WpS T ops.toList ops.toList A W R) (h2 : ∀ x1 W', P x1 W' -> WpK T cx b (A' x1 W') (V x1 W') Q) : WpK T cx (.seq (.region i ops false) b) A W Q :=
 h (fun A W => WpK T cx b A W Q) h2
theorem wpK_y1 {α : Type} {P : α -> AW -> Prop} {A' : α -> AW -> AAct} {V : α -> AW -> AW} {i : Nat} {ops : Array Oper} (h : ∀ R : AAct -> AW -> Prop, (∀ x1 W', P x1 W' -> R (A' x1 W') (V x1 W')) -> WpS T ops.toList ops.toList A W R) (h2 : ∀ x1 W', P x1 W' -> Q .normal (A' x1 W') (V x1 W')) : WpK T cx (.region i ops false) A W Q :=
 h (Q .normal) h2
theorem wpK_q1 {α : Type} {P : α -> AW -> Prop} {A' : α -> AW -> AAct} {V : α -> AW -> AW} {id : Nat} {ops : Array Oper} (wr bits : Tr Nat) (ord : List Nat)
  (hwr : dWr ops.toList 0 .nil = some wr) (hbits : dBitsAll ops.toList 0 .nil = some bits)
  (hord : (match anyFloat ops.toList with | true => dOrder (ops.toList.length + 1) (dIdx bits ops.toList 0) 0 [] | false => upFrom 0 ops.toList.length) = ord)
  (h : ∀ G : AAct -> AW -> Prop, (∀ x1 W', P x1 W' -> G (A' x1 W') (V x1 W')) -> WpDr T ops.toList wr bits A.tmps ord W ⟨.nil, .nil, [], [], .nil⟩ (dEnd T ops.toList wr bits A G))
  (h2 : ∀ x1 W', P x1 W' -> Q .normal (A' x1 W') (V x1 W')) : WpK T cx (.region id ops true) A W Q :=
 wpK_dr1 wr bits ord (fun A₁ W₁ => ∃ x1 W', P x1 W' /\ A₁ = A' x1 W' /\ W₁ = V x1 W') hwr hbits hord (fun G hG => h G (fun x1 W' hp => hG _ _ ⟨x1, W', hp, rfl, rfl⟩)) (fun A₁ W₁ ⟨x1, W', hp, e1, e2⟩ => by subst e1; subst e2; exact h2 x1 W' hp)
theorem wpK_x2 {α : Type} {β : Type} {P : α -> β -> AW -> Prop} {A' : α -> β -> AW -> AAct} {V : α -> β -> AW -> AW} {i : Nat} {ops : Array Oper} {b : Code} (h : ∀ R : AAct -> AW -> Prop, (∀ x1 x2 W', P x1 x2 W' -> R (A' x1 x2 W') (V x1 x2 W')) -> WpS T ops.toList ops.toList A W R) (h2 : ∀ x1 x2 W', P x1 x2 W' -> WpK T cx b (A' x1 x2 W') (V x1 x2 W') Q) : WpK T cx (.seq (.region i ops false) b) A W Q :=
 h (fun A W => WpK T cx b A W Q) h2
theorem wpK_y2 {α : Type} {β : Type} {P : α -> β -> AW -> Prop} {A' : α -> β -> AW -> AAct} {V : α -> β -> AW -> AW} {i : Nat} {ops : Array Oper} (h : ∀ R : AAct -> AW -> Prop, (∀ x1 x2 W', P x1 x2 W' -> R (A' x1 x2 W') (V x1 x2 W')) -> WpS T ops.toList ops.toList A W R) (h2 : ∀ x1 x2 W', P x1 x2 W' -> Q .normal (A' x1 x2 W') (V x1 x2 W')) : WpK T cx (.region i ops false) A W Q :=
 h (Q .normal) h2
theorem wpK_d2 {α : Type} {β : Type} {P : α -> β -> AW -> Prop} {A' : α -> β -> AW -> AAct} {V : α -> β -> AW -> AW} {id : Nat} {ops : Array Oper} {b : Code} (wr bits : Tr Nat) (ord : List Nat)
  (hwr : dWr ops.toList 0 .nil = some wr) (hbits : dBitsAll ops.toList 0 .nil = some bits)
  (hord : (match anyFloat ops.toList with | true => dOrder (ops.toList.length + 1) (dIdx bits ops.toList 0) 0 [] | false => upFrom 0 ops.toList.length) = ord)
  (h : ∀ G : AAct -> AW -> Prop, (∀ x1 x2 W', P x1 x2 W' -> G (A' x1 x2 W') (V x1 x2 W')) -> WpDr T ops.toList wr bits A.tmps ord W ⟨.nil, .nil, [], [], .nil⟩ (dEnd T ops.toList wr bits A G))
  (h2 : ∀ x1 x2 W', P x1 x2 W' -> WpK T cx b (A' x1 x2 W') (V x1 x2 W') Q) : WpK T cx (.seq (.region id ops true) b) A W Q :=
 wpK_dr wr bits ord (fun A₁ W₁ => ∃ x1 x2 W', P x1 x2 W' /\ A₁ = A' x1 x2 W' /\ W₁ = V x1 x2 W') hwr hbits hord (fun G hG => h G (fun x1 x2 W' hp => hG _ _ ⟨x1, x2, W', hp, rfl, rfl⟩)) (fun A₁ W₁ ⟨x1, x2, W', hp, e1, e2⟩ => by subst e1; subst e2; exact h2 x1 x2 W' hp)
theorem wpK_x3 {α : Type} {β : Type} {γ : Type} {P : α -> β -> γ -> AW -> Prop} {A' : α -> β -> γ -> AW -> AAct} {V : α -> β -> γ -> AW -> AW} {i : Nat} {ops : Array Oper} {b : Code} (h : ∀ R : AAct -> AW -> Prop, (∀ x1 x2 x3 W', P x1 x2 x3 W' -> R (A' x1 x2 x3 W') (V x1 x2 x3 W')) -> WpS T ops.toList ops.toList A W R) (h2 : ∀ x1 x2 x3 W', P x1 x2 x3 W' -> WpK T cx b (A' x1 x2 x3 W') (V x1 x2 x3 W') Q) : WpK T cx (.seq (.region i ops false) b) A W Q :=
 h (fun A W => WpK T cx b A W Q) h2
theorem wpK_y3 {α : Type} {β : Type} {γ : Type} {P : α -> β -> γ -> AW -> Prop} {A' : α -> β -> γ -> AW -> AAct} {V : α -> β -> γ -> AW -> AW} {i : Nat} {ops : Array Oper} (h : ∀ R : AAct -> AW -> Prop, (∀ x1 x2 x3 W', P x1 x2 x3 W' -> R (A' x1 x2 x3 W') (V x1 x2 x3 W')) -> WpS T ops.toList ops.toList A W R) (h2 : ∀ x1 x2 x3 W', P x1 x2 x3 W' -> Q .normal (A' x1 x2 x3 W') (V x1 x2 x3 W')) : WpK T cx (.region i ops false) A W Q :=
 h (Q .normal) h2
theorem wpK_x4 {α : Type} {β : Type} {γ : Type} {δ : Type} {P : α -> β -> γ -> δ -> AW -> Prop} {A' : α -> β -> γ -> δ -> AW -> AAct} {V : α -> β -> γ -> δ -> AW -> AW} {i : Nat} {ops : Array Oper} {b : Code} (h : ∀ R : AAct -> AW -> Prop, (∀ x1 x2 x3 x4 W', P x1 x2 x3 x4 W' -> R (A' x1 x2 x3 x4 W') (V x1 x2 x3 x4 W')) -> WpS T ops.toList ops.toList A W R) (h2 : ∀ x1 x2 x3 x4 W', P x1 x2 x3 x4 W' -> WpK T cx b (A' x1 x2 x3 x4 W') (V x1 x2 x3 x4 W') Q) : WpK T cx (.seq (.region i ops false) b) A W Q :=
 h (fun A W => WpK T cx b A W Q) h2
theorem wpK_dn {A' : AAct} {V : AW} {id : Nat} {ops : Array Oper} {b : Code} (wr bits : Tr Nat) (ord : List Nat)
  (hwr : dWr ops.toList 0 .nil = some wr) (hbits : dBitsAll ops.toList 0 .nil = some bits)
  (hord : (match anyFloat ops.toList with | true => dOrder (ops.toList.length + 1) (dIdx bits ops.toList 0) 0 [] | false => upFrom 0 ops.toList.length) = ord)
  (h : ∀ G : AAct -> AW -> Prop, G A' V -> WpDr T ops.toList wr bits A.tmps ord W ⟨.nil, .nil, [], [], .nil⟩ (dEnd T ops.toList wr bits A G))
  (h2 : WpK T cx b A' V Q) : WpK T cx (.seq (.region id ops true) b) A W Q :=
 wpK_dr wr bits ord (fun A₁ W₁ => A₁ = A' /\ W₁ = V) hwr hbits hord (fun G hG => h G (hG _ _ ⟨rfl, rfl⟩)) (fun A₁ W₁ ⟨e1, e2⟩ => by subst e1; subst e2; exact h2)
theorem wpK_qn {A' : AAct} {V : AW} {id : Nat} {ops : Array Oper} (wr bits : Tr Nat) (ord : List Nat)
  (hwr : dWr ops.toList 0 .nil = some wr) (hbits : dBitsAll ops.toList 0 .nil = some bits)
  (hord : (match anyFloat ops.toList with | true => dOrder (ops.toList.length + 1) (dIdx bits ops.toList 0) 0 [] | false => upFrom 0 ops.toList.length) = ord)
  (h : ∀ G : AAct -> AW -> Prop, G A' V -> WpDr T ops.toList wr bits A.tmps ord W ⟨.nil, .nil, [], [], .nil⟩ (dEnd T ops.toList wr bits A G))
  (h2 : Q .normal A' V) : WpK T cx (.region id ops true) A W Q :=
 wpK_dr1 wr bits ord (fun A₁ W₁ => A₁ = A' /\ W₁ = V) hwr hbits hord (fun G hG => h G (hG _ _ ⟨rfl, rfl⟩)) (fun A₁ W₁ ⟨e1, e2⟩ => by subst e1; subst e2; exact h2)
theorem wpK_keep {c : Code} {tm : Tr Value} {n : Nat} {ds : List Deferred} (J : Tr Value -> Prop) (hJ : J tm) (h : ∀ tm', J tm' -> WpK T cx c ⟨tm', n, ds⟩ W Q) : WpK T cx c ⟨tm, n, ds⟩ W Q := h tm hJ
end
theorem min_int (k : IntKind) (a b : Int) : aMinMax false (.int k a) [.int k b] = some (.int k (min a b)) := by
 simp only [aMinMax]
 by_cases h : b < a
 ·simp only [h, decide_true]; rw [Int.min_eq_right (by omega)]
 ·simp only [h, decide_false]; rw [Int.min_eq_left (by omega)]
end Go.Eng

end