import Derived.Test.YtdpnplanohgecaaDoorP41
import Derived.Test.YtdpnplanohgecaaDoorP39
set_option linter.unusedSimpArgs false
set_option linter.unusedVariables false
set_option linter.unusedSectionVars false
open Go Go.Eng
namespace Go.Proofs.YtdpnplanohgecaaDoor
open Classical
variable {n : Nat} {J : Nat -> Nat -> Prop} {s : PS} {D A : Nat -> Prop} {cl : Nat -> Nat} {c : Nat -> Bool}
theorem great_least (hn : n <= 40) (hJi : ∀ x, ¬ J x x) (hsy : ∀ x y, J x y -> J y x) (h : Great n J s D A cl n) {m2 : Nat -> Int} (hm2 : Mt n J m2) : freeN n s.mt <= freeN n m2 := by
 have h1 := berge_strong h.mat hJi hsy hn h.dn h.all
 have h2 := berge_weak hm2 hJi hsy hn (S := fun r => r < n /\ ¬ A r) (fun r hr => hr.1)
 have h3 : (listOf fun x => x < n /\ ¬ (x < n /\ ¬ A x)).length <= (listOf A).length := nodup_le (listOf_nodup _) fun x hx => by
  obtain ⟨x0, x1, x2⟩ := listOf_mem.1 hx
  exact listOf_mem.2 ⟨x0, Classical.byContradiction fun g => x2 ⟨x1, g⟩⟩
 unfold freeN
 omega
theorem great_most (hn : n <= 40) (hJi : ∀ x, ¬ J x x) (hsy : ∀ x y, J x y -> J y x) (h : Great n J s D A cl n) {k : Nat} (hk : 2 * k + freeN n s.mt = n) : MostP n J (fun _ => true) k :=
 ⟨⟨s.mt, h.mat, fun x _ g => (by cases g), hk⟩, fun mt h1 _ => by have := great_least hn hJi hsy h h1; omega⟩
theorem great_free (hn : n <= 40) (hJi : ∀ x, ¬ J x x) (hsy : ∀ x y, J x y -> J y x) (h : Great n J s D A cl n) {k m : Nat} (hk : MostP n J (fun _ => true) m) {a : Nat} (ha : a < n) (h' : MostP n J (updB (fun _ => true) a false) k) : k = m ↔ D a := by
 obtain ⟨⟨m1, a1, a2, a3⟩, hb⟩ := h'
 obtain ⟨⟨m0, b1, b2, b3⟩, hc⟩ := hk
 have hfa : m1 a = -1 := a2 a ha (by show (if a = a then false else true) = false; rw [if_pos rfl])
 have l0 := great_least hn hJi hsy h b1
 have l1 := hc s.mt h.mat (fun x _ g => by cases g)
 constructor
 ·intro e
  exact only_D h.mat hJi hn h.dn h.all a1 (by show freeN n m1 <= freeN n s.mt; omega) a ha hfa
 ·intro hD
  obtain ⟨m2, q1, q2, q3, _⟩ := class_whole h.mat hJi hn h.dn h.lone h.all hD
  have q3 : freeN n m2 <= freeN n s.mt := q3
  have := hb m2 q1 (fun x _ g => by
   have g : (if x = a then false else true) = false := g
   by_cases e : x = a
   ·rw [e]; exact q2
   ·rw [if_neg e] at g; cases g)
  have := hc m1 a1 (fun x _ g => by cases g)
  omega
theorem side_le (hn : n <= 40) (hJi : ∀ x, ¬ J x x) (h : Great n J s D A cl n) (hc : Two n J c) {x : Nat} (hx : D x) :
  (listOf fun z => D z /\ cl z = cl x /\ c z ≠ c x).length + 1 <= (listOf fun z => D z /\ cl z = cl x /\ c z = c x).length := by
 obtain ⟨m2, q1, q2, _, q4⟩ := class_whole h.mat hJi hn h.dn h.lone h.all hx
 have hmem : x ∈ listOf fun z => D z /\ cl z = cl x /\ c z = c x := listOf_mem.2 ⟨by have := h.dn.dlt hx; omega, hx, rfl, rfl⟩
 have h1 := inj_le (g := fun z => (m2 z).toNat) (l := listOf fun z => D z /\ cl z = cl x /\ c z ≠ c x) (s := (listOf fun z => D z /\ cl z = cl x /\ c z = c x).erase x) (listOf_nodup _) (fun z hz => by
  obtain ⟨_, z1, z2, z3⟩ := listOf_mem.1 hz
  obtain ⟨y, e, y1, y2, y3⟩ := q4 z z1 z2 (fun e => z3 (by rw [e]))
  have hzn := h.dn.dlt z1
  have hyn := h.dn.dlt y1
  have := hc z y hzn hyn (q1.adj hzn e)
  rw [e, Int.toNat_natCast, (listOf_nodup _).mem_erase_iff]
  refine ⟨y3, listOf_mem.2 ⟨by omega, y1, y2, ?_⟩⟩
  revert z3 this
  cases c z <;> cases c y <;> cases c x <;> simp) (fun z hz y hy e => by
  obtain ⟨_, z1, z2, z3⟩ := listOf_mem.1 hz
  obtain ⟨_, y1, y2, y3⟩ := listOf_mem.1 hy
  obtain ⟨a, ea, _⟩ := q4 z z1 z2 (fun e => z3 (by rw [e]))
  obtain ⟨b, eb, _⟩ := q4 y y1 y2 (fun e => y3 (by rw [e]))
  rw [ea, eb, Int.toNat_natCast, Int.toNat_natCast] at e
  subst e
  exact q1.inj (h.dn.dlt z1) (h.dn.dlt y1) ea eb)
 have h2 := List.length_erase_of_mem hmem
 have h3 := List.length_pos_of_mem hmem
 omega
theorem D_apart (hn : n <= 40) (hJi : ∀ x, ¬ J x x) (h : Great n J s D A cl n) (hc : Two n J c) {x y : Nat} (hx : D x) (hy : D y) : ¬ J x y := fun hj => by
 have hxn := h.dn.dlt hx
 have hyn := h.dn.dlt hy
 rcases h.dn.clo hx hj hyn with g | g
 ·have h1 := side_le hn hJi h hc hx
  have h2 := side_le hn hJi h hc hy
  have hne := hc x y hxn hyn hj
  have e1 : (fun z => D z /\ cl z = cl y /\ c z ≠ c y) = fun z => D z /\ cl z = cl x /\ c z = c x := by
   funext z; rw [g.2]
   apply propext
   revert hne
   cases c z <;> cases c y <;> cases c x <;> simp
  have e2 : (fun z => D z /\ cl z = cl y /\ c z = c y) = fun z => D z /\ cl z = cl x /\ c z ≠ c x := by
   funext z; rw [g.2]
   apply propext
   revert hne
   cases c z <;> cases c y <;> cases c x <;> simp
  rw [e1, e2] at h2
  omega
 ·exact h.dn.dis hy g
def CovP (n : Nat) (D A : Nat -> Prop) (c : Nat -> Bool) (x : Nat) : Prop := A x \/ (x < n /\ ¬ D x /\ ¬ A x /\ c x = true)
theorem CovP.covers (hn : n <= 40) (hJi : ∀ x, ¬ J x x) (hsy : ∀ x y, J x y -> J y x) (h : Great n J s D A cl n) (hc : Two n J c) {x y : Nat} (hx : x < n) (hy : y < n) (hj : J x y) : CovP n D A c x \/ CovP n D A c y := by
 by_cases ax : A x
 ·exact .inl (.inl ax)
 by_cases ay : A y
 ·exact .inr (.inl ay)
 by_cases dx : D x
 ·rcases h.dn.clo dx hj hy with g | g
  ·exact absurd hj (D_apart hn hJi h hc dx g.1)
  ·exact absurd g ay
 by_cases dy : D y
 ·rcases h.dn.clo dy (hsy _ _ hj) hx with g | g
  ·exact absurd g.1 dx
  ·exact absurd g ax
 have := hc x y hx hy hj
 cases e : c x with
 | true => exact .inl (.inr ⟨hx, dx, ax, e⟩)
 | false =>
  cases e2 : c y with
  | true => exact .inr (.inr ⟨hy, dy, ay, e2⟩)
  | false => exact absurd (e.trans e2.symm) this
theorem CovP.paired (h : Great n J s D A cl n) {x : Nat} (hx : CovP n D A c x) : x < n /\ ∃ z : Nat, s.mt x = (z : Int) := by
 rcases hx with g | g
 ·obtain ⟨z, e, _⟩ := h.dn.mA g
  exact ⟨h.dn.alt g, z, e⟩
 ·refine ⟨g.1, ?_⟩
  rcases h.mat.rng g.1 with e | ⟨z, _, e⟩
  ·exact absurd (h.all x g.1 e) g.2.1
  ·exact ⟨z, e⟩
theorem CovP.other (hn : n <= 40) (hJi : ∀ x, ¬ J x x) (h : Great n J s D A cl n) (hc : Two n J c) {x z : Nat} (hx : x < n) (e : s.mt x = (z : Int)) : CovP n D A c x ↔ ¬ CovP n D A c z := by
 have hz := h.mat.lt hx e
 have hj := h.mat.adj hx e
 have hne := hc x z hx hz hj
 have e2 := h.mat.sym hx e
 by_cases ax : A x
 ·obtain ⟨q, q1, q2⟩ := h.dn.mA ax
  have : q = z := by omega
  subst this
  exact ⟨fun _ g => g.elim (h.dn.dis q2) (fun g => g.2.1 q2), fun _ => .inl ax⟩
 by_cases dx : D x
 ·rcases h.dn.clo dx hj hz with g | g
  ·exact absurd hj (D_apart hn hJi h hc dx g.1)
  ·exact ⟨fun k => absurd k (by rintro (k | k); exact ax k; exact k.2.1 dx), fun k => absurd (.inl g) k⟩
 obtain ⟨dz, az⟩ := h.dn.others h.mat hx dx ax e
 constructor
 ·rintro (k | k) (k2 | k2)
  ·exact ax k
  ·exact ax k
  ·exact az k2
  ·exact hne (k.2.2.2.trans k2.2.2.2.symm)
 ·intro k
  refine .inr ⟨hx, dx, ax, ?_⟩
  cases e : c x with
  | true => rfl
  | false =>
   exfalso
   refine k (.inr ⟨hz, dz, az, ?_⟩)
   cases e2 : c z with
   | true => rfl
   | false => exact absurd (e.trans e2.symm) hne
theorem cover_cnt (hn : n <= 40) (hJi : ∀ x, ¬ J x x) (h : Great n J s D A cl n) (hc : Two n J c) : 2 * (listOf (CovP n D A c)).length + freeN n s.mt = n := by
 obtain ⟨E, hE⟩ : ∃ E : Nat -> Prop, E = fun x => (x < n /\ ∃ z : Nat, s.mt x = (z : Int)) /\ ¬ CovP n D A c x := ⟨_, rfl⟩
 have inE : ∀ x, E x ↔ (x < n /\ ∃ z : Nat, s.mt x = (z : Int)) /\ ¬ CovP n D A c x := fun x => by rw [hE]
 have le1 := inj_le (g := fun x => (s.mt x).toNat) (l := listOf (CovP n D A c)) (s := listOf E) (listOf_nodup _) (fun x hx => by
  have hx := (listOf_mem.1 hx).2
  obtain ⟨x1, z, e⟩ := hx.paired h
  have hz := h.mat.lt x1 e
  rw [e, Int.toNat_natCast]
  exact listOf_mem.2 ⟨by omega, (inE z).2 ⟨⟨hz, x, h.mat.sym x1 e⟩, (CovP.other hn hJi h hc x1 e).1 hx⟩⟩) (fun x hx y hy e => by
  have hx := (listOf_mem.1 hx).2
  have hy := (listOf_mem.1 hy).2
  obtain ⟨x1, z, ez⟩ := hx.paired h
  obtain ⟨y1, q, eq⟩ := hy.paired h
  rw [ez, eq, Int.toNat_natCast, Int.toNat_natCast] at e
  subst e
  exact h.mat.inj x1 y1 ez eq)
 have le2 := inj_le (g := fun x => (s.mt x).toNat) (l := listOf E) (s := listOf (CovP n D A c)) (listOf_nodup _) (fun x hx => by
  obtain ⟨⟨x1, z, e⟩, x2⟩ := (inE x).1 (listOf_mem.1 hx).2
  have hz := h.mat.lt x1 e
  rw [e, Int.toNat_natCast]
  exact listOf_mem.2 ⟨by omega, (CovP.other hn hJi h hc hz (h.mat.sym x1 e)).2 x2⟩) (fun x hx y hy e => by
  obtain ⟨⟨x1, z, ez⟩, _⟩ := (inE x).1 (listOf_mem.1 hx).2
  obtain ⟨⟨y1, q, eq⟩, _⟩ := (inE y).1 (listOf_mem.1 hy).2
  rw [ez, eq, Int.toNat_natCast, Int.toNat_natCast] at e
  subst e
  exact h.mat.inj x1 y1 ez eq)
 have up := nodup_le (l := List.range n) (s := (listOf fun x => x < n /\ s.mt x = -1) ++ (listOf (CovP n D A c) ++ listOf E)) List.nodup_range (fun x hx => by
  have hx := List.mem_range.1 hx
  rcases h.mat.rng hx with e | ⟨z, _, e⟩
  ·exact List.mem_append.2 (.inl (listOf_mem.2 ⟨by omega, hx, e⟩))
  ·refine List.mem_append.2 (.inr (List.mem_append.2 ?_))
   by_cases k : CovP n D A c x
   ·exact .inl (listOf_mem.2 ⟨by omega, k⟩)
   ·exact .inr (listOf_mem.2 ⟨by omega, (inE x).2 ⟨⟨hx, z, e⟩, k⟩⟩))
 have dn := nodup_le (l := (listOf fun x => x < n /\ s.mt x = -1) ++ (listOf (CovP n D A c) ++ listOf E)) (s := List.range n) (by
  refine List.nodup_append.2 ⟨listOf_nodup _, List.nodup_append.2 ⟨listOf_nodup _, listOf_nodup _, fun x hx y hy e => ?_⟩, fun x hx y hy e => ?_⟩
  ·subst e
   exact ((inE x).1 (listOf_mem.1 hy).2).2 (listOf_mem.1 hx).2
  ·subst e
   have hx := (listOf_mem.1 hx).2.2
   rcases List.mem_append.1 hy with k | k
   ·obtain ⟨_, z, e⟩ := (listOf_mem.1 k).2.paired h; omega
   ·obtain ⟨⟨_, z, e⟩, _⟩ := (inE x).1 (listOf_mem.1 k).2; omega) (fun x hx => by
  refine List.mem_range.2 ?_
  rcases List.mem_append.1 hx with k | k
  ·exact (listOf_mem.1 k).2.1
  ·rcases List.mem_append.1 k with k | k
   ·exact ((listOf_mem.1 k).2.paired h).1
   ·exact ((inE x).1 (listOf_mem.1 k).2).1.1)
 simp only [List.length_append, List.length_range] at up dn
 unfold freeN
 omega
end Go.Proofs.YtdpnplanohgecaaDoor

open Go Go.Eng
namespace Go.Proofs.YtdpnplanohgecaaDoor
open Classical
structure EvI (n : Nat) (J : Nat -> Nat -> Prop) (f : Nat -> Int) (qs : List Nat) (k : Nat) : Prop where
 col : ∀ x, x < n -> f x = 0 \/ f x = 1 \/ f x = -1
 q : ∀ x ∈ qs, x < n /\ f x ≠ 0
 nd : qs.Nodup
 opp : ∀ x y, x < n -> f x ≠ 0 -> (∀ i, k <= i -> i < qs.length -> pOf qs i ≠ x) -> y < n -> J x y -> f y = -f x
 fit : (∃ c, Two n J c) -> ∃ c, Two n J c /\ ∀ x, x < n -> f x ≠ 0 -> (f x = 1 ↔ c x = true)
variable {n : Nat} {J : Nat -> Nat -> Prop} {f : Nat -> Int} {qs : List Nat} {k : Nat}
theorem EvI.start : EvI n J (fun _ => 0) [] 0 :=
 ⟨fun x _ => .inl rfl, fun x hx => by simp at hx, .nil, fun x y _ h => absurd rfl h, fun ⟨c, hc⟩ => ⟨c, hc, fun x _ h => absurd rfl h⟩⟩
theorem EvI.len (h : EvI n J f qs k) : qs.length <= n := by
 have := nodup_le (s := List.range n) h.nd (fun x hx => List.mem_range.2 (h.q x hx).1)
 rwa [List.length_range] at this
theorem EvI.all (h : EvI n J f qs qs.length) : EvI n J f [] 0 :=
 ⟨h.col, fun x hx => by simp at hx, .nil, fun x y h1 h2 _ => h.opp x y h1 h2 (fun i hi1 hi2 => by omega), h.fit⟩
theorem EvI.first (h : EvI n J f [] 0) (hsy : ∀ x y, J x y -> J y x) (hJi : ∀ x, ¬ J x x) {a : Nat} (ha : a < n) (hf : f a = 0) : EvI n J (updI f a 1) [a] 0 := by
 have vo : ∀ x, x ≠ a -> updI f a 1 x = f x := fun x hx => updI_ne _ _ hx
 have va : updI f a 1 a = 1 := updI_eq _ _ _
 refine ⟨fun x hx => ?_, fun x hx => ?_, List.nodup_cons.2 ⟨by simp, .nil⟩, fun x y hx hne hq hy hj => ?_, fun hc => ?_⟩
 ·by_cases e : x = a
  ·rw [e, va]; exact .inr (.inl rfl)
  ·rw [vo x e]; exact h.col x hx
 ·rw [List.mem_singleton.1 hx, va]; exact ⟨ha, by omega⟩
 ·have e : x ≠ a := fun e => hq 0 (by omega) (by simp) (by rw [e]; rfl)
  rw [vo x e] at hne ⊢
  have := h.opp x y hx hne (fun i _ hi => by simp at hi) hy hj
  by_cases e2 : y = a
  ·rw [e2, hf] at this; omega
  ·rw [vo y e2]; exact this
 ·obtain ⟨c, c1, c2⟩ := h.fit hc
  obtain ⟨c', d1, d2, d3⟩ := c1.flip hsy ha true
  refine ⟨c', d1, fun x hx hne => ?_⟩
  by_cases e : x = a
  ·rw [e, va, d2]; exact ⟨fun _ => rfl, fun _ => rfl⟩
  ·rw [vo x e] at hne ⊢
   rw [c2 x hx hne, d3 x]
   intro hr
   have : a < n /\ f a ≠ 0 := (hr.symm hsy).closed (C := fun z => z < n /\ f z ≠ 0) ⟨hx, hne⟩ (fun q r h1 h2 h3 => ⟨h3, by
    have := h.opp q r h1.1 h1.2 (fun i _ hi => by simp at hi) h3 h2
    have := h1.2
    omega⟩)
   exact this.2 hf
theorem EvI.push (h : EvI n J f qs k) {b : Nat} (hk : k < qs.length) (hb : b < n) (hj : J (pOf qs k) b) (hf : f b = 0) : EvI n J (updI f b (-(f (pOf qs k)))) (qs ++ [b]) k := by
 obtain ⟨y, hy⟩ : ∃ y, y = pOf qs k := ⟨_, rfl⟩
 have hym := pOf_mem hk
 rw [<- hy] at hym hj ⊢
 obtain ⟨hyn, hyf⟩ := h.q y hym
 have hyb : y ≠ b := fun e => hyf (by rw [e]; exact hf)
 have vo : ∀ x, x ≠ b -> updI f b (-(f y)) x = f x := fun x hx => updI_ne _ _ hx
 have vb : updI f b (-(f y)) b = -(f y) := updI_eq _ _ _
 have hbq : b ∉ qs := fun g => (h.q b g).2 hf
 have hyc := h.col y hyn
 refine ⟨fun x hx => ?_, fun x hx => ?_, ?_, fun x z hx hne hq hz hj2 => ?_, fun hc => ?_⟩
 ·by_cases e : x = b
  ·rw [e, vb]; omega
  ·rw [vo x e]; exact h.col x hx
 ·rcases List.mem_append.1 hx with g | g
  ·have := h.q x g
   rw [vo x (fun e => hbq (e ▸ g))]; exact this
  ·rw [List.mem_singleton.1 g, vb]; exact ⟨hb, by omega⟩
 ·refine List.nodup_append.2 ⟨h.nd, List.nodup_cons.2 ⟨by simp, .nil⟩, fun x hx z hz e => ?_⟩
  rw [List.mem_singleton.1 hz] at e
  exact hbq (e ▸ hx)
 ·have hl : (qs ++ [b]).length = qs.length + 1 := by simp
  have e : x ≠ b := fun e => hq qs.length (by omega) (by omega) (by
   rw [e]; simp [pOf, List.getD_eq_getElem?_getD])
  rw [vo x e] at hne ⊢
  have := h.opp x z hx hne (fun i h1 h2 h3 => hq i h1 (by omega) (by rw [pOf_app h2]; exact h3)) hz hj2
  by_cases e2 : z = b
  ·rw [e2, hf] at this; omega
  ·rw [vo z e2]; exact this
 ·obtain ⟨c, c1, c2⟩ := h.fit hc
  refine ⟨c, c1, fun x hx hne => ?_⟩
  by_cases e : x = b
  ·rw [e, vb]
   have h1 := c2 y hyn hyf
   have h2 := c1 y b hyn hb hj
   have h3 : -(f y) = 1 ↔ ¬ f y = 1 := by omega
   rw [h3, h1]
   revert h2
   cases c y <;> cases c b <;> simp
  ·rw [vo x e] at hne ⊢; exact c2 x hx hne
theorem EvI.next (h : EvI n J f qs k) (hk : k < qs.length) (hy : ∀ y, y < n -> J (pOf qs k) y -> f y = -(f (pOf qs k))) : EvI n J f qs (k + 1) :=
 ⟨h.col, h.q, h.nd, fun x y h1 h2 h3 h4 h5 => by
  by_cases e : x = pOf qs k
  ·rw [e] at h5 ⊢; exact hy y h4 h5
  ·exact h.opp x y h1 h2 (fun i g1 g2 => by
    by_cases e2 : i = k
    ·rw [e2]; exact fun g => e g.symm
    ·exact h3 i (by omega) g2) h4 h5, h.fit⟩
theorem EvI.bad (h : EvI n J f qs k) {x y : Nat} (hx : x < n) (hy : y < n) (hj : J x y) (hf : f x ≠ 0) (e : f y = f x) : ¬ ∃ c, Two n J c := fun hc => by
 obtain ⟨c, c1, c2⟩ := h.fit hc
 have h1 := c2 x hx hf
 have h2 := c2 y hy (by rw [e]; exact hf)
 rw [e, h1] at h2
 refine c1 x y hx hy hj ?_
 revert h2
 cases c x <;> cases c y <;> simp
theorem EvI.done (h : EvI n J f [] 0) (ha : ∀ x, x < n -> f x ≠ 0) : ∃ c, Two n J c := by
 refine ⟨fun x => decide (f x = 1), fun x y hx hy hj e => ?_⟩
 have h1 := h.opp x y hx (ha x hx) (fun i _ hi => by simp at hi) hy hj
 have h2 := h.col x hx
 have h3 := ha x hx
 have e := decide_eq_decide.1 e
 omega
end Go.Proofs.YtdpnplanohgecaaDoor

open Go Go.Eng
namespace Go.Proofs.YtdpnplanohgecaaDoor
attribute [local congr] undef_congr WpK.congr WpS.congr WpL.congr WpC.congr WpF.congr gotS.congr callS.congr nextS.congr wantS.congr condS.congr
attribute [local irreducible] WpK
attribute [local simp] WpDr_nil WpDr_cons atS_some dwantS_true dwantS_false kindS_light kindS_float kindS_heavy lightS_value floatS_some heavyS_value heavyS_skip heavyS_enter dcallS_some doneS_eq
 isLight isFloat isPlain dLook testBit_dec dChain dLights_nil dLights_skip dLights_one dLight_nil dLight_cons dFreshes_nil dFreshes_one oneF_none oneF_some dFresh_nil dFresh_cons oneL_some oneW_true oneW_false sameV_value dPut dMay valEq arrEq listEq List.getElem?_cons Tr.get_nil dEnd
attribute [local simp] WpS_nil WpS_cons isDefer undef_false wantS_true wantS_false nextS_value nextS_skip nextS_enter callS_some gotS_some aWanted aOp aEvalF aEval opMove opAssign opPick aVal flat flat1 AAct.put opBinOp opConvert opIndex Tr.get_set Tr.get_lay aBin aResults tupled
 aCall aVals aCallB blt_dec ble_dec beq_dec aBinI_add aBinI_sub aBinI_lss aBinI_leq aBinI_gtr aBinI_geq aBinI_eql aBinI_neq index_str len_str len_slice Nat.beq_refl Nat.beq_refl
 opBox opLoad opFieldAddr opIndexAddr acells aAddr opExtract aExtract opUnOp opAlloc opStore opMakeInterface opNilCheck opBuild aParts opBuildSlice aValW
attribute [local simp] und2 und3 und4 und5 und9 und12 field13_0 field13_1 und21 und22 field23_0 field23_1 field24_0 field24_1 field25_0 field25_1 und28 und31 field34_0 field34_1 field34_2 field35_0 field35_1 field35_2 und46 field50_0 field50_1 field50_2 und55 und56 und58 und61 und62 und73 und75 und90 und94 und95 und96 field97_0 field97_1 field97_2 field97_3 field97_4 field97_5 field97_6 field98_0 field98_1 field98_2 field98_3 field98_4 field98_5 field98_6 und99 und106 field107_0 field107_1 field108_0 field108_1 und119 und122 field124_0 field124_1 field124_2 field125_0 field125_1 field125_2 field131_0 field131_1 field132_0 field132_1 und133 field134_0 field134_1 field135_0 field135_1 und148 und156 und160
set_option maxHeartbeats 4000000
set_option linter.unusedSimpArgs false
set_option linter.unusedVariables false
def intsL (n : Nat) (f : Nat -> Int) : List Value := (List.range n).map fun j => .int .i64 (f j)
theorem intsL_len (n : Nat) (f : Nat -> Int) : (intsL n f).length = n := by simp [intsL]
theorem intsL_at {n j : Nat} (f : Nat -> Int) (h : j < n) : (intsL n f)[j]? = some (.int .i64 (f j)) := by
 simp only [intsL, List.getElem?_map, List.getElem?_range h]; rfl
theorem intsL_set {n j : Nat} (f : Nat -> Int) (x : Int) : (intsL n f).set j (.int .i64 x) = intsL n (updI f j x) := by
 apply List.ext_getElem?
 intro i
 rw [List.getElem?_set]
 by_cases hi : i < n
 ·rw [intsL_at _ hi, intsL_at _ hi, intsL_len]
  by_cases e : j = i
  ·subst e; rw [if_pos rfl, if_pos hi, updI_eq]
  ·rw [if_neg e, updI_ne _ _ (Ne.symm e)]
 ·rw [List.getElem?_eq_none (by rw [intsL_len]; omega), List.getElem?_eq_none (by rw [intsL_len]; omega)]
  split
  ·rw [intsL_len, if_neg (by omega)]
  ·rfl
theorem ints_put {W : AW} {b n : Nat} {f : Nat -> Int} (h : Var W b 3 (intsL n f)) {j : Nat} (hj : j < n) (x : Int) :
  ∃ W', aStoreVar T0 W 3 b j (.int .i64 x) = some W' /\ W'.next = W.next /\ Only (fun c => c = b) W W' /\ Var W' b 3 (intsL n (updI f j x)) := by
 obtain ⟨W', g1, g2, g3, g4⟩ := var_store1 (t := 3) (v := .int .i64 x) (o := j) h inf3 is3 rfl rfl (by rw [intsL_len]; exact hj)
 rw [intsL_set] at g4
 exact ⟨W', g1, g2, g3, g4⟩
theorem neg_one {x : Int} (h : x = 1 \/ x = -1) : aUn .neg (.int .i64 x) = some (.int .i64 (-x)) := by
 rcases h with h | h
 ·subst h; rfl
 ·subst h; rfl
open Classical in
theorem refEven_wp {W : AW} {v : Value} {n : Nat} {es : List Edge} (h : PairR W v es) (hl : es.length < 4611686018427387904) (hg : GraphOk (n : Int) es) :
  WpF T0 30 [.agg ⟨[.int .i64 (n : Int), v]⟩] W (fun u W' => Ext W W' /\ ∃ b, u = .bool b /\ (b = true ↔ ∃ c, Two n (AjE es) c)) := by
 have hn : n <= 40 := by have := hg.2.1; omega
 have hJi := aj_irr hg
 refine wpF fun30 rfl ?_
 obtain ⟨W1, hW1, hE1, hn1, hV1⟩ : ∃ W1, W1 = W.newCells 24 [.int .i64 (n : Int), v] /\ Ext W W1 /\ W1.next = W.next + 1 /\ Var W1 W.next 24 [.int .i64 (n : Int), v] := ⟨_, rfl, .newCells _ _ _, rfl, Var.new _ _ _⟩
 have l1 := hV1.load1 (T := T0) und3 rfl (j := 0) (v := .int .i64 (n : Int)) rfl
 have mk := mkNums W1 n (by omega)
 have e00 : numL n (fun _ => 0) = intsL n (fun _ => 0) := by simp [numL, intsL, natsV]
 rw [e00] at mk
 obtain ⟨cb, hcb⟩ : ∃ cb, cb = W1.next := ⟨_, rfl⟩
 obtain ⟨W2, hW2, hE2, hn2, hV2⟩ : ∃ W2, W2 = W1.newCells 3 (intsL n (fun _ => 0)) /\ Ext W1 W2 /\ W2.next = W1.next + 1 /\ Var W2 cb 3 (intsL n (fun _ => 0)) := ⟨_, rfl, .newCells _ _ _, rfl, by rw [hcb]; exact Var.new _ _ _⟩
 rw [<- hW2, <- hcb] at mk
 have ixc : ∀ j, j < n -> aIndexAddr T0 31 (rowV cb n) (.int .i64 (j : Int)) = some (.pointer (some ⟨cb, j, none⟩)) := fun j hj => num_ix hj
 obtain ⟨cv, hcv⟩ : ∃ cv, cv = rowV cb n := ⟨_, rfl⟩
 have vcv : valEq cv cv = true := by rw [hcv]; exact rowV_eq _ _
 rw [<- hcv] at mk ixc
 obtain ⟨g, hg0⟩ : ∃ g, g = W.next := ⟨_, rfl⟩
 rw [<- hg0] at hV1 l1
 have hE02 := hE1.trans hE2
 have k0 : ∀ {W'}, Only (fun x => x = cb) W2 W' -> Ext W W' /\ PairR W' v es /\ aLoadVar T0 W' 24 g 0 = some (.agg ⟨[.int .i64 (n : Int), v]⟩) /\ aLoadVar T0 W' 3 g 0 = some (.int .i64 (n : Int)) := fun {W'} ho => by
  have he : Ext W W' := ⟨by have := ho.1; have := hE02.1; omega, fun x hx _ => by rw [ho.2 x (by omega) (by omega), hE02.2 x hx (fun x => x)]⟩
  have v1 := (hV1.ext hE2).only ho (by omega)
  exact ⟨he, h.ext he, load24 v1, v1.load1 (T := T0) und3 rfl (j := 0) (v := .int .i64 (n : Int)) rfl⟩
 try simp only [wA]
 refine wpK_reg (fun R hR => by simp [<- hW1, <- hg0]; exact hR) ?_
 try simp only [wA]
 refine wpK_reg (fun R hR => by simp [l1, opMakeSlice, mk]; exact hR) ?_
 try simp only [wA]
 refine wpK_reg (fun R hR => by simp []; exact hR) ?_
 refine wpK_keep (fun tm' => tm'.get 1 = some (.pointer (some ⟨g, 0, none⟩)) /\ tm'.get 3 = some (cv) /\ tm'.get 4 = some (.int .i64 0)) (by simp [hg0]) ?_
 rintro tm ⟨h1, h3, h4⟩
 try simp only [wA]
 refine wpK_while (I := fun q A' W' => A'.n = 79 /\ A'.defers = [] /\ A'.tmps.get 1 = some (.pointer (some ⟨g, 0, none⟩)) /\ A'.tmps.get 3 = some (cv) /\ Only (fun x => x = cb) W2 W' /\ ∃ (a : Nat) (f : Nat -> Int), A'.tmps.get 4 = some (.int .i64 (a : Int)) /\ q = n - a /\ a <= n /\ Var W' cb 3 (intsL n f) /\ EvI n (AjE es) f [] 0 /\ ∀ x, x < a -> f x ≠ 0)
  (J := fun A' W' => A'.n = 79 /\ A'.defers = [] /\ Ext W W' /\ ∃ c, Two n (AjE es) c) (Rt := fun A' W' => A'.n = 79 /\ A'.defers = [] /\ Ext W W' /\ A'.tmps.get 2 = some (.bool false) /\ ¬ ∃ c, Two n (AjE es) c) (k := n) ?_ ?_ ?_ ?_
 ·exact ⟨rfl, rfl, by simp [h1, h3], by simp [h1, h3], .refl _ _, 0, _, by simp [h4], rfl, by omega, hV2, .start, fun x hx => by omega⟩
 ·rintro q ⟨tm, n, ds⟩ Wa ⟨hn, hd, h1, h3, hOa, a, f, h4, hq, han, hVa, hI0, hfa⟩ Q' hJ hRt hI
  simp only at hn hd h1 h3
  subst hn; subst hd
  simp only at h4
  obtain ⟨ea, pa, la, la3⟩ := k0 hOa
  by_cases hlt : a < n
  case neg =>
   have hlt' : ¬ (a : Int) < n := by omega
   try simp only [wA]
   refine wpK_reg (fun R hR => by simp [h1, h4, la3, hlt']; exact hR) ?_
   try simp only [wA]
   first | refine wpK_onF (by simp [hlt]) ?_ | refine wpK_out (by simp [hlt]) ?_ | refine wCF (by simp [hlt]) ?_ | refine wEF (by simp [hlt]) (wpK_skip ?_) | refine wEF (by simp [hlt]) ?_
   exact hJ _ _ ⟨rfl, rfl, ea, hI0.done fun x hx => hfa x (by omega)⟩
  have hlt' : (a : Int) < n := by omega
  try simp only [wA]
  refine wpK_reg (fun R hR => by simp [h1, h4, la3, hlt']; exact hR) ?_
  try simp only [wA]
  first | refine wpK_onT (by simp [hlt]) ?_ | refine wpK_outT (by simp [hlt]) ?_ | refine wCT (by simp [hlt]) ?_ | refine wpK_endT (by simp [hlt]) ?_
  have ixa := ixc a hlt
  have lda := hVa.load1 (T := T0) und3 rfl (intsL_at f hlt)
  refine wpK_block ?_
  by_cases hf0 : f a = 0
  case neg =>
   try simp only [wA]
   refine wpK_reg (fun R hR => by simp [h3, h4, ixa, lda, hf0]; exact hR) ?_
   try simp only [wA]
   first | refine wpK_onT (by simp [hf0]) ?_ | refine wpK_outT (by simp [hf0]) ?_ | refine wCT (by simp [hf0]) ?_ | refine wpK_endT (by simp [hf0]) ?_
   simp only [leaves_exit, if_true, bN]
   try simp only [wA]
   refine wpK_reg1 (fun R hR => by simp [h4]; exact hR) ?_
   refine hI (n - (a + 1)) _ _ (by omega) ⟨rfl, rfl, by simp [h1, h3], by simp [h1, h3], hOa, a + 1, f, by simp [i64_succ a (by omega)], rfl, by omega, hVa, hI0, fun x hx => ?_⟩
   by_cases e : x = a
   ·subst e; exact hf0
   ·exact hfa x (by omega)
  rw [hf0] at lda
  obtain ⟨Wb, b1, b2, b3, b4⟩ := ints_put hVa hlt 1
  have hI1 := hI0.first AjE.symm hJi hlt hf0
  have hmono : ∀ x, f x ≠ 0 -> updI f a 1 x ≠ 0 := fun x hx => by
   by_cases e : x = a
   ·rw [e, updI_eq]; omega
   ·rw [updI_ne _ _ e]; exact hx
  have haf : updI f a 1 a ≠ 0 := by rw [updI_eq]; omega
  have hfa1 : ∀ x, x < a + 1 -> updI f a 1 x ≠ 0 := fun x hx => by
   by_cases e : x = a
   ·rw [e]; exact haf
   ·exact hmono x (hfa x (by omega))
  generalize updI f a 1 = f1 at b4 hI1 hfa1
  clear hmono haf
  try simp only [wA]
  refine wpK_reg (fun R hR => by simp [h3, h4, ixa, lda]; exact hR) ?_
  try simp only [wA]
  first | refine wpK_onF (by simp []) ?_ | refine wpK_out (by simp []) ?_ | refine wCF (by simp []) ?_ | refine wEF (by simp []) (wpK_skip ?_) | refine wEF (by simp []) ?_
  try simp only [wA]
  refine wpK_reg (fun R hR => by simp [h3, h4, ixa, b1]; exact hR) ?_
  have hOb := hOa.trans b3
  obtain ⟨Wc, hWc, hEc, hHc⟩ : ∃ Wc, Wc = Wb.newCells 3 [.int .i64 (a : Int)] /\ Ext Wb Wc /\ HeldQ Wb Wc (.slice (some ⟨Wb.next, 0, none⟩) 1 2) [a] := ⟨_, rfl, .newCells _ _ _, heldQ_new _ _⟩
  obtain ⟨q0, hq0⟩ : ∃ p : Value, p = .slice (some ⟨Wb.next, 0, none⟩) 1 2 := ⟨_, rfl⟩
  rw [<- hq0] at hHc
  try simp only [wA]
  refine wpK_reg (fun R hR => by simp [h4, bs31, <- hWc, <- hq0]; exact hR) ?_
  try simp only [wA]
  refine wpK_reg (fun R hR => by simp []; exact hR) ?_
  have hOc : Only (fun x => x = cb) W2 Wc := hOb.trans (hEc.mono fun _ _ (h : False) => h.elim)
  have hcbb : cb < Wb.next := b4.1
  refine wpK_keep (fun tm' => tm'.get 1 = some (.pointer (some ⟨g, 0, none⟩)) /\ tm'.get 3 = some (cv) /\ tm'.get 4 = some (.int .i64 (a : Int)) /\ tm'.get 5 = some (q0) /\ tm'.get 6 = some (.int .i64 0)) (by simp [h1, h3, h4]) ?_
  rintro tm ⟨h1, h3, h4, h5, h6⟩
  try simp only [wA]
  refine wpK_while1 (I := fun q2 A' W' => A'.n = 79 /\ A'.defers = [] /\ A'.tmps.get 1 = some (.pointer (some ⟨g, 0, none⟩)) /\ A'.tmps.get 3 = some (cv) /\ A'.tmps.get 4 = some (.int .i64 (a : Int)) /\ Only (fun x => x = cb) W2 W' /\ ∃ (k : Nat) (qv : Value) (qs : List Nat) (f : Nat -> Int), A'.tmps.get 6 = some (.int .i64 (k : Int)) /\ A'.tmps.get 5 = some qv /\ q2 = n - k /\ k <= qs.length /\ 0 < qs.length /\ Wb.next <= W'.next /\ HeldQ Wb W' qv qs /\ Var W' cb 3 (intsL n f) /\ EvI n (AjE es) f qs k /\ ∀ x, x < a + 1 -> f x ≠ 0)
   (J := fun A' W' => A'.n = 79 /\ A'.defers = [] /\ A'.tmps.get 1 = some (.pointer (some ⟨g, 0, none⟩)) /\ A'.tmps.get 3 = some (cv) /\ A'.tmps.get 4 = some (.int .i64 (a : Int)) /\ Only (fun x => x = cb) W2 W' /\ ∃ (f : Nat -> Int), Var W' cb 3 (intsL n f) /\ EvI n (AjE es) f [] 0 /\ ∀ x, x < a + 1 -> f x ≠ 0) (Rt := fun A' W' => A'.n = 79 /\ A'.defers = [] /\ Ext W W' /\ A'.tmps.get 2 = some (.bool false) /\ ¬ ∃ c, Two n (AjE es) c) (k := n) ?_ ?_ ?_ ?_
  ·exact ⟨rfl, rfl, by simp [h1, h3, h4], by simp [h1, h3, h4], by simp [h1, h3, h4], hOc, 0, q0, [a], f1, by simp [h6], by simp [h5], rfl, by simp, by simp, hEc.1, hHc, b4.ext hEc, hI1, hfa1⟩
  ·clear hI0 hI1 hHc hfa hfa1 hVa h5 h6
   rintro q2 ⟨tm, n, ds⟩ Wd ⟨hn, hd, h1, h3, h4, hOd, k, qv, qs, f2, h6, h5, hq2, hkl, hq0l, hnd, hHq, hVd, hI1, hfa1⟩ Q2 hJ2 hRt2 hI2
   simp only at hn hd h1 h3 h4
   subst hn; subst hd
   simp only at h6 h5
   have hql := hI1.len
   have hrow := hHq.row hq0l
   obtain ⟨Aq, cq, hqv⟩ := hrow.len
   rw [List.length_map] at hqv
   have lq : ∀ W', aLen T0 W' 31 qv = some (.int .i64 (qs.length : Int)) := fun W' => by rw [hqv]; exact len_slice und31 _ _ _
   by_cases hkt : k < qs.length
   case neg =>
    have hkt' : ¬ (k : Int) < qs.length := by omega
    have e : k = qs.length := by omega
    rw [e] at hI1
    try simp only [wA]
    refine wpK_reg (fun R hR => by simp [h5, h6, lq, hkt']; exact hR) ?_
    try simp only [wA]
    first | refine wpK_onF (by simp [hkt]) ?_ | refine wpK_out (by simp [hkt]) ?_ | refine wCF (by simp [hkt]) ?_ | refine wEF (by simp [hkt]) (wpK_skip ?_) | refine wEF (by simp [hkt]) ?_
    exact hJ2 _ _ ⟨rfl, rfl, by simp [h1, h3, h4], by simp [h1, h3, h4], by simp [h1, h3, h4], hOd, f2, hVd, hI1.all, hfa1⟩
   have hkt' : (k : Int) < qs.length := by omega
   try simp only [wA]
   refine wpK_reg (fun R hR => by simp [h5, h6, lq, hkt']; exact hR) ?_
   try simp only [wA]
   first | refine wpK_onT (by simp [hkt]) ?_ | refine wpK_outT (by simp [hkt]) ?_ | refine wCT (by simp [hkt]) ?_ | refine wpK_endT (by simp [hkt]) ?_
   refine wpK_block ?_
   try simp only [wA]
   refine wpK_reg (fun R hR => by simp []; exact hR) ?_
   obtain ⟨y, hy⟩ : ∃ y, y = pOf qs k := ⟨_, rfl⟩
   have hym := pOf_mem hkt
   rw [<- hy] at hym
   refine wpK_keep (fun tm' => tm'.get 1 = some (.pointer (some ⟨g, 0, none⟩)) /\ tm'.get 3 = some (cv) /\ tm'.get 4 = some (.int .i64 (a : Int)) /\ tm'.get 5 = some (qv) /\ tm'.get 6 = some (.int .i64 (k : Int)) /\ tm'.get 7 = some (.int .i64 0)) (by simp [h1, h3, h4, h5, h6]) ?_
   rintro tm ⟨h1, h3, h4, h5, h6, h7⟩
   try simp only [wA]
   refine wpK_while1 (I := fun q3 A' W' => A'.n = 79 /\ A'.defers = [] /\ A'.tmps.get 1 = some (.pointer (some ⟨g, 0, none⟩)) /\ A'.tmps.get 3 = some (cv) /\ A'.tmps.get 4 = some (.int .i64 (a : Int)) /\ A'.tmps.get 6 = some (.int .i64 (k : Int)) /\ Only (fun x => x = cb) W2 W' /\ ∃ (b : Nat) (qv : Value) (qs : List Nat) (f : Nat -> Int), A'.tmps.get 7 = some (.int .i64 (b : Int)) /\ A'.tmps.get 5 = some qv /\ q3 = n - b /\ b <= n /\ k < qs.length /\ pOf qs k = y /\ Wb.next <= W'.next /\ HeldQ Wb W' qv qs /\ Var W' cb 3 (intsL n f) /\ EvI n (AjE es) f qs k /\ (∀ x, x < a + 1 -> f x ≠ 0) /\ ∀ z, z < b -> AjE es y z -> f z = -(f y))
    (J := fun A' W' => A'.n = 79 /\ A'.defers = [] /\ A'.tmps.get 1 = some (.pointer (some ⟨g, 0, none⟩)) /\ A'.tmps.get 3 = some (cv) /\ A'.tmps.get 4 = some (.int .i64 (a : Int)) /\ A'.tmps.get 6 = some (.int .i64 (k : Int)) /\ Only (fun x => x = cb) W2 W' /\ ∃ (qv : Value) (qs : List Nat) (f : Nat -> Int), A'.tmps.get 5 = some qv /\ k < qs.length /\ Wb.next <= W'.next /\ HeldQ Wb W' qv qs /\ Var W' cb 3 (intsL n f) /\ EvI n (AjE es) f qs (k + 1) /\ (∀ x, x < a + 1 -> f x ≠ 0)) (Rt := fun A' W' => A'.n = 79 /\ A'.defers = [] /\ Ext W W' /\ A'.tmps.get 2 = some (.bool false) /\ ¬ ∃ c, Two n (AjE es) c) (k := n) ?_ ?_ ?_ ?_
   ·exact ⟨rfl, rfl, by simp [h1, h3, h4, h6], by simp [h1, h3, h4, h6], by simp [h1, h3, h4, h6], by simp [h1, h3, h4, h6], hOd, 0, qv, qs, f2, by simp [h7], by simp [h5], rfl, by omega, hkt, hy.symm, hnd, hHq, hVd, hI1, hfa1, fun z hz => by omega⟩
   ·clear hI1 hHq hfa1 hVd h5 h7 hrow hqv lq hql hkt hkt' hkl hq0l hym hy
    rintro q3 ⟨tm, n, ds⟩ We ⟨hn, hd, h1, h3, h4, h6, hOe, b, qv2, qs2, f3, h7, h5, hq3, hbn, hkt, hy, hne, hHq, hVe, hI1, hfa1, hpart⟩ Q3 hJ3 hRt3 hI3
    simp only at hn hd h1 h3 h4 h6
    subst hn; subst hd
    simp only at h7 h5
    obtain ⟨ee, pe, le, le3⟩ := k0 hOe
    by_cases hlb : b < n
    case neg =>
     have hlb' : ¬ (b : Int) < n := by omega
     try simp only [wA]
     refine wpK_reg (fun R hR => by simp [h1, h7, le3, hlb']; exact hR) ?_
     try simp only [wA]
     first | refine wpK_onF (by simp [hlb]) ?_ | refine wpK_out (by simp [hlb]) ?_ | refine wCF (by simp [hlb]) ?_ | refine wEF (by simp [hlb]) (wpK_skip ?_) | refine wEF (by simp [hlb]) ?_
     exact hJ3 _ _ ⟨rfl, rfl, by simp [h1, h3, h4, h6], by simp [h1, h3, h4, h6], by simp [h1, h3, h4, h6], by simp [h1, h3, h4, h6], hOe, qv2, qs2, f3, by simp [h5], hkt, hne, hHq, hVe, hI1.next hkt (fun z hz hj => by rw [hy] at hj ⊢; exact hpart z (by omega) hj), hfa1⟩
    have hlb' : (b : Int) < n := by omega
    try simp only [wA]
    refine wpK_reg (fun R hR => by simp [h1, h7, le3, hlb']; exact hR) ?_
    try simp only [wA]
    first | refine wpK_onT (by simp [hlb]) ?_ | refine wpK_outT (by simp [hlb]) ?_ | refine wCT (by simp [hlb]) ?_ | refine wpK_endT (by simp [hlb]) ?_
    have hql := hI1.len
    have hrow := hHq.row (by omega)
    obtain ⟨bx, px, x1, _, x3⟩ := int_at31 hrow (nat_some (ps := qs2) (i := k) hkt)
    have hym := pOf_mem hkt
    rw [hy] at x3 hym
    obtain ⟨hyn, hyf⟩ := hI1.q y hym
    have x2 : ∀ W', Ext We W' -> aLoadVar T0 W' 3 bx px = some (.int .i64 (y : Int)) := fun W' hE => load_of und3 rfl (x3.ext hE)
    have eee : Ext We We := .refl _ _
    have l24e : ∀ W', Ext We W' -> aLoadVar T0 W' 24 g 0 = some (.agg ⟨[.int .i64 (n : Int), v]⟩) := fun W' hE => (k0 (hOe.trans (hE.mono fun _ _ (h : False) => h.elim))).2.2.1
    have hjw := refJoined_wp (n : Int) pe hl (y : Int) (b : Int)
    have vv := row_eq pe
    have vq := row_eq hrow
    obtain ⟨jb, hjb⟩ : ∃ jb, jb = decide (Jn es (y : Int) (b : Int)) := ⟨_, rfl⟩
    rw [<- hjb] at hjw
    refine wpK_block ?_
    try simp only [wA]
    refine wpK_d0 (wr := Tr.nil |>.set 39 0 |>.set 40 1 |>.set 41 2 |>.set 42 3 |>.set 43 4 |>.set 44 5 |>.set 45 6 |>.set 46 7) (bits := Tr.nil.lay 0 [0, 0, 0, 6, 14, 0, 63, 127]) (ord := [0, 1, 2, 3, 4, 5, 6, 7]) (by kernel_rfl) (by kernel_rfl) (by kernel_rfl) (fun G hG => by
     simp [h1, h5, h6, h7, x1, x2, eee, l24e, vv, vq, undef, aEnter, fun64, sO, aCallV]
     rw [dcallS_none]
     refine hjw.mono ?_
     rintro _ Wf ⟨hEf, rfl⟩
     simp [hEf.1, hEf, h1, h5, h6, h7, x1, x2, eee, l24e, vv, vq, undef]
     exact hG Wf hEf) ?_
    rintro Wf hEf
    have hOf : Only (fun x => x = cb) W2 Wf := hOe.trans (hEf.mono fun _ _ (h : False) => h.elim)
    have hHf : HeldQ Wb Wf qv2 qs2 := HeldN.only hHq hEf (fun _ _ _ x => x)
    have hVf := hVe.ext hEf
    have hnf : Wb.next <= Wf.next := by have := hEf.1; omega
    cases jb with
    | false =>
     have hnj : ¬ AjE es y b := fun hj => by
      have hj : Jn es (y : Int) (b : Int) := hj
      rw [decide_eq_true hj] at hjb; cases hjb
     try simp only [wA]
     first | refine wpK_onT (by simp []) ?_ | refine wpK_outT (by simp []) ?_ | refine wCT (by simp []) ?_ | refine wpK_endT (by simp []) ?_
     simp only [leaves_exit, if_true, bN]
     refine wpK_keep (fun tm' => tm'.get 1 = some (.pointer (some ⟨g, 0, none⟩)) /\ tm'.get 3 = some (cv) /\ tm'.get 4 = some (.int .i64 (a : Int)) /\ tm'.get 5 = some (qv2) /\ tm'.get 6 = some (.int .i64 (k : Int)) /\ tm'.get 7 = some (.int .i64 (b : Int))) (by simp [h1, h3, h4, h5, h6, h7]) ?_
     rintro tm ⟨h1, h3, h4, h5, h6, h7⟩
     try simp only [wA]
     refine wpK_reg1 (fun R hR => by simp [h7]; exact hR) ?_
     refine hI3 (n - (b + 1)) _ _ (by omega) ⟨rfl, rfl, by simp [h1, h3, h4, h6], by simp [h1, h3, h4, h6], by simp [h1, h3, h4, h6], by simp [h1, h3, h4, h6], hOf, b + 1, qv2, qs2, f3, by simp [i64_succ b (by omega)], by simp [h5], rfl, by omega, hkt, hy, hnf, hHf, hVf, hI1, hfa1, fun z hz hj => ?_⟩
     by_cases e : z = b
     ·subst e; exact absurd hj hnj
     ·exact hpart z (by omega) hj
    | true =>
     have hj : AjE es y b := of_decide_eq_true hjb.symm
     try simp only [wA]
     first | refine wpK_onF (by simp []) ?_ | refine wpK_out (by simp []) ?_ | refine wCF (by simp []) ?_ | refine wEF (by simp []) (wpK_skip ?_) | refine wEF (by simp []) ?_
     refine wpK_keep (fun tm' => tm'.get 1 = some (.pointer (some ⟨g, 0, none⟩)) /\ tm'.get 3 = some (cv) /\ tm'.get 4 = some (.int .i64 (a : Int)) /\ tm'.get 5 = some (qv2) /\ tm'.get 6 = some (.int .i64 (k : Int)) /\ tm'.get 7 = some (.int .i64 (b : Int))) (by simp [h1, h3, h4, h5, h6, h7]) ?_
     rintro tm ⟨h1, h3, h4, h5, h6, h7⟩
     have ixb := ixc b hlb
     have ixy := ixc y hyn
     have ldb := hVf.load1 (T := T0) und3 rfl (intsL_at f3 hlb)
     have ldy := hVf.load1 (T := T0) und3 rfl (intsL_at f3 hyn)
     have x2f := x2 Wf hEf
     by_cases hfb : f3 b = 0
     ·rw [hfb] at ldb
      have hneg := neg_one ((hI1.col y hyn).resolve_left hyf)
      obtain ⟨Wg, w1, w2, w3, w4⟩ := ints_put hVf hlb (-(f3 y))
      have hHg : HeldQ Wb Wg qv2 qs2 := HeldN.only hHf w3 (fun z _ hz e => by omega)
      obtain ⟨qv', Wh, m1, m2, m3⟩ := hHg.push (by omega) (by omega) b
      try simp only [wA]
      refine wpK_reg (fun R hR => by simp [h3, h7, ixb, ldb]; exact hR) ?_
      try simp only [wA]
      first | refine wpK_onT (by simp []) ?_ | refine wpK_outT (by simp []) ?_ | refine wCT (by simp []) ?_ | refine wpK_endT (by simp []) ?_
      try simp only [wA]
      refine wpK_reg (fun R hR => by simp [h3, h5, h6, h7, ixb, ixy, x1, x2f, ldy, hneg, w1]; exact hR) ?_
      try simp only [wA]
      refine wpK_reg1 (fun R hR => by simp [h5, h7, bs31, m1]; exact hR) ?_
      simp only [lN, bN]
      refine wpK_keep (fun tm' => tm'.get 1 = some (.pointer (some ⟨g, 0, none⟩)) /\ tm'.get 3 = some (cv) /\ tm'.get 4 = some (.int .i64 (a : Int)) /\ tm'.get 5 = some (qv') /\ tm'.get 6 = some (.int .i64 (k : Int)) /\ tm'.get 7 = some (.int .i64 (b : Int))) (by simp [h1, h3, h4, h6, h7]) ?_
      rintro tm ⟨h1, h3, h4, h5, h6, h7⟩
      try simp only [wA]
      refine wpK_reg1 (fun R hR => by simp [h7]; exact hR) ?_
      have hOg := hOf.trans w3
      have hfo : ∀ z, z ≠ b -> updI f3 b (-(f3 y)) z = f3 z := fun z hz => updI_ne _ _ hz
      have hyb : y ≠ b := fun e => hyf (by rw [e]; exact hfb)
      have hpush := hI1.push hkt hlb (by rw [hy]; exact hj) hfb
      rw [hy] at hpush
      refine hI3 (n - (b + 1)) _ _ (by omega) ⟨rfl, rfl, by simp [h1, h3, h4, h6], by simp [h1, h3, h4, h6], by simp [h1, h3, h4, h6], by simp [h1, h3, h4, h6], ⟨by have := hOg.1; have := m3.1; omega, fun z hz hzk => by rw [m3.2 z (by have := hOg.1; omega) (by have := hOa.1; omega), hOg.2 z hz hzk]⟩, b + 1, qv', qs2 ++ [b], _, by simp [i64_succ b (by omega)], by simp [h5], rfl, by omega, by simp; omega, by rw [pOf_app hkt]; exact hy, by have := m3.1; omega, m2, w4.only m3 (by omega), hpush, fun x hx => ?_, fun z hz hjz => ?_⟩
      ·by_cases e : x = b
       ·exfalso; exact hfa1 x hx (by rw [e]; exact hfb)
       ·rw [hfo x e]; exact hfa1 x hx
      ·rw [hfo y hyb]
       by_cases e : z = b
       ·rw [e, updI_eq]
       ·rw [hfo z e]; exact hpart z (by omega) hjz
     ·try simp only [wA]
      refine wpK_reg (fun R hR => by simp [h3, h7, ixb, ldb, hfb]; exact hR) ?_
      try simp only [wA]
      first | refine wpK_onF (by simp [hfb]) ?_ | refine wpK_out (by simp [hfb]) ?_ | refine wCF (by simp [hfb]) ?_ | refine wEF (by simp [hfb]) (wpK_skip ?_) | refine wEF (by simp [hfb]) ?_
      by_cases hbad : f3 b = f3 y
      ·try simp only [wA]
       refine wpK_dn (wr := Tr.nil |>.set 67 0 |>.set 68 1 |>.set 69 2 |>.set 70 3 |>.set 71 4 |>.set 72 5 |>.set 73 6 |>.set 74 7 |>.set 75 8 |>.set 76 9 |>.set 77 10 |>.set 78 11) (bits := Tr.nil.lay 0 [0, 0, 3, 7, 0, 0, 0, 96, 224, 496, 1008, 2047]) (ord := [0, 1, 2, 3, 4, 5, 6, 7, 8, 9, 10, 11]) (by kernel_rfl) (by kernel_rfl) (by kernel_rfl) (fun G hG => by
        simp [h3, h5, h6, h7, x1, x2f, ixb, ixy, ldb, ldy, vcv, vq, hbad, undef]
        exact hG) ?_
       try simp only [wA]
       first | refine wpK_onT (by simp [hbad]) ?_ | refine wpK_outT (by simp [hbad]) ?_ | refine wCT (by simp [hbad]) ?_ | refine wpK_endT (by simp [hbad]) ?_
       try simp only [wA]
       refine wpK_reg (fun R hR => by simp []; exact hR) ?_
       exact wpK_ret (hRt3 _ _ ⟨rfl, rfl, (k0 hOf).1, by simp, hI1.bad hyn hlb hj hyf hbad⟩)
      ·try simp only [wA]
       refine wpK_dn (wr := Tr.nil |>.set 67 0 |>.set 68 1 |>.set 69 2 |>.set 70 3 |>.set 71 4 |>.set 72 5 |>.set 73 6 |>.set 74 7 |>.set 75 8 |>.set 76 9 |>.set 77 10 |>.set 78 11) (bits := Tr.nil.lay 0 [0, 0, 3, 7, 0, 0, 0, 96, 224, 496, 1008, 2047]) (ord := [0, 1, 2, 3, 4, 5, 6, 7, 8, 9, 10, 11]) (by kernel_rfl) (by kernel_rfl) (by kernel_rfl) (fun G hG => by
        simp [h3, h5, h6, h7, x1, x2f, ixb, ixy, ldb, ldy, vcv, vq, hbad, undef]
        exact hG) ?_
       try simp only [wA]
       first | refine wpK_onF (by simp [hbad]) ?_ | refine wpK_out (by simp [hbad]) ?_ | refine wCF (by simp [hbad]) ?_ | refine wEF (by simp [hbad]) (wpK_skip ?_) | refine wEF (by simp [hbad]) ?_
       simp only [lN, bN]
       refine wpK_keep (fun tm' => tm'.get 1 = some (.pointer (some ⟨g, 0, none⟩)) /\ tm'.get 3 = some (cv) /\ tm'.get 4 = some (.int .i64 (a : Int)) /\ tm'.get 5 = some (qv2) /\ tm'.get 6 = some (.int .i64 (k : Int)) /\ tm'.get 7 = some (.int .i64 (b : Int))) (by simp [h1, h3, h4, h5, h6, h7]) ?_
       rintro tm ⟨h1, h3, h4, h5, h6, h7⟩
       try simp only [wA]
       refine wpK_reg1 (fun R hR => by simp [h7]; exact hR) ?_
       refine hI3 (n - (b + 1)) _ _ (by omega) ⟨rfl, rfl, by simp [h1, h3, h4, h6], by simp [h1, h3, h4, h6], by simp [h1, h3, h4, h6], by simp [h1, h3, h4, h6], hOf, b + 1, qv2, qs2, f3, by simp [i64_succ b (by omega)], by simp [h5], rfl, by omega, hkt, hy, hnf, hHf, hVf, hI1, hfa1, fun z hz hjz => ?_⟩
       by_cases e : z = b
       ·subst e
        have := hI1.col z hlb
        have := hI1.col y hyn
        omega
       ·exact hpart z (by omega) hjz
   ·rintro A' W' hf; exact hRt2 _ _ hf
   rintro ⟨tm, n, ds⟩ We ⟨hn, hd, h1, h3, h4, h6, hOe, qv2, qs2, f3, h5, hkt, hne, hHq, hVe, hI1, hfa1⟩
   simp only at hn hd h1 h3 h4 h6
   subst hn; subst hd
   simp only at h5
   have hql := hI1.len
   try simp only [lN, bN]
   try simp only [wA]
   refine wpK_reg1 (fun R hR => by simp [h6]; exact hR) ?_
   exact hI2 (n - (k + 1)) _ _ (by omega) ⟨rfl, rfl, by simp [h1, h3, h4], by simp [h1, h3, h4], by simp [h1, h3, h4], hOe, k + 1, qv2, qs2, f3, by simp [i64_succ k (by omega)], by simp [h5], rfl, by omega, by omega, hne, hHq, hVe, hI1, hfa1⟩
  ·rintro A' W' hf; exact hRt _ _ hf
  rintro ⟨tm, n, ds⟩ Wd ⟨hn, hd, h1, h3, h4, hOd, f2, hVd, hI1, hfa1⟩
  simp only at hn hd h1 h3 h4
  subst hn; subst hd
  try simp only [lN, bN]
  try simp only [wA]
  refine wpK_reg1 (fun R hR => by simp [h4]; exact hR) ?_
  exact hI (n - (a + 1)) _ _ (by omega) ⟨rfl, rfl, by simp [h1, h3], by simp [h1, h3], hOd, a + 1, f2, by simp [i64_succ a (by omega)], rfl, by omega, hVd, hI1, hfa1⟩
 ·rintro ⟨tm, m, ds⟩ W' ⟨h1, h2, h3, h4, h5⟩
  simp only at h1 h2 h4
  subst h1; subst h2
  exact ⟨.inr rfl, rfl, [.bool false], by simp [h4], h3, false, rfl, ⟨fun h => (by cases h), fun h => absurd h h5⟩⟩
 ·rintro ⟨tm, m, ds⟩ W' ⟨h1, h2, h3, h4⟩
  simp only at h1 h2
  subst h1; subst h2
  try simp only [wA]
  refine wpK_reg (fun R hR => by simp []; exact hR) ?_
  exact wpK_ret ⟨.inr rfl, rfl, [.bool true], by simp, h3, true, rfl, ⟨fun _ => h4, fun _ => rfl⟩⟩
theorem aj_lt {n : Nat} {es : List Edge} (hg : GraphOk (n : Int) es) {x z : Nat} (hx : AjE es x z) : x < n /\ z < n := by
 obtain ⟨i, hi | hi⟩ := hx
 ·have := hg.2.2.2 i (List.getElem?_eq_some_iff.1 hi).1 _ _ hi
  exact ⟨by omega, by omega⟩
 ·have := hg.2.2.2 i (List.getElem?_eq_some_iff.1 hi).1 _ _ hi
  exact ⟨by omega, by omega⟩
theorem and_lt40 {x y : Nat} (hx : x < 1099511627776) : x &&& y < 1099511627776 := Nat.lt_of_le_of_lt Nat.and_le_left hx
theorem or_lt40 {x y : Nat} (hx : x < 1099511627776) (hy : y < 1099511627776) : x ||| y < 1099511627776 := Nat.or_lt_two_pow (n := 40) hx hy
theorem and_zero {x y : Nat} : x &&& y = 0 ↔ ∀ b, x.testBit b = true -> ¬ y.testBit b = true := by
 constructor
 ·intro h b h1 h2
  have e : (x &&& y).testBit b = true := by rw [Nat.testBit_and, h1, h2]; rfl
  rw [h, Nat.zero_testBit] at e; cases e
 ·intro h
  apply bits_eq
  intro b
  rw [Nat.testBit_and, Bool.and_eq_true, Nat.zero_testBit]
  exact ⟨fun k => absurd k.2 (h b k.1), fun k => by cases k⟩
theorem low_bit {L : Nat} (h : L ≠ 0) (hL : L < 1099511627776) : ∃ k, L.testBit k = true /\ k < 40 /\ ∀ j, j < k -> L.testBit j = false := by
 obtain ⟨k, h1, h2⟩ := low_ex h
 exact ⟨k, h1, bit_lt (n := 40) hL h1, h2⟩
theorem side_wp {n w : Nat} {es : List Edge} {Jl : List Nat} {W : AW} (hg : GraphOk (n : Int) es) (hJ : JoinL es Jl) (hVw : Var W w 108 (.int .i64 (n : Int) :: Jl.map setV)) (hT : tabsIn T0 T0.tabs W = true) (hN0 : 0 < W.next) :
  WpF T0 59 [.pointer (some ⟨w, 0, none⟩)] W (fun u W' => Ext W W' /\ ∃ (S : Nat) (ok : Bool), u = .tuple ⟨[.int .u64 (S : Int), .bool ok]⟩ /\ S < 1099511627776 /\ (∀ x, S.testBit x = true -> x < n) /\ (ok = true ↔ ∃ c, Two n (AjE es) c) /\ (ok = true -> Two n (AjE es) S.testBit)) := by
 have hn40 : n <= 40 := by have := hg.2.1; omega
 have hpw : 2 ^ n - 1 < 1099511627776 := by
  have := Nat.pow_le_pow_right (n := 2) (by omega) hn40
  omega
 have hfb : ∀ x, (2 ^ n - 1).testBit x = true ↔ x < n := fun x => by rw [full_bit, decide_eq_true_eq]
 have hall : ∀ {W'}, Ext W W' -> WpF T0 63 [.pointer (some ⟨w, 0, none⟩)] W' (fun u W9 => W9 = W' /\ u = .int .u64 ((2 ^ n - 1 : Nat) : Int)) := fun {W'} he => all_wp (hVw.ext he) hn40
 generalize 2 ^ n - 1 = m at hall hpw hfb
 have haw : ∀ {W'} {x : Nat}, Ext W W' -> x < 1099511627776 -> WpF T0 80 [.pointer (some ⟨w, 0, none⟩), .int .u64 (x : Nat)] W' (fun v W9 => Ext W' W9 /\ ∃ R : Nat, v = .int .u64 (R : Nat) /\ R < 1099511627776 /\ ∀ r : Nat, R.testBit r = true ↔ ∃ q, x.testBit q = true /\ (Jl.getD q 0).testBit r = true) :=
  fun {W' x} he hx => around_wp hJ (hVw.ext he) hx (tabs_ext hT hN0 he) (by have := he.1; omega)
 have hjb : ∀ {x q r : Nat}, x < 1099511627776 -> x.testBit q = true -> ((Jl.getD q 0).testBit r = true ↔ AjE es q r) := fun {x q r} hx hq => (join_bit hJ (bit_lt (n := 40) hx hq)).2
 refine wpF fun59 rfl ?_
 try simp only [wA]
 refine wpK_reg (fun R hR => by simp []; exact hR) ?_
 try simp only [wA]
 refine wpK_reg (fun R hR => by simp []; exact hR) ?_
 have h00 : Ext W W := .refl _ _
 try simp only [wA]
 refine wpK_reg (fun R hR => by
   simp [undef, aEnter, fun63, sO, aCallV]; rw [cN]
   refine (hall h00).mono ?_
   rintro _ W9 ⟨e9, rfl⟩; subst W9
   simp [undef]; exact hR) ?_
 refine wpK_keep (fun tm' => tm'.get 0 = some (.pointer (some ⟨w, 0, none⟩)) /\ tm'.get 4 = some (.int .u64 0) /\ tm'.get 5 = some (.int .u64 (m : Int))) (by simp) ?_
 rintro tm ⟨h0, h4, h5⟩
 try simp only [wA]
 refine wpK_while (I := fun q A' W' => A'.n = 51 /\ A'.defers = [] /\ A'.tmps.get 0 = some (.pointer (some ⟨w, 0, none⟩)) /\ Ext W W' /\ ∃ (S X : Nat), A'.tmps.get 4 = some (.int .u64 (S : Int)) /\ A'.tmps.get 5 = some (.int .u64 (X : Int)) /\ q = X /\ S < 1099511627776 /\ X < 1099511627776 /\ ∃ ev, SideI n (AjE es) S X 0 ev)
  (J := fun A' W' => A'.n = 51 /\ A'.defers = [] /\ A'.tmps.get 0 = some (.pointer (some ⟨w, 0, none⟩)) /\ Ext W W' /\ ∃ (S : Nat), A'.tmps.get 4 = some (.int .u64 (S : Int)) /\ S < 1099511627776 /\ ∃ ev, SideI n (AjE es) S 0 0 ev) (Rt := fun _ _ => False) (k := m) ?_ ?_ ?_ ?_
 ·exact ⟨rfl, rfl, by simp [h0], .refl _ _, 0, m, by simp [h4], by simp [h5], rfl, by omega, hpw, true, .start hfb⟩
 ·rintro q ⟨tm, n, ds⟩ Wa ⟨hn, hd, h0, hEa, S, X, h4, h5, hq, hS40, hX40, ev, hI0⟩ Q' hJ hRt hI
  simp only at hn hd h0
  subst hn; subst hd
  simp only at h4 h5
  by_cases hX : X = 0
  ·rw [hX] at hI0 h5
   try simp only [wA]
   refine wpK_reg (fun R hR => by simp [h5]; exact hR) ?_
   try simp only [wA]
   first | refine wpK_onF (by simp []) ?_ | refine wpK_out (by simp []) ?_ | refine wCF (by simp []) ?_ | refine wEF (by simp []) (wpK_skip ?_) | refine wEF (by simp []) ?_
   exact hJ _ _ ⟨rfl, rfl, by simp [h0], hEa, S, by simp [h4], hS40, ev, hI0⟩
  have hX' : ¬ (X : Int) = 0 := by omega
  try simp only [wA]
  refine wpK_reg (fun R hR => by simp [h5, hX']; exact hR) ?_
  try simp only [wA]
  first | refine wpK_onT (by simp [hX, hX']) ?_ | refine wpK_outT (by simp [hX, hX']) ?_ | refine wCT (by simp [hX, hX']) ?_ | refine wpK_endT (by simp [hX, hX']) ?_
  obtain ⟨k, k1, k2, k3⟩ := low_bit hX hX40
  have hfw := first_wp (x := X) (k := k) (tabs_ext hT hN0 hEa) (by omega) k1 k3
  have how := one_wp k (by omega) Wa
  have hob : ∀ x, (1 <<< k).testBit x = true ↔ x = k := fun x => by rw [one_bit, decide_eq_true_eq]; exact ⟨fun h => h.symm, fun h => h.symm⟩
  have hR40 : 1 <<< k < 1099511627776 := by rw [Nat.one_shiftLeft]; exact Nat.lt_of_lt_of_eq (Nat.pow_lt_pow_right (a := 2) (by omega) k2) (by decide)
  have hR0 : 1 <<< k ≠ 0 := by rw [Nat.one_shiftLeft]; have := Nat.two_pow_pos k; omega
  generalize 1 <<< k = r at how hob hR40 hR0
  have hI1 := hI0.first AjE.symm k1 hob
  refine wpK_block1 ?_
  try simp only [wA]
  refine wpK_reg (fun Q9 hQ9 => by
   simp [h5, aEnter, fun81, sO, aCallV]; rw [cN]
   refine hfw.mono ?_
   rintro _ W9 ⟨e9, rfl⟩; subst W9
   simp [aEnter, fun68, sO, aCallV]; rw [cN]
   refine how.mono ?_
   rintro _ W9 ⟨e9, rfl⟩; subst W9
   simp; exact hQ9) ?_
  try simp only [wA]
  refine wpK_reg (fun R hR => by simp []; exact hR) ?_
  refine wpK_keep (fun tm' => tm'.get 0 = some (.pointer (some ⟨w, 0, none⟩)) /\ tm'.get 4 = some (.int .u64 (S : Int)) /\ tm'.get 5 = some (.int .u64 (X : Int)) /\ tm'.get 6 = some (.int .u64 (r : Int)) /\ tm'.get 7 = some (.bool true)) (by simp [h0, h4, h5]) ?_
  rintro tm ⟨h0, h4, h5, h6, h7⟩
  try simp only [wA]
  refine wpK_while1 (I := fun q2 A' W' => A'.n = 51 /\ A'.defers = [] /\ A'.tmps.get 0 = some (.pointer (some ⟨w, 0, none⟩)) /\ Ext W W' /\ ∃ (S X' R : Nat) (ev : Bool), A'.tmps.get 4 = some (.int .u64 (S : Int)) /\ A'.tmps.get 5 = some (.int .u64 (X' : Int)) /\ A'.tmps.get 6 = some (.int .u64 (R : Int)) /\ A'.tmps.get 7 = some (.bool ev) /\ q2 = X' /\ S < 1099511627776 /\ X' < 1099511627776 /\ R < 1099511627776 /\ SideI n (AjE es) S X' R ev /\ (X' < X \/ (X' = X /\ R ≠ 0)))
   (J := fun A' W' => A'.n = 51 /\ A'.defers = [] /\ A'.tmps.get 0 = some (.pointer (some ⟨w, 0, none⟩)) /\ Ext W W' /\ ∃ (S X' : Nat) (ev : Bool), A'.tmps.get 4 = some (.int .u64 (S : Int)) /\ A'.tmps.get 5 = some (.int .u64 (X' : Int)) /\ S < 1099511627776 /\ X' < X /\ SideI n (AjE es) S X' 0 ev) (Rt := fun _ _ => False) (k := X) ?_ ?_ ?_ ?_
  ·exact ⟨rfl, rfl, by simp [h0], hEa, S, X, r, true, by simp [h4], by simp [h5], by simp [h6], by simp [h7], rfl, hS40, hX40, hR40, hI1, .inr ⟨rfl, hR0⟩⟩
  ·clear hI0 hI1 h4 h5 h6 h7 hS40
   rintro q2 ⟨tm, n, ds⟩ Wb ⟨hn, hd, h0, hEb, S, Y, R, ev, h4, h5, h6, h7, hq2, hS40, hY40, hR40, hI1, hYX⟩ Q2 hJ2 hRt2 hI2
   simp only at hn hd h0
   subst hn; subst hd
   simp only at h4 h5 h6 h7
   by_cases hR : R = 0
   ·subst R
    try simp only [wA]
    refine wpK_reg (fun R hR => by simp [h6]; exact hR) ?_
    try simp only [wA]
    first | refine wpK_onF (by simp []) ?_ | refine wpK_out (by simp []) ?_ | refine wCF (by simp []) ?_ | refine wEF (by simp []) (wpK_skip ?_) | refine wEF (by simp []) ?_
    exact hJ2 _ _ ⟨rfl, rfl, by simp [h0], hEb, S, Y, ev, by simp [h4], by simp [h5], hS40, by omega, hI1⟩
   have hR' : ¬ (R : Int) = 0 := by omega
   try simp only [wA]
   refine wpK_reg (fun R hR => by simp [h6, hR']; exact hR) ?_
   try simp only [wA]
   first | refine wpK_onT (by simp [hR, hR']) ?_ | refine wpK_outT (by simp [hR, hR']) ?_ | refine wCT (by simp [hR, hR']) ?_ | refine wpK_endT (by simp [hR, hR']) ?_
   obtain ⟨Y', m1, m2, m3⟩ := aBinI_andNot .u64 Y R (by show Y < 18446744073709551616; omega) (by show R < 18446744073709551616; omega)
   have hor := aBinI_or .u64 S R (by show S < 18446744073709551616; omega) (by show R < 18446744073709551616; omega)
   have hob2 : ∀ x, (S ||| R).testBit x = true ↔ S.testBit x = true \/ R.testBit x = true := fun x => by rw [Nat.testBit_or, Bool.or_eq_true]
   have ho40 : S ||| R < 1099511627776 := or_lt40 hS40 hR40
   generalize S ||| R = S2 at hor hob2 ho40
   have hYl : ∀ x, Y'.testBit x = true ↔ Y.testBit x = true /\ R.testBit x = false := fun x => by rw [m3, Bool.and_eq_true, Bool.not_eq_true']
   have hYlt : Y' < Y := by
    refine Nat.lt_of_le_of_ne m1 fun e => ?_
    obtain ⟨b, b1, b2⟩ := low_ex hR
    have := (hYl b).1 (by rw [e]; exact hI1.rl b b1)
    rw [b1] at this; cases this.2
   have hrw := haw hEb hR40
   refine wpK_block ?_
   cases ev with
   | true =>
    try simp only [wA]
    refine wpK_reg (fun R hR => by simp [h7]; exact hR) ?_
    try simp only [wA]
    first | refine wpK_onT (by simp []) ?_ | refine wpK_outT (by simp []) ?_ | refine wCT (by simp []) ?_ | refine wpK_endT (by simp []) ?_
    try simp only [wA]
    refine wpK_reg1 (fun R hR => by simp [h4, h6, hor]; exact hR) ?_
    try simp only [wA]
    refine wpK_reg (fun R hR => by simp [h5, h6, m2]; exact hR) ?_
    try simp only [wA]
    refine wpK_y2 (P := fun (o R' : Nat) Wc => Ext Wb Wc /\ R' < 1099511627776 /\ ∀ x, R'.testBit x = true ↔ Y'.testBit x = true /\ ∃ q, R.testBit q = true /\ AjE es q x) (fun R9 hR9 => by
     simp [h0, h6, aEnter, fun80, sO, aCallV]; rw [cN]
     refine hrw.mono ?_
     rintro _ Wc ⟨hEc, o, rfl, ho40, hob⟩
     have hand := aBinI_and .u64 o Y' (by show o < 18446744073709551616; omega) (by show Y' < 18446744073709551616; omega)
     obtain ⟨R', hR'⟩ : ∃ R', R' = o &&& Y' := ⟨_, rfl⟩
     rw [<- hR'] at hand
     simp [hand]
     refine hR9 o R' Wc ⟨hEc, by rw [hR']; exact and_lt40 ho40, fun x => ?_⟩
     rw [hR', Nat.testBit_and, Bool.and_eq_true, hob, And.comm]
     exact and_congr_right fun _ => ⟨fun ⟨q, q1, q2⟩ => ⟨q, q1, (hjb hR40 q1).1 q2⟩, fun ⟨q, q1, q2⟩ => ⟨q, q1, (hjb hR40 q1).2 q2⟩⟩) ?_
    rintro o R' Wc ⟨hEc, hR'40, hRb⟩
    simp only [lN, bN]
    try simp only [wA]
    refine wpK_reg1 (fun R hR => by simp [h7]; exact hR) ?_
    exact hI2 Y' _ _ (by omega) ⟨rfl, rfl, by simp [h0], hEb.trans hEc, S2, Y', R', false, by simp [h4], by simp, by simp, by simp, rfl, ho40, by omega, hR'40, hI1.next (fun x => by rw [hob2 x]; simp) hYl hRb, .inl (by omega)⟩
   | false =>
    try simp only [wA]
    refine wpK_reg (fun R hR => by simp [h7]; exact hR) ?_
    try simp only [wA]
    first | refine wpK_onF (by simp []) ?_ | refine wpK_out (by simp []) ?_ | refine wCF (by simp []) ?_ | refine wEF (by simp []) (wpK_skip ?_) | refine wEF (by simp []) ?_
    skip
    try simp only [wA]
    refine wpK_reg (fun R hR => by simp [h5, h6, m2]; exact hR) ?_
    try simp only [wA]
    refine wpK_y2 (P := fun (o R' : Nat) Wc => Ext Wb Wc /\ R' < 1099511627776 /\ ∀ x, R'.testBit x = true ↔ Y'.testBit x = true /\ ∃ q, R.testBit q = true /\ AjE es q x) (fun R9 hR9 => by
     simp [h0, h6, aEnter, fun80, sO, aCallV]; rw [cN]
     refine hrw.mono ?_
     rintro _ Wc ⟨hEc, o, rfl, ho40, hob⟩
     have hand := aBinI_and .u64 o Y' (by show o < 18446744073709551616; omega) (by show Y' < 18446744073709551616; omega)
     obtain ⟨R', hR'⟩ : ∃ R', R' = o &&& Y' := ⟨_, rfl⟩
     rw [<- hR'] at hand
     simp [hand]
     refine hR9 o R' Wc ⟨hEc, by rw [hR']; exact and_lt40 ho40, fun x => ?_⟩
     rw [hR', Nat.testBit_and, Bool.and_eq_true, hob, And.comm]
     exact and_congr_right fun _ => ⟨fun ⟨q, q1, q2⟩ => ⟨q, q1, (hjb hR40 q1).1 q2⟩, fun ⟨q, q1, q2⟩ => ⟨q, q1, (hjb hR40 q1).2 q2⟩⟩) ?_
    rintro o R' Wc ⟨hEc, hR'40, hRb⟩
    simp only [lN, bN]
    try simp only [wA]
    refine wpK_reg1 (fun R hR => by simp [h7]; exact hR) ?_
    exact hI2 Y' _ _ (by omega) ⟨rfl, rfl, by simp [h0], hEb.trans hEc, S, Y', R', true, by simp [h4], by simp, by simp, by simp, rfl, hS40, by omega, hR'40, hI1.next (fun x => by simp) hYl hRb, .inl (by omega)⟩
  ·rintro A' W' hf; exact hf.elim
  rintro ⟨tm, n, ds⟩ Wb ⟨hn, hd, h0, hEb, S, Y, ev, h4, h5, hS40, hYX, hI1⟩
  simp only at hn hd h0
  subst hn; subst hd
  simp only at h4 h5
  exact hI Y _ _ (by omega) ⟨rfl, rfl, by simp [h0], hEb, S, Y, by simp [h4], by simp [h5], rfl, hS40, by omega, ev, hI1⟩
 ·rintro A' W' hf; exact hf.elim
 rintro ⟨tm, n, ds⟩ Wz ⟨hn, hd, h0, hEz, S, h4, hS40, ev, hI0⟩
 simp only at hn hd h0
 subst hn; subst hd
 simp only at h4
 obtain ⟨O, m1, m2, m3⟩ := aBinI_andNot .u64 m S (by show m < 18446744073709551616; omega) (by show S < 18446744073709551616; omega)
 have hSn : ∀ x, S.testBit x = true -> x < n := fun x hx => (hI0.sl x hx).1
 have hOb : ∀ x, O.testBit x = true ↔ x < n /\ S.testBit x = false := fun x => by rw [m3, Bool.and_eq_true, Bool.not_eq_true', hfb]
 have hO40 : O < 1099511627776 := by omega
 try simp only [wA]
 refine wpK_reg (fun R9 hR9 => by
  simp [h0, h4, aEnter, fun63, sO, aCallV]; rw [cN]
  refine (hall hEz).mono ?_
  rintro _ W9 ⟨e9, rfl⟩; subst W9
  simp [h4, m2]; exact hR9) ?_
 have hin : ∀ {o X : Nat}, X < 1099511627776 -> (∀ r : Nat, o.testBit r = true ↔ ∃ q, X.testBit q = true /\ (Jl.getD q 0).testBit r = true) -> (o &&& X = 0 ↔ ∀ q r, X.testBit q = true -> X.testBit r = true -> ¬ AjE es q r) := fun {o X} hX hob => by
  rw [and_zero]
  constructor
  ·intro h q r h1 h2 h3
   exact h r ((hob r).2 ⟨q, h1, (hjb hX h1).2 h3⟩) h2
  ·intro h b h1 h2
   obtain ⟨q, q1, q2⟩ := (hob b).1 h1
   exact h q b q1 h2 ((hjb hX q1).1 q2)
 have htwo : Two n (AjE es) S.testBit ↔ (∀ q r, S.testBit q = true -> S.testBit r = true -> ¬ AjE es q r) /\ (∀ q r, O.testBit q = true -> O.testBit r = true -> ¬ AjE es q r) := by
  constructor
  ·intro h
   exact ⟨fun q r h1 h2 h3 => h q r (hSn q h1) (hSn r h2) h3 (by rw [h1, h2]), fun q r h1 h2 h3 => by
    have h1 := (hOb q).1 h1
    have h2 := (hOb r).1 h2
    exact h q r h1.1 h2.1 h3 (by rw [h1.2, h2.2])⟩
  ·rintro ⟨a, b⟩ x y hx hy hj e
   cases hs : S.testBit x with
   | true => exact a x y hs (by rw [<- e]; exact hs) hj
   | false => exact b x y ((hOb x).2 ⟨hx, hs⟩) ((hOb y).2 ⟨hy, by rw [<- e]; exact hs⟩) hj
 refine wpK_keep (fun tm' => tm'.get 0 = some (.pointer (some ⟨w, 0, none⟩)) /\ tm'.get 4 = some (.int .u64 (S : Int)) /\ tm'.get 8 = some (.int .u64 (O : Int))) (by simp [h0, h4]) ?_
 rintro tm ⟨h0, h4, h8⟩
 try simp only [wA]
 refine wpK_regc (J := fun A' W' => A'.n = 51 /\ A'.defers = [] /\ Ext W W' /\ A'.tmps.get 2 = some (.int .u64 (S : Int)) /\ ∃ ok, A'.tmps.get 3 = some (.bool ok) /\ (ok = true ↔ Two n (AjE es) S.testBit)) (fun R hR => ?_) ?_
 ·simp [h0, h4, aEnter, fun80, sO, aCallV]; rw [cN]
  refine (haw hEz hS40).mono ?_
  rintro _ Wc ⟨hEc, o, rfl, ho40, hob⟩
  have hand := aBinI_and .u64 o S (by show o < 18446744073709551616; omega) (by show S < 18446744073709551616; omega)
  have hz := hin hS40 hob
  generalize o &&& S = z at hand hz
  have hEzc := hEz.trans hEc
  by_cases h0z : z = 0
  ·rw [h0z] at hand
   simp [hand, undef, h0, h4, h8, aEnter, fun80, sO, aCallV]; rw [cN]
   refine (haw hEzc hO40).mono ?_
   rintro _ Wd ⟨hEd, o2, rfl, ho240, hob2⟩
   have hand2 := aBinI_and .u64 o2 O (by show o2 < 18446744073709551616; omega) (by show O < 18446744073709551616; omega)
   have hz2 := hin hO40 hob2
   generalize o2 &&& O = z2 at hand2 hz2
   simp [hand2, undef, h0, h4, h8]
   refine hR _ _ ⟨rfl, rfl, hEzc.trans hEd, by simp [h4], decide (z2 = 0), by simp, ?_⟩
   rw [decide_eq_true_eq, hz2, htwo]
   exact ⟨fun k => ⟨hz.1 h0z, k⟩, fun k => k.2⟩
  ·have h0z' : ¬ (z : Int) = 0 := by omega
   simp [hand, undef, h0, h4, h8, h0z, h0z']
   refine hR _ _ ⟨rfl, rfl, hEzc, by simp [h4], false, by simp, ?_⟩
   exact ⟨fun k => (by cases k), fun k => absurd (hz.2 (htwo.1 k).1) h0z⟩
 rintro ⟨tm, _, ds⟩ W5 ⟨hn5, hd5, hE5, h2, ok, h3, hok⟩
 simp only at hn5 hd5 h2 h3
 subst hn5; subst hd5
 exact wpK_ret ⟨.inr rfl, rfl, [.int .u64 (S : Int), .bool ok], by simp [h2, h3], hE5, S, ok, rfl, hS40, hSn, ⟨fun h => ⟨_, hok.1 h⟩, fun h => hok.2 (hI0.done rfl h)⟩, hok.1⟩
open Classical in
theorem cover_ok {W : AW} {v : Value} {n : Nat} {es : List Edge} (h : PairR W v es) (hl : es.length < 4611686018427387904) (hg : GraphOk (n : Int) es) (hT : tabsIn T0 T0.tabs W = true) (hN0 : 0 < W.next) :
  WpF T0 20 [.agg ⟨[.int .i64 (n : Int), v]⟩] W (fun u W' => Ext W W' /\ ∃ lv ok, u = .tuple ⟨[lv, .bool ok, .int .i64 0]⟩ /\ (ok = true ↔ ∃ c, Two n (AjE es) c) /\ (ok = false -> lv = .slice none 0 0) /\
   (ok = true -> ∃ T : Nat, IntN W' lv (membL n T) /\ (∀ x y, AjE es x y -> T.testBit x = true \/ T.testBit y = true) /\ MostP n (AjE es) (fun _ => true) (membs n T).length)) := by
 have hn40 : n <= 40 := by have := hg.2.1; omega
 have hJi := aj_irr hg
 refine wpF fun20 rfl ?_
 obtain ⟨W1, hW1, hE1, hV⟩ : ∃ W1, W1 = W.newCells 25 [.int .i64 (n : Int), v] /\ Ext W W1 /\ Var W1 W.next 25 [.int .i64 (n : Int), v] := ⟨_, rfl, .newCells _ _ _, Var.new _ _ _⟩
 have hl1 := load25 hV
 try simp only [wA]
 refine wpK_reg (fun R hR => by simp [<- hW1]; exact hR) ?_
 try simp only [wA]
 refine wpK_x1 (fun R hR => by
   simp [hl1, opExtract, aExtract, aEnter, fun54, sO, aCallV]; rw [cN]
   refine (lay_ok (h.ext hE1) hl hg).mono ?_
   rintro _ W2 ⟨hE2, w, hw, rfl, hWeb⟩
   simp [hl1, opExtract, aExtract]; exact hR w W2 (And.intro hE2 (And.intro hw hWeb))) ?_
 rintro w W2 ⟨hE2, hw, hWeb⟩
 try simp only [wA]
 refine wpK_reg (fun R hR => by simp []; exact hR) ?_
 try simp only [wA]
 first | refine wpK_onF (by simp []) ?_ | refine wpK_out (by simp []) ?_ | refine wCF (by simp []) ?_ | refine wEF (by simp []) (wpK_skip ?_) | refine wEF (by simp []) ?_
 obtain ⟨Jl, hJ, hVw⟩ := hWeb
 have hE02 := hE1.trans hE2
 have hT2 := tabs_ext hT hN0 hE02
 have n2 := hE02.1
 try simp only [wA]
 refine wpK_x2 (fun R hR => by
   simp [opExtract, aExtract, aEnter, fun59, sO, aCallV]; rw [cN]
   refine (side_wp hg hJ hVw hT2 (by omega)).mono ?_
   rintro _ W3 ⟨hE3, S, ok, rfl, hS40, hSn, hok, hok2⟩
   simp [opExtract, aExtract]; exact hR S ok W3 (And.intro hE3 (And.intro hS40 (And.intro hSn (And.intro hok hok2))))) ?_
 rintro S ok W3 ⟨hE3, hS40, hSn, hok, hok2⟩
 have hE03 := hE02.trans hE3
 have hT3 := tabs_ext hT hN0 hE03
 have n3 := hE03.1
 cases ok with
 | false =>
  try simp only [wA]
  refine wpK_reg (fun R hR => by simp []; exact hR) ?_
  try simp only [wA]
  first | refine wpK_onT (by simp []) ?_ | refine wpK_outT (by simp []) ?_ | refine wCT (by simp []) ?_ | refine wpK_endT (by simp []) ?_
  try simp only [wA]
  refine wpK_reg (fun R hR => by simp []; exact hR) ?_
  exact wpK_ret ⟨.inr rfl, rfl, [.slice none 0 0, .bool false, .int .i64 0], by simp, hE03, _, false, rfl, hok, fun _ => rfl, fun h => (by cases h)⟩
 | true =>
  try simp only [wA]
  refine wpK_reg (fun R hR => by simp []; exact hR) ?_
  try simp only [wA]
  first | refine wpK_onF (by simp []) ?_ | refine wpK_out (by simp []) ?_ | refine wCF (by simp []) ?_ | refine wEF (by simp []) (wpK_skip ?_) | refine wEF (by simp []) ?_
  try simp only [wA]
  refine wpK_x3 (fun R hR => by
    simp [opExtract, aExtract, aEnter, fun57, sO, aCallV]; rw [cN]
    refine (divide_wp hg hJ (hVw.ext hE3) hT3 (by omega)).mono ?_
    rintro _ W4 ⟨hE4, F, N, R, rfl, hD⟩
    simp [opExtract, aExtract]; exact hR F N R W4 (And.intro hE4 hD)) ?_
  rintro F N R W4 ⟨hE4, hD⟩
  obtain ⟨s, D, A, cl, hG, hF, hNA, hR⟩ := hD
  have hE04 := hE03.trans hE4
  have hT4 := tabs_ext hT hN0 hE04
  have n4 := hE04.1
  have hc := hok2 rfl
  have hN40 : N < 1099511627776 := lt40 fun x hx => by have := hG.dn.alt ((hNA x).1 hx); omega
  have hR40 : R < 1099511627776 := lt40 fun x hx => by have := ((hR x).1 hx).1; omega
  have hand := aBinI_and .u64 R S (by show R < 18446744073709551616; omega) (by show S < 18446744073709551616; omega)
  have hand40 : R &&& S < 1099511627776 := and_lt40 hR40
  have hor := aBinI_or .u64 N (R &&& S) (by show N < 18446744073709551616; omega) (by show R &&& S < 18446744073709551616; omega)
  have hTb : ∀ x, (N ||| (R &&& S)).testBit x = true ↔ CovP n D A S.testBit x := fun x => by
   rw [Nat.testBit_or, Bool.or_eq_true, Nat.testBit_and, Bool.and_eq_true, hNA, hR]
   unfold CovP
   simp only [and_assoc]
  generalize R &&& S = RS at hand hor hTb hand40
  generalize N ||| RS = T at hor hTb
  have hTn : ∀ b, T.testBit b = true -> b < n := fun b hb => by
   rcases (hTb b).1 hb with g | g
   ·exact hG.dn.alt g
   ·exact g.1
  try simp only [wA]
  refine wpK_x1 (fun R hR => by
    simp [hand, hor, aEnter, fun58, sO, aCallV]; rw [cN]
    refine (list_membs hTn hn40 hT4 (by omega)).mono ?_
    rintro lv W5 ⟨hE5, u1, k1, e1, r1⟩
    simp [hand, hor]; exact hR lv W5 (And.intro hE5 r1)) ?_
  rintro lv W5 ⟨hE5, r1⟩
  refine wpK_ret ⟨.inr rfl, rfl, [lv, .bool true, .int .i64 0], by simp, hE04.trans hE5, lv, true, rfl, hok, fun h => (by cases h), fun _ => ⟨T, natsV_row r1, fun x y hj => ?_, ?_⟩⟩
  ·have hlt := aj_lt hg hj
   exact (CovP.covers hn40 hJi AjE.symm hG hc hlt.1 hlt.2 hj).imp (hTb x).2 (hTb y).2
  ·refine great_most hn40 hJi AjE.symm hG ?_
   have h1 := cover_cnt hn40 hJi hG hc
   have h2 : (membs n T).length <= (listOf (CovP n D A S.testBit)).length := nodup_le (List.nodup_range.filter _) fun x hx => by
    have := membs_mem.1 hx
    exact listOf_mem.2 ⟨by omega, (hTb x).1 this.2⟩
   have h3 : (listOf (CovP n D A S.testBit)).length <= (membs n T).length := nodup_le (listOf_nodup _) fun x hx => by
    have := (listOf_mem.1 hx).2
    have hb := (hTb x).2 this
    exact membs_mem.2 ⟨hTn x hb, hb⟩
   omega
open Classical in
theorem refCovers_wp {W : AW} {v lv : Value} {n : Nat} {es : List Edge} {ps : List Nat} (h : PairR W v es) (hl : es.length < 4611686018427387904) (hg : GraphOk (n : Int) es) (hp : IntR W lv (ps.map Int.ofNat)) (hpl : ps.length < 100000)
  (hc : ∀ x y, AjE es x y -> (TS ps).testBit x = true \/ (TS ps).testBit y = true) (hr : RisTo (n : Int) (ps.map Int.ofNat) (ps.map Int.ofNat).length) :
  WpF T0 31 [.agg ⟨[.int .i64 (n : Int), v]⟩, lv] W (fun u W' => Ext W W' /\ u = .bool true) := by
 refine wpF fun31 rfl ?_
 obtain ⟨W1, hW1, hE1, hV⟩ : ∃ W1, W1 = W.newCells 24 [.int .i64 (n : Int), v] /\ Ext W W1 /\ Var W1 W.next 24 [.int .i64 (n : Int), v] := ⟨_, rfl, .newCells _ _ _, Var.new _ _ _⟩
 obtain ⟨A, c, hv⟩ := h.len
 have l1 := hV.load1 (T := T0) und22 rfl (j := 1) (v := v) rfl
 have l0 := load24 hV
 have ll : aLen T0 W1 22 v = some (.int .i64 es.length) := by rw [hv]; exact len_slice und22 _ _ _
 have hR := h.ext hE1
 have hp1 := hp.ext hE1
 obtain ⟨g, hg0⟩ : ∃ g, g = W.next := ⟨_, rfl⟩
 rw [<- hg0] at l1 l0
 try simp only [wA]
 refine wpK_reg (fun R hR => by simp [<- hW1, <- hg0]; exact hR) ?_
 try simp only [wA]
 refine wpK_reg (fun R hR => by simp []; exact hR) ?_
 refine wpK_keep (fun tm' => tm'.get 1 = some (lv) /\ tm'.get 2 = some (.pointer (some ⟨g, 0, none⟩)) /\ tm'.get 5 = some (.int .i64 0)) (by simp [hg0]) ?_
 rintro tm ⟨h1, h2, h5⟩
 try simp only [wA]
 refine wpK_while (I := fun k A W' => A.n = 36 /\ A.defers = [] /\ A.tmps.get 1 = some (lv) /\ A.tmps.get 2 = some (.pointer (some ⟨g, 0, none⟩)) /\ W' = W1 /\ ∃ i : Nat, A.tmps.get 5 = some (.int .i64 (i : Int)) /\ k = es.length - i /\ i <= es.length)
  (J := fun A W' => A.n = 36 /\ A.defers = [] /\ A.tmps.get 1 = some (lv) /\ A.tmps.get 2 = some (.pointer (some ⟨g, 0, none⟩)) /\ W' = W1) (Rt := fun _ _ => False) (k := es.length) ?_ ?_ ?_ ?_
 ·exact ⟨rfl, rfl, by simp [h1, h2], by simp [h1, h2], rfl, 0, by simp [h5], rfl, by omega⟩
 ·rintro k ⟨tm, n, ds⟩ W2 ⟨hn, hd, h1, h2, e2, i, h5, hk, hil⟩ Q' hJ hRt hI
  simp only at hn hd h1 h2
  subst hn; subst hd
  subst W2
  simp only at h5
  by_cases hlt : i < es.length
  case neg =>
   have hlt' : ¬ (i : Int) < es.length := by omega
   try simp only [wA]
   refine wpK_reg (fun R hR => by simp [h2, h5, l1, ll, hlt']; exact hR) ?_
   try simp only [wA]
   first | refine wpK_onF (by simp [hlt]) ?_ | refine wpK_out (by simp [hlt]) ?_ | refine wCF (by simp [hlt]) ?_ | refine wEF (by simp [hlt]) (wpK_skip ?_) | refine wEF (by simp [hlt]) ?_
   exact hJ _ _ ⟨rfl, rfl, by simp [h1, h2], by simp [h1, h2], rfl⟩
  have hlt' : (i : Int) < es.length := by omega
  try simp only [wA]
  refine wpK_reg (fun R hR => by simp [h2, h5, l1, ll, hlt']; exact hR) ?_
  try simp only [wA]
  first | refine wpK_onT (by simp [hlt]) ?_ | refine wpK_outT (by simp [hlt]) ?_ | refine wCT (by simp [hlt]) ?_ | refine wpK_endT (by simp [hlt]) ?_
  obtain ⟨⟨ea, eb⟩, hab⟩ : ∃ e : Edge, es[i] = e := ⟨_, rfl⟩
  have ha : es[i]? = some (ea, eb) := by rw [List.getElem?_eq_getElem hlt, hab]
  have hrng := hg.2.2.2 i hlt _ _ ha
  obtain ⟨a, rfl⟩ : ∃ a : Nat, ea = (a : Int) := ⟨ea.toNat, by omega⟩
  obtain ⟨b, rfl⟩ : ∃ b : Nat, eb = (b : Int) := ⟨eb.toNat, by omega⟩
  have hj : AjE es a b := ⟨i, .inl ha⟩
  obtain ⟨q, o, hx, hh⟩ := hR.at (T := T0) ha und22 sz55 .i64
  have la := load_of und3 rfl (hh 0 (.int .i64 (a : Int)) rfl)
  have lb := load_of und3 rfl (hh 1 (.int .i64 (b : Int)) rfl)
  rw [Nat.add_zero] at la
  have d1 := refHas_wp hp1 a hpl
  have d2 := refHas_wp hp1 b hpl
  refine wpK_block ?_
  cases hb : (TS ps).testBit a with
  | true =>
   rw [hb] at d1
   try simp only [wA]
   refine wpK_reg (fun R hR => by
     simp [h1, h2, h5, l1, hx, ix55_0, ix55_1, la, lb, undef, aEnter, fun33, sO, aCallV]; rw [cN]
     refine (d1).mono ?_
     rintro _ W9 ⟨e9, rfl⟩; subst W9
     simp [undef]; exact hR) ?_
   try simp only [wA]
   first | refine wpK_onF (by simp []) ?_ | refine wpK_out (by simp []) ?_ | refine wCF (by simp []) ?_ | refine wEF (by simp []) (wpK_skip ?_) | refine wEF (by simp []) ?_
   simp only [lN, bN]
   try simp only [wA]
   refine wpK_reg1 (fun R hR => by simp [h5]; exact hR) ?_
   exact hI (es.length - (i + 1)) _ _ (by omega) ⟨rfl, rfl, by simp [h1, h2], by simp [h1, h2], rfl, i + 1, by simp [i64_succ i (by omega)], rfl, by omega⟩
  | false =>
   have hb2 := (hc a b hj).resolve_left (by rw [hb]; simp)
   rw [hb] at d1
   rw [hb2] at d2
   try simp only [wA]
   refine wpK_reg (fun R hR9 => by
    simp [h1, h2, h5, l1, hx, ix55_0, ix55_1, la, lb, undef, aEnter, fun33, sO, aCallV]; rw [cN]
    refine d1.mono ?_
    rintro _ W9 ⟨e9, rfl⟩; subst W9
    simp [h1, h2, h5, l1, hx, ix55_0, ix55_1, la, lb, undef, aEnter, fun33, sO, aCallV]; rw [cN]
    refine d2.mono ?_
    rintro _ W9 ⟨e9, rfl⟩; subst W9
    simp [h1, h2, h5, l1, hx, ix55_0, ix55_1, la, lb, undef]; exact hR9) ?_
   try simp only [wA]
   first | refine wpK_onF (by simp []) ?_ | refine wpK_out (by simp []) ?_ | refine wCF (by simp []) ?_ | refine wEF (by simp []) (wpK_skip ?_) | refine wEF (by simp []) ?_
   simp only [lN, bN]
   try simp only [wA]
   refine wpK_reg1 (fun R hR => by simp [h5]; exact hR) ?_
   exact hI (es.length - (i + 1)) _ _ (by omega) ⟨rfl, rfl, by simp [h1, h2], by simp [h1, h2], rfl, i + 1, by simp [i64_succ i (by omega)], rfl, by omega⟩
 ·rintro A' W' hf; exact hf.elim
 rintro ⟨tm, n, ds⟩ Wz ⟨hn, hd, h1, h2, e2⟩
 simp only at hn hd h1 h2
 subst hn; subst hd
 subst Wz
 have hrs := refRising_wp (n : Int) v hp1 (by rw [List.length_map]; omega) (by rw [hv]; rfl)
 rw [decide_eq_true hr] at hrs
 try simp only [wA]
 refine wpK_x0 (fun R hR => by
   simp [h1, h2, l0, aEnter, fun65, sO, aCallV]; rw [cN]
   refine (hrs).mono ?_
   rintro _ W2 ⟨hE2, rfl⟩
   simp [h1, h2, l0]; exact hR W2 hE2) ?_
 rintro W2 hE2
 exact wpK_ret ⟨.inr rfl, rfl, [.bool true], by simp, hE1.trans hE2, rfl⟩
section
open Classical
variable {n : Nat} {xs : List Edge} {s : PS} {D A : Nat -> Prop} {cl : Nat -> Nat}
theorem bar_A (hn : n <= 40) (hg : GraphOk (n : Int) xs) (h : Great n (AjE xs) s D A cl n) {N : Nat} (hN : ∀ x, N.testBit x = true ↔ A x) : BarIs n xs (membL n N) (cnt2 (mateL n s.mt) n) := by
 have hNe : N = bitsOf A 40 := bits_eq fun r => by
  rw [hN, bitsOf_bit]
  exact ⟨fun g => ⟨by have := h.dn.alt g; omega, g⟩, fun g => g.2⟩
 subst hNe
 refine ⟨membL_rises _ _, ?_⟩
 have hS : Sof n (membL n (bitsOf A 40)) = fun r => r < n /\ ¬ A r := by
  funext r
  apply propext
  rw [membL_sof, bitsOf_bit]
  exact ⟨fun ⟨h1, h2⟩ => ⟨h1, fun ha => h2 ⟨by omega, ha⟩⟩, fun ⟨h1, h2⟩ => ⟨h1, fun ha => h2 ha.2⟩⟩
 have hst := berge_strong h.mat (aj_irr hg) AjE.symm hn h.dn h.all
 have hlA2 : (membL n (bitsOf A 40)).length <= (listOf A).length := by
  rw [membL_len]
  refine nodup_le (List.nodup_range.filter _) fun x hx => ?_
  have := membs_mem.1 hx
  exact listOf_mem.2 (bitsOf_bit.1 this.2)
 have hw := weak_len hn hg h.mat (membL n (bitsOf A 40))
 have hf := free_cnt hn hg h.mat
 rw [hS] at hw ⊢
 have hst2 : (freeN n s.mt : Int) + ((listOf A).length : Int) <= sumN 40 (rootF (AjE xs) fun r => r < n /\ ¬ A r) := by
  refine Int.le_trans ?_ hst
  unfold freeN
  omega
 omega
theorem great_mo (hn : n <= 40) (hg : GraphOk (n : Int) xs) (h : Great n (AjE xs) s D A cl n) : ∃ mo : Nat, cnt2 (mateL n s.mt) n = (mo : Int) /\ MostP n (AjE xs) (fun _ => true) mo := by
 have hf := free_cnt hn hg h.mat
 have hi := cnt2_in (mateL n s.mt) n
 obtain ⟨mo, hmo⟩ : ∃ mo : Nat, cnt2 (mateL n s.mt) n = (mo : Int) := ⟨(cnt2 (mateL n s.mt) n).toNat, by omega⟩
 exact ⟨mo, hmo, great_most hn (aj_irr hg) AjE.symm h (by omega)⟩
theorem match_most {W : AW} {v : Value} {n : Nat} {es : List Edge} (h : PairR W v es) (hl : es.length < 4611686018427387904) (hg : GraphOk (n : Int) es) (hT : tabsIn T0 T0.tabs W = true) (hN0 : 0 < W.next) :
  WpF T0 17 [.agg ⟨[.int .i64 (n : Int), v]⟩] W (fun u W' => Ext W W' /\ ∃ mv, u = .tuple ⟨[mv, .int .i64 0]⟩ /\ ∃ (mo : Nat) (l : List Int), IntN W' mv l /\ l.length = n /\ PairOk (n : Int) es l n /\ cnt2 l n = (mo : Int) /\ MostP n (AjE es) (fun _ => true) mo) := by
 have hn : n <= 40 := by have := hg.2.1; omega
 refine (match_ok h hl hg hT hN0).mono ?_
 rintro u W' ⟨h1, mv, s, D, A, cl, h2, h3, h4⟩
 obtain ⟨mo, m1, m2⟩ := great_mo hn hg h4
 exact ⟨h1, mv, h2, mo, mateL n s.mt, h3, mateL_len _ _, great_pairs hn h4.mat, m1, m2⟩
theorem barrier_most {W : AW} {v : Value} {n mo : Nat} {es : List Edge} (h : PairR W v es) (hl : es.length < 4611686018427387904) (hg : GraphOk (n : Int) es) (hT : tabsIn T0 T0.tabs W = true) (hN0 : 0 < W.next) (hmo : MostP n (AjE es) (fun _ => true) mo) :
  WpF T0 18 [.agg ⟨[.int .i64 (n : Int), v]⟩] W (fun u W' => Ext W W' /\ ∃ nv, u = .tuple ⟨[nv, .int .i64 0]⟩ /\ ∃ l : List Int, IntN W' nv l /\ l.length <= 40 /\ BarIs n es l (mo : Int)) := by
 have hn : n <= 40 := by have := hg.2.1; omega
 refine (barrier_ok h hl hg hT hN0).mono ?_
 rintro u W' ⟨h1, nv, h2, N, h3, s, D, A, cl, h4, h5⟩
 obtain ⟨m2, k1, k2⟩ := great_mo hn hg h4
 have := k2.one hmo
 subst m2
 refine ⟨h1, nv, h2, membL n N, h3, by rw [membL_len]; have := membs_len n N; omega, ?_⟩
 rw [<- k1]; exact bar_A hn hg h4 h5
structure PartsOk (n : Nat) (es : List Edge) (mo F N R : Nat) : Prop where
 f : ∀ a k, a < n -> MostP n (AjE es) (updB (fun _ => true) a false) k -> (k = mo ↔ F.testBit a = true)
 nx : ∀ a, a < n -> F.testBit a = false -> (N.testBit a = true ↔ ∃ y, y < n /\ F.testBit y = true /\ Jn es (a : Int) (y : Int))
 r : ∀ a, a < n -> (R.testBit a = true ↔ F.testBit a = false /\ N.testBit a = false)
 nf : ∀ a, F.testBit a = true -> N.testBit a = false
theorem divide_most {W : AW} {v : Value} {n mo : Nat} {es : List Edge} (h : PairR W v es) (hl : es.length < 4611686018427387904) (hg : GraphOk (n : Int) es) (hT : tabsIn T0 T0.tabs W = true) (hN0 : 0 < W.next) (hmo : MostP n (AjE es) (fun _ => true) mo) :
  WpF T0 19 [.agg ⟨[.int .i64 (n : Int), v]⟩] W (fun u W' => Ext W W' /\ ∃ fv nv rv, u = .tuple ⟨[.agg ⟨[fv, nv, rv]⟩, .int .i64 0]⟩ /\ ∃ (F N R : Nat), IntN W' fv (membL n F) /\ IntN W' nv (membL n N) /\ IntN W' rv (membL n R) /\ PartsOk n es mo F N R) := by
 have hn : n <= 40 := by have := hg.2.1; omega
 refine (divide_ok h hl hg hT hN0).mono ?_
 rintro u W' ⟨h1, fv, nv, rv, h2, F, N, R, r1, r2, r3, s, D, A, cl, hG, hF, hN, hR⟩
 have bf : ∀ {x y : Nat}, (x.testBit y = false) ↔ ¬ x.testBit y = true := fun {x y} => by cases x.testBit y <;> simp
 refine ⟨h1, fv, nv, rv, h2, F, N, R, r1, r2, r3, fun a k ha hk => ?_, fun a ha hfa => ?_, fun a ha => ?_, fun a ha => ?_⟩
 ·rw [hF]; exact great_free hn (aj_irr hg) AjE.symm hG hmo ha hk
 ·rw [hN]
  have hda : ¬ D a := fun g => by have := (hF a).2 g; rw [hfa] at this; cases this
  constructor
  ·intro g
   obtain ⟨q, q1, q2⟩ := hG.dn.adjA g
   exact ⟨q, hG.dn.dlt q1, (hF q).2 q1, AjE.symm _ _ q2⟩
  ·rintro ⟨y, y1, y2, y3⟩
   exact (hG.dn.clo ((hF y).1 y2) (AjE.symm _ _ y3) ha).resolve_left fun g => hda g.1
 ·rw [hR, bf, bf, hF, hN]
  exact ⟨fun g => g.2, fun g => ⟨ha, g⟩⟩
 ·rw [bf, hN]; exact hG.dn.dis ((hF a).1 ha)
end
open Classical in
theorem pairMatches_wp {W : AW} {v : Value} (P : Int) {es : List Edge} (h : PairR W v es) (hl : es.length < 9223372036854775808) (htb : tabsIn T0 T0.tabs W = true) (hW0 : 0 < W.next) :
  WpF T0 4 [.agg ⟨[.int .i64 P, v]⟩] W (fun u _ => u = .bool true) := by
 refine wpF fun4 rfl ?_
 obtain ⟨W1, hW1, hE1, hV⟩ : ∃ W1, W1 = W.newCells 24 [.int .i64 P, v] /\ Ext W W1 /\ Var W1 W.next 24 [.int .i64 P, v] := ⟨_, rfl, .newCells _ _ _, Var.new _ _ _⟩
 have hl1 := load24 hV
 try simp only [wA]
 refine wpK_reg (fun R hR => by simp [<- hW1]; exact hR) ?_
 try simp only [wA]
 refine wpK_x4 (P := fun (n : Nat) (ov : Value) (xs : List Edge) (p7 : Nat) W' => Ext W1 W' /\ 1 <= n /\ n <= 9 /\ GraphOk (n : Int) xs /\ xs.length <= 18 /\ PairR W' ov xs /\ Var W' p7 24 [.int .i64 (n : Int), ov]) (fun R hR => by
  simp [hl1, aEnter, fun23, sO, aCallV]; rw [cN]
  refine (tame9_wp P (h.ext hE1) hl).mono ?_
  rintro _ Wt ⟨hEt, n, ov, xs, rfl, q1, q2, q3, q4, q5⟩
  obtain ⟨Ao, co, hov⟩ := q5.len
  obtain ⟨Wu, g1, g2, g3, g4⟩ := storeVar_new (T := T0) (W := Wt) (t := 24) (v := .agg ⟨[.int .i64 (n : Int), ov]⟩) (z := [.int .i64 0, .slice none 0 0]) inf24 (by rw [is24]; rfl) (by rw [is24]; rfl) (by rw [hov]; rfl)
  obtain ⟨pn, hpn⟩ : ∃ p, Wt.next = p := ⟨_, rfl⟩
  rw [hpn] at g1 g4
  simp [zero24, hpn, g1]
  exact hR n ov xs pn Wu (And.intro (hEt.trans g3) (And.intro q1 (And.intro q2 (And.intro q3 (And.intro q4 (And.intro (q5.ext g3) (by simpa using g4)))))))) ?_
 rintro n ov xs p3 W2 ⟨hE2, hn1, hn9, hgr, hx18, hR2, hV3⟩
 have hl3 := load24 hV3
 obtain ⟨Ao, co, hov⟩ := hR2.len
 try simp only [wA]
 refine wpK_x1 (P := fun (p8 : Nat) W' => Ext W2 W' /\ Var W' p8 25 [.int .i64 (n : Int), ov]) (fun R hR => by
  simp [hl3, aEnter, fun13, sO, aCallV]; rw [cN]
  refine (give_wp (n : Int) hR2).mono ?_
  rintro _ Wt ⟨hEt, rfl⟩
  obtain ⟨Wu, g1, g2, g3, g4⟩ := storeVar_new (T := T0) (W := Wt) (t := 25) (v := .agg ⟨[.int .i64 (n : Int), ov]⟩) (z := [.int .i64 0, .slice none 0 0]) inf25 (by rw [is25]; rfl) (by rw [is25]; rfl) (by rw [hov]; rfl)
  obtain ⟨pn, hpn⟩ : ∃ p, Wt.next = p := ⟨_, rfl⟩
  rw [hpn] at g1 g4
  simp [zero25, hpn, g1]
  exact hR pn Wu (And.intro (hEt.trans g3) (by simpa using g4))) ?_
 rintro p4 W3 ⟨hE3, hV4⟩
 have hE03 := (hE1.trans hE2).trans hE3
 have n03 := hE03.1
 have hV33 := hV3.ext hE3
 have hR3 := hR2.ext hE3
 have ht3 := tabs_ext htb hW0 hE03
 -- what stands from here on
 have g24 : ∀ W', Ext W3 W' -> aLoadVar T0 W' 24 p3 0 = some (.agg ⟨[.int .i64 (n : Int), ov]⟩) := fun W' hE => load24 (hV33.ext hE)
 have g25 : ∀ W', Ext W3 W' -> aLoadVar T0 W' 25 p4 0 = some (.agg ⟨[.int .i64 (n : Int), ov]⟩) := fun W' hE => load25 (hV4.ext hE)
 have gT : ∀ {W'}, Ext W3 W' -> tabsIn T0 T0.tabs W' = true := fun {W'} hE => tabs_ext ht3 (by omega) hE
 have gN : ∀ {W'}, Ext W3 W' -> 0 < W'.next := fun {W'} hE => by have := hE.1; omega
 have gR : ∀ {W'}, Ext W3 W' -> PairR W' ov xs := fun {W'} hE => hR3.ext hE
 have hxl : xs.length < 4611686018427387904 := by omega
 have e33 : Ext W3 W3 := .refl _ _
 try simp only [wA]
 refine wpK_x1 (fun R hR => by
   simp [g25, e33, opExtract, aExtract, aEnter, fun17, sO, aCallV]; rw [cN]
   refine (match_most hR3 hxl hgr ht3 (gN e33)).mono ?_
   rintro _ W4 ⟨hE4, mv, rfl, mo, l, hI4, hll, hpo, hcn, hmo⟩
   simp [g25, e33, opExtract, aExtract]; exact hR mv W4 (And.intro hE4 (⟨mo, l, hI4, hll, hpo, hcn, hmo⟩ : ∃ (mo : Nat) (l : List Int), IntN W4 mv l /\ l.length = n /\ PairOk (n : Int) xs l n /\ cnt2 l n = (mo : Int) /\ MostP n (AjE xs) (fun _ => true) mo))) ?_
 rintro mv W4 ⟨hE4, (⟨mo, l, hI4, hll, hpo, hcn, hmo⟩ : ∃ (mo : Nat) (l : List Int), IntN W4 mv l /\ l.length = n /\ PairOk (n : Int) xs l n /\ cnt2 l n = (mo : Int) /\ MostP n (AjE xs) (fun _ => true) mo)⟩
 have e34 := hE4
 have hnn : n <= 40 := by omega
 have hmol := hmo.le
 try simp only [wA]
 refine wpK_x1 (fun R hR => by
   simp [g25, e34, opExtract, aExtract, aEnter, fun18, sO, aCallV]; rw [cN]
   refine (barrier_most (gR e34) hxl hgr (gT e34) (gN e34) hmo).mono ?_
   rintro _ W5 ⟨hE5, bv, rfl, bl, hIb, hbl, hbar⟩
   simp [g25, e34, opExtract, aExtract]; exact hR bv W5 (And.intro hE5 (⟨bl, hIb, hbl, hbar⟩ : ∃ bl : List Int, IntN W5 bv bl /\ bl.length <= 40 /\ BarIs n xs bl (mo : Int)))) ?_
 rintro bv W5 ⟨hE5, (⟨bl, hIb, hbl, hbar⟩ : ∃ bl : List Int, IntN W5 bv bl /\ bl.length <= 40 /\ BarIs n xs bl (mo : Int))⟩
 have e35 := e34.trans hE5
 try simp only [wA]
 refine wpK_x4 (P := fun (fv nv rv : Value) (p9 : Nat) W' => Ext W5 W' /\ Var W' p9 35 [fv, nv, rv] /\ ∃ F N R : Nat, IntN W' fv (membL n F) /\ IntN W' nv (membL n N) /\ IntN W' rv (membL n R) /\ PartsOk n xs mo F N R) (fun R9 hR9 => by
  simp [g25, e35, aEnter, fun19, sO, aCallV]; rw [cN]
  refine (divide_most (gR e35) hxl hgr (gT e35) (gN e35) hmo).mono ?_
  rintro _ W2 ⟨hE2, fv, nv, rv, rfl, F, N, R, r1, r2, r3, hPt⟩
  obtain ⟨A1, c1, e1⟩ := r1.len
  obtain ⟨A2, c2, e2⟩ := r2.len
  obtain ⟨A3, c3, e3⟩ := r3.len
  obtain ⟨W3, g1, g2, g3, g4⟩ := storeVar_new (T := T0) (W := W2) (t := 35) (v := .agg ⟨[fv, nv, rv]⟩) (z := [.slice none 0 0, .slice none 0 0, .slice none 0 0]) inf35 (by rw [is35]; rfl) (by rw [is35]; rfl) (by rw [e1, e2, e3]; rfl)
  obtain ⟨pn, hpn⟩ : ∃ p, W2.next = p := ⟨_, rfl⟩
  rw [hpn] at g1 g4
  simp [opExtract, aExtract, zero35, hpn, g1]
  exact hR9 fv nv rv pn W3 ⟨hE2.trans g3, by simpa using g4, F, N, R, r1.ext g3, r2.ext g3, r3.ext g3, hPt⟩) ?_
 rintro fv nv rv p9 W6 ⟨hE6, hV9, F, N, R, r1, r2, r3, hPt⟩
 have e36 := e35.trans hE6
 have vo := row_eq (gR e36)
 have e66 : Ext W6 W6 := .refl _ _
 try simp only [wA]
 refine wpK_d1 (wr := Tr.nil |>.set 39 0 |>.set 40 1 |>.set 41 2 |>.set 42 3 |>.set 11 4) (bits := Tr.nil.lay 0 [0, 0, 2, 7, 15]) (ord := [0, 1, 2, 3, 4]) (by kernel_rfl) (by kernel_rfl) (by kernel_rfl) (fun G hG => by
  simp [g24, e36, vo, aEnter, fun25, sO, aCallV]
  rw [dcallS_none]
  refine (refAll_wp (gR e36) hnn).mono ?_
  rintro _ Wa ⟨hEa, lb, rfl, hlb, hVl⟩
  simp [hEa.1, g24, e36, e36.trans hEa, vo, rowV_eq, aEnter, fun24, sO, aCallV]
  rw [dcallS_none]
  refine (refPairs_wp hgr hxl n Wa _ lb (2 * n) (gR (e36.trans hEa)) hVl (fun x hx => by omega)).mono ?_
  rintro _ Wb ⟨hEb, k, rfl, hk⟩
  have := hk.one hmo
  subst k
  simp [hEb.1, g24, e36, e36.trans hEa, vo, rowV_eq]
  exact hG lb Wb (hEa.trans hEb)) ?_
 rintro lb W7 hE7
 have e37 := e36.trans hE7
 refine wpK_keep (fun tm' => tm'.get 3 = some (.pointer (some ⟨p3, 0, none⟩)) /\ tm'.get 4 = some (.pointer (some ⟨p4, 0, none⟩)) /\ tm'.get 5 = some (mv) /\ tm'.get 6 = some (.int .i64 0) /\ tm'.get 7 = some (bv) /\ tm'.get 8 = some (.int .i64 0) /\ tm'.get 9 = some (.pointer (some ⟨p9, 0, none⟩)) /\ tm'.get 10 = some (.int .i64 0) /\ tm'.get 11 = some (.int .i64 (mo : Int))) (by simp) ?_
 rintro tm ⟨h3, h4, h5, h6, h7, h8, h9, h10, h11⟩
 have hIm := ((hI4.ext hE5).ext hE6).ext hE7
 have hpr : ∀ {kk : Int} {bb : Bool}, PairingIs (n : Int) xs l kk bb -> kk = (mo : Int) /\ bb = true := fun {kk bb} hP1 => by
  rcases hP1 with ⟨e1, e2, e3, e4⟩ | ⟨e1, e2, e3⟩
  ·exact ⟨by rw [e4, hll, hcn], e1⟩
  ·exact absurd ⟨by rw [hll], by rw [hll]; exact hpo⟩ e3
 try simp only [wA]
 refine wpK_x0 (fun R hR => by
   simp [h3, h5, g24, e37, opExtract, aExtract, aEnter, fun26, sO, aCallV]; rw [cN]
   refine ((refPairing_ok (gR e37) hxl hgr hIm (by omega)).mono (fun u W' hh => (⟨hh.1, let ⟨kk, bb, e1, e2⟩ := hh.2; by rw [e1, (hpr e2).1, (hpr e2).2]⟩ : Ext W7 W' /\ u = .tuple ⟨[.int .i64 (mo : Int), .bool true]⟩))).mono ?_
   rintro _ W8 ⟨hE8, rfl⟩
   simp [h3, h5, g24, e37, opExtract, aExtract]; exact hR W8 hE8) ?_
 rintro W8 hE8
 have e38 := e37.trans hE8
 try simp only [wA]
 refine wpK_x0 (fun R hR => by
   simp [h4, h5, g25, e38, opExtract, aExtract, aEnter, fun21, sO, aCallV]; rw [cN]
   refine ((isPairing_ok (gR e38) hxl hgr (hIm.ext hE8) (by omega)).mono (fun u W' hh => (⟨hh.1, let ⟨kk, bb, e1, e2⟩ := hh.2; by rw [e1, (hpr e2).1, (hpr e2).2]⟩ : Ext W8 W' /\ u = .tuple ⟨[.int .i64 (mo : Int), .bool true]⟩))).mono ?_
   rintro _ W9 ⟨hE9, rfl⟩
   simp [h4, h5, g25, e38, opExtract, aExtract]; exact hR W9 hE9) ?_
 rintro W9 hE9
 have e39 := e38.trans hE9
 have hIb9 := (((hIb.ext hE6).ext hE7).ext hE8).ext hE9
 refine wpK_keep (fun tm' => tm'.get 3 = some (.pointer (some ⟨p3, 0, none⟩)) /\ tm'.get 4 = some (.pointer (some ⟨p4, 0, none⟩)) /\ tm'.get 6 = some (.int .i64 0) /\ tm'.get 7 = some (bv) /\ tm'.get 8 = some (.int .i64 0) /\ tm'.get 9 = some (.pointer (some ⟨p9, 0, none⟩)) /\ tm'.get 10 = some (.int .i64 0) /\ tm'.get 11 = some (.int .i64 (mo : Int)) /\ tm'.get 12 = some (.int .i64 (mo : Int)) /\ tm'.get 13 = some (.bool true) /\ tm'.get 14 = some (.int .i64 (mo : Int)) /\ tm'.get 15 = some (.bool true)) (by simp [h3, h4, h6, h7, h8, h9, h10, h11]) ?_
 rintro tm ⟨h3, h4, h6, h7, h8, h9, h10, h11, h12, h13, h14, h15⟩
 try simp only [wA]
 refine wpK_x0 (P := fun W' => Ext W9 W') (fun R9 hR9 => by
  simp [h3, h4, h6, h7, h8, h10, h11, h12, h13, h14, h15, g24, e39, undef, aEnter, fun27, sO, aCallV]; rw [cN]
  refine (refBarrier_ok (gR e39) hxl hgr (by omega) hIb9 (by omega) (mo : Int)).mono ?_
  rintro _ Wa ⟨hEa, b3, rfl, hb3⟩
  obtain rfl : b3 = true := hb3.2 hbar
  simp [h3, h4, h6, h7, h8, h10, h11, h12, h13, h14, h15, g25, e39.trans hEa, undef, aEnter, fun22, sO, aCallV]; rw [cN]
  refine (isBarrier_ok (gR (e39.trans hEa)) hxl hgr (by omega) (hIb9.ext hEa) (by omega) (gT (e39.trans hEa)) (gN (e39.trans hEa)) (mo : Int)).mono ?_
  rintro _ Wb ⟨hEb, b4, rfl, hb4⟩
  obtain rfl : b4 = true := hb4.2 hbar
  simp [h3, h4, h6, h7, h8, h10, h11, h12, h13, h14, h15, undef]
  exact hR9 Wb (hEa.trans hEb)) ?_
 rintro W10 hE10
 have e310 := e39.trans hE10
 try simp only [wA]
 first | refine wpK_onF (by simp []) ?_ | refine wpK_out (by simp []) ?_ | refine wCF (by simp []) ?_ | refine wEF (by simp []) (wpK_skip ?_) | refine wEF (by simp []) ?_
 refine wpK_keep (fun tm' => tm'.get 3 = some (.pointer (some ⟨p3, 0, none⟩)) /\ tm'.get 4 = some (.pointer (some ⟨p4, 0, none⟩)) /\ tm'.get 9 = some (.pointer (some ⟨p9, 0, none⟩)) /\ tm'.get 11 = some (.int .i64 (mo : Int))) (by simp [h3, h4, h9, h11]) ?_
 rintro tm ⟨h3, h4, h9, h11⟩
 try simp only [wA]
 refine wpK_x4 (P := fun (fv nv rv : Value) (p16 : Nat) W' => Ext W10 W' /\ Var W' p16 50 [fv, nv, rv] /\ IntN W' fv (membL n F) /\ IntN W' nv (membL n N) /\ IntN W' rv (membL n R)) (fun R9 hR9 => by
  simp [h3, g24, e310, aEnter, fun28, sO, aCallV]; rw [cN]
  refine (refDivide_wp (gR e310) hxl hgr hmo hPt.f hPt.nx hPt.r hPt.nf).mono ?_
  rintro _ W2 ⟨hE2, fv, nv, rv, rfl, r1, r2, r3⟩
  obtain ⟨A1, c1, e1⟩ := r1.len
  obtain ⟨A2, c2, e2⟩ := r2.len
  obtain ⟨A3, c3, e3⟩ := r3.len
  obtain ⟨W3, g1, g2, g3, g4⟩ := storeVar_new (T := T0) (W := W2) (t := 50) (v := .agg ⟨[fv, nv, rv]⟩) (z := [.slice none 0 0, .slice none 0 0, .slice none 0 0]) inf50 (by rw [is50]; rfl) (by rw [is50]; rfl) (by rw [e1, e2, e3]; rfl)
  obtain ⟨pn, hpn⟩ : ∃ p, W2.next = p := ⟨_, rfl⟩
  rw [hpn] at g1 g4
  simp [zero50, hpn, g1]
  exact hR9 fv nv rv pn W3 ⟨hE2.trans g3, by simpa using g4, r1.ext g3, r2.ext g3, r3.ext g3⟩) ?_
 rintro fv2 nv2 rv2 p16 W11 ⟨hE11, hV16, s1, s2, s3⟩
 have e311 := e310.trans hE11
 have e611 : Ext W6 W11 := (((hE7.trans hE8).trans hE9).trans hE10).trans hE11
 have hV911 := hV9.ext e611
 have a0 := hV911.load1 (T := T0) und31 rfl (j := 0) (v := fv) rfl
 have a1 := hV911.load1 (T := T0) und31 rfl (j := 1) (v := nv) rfl
 have a2 := hV911.load1 (T := T0) und31 rfl (j := 2) (v := rv) rfl
 have b0 := hV16.load1 (T := T0) und31 rfl (j := 0) (v := fv2) rfl
 have b1 := hV16.load1 (T := T0) und31 rfl (j := 1) (v := nv2) rfl
 have b2 := hV16.load1 (T := T0) und31 rfl (j := 2) (v := rv2) rfl
 have ml : ∀ t, (membL n t).length < 9223372036854775808 := fun t => by rw [membL_len]; have := membs_len n t; omega
 have sm0 := same_wp (r1.ext e611) s1 (ml F) (ml F) rfl
 have sm1 := same_wp (r2.ext e611) s2 (ml N) (ml N) rfl
 have sm2 := same_wp (r3.ext e611) s3 (ml R) (ml R) rfl
 try simp only [wA]
 refine wpK_reg (fun R9 hR9 => by
  simp [h9, a0, a1, a2, b0, b1, b2, undef, aEnter, fun29, sO, aCallV]; rw [cN]
  refine sm0.mono ?_
  rintro _ W9 ⟨e9, rfl⟩; subst W9
  simp [h9, a0, a1, a2, b0, b1, b2, undef, aEnter, fun29, sO, aCallV]; rw [cN]
  refine sm1.mono ?_
  rintro _ W9 ⟨e9, rfl⟩; subst W9
  simp [h9, a0, a1, a2, b0, b1, b2, undef, aEnter, fun29, sO, aCallV]; rw [cN]
  refine sm2.mono ?_
  rintro _ W9 ⟨e9, rfl⟩; subst W9
  simp [h9, a0, a1, a2, b0, b1, b2, undef]; exact hR9) ?_
 try simp only [wA]
 first | refine wpK_onF (by simp []) ?_ | refine wpK_out (by simp []) ?_ | refine wCF (by simp []) ?_ | refine wEF (by simp []) (wpK_skip ?_) | refine wEF (by simp []) ?_
 refine wpK_keep (fun tm' => tm'.get 3 = some (.pointer (some ⟨p3, 0, none⟩)) /\ tm'.get 4 = some (.pointer (some ⟨p4, 0, none⟩)) /\ tm'.get 9 = some (.pointer (some ⟨p9, 0, none⟩)) /\ tm'.get 11 = some (.int .i64 (mo : Int))) (by simp [h3, h4, h9, h11]) ?_
 rintro tm ⟨h3, h4, h9, h11⟩
 try simp only [wA]
 refine wpK_x2 (fun R hR => by
   simp [h4, g25, e311, opExtract, aExtract, aEnter, fun20, sO, aCallV]; rw [cN]
   refine (cover_ok (gR e311) hxl hgr (gT e311) (gN e311)).mono ?_
   rintro _ W12 ⟨hE12, lv, ok, rfl, hok, hnil, hcov⟩
   simp [h4, g25, e311, opExtract, aExtract]; exact hR lv ok W12 (And.intro hE12 (And.intro hok (And.intro hnil hcov)))) ?_
 rintro lv ok W12 ⟨hE12, hok, hnil, hcov⟩
 have e312 := e311.trans hE12
 have hev := (refEven_wp (gR e312) hxl hgr).mono (Q' := fun u W' => Ext W12 W' /\ u = .bool ok) (fun u W' hh => ⟨hh.1, let ⟨b, e1, e2⟩ := hh.2; by
  rw [e1]
  have := e2.trans hok.symm
  cases b <;> cases ok <;> simp_all⟩)
 cases ok with
 | false =>
  have := hnil rfl
  subst this
  try simp only [wA]
  refine wpK_x0 (fun R hR => by
    simp [h3, g24, e312, undef, aGuard, aBinO, aEq, und4, aEnter, fun30, sO, aCallV]; rw [cN]
    refine (hev).mono ?_
    rintro _ W13 ⟨hE13, rfl⟩
    simp [undef, aGuard, aBinO, aEq, und4]; exact hR W13 hE13) ?_
  rintro W13 hE13
  try simp only [wA]
  first | refine wpK_onF (by simp []) ?_ | refine wpK_out (by simp []) ?_ | refine wCF (by simp []) ?_ | refine wEF (by simp []) (wpK_skip ?_) | refine wEF (by simp []) ?_
  have t13 := gT (e312.trans hE13)
  try simp only [wA]
  refine wpK_reg (fun R hR => by simp [h11, undef, aGuard, aBinO, aEq, und4, short_awake, t13, aEnter, aCallV, fun16]; exact hR) ?_
  exact wpK_ret ⟨.inr rfl, rfl, [.bool true], by simp, rfl⟩
 | true =>
  obtain ⟨T, hIT, hcv, hmT⟩ := hcov rfl
  have hTl := hmT.one hmo
  obtain ⟨Al, cl, hlv⟩ := hIT.len
  rw [membL_len, hTl] at hlv
  have ll : ∀ W', aLen T0 W' 31 lv = some (.int .i64 (mo : Int)) := fun W' => by rw [hlv]; exact len_slice und31 _ _ _
  try simp only [wA]
  refine wpK_x0 (fun R hR => by
    simp [h3, g24, e312, undef, aGuard, aBinO, aEq, und4, aEnter, fun30, sO, aCallV]; rw [cN]
    refine (hev).mono ?_
    rintro _ W13 ⟨hE13, rfl⟩
    simp [undef, aGuard, aBinO, aEq, und4]; exact hR W13 hE13) ?_
  rintro W13 hE13
  try simp only [wA]
  first | refine wpK_onF (by simp []) ?_ | refine wpK_out (by simp []) ?_ | refine wCF (by simp []) ?_ | refine wEF (by simp []) (wpK_skip ?_) | refine wEF (by simp []) ?_
  have e313 := e312.trans hE13
  have hcw := refCovers_wp (ps := membs n T) (gR e313) hxl hgr (hIT.ext hE13) (by have := membs_len n T; omega) (fun x y hj => by
   have := aj_lt hgr hj
   exact (hcv x y hj).imp (fun g => TS_membs.2 ⟨this.1, g⟩) (fun g => TS_membs.2 ⟨this.2, g⟩)) (membL_rises n T)
  try simp only [wA]
  refine wpK_x0 (P := fun W' => Ext W13 W') (fun R9 hR9 => by
   simp [h3, h11, ll, g24, e313, undef, aGuard, aBinO, aEq, und4, aEnter, fun31, sO, aCallV]; rw [cN]
   refine hcw.mono ?_
   rintro _ Wa ⟨hEa, rfl⟩
   have ta := gT (e313.trans hEa)
   simp [h3, h11, ll, undef, aGuard, aBinO, aEq, und4, short_awake, ta, aEnter, aCallV, fun16]
   exact hR9 Wa hEa) ?_
  rintro W14 hE14
  exact wpK_ret ⟨.inr rfl, rfl, [.bool true], by simp, rfl⟩
end Go.Proofs.YtdpnplanohgecaaDoor