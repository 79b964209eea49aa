import Derived.Test.YtdpnplanohgecaaDoorP39
import Derived.Test.YtdpnplanohgecaaDoorEngRe
set_option linter.unusedSimpArgs false
set_option linter.unusedVariables false
set_option linter.unusedSectionVars false
open Go Go.Eng
namespace Go.Proofs.YtdpnplanohgecaaDoor
attribute [local congr] undef_congr WpK.congr WpS.congr WpL.congr WpC.congr WpF.congr gotS.congr callS.congr nextS.congr wantS.congr condS.congr
attribute [local irreducible] WpK
attribute [local simp] WpDr_nil WpDr_cons atS_some dwantS_true dwantS_false kindS_light kindS_float kindS_heavy lightS_value floatS_some heavyS_value heavyS_skip heavyS_enter dcallS_some doneS_eq
 isLight isFloat isPlain dLook testBit_dec dChain dLights_nil dLights_skip dLights_one dLight_nil dLight_cons dFreshes_nil dFreshes_one oneF_none oneF_some dFresh_nil dFresh_cons oneL_some oneW_true oneW_false sameV_value dPut dMay valEq arrEq listEq List.getElem?_cons Tr.get_nil dEnd
attribute [local simp] WpS_nil WpS_cons isDefer undef_false wantS_true wantS_false nextS_value nextS_skip nextS_enter callS_some gotS_some aWanted aOp aEvalF aEval opMove opAssign opPick aVal flat flat1 AAct.put opBinOp opConvert opIndex Tr.get_set Tr.get_lay aBin aResults tupled
 aCall aVals aCallB blt_dec ble_dec beq_dec aBinI_add aBinI_sub aBinI_lss aBinI_leq aBinI_gtr aBinI_geq aBinI_eql aBinI_neq index_str len_str len_slice Nat.beq_refl Nat.beq_refl
 opBox opLoad opFieldAddr opIndexAddr acells aAddr opExtract aExtract opUnOp opAlloc opStore opMakeInterface opNilCheck opBuild aParts opBuildSlice aValW
attribute [local simp] und2 und3 und4 und5 und9 und12 field13_0 field13_1 und21 und22 field23_0 field23_1 field24_0 field24_1 field25_0 field25_1 und28 und31 field34_0 field34_1 field34_2 field35_0 field35_1 field35_2 und46 field50_0 field50_1 field50_2 und55 und56 und58 und61 und62 und73 und75 und90 und94 und95 und96 field97_0 field97_1 field97_2 field97_3 field97_4 field97_5 field97_6 field98_0 field98_1 field98_2 field98_3 field98_4 field98_5 field98_6 und99 und106 field107_0 field107_1 field108_0 field108_1 und119 und122 field124_0 field124_1 field124_2 field125_0 field125_1 field125_2 field131_0 field131_1 field132_0 field132_1 und133 field134_0 field134_1 field135_0 field135_1 und148 und156 und160
set_option maxHeartbeats 4000000
set_option linter.unusedSimpArgs false
set_option linter.unusedVariables false
theorem reach_wp {W : AW} {p w : Nat} {s : PS} {q : List Nat} {K : Nat -> Prop} {k : Nat} (hP : PairAt W p w s) (hq : GrowsN W s.ln q.length (natsV q) 3 1 K) (hK : ¬ K p) (hk : k < 40) (ho : s.ot < 1099511627776) (hl : q.length <= 1000) :
  WpF T0 87 [.pointer (some ⟨p, 0, none⟩), .int .i64 (k : Int)] W (fun _ W' => Only (fun x => x = p \/ K x) W W' /\ W.next + 2 <= W'.next /\ ∃ ln', PairAt W' p w { s with ot := s.ot ||| 1 <<< k, ln := ln' } /\ GrowsN W' ln' (q ++ [k]).length (natsV (q ++ [k])) 3 1 (fun b => K b \/ b = W.next + 1)) := by
 refine wpF fun87 rfl ?_
 have lo := ps_ot hP
 have h64 : (1 <<< k : Nat) < 18446744073709551616 := by rw [Nat.one_shiftLeft]; exact Nat.lt_trans (Nat.pow_lt_pow_right (by omega) hk) (by decide)
 have hor := aBinI_or .u64 s.ot (1 <<< k) (by show s.ot < 18446744073709551616; omega) h64
 obtain ⟨Wb, w1, w2, w3, w4⟩ := ps_setOt hP (s.ot ||| 1 <<< k)
 obtain ⟨o2, ho2⟩ : ∃ o2, o2 = s.ot ||| 1 <<< k := ⟨_, rfl⟩
 rw [<- ho2] at hor w1 w4 ⊢
 have nb := w3.1
 have ho1 := one_wp k (by omega) W
 generalize (1 <<< k : Nat) = k1 at hor ho1
 try simp only [zzA]
 refine wpK_dn (wr := Tr.nil |>.set 4 0 |>.set 5 1 |>.set 6 2 |>.set 7 3 |>.set 8 4 |>.set 9 5 |>.set 10 6 |>.set 11 7 |>.set 12 8) (bits := Tr.nil.lay 0 [0, 1, 3, 7, 0, 16, 63, 127, 255, 511]) (ord := [0, 1, 2, 3, 4, 5, 6, 7, 8, 9]) (by kernel_rfl) (by kernel_rfl) (by kernel_rfl) (fun G hG => by
  simp [lo, aEnter, fun68, zzC, aCallV]
  rw [dcallS_none]
  refine ho1.mono ?_
  rintro _ W9 ⟨e9, rfl⟩; subst W9
  simp [lo, hor, w1, nb]
  exact hG) ?_
 have ll := ps_ln w4
 simp only at ll
 have hqb := hq.only w3 (fun b _ hb hk2 => hK (by rw [<- hk2]; exact hb))
 obtain ⟨ln', Wc, k1', k2, k3, k4⟩ := grow_nat hqb (by omega) k
 have hPc := w4.only k4 hK
 obtain ⟨Wd, x1, x2, x3, x4⟩ := ps_setLn hPc ln' (by obtain ⟨A, c, e⟩ := k3.len; exact ⟨A, _, c, e⟩)
 try simp only [zzA]
 refine wpK_reg1 (fun R hR => by simp [ll, bs31, k1', x1]; exact hR) ?_
 refine ⟨.inl rfl, rfl, [], by rfl, ?_, by rw [x2, k2, w2]; exact Nat.le_refl _, ln', by simpa using x4, ?_⟩
 ·exact ((w3.mono (fun b _ e => .inl e)).trans (k4.mono (fun b _ hb => .inr hb))).trans (x3.mono (fun b _ e => .inl e))
 ·rw [w2] at k3
  refine k3.only x3 (fun b _ hb hk2 => ?_)
  rcases hb with hb | hb
  ·exact hK (by rw [<- hk2]; exact hb)
  ·have : p < W.next := hP.1
   omega
theorem Ch.nodup {mt fr : Nat -> Int} {r v : Nat} {L : List Nat} (hr : mt r = -1) (h : Ch mt fr r v L) : L.Nodup := by
 induction h with
 | root => simp
 | step e1 e2 h3 ih => exact List.nodup_cons.2 ⟨Ch.new hr (.step e1 e2 h3), ih⟩
def nextOf (mt : Nat -> Int) (c : Int) : List Nat -> Int
 | [] => c
 | v :: L => nextOf mt (mt v) L
theorem RevL.snoc {mt fr : Nat -> Int} : ∀ {L : List Nat} {c : Int} {v : Nat}, RevL mt fr c L -> fr v = nextOf mt c L -> RevL mt fr c (L ++ [v])
 | [], _, _, _, h => ⟨h, trivial⟩
 | _ :: _, _, _, h1, h2 => ⟨h1.1, RevL.snoc h1.2 h2⟩
theorem nextOf_snoc {mt : Nat -> Int} : ∀ {L : List Nat} {c : Int} {v : Nat}, nextOf mt c (L ++ [v]) = mt v
 | [], _, _ => rfl
 | _ :: L, _, _ => nextOf_snoc (L := L)
theorem RevL.cong {mt fr fr' : Nat -> Int} : ∀ {L : List Nat} {c : Int}, RevL mt fr c L -> (∀ x ∈ L, fr' x = fr x) -> RevL mt fr' c L
 | [], _, _, _ => trivial
 | x :: _, _, h1, h2 => ⟨by rw [h2 x List.mem_cons_self]; exact h1.1, RevL.cong h1.2 fun y hy => h2 y (List.mem_cons_of_mem _ hy)⟩
def PetL (mt : Nat -> Int) (base : Nat -> Nat) (VA : List Nat) (x : Nat) : Prop := ∃ v ∈ VA, x = base v \/ ∃ e : Nat, mt v = (e : Int) /\ x = base e
theorem petals_wp {n p w r t vp : Nat} {base : Nat -> Nat} {rest VA : List Nat} {a : Nat} {c : Int} (hn : n <= 40) {W : AW} {s : PS} (hP : PairAt W p w s) (hr : s.mt r = -1) (hc : Ch s.mt s.fr r a (VA ++ vp :: rest)) (hi : Ind s.mt (VA ++ vp :: rest)) (hlt : ∀ v ∈ VA ++ vp :: rest, v < n) (hml : ∀ v, v < n -> ∀ e : Nat, s.mt v = (e : Int) -> e < n)
  (hb : ∀ x, x < n -> s.bs x = (base x : Int)) (hbn : ∀ x, x < n -> base x < n) (ht : base vp = t) (hne : ∀ v ∈ VA, base v ≠ t) :
  WpF T0 93 [.pointer (some ⟨p, 0, none⟩), .int .i64 (a : Int), .int .i64 c, .int .i64 (t : Int)] W (fun u W' => Only (fun x => x = p) W W' /\ ∃ (U : Nat) (fr' : Nat -> Int), u = .int .u64 (U : Int) /\ PairAt W' p w { s with fr := fr' } /\ RevL s.mt fr' c VA /\ (∀ x, x ∉ VA -> fr' x = s.fr x) /\ (∀ x, U.testBit x = true ↔ PetL s.mt base VA x) /\ U < 1099511627776) := by
 refine wpF fun93 rfl ?_
 have hnd := hc.nodup hr
 try simp only [zzA]
 refine wpK_reg (fun R hR => by simp []; exact hR) ?_
 try simp only [zzA]
 refine wpK_reg (fun R hR => by simp []; exact hR) ?_
 refine wpK_keep (fun tm' => tm'.get 0 = some (.pointer (some ⟨p, 0, none⟩)) /\ tm'.get 1 = some (.int .i64 (a : Int)) /\ tm'.get 2 = some (.int .i64 c) /\ tm'.get 3 = some (.int .i64 (t : Int)) /\ tm'.get 9 = some (.int .u64 0)) (by simp) ?_
 rintro tm ⟨h0, h1, h2, h3, h9⟩
 have hlt0 := hlt
 try simp only [zzA]
 refine wpK_while (I := fun q A' W' => A'.n = 56 /\ A'.defers = [] /\ A'.tmps.get 0 = some (.pointer (some ⟨p, 0, none⟩)) /\ A'.tmps.get 3 = some (.int .i64 (t : Int)) /\ Only (fun x => x = p) W W' /\ ∃ (VD VR : List Nat) (pt U : Nat) (frc : Nat -> Int), VA = VD ++ VR /\ q = VR.length /\ A'.tmps.get 1 = some (.int .i64 (pt : Int)) /\ A'.tmps.get 2 = some (.int .i64 (nextOf s.mt c VD)) /\ A'.tmps.get 9 = some (.int .u64 (U : Int)) /\ PairAt W' p w { s with fr := frc } /\ Ch s.mt s.fr r pt (VR ++ vp :: rest) /\ RevL s.mt frc c VD /\ (∀ x, x ∉ VD -> frc x = s.fr x) /\ (∀ x, U.testBit x = true ↔ PetL s.mt base VD x))
  (J := fun A' W' => A'.n = 56 /\ A'.defers = [] /\ A'.tmps.get 0 = some (.pointer (some ⟨p, 0, none⟩)) /\ A'.tmps.get 3 = some (.int .i64 (t : Int)) /\ Only (fun x => x = p) W W' /\ ∃ (U : Nat) (frc : Nat -> Int), A'.tmps.get 9 = some (.int .u64 (U : Int)) /\ PairAt W' p w { s with fr := frc } /\ RevL s.mt frc c VA /\ (∀ x, x ∉ VA -> frc x = s.fr x) /\ (∀ x, U.testBit x = true ↔ PetL s.mt base VA x)) (Rt := fun _ _ => False) (k := VA.length) ?_ ?_ ?_ ?_
 ·exact ⟨rfl, rfl, by simp [h0, h3], by simp [h0, h3], .refl _ _, [], VA, a, 0, s.fr, rfl, rfl, by simp [h1], by simp [h2, nextOf], by simp [h9], hP, hc, trivial, fun x _ => rfl, fun x => by simp [PetL]⟩
 ·rintro q ⟨tm, n, ds⟩ Wa ⟨hn, hd, h0, h3, hOa, VD, VR, pt, U, frc, hVA, hq, h1, h2, h9, hPa, hch, hrev, hfo, hU⟩ Q' hJ hRt hI
  simp only at hn hd h0 h3
  subst hn; subst hd
  simp only at h1 h2 h9
  have hptm : pt ∈ VA ++ vp :: rest := by
   have := hch.mem
   rw [hVA, List.append_assoc]
   exact List.mem_append.2 (.inr this)
  have hptn := hlt pt hptm
  have lb := ps_bs hPa (j := pt) (by omega)
  simp only at lb
  rw [hb pt hptn] at lb
  have i1 := ix94 p 41 pt (by omega)
  cases hVR : VR with
  | nil =>
   rw [hVR] at hch hVA
   obtain ⟨M, hM⟩ := hch.head
   have hpv : vp = pt := (List.cons.inj hM).1
   have hbt : ((base pt : Nat) : Int) = (t : Int) := by rw [<- hpv, ht]
   rw [List.append_nil] at hVA
   rw [hbt] at lb
   try simp only [zzA]
   refine wpK_reg (fun R hR => by simp [h0, h1, h3, i1, lb]; exact hR) ?_
   try simp only [zzA]
   first | refine wpK_onF (by simp []) ?_ | refine wpK_out (by simp []) ?_ | refine zzF (by simp []) ?_ | refine zzB (by simp []) (wpK_skip ?_) | refine zzB (by simp []) ?_
   rw [<- hVA] at hrev hfo hU
   exact hJ _ _ ⟨rfl, rfl, by simp [h0, h3], by simp [h0, h3], hOa, U, frc, by simp [h9], hPa, hrev, hfo, hU⟩
  | cons v VR' =>
  subst hVR
  obtain ⟨M, hM⟩ := hch.head
  have hM' : v :: (VR' ++ vp :: rest) = pt :: M := hM
  have hvp : v = pt := (List.cons.inj hM').1
  subst hvp
  have hvA : v ∈ VA := by rw [hVA]; exact List.mem_append.2 (.inr List.mem_cons_self)
  have hbne : ¬ ((base v : Nat) : Int) = (t : Int) := by have := hne v hvA; omega
  have hbne' : ¬ base v = t := hne v hvA
  have hex : ∃ e w1 : Nat, s.mt v = (e : Int) /\ s.fr e = (w1 : Int) /\ Ch s.mt s.fr r w1 (VR' ++ vp :: rest) := by
   have hc' : Ch s.mt s.fr r v (v :: (VR' ++ vp :: rest)) := hch
   generalize hL : VR' ++ vp :: rest = L at hc'
   cases hc' with
   | root =>
    exfalso
    have := congrArg List.length hL
    simp at this
   | step e1 e2 h3 => exact ⟨_, _, e1, e2, h3⟩
  obtain ⟨e, w1, e1, e2, h3'⟩ := hex
  have hen := hml v hptn e e1
  try simp only [zzA]
  refine wpK_reg (fun R hR => by simp [h0, h1, h3, i1, lb, hbne, hbne']; exact hR) ?_
  try simp only [zzA]
  first | refine wpK_onT (by simp [hbne, hbne']) ?_ | refine wpK_outT (by simp [hbne, hbne']) ?_ | refine zzE (by simp [hbne, hbne']) ?_ | refine wpK_endT (by simp [hbne, hbne']) ?_
  have lm := ps_mt hPa (j := v) (by omega)
  simp only at lm
  rw [e1] at lm
  have lbe := ps_bs hPa (j := e) (by omega)
  simp only at lbe
  rw [hb e hen] at lbe
  have i2 := ix94 p 1 v (by omega)
  have i3 := ix94 p 41 e (by omega)
  have i4 := ix94 p 81 v (by omega)
  have i5 := ix94 p 81 e (by omega)
  have hb40 : base v < 40 := by have := hbn v hptn; omega
  have hbe40 : base e < 40 := by have := hbn e hen; omega
  have p64 : ∀ k, k < 40 -> (1 <<< k : Nat) < 1099511627776 := fun k hk => by rw [Nat.one_shiftLeft]; exact Nat.pow_lt_pow_right (by omega) hk
  have hU40 : U < 1099511627776 := lt40 fun x hx => by
   obtain ⟨u, hu, k⟩ := (hU x).1 hx
   have hun := hlt u (List.mem_append.2 (.inl (by rw [hVA]; exact List.mem_append.2 (.inl hu))))
   rcases k with k | ⟨e', k1, k2⟩
   ·have := hbn u hun; omega
   ·have := hbn e' (hml u hun e' k1); omega
  have o1 := one_wp (base v) (by omega) Wa
  have o2 := one_wp (base e) (by omega) Wa
  have q1 := p64 _ hb40
  have q2 := p64 _ hbe40
  have or1 := aBinI_or .u64 (1 <<< base v) (1 <<< base e) (by show (1 <<< base v : Nat) < 18446744073709551616; omega) (by show (1 <<< base e : Nat) < 18446744073709551616; omega)
  have q3 : (1 <<< base v ||| 1 <<< base e : Nat) < 1099511627776 := Nat.or_lt_two_pow (n := 40) q1 q2
  have or2 := aBinI_or .u64 U (1 <<< base v ||| 1 <<< base e) (by show U < 18446744073709551616; omega) (by show (1 <<< base v ||| 1 <<< base e : Nat) < 18446744073709551616; omega)
  have hbits : ∀ x, (U ||| (1 <<< base v ||| 1 <<< base e)).testBit x = true ↔ PetL s.mt base (VD ++ [v]) x := fun x => by
   rw [<- Nat.or_assoc, bit_add, bit_add]
   simp only [Bool.or_eq_true, decide_eq_true_eq]
   rw [hU]
   constructor
   ·rintro ((⟨u, hu, k⟩ | k) | k)
    ·exact ⟨u, List.mem_append.2 (.inl hu), k⟩
    ·exact ⟨v, List.mem_append.2 (.inr (List.mem_singleton.2 rfl)), .inl k⟩
    ·exact ⟨v, List.mem_append.2 (.inr (List.mem_singleton.2 rfl)), .inr ⟨e, e1, k⟩⟩
   ·rintro ⟨u, hu, k⟩
    rcases List.mem_append.1 hu with hu | hu
    ·exact .inl (.inl ⟨u, hu, k⟩)
    ·rw [List.mem_singleton.1 hu] at k
     rcases k with k | ⟨e', k1, k2⟩
     ·exact .inl (.inr k)
     ·have : e' = e := by omega
      subst this; exact .inr k2
  generalize U ||| (1 <<< base v ||| 1 <<< base e) = U2 at or2 hbits
  generalize (1 <<< base v ||| 1 <<< base e : Nat) = b12 at or1 or2 q3
  generalize (1 <<< base v : Nat) = b1 at o1 or1 q1
  generalize (1 <<< base e : Nat) = b2 at o2 or1 q2
  refine wpK_block1 ?_
  try simp only [zzA]
  refine wpK_reg (fun R hR => by simp [h0, h1, i2, lm]; exact hR) ?_
  try simp only [zzA]
  refine wpK_dn (wr := Tr.nil |>.set 25 0 |>.set 26 1 |>.set 27 2 |>.set 28 3 |>.set 29 4 |>.set 30 5 |>.set 31 6 |>.set 32 7 |>.set 33 8 |>.set 34 9 |>.set 35 10 |>.set 36 11 |>.set 37 12 |>.set 38 13 |>.set 39 14 |>.set 40 15 |>.set 41 16 |>.set 9 17) (bits := Tr.nil.lay 0 [0, 0, 0, 2, 10, 30, 62, 126, 0, 0, 256, 1280, 3840, 7936, 16382, 32766, 65535, 131071]) (ord := [0, 1, 2, 3, 4, 5, 6, 7, 8, 9, 10, 11, 12, 13, 14, 15, 16, 17]) (by kernel_rfl) (by kernel_rfl) (by kernel_rfl) (fun G hG => by
   simp [h0, h1, h9, i1, lb, aEnter, fun68, zzC, aCallV]
   rw [dcallS_none]
   refine o1.mono ?_
   rintro _ W9 ⟨e9, rfl⟩; subst W9
   simp [h0, h1, h9, i1, lb, i3, lbe, aEnter, fun68, zzC, aCallV]
   rw [dcallS_none]
   refine o2.mono ?_
   rintro _ W9 ⟨e9, rfl⟩; subst W9
   simp [h0, h1, h9, i1, lb, i3, lbe, or1, or2]
   exact hG) ?_
  obtain ⟨Wb, g1, g2, g3, g4⟩ := ps_setFr hPa (j := v) (by omega) (nextOf s.mt c VD)
  simp only at g4
  try simp only [zzA]
  refine wpK_reg (fun R hR => by simp [h0, h1, h2, i4, g1]; exact hR) ?_
  have hevA : e ∉ VD /\ e ≠ v := by
   refine ⟨fun hh => ?_, fun hh => ?_⟩
   ·exact hi v (List.mem_append.2 (.inl hvA)) e (List.mem_append.2 (.inl (by rw [hVA]; exact List.mem_append.2 (.inl hh)))) e1
   ·subst hh; exact hi e (List.mem_append.2 (.inl hvA)) e (List.mem_append.2 (.inl hvA)) e1
  have le := ps_fr g4 (j := e) (by omega)
  simp only at le
  rw [updI_ne _ _ hevA.2, hfo e hevA.1, e2] at le
  try simp only [zzA]
  refine wpK_reg1 (fun R hR => by simp [h0, i5, le]; exact hR) ?_
  simp only [zzH, zzG]
  have hvD : v ∉ VD := fun hh => by
   rw [hVA, List.append_assoc] at hnd
   exact (List.nodup_append.1 hnd).2.2 v hh v (by simp) rfl
  refine hI VR'.length _ _ (by rw [hq]; simp) ⟨rfl, rfl, by simp [h0, h3], by simp [h0, h3], hOa.trans g3, VD ++ [v], VR', w1, U2, updI frc v (nextOf s.mt c VD), by rw [hVA]; simp, rfl, by simp, by simp [nextOf_snoc, e1], by simp, g4, h3', ?_, fun x hx => ?_, hbits⟩
  ·refine RevL.snoc (hrev.cong fun x hx => updI_ne _ _ (fun hh => hvD (hh ▸ hx))) (updI_eq _ _ _)
  ·rw [List.mem_append, List.mem_singleton, not_or] at hx
   rw [updI_ne _ _ hx.2]; exact hfo x hx.1
 ·rintro A' W' hf; exact hf.elim
 rintro ⟨tm, n, ds⟩ W2 ⟨hn, hd, h0, h3, hO2, U, frc, h9, hP2, g1, g2, g3⟩
 simp only at hn hd h0 h3
 subst hn; subst hd
 simp only at h9
 have hU40 : U < 1099511627776 := lt40 fun x hx => by
  obtain ⟨u, hu, k⟩ := (g3 x).1 hx
  have hun := hlt0 u (List.mem_append.2 (.inl hu))
  rcases k with k | ⟨e', k1, k2⟩
  ·have := hbn u hun; omega
  ·have := hbn e' (hml u hun e' k1); omega
 try simp only [zzA]
 refine wpK_reg (fun R hR => by simp [h9]; exact hR) ?_
 exact wpK_ret ⟨.inr rfl, rfl, [.int .u64 (U : Int)], by simp, hO2, U, frc, rfl, hP2, g1, g2, g3, hU40⟩
section
variable {n : Nat} {J : Nat -> Nat -> Prop} {mt : Nat -> Int} {r : Nat} {out : Nat -> Prop} {base : Nat -> Nat} {fr : Nat -> Int}
theorem Srch.is_root (h : Srch n J mt r out base fr) {β : Nat} (hβ : out β) (e : mt β = -1) : β = r := by
 obtain ⟨L, hc, _⟩ := h.chain hβ
 cases hc with
 | root => rfl
 | step e1 _ _ => omega
theorem Srch.bs_root (h : Srch n J mt r out base fr) {x : Nat} : Bs mt fr r base r x ↔ x = r := by
 constructor
 ·rintro ⟨L, hc, y, hy, e⟩
  have := hc.one h.free .root
  subst this
  rw [List.mem_singleton.1 hy, h.rbase] at e; exact e.symm
 ·rintro rfl
  exact ⟨_, .root, x, List.mem_singleton.2 rfl, h.rbase⟩
theorem Srch.has_root (h : Srch n J mt r out base fr) {v : Nat} (hv : out v) : Bs mt fr r base v r := by
 obtain ⟨L, hc, _⟩ := h.chain hv
 have hroot : ∀ {w : Nat} {L : List Nat}, Ch mt fr r w L -> r ∈ L := by
  intro w L hc
  induction hc with
  | root => exact List.mem_singleton.2 rfl
  | step _ _ _ ih => exact List.mem_cons_of_mem _ ih
 exact ⟨L, hc, r, hroot hc, h.rbase⟩
theorem Srch.bs_next (h : Srch n J mt r out base fr) {β e w x : Nat} (hβ : out β) (hb : base β = β) (e1 : mt β = (e : Int)) (e2 : fr e = (w : Int)) : (Bs mt fr r base β x ↔ x = β \/ Bs mt fr r base (base w) x) /\ ¬ Bs mt fr r base (base w) β := by
 have hw := h.next hβ e1 e2
 have hiff : Bs mt fr r base β x ↔ x = β \/ Bs mt fr r base (base w) x := by
  rw [<- h.bs_base hw]
  constructor
  ·rintro ⟨L, hc, y, hy, ey⟩
   cases hc with
   | root => rw [List.mem_singleton.1 hy, hb] at ey; exact .inl ey.symm
   | step f1 f2 f3 =>
    have := Int.ofNat.inj (e1.symm.trans f1)
    subst this
    have := Int.ofNat.inj (e2.symm.trans f2)
    subst this
    rcases List.mem_cons.1 hy with g | g
    ·rw [g, hb] at ey; exact .inl ey.symm
    ·exact .inr ⟨_, f3, y, g, ey⟩
  ·rintro (g | ⟨L, hc, y, hy, ey⟩)
   ·have := h.self hβ
    rw [hb] at this; rw [g]; exact this
   ·exact ⟨_, .step e1 e2 hc, y, List.mem_cons_of_mem _ hy, ey⟩
 refine ⟨hiff, fun g => ?_⟩
 rw [<- h.bs_base hw] at g
 obtain ⟨L, hc, _⟩ := h.chain hw
 have hm := h.bs_mem hw hc g
 exact Ch.new h.free (.step e1 e2 hc) hm
end
theorem bases_wp {W : AW} (p k : Nat) : WpF T0 94 [.pointer (some ⟨p, 0, none⟩), .int .i64 (k : Int)] W (fun v W' => Ext W W' /\ v = .func (.func 95) ⟨[]⟩ ⟨[.pointer (some ⟨W.next, 0, none⟩), .pointer (some ⟨W.next + 1, 0, none⟩)]⟩ /\ W'.next = W.next + 2 /\ W'.Has W.next 0 (.pointer (some ⟨p, 0, none⟩)) /\ W'.Has (W.next + 1) 0 (.int .i64 (k : Int))) := by
 refine wpF fun94 rfl ?_
 obtain ⟨W1, hW1, hE1, hn1, hV1, hV2⟩ : ∃ W1, W1 = (W.newCells 99 [.pointer (some ⟨p, 0, none⟩)]).newCells 3 [.int .i64 (k : Int)] /\ Ext W W1 /\ W1.next = W.next + 2 /\ Var W1 W.next 99 [.pointer (some ⟨p, 0, none⟩)] /\ Var W1 (W.next + 1) 3 [.int .i64 (k : Int)] :=
  ⟨_, rfl, (Only.newCells _ _ _).trans (Only.newCells _ _ _), rfl, (Var.new _ _ _).ext (.newCells _ _ _), Var.new _ _ _⟩
 try simp only [zzA]
 refine wpK_reg (fun R hR => by simp [newCells_next, <- hW1]; exact hR) ?_
 try simp only [zzA]
 refine wpK_reg (fun R hR => by simp [opMakeFunc]; exact hR) ?_
 exact wpK_ret ⟨.inr rfl, rfl, [.func (.func 95) ⟨[]⟩ ⟨[.pointer (some ⟨W.next, 0, none⟩), .pointer (some ⟨W.next + 1, 0, none⟩)]⟩], by simp, hE1, rfl, hn1, hV1.has rfl, hV2.has rfl⟩
theorem bases1_wp {l b1 b2 p w r n : Nat} {J : Nat -> Nat -> Prop} {out : Nat -> Prop} {base : Nat -> Nat} {s : PS} (hn : n <= 40) (hs : Srch n J s.mt r out base s.fr) (hbs : ∀ x, x < n -> s.bs x = (base x : Int)) {C M : Nat -> AW -> Prop} {E D : AW -> Prop} {a : Nat} (ha : out a)
  (hM : ∀ β V, M β V -> PairAt V p w s /\ V.Has b1 0 (.pointer (some ⟨p, 0, none⟩)))
  (hE : ∀ β V, out β -> base β = β -> M β V -> s.mt β = -1 -> E V) (hN2 : ∀ (β : Nat) (V : AW) (e q : Nat), out β -> base β = β -> M β V -> s.mt β = (e : Int) -> s.fr e = (q : Int) -> C (base q) V)
  (hC : ∀ β V, out β -> base β = β -> C β V -> ∃ st pd fn t m ps asn bd df kin t', V.blocks.get l = some ⟨.loop st pd fn t m ps asn bd df, kin⟩ /\ aSetAll t m ps.toList [.int .i64 (β : Nat)] = some t' /\
   WpR T0 l fn t' m asn bd V (fun v W' => ∃ b : Bool, v = .bool b /\ (b = true -> M β W') /\ (b = false -> D W')))
  {W : AW} (h0 : C (base a) W) (hP : PairAt W p w s) (hb1 : W.Has b1 0 (.pointer (some ⟨p, 0, none⟩))) (hb2 : W.Has b2 0 (.int .i64 (a : Int))) :
  WpF T0 95 [.func (.yield l) #[] #[], .pointer (some ⟨b1, 0, none⟩), .pointer (some ⟨b2, 0, none⟩)] W (fun _ W' => E W' \/ D W') := by
 have han := hs.lt ha
 have q1 := load_of und99 rfl hb1
 have q2 := load_of und3 rfl hb2
 have q3 := ps_bs hP (j := a) (by omega)
 rw [hbs a han] at q3
 have i1 := ix94 p 41 a (by omega)
 refine wpF fun95 rfl ?_
 try simp only [zzA]
 refine wpK_dn (wr := Tr.nil |>.set 5 0 |>.set 6 1 |>.set 7 2 |>.set 8 3 |>.set 9 4 |>.set 10 5 |>.set 4 6) (bits := Tr.nil.lay 0 [0, 0, 1, 5, 15, 31, 63]) (ord := [0, 1, 2, 3, 4, 5, 6]) (by kernel_rfl) (by kernel_rfl) (by kernel_rfl) (fun G hG => by
  simp [q1, q2, q3, i1]
  exact hG) ?_
 obtain ⟨L0, hL0, -⟩ := hs.chain (hs.bout ha)
 try simp only [zzA]
 refine wpK_while1 (I := fun k A' W' => A'.n = 39 /\ A'.defers = [] /\ A'.tmps.get 0 = some (.func (.yield l) #[] #[]) /\ A'.tmps.get 1 = some (.pointer (some ⟨b1, 0, none⟩)) /\ ∃ (β : Nat) (L : List Nat), A'.tmps.get 4 = some (.int .i64 (β : Int)) /\ out β /\ base β = β /\ Ch s.mt s.fr r β L /\ k = L.length /\ C β W')
  (J := fun A' W' => A'.defers = [] /\ (E W' \/ D W')) (Rt := fun A' W' => False) (k := L0.length) ?_ ?_ ?_ ?_
 ·exact ⟨rfl, rfl, by simp, by simp, base a, L0, by simp, hs.bout ha, hs.bb ha, hL0, rfl, h0⟩
 ·rintro k ⟨tm, n, ds⟩ Wa ⟨hn, hd, h0, h1, β, L, h4, hβ, hbb, hch, hk, hCa⟩ Q' hJ hRt hI
  simp only at hn hd h0 h1
  subst hn; subst hd
  simp only at h4
  have hβn := hs.lt hβ
  obtain ⟨st, pd, fn, t', m', ps, asn, bd, df, kin, tt, hy1, hy2, hy3⟩ := hC β Wa hβ hbb hCa
  try simp only [zzA]
  refine wpK_regc (fun A' W' => A'.n = 39 /\ A'.defers = [] /\ A'.tmps.get 0 = some (.func (.yield l) #[] #[]) /\ A'.tmps.get 1 = some (.pointer (some ⟨b1, 0, none⟩)) /\ A'.tmps.get 4 = some (.int .i64 (β : Int)) /\ ∃ b : Bool, A'.tmps.get 22 = some (.bool b) /\ (b = true -> M β W' /\ s.mt β ≠ -1) /\ (b = false -> E W' \/ D W')) (fun R hR => by
   simp [h0, h4, aEnter, hy1, hy2, aCallV, nextS_round]
   refine hy3.mono ?_
   rintro _ W4 ⟨b, rfl, hM4, hD4⟩
   cases b with
   | false =>
    simp [undef]
    exact hR _ _ ⟨rfl, rfl, by simp [h0, h1], by simp [h0, h1], by simp [h4], false, by simp, (fun h => by cases h), fun _ => .inr (hD4 rfl)⟩
   | true =>
    obtain ⟨hP4, hb4⟩ := hM β W4 (hM4 rfl)
    have r1 := load_of und99 rfl hb4
    have r2 := ps_mt hP4 (j := β) (by omega)
    have i2 := ix94 p 1 β (by omega)
    by_cases hm : s.mt β = -1
    ·rw [hm] at r2
     simp [h1, h4, r1, r2, i2]
     exact hR _ _ ⟨rfl, rfl, by simp [h0, h1], by simp [h0, h1], by simp [h4], false, by simp, (fun h => by cases h), fun _ => .inl (hE β W4 hβ hbb (hM4 rfl) hm)⟩
    ·simp [h1, h4, r1, r2, i2, hm]
     exact hR _ _ ⟨rfl, rfl, by simp [h0, h1], by simp [h0, h1], by simp [h4], true, by simp, fun _ => ⟨hM4 rfl, hm⟩, (fun h => by cases h)⟩) ?_
  rintro ⟨tm, n, ds⟩ W4 ⟨hn, hd, h0, h1, h4, b, h22, hT, hF⟩
  simp only at hn hd h0 h1
  subst hn; subst hd
  simp only at h4 h22
  cases b with
  | false =>
   try simp only [zzA]
   first | refine wpK_onF (by simp [h22]) ?_ | refine wpK_out (by simp [h22]) ?_ | refine zzF (by simp [h22]) ?_ | refine zzB (by simp [h22]) (wpK_skip ?_) | refine zzB (by simp [h22]) ?_
   exact hJ _ _ ⟨rfl, hF rfl⟩
  | true =>
   obtain ⟨hM4, hm⟩ := hT rfl
   try simp only [zzA]
   first | refine wpK_onT (by simp [h22]) ?_ | refine wpK_outT (by simp [h22]) ?_ | refine zzE (by simp [h22]) ?_ | refine wpK_endT (by simp [h22]) ?_
   obtain ⟨hP4, hb4⟩ := hM β W4 hM4
   cases hch with
   | root => exact absurd hs.free hm
   | step e1 e2 h3 =>
    rename_i e q L1
    have hqo := hs.next hβ e1 e2
    have hen := hs.mat.lt hβn e1
    have hqn := hs.lt hqo
    have r1 := load_of und99 rfl hb4
    have r2 := ps_mt hP4 (j := β) (by omega)
    rw [e1] at r2
    have r3 := ps_fr hP4 (j := e) (by omega)
    rw [e2] at r3
    have r4 := ps_bs hP4 (j := q) (by omega)
    rw [hbs q hqn] at r4
    have i2 := ix94 p 1 β (by omega)
    have i3 := ix94 p 81 e (by omega)
    have i4 := ix94 p 41 q (by omega)
    refine wpK_block1 ?_
    try simp only [zzA]
    refine wpK_qn (wr := Tr.nil |>.set 23 0 |>.set 24 1 |>.set 25 2 |>.set 26 3 |>.set 27 4 |>.set 28 5 |>.set 29 6 |>.set 30 7 |>.set 31 8 |>.set 32 9 |>.set 33 10 |>.set 34 11 |>.set 35 12 |>.set 36 13 |>.set 37 14 |>.set 38 15 |>.set 4 16) (bits := Tr.nil.lay 0 [0, 0, 0, 0, 4, 20, 60, 124, 2, 258, 1022, 2046, 1, 4097, 16383, 32767, 65535]) (ord := [0, 1, 2, 3, 4, 5, 6, 7, 8, 9, 10, 11, 12, 13, 14, 15, 16]) (by kernel_rfl) (by kernel_rfl) (by kernel_rfl) (fun G hG => by
     simp [h1, h4, r1, r2, r3, r4, i2, i3, i4]
     exact hG) ?_
    simp only [zzH, zzG]
    obtain ⟨M2, m1, _, m3, _⟩ := h3.sub (hs.pass h3 hqo)
    exact hI M2.length _ _ (by rw [hk]; simp; omega) ⟨rfl, rfl, by simp [h0], by simp [h1], base q, M2, by simp, hs.bout hqo, hs.bb hqo, m1, rfl, hN2 β W4 e q hβ hbb hM4 e1 e2⟩
 ·rintro A' W' hf; exact hf.elim
 ·rintro A' W' ⟨h1, h2⟩
  exact ⟨.inl rfl, h1, [], by rfl, h2⟩
open Classical in
theorem meet_wp {p w r n : Nat} {J : Nat -> Nat -> Prop} {out : Nat -> Prop} {base : Nat -> Nat} {s : PS} (hn : n <= 40) (hs : Srch n J s.mt r out base s.fr) (hbs : ∀ x, x < n -> s.bs x = (base x : Int)) {W : AW} (hP : PairAt W p w s) {a b : Nat} (ha : out a) (hb : out b) :
  WpF T0 92 [.pointer (some ⟨p, 0, none⟩), .int .i64 (a : Int), .int .i64 (b : Int)] W (fun v W' => Ext W W' /\ ∃ t : Nat, v = .int .i64 (t : Int) /\ Bs s.mt s.fr r base a t /\ Bs s.mt s.fr r base b t /\ ∀ β, Bs s.mt s.fr r base a β -> Bs s.mt s.fr r base b β -> Bs s.mt s.fr r base t β) := by
 refine wpFd fun92 rfl ?_
 have hpW : p < W.next := hP.1
 obtain ⟨Bs', hBs'⟩ : ∃ X : Nat -> Nat -> Prop, X = Bs s.mt s.fr r base := ⟨_, rfl⟩
 obtain ⟨c6, hc6⟩ : ∃ c, c = W.next := ⟨_, rfl⟩
 obtain ⟨W1, hW1, hE1, hV6, hn1⟩ : ∃ W1, W1 = W.newCells 3 [.int .i64 0] /\ Ext W W1 /\ Var W1 c6 3 [.int .i64 0] /\ W1.next = W.next + 1 := ⟨_, rfl, .newCells _ _ _, by rw [hc6]; exact Var.new _ _ _, rfl⟩
 obtain ⟨W2, s1, s2, s3, s4⟩ := storeVar_new (T := T0) (W := W1) (t := 96) (z := [.int .u64 0]) (v := .int .u64 0) inf96 (by rw [is96]; rfl) (by rw [is96]; rfl) rfl
 have s4 : Var W2 W1.next 96 [.int .u64 0] := s4
 have n2 := s3.1
 try simp only [zzA]
 refine wpK_reg (fun R hR => by simp [zero3, <- hW1]; exact hR) ?_
 try simp only [zzA]
 refine wpK_reg (fun R hR => by simp [zero96, s1]; exact hR) ?_
 obtain ⟨c7, hc7⟩ : ∃ c, c = W1.next := ⟨_, rfl⟩
 rw [<- hc7] at s4
 try simp only [zzA]
 refine wpK_x0 (P := fun W3 => Ext W2 W3 /\ W3.next = W2.next + 2 /\ W3.Has W2.next 0 (.pointer (some ⟨p, 0, none⟩)) /\ W3.Has (W2.next + 1) 0 (.int .i64 (a : Int))) (fun R hR => by
  simp [aEnter, fun94, zzC, aCallV]; rw [zzD]
  refine (bases_wp p a).mono ?_
  rintro _ W3 ⟨hE3, rfl, hn3, k1, k2⟩
  simp; exact hR W3 (And.intro hE3 (And.intro hn3 (And.intro k1 k2)))) ?_
 rintro W3 ⟨hE3, hn3, k1, k2⟩
 refine wpK_keep (fun tm' => tm'.get 0 = some (.pointer (some ⟨p, 0, none⟩)) /\ tm'.get 2 = some (.int .i64 (b : Int)) /\ tm'.get 6 = some (.pointer (some ⟨c6, 0, none⟩)) /\ tm'.get 7 = some (.pointer (some ⟨c7, 0, none⟩)) /\ tm'.get 12 = some (.func (.func 95) ⟨[]⟩ ⟨[.pointer (some ⟨W2.next, 0, none⟩), .pointer (some ⟨W2.next + 1, 0, none⟩)]⟩)) ⟨by simp, by simp, by simp [hc6], by simp [hc7], by simp⟩ ?_
 rintro tm ⟨h0, h2, h6, h7, h12⟩
 have hbits40 : ∀ {met : Nat} {P : Nat -> Prop}, (∀ x, met.testBit x = true ↔ Bs' a x /\ P x) -> met < 1099511627776 := fun {met P} h => lt40 fun x hx => by
  have := ((h x).1 hx).1
  rw [hBs'] at this
  have := hs.lt (hs.bs_out ha this).1; omega
 refine wpK_then (wpK_range3 (f := 95) (first := ⟨[]⟩) (cap := ⟨[.pointer (some ⟨W2.next, 0, none⟩), .pointer (some ⟨W2.next + 1, 0, none⟩)]⟩) (by simp [h12]) fun95 (fun W5 hn5 hW5 hdf hlp => ?_))
 obtain ⟨z, hz⟩ : ∃ z, z = W3.next := ⟨_, rfl⟩
 rw [<- hz] at hn5 hdf hlp
 have hE35 : Ext W3 W5 := ⟨by omega, fun b hb _ => hW5 b hb⟩
 have hE25 := hE3.trans hE35
 have hE05 := (hE1.trans s3).trans hE25
 obtain ⟨S, hS⟩ : ∃ S : AW -> Prop, S = fun V => W5.next <= V.next /\ Only (fun b => W.next <= b) W V /\ Var V c6 3 [.int .i64 0] /\ V.Has W2.next 0 (.pointer (some ⟨p, 0, none⟩)) /\ V.blocks.get z = some ⟨.deferred (some []), []⟩ := ⟨_, rfl⟩
 have own : ∀ {V V' : AW} {K : Nat -> Prop}, S V -> Only K V V' -> (∀ b, K b -> b = c7 \/ b = z + 1 \/ W5.next <= b) -> S V' := by
  intro V V' K hV he hK
  rw [hS] at hV ⊢
  obtain ⟨o1, o2, o3, o4, o5⟩ := hV
  have hk : ∀ b, b ≠ c7 -> b ≠ z + 1 -> b < W5.next -> ¬ K b := fun b x1 x2 x3 x4 => by have := hK b x4; omega
  exact ⟨Nat.le_trans o1 he.1, o2.trans (he.mono (fun b _ hb => by have := hK b hb; omega)), o3.only he (hk _ (by omega) (by omega) (by omega)), o4.only he (hk _ (by omega) (by omega) (by omega)), by rw [he.2 z (by omega) (hk _ (by omega) (by omega) (by omega))]; exact o5⟩
 have own5 : S W5 := by
  rw [hS]
  exact ⟨Nat.le_refl _, Only.wide hE05, (hV6.ext s3).ext hE25, k1.ext hE35, hdf⟩
 have hPS : ∀ {V}, S V -> PairAt V p w s := fun {V} hV => by rw [hS] at hV; exact hP.only hV.2.1 (by omega)
 refine (bases1_wp (l := W3.next + 1) (b1 := W2.next) (b2 := W2.next + 1) hn hs hbs
  (C := fun β V => S V /\ V.blocks.get (z + 1) = W5.blocks.get (z + 1) /\ Bs' a β /\ ∃ met : Nat, Var V c7 96 [.int .u64 (met : Int)] /\ ∀ x, met.testBit x = true ↔ Bs' a x /\ ¬ Bs' β x)
  (M := fun β V => S V /\ V.blocks.get (z + 1) = W5.blocks.get (z + 1) /\ Bs' a β /\ ∃ met : Nat, Var V c7 96 [.int .u64 (met : Int)] /\ ∀ x, met.testBit x = true ↔ Bs' a x /\ (¬ Bs' β x \/ x = β))
  (E := fun V => S V /\ V.blocks.get (z + 1) = W5.blocks.get (z + 1) /\ ∃ met : Nat, Var V c7 96 [.int .u64 (met : Int)] /\ ∀ x, met.testBit x = true ↔ Bs' a x) (D := fun _ => False) ha ?_ ?_ ?_ ?_ ?_ (hPS own5) (k1.ext hE35) (k2.ext hE35)).mono ?_
 ·rintro β V ⟨d1, _⟩
  have d1' := d1; rw [hS] at d1'
  exact ⟨hPS d1, d1'.2.2.2.1⟩
 ·rintro β V hβ hbb ⟨d1, d2, d3, met, d4, d5⟩ hm
  have hβr := hs.is_root hβ hm
  refine ⟨d1, d2, met, d4, fun x => ?_⟩
  rw [d5, hBs']
  constructor
  ·exact fun h => h.1
  ·intro h
   refine ⟨h, ?_⟩
   by_cases e : x = β
   ·exact .inr e
   ·left; rw [hβr, hs.bs_root, <- hβr]; exact e
 ·rintro β V e q hβ hbb ⟨d1, d2, d3, met, d4, d5⟩ e1 e2
  have hqo := hs.next hβ e1 e2
  rw [hBs'] at d3 d5 ⊢
  have hnx := fun x => hs.bs_next (x := x) hβ hbb e1 e2
  refine ⟨d1, d2, hs.trans ha d3 (((hnx _).1).2 (.inr (by have := hs.self (hs.bout hqo); rw [hs.bb hqo] at this; exact this))), met, d4, fun x => ?_⟩
  rw [d5]
  constructor
  ·rintro ⟨g1, g2⟩
   refine ⟨g1, fun g3 => ?_⟩
   rcases g2 with g2 | g2
   ·exact g2 (((hnx x).1).2 (.inr g3))
   ·rw [g2] at g3; exact (hnx β).2 g3
  ·rintro ⟨g1, g2⟩
   refine ⟨g1, ?_⟩
   by_cases e : x = β
   ·exact .inr e
   ·exact .inl fun g3 => (((hnx x).1).1 g3).elim e g2
 ·rintro β V hβ hbb ⟨d1, d2, d3, met, d4, d5⟩
  have d1' := d1; rw [hS] at d1'
  obtain ⟨y1, y2, y3, y4, y5⟩ := d1'
  have hl' := d2.trans hlp
  rw [hz] at hl'
  have hβn := hs.lt hβ
  refine ⟨_, _, _, _, _, _, _, _, _, _, tm.set 13 (.int .i64 (β : Nat)), hl', rfl, ?_⟩
  refine wpR ?_
  try simp only [zzA]
  refine wpK_reg1 (fun R hR => by simp []; exact hR) ?_
  refine ⟨rfl, _, _, _, _, _, _, _, _, hl', ?_⟩
  rw [<- hz] at hl' ⊢
  generalize hbz : (AObj.loop LoopState.busy _ _ _ _ _ _ _ _) = bz
  obtain ⟨Vy, hVy, hOy, hny⟩ : ∃ Vy, Vy = V.setObj (z + 1) bz /\ Only (fun b => b = z + 1) V Vy /\ Vy.next = V.next := ⟨_, rfl, setObj_only _ _ _, rfl⟩
  rw [<- hVy]
  have hly : Vy.blocks.get (z + 1) = some ⟨bz, []⟩ := by rw [hVy, setObj_get, if_pos rfl]
  have own1 := own d1 hOy (fun b hb => .inr (.inl hb))
  have d4y := d4.only hOy (by omega)
  have e7 := d4y.load1 (T := T0) und96 rfl (j := 0) (v := .int .u64 (met : Int)) rfl
  have hm40 := hbits40 d5
  have h64 : (1 <<< β : Nat) < 18446744073709551616 := by rw [Nat.one_shiftLeft]; exact Nat.lt_trans (Nat.pow_lt_pow_right (by omega) (show β < 40 by omega)) (by decide)
  have hor := aBinI_or .u64 met (1 <<< β) (by show met < 18446744073709551616; omega) h64
  have hbit : ∀ x, (met ||| 1 <<< β).testBit x = true ↔ Bs' a x /\ (¬ Bs' β x \/ x = β) := fun x => by
   rw [bit_add, Bool.or_eq_true, d5, decide_eq_true_eq]
   constructor
   ·rintro (g | g)
    ·exact ⟨g.1, .inl g.2⟩
    ·rw [g]; exact ⟨d3, .inr rfl⟩
   ·rintro ⟨g1, g2 | g2⟩
    ·exact .inl ⟨g1, g2⟩
    ·exact .inr g2
  generalize met ||| 1 <<< β = met2 at hor hbit
  obtain ⟨Vz, w1, w2, w3, w4⟩ := var_store1 (t := 96) (v := .int .u64 (met2 : Int)) (o := 0) d4y inf96 is96 rfl rfl (by simp)
  have w4 : Var Vz c7 96 [.int .u64 (met2 : Int)] := by simpa using w4
  have nw := w3.1
  have ho1 := one_wp β (by omega) Vy
  generalize (1 <<< β : Nat) = k1' at hor ho1
  refine wpK_block1 ?_
  try simp only [zzA]
  refine wpK_qn (wr := Tr.nil |>.set 14 0 |>.set 15 1 |>.set 16 2 |>.set 17 3) (bits := Tr.nil.lay 0 [0, 0, 2, 7, 15]) (ord := [0, 1, 2, 3, 4]) (by kernel_rfl) (by kernel_rfl) (by kernel_rfl) (fun G hG => by
   simp [h7, e7, aEnter, fun68, zzC, aCallV]
   rw [dcallS_none]
   refine ho1.mono ?_
   rintro _ W9 ⟨e9, rfl⟩; subst W9
   simp [h7, e7, hor, w1, nw]
   exact hG) ?_
  simp only [zzH]
  have hlz : Vz.blocks.get (z + 1) = some ⟨bz, []⟩ := by rw [w3.2 (z + 1) (by omega) (by omega)]; exact hly
  have ownz := own own1 w3 (fun b hb => .inl hb)
  subst hbz
  have hset := setObj_only Vz (z + 1)
  exact ⟨_, _, _, _, _, _, _, _, _, hlz, true, rfl, fun _ => ⟨own ownz (hset _) (fun b hb => .inr (.inl hb)), by rw [setObj_get, if_pos rfl]; exact hlp.symm, d3, met2, w4.only (hset _) (by omega), hbit⟩, (fun h => by cases h)⟩
 ·refine ⟨own5, rfl, by rw [hBs']; exact hs.self ha, 0, s4.ext hE25, fun x => ?_⟩
  rw [hBs']
  simp only [Nat.zero_testBit]
  constructor
  ·intro h; cases h
  ·rintro ⟨h1, h2⟩; exact absurd ((hs.bs_base ha).1 h1) h2
 ·rintro _ W6 (⟨d1, d2, met, d4, d5⟩ | hf)
  case inr => exact hf.elim
  have hl6 := d2.trans hlp
  rw [hz] at hl6
  refine ⟨_, _, _, _, _, _, _, _, _, hl6, (fun h => by cases h), ?_⟩
  rw [<- hz]
  generalize hex : (AObj.loop LoopState.exhausted _ _ _ _ _ _ _ _) = ex
  obtain ⟨W7, hW7, hO7⟩ : ∃ W7, W7 = W6.setObj (z + 1) ex /\ Only (fun b => b = z + 1) W6 W7 := ⟨_, rfl, setObj_only _ _ _⟩
  rw [<- hW7]
  have own7 := own d1 hO7 (fun b hb => .inr (.inl hb))
  have d4w := d4.only hO7 (by omega)
  have n7 := hO7.1
  have hP7 := hPS own7
  rw [hS] at own7
  obtain ⟨u1, u2, u3, u4, u5⟩ := own7
  have hm40 : met < 1099511627776 := lt40 fun x hx => by
   have := (d5 x).1 hx
   rw [hBs'] at this
   have := hs.lt (hs.bs_out ha this).1; omega
  simp only [goOn, zzH, zzG]
  clear own own5 hPS
  try simp only [zzA]
  refine wpK_x0 (P := fun W8 => Ext W7 W8 /\ W8.next = W7.next + 2 /\ W8.Has W7.next 0 (.pointer (some ⟨p, 0, none⟩)) /\ W8.Has (W7.next + 1) 0 (.int .i64 (b : Int))) (fun R hR => by
   simp [h0, h2, aEnter, fun94, zzC, aCallV]; rw [zzD]
   refine (bases_wp p b).mono ?_
   rintro _ W3 ⟨hE3, rfl, hn3, k1, k2⟩
   simp; exact hR W3 (And.intro hE3 (And.intro hn3 (And.intro k1 k2)))) ?_
  rintro W8 ⟨hE8, hn8, j1, j2⟩
  refine wpK_keep (fun tm' => tm'.get 6 = some (.pointer (some ⟨c6, 0, none⟩)) /\ tm'.get 7 = some (.pointer (some ⟨c7, 0, none⟩)) /\ tm'.get 20 = some (.func (.func 95) ⟨[]⟩ ⟨[.pointer (some ⟨W7.next, 0, none⟩), .pointer (some ⟨W7.next + 1, 0, none⟩)]⟩)) ⟨by simp [h6], by simp [h7], by simp⟩ ?_
  rintro tm ⟨h6, h7, h20⟩
  refine wpK_then (wpK_range3 (f := 95) (first := ⟨[]⟩) (cap := ⟨[.pointer (some ⟨W7.next, 0, none⟩), .pointer (some ⟨W7.next + 1, 0, none⟩)]⟩) (by simp [h20]) fun95 (fun X5 hm5 hX5 hdf2 hlp2 => ?_))
  obtain ⟨y, hy⟩ : ∃ y, y = W8.next := ⟨_, rfl⟩
  rw [<- hy] at hm5 hdf2 hlp2
  have hF35 : Ext W8 X5 := ⟨by omega, fun b hb _ => hX5 b hb⟩
  have hF25 := hE8.trans hF35
  have n5' := u2.1
  obtain ⟨S2, hS2⟩ : ∃ S : AW -> Prop, S = fun V => X5.next <= V.next /\ Only (fun b => W.next <= b) W V /\ Var V c7 96 [.int .u64 (met : Int)] /\ V.Has W7.next 0 (.pointer (some ⟨p, 0, none⟩)) /\ V.blocks.get z = some ⟨.deferred (some []), []⟩ /\ V.blocks.get y = some ⟨.deferred (some []), []⟩ := ⟨_, rfl⟩
  have own : ∀ {V V' : AW} {K : Nat -> Prop}, S2 V -> Only K V V' -> (∀ b, K b -> b = c6 \/ b = y + 1 \/ X5.next <= b) -> S2 V' := by
   intro V V' K hV he hK
   rw [hS2] at hV ⊢
   obtain ⟨o1, o2, o3, o4, o5, o6⟩ := hV
   have hk : ∀ b, b ≠ c6 -> b ≠ y + 1 -> b < X5.next -> ¬ K b := fun b x1 x2 x3 x4 => by have := hK b x4; omega
   exact ⟨Nat.le_trans o1 he.1, o2.trans (he.mono (fun b _ hb => by have := hK b hb; omega)), o3.only he (hk _ (by omega) (by omega) (by omega)), o4.only he (hk _ (by omega) (by omega) (by omega)), by rw [he.2 z (by omega) (hk _ (by omega) (by omega) (by omega))]; exact o5, by rw [he.2 y (by omega) (hk _ (by omega) (by omega) (by omega))]; exact o6⟩
  have own5 : S2 X5 := by
   rw [hS2]
   exact ⟨Nat.le_refl _, u2.trans (Only.wide hF25), d4w.ext hF25, j1.ext hF35, by rw [hF25.2 z (by omega) (fun x => x)]; exact u5, hdf2⟩
  have hPS : ∀ {V}, S2 V -> PairAt V p w s := fun {V} hV => by rw [hS2] at hV; exact hP.only hV.2.1 (by omega)
  refine (bases1_wp (l := W8.next + 1) (b1 := W7.next) (b2 := W7.next + 1) hn hs hbs
   (C := fun β V => S2 V /\ V.blocks.get (y + 1) = X5.blocks.get (y + 1) /\ Var V c6 3 [.int .i64 0] /\ Bs' b β /\ ∀ γ, Bs' b γ -> Bs' a γ -> Bs' β γ)
   (M := fun β V => S2 V /\ V.blocks.get (y + 1) = X5.blocks.get (y + 1) /\ Var V c6 3 [.int .i64 0] /\ Bs' b β /\ (∀ γ, Bs' b γ -> Bs' a γ -> Bs' β γ) /\ ¬ Bs' a β)
   (E := fun _ => False) (D := fun V => S2 V /\ (∃ fn t n ps asn bd df, V.blocks.get (y + 1) = some ⟨.loop .done (some .ret) fn t n ps asn bd df, []⟩) /\ ∃ t : Nat, Var V c6 3 [.int .i64 (t : Int)] /\ Bs' a t /\ Bs' b t /\ ∀ γ, Bs' b γ -> Bs' a γ -> Bs' t γ) hb ?_ ?_ ?_ ?_ ?_ (hPS own5) (j1.ext hF35) (j2.ext hF35)).mono ?_
  ·rintro β V ⟨d1, _⟩
   have d1' := d1; rw [hS2] at d1'
   exact ⟨hPS d1, d1'.2.2.2.1⟩
  ·rintro β V hβ hbb ⟨d1, d2, d3, d4, d5, d6⟩ hm
   have hβr := hs.is_root hβ hm
   apply d6
   rw [hBs', hβr]; exact hs.has_root ha
  ·rintro β V e q hβ hbb ⟨d1, d2, d3, d4, d5, d6⟩ e1 e2
   have hqo := hs.next hβ e1 e2
   rw [hBs'] at d4 d5 d6 ⊢
   have hnx := fun x => hs.bs_next (x := x) hβ hbb e1 e2
   refine ⟨d1, d2, d3, hs.trans hb d4 (((hnx _).1).2 (.inr (by have := hs.self (hs.bout hqo); rw [hs.bb hqo] at this; exact this))), fun γ g1 g2 => ?_⟩
   rcases ((hnx γ).1).1 (d5 γ g1 g2) with g | g
   ·rw [g] at g2; exact absurd g2 d6
   ·exact g
  ·rintro β V hβ hbb ⟨d1, d2, d3, d4, d6⟩
   have d1' := d1; rw [hS2] at d1'
   obtain ⟨y1, y2, y3, y4, y5, y6⟩ := d1'
   have hl' := d2.trans hlp2
   rw [hy] at hl'
   have hβn := hs.lt hβ
   refine ⟨_, _, _, _, _, _, _, _, _, _, tm.set 21 (.int .i64 (β : Nat)), hl', rfl, ?_⟩
   refine wpR ?_
   try simp only [zzA]
   refine wpK_reg1 (fun R hR => by simp []; exact hR) ?_
   refine ⟨rfl, _, _, _, _, _, _, _, _, hl', ?_⟩
   rw [<- hy] at hl' ⊢
   generalize hbz : (AObj.loop LoopState.busy _ _ _ _ _ _ _ _) = bz
   obtain ⟨Vy, hVy, hOy, hny⟩ : ∃ Vy, Vy = V.setObj (y + 1) bz /\ Only (fun b => b = y + 1) V Vy /\ Vy.next = V.next := ⟨_, rfl, setObj_only _ _ _, rfl⟩
   rw [<- hVy]
   have hly : Vy.blocks.get (y + 1) = some ⟨bz, []⟩ := by rw [hVy, setObj_get, if_pos rfl]
   have own1 := own d1 hOy (fun b hb => .inr (.inl hb))
   have d3y := d3.only hOy (by omega)
   have d1y := own1; rw [hS2] at d1y
   obtain ⟨v1, v2, v3, v4, v5, v6⟩ := d1y
   have e7 := v3.load1 (T := T0) und96 rfl (j := 0) (v := .int .u64 (met : Int)) rfl
   refine wpK_block1 ?_
   by_cases hc : Bs' a β
   ·have hbit : met.testBit β = true := (d5 β).2 hc
    try simp only [zzA]
    refine wpK_reg (fun R hR => by
      simp [h7, e7, aEnter, fun60, zzC, aCallV]; rw [zzD]
      refine (has_is hbit (by omega) (by omega) _).mono ?_
      rintro _ W9 ⟨e9, rfl⟩; subst W9
      simp [h7, e7]; exact hR) ?_
    try simp only [zzA]
    first | refine wpK_onT (by simp []) ?_ | refine wpK_outT (by simp []) ?_ | refine zzE (by simp []) ?_ | refine wpK_endT (by simp []) ?_
    obtain ⟨Vz, w1, w2, w3, w4⟩ := var_store1 (t := 3) (v := .int .i64 (β : Int)) (o := 0) d3y inf3 is3 rfl rfl (by simp)
    have w4 : Var Vz c6 3 [.int .i64 (β : Int)] := by simpa using w4
    try simp only [zzA]
    refine wpK_reg (fun R hR => by simp [h6, w1]; exact hR) ?_
    refine wpK_ret ?_
    simp only [leaves_ret]
    have hlz : Vz.blocks.get (y + 1) = some ⟨bz, []⟩ := by rw [w3.2 (y + 1) (by omega) (by omega)]; exact hly
    have ownz := own own1 w3 (fun b hb => .inl hb)
    subst hbz
    have hset := setObj_only Vz (y + 1)
    exact ⟨_, _, _, _, _, _, _, _, _, hlz, false, rfl, (fun h => by cases h), fun _ => ⟨own ownz (hset _) (fun b hb => .inr (.inl hb)), ⟨_, _, _, _, _, _, _, (by rw [setObj_get, if_pos rfl]; rfl)⟩, β, w4.only (hset _) (by omega), hc, d4, d6⟩⟩
   ·have hbit : met.testBit β = false := by
     cases e : met.testBit β with
     | false => rfl
     | true => exact absurd ((d5 β).1 e) hc
    try simp only [zzA]
    refine wpK_reg (fun R hR => by
      simp [h7, e7, aEnter, fun60, zzC, aCallV]; rw [zzD]
      refine (has_is hbit (by omega) (by omega) _).mono ?_
      rintro _ W9 ⟨e9, rfl⟩; subst W9
      simp [h7, e7]; exact hR) ?_
    try simp only [zzA]
    first | refine wpK_onF (by simp []) ?_ | refine wpK_out (by simp []) ?_ | refine zzF (by simp []) ?_ | refine zzB (by simp []) (wpK_skip ?_) | refine zzB (by simp []) ?_
    simp only [zzH]
    subst hbz
    have hset := setObj_only Vy (y + 1)
    exact ⟨_, _, _, _, _, _, _, _, _, hly, true, rfl, fun _ => ⟨own own1 (hset _) (fun b hb => .inr (.inl hb)), by rw [setObj_get, if_pos rfl]; exact hlp2.symm, d3y.only (hset _) (by omega), d4, d6, hc⟩, (fun h => by cases h)⟩
  ·refine ⟨own5, rfl, u3.ext hF25, by rw [hBs']; exact hs.self hb, fun γ g1 _ => ?_⟩
   rw [hBs'] at g1 ⊢
   rw [<- hs.bs_base hb]; exact g1
  ·rintro _ X6 (hf | ⟨d1, ⟨_, _, _, _, _, _, _, d2⟩, t, d3, t1, t2, t3⟩)
   ·exact hf.elim
   ·rw [hy] at d2
    refine ⟨_, _, _, _, _, _, _, _, _, d2, (fun h => by cases h), ?_⟩
    rw [<- hy]
    generalize hex2 : (AObj.loop LoopState.exhausted _ _ _ _ _ _ _ _) = ex2
    obtain ⟨X7, hX7, hO7'⟩ : ∃ X7, X7 = X6.setObj (y + 1) ex2 /\ Only (fun b => b = y + 1) X6 X7 := ⟨_, rfl, setObj_only _ _ _⟩
    rw [<- hX7]
    have own7 := own d1 hO7' (fun b hb => .inr (.inl hb))
    have d3w := d3.only hO7' (by omega)
    rw [hS2] at own7
    obtain ⟨v1, v2, v3, v4, v5, v6⟩ := own7
    simp only [goOn, leaves_ret, behind_ret]
    have hMk : Marks c6 [{ target := .collected y, args := #[] }, { target := .collected z, args := #[] }] X7 := ⟨y, rfl, by omega, by omega, v6, fun d hd e => by
     rw [List.mem_singleton] at hd; subst hd
     have : z = y := by injection e
     omega, z, rfl, by omega, by omega, v5, fun d hd => by simp at hd, trivial⟩
    obtain ⟨X8, c1, c2⟩ := hMk.collects2
    have hkc : ∀ b, (∃ d ∈ [({ target := .collected y, args := #[] } : Deferred), { target := .collected z, args := #[] }], d.target = .collected b) -> b = y \/ b = z := fun b ⟨d, hd, e⟩ => by
     rcases List.mem_cons.1 hd with g | g
     ·subst g; left; injection e with e; exact e.symm
     ·rw [List.mem_singleton] at g; subst g; right; injection e with e; exact e.symm
    have d3x := d3w.only c2 (fun hk => by have := hkc _ hk; omega)
    have l8 := d3x.load1 (T := T0) und3 rfl (j := 0) (v := .int .i64 (t : Int)) rfl
    rw [hBs'] at t1 t2 t3
    refine ⟨by simp, X8, c1, [.int .i64 (t : Int)], by simp [h6, l8], ⟨by have := v2.1; have := c2.1; omega, fun b hb hk => ?_⟩, t, rfl, t1, t2, fun β g1 g2 => t3 β g2 g1⟩
    rw [c2.2 b (by have := v2.1; omega) (fun hk => by have := hkc _ hk; omega), v2.2 b hb (by omega)]
open Classical in
theorem first_of {P : Nat -> Prop} : ∀ {L : List Nat}, (∃ y ∈ L, P y) -> ∃ A y B, L = A ++ y :: B /\ P y /\ ∀ x ∈ A, ¬ P x
 | [], h => by obtain ⟨y, hy, _⟩ := h; cases hy
 | x :: L, h => by
  by_cases hx : P x
  ·exact ⟨[], x, L, rfl, hx, fun y hy => by cases hy⟩
  ·obtain ⟨y, hy, hP⟩ := h
   have hy' : y ∈ L := by
    rcases List.mem_cons.1 hy with e | e
    ·subst e; exact absurd hP hx
    ·exact e
   obtain ⟨A, z, B, e, h1, h2⟩ := first_of ⟨y, hy', hP⟩
   exact ⟨x :: A, z, B, by rw [e]; rfl, h1, fun u hu => by
    rcases List.mem_cons.1 hu with e | e
    ·subst e; exact hx
    ·exact h2 u e⟩
theorem Bs.cut {mt fr : Nat -> Int} {r a t : Nat} {base : Nat -> Nat} (h : Bs mt fr r base a t) : ∃ VA vp rest, Ch mt fr r a (VA ++ vp :: rest) /\ base vp = t /\ ∀ v ∈ VA, base v ≠ t := by
 obtain ⟨L, h1, h2⟩ := h
 obtain ⟨A, y, B, e, h3, h4⟩ := first_of h2
 subst e
 exact ⟨A, y, B, h1, h3, h4⟩
theorem Srch.base_lt {n r : Nat} {J : Nat -> Nat -> Prop} {mt fr : Nat -> Int} {out : Nat -> Prop} {base : Nat -> Nat} (h : Srch n J mt r out base fr) {x : Nat} (hx : x < n) : base x < n := by
 by_cases ho : out x
 ·exact h.lt (h.bout ho)
 ·rw [h.bnot hx ho]; exact hx
theorem Srch.ind {n r : Nat} {J : Nat -> Nat -> Prop} {mt fr : Nat -> Int} {out : Nat -> Prop} {base : Nat -> Nat} (h : Srch n J mt r out base fr) {v : Nat} {L : List Nat} (ho : out v) (hc : Ch mt fr r v L) : Ind mt L := by
 obtain ⟨M, h1, h2⟩ := h.chain ho
 rw [hc.one h.free h1]; exact h2
theorem Shrunk.of {n r : Nat} {J : Nat -> Nat -> Prop} {mt fr fr1 fr2 : Nat -> Int} {out out' : Nat -> Prop} {base base' : Nat -> Nat} {a b t : Nat} {VA VB : List Nat} {vpA vpB : Nat} {reA reB : List Nat} {U : Nat}
  (hs : Srch n J mt r out base fr) (ha : out a) (hb : out b) (hsy : ∀ x y, J x y -> J y x) (hJ : J a b) (ta : Bs mt fr r base a t) (tb : Bs mt fr r base b t) (tm : ∀ β, Bs mt fr r base a β -> Bs mt fr r base b β -> Bs mt fr r base t β)
  (hA : Ch mt fr r a (VA ++ vpA :: reA)) (hA2 : base vpA = t) (hA3 : ∀ v ∈ VA, base v ≠ t) (hA4 : RevL mt fr1 (b : Int) VA) (hA5 : ∀ x, x ∉ VA -> fr1 x = fr x)
  (hB : Ch mt fr r b (VB ++ vpB :: reB)) (hB2 : base vpB = t) (hB3 : ∀ v ∈ VB, base v ≠ t) (hB4 : RevL mt fr2 (a : Int) VB) (hB5 : ∀ x, x ∉ VB -> fr2 x = fr1 x)
  (hU : ∀ x, U.testBit x = true ↔ PetL mt base VA x \/ PetL mt base VB x) (hb1 : ∀ x, base' x = if U.testBit (base x) = true then t else base x)
  (ho : ∀ x, out' x ↔ out x \/ (x < n /\ U.testBit (base x) = true)) : Shrunk n J mt r out out' base base' fr fr2 a b t VA VB := by
 have sA : Side n J mt r out base fr fr1 a b t VA := ⟨hs, ha, hb, ta, tb, tm, ⟨_, _, hA, hA2⟩, hA3, hA4⟩
 have hfA : ∀ v ∈ VA, v ∉ VB := fun v hv hv' => (sA.apart hB hv (List.mem_append.2 (.inl hv'))).1 rfl
 have sA2 : Side n J mt r out base fr fr2 a b t VA := ⟨hs, ha, hb, ta, tb, tm, ⟨_, _, hA, hA2⟩, hA3, hA4.cong fun x hx => hB5 x (hfA x hx)⟩
 have sB2 : Side n J mt r out base fr fr2 b a t VB := ⟨hs, hb, ha, tb, ta, fun β h1 h2 => tm β h2 h1, ⟨_, _, hB, hB2⟩, hB3, hB4⟩
 have hUp : ∀ x, U.testBit (base x) = true ↔ Pet mt base VA VB x := fun x => by
  rw [hU]
  constructor
  ·rintro (⟨v, hv, k⟩ | ⟨v, hv, k⟩)
   ·exact ⟨v, .inl hv, k⟩
   ·exact ⟨v, .inr hv, k⟩
  ·rintro ⟨v, hv | hv, k⟩
   ·exact .inl ⟨v, hv, k⟩
   ·exact .inr ⟨v, hv, k⟩
 refine ⟨⟨sA2, sB2, fun x h1 h2 => by rw [hB5 x h2, hA5 x h1]⟩, hsy, hJ, fun x hx => by rw [hb1, if_pos ((hUp x).2 hx)], fun x hx => by rw [hb1, if_neg (fun h => hx ((hUp x).1 h))], fun x => ?_⟩
 rw [ho]
 have houts : ∀ v, v ∈ VA \/ v ∈ VB -> out v := fun v hv => hv.elim (sA.outs v) (sB2.outs v)
 constructor
 ·rintro (h | ⟨h1, h2⟩)
  ·exact .inl h
  ·obtain ⟨v, hv, k | ⟨e, k1, k2⟩⟩ := (hUp x).1 h2
   ·left
    by_cases hxo : out x
    ·exact hxo
    ·rw [hs.bnot h1 hxo] at k; rw [k]; exact hs.bout (houts v hv)
   ·by_cases hxo : out x
    ·exact .inl hxo
    ·have he : e < n := hs.mat.lt (hs.lt (houts v hv)) k1
     rw [hs.bnot h1 hxo] at k2
     by_cases heo : out e
     ·exact absurd (k2 ▸ hs.bout heo) hxo
     ·rw [hs.bnot he heo] at k2; subst k2; exact .inr ⟨v, hv, k1⟩
 ·rintro (h | ⟨v, hv, k⟩)
  ·exact .inl h
  ·exact .inr ⟨hs.mat.lt (hs.lt (houts v hv)) k, (hUp x).2 ⟨v, hv, .inr ⟨x, k, rfl⟩⟩⟩
theorem shrink_wp {n p w r : Nat} {J : Nat -> Nat -> Prop} {out : Nat -> Prop} {base : Nat -> Nat} {s : PS} {Jl q : List Nat} {K : Nat -> Prop} (hn : n <= 40) (hs : Srch n J s.mt r out base s.fr) (hbs : ∀ x, x < n -> s.bs x = (base x : Int)) (hsy : ∀ x y, J x y -> J y x) {W : AW} (hP : PairAt W p w s) (hVw : Var W w 108 (.int .i64 (n : Int) :: Jl.map setV)) (hwp : w ≠ p)
  (hot : ∀ x, s.ot.testBit x = true ↔ out x) (hq : GrowsN W s.ln q.length (natsV q) 3 1 K) (hqn : q.Nodup) (hqo : ∀ x, x ∈ q ↔ out x) (hKp : ¬ K p) (hKw : ¬ K w) {a b : Nat} (ha : out a) (hb : out b) (hJ : J a b) :
  WpF T0 88 [.pointer (some ⟨p, 0, none⟩), .int .i64 (a : Int), .int .i64 (b : Int)] W (fun _ W' => Only (fun x => x = p \/ K x) W W' /\ ∃ (t : Nat) (VA VB : List Nat) (out' : Nat -> Prop) (base' : Nat -> Nat) (s' : PS) (ex : List Nat), PairAt W' p w s' /\ s'.mt = s.mt /\ s'.fe = s.fe /\ Shrunk n J s.mt r out out' base base' s.fr s'.fr a b t VA VB /\ (∀ x, x < n -> s'.bs x = (base' x : Int)) /\
   (∀ x, s'.ot.testBit x = true ↔ out' x) /\ (q ++ ex).Nodup /\ (∀ x, x ∈ q ++ ex ↔ out' x) /\ GrowsN W' s'.ln (q ++ ex).length (natsV (q ++ ex)) 3 1 (fun x => K x \/ (W.next <= x /\ x < W'.next))) := by
 refine wpF fun88 rfl ?_
 have hpW : p < W.next := hP.1
 have hwW : w < W.next := hVw.1
 try simp only [zzA]
 refine wpK_x1 (fun R hR => by
   simp [aEnter, fun92, zzC, aCallV]; rw [zzD]
   refine (meet_wp hn hs hbs hP ha hb).mono ?_
   rintro _ W1 ⟨hE1, t, rfl, ta, tb, htm⟩
   simp []; exact hR t W1 (And.intro hE1 (And.intro ta (And.intro tb htm)))) ?_
 rintro t W1 ⟨hE1, ta, tb, htm⟩
 obtain ⟨VA, vpA, reA, hA, hA2, hA3⟩ := ta.cut
 obtain ⟨VB, vpB, reB, hB, hB2, hB3⟩ := tb.cut
 have hltL : ∀ {v : Nat} {L : List Nat}, out v -> Ch s.mt s.fr r v L -> ∀ x ∈ L, x < n := fun h1 h2 x hx => hs.lt (hs.all h2 h1 x hx)
 have hml : ∀ v, v < n -> ∀ e : Nat, s.mt v = (e : Int) -> e < n := fun v hv e he => hs.mat.lt hv he
 try simp only [zzA]
 refine wpK_x2 (fun R hR => by
   simp [aEnter, fun93, zzC, aCallV]; rw [zzD]
   refine (petals_wp hn (hP.ext hE1) hs.free hA (hs.ind ha hA) (hltL ha hA) hml hbs (fun x hx => hs.base_lt hx) hA2 hA3).mono ?_
   rintro _ W2 ⟨hO2, U1, fr1, rfl, hP2, hA4, hA5, hU1, hl1⟩
   simp []; exact hR U1 fr1 W2 (And.intro hO2 (And.intro hP2 (And.intro hA4 (And.intro hA5 (And.intro hU1 hl1)))))) ?_
 rintro U1 fr1 W2 ⟨hO2, hP2, hA4, hA5, hU1, hl1⟩
 have sA : Side n J s.mt r out base s.fr fr1 a b t VA := ⟨hs, ha, hb, ta, tb, htm, ⟨_, _, hA, hA2⟩, hA3, hA4⟩
 have hB1 : Ch s.mt fr1 r b (VB ++ vpB :: reB) := hB.same fun y hy e he => hA5 e fun hv => (sA.apart hB hv hy).2 he
 have hor : ∀ U2 : Nat, U2 < 1099511627776 -> aBinI .or .u64 (U1 : Int) .u64 (U2 : Int) = some (.int .u64 ((U1 ||| U2 : Nat) : Int)) := fun U2 h => aBinI_or .u64 U1 U2 (by show U1 < 18446744073709551616; omega) (by show U2 < 18446744073709551616; omega)
 try simp only [zzA]
 refine wpK_x2 (fun R hR => by
   simp [aEnter, fun93, zzC, aCallV]; rw [zzD]
   refine (petals_wp (s := { s with fr := fr1 }) hn hP2 hs.free hB1 (hs.ind hb hB) (hltL hb hB) hml hbs (fun x hx => hs.base_lt hx) hB2 hB3).mono ?_
   rintro _ W3 ⟨hO3, U2, fr2, rfl, hP3, hB4, hB5, hU2, hl2⟩
   simp [hor _ hl2]; exact hR U2 fr2 W3 (And.intro hO3 (And.intro hP3 (And.intro hB4 (And.intro hB5 (And.intro hU2 hl2)))))) ?_
 rintro U2 fr2 W3 ⟨hO3, hP3, hB4, hB5, hU2, hl2⟩
 have hU : ∀ x, (U1 ||| U2).testBit x = true ↔ PetL s.mt base VA x \/ PetL s.mt base VB x := fun x => by rw [Nat.testBit_or, Bool.or_eq_true, hU1, hU2]
 have hUl : (U1 ||| U2) < 1099511627776 := Nat.or_lt_two_pow (n := 40) hl1 hl2
 generalize U1 ||| U2 = U at hU hUl
 clear hor hl1 hl2 hU1 hU2
 simp only at hP3
 have hO03 : Only (fun x => x = p) W W3 := ((Only.wide hE1).trans hO2).trans hO3
 have hV3 := hVw.only hO03 hwp
 have q1 := ps_web hP3
 have q2 := hV3.load1 (T := T0) und3 rfl (j := 0) (v := .int .i64 (n : Int)) rfl
 try simp only [zzA]
 refine wpK_reg (fun R hR => by simp [q1, q2]; exact hR) ?_
 have hq3 : GrowsN W3 s.ln q.length (natsV q) 3 1 K := hq.only hO03 (fun x _ hx e => hKp (e ▸ hx))
 obtain ⟨base', hbase'⟩ : ∃ base' : Nat -> Nat, ∀ x, base' x = if U.testBit (base x) = true then t else base x := ⟨_, fun x => rfl⟩
 obtain ⟨K', hK'⟩ : ∃ K' : Nat -> Prop, K' = fun x => K x \/ W.next <= x := ⟨_, rfl⟩
 have hKp' : ¬ K' p := by rw [hK']; exact fun h => h.elim hKp (fun h => by omega)
 have hKw' : ¬ K' w := by rw [hK']; exact fun h => h.elim hKw (fun h => by omega)
 have hq3 := hq3.mono (K' := fun x => K x \/ (W.next <= x /\ x < W3.next)) (fun x hx => .inl hx)
 have n3 := hO03.1
 refine wpK_keep (fun tm' => tm'.get 0 = some (.pointer (some ⟨p, 0, none⟩)) /\ tm'.get 6 = some (.int .i64 (t : Int)) /\ tm'.get 7 = some (.int .u64 (U : Int)) /\ tm'.get 31 = some (.int .i64 (n : Int)) /\ tm'.get 32 = some (.int .i64 0)) (by simp) ?_
 rintro tm ⟨h0, h6, h7, h31, h32⟩
 try simp only [zzA]
 refine wpK_while1 (I := fun qq A' W' => A'.n = 61 /\ A'.defers = [] /\ A'.tmps.get 0 = some (.pointer (some ⟨p, 0, none⟩)) /\ A'.tmps.get 6 = some (.int .i64 (t : Int)) /\ A'.tmps.get 7 = some (.int .u64 (U : Int)) /\ A'.tmps.get 31 = some (.int .i64 (n : Int)) /\ Only (fun x => x = p \/ K' x) W3 W' /\ ∃ (i ot : Nat) (bs : Nat -> Int) (ln : Value) (ex : List Nat), A'.tmps.get 32 = some (.int .i64 (i : Int)) /\ qq = n - i /\ i <= n /\ PairAt W' p w { s with fr := fr2, bs := bs, ot := ot, ln := ln } /\ (∀ x, x < i -> bs x = (base' x : Int)) /\ (∀ x, x < n -> ¬ x < i -> bs x = (base x : Int)) /\ (∀ x, ot.testBit x = true ↔ out x \/ (x < i /\ U.testBit (base x) = true)) /\ (q ++ ex).Nodup /\ (∀ x, x ∈ q ++ ex ↔ ot.testBit x = true) /\ GrowsN W' ln (q ++ ex).length (natsV (q ++ ex)) 3 1 (fun x => K x \/ (W.next <= x /\ x < W'.next)))
  (J := fun A' W' => A'.defers = [] /\ Only (fun x => x = p \/ K' x) W3 W' /\ ∃ (ot : Nat) (bs : Nat -> Int) (ln : Value) (ex : List Nat), PairAt W' p w { s with fr := fr2, bs := bs, ot := ot, ln := ln } /\ (∀ x, x < n -> bs x = (base' x : Int)) /\ (∀ x, ot.testBit x = true ↔ out x \/ (x < n /\ U.testBit (base x) = true)) /\ (q ++ ex).Nodup /\ (∀ x, x ∈ q ++ ex ↔ ot.testBit x = true) /\ GrowsN W' ln (q ++ ex).length (natsV (q ++ ex)) 3 1 (fun x => K x \/ (W.next <= x /\ x < W'.next))) (Rt := fun _ _ => False) (k := n) ?_ ?_ ?_ ?_
 ·exact ⟨rfl, rfl, by simp [h0, h6, h7, h31], by simp [h0, h6, h7, h31], by simp [h0, h6, h7, h31], by simp [h0, h6, h7, h31], .refl _ _, 0, s.ot, s.bs, s.ln, [], by simp [h32], rfl, by omega, hP3, fun x hx => by omega, fun x hx _ => hbs x hx, fun x => by rw [hot]; exact ⟨.inl, fun h => h.elim id fun h => by omega⟩, by simpa using hqn, fun x => by rw [hot]; simpa using hqo x, by simpa using hq3⟩
 ·rintro qq ⟨tm, n, ds⟩ Wa ⟨hn, hd, h0, h6, h7, h31, hOa, i, ot, bs, ln, ex, h32, hqq, hil, hPa, hb1, hb2, hob, hnd, hmem, hgr⟩ Q' hJ hRt hI
  simp only at hn hd h0 h6 h7 h31
  subst hn; subst hd
  simp only at h32
  by_cases hlt : i < n
  case neg =>
   have hlt' : ¬ (i : Int) < n := by omega
   try simp only [zzA]
   refine wpK_reg (fun R hR => by simp [h31, h32, hlt']; exact hR) ?_
   try simp only [zzA]
   first | refine wpK_onF (by simp [hlt]) ?_ | refine wpK_out (by simp [hlt]) ?_ | refine zzF (by simp [hlt]) ?_ | refine zzB (by simp [hlt]) (wpK_skip ?_) | refine zzB (by simp [hlt]) ?_
   exact hJ _ _ ⟨rfl, hOa, ot, bs, ln, ex, hPa, fun x hx => hb1 x (by omega), fun x => by rw [hob]; exact or_congr_right ⟨fun h => ⟨by omega, h.2⟩, fun h => ⟨by omega, h.2⟩⟩, hnd, hmem, hgr⟩
  have hlt' : (i : Int) < n := by omega
  try simp only [zzA]
  refine wpK_reg (fun R hR => by simp [h31, h32, hlt']; exact hR) ?_
  try simp only [zzA]
  first | refine wpK_onT (by simp [hlt]) ?_ | refine wpK_outT (by simp [hlt]) ?_ | refine zzE (by simp [hlt]) ?_ | refine wpK_endT (by simp [hlt]) ?_
  have lb := ps_bs hPa (j := i) (by omega)
  simp only at lb
  rw [hb2 i hlt (by omega)] at lb
  have i1 := ix94 p 41 i (by omega)
  have hbl := hs.base_lt hlt
  refine wpK_block ?_
  try simp only [zzA]
  refine wpK_reg (fun R hR => by simp [h32]; exact hR) ?_
  cases hbit : U.testBit (base i) with
  | false =>
   try simp only [zzA]
   refine wpK_reg (fun R hR => by
     simp [h0, h7, i1, lb, aEnter, fun60, zzC, aCallV]; rw [zzD]
     refine (has_is hbit (by omega) (by omega) _).mono ?_
     rintro _ W9 ⟨e9, rfl⟩; subst W9
     simp [h0, h7, i1, lb]; exact hR) ?_
   try simp only [zzA]
   first | refine wpK_onT (by simp []) ?_ | refine wpK_outT (by simp []) ?_ | refine zzE (by simp []) ?_ | refine wpK_endT (by simp []) ?_
   simp only [leaves_exit, if_true, zzG]
   try simp only [zzA]
   refine wpK_reg1 (fun R hR => by simp [h32]; exact hR) ?_
   refine hI (n - (i + 1)) _ _ (by omega) ⟨rfl, rfl, by simp [h0, h6, h7, h31], by simp [h0, h6, h7, h31], by simp [h0, h6, h7, h31], by simp [h0, h6, h7, h31], hOa, i + 1, ot, bs, ln, ex, by simp [i64_succ i (by omega)], rfl, by omega, hPa, fun x hx => ?_, fun x hx h => hb2 x hx (by omega), fun x => ?_, hnd, hmem, hgr⟩
   ·by_cases e : x = i
    ·subst e; rw [hb2 x hlt (by omega), hbase', if_neg (by rw [hbit]; simp)]
    ·exact hb1 x (by omega)
   ·rw [hob]
    refine or_congr_right ⟨fun h => ⟨by omega, h.2⟩, fun h => ⟨?_, h.2⟩⟩
    by_cases e : x = i
    ·subst e; rw [hbit] at h; exact absurd h.2 (by simp)
    ·have := h.1; omega
  | true =>
   try simp only [zzA]
   refine wpK_reg (fun R hR => by
     simp [h0, h7, i1, lb, aEnter, fun60, zzC, aCallV]; rw [zzD]
     refine (has_is hbit (by omega) (by omega) _).mono ?_
     rintro _ W9 ⟨e9, rfl⟩; subst W9
     simp [h0, h7, i1, lb]; exact hR) ?_
   try simp only [zzA]
   first | refine wpK_onF (by simp []) ?_ | refine wpK_out (by simp []) ?_ | refine zzF (by simp []) ?_ | refine zzB (by simp []) (wpK_skip ?_) | refine zzB (by simp []) ?_
   have ht : t < n := hs.lt (hs.bs_out ha ta).1
   obtain ⟨Wb, w1, w2, w3, w4⟩ := ps_setBs hPa (j := i) (by omega) (t : Int)
   simp only at w4
   try simp only [zzA]
   refine wpK_reg (fun R hR => by simp [h0, h6, i1, w1]; exact hR) ?_
   have lo := ps_ot w4
   simp only at lo
   have hol : ot < 1099511627776 := lt40 fun x hx => by
    rcases (hob x).1 hx with h | h
    ·have := hs.lt h; omega
    ·omega
   have hKn : ∀ {V : AW}, ¬ (K p \/ (W.next <= p /\ p < V.next)) := fun {V} h => h.elim hKp (fun h => by omega)
   have hgr1 := (hgr.only w3 (fun x _ hx e => hKn (V := Wa) (e ▸ hx))).mono (K' := fun x => K x \/ (W.next <= x /\ x < Wb.next)) (fun x hx => by rw [w2]; exact hx)
   have hb3 : ∀ x, x < i + 1 -> updI bs i (t : Int) x = (base' x : Int) := fun x hx => by
    by_cases e : x = i
    ·subst e; rw [updI_eq, hbase', if_pos hbit]
    ·rw [updI_ne _ _ e]; exact hb1 x (by omega)
   have hb4 : ∀ x, x < n -> ¬ x < i + 1 -> updI bs i (t : Int) x = (base x : Int) := fun x hx h => by
    rw [updI_ne _ _ (by omega)]; exact hb2 x hx (by omega)
   cases hio : ot.testBit i with
   | true =>
    try simp only [zzA]
    refine wpK_reg (fun R hR => by
      simp [h0, lo, aEnter, fun60, zzC, aCallV]; rw [zzD]
      refine (has_is hio (by omega) (by omega) _).mono ?_
      rintro _ W9 ⟨e9, rfl⟩; subst W9
      simp [h0, lo]; exact hR) ?_
    try simp only [zzA]
    first | refine wpK_onF (by simp []) ?_ | refine wpK_out (by simp []) ?_ | refine zzF (by simp []) ?_ | refine zzB (by simp []) (wpK_skip ?_) | refine zzB (by simp []) ?_
    simp only [zzH, zzG]
    try simp only [zzA]
    refine wpK_reg1 (fun R hR => by simp [h32]; exact hR) ?_
    refine hI (n - (i + 1)) _ _ (by omega) ⟨rfl, rfl, by simp [h0, h6, h7, h31], by simp [h0, h6, h7, h31], by simp [h0, h6, h7, h31], by simp [h0, h6, h7, h31], hOa.trans (w3.mono fun _ _ e => .inl e), i + 1, ot, _, ln, ex, by simp [i64_succ i (by omega)], rfl, by omega, w4, hb3, hb4, fun x => ?_, hnd, hmem, hgr1⟩
    rw [hob]
    constructor
    ·rintro (h | h)
     ·exact .inl h
     ·exact .inr ⟨by omega, h.2⟩
    ·rintro (h | h)
     ·exact .inl h
     ·by_cases e : x = i
      ·subst e; exact (hob x).1 hio
      ·exact .inr ⟨by omega, h.2⟩
   | false =>
    try simp only [zzA]
    refine wpK_reg (fun R hR => by
      simp [h0, lo, aEnter, fun60, zzC, aCallV]; rw [zzD]
      refine (has_is hio (by omega) (by omega) _).mono ?_
      rintro _ W9 ⟨e9, rfl⟩; subst W9
      simp [h0, lo]; exact hR) ?_
    try simp only [zzA]
    first | refine wpK_onT (by simp []) ?_ | refine wpK_outT (by simp []) ?_ | refine zzE (by simp []) ?_ | refine wpK_endT (by simp []) ?_
    have hlq : (q ++ ex).length <= 1000 := by
     have := nodup_le hnd (s := List.range n) fun x hx => by
      rw [List.mem_range]
      rcases (hob x).1 ((hmem x).1 hx) with h | h
      ·exact hs.lt h
      ·omega
     rw [List.length_range] at this; omega
    try simp only [zzA]
    refine wpK_y2 (fun R hR => by
      simp [h0, aEnter, fun87, zzC, aCallV]; rw [zzD]
      refine (reach_wp w4 hgr1 (hKn (V := Wb)) (k := i) (by omega) hol hlq).mono ?_
      rintro v W5 ⟨hO5, n5, ln', w5, w6⟩
      simp [h0]; exact hR v ln' W5 (And.intro hO5 (And.intro n5 (And.intro w5 w6)))) ?_
    rintro v ln' W5 ⟨hO5, n5, w5, w6⟩
    simp only [zzH, zzG]
    simp only at w5
    try simp only [zzA]
    refine wpK_reg1 (fun R hR => by simp [h32]; exact hR) ?_
    have ino : i ∉ q ++ ex := fun h => by rw [hmem, hio] at h; cases h
    refine hI (n - (i + 1)) _ _ (by omega) ⟨rfl, rfl, by simp [h0, h6, h7, h31], by simp [h0, h6, h7, h31], by simp [h0, h6, h7, h31], by simp [h0, h6, h7, h31], (hOa.trans (w3.mono fun _ _ e => .inl e)).trans (hO5.mono fun x _ hx => hx.imp id fun hx => by rw [hK']; exact hx.imp id fun h => h.1), i + 1, ot ||| 1 <<< i, _, ln', ex ++ [i], by simp [i64_succ i (by omega)], rfl, by omega, w5, hb3, hb4, fun x => ?_, ?_, fun x => ?_, ?_⟩
    ·rw [bit_add, Bool.or_eq_true, decide_eq_true_eq, hob]
     constructor
     ·rintro ((h | h) | h)
      ·exact .inl h
      ·exact .inr ⟨by omega, h.2⟩
      ·exact .inr ⟨by omega, by rw [h]; exact hbit⟩
     ·rintro (h | h)
      ·exact .inl (.inl h)
      ·by_cases e : x = i
       ·exact .inr e
       ·exact .inl (.inr ⟨by omega, h.2⟩)
    ·rw [<- List.append_assoc]
     exact List.nodup_append.2 ⟨hnd, by simp, fun u hu v hv e => by rw [List.mem_singleton.1 hv] at e; exact ino (e ▸ hu)⟩
    ·rw [<- List.append_assoc, List.mem_append, List.mem_singleton, hmem, bit_add, Bool.or_eq_true, decide_eq_true_eq]
    ·rw [<- List.append_assoc]
     refine w6.mono fun x hx => ?_
     rcases hx with (h | h) | h
     ·exact .inl h
     ·exact .inr ⟨h.1, by omega⟩
     ·have := hOa.1; have := w3.1
      exact .inr ⟨by omega, by omega⟩
 ·rintro A' W' hf; exact hf.elim
 ·rintro ⟨tm, n', ds⟩ W' ⟨h1, h2, h3⟩
  simp only at h1
  subst h1
  obtain ⟨ot, bs, ln, ex, g1, g2, g3, g4, g5, g6⟩ := h3
  refine ⟨.inl rfl, rfl, [], by rfl, ?_, t, VA, VB, _, base', _, ex, g1, rfl, rfl, Shrunk.of hs ha hb hsy hJ ta tb htm hA hA2 hA3 hA4 hA5 hB hB2 hB3 hB4 hB5 hU hbase' (fun x => Iff.rfl), g2, g3, g4, fun x => (g5 x).trans (g3 x), g6⟩
  refine ⟨Nat.le_trans hO03.1 h2.1, fun x hx hk => ?_⟩
  rw [h2.2 x (by omega) (fun h => h.elim (fun h => hk (.inl h)) fun h => by rw [hK'] at h; exact h.elim (fun h => hk (.inr h)) fun h => by omega), hO03.2 x hx fun h => hk (.inl h)]
section
variable {n : Nat} {J : Nat -> Nat -> Prop} {mt : Nat -> Int} {r : Nat} {out : Nat -> Prop} {base : Nat -> Nat} {fr : Nat -> Int}
theorem cut_free {mt : Nat -> Int} {x : Nat} (h : mt x = -1) : cutE mt x = mt := by
 funext z
 show updI mt x (-1) z = mt z
 by_cases e : z = x
 ·subst e; rw [updI_eq, h]
 ·rw [updI_ne _ _ e]
theorem Turn.run {fr mt0 : Nat -> Int} {e0 : Nat} {Z : Nat -> Prop} (hs : ∀ x y, J x y -> J y x) (hfrJ : ∀ x w : Nat, x < n -> fr x = (w : Int) -> J x w) : ∀ (L : List Nat) {e b : Nat} {mtc : Nat -> Int}, Turn n J fr mt0 mtc r e0 e b L Z ->
  ∃ mt', Mt n J mt' /\ (∀ x, x < n -> (mt' x = -1 ↔ mt0 x = -1 /\ x ≠ e0 /\ x ≠ r)) /\ ∀ z, Z z -> mt' z = mt0 z
 | L, _, _, _, h => by
  obtain ⟨_, _, hc⟩ := h.step hs hfrJ
  rcases hc with ⟨_, _, c3, c4, c5⟩ | ⟨e1, b1, L1, c1, c2, c3, c4⟩
  ·exact ⟨_, c3, c4, c5⟩
  ·subst c3
   exact Turn.run hs hfrJ L1 c4
theorem Ch.frm {v : Nat} {L : List Nat} (hr : mt r = -1) (h : Ch mt fr r v L) : ∀ y ∈ L, ∀ q : Nat, mt y = (q : Int) -> fr q ≠ -1 := by
 induction h with
 | root =>
  intro y hy q e
  rw [List.mem_singleton.1 hy, hr] at e; omega
 | step e1 e2 h3 ih =>
  rename_i v e w L
  intro y hy q g
  rcases List.mem_cons.1 hy with k | k
  ·subst k
   have : q = e := by omega
   subst this; omega
  ·exact ih y k q g
theorem Srch.lone (h : Srch n J mt r out base fr) (hJi : ∀ x, ¬ J x x) (hs : ∀ x y, J x y -> J y x) {x : Nat} (hx : out x) {Z : Nat -> Prop} (hZ : ∀ y, out y -> ¬ Z y) (hZ2 : ∀ y q : Nat, out y -> mt y = (q : Int) -> fr q ≠ -1 -> ¬ Z q) :
    ∃ mt', Mt n J mt' /\ (∀ y, y < n -> (mt' y = -1 ↔ (mt y = -1 /\ y ≠ r) \/ y = x)) /\ ∀ z, Z z -> mt' z = mt z := by
  obtain ⟨L, hc, hi⟩ := h.chain hx
  cases hc with
  | root =>
    refine ⟨mt, h.mat, fun y _ => ?_, fun _ _ => rfl⟩
    constructor
    · intro g
      by_cases e : y = r
      · exact .inr e
      · exact .inl ⟨g, e⟩
    · rintro (g | g)
      · exact g.1
      · rw [g]; exact h.free
  | step e1 e2 h3 =>
    rename_i e w L'
    have hxn := h.lt hx
    have hen := h.mat.lt hxn e1
    have hex := h.mat.sym hxn e1
    obtain ⟨hwo, hJw⟩ := h.frOut hen e2
    have hxL : x ∉ L' := Ch.new h.free (.step e1 e2 h3)
    have heL : e ∉ x :: L' := fun g => hi x List.mem_cons_self e g e1
    have heL' : e ∉ L' := fun g => heL (List.mem_cons_of_mem _ g)
    have hex2 : e ≠ x := fun g => heL (g ▸ List.mem_cons_self)
    have hLo := h.all h3 hwo
    have hxr : x ≠ r := fun g => by rw [g, h.free] at e1; omega
    have her : e ≠ r := fun g => by rw [g, h.free] at hex; omega
    obtain ⟨m1, hm1⟩ : ∃ m1, m1 = updI (updI mt x (-1)) e (-1) := ⟨_, rfl⟩
    have ve : m1 e = -1 := by rw [hm1, updI_eq]
    have vx : m1 x = -1 := by rw [hm1, updI_ne _ _ (Ne.symm hex2), updI_eq]
    have vo : ∀ y, y ≠ x -> y ≠ e -> m1 y = mt y := fun y g1 g2 => by rw [hm1, updI_ne _ _ g2, updI_ne _ _ g1]
    have hcut : cutE m1 e = m1 := cut_free ve
    have hmat : Mt n J m1 := by
      have sub : ∀ {y : Nat}, y < n -> m1 y = -1 \/ (y ≠ x /\ y ≠ e /\ m1 y = mt y) := fun {y} hy => by
        by_cases g1 : y = x
        · subst g1; exact .inl vx
        by_cases g2 : y = e
        · subst g2; exact .inl ve
        · exact .inr ⟨g1, g2, vo y g1 g2⟩
      refine ⟨fun {y} hy => ?_, fun {y q} hy g => ?_, fun {y q} hy g => ?_⟩
      · rcases sub hy with g | ⟨_, _, g⟩
        · exact .inl g
        · rw [g]; exact h.mat.rng hy
      · rcases sub hy with g' | ⟨g1, g2, g'⟩
        · omega
        · rw [g'] at g
          have g3 := h.mat.sym hy g
          rw [vo q (fun k => by subst k; have : y = e := by omega
                                exact g2 this) (fun k => by subst k; have : y = x := by omega
                                                            exact g1 this)]
          exact g3
      · rcases sub hy with g' | ⟨g1, g2, g'⟩
        · omega
        · rw [g'] at g; exact h.mat.adj hy g
    have same : ∀ y ∈ L', m1 y = mt y := fun y hy => vo y (fun g => hxL (g ▸ hy)) (fun g => heL' (g ▸ hy))
    have hZe : ¬ Z e := hZ2 x e hx e1 (by rw [e2]; omega)
    have hT : Turn n J fr m1 m1 r e e w L' Z := by
      refine ⟨by rw [hcut]; exact hmat, hen, h.lt h.rout, by rw [hcut, vo r (Ne.symm hxr) (Ne.symm her)]; exact h.free, by rw [hcut]; exact h3.cong same, ?_, heL', fun y hy => h.lt (hLo y hy), hJw, fun y _ => ?_, .inl rfl, fun z hz => ⟨rfl, fun g => hZe (g ▸ hz)⟩, fun y hy => hZ y (hLo y hy), fun y hy q g => ?_⟩
      · rw [hcut]
        intro y hy z hz
        rw [same y hy]
        exact hi y (List.mem_cons_of_mem _ hy) z (List.mem_cons_of_mem _ hz)
      · rw [hcut]
        constructor
        · intro g
          by_cases k : y = e
          · exact .inr k
          · exact .inl ⟨g, k⟩
        · rintro (g | g)
          · exact g.1
          · rw [g]; exact ve
      · rw [hcut, same y hy] at g
        exact hZ2 y q (hLo y hy) g (h3.frm h.free y hy q g)
    obtain ⟨mt', k1, k2, k3⟩ := Turn.run hs (fun y q hy g => (h.frOut hy g).2) L' hT
    refine ⟨mt', k1, fun y hy => ?_, fun z hz => ?_⟩
    · rw [k2 y hy]
      constructor
      · rintro ⟨g1, g2, g3⟩
        by_cases k : y = x
        · exact .inr k
        · rw [vo y k g2] at g1; exact .inl ⟨g1, g3⟩
      · rintro (⟨g1, g2⟩ | g)
        · have k1 : y ≠ e := fun k => by subst k; omega
          have k2 : y ≠ x := fun k => by subst k; omega
          exact ⟨by rw [vo y k2 k1]; exact g1, k1, g2⟩
        · subst g; exact ⟨vx, Ne.symm hex2, hxr⟩
    · rw [k3 z hz]
      exact vo z (fun g => hZ x hx (g ▸ hz)) (fun g => hZe (g ▸ hz))
def Lone (n : Nat) (J : Nat -> Nat -> Prop) (mt : Nat -> Int) (D A : Nat -> Prop) : Prop := ∀ x, D x -> ∃ (mt' : Nat -> Int) (r : Nat), Mt n J mt' /\ D r /\ mt r = -1 /\ (∀ y, y < n -> (mt' y = -1 ↔ (mt y = -1 /\ y ≠ r) \/ y = x)) /\ ∀ z, ¬ (D z \/ A z) -> mt' z = mt z
theorem Lone.start : Lone n J mt (fun _ => False) (fun _ => False) := fun _ h => h.elim
variable {D A : Nat -> Prop} {cl : Nat -> Nat}
theorem Lone.next (h : Lone n J mt D A) (s : Srch n J mt r out base fr) (hJi : ∀ x, ¬ J x x) (hs : ∀ x y, J x y -> J y x) {D' A' : Nat -> Prop} (hD : ∀ x, D' x ↔ D x \/ out x) (hA : ∀ x, A' x ↔ A x \/ (x < n /\ ¬ D x /\ ¬ out x /\ fr x ≠ -1)) : Lone n J mt D' A' := fun x hx => by
 by_cases hd : D x
 ·obtain ⟨mt', r', h1, h2, h3, h4, h5⟩ := h x hd
  exact ⟨mt', r', h1, (hD _).2 (.inl h2), h3, h4, fun z hz => h5 z fun g => hz (g.imp (fun g => (hD z).2 (.inl g)) fun g => (hA z).2 (.inl g))⟩
 ·have ho := ((hD x).1 hx).resolve_left hd
  obtain ⟨mt', h1, h2, h3⟩ := s.lone hJi hs ho (Z := fun z => ¬ (D' z \/ A' z)) (fun y hy hz => hz (.inl ((hD y).2 (.inr hy)))) (fun y q hy e hf hz => by
   apply hz
   by_cases g1 : D q
   ·exact .inl ((hD q).2 (.inl g1))
   by_cases g2 : out q
   ·exact .inl ((hD q).2 (.inr g2))
   ·exact .inr ((hA q).2 (.inr ⟨s.mat.lt (s.lt hy) e, g1, g2, hf⟩)))
  exact ⟨mt', r, h1, (hD r).2 (.inr s.rout), s.free, h2, h3⟩
open Classical in
theorem Lone.cong (h : Lone n J mt D A) (hd : Dn n J mt D A cl) (hm : Mt n J mt) {m2 : Nat -> Int} (hm2 : Mt n J m2) (he : ∀ z, D z \/ A z -> m2 z = mt z) : Lone n J m2 D A := fun x hx => by
 obtain ⟨mt', r, h1, h2, h3, h4, h5⟩ := h x hx
 have hlt : ∀ z, D z \/ A z -> z < n := fun z hz => hz.elim hd.dlt hd.alt
 have cz : ∀ z q : Nat, (D z \/ A z) -> mt z = (q : Int) -> D q \/ A q := fun z q hz e => by
  apply Classical.byContradiction
  intro hq
  have hqn := hm.lt (hlt z hz) e
  have e2 := hm.sym (hlt z hz) e
  have := hd.others hm hqn (fun g => hq (.inl g)) (fun g => hq (.inr g)) e2
  exact hz.elim this.1 this.2
 have c1 : ∀ z q : Nat, (D z \/ A z) -> mt' z = (q : Int) -> D q \/ A q := fun z q hz e => by
  apply Classical.byContradiction
  intro hq
  have e2 := h1.sym (hlt z hz) e
  have hqn := h1.lt (hlt z hz) e
  rw [h5 q hq] at e2
  exact hq (cz z q hz (hm.sym hqn e2))
 have c2 : ∀ z q : Nat, z < n -> ¬ (D z \/ A z) -> m2 z = (q : Int) -> ¬ (D q \/ A q) := fun z q hzn hz e hq => by
  have e2 := hm2.sym hzn e
  rw [he q hq] at e2
  exact hz (cz q z hq e2)
 obtain ⟨m3, hm3⟩ : ∃ m3 : Nat -> Int, m3 = fun z => if D z \/ A z then mt' z else m2 z := ⟨_, rfl⟩
 have v1 : ∀ z, D z \/ A z -> m3 z = mt' z := fun z hz => by rw [hm3]; exact if_pos hz
 have v2 : ∀ z, ¬ (D z \/ A z) -> m3 z = m2 z := fun z hz => by rw [hm3]; exact if_neg hz
 refine ⟨m3, r, ⟨fun {y} hy => ?_, fun {y q} hy e => ?_, fun {y q} hy e => ?_⟩, h2, by rw [he r (.inl h2)]; exact h3, fun y hy => ?_, v2⟩
 ·by_cases g : D y \/ A y
  ·rw [v1 y g]; exact h1.rng hy
  ·rw [v2 y g]; exact hm2.rng hy
 ·by_cases g : D y \/ A y
  ·rw [v1 y g] at e
   rw [v1 q (c1 y q g e)]; exact h1.sym hy e
  ·rw [v2 y g] at e
   rw [v2 q (c2 y q hy g e)]; exact hm2.sym hy e
 ·by_cases g : D y \/ A y
  ·rw [v1 y g] at e; exact h1.adj hy e
  ·rw [v2 y g] at e; exact hm2.adj hy e
 ·by_cases g : D y \/ A y
  ·rw [v1 y g, he y g]; exact h4 y hy
  ·rw [v2 y g]
   have n1 : y ≠ r := fun e => g (.inl (e ▸ h2))
   have n2 : y ≠ x := fun e => g (.inl (e ▸ hx))
   exact ⟨fun k => .inl ⟨k, n1⟩, fun k => k.elim (fun k => k.1) fun k => absurd k n2⟩
end
section
structure SI (n p w r fe : Nat) (J : Nat -> Nat -> Prop) (mt : Nat -> Int) (D A : Nat -> Prop) (cl : Nat -> Nat) (K : Nat -> Prop) (W : AW) (s : PS) (out : Nat -> Prop) (base : Nat -> Nat) (q : List Nat) : Prop where
 pa : PairAt W p w s
 emt : s.mt = mt
 efe : s.fe = fe
 sr : Srch n J mt r out base s.fr
 inn : Inn n mt s.fr out
 mo : Mo mt out base
 ti : TI mt D A cl r out s.fr
 bs : ∀ x, x < n -> s.bs x = (base x : Int)
 ot : ∀ x, s.ot.testBit x = true ↔ out x
 nd : q.Nodup
 mem : ∀ x, x ∈ q ↔ out x
 gr : GrowsN W s.ln q.length (natsV q) 3 1 K
variable {n p w r fe : Nat} {J : Nat -> Nat -> Prop} {mt : Nat -> Int} {D A : Nat -> Prop} {cl : Nat -> Nat} {K : Nat -> Prop} {W : AW} {s : PS} {out : Nat -> Prop} {base : Nat -> Nat} {q : List Nat}
theorem SI.only (h : SI n p w r fe J mt D A cl K W s out base q) {W' : AW} {K' : Nat -> Prop} (ho : Only K' W W') (hp : ¬ K' p) (hk : ∀ b, b < W.next -> K b -> ¬ K' b) : SI n p w r fe J mt D A cl K W' s out base q :=
 ⟨h.pa.only ho hp, h.emt, h.efe, h.sr, h.inn, h.mo, h.ti, h.bs, h.ot, h.nd, h.mem, h.gr.only ho hk⟩
theorem SI.len (h : SI n p w r fe J mt D A cl K W s out base q) : q.length <= n := by
 have := nodup_le h.nd (s := List.range n) fun x hx => List.mem_range.2 (h.sr.lt ((h.mem x).1 hx))
 rwa [List.length_range] at this
theorem SI.ot40 (h : SI n p w r fe J mt D A cl K W s out base q) (hn : n <= 40) : s.ot < 1099511627776 := lt40 fun x hx => by
 have := h.sr.lt ((h.ot x).1 hx); omega
theorem SI.shrink (h : SI n p w r fe J mt D A cl K W s out base q) (hn : n <= 40) (hsy : ∀ x y, J x y -> J y x) (hDn : Dn n J mt D A cl) {Jl : List Nat} (hVw : Var W w 108 (.int .i64 (n : Int) :: Jl.map setV)) (hwp : w ≠ p) (hKp : ¬ K p) (hKw : ¬ K w) {a b : Nat} (ha : out a) (hb : out b) (hJ : J a b) {done : Nat -> Prop} (hd : ∀ v, done v -> out v) :
  WpF T0 88 [.pointer (some ⟨p, 0, none⟩), .int .i64 (a : Int), .int .i64 (b : Int)] W (fun _ W' => Only (fun x => x = p \/ K x) W W' /\ ∃ (s' : PS) (out' : Nat -> Prop) (base' : Nat -> Nat) (ex : List Nat), SI n p w r fe J mt D A cl (fun x => K x \/ (W.next <= x /\ x < W'.next)) W' s' out' base' (q ++ ex) /\ (∀ v, out v -> out' v) /\ base' b = base' a /\ ∀ x z, out x -> Ask n s.fr out base done x z -> Ask n s'.fr out' base' done x z) := by
 have e := h.emt
 subst e
 refine (shrink_wp hn h.sr h.bs hsy h.pa hVw hwp h.ot h.gr h.nd h.mem hKp hKw ha hb hJ).mono ?_
 rintro _ W' ⟨hO, t, VA, VB, out', base', s', ex, g1, g2, g3, g4, g5, g6, g7, g8, g9⟩
 refine ⟨hO, s', out', base', ex, ⟨g1, g2, g3.trans h.efe, g4.srch, h.inn.shrunk g4, h.mo.shrunk g4, h.ti.shrunk hDn g4, g5, g6, g7, g8, g9⟩, fun v hv => g4.out_of hv, ?_, fun x z hx hA => hA.shrunk hx hd g4⟩
 rw [g4.bb', g4.swap.bb']
theorem SI.grown (h : SI n p w r fe J mt D A cl K W s out base q) (hJi : ∀ x, ¬ J x x) (hsy : ∀ x y, J x y -> J y x) (hDn : Dn n J mt D A cl) {at' x y : Nat} (ha : out at') (hx : x < n) (hxo : ¬ out x) (hfx : s.fr x = -1) (hJx : J x at') (hxy : mt x = (y : Int)) {W' : AW} {ln' : Value} {K' : Nat -> Prop}
  (hP : PairAt W' p w { s with fr := updI s.fr x (at' : Int), ot := s.ot ||| 1 <<< y, ln := ln' }) (hg : GrowsN W' ln' (q ++ [y]).length (natsV (q ++ [y])) 3 1 K') {done : Nat -> Prop} (hd : ∀ v, done v -> out v) :
  ∃ (s' : PS) (out' : Nat -> Prop), SI n p w r fe J mt D A cl K' W' s' out' base (q ++ [y]) /\ (∀ v, out v -> out' v) /\ (¬ out' x /\ s'.fr x ≠ -1) /\ ∀ u z, out u -> Ask n s.fr out base done u z -> Ask n s'.fr out' base done u z := by
 have e := h.emt
 subst e
 have hfr : ∀ z, updI s.fr x (at' : Int) z = if z = x then (at' : Int) else s.fr z := fun z => by
  by_cases e : z = x
  ·subst e; rw [updI_eq, if_pos rfl]
  ·rw [updI_ne _ _ e, if_neg e]
 have ho : ∀ z, (fun z => out z \/ z = y) z ↔ out z \/ z = y := fun z => Iff.rfl
 obtain ⟨g1, g2, g3⟩ := h.sr.grow hJi ha hx hxo hfx hJx hxy hfr ho
 have hyx : y ≠ x := fun e => by subst e; exact hJi _ (h.sr.mat.adj hx hxy)
 refine ⟨_, _, ⟨hP, rfl, h.efe, g1, h.inn.grow hxy hfr ho, h.mo.grow (h.sr.bnot g3 g2) ho, h.ti.grow hDn h.sr ha hx hxo g2 hJx hxy hfr ho, h.bs, fun z => ?_, ?_, fun z => ?_, hg⟩, fun v hv => .inl hv, ⟨fun g => g.elim hxo fun e => hyx e.symm, ?_⟩, fun u z hu hA => hA.grow hd g2 hfr ho⟩
 ·show (s.ot ||| 1 <<< y).testBit z = true ↔ _
  rw [bit_add, Bool.or_eq_true, decide_eq_true_eq, h.ot]
 ·exact List.nodup_append.2 ⟨h.nd, by simp, fun u hu v hv e => by rw [List.mem_singleton.1 hv] at e; subst e; exact g2 ((h.mem _).1 hu)⟩
 ·rw [List.mem_append, List.mem_singleton, h.mem]
 ·show updI s.fr x (at' : Int) x ≠ -1
  rw [updI_eq]; omega
theorem SI.turns (h : SI n p w r fe J mt D A cl K W s out base q) (hsy : ∀ x y, J x y -> J y x) (hDn : Dn n J mt D A cl) {at' x : Nat} (ha : out at') (hx : x < n) (hxo : ¬ out x) (hJx : J x at') (hxy : mt x = -1) :
  ∃ L, Turn n J (updI s.fr x (at' : Int)) mt mt r x x at' L (fun z => D z \/ A z) := by
 obtain ⟨hDa, hDx, hAx⟩ := h.ti.found hDn h.sr hsy ha hx hxo hxy hJx
 obtain ⟨L, g1, g2⟩ := h.sr.chain ha
 have hL := h.sr.all g1 ha
 have hq := h.ti.outside hDn h.sr hsy g1 ha hDa
 have hfree := h.sr.free
 have hout := h.sr.rout
 have hmat := h.sr.mat
 have hltr := h.sr.lt hout
 refine ⟨L, ⟨by rw [cut_free hxy]; exact hmat, hx, hltr, by rw [cut_free hxy]; exact hfree, ?_, by rw [cut_free hxy]; exact g2, fun hh => hxo (hL x hh), fun y hy => h.sr.lt (hL y hy), hJx, fun z hz => ?_, .inl rfl, fun z hz => ⟨rfl, fun e => ?_⟩, fun y hy hz => ?_, fun y hy e he hz => ?_⟩⟩
 ·rw [cut_free hxy]
  refine g1.same fun y hy e he => updI_ne _ _ fun e2 => ?_
  subst e2
  have := hmat.sym (h.sr.lt (hL y hy)) he
  omega
 ·rw [cut_free hxy]
  constructor
  ·intro g
   by_cases e : z = x
   ·exact .inr e
   ·exact .inl ⟨g, e⟩
  ·rintro (g | g)
   ·exact g.1
   ·rw [g]; exact hxy
 ·subst e; exact hz.elim hDx hAx
 ·exact hz.elim (hq.1 y hy).1 (hq.1 y hy).2
 ·rw [cut_free hxy] at he
  exact hz.elim (hq.2 y hy e he).1 (hq.2 y hy e he).2
theorem Dn.cong (h : Dn n J mt D A cl) {mt' : Nat -> Int} (he : ∀ z, D z \/ A z -> mt' z = mt z) : Dn n J mt' D A cl :=
 ⟨h.dlt, h.alt, h.dis, h.clD, h.clcl, h.clo, fun {x} hx hne => by rw [he x (.inl hx)]; exact h.inn hx hne, fun {x} hx e => by rw [he x (.inl hx)]; exact h.bas hx e, fun {y} hy => by rw [he y (.inr hy)]; exact h.mA hy, h.adjA, h.con⟩
open Classical in
theorem SI.done (h : SI n p w r fe J mt D A cl K W s out base q) (hJi : ∀ x, ¬ J x x) (hsy : ∀ x y, J x y -> J y x) (hDn : Dn n J mt D A cl) (hLo : Lone n J mt D A) (hA : ∀ x, out x -> ∀ z, J x z -> Ask n s.fr out base out x z) :
  ∃ (D' A' : Nat -> Prop) (cl' : Nat -> Nat), (Dn n J mt D' A' cl' /\ Lone n J mt D' A') /\ (∀ x, D' x ↔ D x \/ s.ot.testBit x = true) := by
 refine ⟨fun x => D x \/ out x, fun x => A x \/ (x < n /\ ¬ D x /\ ¬ out x /\ s.fr x ≠ -1), fun x => if D x then cl x else base x, ⟨hDn.next h.sr h.ti h.mo h.inn hsy (fun x hx z hz hzn => ?_) (fun x => Iff.rfl) (fun x => Iff.rfl) (fun x hx => if_pos hx) (fun x hx => if_neg hx), hLo.next h.sr hJi hsy (fun x => Iff.rfl) (fun x => Iff.rfl)⟩, fun x => or_congr_right (h.ot x).symm⟩
 rcases hA x hx z hz hzn with g | g | g
 ·exact .inl g
 ·exact absurd g.1 g.2
 ·exact .inr g
theorem SI.start (hP : PairAt W p w s) (hm : Mt n J s.mt) (hr : r < n) (hf : s.mt r = -1) (hDn : Dn n J s.mt D A cl) (h1 : ¬ D r) (h2 : ¬ A r) (hfr : ∀ x, x < n -> s.fr x = -1) (hbs : ∀ x, x < n -> s.bs x = (x : Int)) (hot : ∀ x, s.ot.testBit x = true ↔ x = r) (hg : GrowsN W s.ln [r].length (natsV [r]) 3 1 K) :
  SI n p w r s.fe J s.mt D A cl K W s (fun x => x = r) (fun x => x) [r] :=
 ⟨hP, rfl, rfl, .start hm hr hf hfr (fun x _ => rfl) (fun x => Iff.rfl), .start hfr, .start rfl (fun x => Iff.rfl), .start (n := n) h1 h2 (fun x hx => hDn.dlt hx) hfr (fun x => Iff.rfl), hbs, hot, by simp, fun x => by simp, hg⟩
end
theorem int_at31 {W : AW} {v : Value} {l : List Int} (h : IntR W v l) {i : Nat} {x : Int} (hi : l[i]? = some x) : ∃ b p, aIndexAddr T0 31 v (.int .i64 (i : Int)) = some (.pointer (some ⟨b, p, none⟩)) /\ aLoadVar T0 W 3 b p = some (.int .i64 x) /\ W.Has b p (.int .i64 x) := by
 obtain ⟨b, p, h1, h2, h3⟩ := h.int1 (T := T0) hi und31 sz3 und3 rfl
 exact ⟨b, p, h1, h3, h2⟩
def pOf (ps : List Nat) (i : Nat) : Nat := ps.getD i 0
theorem nat_some {ps : List Nat} {i : Nat} (h : i < ps.length) : (ps.map Int.ofNat)[i]? = some ((pOf ps i : Nat) : Int) := by
 rw [List.getElem?_map, pOf, List.getD_eq_getElem?_getD, List.getElem?_eq_getElem h]; rfl
noncomputable def topV (ll : List (List Int)) (ps : List Nat) (j : Nat) : Int := gainD ll.length (mAt ll) (pOf ps) (ll.length - 1) j
structure Rounds (ll : List (List Int)) (ps : List Nat) (vs : List Int) (r i j : Nat) : Prop where
 len : vs.length = ll.length
 low : ∀ q, q < ll.length -> 0 <= gI vs q /\ gI vs q <= topV ll ps q
 part : ∀ q, q < ll.length -> gainM (mAt ll) (pOf ps) (gainD ll.length (mAt ll) (pOf ps) r) (if q < j then i + 1 else i) q <= gI vs q
structure IsPrices (ll : List (List Int)) (ps : List Nat) (B : Nat -> Int) (us vs : List Int) : Prop where
 asg : IsAssign ll ps B
 ul : us.length = ll.length
 vl : vs.length = ll.length
 top : ∀ q, q < ll.length -> gI vs q = topV ll ps q
 us : ∀ i, i < ll.length -> gI us i = mAt ll i (pOf ps i) - gI vs (pOf ps i)


def ChoAt (n : Nat) (c : Nat -> Nat -> Int) (B : Nat -> Int) (ps : List Nat) (k : Nat) : Prop := ps.getD k 0 < n /\ (tk (fun i => ps.getD i 0) k).testBit (ps.getD k 0) = false /\
 c k (ps.getD k 0) + B (tk (fun i => ps.getD i 0) (k + 1)) = B (tk (fun i => ps.getD i 0) k) /\
 ∀ q, q < ps.getD k 0 -> ¬ ((tk (fun i => ps.getD i 0) k).testBit q = false /\ c k q + B (tk (fun i => ps.getD i 0) k ||| 1 <<< q) = B (tk (fun i => ps.getD i 0) k))
def TS (ps : List Nat) : Nat := tk (fun i => ps.getD i 0) ps.length
theorem TS_bit {ps : List Nat} {x : Nat} : (TS ps).testBit x = true ↔ ∃ i, i < ps.length /\ pOf ps i = x := tk_bit
structure Pre (n : Nat) (ps : List Nat) : Prop where
 len : ps.length <= n
 lt : ∀ i, i < ps.length -> pOf ps i < n
 dis : ∀ i j, i < j -> j < ps.length -> pOf ps i ≠ pOf ps j
def FarR (n : Nat) (c : Nat -> Nat -> Int) (B : Nat -> Int) (ps : List Nat) (j : Nat) (W : AW) (bv : Value) (w : Int) : Prop :=
 (bv = .slice none 0 0 /\ w = 0 /\ ∀ q, q < j -> (TS ps).testBit q = true) \/
 ((∃ a n c, bv = .slice (some a) n c) /\ ∃ x rs, x < j /\ (TS ps).testBit x = false /\ w = c ps.length x + B (TS ps ||| 1 <<< x) /\ (∀ q, q < j -> (TS ps).testBit q = false -> c ps.length q + B (TS ps ||| 1 <<< q) <= w) /\
  (∀ q, q < x -> (TS ps).testBit q = false -> c ps.length q + B (TS ps ||| 1 <<< q) < w) /\ IntR W bv ((x :: rs).map Int.ofNat) /\ (ps ++ x :: rs).length = n /\ ∀ k, ps.length < k -> k < n -> ChoAt n c B (ps ++ x :: rs) k)
variable {n : Nat} {c : Nat -> Nat -> Int} {B : Nat -> Int} {ps : List Nat} {j : Nat} {W W' : AW} {bv bv' : Value} {w w' : Int}
theorem refHas_wp {W : AW} {u : Value} {ps : List Nat} (hU : IntR W u (ps.map Int.ofNat)) (x : Nat) (ha : ps.length < 100000) :
  WpF T0 33 [u, .int .i64 (x : Int)] W (fun r W' => W' = W /\ r = .bool ((TS ps).testBit x)) := by
 obtain ⟨A1, c1, hu1⟩ := hU.len
 obtain ⟨n, hn⟩ : ∃ n, n = ps.length := ⟨_, rfl⟩
 rw [List.length_map, <- hn] at hu1
 have lu : ∀ W', aLen T0 W' 31 u = some (.int .i64 (n : Int)) := fun W' => by rw [hu1]; exact len_slice und31 _ _ _
 refine wpF fun33 rfl ?_
 try simp only [zzA]
 refine wpK_reg (fun R hR => by simp []; exact hR) ?_
 try simp only [zzA]
 refine wpK_reg (fun R hR => by simp []; exact hR) ?_
 try simp only [zzA]
 refine wpK_while (I := fun k A' W' => A'.n = 18 /\ A'.defers = [] /\ A'.tmps.get 0 = some (u) /\ A'.tmps.get 1 = some (.int .i64 (x : Int)) /\ W' = W /\ ∃ i : Nat, A'.tmps.get 5 = some (.int .i64 (i : Int)) /\ k = n - i /\ i <= n /\ ∀ q, q < i -> pOf ps q ≠ x)
  (J := fun A' W' => A'.n = 18 /\ A'.defers = [] /\ A'.tmps.get 0 = some (u) /\ A'.tmps.get 1 = some (.int .i64 (x : Int)) /\ W' = W /\ ∀ q, q < n -> pOf ps q ≠ x) (Rt := fun A' W' => W' = W /\ A'.tmps.get 4 = some (.bool true) /\ A'.n = 18 /\ A'.defers = [] /\ (TS ps).testBit x = true) (k := n) ?_ ?_ ?_ ?_
 ·exact ⟨rfl, rfl, by simp, by simp, rfl, 0, by simp, rfl, by omega, fun q hq => by omega⟩
 ·rintro k ⟨tm, n, ds⟩ Wa ⟨hn, hd, h0, h1, eW, i, h5, hk, hin, hno⟩ Q' hJ hRt hI
  simp only at hn hd h0 h1
  subst hn; subst hd
  subst Wa
  simp only at h5
  by_cases hlt : i < n
  case neg =>
   have e : i = n := by omega
   subst e
   try simp only [zzA]
   refine wpK_reg (fun R hR => by simp [h0, h5, lu]; exact hR) ?_
   try simp only [zzA]
   first | refine wpK_onF (by simp []) ?_ | refine wpK_out (by simp []) ?_ | refine zzF (by simp []) ?_ | refine zzB (by simp []) (wpK_skip ?_) | refine zzB (by simp []) ?_
   exact hJ _ _ ⟨rfl, rfl, by simp [h0, h1], by simp [h0, h1], rfl, hno⟩
  have hlt' : (i : Int) < n := by omega
  try simp only [zzA]
  refine wpK_reg (fun R hR => by simp [h0, h5, lu, hlt']; exact hR) ?_
  try simp only [zzA]
  first | refine wpK_onT (by simp [hlt]) ?_ | refine wpK_outT (by simp [hlt]) ?_ | refine zzE (by simp [hlt]) ?_ | refine wpK_endT (by simp [hlt]) ?_
  obtain ⟨bx, px, x1, x2, _⟩ := int_at31 hU (nat_some (ps := ps) (i := i) (by omega))
  refine wpK_block ?_
  by_cases he : pOf ps i = x
  ·rw [he] at x2
   try simp only [zzA]
   refine wpK_reg (fun R hR => by simp [h0, h1, h5, x1, x2]; exact hR) ?_
   try simp only [zzA]
   first | refine wpK_onT (by simp []) ?_ | refine wpK_outT (by simp []) ?_ | refine zzE (by simp []) ?_ | refine wpK_endT (by simp []) ?_
   try simp only [zzA]
   refine wpK_reg (fun R hR => by simp []; exact hR) ?_
   refine wpK_ret ?_
   simp only [leaves_ret, behind_ret]
   exact hRt _ _ ⟨rfl, by simp, rfl, rfl, TS_bit.2 ⟨i, by omega, he⟩⟩
  ·have he' : ¬ ((pOf ps i : Nat) : Int) = (x : Int) := by omega
   try simp only [zzA]
   refine wpK_reg (fun R hR => by simp [h0, h1, h5, x1, x2, he']; exact hR) ?_
   try simp only [zzA]
   first | refine wpK_onF (by simp [he]) ?_ | refine wpK_out (by simp [he]) ?_ | refine zzF (by simp [he]) ?_ | refine zzB (by simp [he]) (wpK_skip ?_) | refine zzB (by simp [he]) ?_
   simp only [zzH, zzG]
   try simp only [zzA]
   refine wpK_reg1 (fun R hR => by simp [h5]; exact hR) ?_
   exact hI (n - (i + 1)) _ _ (by omega) ⟨rfl, rfl, by simp [h0, h1], by simp [h0, h1], rfl, i + 1, by simp [i64_succ i (by omega)], rfl, by omega, fun q hq => by
    by_cases e : q = i
    ·subst e; exact he
    ·exact hno q (by omega)⟩
 ·rintro ⟨tm, m, ds⟩ W' ⟨e1, e2, e3, e4, e5⟩
  simp only at e2 e3 e4
  subst e1; subst e3; subst e4
  refine ⟨.inr rfl, rfl, [.bool true], by simp [e2], rfl, by rw [e5]; rfl⟩
 ·rintro ⟨tm, n, ds⟩ Wz ⟨hn, hd, h0, h1, eW, hno⟩
  simp only at hn hd h0 h1
  subst hn; subst hd
  subst Wz
  try simp only [zzA]
  refine wpK_reg (fun R hR => by simp []; exact hR) ?_
  refine wpK_ret ⟨.inr rfl, rfl, [.bool false], by simp, rfl, ?_⟩
  cases hb : (TS ps).testBit x with
  | false => rfl
  | true => obtain ⟨i, h1, h2⟩ := TS_bit.1 hb; exact absurd h2 (hno i (by omega))
theorem notnil31 (a : Addr) (n c : Nat) : aEq T0 31 (.slice (some a) n c) (.slice none 0 0) = some false := by kernel_rfl
theorem lay_ok {W : AW} {v : Value} {P : Int} {es : List Edge} (h : PairR W v es) (hl : es.length < 4611686018427387904) (hn : GraphOk P es) : WpF T0 54 [.agg ⟨[.int .i64 P, v]⟩] W (fun u W' => Ext W W' /\ ∃ p, W.next <= p /\ u = .tuple ⟨[.pointer (some ⟨p, 0, none⟩), .int .i64 0]⟩ /\ Web W' p P es) :=
 (lay_wp P h hl).mono (fun u W' ⟨h1, h2⟩ => ⟨h1, by
  rcases h2 with ⟨_, h2⟩ | ⟨h2, _⟩
  ·exact h2
  ·exact absurd hn h2⟩)
theorem load35 {W : AW} {p : Nat} {x y z : Value} (h : Var W p 35 [x, y, z]) : aLoadVar T0 W 35 p 0 = some (.agg ⟨[x, y, z]⟩) := h.load (T := T0) und35 agg35 inf35 is35
theorem give_wp {W : AW} {v : Value} (P : Int) {es : List Edge} (h : PairR W v es) : WpF T0 13 [.agg ⟨[.int .i64 P, v]⟩] W (fun u W' => Ext W W' /\ u = .agg ⟨[.int .i64 P, v]⟩) := by
 refine wpF fun13 rfl ?_
 obtain ⟨A, c, hv⟩ := h.len
 obtain ⟨W1, hW1, hE1, hV, hV2, hn1⟩ : ∃ W1, W1 = (W.newCells 24 [.int .i64 P, v]).newCells 25 [.int .i64 0, .slice none 0 0] /\ Ext W W1 /\ Var W1 W.next 24 [.int .i64 P, v] /\ Var W1 (W.next + 1) 25 [.int .i64 0, .slice none 0 0] /\ W1.next = W.next + 2 :=
  ⟨_, rfl, (Only.newCells _ _ _).trans (Only.newCells _ _ _), (Var.new _ _ _).ext (.newCells _ _ _), Var.new _ _ _, rfl⟩
 have l0 := hV.load1 (T := T0) und3 rfl (j := 0) (v := .int .i64 P) rfl
 have l1 := hV.load1 (T := T0) und22 rfl (j := 1) (v := v) rfl
 have bb : aBuild T0 25 [(0, .int .i64 P), (1, v)] = some (.agg ⟨[.int .i64 P, v]⟩) := by rw [hv]; exact build25 _ _ _ _
 obtain ⟨W3, g1, g2, g3, g4⟩ := hV2.store (T := T0) (t := 25) (v := .agg ⟨[.int .i64 P, v]⟩) (o := 0) inf25 (by rw [is25]; rfl) (by simp) (by rw [hv]; rfl)
 have hl3 := load25 (x := .int .i64 P) (y := v) (by simpa using g4)
 try simp only [zzA]
 refine wpK_reg (fun R hR => by simp [zero25, newCells_next, <- hW1]; exact hR) ?_
 try simp only [zzA]
 refine wpK_reg (fun R hR => by simp [l0, l1, bb, g1]; exact hR) ?_
 exact wpK_ret ⟨.inr rfl, rfl, [.agg ⟨[.int .i64 P, v]⟩], by simp [hl3], ⟨by omega, fun b hb hk => by rw [g3.2 b (by omega) (by omega), hE1.2 b hb hk]⟩, rfl⟩
abbrev IntN (W : AW) (v : Value) (l : List Int) : Prop := RowIn 1 (encI .i64) W v l
def Jn (es : List Edge) (a b : Int) : Prop := ∃ i : Nat, es[i]? = some (a, b) \/ es[i]? = some (b, a)
theorem Jn.symm {es : List Edge} {a b : Int} (h : Jn es a b) : Jn es b a := let ⟨i, h⟩ := h; ⟨i, h.symm⟩
open Classical in
theorem refJoined_wp {W : AW} {v : Value} (P : Int) {es : List Edge} (h : PairR W v es) (hl : es.length < 4611686018427387904) (a b : Int) : WpF T0 64 [.agg ⟨[.int .i64 P, v]⟩, .int .i64 a, .int .i64 b] W (fun u W' => Ext W W' /\ u = .bool (decide (Jn es a b))) := by
 refine wpF fun64 rfl ?_
 obtain ⟨W1, hW1, hE1, hn1, hV⟩ : ∃ W1, W1 = W.newCells 24 [.int .i64 P, v] /\ Ext W W1 /\ W1.next = W.next + 1 /\ Var W1 W.next 24 [.int .i64 P, v] := ⟨_, rfl, .newCells _ _ _, rfl, Var.new _ _ _⟩
 have hR := h.ext hE1
 obtain ⟨A, c, hv⟩ := h.len
 have l1 := hV.load1 (T := T0) und22 rfl (j := 1) (v := v) rfl
 have ll : aLen T0 W1 22 v = some (.int .i64 es.length) := by rw [hv]; exact len_slice und22 _ _ _
 try simp only [zzA]
 refine wpK_reg (fun R hR => by simp [<- hW1]; exact hR) ?_
 try simp only [zzA]
 refine wpK_reg (fun R hR => by simp []; exact hR) ?_
 try simp only [zzA]
 refine wpK_while (I := fun k A W' => A.n = 35 /\ A.defers = [] /\ A.tmps.get 1 = some (.int .i64 a) /\ A.tmps.get 2 = some (.int .i64 b) /\ A.tmps.get 3 = some (.pointer (some ⟨W.next, 0, none⟩)) /\ W' = W1 /\ ∃ i : Nat, A.tmps.get 7 = some (.int .i64 (i : Int)) /\ k = es.length - i /\ i <= es.length /\ ∀ j, j < i -> es[j]? ≠ some (a, b) /\ es[j]? ≠ some (b, a))
  (J := fun A W' => A.n = 35 /\ A.defers = [] /\ A.tmps.get 1 = some (.int .i64 a) /\ A.tmps.get 2 = some (.int .i64 b) /\ A.tmps.get 3 = some (.pointer (some ⟨W.next, 0, none⟩)) /\ W' = W1 /\ ¬ Jn es a b) (Rt := fun A W' => A.n = 35 /\ A.defers = [] /\ W' = W1 /\ A.tmps.get 6 = some (.bool true) /\ Jn es a b) (k := es.length) ?_ ?_ ?_ ?_
 ·exact ⟨rfl, rfl, by simp, by simp, by simp, rfl, 0, by simp, rfl, by omega, fun i hi => by omega⟩
 ·rintro k ⟨tm, n, ds⟩ W2 ⟨hn, hd, h1, h2, h3, e2, j, h7, hk, hj, hdiff⟩ Q' hJ hRt hI
  simp only at hn hd h1 h2 h3
  subst hn; subst hd
  subst W2
  simp only at h7
  by_cases hlt : j < es.length
  case neg =>
   have e : j = es.length := by omega
   subst e
   try simp only [zzA]
   refine wpK_reg (fun R hR => by simp [h3, h7, l1, ll]; exact hR) ?_
   try simp only [zzA]
   first | refine wpK_onF (by simp []) ?_ | refine wpK_out (by simp []) ?_ | refine zzF (by simp []) ?_ | refine zzB (by simp []) (wpK_skip ?_) | refine zzB (by simp []) ?_
   refine hJ _ _ ⟨rfl, rfl, by simp [h1, h2, h3], by simp [h1, h2, h3], by simp [h1, h2, h3], rfl, fun ⟨i, hi⟩ => ?_⟩
   have hlt : i < es.length := by
    rcases hi with hi | hi <;> exact (List.getElem?_eq_some_iff.1 hi).1
   rcases hi with hi | hi
   ·exact (hdiff i hlt).1 hi
   ·exact (hdiff i hlt).2 hi
  have hlt' : (j : Int) < es.length := by omega
  try simp only [zzA]
  refine wpK_reg (fun R hR => by simp [h3, h7, l1, ll, hlt']; exact hR) ?_
  try simp only [zzA]
  first | refine wpK_onT (by simp []) ?_ | refine wpK_outT (by simp []) ?_ | refine zzE (by simp []) ?_ | refine wpK_endT (by simp []) ?_
  obtain ⟨⟨x, y⟩, hxy⟩ : ∃ e : Edge, es[j] = e := ⟨_, rfl⟩
  have hxj : es[j]? = some (x, y) := by rw [List.getElem?_eq_getElem (by omega), hxy]
  obtain ⟨q2, o2, hx2, hh2⟩ := hR.at (T := T0) hxj und22 sz55 .i64
  have lxy := load55 hh2
  rw [pr] at lxy
  have eAB := aAgg55 x y a b
  have eBA := aAgg55 x y b a
  rw [pr, pr] at eAB eBA
  refine wpK_block ?_
  by_cases c1 : x = a /\ y = b
  ·rw [show (decide (x = a) && decide (y = b)) = true from by simp [c1.1, c1.2]] at eAB
   try simp only [zzA]
   refine wpK_reg (fun R hR => by simp [h1, h2, h3, h7, l1, hx2, lxy, build55, pr, eAB]; exact hR) ?_
   try simp only [zzA]
   first | refine wpK_onT (by simp []) ?_ | refine wpK_outT (by simp []) ?_ | refine zzE (by simp []) ?_ | refine wpK_endT (by simp []) ?_
   try simp only [zzA]
   refine wpK_reg (fun R hR => by simp []; exact hR) ?_
   exact wpK_ret (hRt _ _ ⟨rfl, rfl, rfl, by simp, j, .inl (by rw [hxj, c1.1, c1.2])⟩)
  rw [show (decide (x = a) && decide (y = b)) = false from by simp only [Bool.and_eq_false_iff, decide_eq_false_iff_not]; omega] at eAB
  by_cases c2 : x = b /\ y = a
  ·rw [show (decide (x = b) && decide (y = a)) = true from by simp [c2.1, c2.2]] at eBA
   try simp only [zzA]
   refine wpK_reg (fun R hR => by simp [h1, h2, h3, h7, l1, hx2, lxy, build55, pr, eAB, eBA]; exact hR) ?_
   try simp only [zzA]
   first | refine wpK_onT (by simp []) ?_ | refine wpK_outT (by simp []) ?_ | refine zzE (by simp []) ?_ | refine wpK_endT (by simp []) ?_
   try simp only [zzA]
   refine wpK_reg (fun R hR => by simp []; exact hR) ?_
   exact wpK_ret (hRt _ _ ⟨rfl, rfl, rfl, by simp, j, .inr (by rw [hxj, c2.1, c2.2])⟩)
  rw [show (decide (x = b) && decide (y = a)) = false from by simp only [Bool.and_eq_false_iff, decide_eq_false_iff_not]; omega] at eBA
  try simp only [zzA]
  refine wpK_reg (fun R hR => by simp [h1, h2, h3, h7, l1, hx2, lxy, build55, pr, eAB, eBA]; exact hR) ?_
  try simp only [zzA]
  first | refine wpK_onF (by simp []) ?_ | refine wpK_out (by simp []) ?_ | refine zzF (by simp []) ?_ | refine zzB (by simp []) (wpK_skip ?_) | refine zzB (by simp []) ?_
  simp only [zzH, zzG]
  try simp only [zzA]
  refine wpK_reg1 (fun R hR => by simp [h7]; exact hR) ?_
  refine hI (es.length - (j + 1)) _ _ (by omega) ⟨rfl, rfl, by simp [h1, h2, h3], by simp [h1, h2, h3], by simp [h1, h2, h3], rfl, j + 1, by simp [i64_succ j (by omega)], rfl, by omega, fun j' hj' => ?_⟩
  by_cases e : j' = j
  ·subst e; rw [hxj]; exact ⟨fun e => by cases e; exact c1 ⟨rfl, rfl⟩, fun e => by cases e; exact c2 ⟨rfl, rfl⟩⟩
  ·exact hdiff j' (by omega)
 ·rintro ⟨tm, m, ds⟩ W' ⟨h1, h2, h3, h4, h5⟩
  simp only at h1 h2 h4
  subst h1; subst h2; subst h3
  exact ⟨.inr rfl, rfl, [.bool true], by simp [h4], hE1, by rw [decide_eq_true h5]; rfl⟩
 ·rintro ⟨tm, n, ds⟩ W2 ⟨hn, hd, h1, h2, h3, e2, hg⟩
  simp only at hn hd h1 h2 h3
  subst hn; subst hd
  subst W2
  try simp only [zzA]
  refine wpK_reg (fun R hR => by simp []; exact hR) ?_
  exact wpK_ret ⟨.inr rfl, rfl, [.bool false], by simp, hE1, by rw [decide_eq_false hg]; rfl⟩
def RisTo (P : Int) (s : List Int) (k : Nat) : Prop := ∀ q, q < k -> 0 <= gI s q /\ gI s q < P /\ (0 < q -> gI s (q - 1) < gI s q)
theorem RisTo.succ {P : Int} {s : List Int} {k : Nat} (h : RisTo P s k) (h1 : 0 <= gI s k /\ gI s k < P /\ (0 < k -> gI s (k - 1) < gI s k)) : RisTo P s (k + 1) := fun q hq => by
 by_cases e : q = k
 ·subst e; exact h1
 ·exact h q (by omega)
def SetIs (S : Nat) (s : List Int) (k : Nat) : Prop := ∀ r : Nat, S.testBit r = true ↔ ∃ i, i < k /\ gI s i = (r : Int)
theorem smallRising_wp {W : AW} {v : Value} (P : Int) {s : List Int} (h : IntN W v s) (hP : P <= 40) (hl : s.length < 4611686018427387904) :
  WpF T0 61 [v, .int .i64 P] W (fun u W' => W' = W /\ ((RisTo P s s.length /\ ∃ S : Nat, S < 1099511627776 /\ SetIs S s s.length /\ u = .tuple ⟨[.int .u64 (S : Int), .bool true]⟩) \/ (¬ RisTo P s s.length /\ u = .tuple ⟨[.int .u64 0, .bool false]⟩))) := by
 refine wpF fun61 rfl ?_
 obtain ⟨A, c, hv⟩ := h.len
 obtain ⟨n, hn⟩ : ∃ n, n = s.length := ⟨_, rfl⟩
 have lv : ∀ W', aLen T0 W' 31 v = some (.int .i64 (n : Int)) := fun W' => by rw [hv, hn]; exact len_slice und31 _ _ _
 rw [<- hn]
 try simp only [zzA]
 refine wpK_reg (fun R hR => by simp []; exact hR) ?_
 try simp only [zzA]
 refine wpK_reg (fun R hR => by simp []; exact hR) ?_
 try simp only [zzA]
 refine wpK_reg (fun R hR => by simp [lv]; exact hR) ?_
 try simp only [zzA]
 refine wpK_while (I := fun k A W' => A.n = 31 /\ A.defers = [] /\ A.tmps.get 1 = some (.int .i64 P) /\ A.tmps.get 10 = some (v) /\ A.tmps.get 11 = some (.int .i64 (n : Int)) /\ W' = W /\ ∃ (i S : Nat) (last : Int), A.tmps.get 12 = some (.int .i64 (i : Int)) /\ A.tmps.get 6 = some (.int .u64 (S : Int)) /\ A.tmps.get 7 = some (.int .i64 last) /\ k = n - i /\ i <= n /\ RisTo P s i /\ S < 1099511627776 /\ SetIs S s i /\ ((i = 0 /\ last = -1) \/ (0 < i /\ last = gI s (i - 1))))
  (J := fun A W' => A.n = 31 /\ A.defers = [] /\ A.tmps.get 1 = some (.int .i64 P) /\ A.tmps.get 10 = some (v) /\ A.tmps.get 11 = some (.int .i64 (n : Int)) /\ W' = W /\ RisTo P s n /\ ∃ S : Nat, A.tmps.get 6 = some (.int .u64 (S : Int)) /\ S < 1099511627776 /\ SetIs S s n) (Rt := fun A W' => A.n = 31 /\ A.defers = [] /\ W' = W /\ A.tmps.get 4 = some (.int .u64 0) /\ A.tmps.get 5 = some (.bool false) /\ ¬ RisTo P s n) (k := n) ?_ ?_ ?_ ?_
 ·exact ⟨rfl, rfl, by simp, by simp, by simp, rfl, 0, 0, -1, by simp, by simp, by simp, rfl, by omega, fun i hi => by omega, by omega, fun r => ⟨fun h => by simp at h, fun ⟨i, hi, _⟩ => by omega⟩, .inl ⟨rfl, rfl⟩⟩
 ·rintro k ⟨tm, n, ds⟩ W2 ⟨hn, hd, h1, h10, h11, e2, i, S, last, h12, h6, h7, hk, hi, hg, hS1, hS2, hlast⟩ Q' hJ hRt hI
  simp only at hn hd h1 h10 h11
  subst hn; subst hd
  subst W2
  simp only at h12 h6 h7
  by_cases hlt : i < n
  case neg =>
   have e : i = n := by omega
   subst e
   try simp only [zzA]
   refine wpK_reg (fun R hR => by simp [h11, h12]; exact hR) ?_
   try simp only [zzA]
   first | refine wpK_onF (by simp []) ?_ | refine wpK_out (by simp []) ?_ | refine zzF (by simp []) ?_ | refine zzB (by simp []) (wpK_skip ?_) | refine zzB (by simp []) ?_
   exact hJ _ _ ⟨rfl, rfl, by simp [h1, h10, h11], by simp [h1, h10, h11], by simp [h1, h10, h11], rfl, hg, S, by simp [h6], hS1, hS2⟩
  have hlt' : (i : Int) < n := by omega
  try simp only [zzA]
  refine wpK_reg (fun R hR => by simp [h11, h12, hlt']; exact hR) ?_
  try simp only [zzA]
  first | refine wpK_onT (by simp [hlt]) ?_ | refine wpK_outT (by simp [hlt]) ?_ | refine zzE (by simp [hlt]) ?_ | refine wpK_endT (by simp [hlt]) ?_
  obtain ⟨bx, px, x1, x2, _⟩ := int_at31 h (gI_some (l := s) (i := i) (by omega))
  have hno : ¬ (0 <= gI s i /\ gI s i < P /\ (0 < i -> gI s (i - 1) < gI s i)) -> ¬ RisTo P s n := fun hh hr => hh (hr i hlt)
  have hyes := hg.succ
  have hlow : -1 <= last := by
   rcases hlast with ⟨_, e⟩ | ⟨h0, e⟩
   ·omega
   ·have := hg (i - 1) (by omega); omega
  have hset : ∀ q : Nat, gI s i = (q : Int) -> SetIs (S ||| 1 <<< q) s (i + 1) := fun q hq r => by
   rw [or_bit]
   constructor
   ·intro hh
    rcases Bool.or_eq_true_iff.1 hh with hh | hh
    ·obtain ⟨j, hj, e⟩ := (hS2 r).1 hh
     exact ⟨j, by omega, e⟩
    ·have := of_decide_eq_true hh
     exact ⟨i, by omega, by omega⟩
   ·rintro ⟨j, hj, e⟩
    by_cases ej : j = i
    ·subst ej; rw [decide_eq_true (by omega)]; simp
    ·rw [(hS2 r).2 ⟨j, by omega, e⟩]; rfl
  refine wpK_block ?_
  generalize hx : gI s i = x at x2 hno hyes hset
  try simp only [zzA]
  refine wpK_reg (fun R hR => by simp [h10, h12, x1, x2]; exact hR) ?_
  by_cases b1 : x <= last
  ·try simp only [zzA]
   refine wpK_reg (fun R hR => by simp [h7, b1]; exact hR) ?_
   try simp only [zzA]
   first | refine wpK_onT (by simp []) ?_ | refine wpK_outT (by simp []) ?_ | refine zzE (by simp []) ?_ | refine wpK_endT (by simp []) ?_
   try simp only [zzA]
   refine wpK_reg (fun R hR => by simp []; exact hR) ?_
   exact wpK_ret (hRt _ _ ⟨rfl, rfl, rfl, by simp, by simp, hno (fun hh => by
    rcases hlast with ⟨_, e⟩ | ⟨h0, e⟩
    ·omega
    ·have := hh.2.2 h0; omega)⟩)
  by_cases b2 : P <= x
  ·try simp only [zzA]
   refine wpK_reg (fun R hR => by simp [h1, h7, b1, b2]; exact hR) ?_
   try simp only [zzA]
   first | refine wpK_onT (by simp []) ?_ | refine wpK_outT (by simp []) ?_ | refine zzE (by simp []) ?_ | refine wpK_endT (by simp []) ?_
   try simp only [zzA]
   refine wpK_reg (fun R hR => by simp []; exact hR) ?_
   exact wpK_ret (hRt _ _ ⟨rfl, rfl, rfl, by simp, by simp, hno (by omega)⟩)
  try simp only [zzA]
  refine wpK_reg (fun R hR => by simp [h1, h7, b1, b2]; exact hR) ?_
  try simp only [zzA]
  first | refine wpK_onF (by simp []) ?_ | refine wpK_out (by simp []) ?_ | refine zzF (by simp []) ?_ | refine zzB (by simp []) (wpK_skip ?_) | refine zzB (by simp []) ?_
  obtain ⟨q, hq⟩ : ∃ q : Nat, x = (q : Int) := ⟨x.toNat, by omega⟩
  subst hq
  have o1 := one_wp q (by omega) W
  have hor := aBinI_or .u64 S (1 <<< q) (by show S < 18446744073709551616; omega) (by rw [Nat.one_shiftLeft]; show 2 ^ q < 2 ^ 64; exact Nat.pow_lt_pow_right (by omega) (by omega))
  have hS3 := or_lt hS1 (s := q) (by omega)
  have hset := hset q rfl
  generalize S ||| 1 <<< q = S' at hor hS3 hset
  generalize 1 <<< q = oq at hor o1
  try simp only [zzA]
  refine wpK_reg1 (fun R hR => by
    simp [h6, hor, aEnter, fun68, zzC, aCallV]; rw [zzD]
    refine (o1).mono ?_
    rintro _ W9 ⟨e9, rfl⟩; subst W9
    simp [h6, hor]; exact hR) ?_
  simp only [zzH, zzG]
  refine wpK_keep (fun tm' => tm'.get 1 = some (.int .i64 P) /\ tm'.get 6 = some (.int .u64 (S' : Int)) /\ tm'.get 7 = some (.int .i64 (q : Int)) /\ tm'.get 10 = some (v) /\ tm'.get 11 = some (.int .i64 (n : Int)) /\ tm'.get 12 = some (.int .i64 (i : Int))) (by simp [h1, h10, h11, h12]) ?_
  rintro tm ⟨h1, h6, h7, h10, h11, h12⟩
  try simp only [zzA]
  refine wpK_reg1 (fun R hR => by simp [h12]; exact hR) ?_
  exact hI (n - (i + 1)) _ _ (by omega) ⟨rfl, rfl, by simp [h1, h10, h11], by simp [h1, h10, h11], by simp [h1, h10, h11], rfl, i + 1, S', _, by simp [i64_succ i (by omega)], by simp [h6], by simp [h7]; rfl, rfl, by omega, hyes ⟨by omega, by omega, fun hh => by
    rcases hlast with ⟨e0, e⟩ | ⟨h0, e⟩ <;> omega⟩, hS3, hset, .inr ⟨by omega, by rw [Nat.add_sub_cancel]; exact hx.symm⟩⟩
 ·rintro ⟨tm, m, ds⟩ W' ⟨h1, h2, h3, h4, h5, h6⟩
  simp only at h1 h2 h4 h5
  subst h1; subst h2; subst h3
  exact ⟨.inr rfl, rfl, [.int .u64 0, .bool false], by simp [h4, h5], rfl, .inr ⟨h6, rfl⟩⟩
 ·rintro ⟨tm, n, ds⟩ W2 ⟨hn, hd, h1, h10, h11, e2, hg, S, h6, hS1, hS2⟩
  simp only at hn hd h1 h10 h11
  subst hn; subst hd
  subst W2
  simp only at h6
  try simp only [zzA]
  refine wpK_reg (fun R hR => by simp [h6]; exact hR) ?_
  exact wpK_ret ⟨.inr rfl, rfl, [.int .u64 (S : Int), .bool true], by simp, rfl, .inl ⟨hg, S, hS1, hS2, rfl⟩⟩
def PairOk (P : Int) (es : List Edge) (p : List Int) (k : Nat) : Prop := ∀ i, i < k -> gI p i = -1 \/ (0 <= gI p i /\ gI p i < P /\ gI p (gI p i).toNat = (i : Int) /\ Jn es (i : Int) (gI p i))
theorem PairOk.succ {P : Int} {es : List Edge} {p : List Int} {k : Nat} (h : PairOk P es p k) (h1 : gI p k = -1 \/ (0 <= gI p k /\ gI p k < P /\ gI p (gI p k).toNat = (k : Int) /\ Jn es (k : Int) (gI p k))) : PairOk P es p (k + 1) := fun q hq => by
 by_cases e : q = k
 ·subst e; exact h1
 ·exact h q (by omega)
def cnt1 (p : List Int) (k : Nat) : Int := sumN k (fun i => if gI p i = -1 then 0 else 1)
def cnt2 (p : List Int) (k : Nat) : Int := sumN k (fun i => if gI p i = -1 then 0 else if (i : Int) < gI p i then 1 else 0)
theorem cnt_in {f : Nat -> Int} (hf : ∀ i, 0 <= f i /\ f i <= 1) : ∀ k : Nat, 0 <= sumN k f /\ sumN k f <= (k : Int)
 | 0 => by simp [sumN]
 | k + 1 => by
  have := cnt_in hf k
  have := hf k
  simp only [sumN]; omega
theorem cnt1_in (p : List Int) (k : Nat) : 0 <= cnt1 p k /\ cnt1 p k <= k := cnt_in (fun i => by split <;> omega) k
theorem cnt2_in (p : List Int) (k : Nat) : 0 <= cnt2 p k /\ cnt2 p k <= k := cnt_in (fun i => by split; omega; split <;> omega) k
theorem cnt_twice {P : Int} {es : List Edge} (hg : GraphOk P es) {p : List Int} (hl : (p.length : Int) = P) (h : PairOk P es p p.length) : cnt1 p p.length = 2 * cnt2 p p.length := by
 obtain ⟨n, hn⟩ : ∃ n, n = p.length := ⟨_, rfl⟩
 rw [<- hn] at h hl ⊢
 have hne : ∀ i, i < n -> gI p i ≠ (i : Int) := fun i hi e => by
  rcases h i hi with h1 | ⟨h1, h2, h3, j, h4⟩
  ·omega
  ·rw [e] at h4
   rcases h4 with h4 | h4
   ·have hj := (List.getElem?_eq_some_iff.1 h4).1
    exact (hg.2.2.2 j hj _ _ h4).2.2.2.2.1 rfl
   ·have hj := (List.getElem?_eq_some_iff.1 h4).1
    exact (hg.2.2.2 j hj _ _ h4).2.2.2.2.1 rfl
 have e1 : cnt1 p n = cnt2 p n + sumN n (fun i => if gI p i = -1 then 0 else if gI p i < (i : Int) then 1 else 0) := by
  unfold cnt1 cnt2
  rw [<- sumN_add (f := fun i => if gI p i = -1 then 0 else if (i : Int) < gI p i then 1 else 0) (g := fun i => if gI p i = -1 then 0 else if gI p i < (i : Int) then 1 else 0)]
  refine sumN_congr (fun i hi => ?_)
  have := hne i hi
  split
  ·rfl
  ·split <;> split <;> omega
 have e2 : cnt2 p n = sumN n (fun i => sumN n (fun j => if j = (gI p i).toNat then (if gI p i = -1 then 0 else if (i : Int) < gI p i then 1 else 0) else 0)) := by
  refine sumN_congr (fun i hi => ?_)
  rcases h i hi with h1 | ⟨h1, h2, h3, h4⟩
  ·rw [if_pos h1]
   symm
   refine (sumN_congr (g := fun _ => 0) (fun j hj => ?_)).trans sumN_zero
   split <;> rfl
  ·exact (sumN_one (n := n) (k := (gI p i).toNat) (x := fun _ => if gI p i = -1 then 0 else if (i : Int) < gI p i then 1 else 0) (by omega)).symm
 have e3 : sumN n (fun j => if gI p j = -1 then 0 else if gI p j < (j : Int) then 1 else 0) = sumN n (fun j => sumN n (fun i => if j = (gI p i).toNat then (if gI p i = -1 then 0 else if (i : Int) < gI p i then 1 else 0) else 0)) := by
  refine sumN_congr (fun j hj => ?_)
  rcases h j hj with h1 | ⟨h1, h2, h3, h4⟩
  ·rw [if_pos h1]
   symm
   refine (sumN_congr (g := fun _ => 0) (fun i hi => ?_)).trans sumN_zero
   split
   ·rename_i e
    rcases h i hi with g1 | ⟨g1, g2, g3, g4⟩
    ·rw [if_pos g1]
    ·rw [<- e] at g3; omega
   ·rfl
  ·refine ((sumN_congr (fun i hi => ?_)).trans (sumN_one (n := n) (k := (gI p j).toNat) (x := fun _ => if gI p j = -1 then 0 else if gI p j < (j : Int) then 1 else 0) (by omega))).symm
   by_cases e : i = (gI p j).toNat
   ·rw [if_pos e]
    subst e
    rw [h3]
    rw [if_pos (by omega), if_neg (by omega), if_neg (by omega : ¬ gI p j = -1)]
    have : (((gI p j).toNat : Nat) : Int) = gI p j := by omega
    rw [this]
   ·rw [if_neg e]
    split
    ·rename_i e2
     rcases h i hi with g1 | ⟨g1, g2, g3, g4⟩
     ·rw [if_pos g1]
     ·rw [<- e2] at g3; exact absurd (by omega) e
    ·rfl
 rw [sumN_swap] at e3
 omega
def PairingIs (P : Int) (es : List Edge) (p : List Int) (k : Int) (b : Bool) : Prop := (b = true /\ (p.length : Int) = P /\ PairOk P es p p.length /\ k = cnt2 p p.length) \/ (b = false /\ k = 0 /\ ¬ ((p.length : Int) = P /\ PairOk P es p p.length))
theorem join_bit {es : List Edge} {J : List Nat} (h : JoinL es J) {q r : Nat} (hq : q < 40) : J.getD q 0 < 1099511627776 /\ ((J.getD q 0).testBit r = true ↔ Jn es (q : Int) (r : Int)) := by
 have e : J[q]? = some (J.getD q 0) := by rw [List.getD_eq_getElem?_getD, List.getElem?_eq_getElem (by rw [h.1]; exact hq)]; rfl
 exact ⟨(h.2 q _ e).1, (h.2 q _ e).2 r⟩
theorem web_load {W : AW} {p : Nat} {P : Int} {J : List Nat} (h : Var W p 108 (.int .i64 P :: J.map setV)) {i : Nat} (hi : i < J.length) : aLoadVar T0 W 96 p (1 + i) = some (.int .u64 ((J.getD i 0 : Nat) : Int)) :=
 h.load1 (T := T0) und96 rfl (j := 1 + i) (v := setV (J.getD i 0)) (setV_get P hi)
theorem und137 : T0.und.get 137 = some Tryd.t137.desc := by kernel_rfl
theorem agg137 : isAggD Tryd.t137.desc = false := by kernel_rfl
def Sought (n r : Nat) (J : Nat -> Nat -> Prop) (D A : Nat -> Prop) (s s' : PS) : Prop :=
 s'.fe = s.fe /\ ((s'.mt = s.mt /\ (∃ (D' A' : Nat -> Prop) (cl' : Nat -> Nat), (Dn n J s.mt D' A' cl' /\ Lone n J s.mt D' A') /\ ∀ x, D' x ↔ D x \/ s'.ot.testBit x = true) /\ s'.ot < 1099511627776 /\ s'.ot.testBit r = true /\ ∀ x, s'.ot.testBit x = true -> s.mt x = -1 -> x = r) \/
  (Mt n J s'.mt /\ (∃ e0, e0 < n /\ e0 ≠ r /\ s.mt e0 = -1 /\ ∀ x, x < n -> (s'.mt x = -1 ↔ s.mt x = -1 /\ x ≠ e0 /\ x ≠ r)) /\ ∀ z, D z \/ A z -> s'.mt z = s.mt z))
theorem search_wp {n p w r : Nat} {J : Nat -> Nat -> Prop} {D A : Nat -> Prop} {cl : Nat -> Nat} {s : PS} {Jl : List Nat} {W : AW} (hn : n <= 40) (hJi : ∀ x, ¬ J x x) (hsy : ∀ x y, J x y -> J y x) (hJn : ∀ x z, J x z -> z < n) (hJl : Jl.length = 40) (hWj : ∀ x z, x < n -> ((Jl.getD x 0).testBit z = true ↔ J x z))
  (hP : PairAt W p w s) (hVw : Var W w 108 (.int .i64 (n : Int) :: Jl.map setV)) (hwp : w ≠ p) (hT : tabsIn T0 T0.tabs W = true) (hp0 : 0 < p) (hm : Mt n J s.mt) (hr : r < n) (hf : s.mt r = -1) (hDn : Dn n J s.mt D A cl) (hLo : Lone n J s.mt D A) (hD : ¬ D r) (hA : ¬ A r) :
  WpF T0 78 [.pointer (some ⟨p, 0, none⟩), .int .i64 (r : Int), .func (.func 79) ⟨[.pointer (some ⟨p, 0, none⟩)]⟩ ⟨[]⟩] W (fun _ W' => Only (fun x => x = p) W W' /\ ∃ s', PairAt W' p w s' /\ Sought n r J D A s s') := by
 refine wpFd fun78 rfl ?_
 have hpW : p < W.next := hP.1
 have hwW : w < W.next := hVw.1
 obtain ⟨fv, hfv⟩ : ∃ fv, fv = Value.func (.func 79) ⟨[.pointer (some ⟨p, 0, none⟩)]⟩ ⟨[]⟩ := ⟨_, rfl⟩
 obtain ⟨c3, hc3⟩ : ∃ c, c = W.next := ⟨_, rfl⟩
 obtain ⟨W1, hW1, hE1, hV3, hn1⟩ : ∃ W1, W1 = W.newCells 99 [.pointer (some ⟨p, 0, none⟩)] /\ Ext W W1 /\ Var W1 c3 99 [.pointer (some ⟨p, 0, none⟩)] /\ W1.next = W.next + 1 := ⟨_, rfl, .newCells _ _ _, by rw [hc3]; exact Var.new _ _ _, rfl⟩
 obtain ⟨c5, hc5⟩ : ∃ c, c = W1.next := ⟨_, rfl⟩
 obtain ⟨W2, hW2, hE2, hV5, hn2⟩ : ∃ W2, W2 = W1.newCells 137 [Value.func (.func 79) ⟨[.pointer (some ⟨p, 0, none⟩)]⟩ ⟨[]⟩] /\ Ext W1 W2 /\ Var W2 c5 137 [fv] /\ W2.next = W1.next + 1 := ⟨_, rfl, .newCells _ _ _, by rw [hc5, hfv]; exact Var.new _ _ _, rfl⟩
 try simp only [zzA]
 refine wpK_reg (fun R hR => by simp [<- hW1, <- hW2]; exact hR) ?_
 have hE02 := hE1.trans hE2
 have hV3 := hV3.ext hE2
 have hP2 := hP.ext hE02
 have hw2 := hVw.ext hE02
 have q3 := hV3.load1 (T := T0) und99 rfl (j := 0) (v := .pointer (some ⟨p, 0, none⟩)) rfl
 have q1 := ps_web hP2
 have q2 := hw2.load1 (T := T0) und3 rfl (j := 0) (v := .int .i64 (n : Int)) rfl
 rw [hc3] at q3
 try simp only [zzA]
 refine wpK_reg (fun R hR => by simp [q3, q1, q2]; exact hR) ?_
 rw [<- hc3] at q3
 refine wpK_keep (fun tm' => tm'.get 1 = some (.int .i64 (r : Int)) /\ tm'.get 3 = some (.pointer (some ⟨c3, 0, none⟩)) /\ tm'.get 5 = some (.pointer (some ⟨c5, 0, none⟩)) /\ tm'.get 16 = some (.int .i64 (n : Int)) /\ tm'.get 17 = some (.int .i64 0)) (by simp [hc3, hc5]) ?_
 rintro tm ⟨h1, h3, h5, h16, h17⟩
 try simp only [zzA]
 refine wpK_while (I := fun qq A' W' => A'.n = 118 /\ A'.defers = [] /\ A'.tmps.get 1 = some (.int .i64 (r : Int)) /\ A'.tmps.get 3 = some (.pointer (some ⟨c3, 0, none⟩)) /\ A'.tmps.get 5 = some (.pointer (some ⟨c5, 0, none⟩)) /\ A'.tmps.get 16 = some (.int .i64 (n : Int)) /\ Only (fun x => x = p) W2 W' /\ ∃ (i : Nat) (bs fr : Nat -> Int), A'.tmps.get 17 = some (.int .i64 (i : Int)) /\ qq = n - i /\ i <= n /\ PairAt W' p w { s with bs := bs, fr := fr } /\ (∀ x, x < i -> bs x = (x : Int)) /\ ∀ x, x < i -> fr x = -1)
  (J := fun A' W' => A'.n = 118 /\ A'.defers = [] /\ A'.tmps.get 1 = some (.int .i64 (r : Int)) /\ A'.tmps.get 3 = some (.pointer (some ⟨c3, 0, none⟩)) /\ A'.tmps.get 5 = some (.pointer (some ⟨c5, 0, none⟩)) /\ A'.tmps.get 16 = some (.int .i64 (n : Int)) /\ Only (fun x => x = p) W2 W' /\ ∃ (bs fr : Nat -> Int), PairAt W' p w { s with bs := bs, fr := fr } /\ (∀ x, x < n -> bs x = (x : Int)) /\ ∀ x, x < n -> fr x = -1) (Rt := fun _ _ => False) (k := n) ?_ ?_ ?_ ?_
 ·exact ⟨rfl, rfl, by simp [h1, h3, h5, h16], by simp [h1, h3, h5, h16], by simp [h1, h3, h5, h16], by simp [h1, h3, h5, h16], .refl _ _, 0, s.bs, s.fr, by simp [h17], rfl, by omega, hP2, fun x hx => by omega, fun x hx => by omega⟩
 ·rintro qq ⟨tm, n, ds⟩ Wa ⟨hn, hd, h1, h3, h5, h16, hOa, i, bs, fr, h17, hqq, hil, hPa, hx1, hx2⟩ Q' hJ hRt hI
  simp only at hn hd h1 h3 h5 h16
  subst hn; subst hd
  simp only at h17
  by_cases hlt : i < n
  case neg =>
   have hlt' : ¬ (i : Int) < n := by omega
   try simp only [zzA]
   refine wpK_reg (fun R hR => by simp [h16, h17, hlt']; exact hR) ?_
   try simp only [zzA]
   first | refine wpK_onF (by simp [hlt]) ?_ | refine wpK_out (by simp [hlt]) ?_ | refine zzF (by simp [hlt]) ?_ | refine zzB (by simp [hlt]) (wpK_skip ?_) | refine zzB (by simp [hlt]) ?_
   exact hJ _ _ ⟨rfl, rfl, by simp [h1, h3, h5, h16], by simp [h1, h3, h5, h16], by simp [h1, h3, h5, h16], by simp [h1, h3, h5, h16], hOa, bs, fr, hPa, fun x hx => hx1 x (by omega), fun x hx => hx2 x (by omega)⟩
  have hlt' : (i : Int) < n := by omega
  try simp only [zzA]
  refine wpK_reg (fun R hR => by simp [h16, h17, hlt']; exact hR) ?_
  try simp only [zzA]
  first | refine wpK_onT (by simp [hlt]) ?_ | refine wpK_outT (by simp [hlt]) ?_ | refine zzE (by simp [hlt]) ?_ | refine wpK_endT (by simp [hlt]) ?_
  have k3 := (hV3.only hOa (by omega)).load1 (T := T0) und99 rfl (j := 0) (v := .pointer (some ⟨p, 0, none⟩)) rfl
  obtain ⟨Wb, w1, w2, w3, w4⟩ := ps_setBs hPa (j := i) (by omega) (i : Int)
  have k3b := ((hV3.only hOa (by omega)).only w3 (by omega)).load1 (T := T0) und99 rfl (j := 0) (v := .pointer (some ⟨p, 0, none⟩)) rfl
  obtain ⟨Wc, x1, x2, x3, x4⟩ := ps_setFr w4 (j := i) (by omega) (-1)
  simp only at x4
  have nb := w3.1
  have ncc := x3.1
  have nbc := Nat.le_trans nb ncc
  have i1 := ix94 p 41 i (by omega)
  have i2 := ix94 p 81 i (by omega)
  refine wpK_block ?_
  try simp only [zzA]
  refine wpK_reg (fun R hR => by simp [h17]; exact hR) ?_
  try simp only [zzA]
  refine wpK_qn (wr := Tr.nil |>.set 20 0 |>.set 21 1 |>.set 22 2 |>.set 23 3 |>.set 24 4 |>.set 25 5 |>.set 26 6 |>.set 27 7 |>.set 28 9 |>.set 29 10 |>.set 30 11) (bits := Tr.nil.lay 0 [0, 0, 0, 0, 0, 1, 33, 115, 243, 4, 516, 2047, 4095]) (ord := [0, 1, 2, 3, 4, 5, 6, 7, 8, 9, 10, 11, 12]) (by kernel_rfl) (by kernel_rfl) (by kernel_rfl) (fun G hG => by
   simp [h3, h17, k3, k3b, i1, i2, w1, x1, nb, ncc, nbc]
   exact hG) ?_
  simp only [zzH, zzG]
  try simp only [zzA]
  refine wpK_reg1 (fun R hR => by simp [h17]; exact hR) ?_
  refine hI (n - (i + 1)) _ _ (by omega) ⟨rfl, rfl, by simp [h1, h3, h5, h16], by simp [h1, h3, h5, h16], by simp [h1, h3, h5, h16], by simp [h1, h3, h5, h16], (hOa.trans w3).trans x3, i + 1, _, _, by simp [i64_succ i (by omega)], rfl, by omega, x4, fun x hx => ?_, fun x hx => ?_⟩
  ·by_cases e : x = i
   ·subst e; exact updI_eq _ _ _
   ·rw [updI_ne _ _ e]; exact hx1 x (by omega)
  ·by_cases e : x = i
   ·subst e; exact updI_eq _ _ _
   ·rw [updI_ne _ _ e]; exact hx2 x (by omega)
 ·rintro A' W' hf; exact hf.elim
 rintro ⟨tm, n, ds⟩ W3 ⟨hn, hd, h1, h3, h5, h16, hO3, bs0, fr0, hP3, hb0, hf0⟩
 simp only at hn hd h1 h3 h5 h16
 subst hn; subst hd
 obtain ⟨W4, w1, w2, w3, w4⟩ := ps_setOt hP3 0
 have w1 : aStoreVar T0 W3 96 p 121 (.int .u64 0) = some W4 := w1
 obtain ⟨W5, x1, x2, x3, x4⟩ := ps_setLn w4 (.slice none 0 0) ⟨_, _, _, rfl⟩
 simp only at x4
 have k3 := (hV3.only hO3 (by omega)).load1 (T := T0) und99 rfl (j := 0) (v := .pointer (some ⟨p, 0, none⟩)) rfl
 have k3b := ((hV3.only hO3 (by omega)).only w3 (by omega)).load1 (T := T0) und99 rfl (j := 0) (v := .pointer (some ⟨p, 0, none⟩)) rfl
 have k3c := (((hV3.only hO3 (by omega)).only w3 (by omega)).only x3 (by omega)).load1 (T := T0) und99 rfl (j := 0) (v := .pointer (some ⟨p, 0, none⟩)) rfl
 have nb := w3.1
 have ncc := x3.1
 have nbc := Nat.le_trans nb ncc
 have n3 := hO3.1
 try simp only [zzA]
 refine wpK_dn (wr := Tr.nil |>.set 32 0 |>.set 33 1 |>.set 34 2 |>.set 35 3 |>.set 36 5 |>.set 37 6) (bits := Tr.nil.lay 0 [0, 0, 1, 5, 13, 31, 63, 127]) (ord := [0, 1, 2, 3, 4, 5, 6, 7]) (by kernel_rfl) (by kernel_rfl) (by kernel_rfl) (fun G hG => by
  simp [h3, k3, k3b, w1, x1, nb, ncc, nbc]
  exact hG) ?_
 try simp only [zzA]
 refine wpK_x2 (fun R hR => by
   simp [h1, h3, k3c, aEnter, fun87, zzC, aCallV]; rw [zzD]
   refine (reach_wp (q := []) (K := fun _ => False) (k := r) x4 (GrowsN.nil _ _ _ _) (fun x => x) (by omega) (by show (0 : Nat) < _; omega) (by simp)).mono ?_
   rintro v W6 ⟨hO6, n6, ln', y5, y6⟩
   simp [h1, h3, k3c]; exact hR v ln' W6 (And.intro hO6 (And.intro n6 (And.intro y5 y6)))) ?_
 rintro v ln' W6 ⟨hO6, n6, y5, y6⟩
 simp only [List.nil_append] at y5 y6
 have hO26 : Only (fun x => x = p) W2 W6 := ((hO3.trans w3).trans x3).trans (hO6.mono (fun x _ hx => hx.resolve_right id))
 have n26 := hO26.1
 have n25 : W2.next <= W5.next := by omega
 have hSI6 := SI.start (D := D) (A := A) (cl := cl) (r := r) (J := J) y5 hm hr hf hDn hD hA hf0 hb0 (fun x => by
  show (0 ||| 1 <<< r).testBit x = true ↔ _
  rw [bit_add]; simp) y6
 obtain ⟨lo, hlo⟩ : ∃ lo, lo = W2.next := ⟨_, rfl⟩
 have hplo : p < lo := by omega
 have hwlo : w < lo := by omega
 have h3lo : c3 < lo := by omega
 have h5lo : c5 < lo := by omega
 obtain ⟨T1, hT1⟩ : ∃ T1 : AW -> Prop, T1 = fun V => Only (fun x => x = p \/ lo <= x) W2 V := ⟨_, rfl⟩
 have hT2 := tabs_ext hT (by omega) hE02
 have t3 : ∀ {V}, T1 V -> aLoadVar T0 V 99 c3 0 = some (.pointer (some ⟨p, 0, none⟩)) := fun {V} h => by
  rw [hT1] at h; exact (hV3.only h (by omega)).load1 (T := T0) und99 rfl (j := 0) (v := .pointer (some ⟨p, 0, none⟩)) rfl
 have t5 : ∀ {V}, T1 V -> aLoadVar T0 V 137 c5 0 = some fv := fun {V} h => by
  rw [hT1] at h; exact (hV5.only h (by omega)).load1 (T := T0) und137 agg137 (j := 0) (v := fv) rfl
 have tw : ∀ {V}, T1 V -> Var V w 108 (.int .i64 (n : Int) :: Jl.map setV) := fun {V} h => by
  rw [hT1] at h; exact hw2.only h (by omega)
 have tt : ∀ {V}, T1 V -> tabsIn T0 T0.tabs V = true := fun {V} h => by
  rw [hT1] at h; exact tabs_only hT2 (by omega) h (by omega)
 have tn : ∀ {V V' : AW} {K' : Nat -> Prop}, T1 V -> Only K' V V' -> (∀ b, K' b -> b = p \/ lo <= b) -> T1 V' := fun {V V' K'} h ho hk => by
  rw [hT1] at h ⊢; exact h.trans (ho.mono fun b _ hb => hk b hb)
 have t26 : T1 W6 := by rw [hT1]; exact hO26.mono fun b _ hb => .inl hb
 have fin : ∀ {ds : List Deferred} {W' : AW}, Marks lo ds W' -> T1 W' -> (∃ s', PairAt W' p w s' /\ Sought n r J D A s s') -> ∃ W'', Collects ds W' W'' /\ Only (fun x => x = p) W W'' /\ ∃ s', PairAt W'' p w s' /\ Sought n r J D A s s' := fun {ds W'} hM hTT ⟨s', g1, g2⟩ => by
  obtain ⟨W'', c1, c2⟩ := hM.collects2
  have hge : ∀ b, (∃ d ∈ ds, d.target = .collected b) -> lo <= b := fun b ⟨d, hd, e⟩ => hM.above d hd b e
  rw [hT1] at hTT
  refine ⟨W'', c1, ⟨by have := hTT.1; have := c2.1; omega, fun b hb hne => ?_⟩, s', g1.only c2 (fun hh => by have := hge p hh; omega), g2⟩
  rw [c2.2 b (by have := hTT.1; omega) (fun hh => by have := hge b hh; omega), hTT.2 b (by omega) (fun hh => hh.elim hne fun h => by omega), hE02.2 b hb (fun x => x)]
 try simp only [zzA]
 refine wpK_reg (fun R hR => by simp []; exact hR) ?_
 clear hP hVw hP2 hw2 hV3 hV5 hP3 w4 x4 q1 q2 q3 k3 k3b k3c hO3 hE1 hE2 hO6
 try simp only [zzA]
 refine wpK_while1 (I := fun qq A' W' => A'.n = 118 /\ A'.tmps.get 3 = some (.pointer (some ⟨c3, 0, none⟩)) /\ A'.tmps.get 5 = some (.pointer (some ⟨c5, 0, none⟩)) /\ ∃ (i : Nat) (K : Nat -> Prop) (s' : PS) (out : Nat -> Prop) (base : Nat -> Nat) (q : List Nat), A'.tmps.get 7 = some (.int .i64 (i : Int)) /\ qq = n - i /\ i <= q.length /\ SI n p w r s.fe J s.mt D A cl K W' s' out base q /\ T1 W' /\ Marks lo A'.defers W' /\ (∀ b, K b -> lo <= b /\ b < W'.next) /\ (∀ d ∈ A'.defers, ∀ b, d.target = .collected b -> ¬ K b) /\ ∀ x ∈ q.take i, ∀ z, J x z -> Ask n s'.fr out base (fun v => v ∈ q.take i) x z)
  (J := fun A' W' => Marks lo A'.defers W' /\ T1 W' /\ ∃ s', PairAt W' p w s' /\ Sought n r J D A s s') (Rt := fun A' W' => Marks lo A'.defers W' /\ T1 W' /\ ∃ s', PairAt W' p w s' /\ Sought n r J D A s s') (k := n) ?_ ?_ ?_ ?_
 ·refine ⟨rfl, by simp [h3], by simp [h5], 0, _, _, _, _, _, by simp, rfl, by simp, hSI6, t26, trivial, fun b hb => ?_, fun d hd => by simp at hd, fun x hx => by simp at hx⟩
  rcases hb with hb | hb
  ·exact hb.elim
  ·omega
 ·rintro qq ⟨tm, n', ds⟩ Wa ⟨hn', h3, h5, i, K, s1, out, base, q, h7, hqq, hiq, hS, hTa, hMk, hKa, hKm, hask⟩ Q' hJ hRt hI
  simp only at hn' h3 h5 h7 hMk hKm
  subst hn'
  have k3 := t3 hTa
  have ll := ps_ln hS.pa
  obtain ⟨sa, sc, hsl⟩ := hS.gr.len
  have hqn := hS.len
  rw [hsl] at ll
  by_cases hlt : i < q.length
  case neg =>
   have hlt' : ¬ (i : Int) < q.length := by omega
   try simp only [zzA]
   refine wpK_reg (fun R hR => by simp [h3, h7, k3, ll, hlt']; exact hR) ?_
   try simp only [zzA]
   first | refine wpK_onF (by simp [hlt]) ?_ | refine wpK_out (by simp [hlt]) ?_ | refine zzF (by simp [hlt]) ?_ | refine zzB (by simp [hlt]) (wpK_skip ?_) | refine zzB (by simp [hlt]) ?_
   have htk : q.take i = q := List.take_of_length_le (by omega)
   rw [htk] at hask
   have hmo : (fun v => v ∈ q) = out := funext fun v => propext (hS.mem v)
   rw [hmo] at hask
   obtain ⟨D', A', cl', g1, g2⟩   := hS.done hJi hsy hDn hLo (fun x hx z hz => hask x ((hS.mem x).2 hx) z hz)
   exact hJ _ _ ⟨hMk, hTa, s1, hS.pa, hS.efe, .inl ⟨hS.emt, ⟨D', A', cl', g1, g2⟩, hS.ot40 hn, (hS.ot r).2 hS.sr.rout, fun x hx hm => hS.sr.is_root ((hS.ot x).1 hx) hm⟩⟩
  have hlt' : (i : Int) < q.length := by omega
  try simp only [zzA]
  refine wpK_reg (fun R hR => by simp [h3, h7, k3, ll, hlt']; exact hR) ?_
  try simp only [zzA]
  first | refine wpK_onT (by simp [hlt]) ?_ | refine wpK_outT (by simp [hlt]) ?_ | refine zzE (by simp [hlt]) ?_ | refine wpK_endT (by simp [hlt]) ?_
  refine wpK_block ?_
  obtain ⟨bA, pA, a1, a2⟩ := nat_at hS.gr hlt
  rw [hsl] at a1
  obtain ⟨at', hat⟩ : ∃ a, a = q.getD i 0 := ⟨_, rfl⟩
  rw [<- hat] at a2
  have hato : out at' := (hS.mem at').1 (by rw [hat, List.getD_eq_getElem?_getD, List.getElem?_eq_getElem hlt]; exact List.getElem_mem _)
  have hatn : at' < n := hS.sr.lt hato
  obtain ⟨W7, g1, g2, g3, g4⟩ := storeVar_new (T := T0) (W := Wa) (t := 3) (z := [.int .i64 0]) (v := .int .i64 (at' : Int)) inf3 (by rw [is3]; rfl) (by rw [is3]; rfl) rfl
  have g4 : Var W7 Wa.next 3 [.int .i64 (at' : Int)] := g4
  try simp only [zzA]
  refine wpK_reg (fun R hR => by simp [h3, h7, k3, ll, a1, a2, zero3, g1]; exact hR) ?_
  obtain ⟨c8, hc8⟩ : ∃ c, c = Wa.next := ⟨_, rfl⟩
  rw [<- hc8] at g4
  have hS7 := hS.only g3 (fun x => x) (fun _ _ _ x => x)
  have hTa7 := tn hTa g3 (fun b hb => hb.elim)
  have k3 := t3 hTa7
  have k1 := ps_web hS7.pa
  have k8 := g4.load1 (T := T0) und3 rfl (j := 0) (v := .int .i64 (at' : Int)) rfl
  have k6 := web_load (tw hTa7) (i := at') (by omega)
  have i6 := ix106 w 1 at' (by omega)
  have n7 := g3.1
  obtain ⟨nb, hnb⟩ : ∃ x, x = Jl.getD at' 0 := ⟨_, rfl⟩
  rw [<- hnb] at k6
  try simp only [zzA]
  refine wpK_d0 (wr := Tr.nil |>.set 57 0 |>.set 58 1 |>.set 59 2 |>.set 60 3 |>.set 61 4 |>.set 62 5 |>.set 63 6 |>.set 64 7 |>.set 65 8 |>.set 66 9) (bits := Tr.nil.lay 0 [0, 1, 3, 7, 0, 15, 47, 127, 255, 511]) (ord := [0, 1, 2, 3, 4, 5, 6, 7, 8, 9]) (by kernel_rfl) (by kernel_rfl) (by kernel_rfl) (fun G hG => by
   simp [h3, <- hc8, k3, k1, k8, k6, i6, aEnter, fun77, zzC, aCallV]
   rw [dcallS_none]
   refine (places_wp nb).mono ?_
   rintro _ Wc ⟨hEc, rfl, hBc⟩
   simp [h3, <- hc8, k3, k1, k8, k6, i6, hEc.1]
   exact hG Wc (And.intro hEc hBc)) ?_
  rintro Wc ⟨hEc, hBc⟩
  refine wpK_keep (fun tm' => tm'.get 3 = some (.pointer (some ⟨c3, 0, none⟩)) /\ tm'.get 5 = some (.pointer (some ⟨c5, 0, none⟩)) /\ tm'.get 7 = some (.int .i64 (i : Int)) /\ tm'.get 8 = some (.pointer (some ⟨c8, 0, none⟩)) /\ tm'.get 66 = some (.func (.func 86) ⟨[]⟩ ⟨[.pointer (some ⟨W7.next, 0, none⟩)]⟩)) ⟨by simp [h3], by simp [h5], by simp [h7], by simp [hc8], by simp⟩ ?_
  rintro tm ⟨h3, h5, h7, h8, h66⟩
  have nc := hEc.1
  refine wpK_range3 (f := 86) (first := ⟨[]⟩) (cap := ⟨[.pointer (some ⟨W7.next, 0, none⟩)]⟩) (by simp [h66]) fun86 (fun W9 hn9 hW9 hdf hlp => ?_)
  obtain ⟨z, hz9⟩ : ∃ z, z = Wc.next := ⟨_, rfl⟩
  rw [<- hz9] at hn9 hdf hlp
  have hE9 : Ext W7 W9 := hEc.trans ⟨by omega, fun b hb _ => hW9 b hb⟩
  have hS9 := hS7.only hE9 (fun x => x) (fun _ _ _ x => x)
  have hTa9 := tn hTa7 hE9 (fun b hb => hb.elim)
  have hMk9 := (hMk.ext g3).ext hE9
  have hlow := hMk.low
  have hnbb : ∀ x, nb.testBit x = true ↔ J at' x := fun x => by rw [hnb]; exact hWj at' x hatn
  have hnb40 : nb < 1099511627776 := lt40 fun x hx => by
   have := hJn _ _ ((hnbb x).1 hx); omega
  have n2a : lo <= Wa.next := by rw [hT1] at hTa; rw [hlo]; exact hTa.1
  obtain ⟨done, hdone⟩ : ∃ d : Nat -> Prop, d = fun v => v ∈ q.take i := ⟨_, rfl⟩
  rw [<- hdone] at hask
  have hdo : ∀ v, done v -> out v := fun v hv => by rw [hdone] at hv; exact (hS.mem v).1 (List.mem_of_mem_take hv)
  have hask0 : ∀ x, done x -> ∀ z, J x z -> Ask n s1.fr out base done x z := fun x hx => by rw [hdone] at hx; exact hask x hx
  obtain ⟨S, hSS⟩ : ∃ S : AW -> Prop, S = fun V => W9.next <= V.next /\ T1 V /\ Var V c8 3 [.int .i64 (at' : Int)] /\ V.blocks.get z = some ⟨.deferred (some []), []⟩ /\ Marks lo ds V := ⟨_, rfl⟩
  have own : ∀ {V V' : AW} {K' : Nat -> Prop}, S V -> Only K' V V' -> (∀ b, K' b -> b = z + 1 \/ W9.next <= b \/ b = p \/ (K b /\ b < Wa.next)) -> S V' := by
   intro V V' K' hV he hK'
   rw [hSS] at hV ⊢
   obtain ⟨o1, o2, o3, o4, o5⟩ := hV
   have hk2 : ∀ b, b < W9.next -> b ≠ z + 1 -> b ≠ p -> ¬ (K b /\ b < Wa.next) -> ¬ K' b := fun b f1 f2 f3 f5 hb => by
    rcases hK' b hb with e | e | e | e
    ·omega
    ·omega
    ·omega
    ·exact f5 e
   refine ⟨Nat.le_trans o1 he.1, tn o2 he (fun b hb => ?_), o3.only he (hk2 _ (by omega) (by omega) (by omega) (by omega)), by rw [he.2 z (by omega) (hk2 _ (by omega) (by omega) (by omega) (by omega))]; exact o4, o5.only he (fun d hd r hr x1 x2 => ?_)⟩
   ·rcases hK' b hb with e | e | e | e
    ·omega
    ·omega
    ·omega
    ·have := hKa b e.1; omega
   ·have hrl := hlow d hd r hr
    exact hk2 r (by omega) (by omega) (by omega) (fun hk => hKm d hd r hr hk.1)
  have own9 : S W9 := by
   rw [hSS]
   exact ⟨Nat.le_refl _, hTa9, g4.ext hE9, hdf, hMk9⟩
  obtain ⟨B, hB⟩ : ∃ B : (Nat -> Prop) -> AW -> Prop, B = fun K1 V => ∀ b, K1 b -> (K b /\ b < Wa.next) \/ (W9.next <= b /\ b < V.next) := ⟨_, rfl⟩
  obtain ⟨C, hC⟩ : ∃ C : Nat -> AW -> Prop, C = fun left V => ∃ (K1 : Nat -> Prop) (s2 : PS) (out1 : Nat -> Prop) (base1 : Nat -> Nat) (ex : List Nat), SI n p w r s.fe J s.mt D A cl K1 V s2 out1 base1 (q ++ ex) /\ B K1 V /\ (∀ v, out v -> out1 v) /\ (∀ x, done x -> ∀ z, J x z -> Ask n s2.fr out1 base1 done x z) /\ ∀ z, J at' z -> left.testBit z = false -> Ask n s2.fr out1 base1 done at' z := ⟨_, rfl⟩
  have cn : ∀ {left : Nat} {V V' : AW} {K' : Nat -> Prop}, C left V -> Only K' V V' -> (∀ b, K' b -> b = z + 1) -> C left V' := fun {left V V' K'} h ho hk => by
   rw [hC] at h ⊢
   obtain ⟨K1, s2, out1, base1, ex, e1, e2, e3, e4, e5⟩ := h
   rw [hB] at e2
   refine ⟨K1, s2, out1, base1, ex, e1.only ho (fun h => by have := hk p h; omega) (fun b _ hb h => by have := hk b h; have := e2 b hb; omega), ?_, e3, e4, e5⟩
   rw [hB]
   exact fun b hb => (e2 b hb).imp id fun h => ⟨h.1, Nat.lt_of_lt_of_le h.2 ho.1⟩
  refine (placesX_wp (l := Wc.next + 1) (bx := W7.next) (x := nb)
   (fun x V => S V /\ V.blocks.get (z + 1) = W9.blocks.get (z + 1) /\ C x V /\ ∀ r, x.testBit r = true -> J at' r)
   (fun V => S V /\ (∃ fn t n ps asn bd df, V.blocks.get (z + 1) = some ⟨.loop .done (some .ret) fn t n ps asn bd df, []⟩) /\ ∃ s', PairAt V p w s' /\ Sought n r J D A s s')
   (by omega) (fun left k V hCC hlt hb1 hb2 => ?_) ⟨own9, rfl, ?_, fun r hr => (hnbb r).1 hr⟩ (hBc.ext ⟨by omega, fun b hb _ => hW9 b hb⟩)).mono ?_
  ·obtain ⟨d1, d2, d3, d4⟩ := hCC
   have d1' := d1; rw [hSS] at d1'
   obtain ⟨y1, y2, y3, y4, y5⟩ := d1'
   have hl' := d2.trans hlp
   rw [hz9] at hl'
   have hJk := d4 k hb1
   have hkn := hJn _ _ hJk
   refine ⟨tt y2, _, _, _, _, _, _, _, _, _, _, tm.set 67 (.int .i64 (k : Nat)), hl', rfl, ?_⟩
   refine wpR ?_
   try simp only [zzA]
   refine wpK_reg1 (fun R hR => by simp []; exact hR) ?_
   refine ⟨rfl, _, _, _, _, _, _, _, _, hl', ?_⟩
   rw [<- hz9] at hl' ⊢
   generalize hbz : (AObj.loop LoopState.busy _ _ _ _ _ _ _ _) = bz
   obtain ⟨Vy, hVy, hOy, hny⟩ : ∃ Vy, Vy = V.setObj (z + 1) bz /\ Only (fun b => b = z + 1) V Vy /\ Vy.next = V.next := ⟨_, rfl, setObj_only _ _ _, rfl⟩
   rw [<- hVy]
   have hly : Vy.blocks.get (z + 1) = some ⟨bz, []⟩ := by rw [hVy, setObj_get, if_pos rfl]
   have own1 := own d1 hOy (fun b hb => .inl hb)
   have d3y := cn d3 hOy (fun b hb => hb)
   have d1y := own1; rw [hSS] at d1y
   obtain ⟨u1, u2, u3, u4, u5⟩ := d1y
   rw [hC] at d3y
   obtain ⟨K1, s2, out1, base1, ex, e1, e2, e3, e4, e5⟩ := d3y
   have k3 := t3 u2
   have k8 := u3.load1 (T := T0) und3 rfl (j := 0) (v := .int .i64 (at' : Int)) rfl
   have lo4 := ps_ot e1.pa
   have hot40 := e1.ot40 hn
   have hato1 := e3 _ hato
   have hdo1 : ∀ v, done v -> out1 v := fun v hv => e3 v (hdo v hv)
   have e2' := e2; rw [hB] at e2'
   have hK1p : ¬ K1 p := fun h => by
    rcases e2' p h with h | h
    ·have := hKa p h.1; omega
    ·omega
   have hK1w : ¬ K1 w := fun h => by
    rcases e2' w h with h | h
    ·have := hKa w h.1; omega
    ·omega
   have hK1z : ∀ b, K1 b -> b ≠ z + 1 /\ (b = z + 1 \/ W9.next <= b \/ b = p \/ (K b /\ b < Wa.next)) := fun b hb => by
    rcases e2' b hb with h | h
    ·exact ⟨by omega, .inr (.inr (.inr h))⟩
    ·exact ⟨by omega, .inr (.inl h.1)⟩
   have hd := dropLow_bit hb1 hb2
   refine wpK_block1 ?_
   refine wpK_block1 ?_
   cases hmk : s2.ot.testBit k with
   | true =>
    have hko : out1 k := (e1.ot k).1 hmk
    try simp only [zzA]
    refine wpK_reg (fun R hR => by
      simp [h3, k3, lo4, aEnter, fun60, zzC, aCallV]; rw [zzD]
      refine (has_is hmk (by omega) (by omega) _).mono ?_
      rintro _ W9 ⟨e9, rfl⟩; subst W9
      simp [h3, k3, lo4]; exact hR) ?_
    try simp only [zzA]
    first | refine wpK_onT (by simp []) ?_ | refine wpK_outT (by simp []) ?_ | refine zzE (by simp []) ?_ | refine wpK_endT (by simp []) ?_
    try simp only [zzA]
    refine wpK_y1 (fun R hR => by
      simp [h3, h8, k3, k8, aEnter, fun88, zzC, aCallV]; rw [zzD]
      refine (e1.shrink hn hsy hDn (tw u2) hwp hK1p hK1w hato1 hko hJk hdo1).mono ?_
      rintro v V2 hh
      simp [h3, h8, k3, k8]; exact hR v V2 hh) ?_
    rintro v V2 hh
    simp only [zzH]
    obtain ⟨hO, s3, out2, base2, ex2, x1, x2, x3, x4⟩ := hh
    have own2 := own own1 hO (fun b hb => by
     rcases hb with h | h
     ·exact .inr (.inr (.inl h))
     ·exact (hK1z b h).2)
    have hl2 : V2.blocks.get (z + 1) = some ⟨bz, []⟩ := by rw [hO.2 (z + 1) (by omega) (fun h => h.elim (fun h => by omega) fun h => (hK1z _ h).1 rfl)]; exact hly
    have hC2 : C (dropLow left) V2 := by
     rw [hC]
     refine ⟨_, s3, out2, base2, ex ++ ex2, by rw [<- List.append_assoc]; exact x1, ?_, fun v hv => x2 v (e3 v hv), fun x hx u hu => x4 x u (hdo1 x hx) (e4 x hx u hu), fun u hu hbit => ?_⟩
     ·rw [hB]
      rintro b (hb | hb)
      ·exact (e2' b hb).imp id fun h => ⟨h.1, Nat.lt_of_lt_of_le h.2 hO.1⟩
      ·exact .inr ⟨by omega, hb.2⟩
     ·rw [hd] at hbit
      by_cases e : u = k
      ·subst e; exact fun _ => .inl ⟨x2 u hko, x3⟩
      ·exact x4 at' u hato1 (e5 u hu (by simpa [-testBit_dec, e] using hbit))
    subst hbz
    have hset := setObj_only V2 (z + 1)
    refine ⟨_, _, _, _, _, _, _, _, _, hl2, true, rfl, fun _ => ⟨own own2 (hset _) (fun b hb => .inl hb), by rw [setObj_get, if_pos rfl]; exact hlp.symm, cn hC2 (hset _) (fun b hb => hb), fun r hr => ?_⟩, (fun h => by cases h)⟩
    rw [hd] at hr
    simp only [Bool.and_eq_true] at hr
    exact d4 r hr.1
   | false =>
    have hko : ¬ out1 k := fun h => by rw [<- e1.ot, hmk] at h; cases h
    try simp only [zzA]
    refine wpK_reg (fun R hR => by
      simp [h3, k3, lo4, aEnter, fun60, zzC, aCallV]; rw [zzD]
      refine (has_is hmk (by omega) (by omega) _).mono ?_
      rintro _ W9 ⟨e9, rfl⟩; subst W9
      simp [h3, k3, lo4]; exact hR) ?_
    try simp only [zzA]
    first | refine wpK_onF (by simp []) ?_ | refine wpK_out (by simp []) ?_ | refine zzF (by simp []) ?_ | refine zzB (by simp []) (wpK_skip ?_) | refine zzB (by simp []) ?_
    have lf := ps_fr e1.pa (j := k) (by omega)
    have i1 := ix94 p 81 k (by omega)
    by_cases hfk : s2.fr k = -1
    case neg =>
     try simp only [zzA]
     refine wpK_reg (fun R hR => by simp [h3, k3, lf, i1, hfk]; exact hR) ?_
     try simp only [zzA]
     first | refine wpK_onT (by simp [hfk]) ?_ | refine wpK_outT (by simp [hfk]) ?_ | refine zzE (by simp [hfk]) ?_ | refine wpK_endT (by simp [hfk]) ?_
     refine wpK_skip ?_
     simp only [zzH]
     have hC2 : C (dropLow left) Vy := by
      rw [hC]
      refine ⟨K1, s2, out1, base1, ex, e1, e2, e3, e4, fun u hu hbit => ?_⟩
      rw [hd] at hbit
      by_cases e : u = k
      ·subst e; exact fun _ => .inr (.inr ⟨hko, hfk⟩)
      ·exact e5 u hu (by simpa [-testBit_dec, e] using hbit)
     subst hbz
     have hset := setObj_only Vy (z + 1)
     refine ⟨_, _, _, _, _, _, _, _, _, hly, true, rfl, fun _ => ⟨own own1 (hset _) (fun b hb => .inl hb), by rw [setObj_get, if_pos rfl]; exact hlp.symm, cn hC2 (hset _) (fun b hb => hb), fun r hr => ?_⟩, (fun h => by cases h)⟩
     rw [hd] at hr
     simp only [Bool.and_eq_true] at hr
     exact d4 r hr.1
    rw [hfk] at lf
    try simp only [zzA]
    refine wpK_reg (fun R hR => by simp [h3, k3, lf, i1]; exact hR) ?_
    try simp only [zzA]
    first | refine wpK_onF (by simp []) ?_ | refine wpK_out (by simp []) ?_ | refine zzF (by simp []) ?_ | refine zzB (by simp []) (wpK_skip ?_) | refine zzB (by simp []) ?_
    have lm := ps_mt e1.pa (j := k) (by omega)
    rw [e1.emt] at lm
    have i2 := ix94 p 1 k (by omega)
    obtain ⟨V3, w1, w2, w3, w4⟩ := ps_setFr e1.pa (j := k) (by omega) (at' : Int)
    have own3 := own own1 w3 (fun b hb => .inr (.inr (.inl hb)))
    have own3' := own3; rw [hSS] at own3'
    obtain ⟨v1, v2, v3, v4, v5⟩ := own3'
    have n3w := w3.1
    have k3v := t3 v2
    have k5 := t5 v2
    by_cases hmk1 : s.mt k = -1
    ·rw [hmk1] at lm
     try simp only [zzA]
     refine wpK_reg (fun R hR => by simp [h3, k3, lm, i2]; exact hR) ?_
     try simp only [zzA]
     first | refine wpK_onT (by simp []) ?_ | refine wpK_outT (by simp []) ?_ | refine zzE (by simp []) ?_ | refine wpK_endT (by simp []) ?_
     try simp only [zzA]
     refine wpK_dn (wr := Tr.nil |>.set 109 0 |>.set 110 1 |>.set 111 2 |>.set 112 3 |>.set 113 4 |>.set 114 5) (bits := Tr.nil.lay 0 [0, 0, 0, 1, 9, 31, 63]) (ord := [0, 1, 2, 3, 4, 5, 6]) (by kernel_rfl) (by kernel_rfl) (by kernel_rfl) (fun G hG => by
      simp [h3, h8, k3, k8, i1, w1, n3w]
      exact hG) ?_
     rw [hfv] at k5
     obtain ⟨L, hTurn⟩ := e1.turns hsy hDn hato1 hkn hko (hsy _ _ hJk) hmk1
     have hmt2 : ({ s2 with fr := updI s2.fr k (at' : Int) } : PS).mt = s.mt := e1.emt
     have htj : ∀ x u : Nat, x < n -> updI s2.fr k (at' : Int) x = (u : Int) -> J x u := fun x u hx hu => by
      by_cases e : x = k
      ·subst e; rw [updI_eq] at hu; have : at' = u := by omega
       subst this; exact hsy _ _ hJk
      ·rw [updI_ne _ _ e] at hu; exact (e1.sr.frOut hx hu).2
     try simp only [zzA]
     refine wpK_x1 (fun R hR => by
       simp [h5, k5, aEnter, fun79, zzC, aCallV]; rw [zzD]
       refine (turn_wp (fr := updI s2.fr k (at' : Int)) (b := at') hn hsy htj w4 (fun x _ => rfl) (by rw [hmt2]; exact hTurn) (updI_eq _ _ _)).mono ?_
       rintro v V4 hh
       simp [h5, k5]; exact hR v V4 hh) ?_
     rintro v V4 hh
     obtain ⟨hO4, mt', x1, x2, x3, x4⟩ := hh
     simp only at x1
     refine wpK_ret ?_
     simp only [leaves_ret]
     have own4 := own own3 hO4 (fun b hb => .inr (.inr (.inl hb)))
     have hl4 : V4.blocks.get (z + 1) = some ⟨bz, []⟩ := by rw [hO4.2 (z + 1) (by omega) (by omega), w3.2 (z + 1) (by omega) (by omega)]; exact hly
     subst hbz
     have hset := setObj_only V4 (z + 1)
     refine ⟨_, _, _, _, _, _, _, _, _, hl4, false, rfl, (fun h => by cases h), fun _ => ⟨own own4 (hset _) (fun b hb => .inl hb), ⟨_, _, _, _, _, _, _, (by rw [setObj_get, if_pos rfl]; rfl)⟩, _, x1.only (hset _) (by omega), e1.efe, .inr ⟨x2, ⟨k, hkn, fun e => ?_, hmk1, x3⟩, x4⟩⟩⟩
     subst e; exact hko e1.sr.rout
    ·try simp only [zzA]
     refine wpK_reg (fun R hR => by simp [h3, k3, lm, i2, hmk1]; exact hR) ?_
     try simp only [zzA]
     first | refine wpK_onF (by simp [hmk1]) ?_ | refine wpK_out (by simp [hmk1]) ?_ | refine zzF (by simp [hmk1]) ?_ | refine zzB (by simp [hmk1]) (wpK_skip ?_) | refine zzB (by simp [hmk1]) ?_
     obtain ⟨y, hyn, hy⟩ := (hm.rng hkn).resolve_left hmk1
     try simp only [zzA]
     refine wpK_dn (wr := Tr.nil |>.set 68 0 |>.set 69 1 |>.set 70 2 |>.set 71 3 |>.set 72 4 |>.set 73 5) (bits := Tr.nil.lay 0 [0, 0, 0, 1, 9, 31, 63]) (ord := [0, 1, 2, 3, 4, 5, 6]) (by kernel_rfl) (by kernel_rfl) (by kernel_rfl) (fun G hG => by
      simp [h3, h8, k3, k8, i1, w1, n3w]
      exact hG) ?_
     have lm3 := ps_mt w4 (j := k) (by omega)
     simp only at lm3
     rw [e1.emt, hy] at lm3
     have hlen := e1.len
     have hg3 := e1.gr.only w3 (fun b _ hb e => hK1p (e ▸ hb))
     try simp only [zzA]
     refine wpK_q1 (wr := Tr.nil |>.set 74 0 |>.set 75 1 |>.set 76 2 |>.set 77 3 |>.set 78 4 |>.set 79 5 |>.set 80 6 |>.set 81 7) (bits := Tr.nil.lay 0 [0, 0, 0, 2, 10, 30, 62, 127]) (ord := [0, 1, 2, 3, 4, 5, 6, 7]) (by kernel_rfl) (by kernel_rfl) (by kernel_rfl) (fun G hG => by
      simp [h3, k3v, lm3, i2, aEnter, fun87, zzC, aCallV]
      rw [dcallS_none]
      refine (reach_wp (k := y) w4 hg3 hK1p (by omega) hot40 (by omega)).mono ?_
      rintro v V4 hh
      simp [h3, k3v, lm3, i2, hh.1.1]
      exact hG v V4 hh) ?_
     rintro v V4 ⟨hO4, n4, ln2, x1, x2⟩
     simp only at x1
     simp only [zzH]
     obtain ⟨s3, out2, z1, z2, z3, z4⟩ := e1.grown hJi hsy hDn hato1 hkn hko hfk (hsy _ _ hJk) hy x1 x2 hdo1
     have own4 := own own3 hO4 (fun b hb => by
      rcases hb with h | h
      ·exact .inr (.inr (.inl h))
      ·exact (hK1z b h).2)
     have hl4 : V4.blocks.get (z + 1) = some ⟨bz, []⟩ := by rw [hO4.2 (z + 1) (by omega) (fun h => h.elim (fun h => by omega) fun h => (hK1z _ h).1 rfl), w3.2 (z + 1) (by omega) (by omega)]; exact hly
     have hC2 : C (dropLow left) V4 := by
      rw [hC]
      refine ⟨_, s3, out2, base1, ex ++ [y], by rw [<- List.append_assoc]; exact z1, ?_, fun v hv => z2 v (e3 v hv), fun x hx u hu => z4 x u (hdo1 x hx) (e4 x hx u hu), fun u hu hbit => ?_⟩
      ·rw [hB]
       rintro b (hb | hb)
       ·exact (e2' b hb).imp id fun h => ⟨h.1, by have := h.2; omega⟩
       ·exact .inr ⟨by omega, by omega⟩
      ·rw [hd] at hbit
       by_cases e : u = k
       ·subst e; exact fun _ => .inr (.inr z3)
       ·exact z4 at' u hato1 (e5 u hu (by simpa [-testBit_dec, e] using hbit))
     subst hbz
     have hset := setObj_only V4 (z + 1)
     refine ⟨_, _, _, _, _, _, _, _, _, hl4, true, rfl, fun _ => ⟨own own4 (hset _) (fun b hb => .inl hb), by rw [setObj_get, if_pos rfl]; exact hlp.symm, cn hC2 (hset _) (fun b hb => hb), fun r hr => ?_⟩, (fun h => by cases h)⟩
     rw [hd] at hr
     simp only [Bool.and_eq_true] at hr
     exact d4 r hr.1
  ·rw [hC]
   refine ⟨K, s1, out, base, [], by simpa using hS9, ?_, fun v hv => hv, hask0, fun u hu hbit => ?_⟩
   ·rw [hB]
    exact fun b hb => .inl ⟨hb, (hKa b hb).2⟩
   ·rw [(hnbb u).2 hu] at hbit; cases hbit
  ·rintro _ W10 (⟨d1, d2, d3, d4⟩ | ⟨d1, ⟨_, _, _, _, _, _, _, d2⟩, d3⟩)
   ·have d2 := d2.trans hlp
    rw [hz9] at d2
    refine ⟨_, _, _, _, _, _, _, _, _, d2, (fun h => by cases h), ?_⟩
    rw [<- hz9]
    generalize hex : (AObj.loop LoopState.exhausted _ _ _ _ _ _ _ _) = exo
    obtain ⟨X, hX, hOX⟩ : ∃ X, X = W10.setObj (z + 1) exo /\ Only (fun b => b = z + 1) W10 X := ⟨_, rfl, setObj_only _ _ _⟩
    rw [<- hX]
    have ownX := own d1 hOX (fun b hb => .inl hb)
    have dX := cn d3 hOX (fun b hb => hb)
    rw [hSS] at ownX
    obtain ⟨u1, u2, u3, u4, u5⟩ := ownX
    rw [hC] at dX
    obtain ⟨K1, s2, out1, base1, ex, e1, e2, e3, e4, e5⟩ := dX
    rw [hB] at e2
    simp only [goOn, zzH, zzG]
    try simp only [zzA]
    refine wpK_reg1 (fun R hR => by simp [h7]; exact hR) ?_
    have hM : Marks lo ({ target := .collected z, args := #[] } :: ds) X := ⟨z, rfl, by omega, by omega, u4, fun d hd e => by have := hlow d hd z e; omega, u5⟩
    have hatq : q[i]? = some at' := by rw [hat, List.getD_eq_getElem?_getD, List.getElem?_eq_getElem hlt]; rfl
    have htk : (fun v => v ∈ (q ++ ex).take (i + 1)) = fun v => done v \/ v = at' := by
     funext v
     apply propext
     rw [hdone, List.take_append_of_le_length (by omega), List.take_add_one, hatq]
     simp
    refine hI (n - (i + 1)) _ _ (by omega) ⟨rfl, by simp [h3], by simp [h5], i + 1, K1, s2, out1, base1, q ++ ex, by simp [i64_succ i (by omega)], rfl, by rw [List.length_append]; omega, e1, u2, hM, fun b hb => ?_, fun d hd b hb hk => ?_, fun x hx => ?_⟩
    ·rcases e2 b hb with h | h
     ·have := hKa b h.1; omega
     ·omega
    ·rcases List.mem_cons.1 hd with e | e
     ·subst e
      have hrz : z = b := by injection hb
      rcases e2 b hk with h | h
      ·omega
      ·omega
     ·rcases e2 b hk with h | h
      ·exact hKm d e b hb h.1
      ·have := hlow d e b hb; omega
    ·have hx' : (fun v => v ∈ (q ++ ex).take (i + 1)) x := hx
     rw [htk] at hx' ⊢
     exact Ask.done hJi hsy (fun v hv => e3 v (hdo v hv)) (e3 _ hato) e4 (fun v hv => e1.sr.lt hv) (fun u hu => e5 u hu (by simp)) x hx'
   ·rw [hz9] at d2
    refine ⟨_, _, _, _, _, _, _, _, _, d2, (fun h => by cases h), ?_⟩
    rw [<- hz9]
    generalize hex : (AObj.loop LoopState.exhausted _ _ _ _ _ _ _ _) = exo
    obtain ⟨X, hX, hOX⟩ : ∃ X, X = W10.setObj (z + 1) exo /\ Only (fun b => b = z + 1) W10 X := ⟨_, rfl, setObj_only _ _ _⟩
    rw [<- hX]
    have ownX := own d1 hOX (fun b hb => .inl hb)
    obtain ⟨s', d3, d4⟩ := d3
    have d3' := d3.only hOX (by omega)
    rw [hSS] at ownX
    obtain ⟨u1, u2, u3, u4, u5⟩ := ownX
    simp only [goOn, leaves_ret, behind_ret]
    have hM : Marks lo ({ target := .collected z, args := #[] } :: ds) X := ⟨z, rfl, by omega, by omega, u4, fun d hd e => by have := hlow d hd z e; omega, u5⟩
    exact hRt _ _ ⟨hM, u2, s', d3', d4⟩
 ·rintro A' W' ⟨j1, j2, j3⟩
  obtain ⟨W'', c1, c2, c3⟩ := fin j1 j2 j3
  exact ⟨.inr rfl, W'', c1, [], by rfl, c2, c3⟩
 ·rintro A' W' ⟨j1, j2, j3⟩
  obtain ⟨W'', c1, c2, c3⟩ := fin j1 j2 j3
  exact ⟨.inl rfl, W'', c1, [], by rfl, c2, c3⟩
def ps0 : PS := ⟨fun _ => 0, fun _ => 0, fun _ => 0, 0, .slice none 0 0, 0⟩
theorem build98 (w : Nat) : aBuild T0 98 [(0, .pointer (some ⟨w, 0, none⟩))] = some (.agg ⟨psL w ps0⟩) := by kernel_rfl
structure Great (n : Nat) (J : Nat -> Nat -> Prop) (s : PS) (D A : Nat -> Prop) (cl : Nat -> Nat) (i : Nat) : Prop where
 mat : Mt n J s.mt
 dn : Dn n J s.mt D A cl
 fe : ∀ x, s.fe.testBit x = true ↔ D x
 all : ∀ x, x < i -> s.mt x = -1 -> D x
 old : ∀ x, D x -> s.mt x = -1 -> x < i
 lone : Lone n J s.mt D A
theorem Great.fe40 {n : Nat} {J : Nat -> Nat -> Prop} {s : PS} {D A : Nat -> Prop} {cl : Nat -> Nat} {i : Nat} (h : Great n J s D A cl i) (hn : n <= 40) : s.fe < 1099511627776 := lt40 fun x hx => by
 have := h.dn.dlt ((h.fe x).1 hx); omega
theorem greatest_wp {n w : Nat} {J : Nat -> Nat -> Prop} {Jl : List Nat} {W : AW} (hn : n <= 40) (hJi : ∀ x, ¬ J x x) (hsy : ∀ x y, J x y -> J y x) (hJn : ∀ x z, J x z -> z < n) (hJl : Jl.length = 40) (hWj : ∀ x z, x < n -> ((Jl.getD x 0).testBit z = true ↔ J x z))
  (hVw : Var W w 108 (.int .i64 (n : Int) :: Jl.map setV)) (hT : tabsIn T0 T0.tabs W = true) (hN0 : 0 < W.next) :
  WpF T0 56 [.pointer (some ⟨w, 0, none⟩)] W (fun v W' => Ext W W' /\ ∃ p s D A cl, v = .pointer (some ⟨p, 0, none⟩) /\ W.next <= p /\ PairAt W' p w s /\ Great n J s D A cl n) := by
 refine wpF fun56 rfl ?_
 have hwW : w < W.next := hVw.1
 obtain ⟨p, hp⟩ : ∃ c, c = W.next := ⟨_, rfl⟩
 obtain ⟨W1, hW1, hE1, hP1, hn1⟩ : ∃ W1, W1 = W.newCells 98 (psL w ps0) /\ Ext W W1 /\ PairAt W1 p w ps0 /\ W1.next = W.next + 1 := ⟨_, rfl, .newCells _ _ _, by rw [hp]; exact Var.new _ _ _, rfl⟩
 try simp only [zzA]
 refine wpK_reg (fun R hR => by simp []; exact hR) ?_
 try simp only [zzA]
 refine wpK_reg (fun R hR => by simp [build98, <- hW1]; exact hR) ?_
 try simp only [zzA]
 refine wpK_reg (fun R hR => by simp []; exact hR) ?_
 refine wpK_keep (fun tm' => tm'.get 3 = some (.pointer (some ⟨p, 0, none⟩)) /\ tm'.get 9 = some (.int .i64 0)) (by simp [hp]) ?_
 rintro tm ⟨h3, h9⟩
 try simp only [zzA]
 refine wpK_while (I := fun qq A' W' => A'.n = 60 /\ A'.defers = [] /\ A'.tmps.get 3 = some (.pointer (some ⟨p, 0, none⟩)) /\ Only (fun x => x = p) W1 W' /\ ∃ (i : Nat) (mt : Nat -> Int), A'.tmps.get 9 = some (.int .i64 (i : Int)) /\ qq = 40 - i /\ i <= 40 /\ PairAt W' p w { ps0 with mt := mt } /\ ∀ x, x < i -> mt x = -1)
  (J := fun A' W' => A'.n = 60 /\ A'.defers = [] /\ A'.tmps.get 3 = some (.pointer (some ⟨p, 0, none⟩)) /\ Only (fun x => x = p) W1 W' /\ ∃ (mt : Nat -> Int), PairAt W' p w { ps0 with mt := mt } /\ ∀ x, x < 40 -> mt x = -1) (Rt := fun _ _ => False) (k := 40) ?_ ?_ ?_ ?_
 ·exact ⟨rfl, rfl, by simp [h3], .refl _ _, 0, ps0.mt, by simp [h9], rfl, by omega, hP1, fun x hx => by omega⟩
 ·rintro qq ⟨tm, n, ds⟩ Wa ⟨hn, hd, h3, hOa, i, mt, h9, hqq, hil, hPa, hx1⟩ Q' hJ hRt hI
  simp only at hn hd h3
  subst hn; subst hd
  simp only at h9
  by_cases hlt : i < 40
  case neg =>
   have hlt' : ¬ (i : Int) < 40 := by omega
   try simp only [zzA]
   refine wpK_reg (fun R hR => by simp [h9, hlt']; exact hR) ?_
   try simp only [zzA]
   first | refine wpK_onF (by simp [hlt]) ?_ | refine wpK_out (by simp [hlt]) ?_ | refine zzF (by simp [hlt]) ?_ | refine zzB (by simp [hlt]) (wpK_skip ?_) | refine zzB (by simp [hlt]) ?_
   exact hJ _ _ ⟨rfl, rfl, by simp [h3], hOa, mt, hPa, fun x hx => hx1 x (by omega)⟩
  have hlt' : (i : Int) < 40 := by omega
  try simp only [zzA]
  refine wpK_reg (fun R hR => by simp [h9, hlt']; exact hR) ?_
  try simp only [zzA]
  first | refine wpK_onT (by simp [hlt]) ?_ | refine wpK_outT (by simp [hlt]) ?_ | refine zzE (by simp [hlt]) ?_ | refine wpK_endT (by simp [hlt]) ?_
  obtain ⟨Wb, w1, w2, w3, w4⟩ := ps_setMt hPa (j := i) (by omega) (-1)
  simp only at w4
  have i1 := ix94 p 1 i (by omega)
  refine wpK_block ?_
  try simp only [zzA]
  refine wpK_reg (fun R hR => by simp [h9]; exact hR) ?_
  try simp only [zzA]
  refine wpK_reg1 (fun R hR => by simp [h3, i1, w1]; exact hR) ?_
  simp only [zzH, zzG]
  try simp only [zzA]
  refine wpK_reg1 (fun R hR => by simp [h9]; exact hR) ?_
  refine hI (40 - (i + 1)) _ _ (by omega) ⟨rfl, rfl, by simp [h3], hOa.trans w3, i + 1, _, by simp [i64_succ i (by omega)], rfl, by omega, w4, fun x hx => ?_⟩
  by_cases e : x = i
  ·subst e; exact updI_eq _ _ _
  ·rw [updI_ne _ _ e]; exact hx1 x (by omega)
 ·rintro A' W' hf; exact hf.elim
 rintro ⟨tm, n, ds⟩ W3 ⟨hn, hd, h3, hO3, mt0, hP3, hm0⟩
 simp only at hn hd h3
 subst hn; subst hd
 have hwp : w ≠ p := by omega
 have hV1 := hVw.ext hE1
 have q1 := ps_web hP3
 have q2 := (hV1.only hO3 hwp).load1 (T := T0) und3 rfl (j := 0) (v := .int .i64 (n : Int)) rfl
 try simp only [zzA]
 refine wpK_reg (fun R hR => by simp [h3, q1, q2]; exact hR) ?_
 have hT1 := tabs_ext hT hN0 hE1
 have hG0 : Great n J { ps0 with mt := mt0 } (fun _ => False) (fun _ => False) id 0 := ⟨⟨fun {x} hx => .inl (hm0 x (by omega)), fun {x y} hx e => by have := hm0 x (by omega); simp only at e; omega, fun {x y} hx e => by have := hm0 x (by omega); simp only at e; omega⟩, .start, fun x => by simp [ps0], fun x hx => by omega, fun x hx => hx.elim, .start⟩
 have n3 := hO3.1
 refine wpK_keep (fun tm' => tm'.get 3 = some (.pointer (some ⟨p, 0, none⟩)) /\ tm'.get 24 = some (.int .i64 (n : Int)) /\ tm'.get 25 = some (.int .i64 0)) (by simp [h3]) ?_
 rintro tm ⟨h3, h24, h25⟩
 try simp only [zzA]
 refine wpK_while (I := fun qq A' W' => A'.n = 60 /\ A'.defers = [] /\ A'.tmps.get 3 = some (.pointer (some ⟨p, 0, none⟩)) /\ A'.tmps.get 24 = some (.int .i64 (n : Int)) /\ Only (fun x => x = p) W1 W' /\ ∃ (i : Nat) (s : PS) (D A : Nat -> Prop) (cl : Nat -> Nat), A'.tmps.get 25 = some (.int .i64 (i : Int)) /\ qq = n - i /\ i <= n /\ PairAt W' p w s /\ Great n J s D A cl i)
  (J := fun A' W' => A'.n = 60 /\ A'.defers = [] /\ A'.tmps.get 3 = some (.pointer (some ⟨p, 0, none⟩)) /\ A'.tmps.get 24 = some (.int .i64 (n : Int)) /\ Only (fun x => x = p) W1 W' /\ ∃ (s : PS) (D A : Nat -> Prop) (cl : Nat -> Nat), PairAt W' p w s /\ Great n J s D A cl n) (Rt := fun _ _ => False) (k := n) ?_ ?_ ?_ ?_
 ·exact ⟨rfl, rfl, by simp [h3, h24], by simp [h3, h24], hO3, 0, _, _, _, _, by simp [h25], rfl, by omega, hP3, hG0⟩
 ·rintro qq ⟨tm, n, ds⟩ Wa ⟨hn, hd, h3, h24, hOa, i, s, D, A, cl, h25, hqq, hil, hPa, hG⟩ Q' hJ hRt hI
  simp only at hn hd h3 h24
  subst hn; subst hd
  simp only at h25
  by_cases hlt : i < n
  case neg =>
   have hlt' : ¬ (i : Int) < n := by omega
   have e : i = n := by omega
   rw [e] at hG
   try simp only [zzA]
   refine wpK_reg (fun R hR => by simp [h24, h25, hlt']; exact hR) ?_
   try simp only [zzA]
   first | refine wpK_onF (by simp [hlt]) ?_ | refine wpK_out (by simp [hlt]) ?_ | refine zzF (by simp [hlt]) ?_ | refine zzB (by simp [hlt]) (wpK_skip ?_) | refine zzB (by simp [hlt]) ?_
   exact hJ _ _ ⟨rfl, rfl, by simp [h3, h24], by simp [h3, h24], hOa, s, D, A, cl, hPa, hG⟩
  have hlt' : (i : Int) < n := by omega
  try simp only [zzA]
  refine wpK_reg (fun R hR => by simp [h24, h25, hlt']; exact hR) ?_
  try simp only [zzA]
  first | refine wpK_onT (by simp [hlt]) ?_ | refine wpK_outT (by simp [hlt]) ?_ | refine zzE (by simp [hlt]) ?_ | refine wpK_endT (by simp [hlt]) ?_
  have lm := ps_mt hPa (j := i) (by omega)
  have i1 := ix94 p 1 i (by omega)
  refine wpK_block ?_
  try simp only [zzA]
  refine wpK_reg (fun R hR => by simp [h25]; exact hR) ?_
  by_cases hmi : s.mt i = -1
  case neg =>
   try simp only [zzA]
   refine wpK_reg (fun R hR => by simp [h3, lm, i1, hmi]; exact hR) ?_
   try simp only [zzA]
   first | refine wpK_onT (by simp [hmi]) ?_ | refine wpK_outT (by simp [hmi]) ?_ | refine zzE (by simp [hmi]) ?_ | refine wpK_endT (by simp [hmi]) ?_
   simp only [leaves_exit, if_true, zzG]
   try simp only [zzA]
   refine wpK_reg1 (fun R hR => by simp [h25]; exact hR) ?_
   exact hI (n - (i + 1)) _ _ (by omega) ⟨rfl, rfl, by simp [h3, h24], by simp [h3, h24], hOa, i + 1, s, D, A, cl, by simp [i64_succ i (by omega)], rfl, by omega, hPa, hG.mat, hG.dn, hG.fe, fun x hx hm => hG.all x (by
    by_cases e : x = i
    ·subst e; exact absurd hm hmi
    ·omega) hm, fun x hx hm => Nat.lt_succ_of_lt (hG.old x hx hm), hG.lone⟩
  rw [hmi] at lm
  try simp only [zzA]
  refine wpK_reg (fun R hR => by simp [h3, lm, i1]; exact hR) ?_
  try simp only [zzA]
  first | refine wpK_onF (by simp []) ?_ | refine wpK_out (by simp []) ?_ | refine zzF (by simp []) ?_ | refine zzB (by simp []) (wpK_skip ?_) | refine zzB (by simp []) ?_
  have hDi : ¬ D i := fun h => by have := hG.old i h hmi; omega
  have hAi : ¬ A i := fun h => by
   obtain ⟨x, g, _⟩ := hG.dn.mA h
   omega
  have hVa := hV1.only hOa hwp
  have hTa := tabs_only hT1 (by omega) hOa (by omega)
  try simp only [zzA]
  refine wpK_x1 (fun R hR => by
    simp [h3, opMakeFunc, aEnter, fun78, zzC, aCallV]; rw [zzD]
    refine (search_wp hn hJi hsy hJn hJl hWj hPa hVa hwp hTa (by omega) hG.mat hlt hmi hG.dn hG.lone hDi hAi).mono ?_
    rintro v Wb hh
    simp [h3, opMakeFunc]; exact hR v Wb hh) ?_
  rintro v Wb hh
  obtain ⟨hOb, s', hPb, hfe, hres⟩ := hh
  have hOb' := hOa.trans hOb
  have lm' := ps_mt hPb (j := i) (by omega)
  rcases hres with ⟨x1, ⟨D', A', cl', ⟨x2, x2l⟩, x3⟩, x4, x5, x6⟩ | ⟨x1, ⟨e0, y1, y2, y3, y4⟩, x2⟩
  ·rw [x1, hmi] at lm'
   try simp only [zzA]
   refine wpK_reg (fun R hR => by simp [h3, lm', i1]; exact hR) ?_
   try simp only [zzA]
   first | refine wpK_onT (by simp []) ?_ | refine wpK_outT (by simp []) ?_ | refine zzE (by simp []) ?_ | refine wpK_endT (by simp []) ?_
   have lf := ps_fe hPb
   have lo := ps_ot hPb
   rw [hfe] at lf
   have hfl := hG.fe40 hn
   have hor := aBinI_or .u64 s.fe s'.ot (by show s.fe < 18446744073709551616; omega) (by show s'.ot < 18446744073709551616; omega)
   obtain ⟨Wc, w1, w2, w3, w4⟩ := ps_setFe hPb (s.fe ||| s'.ot)
   have nc := w3.1
   try simp only [zzA]
   refine wpK_qn (wr := Tr.nil |>.set 47 0 |>.set 48 1 |>.set 49 2 |>.set 50 3 |>.set 51 4 |>.set 52 5 |>.set 53 6 |>.set 54 7 |>.set 55 8 |>.set 56 9 |>.set 57 10) (bits := Tr.nil.lay 0 [0, 1, 3, 7, 0, 16, 48, 112, 255, 511, 1023, 2047]) (ord := [0, 1, 2, 3, 4, 5, 6, 7, 8, 9, 10, 11]) (by kernel_rfl) (by kernel_rfl) (by kernel_rfl) (fun G hG => by
    simp [h3, lf, lo, hor, w1, nc]
    exact hG) ?_
   simp only [zzH, zzG]
   try simp only [zzA]
   refine wpK_reg1 (fun R hR => by simp [h25]; exact hR) ?_
   refine hI (n - (i + 1)) _ _ (by omega) ⟨rfl, rfl, by simp [h3, h24], by simp [h3, h24], hOb'.trans w3, i + 1, _, D', A', cl', by simp [i64_succ i (by omega)], rfl, by omega, w4, ?_⟩
   refine ⟨by show Mt n J s'.mt; rw [x1]; exact hG.mat, by show Dn n J s'.mt _ _ _; rw [x1]; exact x2, fun x => ?_, fun x hx hm => ?_, fun x hx hm => ?_, by show Lone n J s'.mt _ _; rw [x1]; exact x2l⟩
   ·show (s.fe ||| s'.ot).testBit x = true ↔ _
    rw [Nat.testBit_or, Bool.or_eq_true, hG.fe, x3]
   ·have hm : s'.mt x = -1 := hm
    rw [x1] at hm
    by_cases e : x = i
    ·subst e; exact (x3 x).2 (.inr x5)
    ·exact (x3 x).2 (.inl (hG.all x (by omega) hm))
   ·have hm : s'.mt x = -1 := hm
    rw [x1] at hm
    rcases (x3 x).1 hx with h | h
    ·have := hG.old x h hm; omega
    ·have := x6 x h hm; omega
  ·have hne : ¬ s'.mt i = -1 := fun h => ((y4 i hlt).1 h).2.2 rfl
   try simp only [zzA]
   refine wpK_reg (fun R hR => by simp [h3, lm', i1, hne]; exact hR) ?_
   try simp only [zzA]
   first | refine wpK_onF (by simp [hne]) ?_ | refine wpK_out (by simp [hne]) ?_ | refine zzF (by simp [hne]) ?_ | refine zzB (by simp [hne]) (wpK_skip ?_) | refine zzB (by simp [hne]) ?_
   simp only [zzH, zzG]
   try simp only [zzA]
   refine wpK_reg1 (fun R hR => by simp [h25]; exact hR) ?_
   refine hI (n - (i + 1)) _ _ (by omega) ⟨rfl, rfl, by simp [h3, h24], by simp [h3, h24], hOb', i + 1, s', D, A, cl, by simp [i64_succ i (by omega)], rfl, by omega, hPb, ?_⟩
   refine ⟨x1, hG.dn.cong x2, fun x => by rw [hfe]; exact hG.fe x, fun x hx hm => ?_, fun x hx hm => ?_, hG.lone.cong hG.dn hG.mat x1 x2⟩
   ·have := (y4 x (by omega)).1 hm
    exact hG.all x (by have := this.2.2; omega) this.1
   ·rw [x2 x (.inl hx)] at hm
    have := hG.old x hx hm; omega
 ·rintro A' W' hf; exact hf.elim
 rintro ⟨tm, n, ds⟩ W4 ⟨hn, hd, h3, h24, hO4, s, D, A, cl, hP4, hG⟩
 simp only at hn hd h3 h24
 subst hn; subst hd
 try simp only [zzA]
 refine wpK_reg (fun R hR => by simp [h3]; exact hR) ?_
 exact wpK_ret ⟨.inr rfl, rfl, [.pointer (some ⟨p, 0, none⟩)], by simp, ⟨by have := hO4.1; omega, fun b hb _ => by rw [hO4.2 b (by omega) (by omega), hE1.2 b hb (fun x => x)]⟩, p, s, D, A, cl, rfl, by omega, hP4, hG⟩
theorem aBinI_quo (k : IntKind) (a b : Int) (hb : b ≠ 0) : aBinI .quo k a k b = some (.int k (k.wrap (a.tdiv b))) := by
 refine aBinI_all (fun x y u ha hb h => ?_) (fun _ _ => rfl) (by simp [aInts, aBinInt, aPure, Op.intDiv, flat1, pure, hb])
 subst ha; subst hb
 simp only [fastInt] at h
 split at h
 ·rename_i h1 h2
  rw [Nat.blt_eq] at h2
  cases h
  have := wrap_lim k (x / y) (Nat.lt_of_le_of_lt (Nat.div_le_self _ _) h2)
  show Value.int k (Int.ofNat (x / y)) = Value.int k (k.wrap (Int.ofNat (x / y)))
  rw [this]
 ·cases h
theorem isPairing_ok {W : AW} {v pv : Value} {P : Int} {es : List Edge} {p : List Int} (h : PairR W v es) (hl : es.length < 4611686018427387904) (hg : GraphOk P es) (hp : IntN W pv p) (hpl : p.length < 4611686018427387904) :
  WpF T0 21 [.agg ⟨[.int .i64 P, v]⟩, pv] W (fun u W' => Ext W W' /\ ∃ k b, u = .tuple ⟨[.int .i64 k, .bool b]⟩ /\ PairingIs P es p k b) := by
 have hP := hg.2.1
 refine wpF fun21 rfl ?_
 obtain ⟨W1, hW1, hE1, hV⟩ : ∃ W1, W1 = W.newCells 25 [.int .i64 P, v] /\ Ext W W1 /\ Var W1 W.next 25 [.int .i64 P, v] := ⟨_, rfl, .newCells _ _ _, Var.new _ _ _⟩
 have hl1 := load25 hV
 obtain ⟨n, hn⟩ : ∃ n, n = p.length := ⟨_, rfl⟩
 obtain ⟨A, c, hv⟩ := hp.len
 have lp : ∀ W', aLen T0 W' 31 pv = some (.int .i64 (n : Int)) := fun W' => by rw [hv, hn]; exact len_slice und31 _ _ _
 try simp only [zzA]
 refine wpK_reg (fun R hR => by simp [<- hW1]; exact hR) ?_
 try simp only [zzA]
 refine wpK_x1 (fun R hR => by
   simp [hl1, opExtract, aExtract, aEnter, fun54, zzC, aCallV]; rw [zzD]
   refine (lay_ok (h.ext hE1) hl hg).mono ?_
   rintro _ W2 ⟨hE2, pw, hpw, rfl, hWeb⟩
   simp [hl1, opExtract, aExtract]; exact hR pw W2 (And.intro hE2 hWeb)) ?_
 rintro pw W2 ⟨hE2, hWeb⟩
 obtain ⟨J, hJ, hVw⟩ := hWeb
 have l0 := (hV.ext hE2).load1 (T := T0) und3 rfl (j := 0) (v := .int .i64 P) rfl
 have hp2 := hp.ext (hE1.trans hE2)
 by_cases hnP : (n : Int) = P
 case neg =>
  try simp only [zzA]
  refine wpK_reg (fun R hR => by simp [lp, l0, hnP]; exact hR) ?_
  try simp only [zzA]
  first | refine wpK_onT (by simp []) ?_ | refine wpK_outT (by simp []) ?_ | refine zzE (by simp []) ?_ | refine wpK_endT (by simp []) ?_
  try simp only [zzA]
  refine wpK_reg (fun R hR => by simp []; exact hR) ?_
  exact wpK_ret ⟨.inr rfl, rfl, [.int .i64 0, .bool false], by simp, hE1.trans hE2, 0, false, rfl, .inr ⟨rfl, rfl, fun hh => hnP (by rw [hn]; exact hh.1)⟩⟩
 try simp only [zzA]
 refine wpK_reg (fun R hR => by simp [lp, l0, hnP]; exact hR) ?_
 try simp only [zzA]
 first | refine wpK_onF (by simp []) ?_ | refine wpK_out (by simp []) ?_ | refine zzF (by simp []) ?_ | refine zzB (by simp []) (wpK_skip ?_) | refine zzB (by simp []) ?_
 try simp only [zzA]
 refine wpK_reg (fun R hR => by simp []; exact hR) ?_
 try simp only [zzA]
 refine wpK_reg (fun R hR => by simp [lp]; exact hR) ?_
 have hn40 : n <= 40 := by omega
 try simp only [zzA]
 refine wpK_while (I := fun k A W' => A.n = 66 /\ A.defers = [] /\ A.tmps.get 1 = some (pv) /\ A.tmps.get 2 = some (.pointer (some ⟨W.next, 0, none⟩)) /\ A.tmps.get 6 = some (.pointer (some ⟨pw, 0, none⟩)) /\ A.tmps.get 25 = some (pv) /\ A.tmps.get 26 = some (.int .i64 (n : Int)) /\ W' = W2 /\ ∃ i : Nat, A.tmps.get 27 = some (.int .i64 (i : Int)) /\ A.tmps.get 8 = some (.int .i64 (cnt1 p i)) /\ k = n - i /\ i <= n /\ PairOk P es p i)
  (J := fun A W' => A.n = 66 /\ A.defers = [] /\ A.tmps.get 1 = some (pv) /\ A.tmps.get 2 = some (.pointer (some ⟨W.next, 0, none⟩)) /\ A.tmps.get 6 = some (.pointer (some ⟨pw, 0, none⟩)) /\ A.tmps.get 25 = some (pv) /\ A.tmps.get 26 = some (.int .i64 (n : Int)) /\ W' = W2 /\ A.tmps.get 8 = some (.int .i64 (cnt1 p n)) /\ PairOk P es p n) (Rt := fun A W' => A.n = 66 /\ A.defers = [] /\ W' = W2 /\ A.tmps.get 4 = some (.int .i64 0) /\ A.tmps.get 5 = some (.bool false) /\ ¬ PairOk P es p n) (k := n) ?_ ?_ ?_ ?_
 ·exact ⟨rfl, rfl, by simp, by simp, by simp, by simp, by simp, rfl, 0, by simp, by simp [cnt1, sumN], rfl, by omega, fun i hi => by omega⟩
 ·rintro k ⟨tm, n, ds⟩ W3 ⟨hn, hd, h1, h2, h6, h25, h26, e2, i, h27, h8, hk, hi, hok⟩ Q' hJ' hRt hI
  simp only at hn hd h1 h2 h6 h25 h26
  subst hn; subst hd
  subst W3
  simp only at h27 h8
  by_cases hlt : i < n
  case neg =>
   have e : i = n := by omega
   subst e
   try simp only [zzA]
   refine wpK_reg (fun R hR => by simp [h26, h27]; exact hR) ?_
   try simp only [zzA]
   first | refine wpK_onF (by simp []) ?_ | refine wpK_out (by simp []) ?_ | refine zzF (by simp []) ?_ | refine zzB (by simp []) (wpK_skip ?_) | refine zzB (by simp []) ?_
   exact hJ' _ _ ⟨rfl, rfl, by simp [h1, h2, h6, h25, h26], by simp [h1, h2, h6, h25, h26], by simp [h1, h2, h6, h25, h26], by simp [h1, h2, h6, h25, h26], by simp [h1, h2, h6, h25, h26], rfl, by simp [h8], hok⟩
  have hlt' : (i : Int) < n := by omega
  try simp only [zzA]
  refine wpK_reg (fun R hR => by simp [h26, h27, hlt']; exact hR) ?_
  try simp only [zzA]
  first | refine wpK_onT (by simp [hlt]) ?_ | refine wpK_outT (by simp [hlt]) ?_ | refine zzE (by simp [hlt]) ?_ | refine wpK_endT (by simp [hlt]) ?_
  obtain ⟨bx, px, x1, x2, _⟩ := int_at31 hp2 (gI_some (l := p) (i := i) (by omega))
  have hno : ¬ (gI p i = -1 \/ (0 <= gI p i /\ gI p i < P /\ gI p (gI p i).toNat = (i : Int) /\ Jn es (i : Int) (gI p i))) -> ¬ PairOk P es p n := fun hh hr => hh (hr i hlt)
  have hyes := hok.succ
  have hc := cnt1_in p i
  have hcs : cnt1 p (i + 1) = cnt1 p i + if gI p i = -1 then 0 else 1 := rfl
  have hat := fun (q : Nat) (hq : q < n) => int_at31 hp2 (gI_some (l := p) (i := q) (by omega))
  generalize hx : gI p i = x at x2 hno hyes hcs
  generalize cnt1 p i = c0 at h8 hc hcs
  refine wpK_block ?_
  try simp only [zzA]
  refine wpK_reg (fun R hR => by simp [h25, h27, x1, x2]; exact hR) ?_
  by_cases b0 : x = -1
  ·try simp only [zzA]
   refine wpK_reg (fun R hR => by simp [b0]; exact hR) ?_
   try simp only [zzA]
   first | refine wpK_onT (by simp []) ?_ | refine wpK_outT (by simp []) ?_ | refine zzE (by simp []) ?_ | refine wpK_endT (by simp []) ?_
   simp only [leaves_exit, zzG, if_true]
   rw [if_pos b0, Int.add_zero] at hcs
   refine wpK_keep (fun tm' => tm'.get 1 = some (pv) /\ tm'.get 2 = some (.pointer (some ⟨W.next, 0, none⟩)) /\ tm'.get 6 = some (.pointer (some ⟨pw, 0, none⟩)) /\ tm'.get 8 = some (.int .i64 c0) /\ tm'.get 25 = some (pv) /\ tm'.get 26 = some (.int .i64 (n : Int)) /\ tm'.get 27 = some (.int .i64 (i : Int))) (by simp [h1, h2, h6, h8, h25, h26, h27]) ?_
   rintro tm ⟨h1, h2, h6, h8, h25, h26, h27⟩
   try simp only [zzA]
   refine wpK_reg1 (fun R hR => by simp [h27]; exact hR) ?_
   exact hI (n - (i + 1)) _ _ (by omega) ⟨rfl, rfl, by simp [h1, h2, h6, h25, h26], by simp [h1, h2, h6, h25, h26], by simp [h1, h2, h6, h25, h26], by simp [h1, h2, h6, h25, h26], by simp [h1, h2, h6, h25, h26], rfl, i + 1, by simp [i64_succ i (by omega)], by rw [hcs]; simp [h8], rfl, by omega, hyes (.inl b0)⟩
  try simp only [zzA]
  refine wpK_reg (fun R hR => by simp [b0]; exact hR) ?_
  try simp only [zzA]
  first | refine wpK_onF (by simp []) ?_ | refine wpK_out (by simp []) ?_ | refine zzF (by simp []) ?_ | refine zzB (by simp []) (wpK_skip ?_) | refine zzB (by simp []) ?_
  by_cases b1 : x < 0
  ·try simp only [zzA]
   refine wpK_reg (fun R hR => by simp [h2, l0, b1]; exact hR) ?_
   try simp only [zzA]
   first | refine wpK_onT (by simp []) ?_ | refine wpK_outT (by simp []) ?_ | refine zzE (by simp []) ?_ | refine wpK_endT (by simp []) ?_
   try simp only [zzA]
   refine wpK_reg (fun R hR => by simp []; exact hR) ?_
   exact wpK_ret (hRt _ _ ⟨rfl, rfl, rfl, by simp, by simp, hno (by omega)⟩)
  by_cases b2 : P <= x
  ·try simp only [zzA]
   refine wpK_reg (fun R hR => by simp [h2, l0, b1, b2]; exact hR) ?_
   try simp only [zzA]
   first | refine wpK_onT (by simp []) ?_ | refine wpK_outT (by simp []) ?_ | refine zzE (by simp []) ?_ | refine wpK_endT (by simp []) ?_
   try simp only [zzA]
   refine wpK_reg (fun R hR => by simp []; exact hR) ?_
   exact wpK_ret (hRt _ _ ⟨rfl, rfl, rfl, by simp, by simp, hno (by omega)⟩)
  obtain ⟨q, hq⟩ : ∃ q : Nat, x = (q : Int) := ⟨x.toNat, by omega⟩
  subst hq
  have hqn : q < n := by omega
  obtain ⟨by', py, y1, y2, _⟩ := hat q hqn
  simp only [Int.toNat_natCast] at hno hyes
  by_cases b3 : gI p q = (i : Int)
  case neg =>
   generalize gI p q = y at y2 b3 hno hyes
   try simp only [zzA]
   refine wpK_reg (fun R hR => by simp [h1, h2, l0, b1, b2, y1, y2, b3]; exact hR) ?_
   try simp only [zzA]
   first | refine wpK_onT (by simp []) ?_ | refine wpK_outT (by simp []) ?_ | refine zzE (by simp []) ?_ | refine wpK_endT (by simp []) ?_
   try simp only [zzA]
   refine wpK_reg (fun R hR => by simp []; exact hR) ?_
   exact wpK_ret (hRt _ _ ⟨rfl, rfl, rfl, by simp, by simp, hno (by omega)⟩)
  rw [b3] at y2 hno hyes
  obtain ⟨jb1, jb2⟩ := join_bit hJ (q := i) (r := q) (by omega)
  have i1 := ix106 pw 1 i (by omega)
  have w1 := web_load hVw (i := i) (by rw [hJ.1]; omega)
  generalize J.getD i 0 = S at w1 jb1 jb2
  have hh := fun W' => has_wp S q (by omega) (by omega) W'
  cases hb : S.testBit q with
  | false =>
   rw [hb] at hh jb2
   have hnj : ¬ Jn es (i : Int) (q : Int) := fun hj => by have := jb2.2 hj; cases this
   try simp only [zzA]
   refine wpK_reg (fun R hR => by
    simp [h1, h2, h6, l0, b1, b2, y1, y2, i1, w1, aEnter, fun60, zzC, aCallV]; rw [zzD]
    refine (hh _).mono ?_
    rintro _ W9 ⟨e9, rfl⟩; subst W9
    simp; exact hR) ?_
   try simp only [zzA]
   first | refine wpK_onT (by simp []) ?_ | refine wpK_outT (by simp []) ?_ | refine zzE (by simp []) ?_ | refine wpK_endT (by simp []) ?_
   try simp only [zzA]
   refine wpK_reg (fun R hR => by simp []; exact hR) ?_
   exact wpK_ret (hRt _ _ ⟨rfl, rfl, rfl, by simp, by simp, hno (fun ho => by
    rcases ho with ho | ho
    ·omega
    ·exact hnj ho.2.2.2)⟩)
  | true =>
   rw [hb] at hh jb2
   have hj := jb2.1 rfl
   try simp only [zzA]
   refine wpK_reg (fun R hR => by
    simp [h1, h2, h6, l0, b1, b2, y1, y2, i1, w1, aEnter, fun60, zzC, aCallV]; rw [zzD]
    refine (hh _).mono ?_
    rintro _ W9 ⟨e9, rfl⟩; subst W9
    simp; exact hR) ?_
   try simp only [zzA]
   first | refine wpK_onF (by simp []) ?_ | refine wpK_out (by simp []) ?_ | refine zzF (by simp []) ?_ | refine zzB (by simp []) (wpK_skip ?_) | refine zzB (by simp []) ?_
   rw [if_neg b0] at hcs
   have a1 : IntKind.i64.wrap (c0 + 1) = cnt1 p (i + 1) := by rw [hcs]; exact i64_in (by omega)
   try simp only [zzA]
   refine wpK_reg1 (fun R hR => by simp [h8, a1]; exact hR) ?_
   simp only [zzH, zzG]
   refine wpK_keep (fun tm' => tm'.get 1 = some (pv) /\ tm'.get 2 = some (.pointer (some ⟨W.next, 0, none⟩)) /\ tm'.get 6 = some (.pointer (some ⟨pw, 0, none⟩)) /\ tm'.get 8 = some (.int .i64 (cnt1 p (i + 1))) /\ tm'.get 25 = some (pv) /\ tm'.get 26 = some (.int .i64 (n : Int)) /\ tm'.get 27 = some (.int .i64 (i : Int))) (by simp [h1, h2, h6, h25, h26, h27]) ?_
   rintro tm ⟨h1, h2, h6, h8, h25, h26, h27⟩
   try simp only [zzA]
   refine wpK_reg1 (fun R hR => by simp [h27]; exact hR) ?_
   exact hI (n - (i + 1)) _ _ (by omega) ⟨rfl, rfl, by simp [h1, h2, h6, h25, h26], by simp [h1, h2, h6, h25, h26], by simp [h1, h2, h6, h25, h26], by simp [h1, h2, h6, h25, h26], by simp [h1, h2, h6, h25, h26], rfl, i + 1, by simp [i64_succ i (by omega)], by simp [h8], rfl, by omega, hyes (.inr ⟨by omega, by omega, rfl, hj⟩)⟩
 ·rintro ⟨tm, m, ds⟩ W' ⟨h1, h2, h3, h4, h5, h6⟩
  simp only at h1 h2 h4 h5
  subst h1; subst h2; subst h3
  exact ⟨.inr rfl, rfl, [.int .i64 0, .bool false], by simp [h4, h5], hE1.trans hE2, 0, false, rfl, .inr ⟨rfl, rfl, fun hh => h6 (by rw [hn]; exact hh.2)⟩⟩
 ·rintro ⟨tm, n, ds⟩ W3 ⟨hn, hd, h1, h2, h6, h25, h26, e2, h8, hok⟩
  simp only at hn hd h1 h2 h6 h25 h26
  subst hn; subst hd
  subst W3
  simp only at h8
  rw [hn] at h8 hok
  have ht := cnt_twice hg (by rw [<- hn]; exact hnP) hok
  have hc2 := cnt2_in p p.length
  rw [ht] at h8
  generalize hk : cnt2 p p.length = k at h8 hc2
  have hdiv : aBinI .quo .i64 (2 * k) .i64 2 = some (.int .i64 k) := by
   rw [aBinI_quo .i64 _ _ (by omega), Int.mul_comm, Int.mul_tdiv_cancel _ (by omega), i64_in (by omega)]
  try simp only [zzA]
  refine wpK_reg (fun R hR => by simp [h8, hdiv]; exact hR) ?_
  exact wpK_ret ⟨.inr rfl, rfl, [.int .i64 k, .bool true], by simp, hE1.trans hE2, k, true, rfl, .inl ⟨rfl, by rw [<- hn]; exact hnP, hok, hk.symm⟩⟩
theorem around_wp {W : AW} {pw x : Nat} {P : Int} {J : List Nat} {es : List Edge} (hJ : JoinL es J) (hVw : Var W pw 108 (.int .i64 P :: J.map setV)) (hx : x < 1099511627776) (hT : tabsIn T0 T0.tabs W = true) (h0 : 0 < W.next) :
  WpF T0 80 [.pointer (some ⟨pw, 0, none⟩), .int .u64 (x : Nat)] W (fun v W' => Ext W W' /\ ∃ R : Nat, v = .int .u64 (R : Nat) /\ R < 1099511627776 /\ ∀ r : Nat, R.testBit r = true ↔ ∃ q, x.testBit q = true /\ (J.getD q 0).testBit r = true) := by
 refine wpFd fun80 rfl ?_
 obtain ⟨W0, hW0, hE0, hn0, hV0⟩ : ∃ W0, W0 = W.newCells 90 [.pointer (some ⟨pw, 0, none⟩)] /\ Ext W W0 /\ W0.next = W.next + 1 /\ Var W0 W.next 90 [.pointer (some ⟨pw, 0, none⟩)] := ⟨_, rfl, .newCells _ _ _, rfl, Var.new _ _ _⟩
 obtain ⟨W1, hW1, hE1, hn1, hV1⟩ : ∃ W1, W1 = W0.newCells 96 [.int .u64 0] /\ Ext W0 W1 /\ W1.next = W0.next + 1 /\ Var W1 W0.next 96 [.int .u64 0] := ⟨_, rfl, .newCells _ _ _, rfl, Var.new _ _ _⟩
 obtain ⟨Wq, g1, g2, g3, g4⟩ := var_store1 (t := 96) (v := .int .u64 0) (o := 0) hV1 inf96 is96 rfl rfl (by simp)
 try simp only [zzA]
 refine wpK_reg (fun R hR => by simp [<- hW0]; exact hR) ?_
 try simp only [zzA]
 refine wpK_reg (fun R hR => by simp [zero96, <- hW1, g1]; exact hR) ?_
 have hE01 : Ext W Wq := ⟨by have := hE0.1; have := hE1.1; omega, fun b hb hk => by rw [g3.2 b (by omega) (by omega), hE1.2 b (by omega) hk, hE0.2 b hb hk]⟩
 have hVq : Var Wq W0.next 96 [.int .u64 0] := by simpa using g4
 have hV0q : Var Wq W.next 90 [.pointer (some ⟨pw, 0, none⟩)] := (hV0.ext hE1).only g3 (by omega)
 obtain ⟨p5, hp5⟩ : ∃ p, p = W0.next := ⟨_, rfl⟩
 rw [<- hp5] at hVq
 have hpw := hVw.1
 try simp only [zzA]
 refine wpK_x0 (fun R hR => by
   simp [aEnter, fun77, zzC, aCallV]; rw [zzD]
   refine (places_wp x).mono ?_
   rintro _ W2 ⟨hE2, rfl, hB2⟩
   simp []; exact hR W2 (And.intro hE2 hB2)) ?_
 rintro W2 ⟨hE2, hB2⟩
 refine wpK_keep (fun tm' => tm'.get 2 = some (.pointer (some ⟨W.next, 0, none⟩)) /\ tm'.get 5 = some (.pointer (some ⟨p5, 0, none⟩)) /\ tm'.get 8 = some (.func (.func 86) ⟨[]⟩ ⟨[.pointer (some ⟨Wq.next, 0, none⟩)]⟩)) (by simp [hp5]) ?_
 rintro tm ⟨h2, h5, h8⟩
 have n2 := hE2.1
 refine wpK_range2 (f := 86) (first := ⟨[]⟩) (cap := ⟨[.pointer (some ⟨Wq.next, 0, none⟩)]⟩) (by simp [h8]) fun86 (fun W5 hn5 hW5 hdf hlp => ?_)
 have hE25 : Ext W2 W5 := ⟨by omega, fun b hb _ => hW5 b hb⟩
 have hV5 := (hVq.ext hE2).ext hE25
 have hV05 := (hV0q.ext hE2).ext hE25
 have hE5 : Ext W W5 := (hE01.trans hE2).trans hE25
 refine (places1_wp (l := W2.next + 1) (bx := Wq.next) (x := x) (fun left W' => Ext W W' /\ W5.next <= W'.next /\ W'.blocks.get (W2.next + 1) = W5.blocks.get (W2.next + 1) /\ W'.blocks.get W2.next = W5.blocks.get W2.next /\ left < 1099511627776 /\
  Var W' W.next 90 [.pointer (some ⟨pw, 0, none⟩)] /\ (∀ q, left.testBit q = true -> x.testBit q = true) /\ ∃ R : Nat, Var W' p5 96 [.int .u64 (R : Nat)] /\ R < 1099511627776 /\ ∀ r : Nat, R.testBit r = true ↔ ∃ q, x.testBit q = true /\ left.testBit q = false /\ (J.getD q 0).testBit r = true) (by omega) (fun left k W' hC hl hb1 hb2 => ?_) ⟨hE5, Nat.le_refl _, rfl, rfl, hx, hV05, fun q h => h, 0, hV5, by omega, fun r => ⟨fun h => by simp at h, fun ⟨q, a, b, _⟩ => by rw [a] at b; cases b⟩⟩ (hB2.ext hE25)).mono ?_
 ·obtain ⟨c1, c2, c3, c4, c5, c6, c7, R, c8, c9, c10⟩ := hC
  have hl := c3.trans hlp
  have hk40 : k < 40 := by
   apply Classical.byContradiction
   intro hk
   rw [Nat.testBit_lt_two_pow (Nat.lt_of_lt_of_le (show left < 2 ^ 40 from c5) (Nat.pow_le_pow_right (by omega) (by omega)))] at hb1
   cases hb1
  refine ⟨tabs_ext hT h0 c1, _, _, _, _, _, _, _, _, _, _, tm.set 9 (.int .i64 (k : Nat)), hl, rfl, ?_⟩
  refine wpR ?_
  try simp only [zzA]
  refine wpK_reg1 (fun R hR => by simp []; exact hR) ?_
  refine ⟨rfl, _, _, _, _, _, _, _, _, hl, ?_⟩
  generalize hbz : (AObj.loop LoopState.busy _ _ _ _ _ _ _ _) = bz
  obtain ⟨Wb, hWb, hOb, hnb⟩ : ∃ Wb, Wb = W'.setObj (W2.next + 1) bz /\ Only (fun b => b = W2.next + 1) W' Wb /\ Wb.next = W'.next := ⟨_, rfl, setObj_only _ _ _, rfl⟩
  rw [<- hWb]
  have hlb : Wb.blocks.get (W2.next + 1) = some ⟨bz, []⟩ := by rw [hWb, setObj_get, if_pos rfl]
  have c6b := c6.only hOb (by omega)
  have c8b := c8.only hOb (by omega)
  have hwb := (hVw.ext c1).only hOb (by omega)
  have m1 := c6b.load1 (T := T0) und90 rfl (j := 0) (v := .pointer (some ⟨pw, 0, none⟩)) rfl
  have m2 := c8b.load1 (T := T0) und96 rfl (j := 0) (v := .int .u64 (R : Nat)) rfl
  have m3 := web_load hwb (i := k) (by rw [hJ.1]; exact hk40)
  have i1 := ix106 pw 1 k hk40
  obtain ⟨jb1, -⟩ := join_bit hJ (q := k) (r := 0) hk40
  have hor := aBinI_or .u64 R (J.getD k 0) (by show R < 18446744073709551616; omega) (by show J.getD k 0 < 18446744073709551616; omega)
  obtain ⟨Wd, s1, s2, s3, s4⟩ := var_store1 (t := 96) (v := .int .u64 ((R ||| J.getD k 0 : Nat) : Int)) (o := 0) c8b inf96 is96 rfl rfl (by simp)
  have hR2 : R ||| J.getD k 0 < 1099511627776 := Nat.or_lt_two_pow (n := 40) c9 jb1
  have hbit : ∀ r, (R ||| J.getD k 0).testBit r = true ↔ ∃ q, x.testBit q = true /\ (dropLow left).testBit q = false /\ (J.getD q 0).testBit r = true := fun r => by
   rw [Nat.testBit_or, Bool.or_eq_true, c10 r]
   constructor
   ·rintro (⟨q, a, b, c⟩ | c)
    ·exact ⟨q, a, by rw [dropLow_bit hb1 hb2, b]; rfl, c⟩
    ·exact ⟨k, c7 k hb1, by rw [dropLow_bit hb1 hb2]; simp, c⟩
   ·rintro ⟨q, a, b, c⟩
    rw [dropLow_bit hb1 hb2] at b
    by_cases e : q = k
    ·subst e; exact .inr c
    ·refine .inl ⟨q, a, ?_, c⟩
     rw [show decide (q ≠ k) = true from decide_eq_true e, Bool.and_true] at b; exact b
  generalize R ||| J.getD k 0 = R2 at hor s1 s4 hR2 hbit
  generalize J.getD k 0 = Jk at m3 hor
  refine wpK_block1 ?_
  try simp only [zzA]
  refine wpK_qn (wr := Tr.nil |>.set 10 0 |>.set 11 1 |>.set 12 2 |>.set 13 3 |>.set 14 4 |>.set 15 5 |>.set 16 6 |>.set 17 7) (bits := Tr.nil.lay 0 [0, 0, 0, 2, 10, 30, 62, 127, 255]) (ord := [0, 1, 2, 3, 4, 5, 6, 7, 8]) (by kernel_rfl) (by kernel_rfl) (by kernel_rfl) (fun G hG => by
   simp [h2, h5, m1, m2, m3, i1, hor, s1, s2]
   exact hG) ?_
  simp only [zzH]
  have hdl : Wd.blocks.get (W2.next + 1) = some ⟨bz, []⟩ := by rw [s3.2 _ (by omega) (by omega)]; exact hlb
  subst hbz
  refine ⟨_, _, _, _, _, _, _, _, _, hdl, rfl, ?_⟩
  have hOz := fun o => setObj_only Wd (W2.next + 1) o
  refine ⟨⟨by rw [setObj_next]; have := c1.1; omega, fun b hb hk => ?_⟩, by rw [setObj_next]; omega, by rw [setObj_get, if_pos rfl]; exact hlp.symm, ?_, ?_, (c6b.only s3 (by omega)).only (hOz _) (by omega), fun q hq => ?_, R2, ?_, hR2, hbit⟩
  ·rw [setObj_get, if_neg (by omega), s3.2 b (by have := c1.1; omega) (by omega), hOb.2 b (by have := c1.1; omega) (by omega)]
   exact c1.2 b hb hk
  ·rw [setObj_get, if_neg (by omega), s3.2 _ (by omega) (by omega), hOb.2 _ (by omega) (by omega)]; exact c4
  ·have := dropLow_lt (x := left) (fun e => by subst e; simp at hb1)
   omega
  ·rw [dropLow_bit hb1 hb2] at hq
   exact c7 q (by simp only [Bool.and_eq_true] at hq; exact hq.1)
  ·exact (by simpa using s4 : Var Wd p5 96 [.int .u64 (R2 : Nat)]).only (hOz _) (by omega)
 ·rintro _ W6 ⟨c1, c2, c3, c4, c5, c6, c7, R, c8, c9, c10⟩
  have hl6 := c3.trans hlp
  refine ⟨_, _, _, _, _, _, _, _, _, hl6, (fun h => by cases h), ?_⟩
  show WpK T0 ⟨80, none⟩ _ _ _ _
  generalize hex : (AObj.loop LoopState.exhausted _ _ _ _ _ _ _ _) = ex
  obtain ⟨W7, hW7, hO7, hn7⟩ : ∃ W7, W7 = W6.setObj (W2.next + 1) ex /\ Only (fun b => b = W2.next + 1) W6 W7 /\ W7.next = W6.next := ⟨_, rfl, setObj_only _ _ _, rfl⟩
  rw [<- hW7]
  clear hW7 hex
  have c88 := c8.only hO7 (by omega)
  have hld := c88.load1 (T := T0) und96 rfl (j := 0) (v := .int .u64 (R : Nat)) rfl
  try simp only [zzA]
  refine wpK_reg (fun R hR => by simp [h5, hld]; exact hR) ?_
  have hdf7 : W7.blocks.get W2.next = some ⟨.deferred (some []), []⟩ := by rw [hO7.2 _ (by omega) (by omega), c4]; exact hdf
  refine wpK_ret ⟨.inr rfl, W7.setObj W2.next (.deferred none), ⟨W2.next, rfl, hdf7, rfl⟩, [.int .u64 (R : Nat)], by simp, ⟨by rw [setObj_next]; have := c1.1; omega, fun b hb hk => ?_⟩, R, rfl, c9, fun r => ?_⟩
  ·rw [setObj_get, if_neg (by omega), hO7.2 b (by have := c1.1; omega) (by omega)]; exact c1.2 b hb hk
  ·rw [c10 r]
   exact ⟨fun ⟨q, a, _, c⟩ => ⟨q, a, c⟩, fun ⟨q, a, c⟩ => ⟨q, a, by simp, c⟩⟩
inductive Rch (Aj : Nat -> Nat -> Prop) (S : Nat -> Prop) (k : Nat) : Nat -> Prop
 | start : S k -> Rch Aj S k k
 | step {q r : Nat} : Rch Aj S k q -> Aj q r -> S r -> Rch Aj S k r
section
variable {Aj : Nat -> Nat -> Prop} {S : Nat -> Prop}
theorem Rch.mem {k r : Nat} (h : Rch Aj S k r) : S r := by cases h <;> assumption
theorem Rch.mem0 {k r : Nat} (h : Rch Aj S k r) : S k := by
 induction h with
 | start h => exact h
 | step _ _ _ ih => exact ih
theorem Rch.trans {k q r : Nat} (h : Rch Aj S k q) (h2 : Rch Aj S q r) : Rch Aj S k r := by
 induction h2 with
 | start _ => exact h
 | step _ ha hs ih => exact ih.step ha hs
theorem Rch.symm (hs : ∀ q r, Aj q r -> Aj r q) {k r : Nat} (h : Rch Aj S k r) : Rch Aj S r k := by
 induction h with
 | start h => exact .start h
 | step h1 ha h2 ih => exact (Rch.step (.start h2) (hs _ _ ha) h1.mem).trans ih
theorem Rch.closed {k r : Nat} (h : Rch Aj S k r) {C : Nat -> Prop} (hk : C k) (hc : ∀ q r, C q -> Aj q r -> S r -> C r) : C r := by
 induction h with
 | start _ => exact hk
 | step _ ha hs ih => exact hc _ _ ih ha hs
end
open Classical in
noncomputable def bitsOf (p : Nat -> Prop) : Nat -> Nat
 | 0 => 0
 | n + 1 => if p n then bitsOf p n ||| 1 <<< n else bitsOf p n
theorem bitsOf_bit {p : Nat -> Prop} {r : Nat} : ∀ {n : Nat}, (bitsOf p n).testBit r = true ↔ r < n /\ p r
 | 0 => by simp [bitsOf]
 | n + 1 => by
  have ih := bitsOf_bit (p := p) (r := r) (n := n)
  unfold bitsOf
  split
  ·rename_i hp
   rw [or_bit, Bool.or_eq_true, ih]
   constructor
   ·rintro (h | h)
    ·exact ⟨by omega, h.2⟩
    ·have := of_decide_eq_true h
     subst this; exact ⟨by omega, hp⟩
   ·rintro ⟨h1, h2⟩
    by_cases e : r = n
    ·exact .inr (decide_eq_true e.symm)
    ·exact .inl ⟨by omega, h2⟩
  ·rename_i hp
   rw [ih]
   constructor
   ·rintro ⟨h1, h2⟩; exact ⟨by omega, h2⟩
   ·rintro ⟨h1, h2⟩
    by_cases e : r = n
    ·subst e; exact absurd h2 hp
    ·exact ⟨by omega, h2⟩
theorem bits_eq {x y : Nat} (h : ∀ r, x.testBit r = true ↔ y.testBit r = true) : x = y := Nat.eq_of_testBit_eq fun r => by
 have := h r
 cases hx : x.testBit r <;> cases hy : y.testBit r <;> simp_all
open Classical in
noncomputable def rootF (Aj : Nat -> Nat -> Prop) (S : Nat -> Prop) (v : Nat) : Int := if S v /\ ∀ u, u < v -> ¬ Rch Aj S v u then ((pc (bitsOf (Rch Aj S v) 40) % 2 : Nat) : Int) else 0
theorem rootF_is {Aj : Nat -> Nat -> Prop} {S : Nat -> Prop} {v C : Nat} (h1 : S v) (h2 : ∀ u, u < v -> ¬ Rch Aj S v u) (h40 : ∀ r, S r -> r < 40) (hC : ∀ r, C.testBit r = true ↔ Rch Aj S v r) : rootF Aj S v = ((pc C % 2 : Nat) : Int) := by
 rw [rootF, if_pos ⟨h1, h2⟩]
 have : bitsOf (Rch Aj S v) 40 = C := bits_eq fun r => by
  rw [bitsOf_bit, hC r]
  exact ⟨fun h => h.2, fun h => ⟨h40 r h.mem, h⟩⟩
 rw [this]
theorem rootF_not {Aj : Nat -> Nat -> Prop} {S : Nat -> Prop} {v : Nat} (h : ¬ (S v /\ ∀ u, u < v -> ¬ Rch Aj S v u)) : rootF Aj S v = 0 := by rw [rootF, if_neg h]
theorem rootF_in {Aj : Nat -> Nat -> Prop} {S : Nat -> Prop} (v : Nat) : 0 <= rootF Aj S v /\ rootF Aj S v <= 1 := by
 unfold rootF
 split <;> omega
theorem sumN_skip {f : Nat -> Int} {m : Nat} : ∀ {k : Nat}, m <= k -> (∀ v, m <= v -> v < k -> f v = 0) -> sumN k f = sumN m f
 | 0, hm, _ => by rw [Nat.le_zero.1 hm]
 | k + 1, hm, h => by
  by_cases e : m = k + 1
  ·rw [e]
  ·simp only [sumN]
   rw [sumN_skip (by omega) (fun v h1 h2 => h v h1 (by omega)), h k (by omega) (by omega)]; omega
def LeftOf (Aj : Nat -> Nat -> Prop) (S : Nat -> Prop) (m s : Nat) : Prop := ∀ r, s.testBit r = true ↔ S r /\ ∀ u, u < m -> ¬ Rch Aj S u r
theorem LeftOf.start {Aj : Nat -> Nat -> Prop} {S : Nat -> Prop} {s : Nat} (h : ∀ r, s.testBit r = true ↔ S r) : LeftOf Aj S 0 s := fun r => by
 rw [h r]; exact ⟨fun h => ⟨h, fun u hu => by omega⟩, fun h => h.1⟩
section
variable {Aj : Nat -> Nat -> Prop} {S : Nat -> Prop} {m s k : Nat}
theorem LeftOf.skip (hsy : ∀ q r, Aj q r -> Aj r q) (h : LeftOf Aj S m s) (hlow : ∀ j, j < k -> s.testBit j = false) : ∀ v, m <= v -> v < k -> rootF Aj S v = 0 := fun v h1 h2 => rootF_not fun ⟨hs, hu⟩ => by
 have : ¬ (S v /\ ∀ u, u < m -> ¬ Rch Aj S u v) := fun hh => by
  have := (h v).2 hh
  rw [hlow v h2] at this; cases this
 exact this ⟨hs, fun u hum hr => hu u (by omega) (hr.symm hsy)⟩
theorem LeftOf.low (h : LeftOf Aj S m s) (hk : s.testBit k = true) : m <= k := by
 apply Classical.byContradiction
 intro hlt
 have := (h k).1 hk
 exact this.2 k (by omega) (.start this.1)
theorem LeftOf.root (hsy : ∀ q r, Aj q r -> Aj r q) (h : LeftOf Aj S m s) (hk : s.testBit k = true) (hlow : ∀ j, j < k -> s.testBit j = false) : S k /\ ∀ u, u < k -> ¬ Rch Aj S k u := by
 have hh := (h k).1 hk
 refine ⟨hh.1, fun u hu hr => ?_⟩
 by_cases e : u < m
 ·exact hh.2 u e (hr.symm hsy)
 ·have : ¬ (S u /\ ∀ w, w < m -> ¬ Rch Aj S w u) := fun h2 => by
   have := (h u).2 h2
   rw [hlow u hu] at this; cases this
  exact this ⟨hr.mem, fun w hw hr2 => hh.2 w hw (hr2.trans (hr.symm hsy))⟩
theorem LeftOf.reach (h : LeftOf Aj S m s) (hk : s.testBit k = true) {r : Nat} (hr : Rch Aj S k r) (hsy : ∀ q r, Aj q r -> Aj r q) : s.testBit r = true := by
 have hh := (h k).1 hk
 exact (h r).2 ⟨hr.mem, fun u hu hr2 => hh.2 u hu (hr2.trans (hr.symm hsy))⟩
theorem LeftOf.next (hsy : ∀ q r, Aj q r -> Aj r q) (h : LeftOf Aj S m s) (hk : s.testBit k = true) (hlow : ∀ j, j < k -> s.testBit j = false) {C s' : Nat} (hC : ∀ r, C.testBit r = true ↔ Rch Aj S k r) (hs' : ∀ r, s'.testBit r = (s.testBit r && !C.testBit r)) : LeftOf Aj S (k + 1) s' := fun r => by
 rw [hs' r]
 constructor
 ·intro hh
  simp only [Bool.and_eq_true, Bool.not_eq_true'] at hh
  have h1 := (h r).1 hh.1
  refine ⟨h1.1, fun u hu hr => ?_⟩
  by_cases e : u = k
  ·subst e; have := (hC r).2 hr; rw [hh.2] at this; cases this
  ·by_cases e2 : u < m
   ·exact h1.2 u e2 hr
   ·have : ¬ (S u /\ ∀ w, w < m -> ¬ Rch Aj S w u) := fun h2 => by
     have := (h u).2 h2
     rw [hlow u (by omega)] at this; cases this
    exact this ⟨hr.mem0, fun w hw hr2 => h1.2 w hw (hr2.trans hr)⟩
 ·rintro ⟨h1, h2⟩
  have a := (h r).2 ⟨h1, fun u hu => h2 u (by have := h.low hk; omega)⟩
  have b : C.testBit r = false := by
   cases hb : C.testBit r with
   | false => rfl
   | true => exact absurd ((hC r).1 hb) (h2 k (by omega))
  rw [a, b]; rfl
theorem LeftOf.done (hsy : ∀ q r, Aj q r -> Aj r q) (h : LeftOf Aj S m 0) (hm : m <= 40) : sumN 40 (rootF Aj S) = sumN m (rootF Aj S) :=
 sumN_skip hm (fun v h1 h2 => h.skip hsy (k := 40) (fun j _ => by simp) v h1 h2)
end
theorem ofNat_tmod (a b : Nat) : (a : Int).tmod (b : Int) = ((a % b : Nat) : Int) := rfl
def AjE (es : List Edge) (q r : Nat) : Prop := Jn es (q : Int) (r : Int)
theorem AjE.symm {es : List Edge} (q r : Nat) (h : AjE es q r) : AjE es r q := Jn.symm h
theorem sumF_in {Aj : Nat -> Nat -> Prop} {S : Nat -> Prop} (k : Nat) : 0 <= sumN k (rootF Aj S) /\ sumN k (rootF Aj S) <= k := cnt_in rootF_in k
theorem TS_mem {ps : List Nat} {r : Nat} : (TS ps).testBit r = true ↔ r ∈ ps := by
 rw [TS_bit]
 constructor
 ·rintro ⟨i, hi, e⟩
  rw [pOf, List.getD_eq_getElem?_getD, List.getElem?_eq_getElem hi] at e
  have e : ps[i] = r := e
  rw [<- e]; exact List.getElem_mem hi
 ·intro h
  obtain ⟨i, hi, e⟩ := List.getElem_of_mem h
  exact ⟨i, hi, by rw [pOf, List.getD_eq_getElem?_getD, List.getElem?_eq_getElem hi]; exact e⟩
structure Bfs (es : List Edge) (S : Nat -> Prop) (v : Nat) (qs : List Nat) (i : Nat) : Prop where
 start : v ∈ qs
 rch : ∀ r, r ∈ qs -> Rch (AjE es) S v r
 dis : ∀ i j, i < j -> j < qs.length -> pOf qs i ≠ pOf qs j
 cls : ∀ a, a < i -> ∀ r, AjE es (pOf qs a) r -> S r -> r ∈ qs
theorem pOf_mem {qs : List Nat} {i : Nat} (h : i < qs.length) : pOf qs i ∈ qs := by
 rw [pOf, List.getD_eq_getElem?_getD, List.getElem?_eq_getElem h]; exact List.getElem_mem h
theorem pOf_app {qs : List Nat} {x i : Nat} (h : i < qs.length) : pOf (qs ++ [x]) i = pOf qs i := getD_app h
theorem Bfs.one {es : List Edge} {S : Nat -> Prop} {v : Nat} (hv : S v) : Bfs es S v [v] 0 where
 start := by simp
 rch := fun r hr => by simp at hr; subst hr; exact .start hv
 dis := fun i j h1 h2 => by simp at h2; omega
 cls := fun a h => by omega
theorem Bfs.push {es : List Edge} {S : Nat -> Prop} {v i : Nat} {qs : List Nat} (h : Bfs es S v qs i) (hi : i <= qs.length) {x : Nat} (hx : x ∉ qs) (hr : Rch (AjE es) S v x) : Bfs es S v (qs ++ [x]) i where
 start := List.mem_append_left _ h.start
 rch := fun r hr2 => by
  rcases List.mem_append.1 hr2 with h2 | h2
  ·exact h.rch r h2
  ·simp at h2; subst h2; exact hr
 dis := fun a b h1 h2 e => by
  simp at h2
  by_cases eb : b = qs.length
  ·subst eb
   rw [pOf_app h1] at e
   have : pOf (qs ++ [x]) qs.length = x := getD_last
   rw [this] at e
   exact hx (e ▸ pOf_mem h1)
  ·rw [pOf_app (by omega), pOf_app (by omega)] at e
   exact h.dis a b h1 (by omega) e
 cls := fun a ha r h1 h2 => by
  rw [pOf_app (by omega)] at h1
  exact List.mem_append_left _ (h.cls a ha r h1 h2)
theorem Bfs.lt {es : List Edge} {S : Nat -> Prop} {v i n : Nat} {qs : List Nat} (h : Bfs es S v qs i) (hS : ∀ r, S r -> r < n) : ∀ a, a < qs.length -> pOf qs a < n := fun a ha => hS _ (h.rch _ (pOf_mem ha)).mem
theorem Bfs.pc {es : List Edge} {S : Nat -> Prop} {v i n : Nat} {qs : List Nat} (h : Bfs es S v qs i) (hS : ∀ r, S r -> r < n) (hn : n <= 40) : pc (TS qs) = qs.length /\ qs.length <= n := by
 have h1 : Go.Eng.pc (TS qs) = qs.length := tk_cnt (n := n) hn (h.lt hS) h.dis
 have h2 := (cntB_le (n := n) (x := TS qs) (tk_lt (h.lt hS)) 40).1
 exact ⟨h1, by rw [<- h1]; exact h2⟩
theorem Bfs.all {es : List Edge} {S : Nat -> Prop} {v : Nat} {qs : List Nat} (h : Bfs es S v qs qs.length) (r : Nat) : (TS qs).testBit r = true ↔ Rch (AjE es) S v r := by
 rw [TS_mem]
 refine ⟨h.rch r, fun hr => hr.closed (C := fun r => r ∈ qs) h.start (fun a b ha hab hb => ?_)⟩
 obtain ⟨i, hi, e⟩ := List.getElem_of_mem ha
 have e : pOf qs i = a := by rw [pOf, List.getD_eq_getElem?_getD, List.getElem?_eq_getElem hi]; exact e
 exact h.cls i hi b (by rw [e]; exact hab) hb
def SeenTo (es : List Edge) (S : Nat -> Prop) (v : Nat) (sn : List Nat) : Prop := ∀ r, r ∈ sn ↔ ∃ u, u < v /\ Rch (AjE es) S u r
def sumL (ls : List Nat) : Int := sumN ls.length (fun i => ((ls.getD i 0 % 2 : Nat) : Int))
section
variable {es : List Edge} {S : Nat -> Prop} {v : Nat} {sn qs : List Nat}
end
def HeldQ (W0 W : AW) (v : Value) (qs : List Nat) : Prop := HeldN W v qs.length (natsV qs) 3 1 (fun b => W0.next <= b)
theorem heldQ_new (W : AW) (x : Nat) : HeldQ W (W.newCells 3 [.int .i64 (x : Int)]) (.slice (some ⟨W.next, 0, none⟩) 1 2) [x] :=
 .inl ⟨rfl, W.next, Tr.nil.lay 0 [.int .i64 (x : Int)], [], rfl, by show 0 < 1; omega, Nat.le_refl _, Nat.lt_succ_self _, by rw [newCells_get, if_pos rfl]; rfl, fun j hj => by
  rw [Tr.get_lay, if_pos (by have : j < 1 := hj; show 0 <= j /\ j < 0 + 1; omega)]; simp [natsV], by simp⟩
theorem HeldQ.row {W0 W : AW} {v : Value} {qs : List Nat} (h : HeldQ W0 W v qs) (hn : 0 < qs.length) : IntR W v (qs.map Int.ofNat) := by
 obtain ⟨b, c, rfl, _, h3, h4⟩ := HeldN.has h hn
 refine ⟨some ⟨b, 0, none⟩, c, by simp, fun e => by simp at e; subst e; simp at hn, fun i a hi => ⟨b, 0, rfl, fun j u hu => ?_⟩⟩
 have hj : j = 0 := by have := (List.getElem?_eq_some_iff.1 hu).1; simp only [encI, List.length_cons, List.length_nil] at this; omega
 subst hj
 rw [Nat.zero_add, Nat.mul_one, Nat.add_zero]
 refine h4 i u ?_
 rw [List.getElem?_map] at hi
 rw [natsV, List.getElem?_map]
 cases hq : qs[i]? with
 | none => rw [hq] at hi; cases hi
 | some q =>
  rw [hq] at hi
  cases hi
  cases hu
  rfl
theorem HeldQ.push {W0 W : AW} {v : Value} {qs : List Nat} (h : HeldQ W0 W v qs) (he : W0.next <= W.next) (hl : qs.length <= 1000) (x : Nat) :
  ∃ v' W', aAppend T0 (W.newCells 3 [.int .i64 (x : Int)]) [31, 31] [v, .slice (some ⟨W.next, 0, none⟩) 1 2] = some (v', W') /\ HeldQ W0 W' v' (qs ++ [x]) /\ Only (fun b => W0.next <= b) W W' := by
 have hE : Ext W (W.newCells 3 [.int .i64 (x : Int)]) := .newCells _ _ _
 have hV := Var.new W 3 [.int .i64 (x : Int)]
 have hx' : (W.newCells 3 [.int .i64 (x : Int)]).cellsAt W.next 0 1 = some [.int .i64 (x : Int)] := by
  rw [hV.cellsAt 0 1 (by simp)]; rfl
 have h1 := HeldN.only (K' := fun _ => False) h hE (fun _ _ _ y => y)
 obtain ⟨v', W', a1, a2, a3, a4⟩ := append_heldN (T := T0) (t := 31) (el := 3) (c := 2) (by omega) und31 inf3 is3 z3 rfl h1 (u := [.int .i64 (x : Int)]) rfl hx' rfl (by rw [by3]; omega) (by omega)
 refine ⟨v', W', a1, ?_, ⟨by rw [a2, newCells_next]; omega, fun b hb hk => ?_⟩⟩
 ·have e1 : (qs ++ [x]).length = qs.length + 1 := by simp
  have e2 : natsV (qs ++ [x]) = natsV qs ++ [.int .i64 (x : Int)] := by simp [natsV]
  show HeldN W' v' (qs ++ [x]).length (natsV (qs ++ [x])) 3 1 _
  rw [e1, e2]
  refine a3.mono (fun b hb => ?_)
  rcases hb with hb | hb
  ·exact hb
  ·rw [newCells_next] at hb; omega
 ·rw [a4.2 b (by rw [newCells_next]; omega) hk]
  exact hE.2 b (by omega) (fun y => y)
theorem bs58 (W : AW) (A : Option Addr) (n c : Nat) : aBuildSlice T0 W 58 1 [(0, .slice A n c)] = some (.slice (some ⟨W.next, 0, none⟩) 1 2, W.newCells 31 [.slice A n c]) := by kernel_rfl
def FallsR (W : AW) (u : Value) (ls : List Nat) : Prop := ∃ us : List Value, us.length = ls.length /\ RowIn 1 encV W u us /\ ∀ (i : Nat) x l, us[i]? = some x -> ls[i]? = some l -> ∃ A c, x = .slice A l c
theorem cntB_disj {x y : Nat} (h : ∀ r, x.testBit r = true -> y.testBit r = false) : ∀ m : Nat, cntB m (x ||| y) = cntB m x + cntB m y
 | 0 => rfl
 | m + 1 => by
  have ih := cntB_disj h m
  simp only [cntB, Nat.testBit_or]
  have := h m
  cases hx : x.testBit m <;> cases hy : y.testBit m <;> simp_all <;> omega
open Classical in
noncomputable def totF (Aj : Nat -> Nat -> Prop) (S : Nat -> Prop) (v : Nat) : Int := if S v /\ ∀ u, u < v -> ¬ Rch Aj S v u then ((pc (bitsOf (Rch Aj S v) 40) : Nat) : Int) else 0
theorem tot_root (Aj : Nat -> Nat -> Prop) (S : Nat -> Prop) : ∀ n : Nat, ∃ c : Nat, sumN n (totF Aj S) = sumN n (rootF Aj S) + 2 * (c : Int)
 | 0 => ⟨0, rfl⟩
 | n + 1 => by
  obtain ⟨c, hc⟩ := tot_root Aj S n
  simp only [sumN]
  by_cases h : S n /\ ∀ u, u < n -> ¬ Rch Aj S n u
  ·rw [totF, if_pos h, rootF, if_pos h]
   generalize pc (bitsOf (Rch Aj S n) 40) = p
   exact ⟨c + p / 2, by omega⟩
  ·rw [totF, if_neg h, rootF, if_neg h]
   exact ⟨c, by omega⟩
theorem tot_part {Aj : Nat -> Nat -> Prop} {S : Nat -> Prop} (hsy : ∀ q r, Aj q r -> Aj r q) (h40 : ∀ r, S r -> r < 40) : ∀ a : Nat, ((pc (bitsOf (fun r => ∃ u, u < a /\ Rch Aj S u r) 40) : Nat) : Int) = sumN a (totF Aj S)
 | 0 => by
  have : bitsOf (fun r => ∃ u, u < 0 /\ Rch Aj S u r) 40 = 0 := bits_eq fun r => by
   rw [bitsOf_bit]; constructor
   ·rintro ⟨_, u, hu, _⟩; omega
   ·intro h; simp at h
  rw [this]; exact congrArg Int.ofNat (cntB_zero 40)
 | a + 1 => by
  have ih := tot_part hsy h40 a
  simp only [sumN]
  rw [<- ih]
  by_cases h : S a /\ ∀ u, u < a -> ¬ Rch Aj S a u
  ·rw [totF, if_pos h]
   have e : bitsOf (fun r => ∃ u, u < a + 1 /\ Rch Aj S u r) 40 = bitsOf (fun r => ∃ u, u < a /\ Rch Aj S u r) 40 ||| bitsOf (Rch Aj S a) 40 := bits_eq fun r => by
    rw [Nat.testBit_or, Bool.or_eq_true, bitsOf_bit, bitsOf_bit, bitsOf_bit]
    constructor
    ·rintro ⟨h1, u, hu, hr⟩
     by_cases e : u = a
     ·subst e; exact .inr ⟨h1, hr⟩
     ·exact .inl ⟨h1, u, by omega, hr⟩
    ·rintro (⟨h1, u, hu, hr⟩ | ⟨h1, hr⟩)
     ·exact ⟨h1, u, by omega, hr⟩
     ·exact ⟨h1, a, by omega, hr⟩
   have hd := cntB_disj (x := bitsOf (fun r => ∃ u, u < a /\ Rch Aj S u r) 40) (y := bitsOf (Rch Aj S a) 40) (fun r hr => by
    cases hb : (bitsOf (Rch Aj S a) 40).testBit r with
    | false => rfl
    | true =>
     obtain ⟨_, u, hu, h1⟩ := bitsOf_bit.1 hr
     exact absurd ((bitsOf_bit.1 hb).2.trans (h1.symm hsy)) (h.2 u hu)) 40
   rw [e]
   show ((cntB 40 _ : Nat) : Int) = ((cntB 40 _ : Nat) : Int) + ((cntB 40 _ : Nat) : Int)
   rw [hd]; omega
  ·rw [totF, if_neg h]
   have e : bitsOf (fun r => ∃ u, u < a + 1 /\ Rch Aj S u r) 40 = bitsOf (fun r => ∃ u, u < a /\ Rch Aj S u r) 40 := bits_eq fun r => by
    rw [bitsOf_bit, bitsOf_bit]
    constructor
    ·rintro ⟨h1, u, hu, hr⟩
     by_cases e : u = a
     ·subst e
      have : ∃ w, w < u /\ Rch Aj S u w := by
       apply Classical.byContradiction
       intro hn
       exact h ⟨hr.mem0, fun w hw hr2 => hn ⟨w, hw, hr2⟩⟩
      obtain ⟨w, hw, hr2⟩ := this
      exact ⟨h1, w, hw, (hr2.symm hsy).trans hr⟩
     ·exact ⟨h1, u, by omega, hr⟩
    ·rintro ⟨h1, u, hu, hr⟩
     exact ⟨h1, u, by omega, hr⟩
   rw [e]; omega
theorem parts_total {Aj : Nat -> Nat -> Prop} {S : Nat -> Prop} (hsy : ∀ q r, Aj q r -> Aj r q) {n : Nat} (hn : n <= 40) (hS : ∀ r, S r -> r < n) : ∃ c : Nat, ((pc (bitsOf S 40) : Nat) : Int) = sumN n (rootF Aj S) + 2 * (c : Int) := by
 obtain ⟨c, hc⟩ := tot_root Aj S n
 refine ⟨c, ?_⟩
 rw [<- hc, <- tot_part hsy (fun r hr => by have := hS r hr; omega) n]
 have : bitsOf S 40 = bitsOf (fun r => ∃ u, u < n /\ Rch Aj S u r) 40 := bits_eq fun r => by
  rw [bitsOf_bit, bitsOf_bit]
  constructor
  ·rintro ⟨h1, h2⟩; exact ⟨h1, r, hS r h2, .start h2⟩
  ·rintro ⟨h1, u, _, hr⟩; exact ⟨h1, hr.mem⟩
 rw [this]
def Sof (n : Nat) (s : List Int) (r : Nat) : Prop := r < n /\ ∀ i, i < s.length -> gI s i ≠ (r : Int)
theorem rises_lt {P : Int} {s : List Int} (h : RisTo P s s.length) : ∀ (j i : Nat), i < j -> j < s.length -> gI s i < gI s j
 | 0, i, hi, _ => by omega
 | j + 1, i, hi, hj => by
  have h1 := (h (j + 1) hj).2.2 (by omega)
  rw [Nat.add_sub_cancel] at h1
  by_cases e : i = j
  ·subst e; exact h1
  ·have := rises_lt h j i (by omega) (by omega); omega
theorem rises_list {P : Int} {s : List Int} (h : RisTo P s s.length) : ∃ ps : List Nat, s = ps.map Int.ofNat /\ (∀ i, i < ps.length -> (pOf ps i : Int) = gI s i) /\ (∀ i j, i < j -> j < ps.length -> pOf ps i ≠ pOf ps j) := by
 have e : s = (s.map Int.toNat).map Int.ofNat := by
  rw [List.map_map]
  refine (List.map_id' s).symm.trans (List.map_congr_left fun x hx => ?_)
  obtain ⟨i, hi, e⟩ := List.getElem_of_mem hx
  have := gI_some hi
  rw [List.getElem?_eq_getElem hi] at this
  have e2 : gI s i = x := by rw [<- e]; exact (Option.some.inj this).symm
  have h0 := (h i hi).1
  show x = Int.ofNat x.toNat
  rw [e2] at h0
  exact (Int.toNat_of_nonneg h0).symm
 have g : ∀ i, i < (s.map Int.toNat).length -> (pOf (s.map Int.toNat) i : Int) = gI s i := fun i hi => by
  simp at hi
  have h0 := (h i hi).1
  have h1 := gI_some hi
  rw [pOf, List.getD_eq_getElem?_getD, List.getElem?_map, h1]
  exact Int.toNat_of_nonneg h0
 refine ⟨s.map Int.toNat, e, g, fun i j hij hj he => ?_⟩
 have g1 := g i (by omega)
 have g2 := g j hj
 have := rises_lt h j i hij (by simpa using hj)
 rw [he] at g1
 omega
def BarIs (n : Nat) (es : List Edge) (s : List Int) (k : Int) : Prop := RisTo (n : Int) s s.length /\ 2 * k = (n : Int) + s.length - sumN 40 (rootF (AjE es) (Sof n s))
theorem bar_facts {n : Nat} (hn : n <= 40) {es : List Edge} {s : List Int} (h : RisTo (n : Int) s s.length) : s.length <= n /\ ∃ c : Nat, (n : Int) - s.length = sumN 40 (rootF (AjE es) (Sof n s)) + 2 * (c : Int) := by
 obtain ⟨ps, e, g, d⟩ := rises_list h
 have hl : ps.length = s.length := by rw [e]; simp
 have hlt : ∀ i, i < ps.length -> pOf ps i < n := fun i hi => by
  have h1 := (h i (by omega)).2.1
  have h2 := g i hi
  omega
 have hpc : pc (TS ps) = ps.length := tk_cnt (n := n) hn hlt d
 have hle : ps.length <= n := by rw [<- hpc]; exact (cntB_le (n := n) (x := TS ps) (tk_lt hlt) 40).1
 have hSb : ∀ r, Sof n s r -> r < n := fun r hr => hr.1
 obtain ⟨c, hc⟩ := parts_total (Aj := AjE es) (S := Sof n s) AjE.symm hn hSb
 have hbit : ∀ r, (TS ps).testBit r = true ↔ ∃ i, i < s.length /\ gI s i = (r : Int) := fun r => by
  rw [TS_bit]
  constructor
  ·rintro ⟨i, hi, e2⟩; exact ⟨i, by omega, by rw [<- g i hi, e2]⟩
  ·rintro ⟨i, hi, e2⟩; exact ⟨i, by omega, by have := g i (by omega); omega⟩
 have hfull : bitsOf (Sof n s) 40 ||| TS ps = 2 ^ n - 1 := bits_eq fun r => by
  rw [Nat.testBit_or, Bool.or_eq_true, bitsOf_bit, hbit r, full_bit, decide_eq_true_iff]
  constructor
  ·rintro (⟨_, h2⟩ | ⟨i, hi, e2⟩)
   ·exact h2.1
   ·have := (h i hi).2.1; omega
  ·intro hr
   by_cases hh : ∃ i, i < s.length /\ gI s i = (r : Int)
   ·exact .inr hh
   ·exact .inl ⟨by omega, hr, fun i hi e2 => hh ⟨i, hi, e2⟩⟩
 have hdis := cntB_disj (x := bitsOf (Sof n s) 40) (y := TS ps) (fun r hr => by
  cases hb : (TS ps).testBit r with
  | false => rfl
  | true =>
   obtain ⟨i, hi, e2⟩ := (hbit r).1 hb
   exact absurd e2 ((bitsOf_bit.1 hr).2.2 i hi)) 40
 rw [hfull, cntB_full] at hdis
 have h1 : cntB 40 (TS ps) = ps.length := hpc
 have h2 : sumN 40 (rootF (AjE es) (Sof n s)) = sumN n (rootF (AjE es) (Sof n s)) := sumN_skip hn (fun v h1 _ => rootF_not (fun hh => by have := hh.1.1; omega))
 have hc : ((cntB 40 (bitsOf (Sof n s) 40) : Nat) : Int) = _ := hc
 refine ⟨by omega, c, ?_⟩
 rw [h2]
 omega
section
open Classical
noncomputable def listOf (C : Nat -> Prop) : List Nat := (List.range 40).filter fun x => decide (C x)
theorem listOf_mem {C : Nat -> Prop} {x : Nat} : x ∈ listOf C ↔ x < 40 /\ C x := by simp [listOf]
theorem listOf_nodup (C : Nat -> Prop) : (listOf C).Nodup := List.nodup_range.filter _
theorem range_cnt {C : Nat -> Prop} : ∀ m, m <= 40 -> cntB m (bitsOf C 40) = ((List.range m).filter fun x => decide (C x)).length
 | 0, _ => rfl
 | m + 1, h => by
  have ih := range_cnt (C := C) m (by omega)
  rw [List.range_succ, List.filter_append, List.length_append, <- ih]
  simp only [cntB]
  by_cases hc : C m
  ·rw [if_pos (bitsOf_bit.2 ⟨by omega, hc⟩)]; simp [hc]
  ·rw [if_neg (fun hh => hc (bitsOf_bit.1 hh).2)]; simp [hc]
theorem pc_list (C : Nat -> Prop) : pc (bitsOf C 40) = (listOf C).length := range_cnt 40 (Nat.le_refl _)
theorem sum_list {f : Nat -> Int} (h : ∀ v, f v = 0 \/ f v = 1) : ∀ m, sumN m f = (((List.range m).filter fun x => decide (f x = 1)).length : Int)
 | 0 => rfl
 | m + 1 => by
  rw [List.range_succ, List.filter_append, List.length_append]
  simp only [sumN]
  rw [sum_list h m]
  rcases h m with e | e
  ·simp [e]
  ·simp [e]
theorem inj_le {g : Nat -> Nat} : ∀ {l s : List Nat}, l.Nodup -> (∀ x ∈ l, g x ∈ s) -> (∀ x ∈ l, ∀ y ∈ l, g x = g y -> x = y) -> l.length <= s.length
 | [], _, _, _, _ => Nat.zero_le _
 | x :: l, s, hn, hs, hi => by
  rw [List.nodup_cons] at hn
  have hx := hs x List.mem_cons_self
  have := inj_le (l := l) (s := s.filter fun y => decide (y ≠ g x)) hn.2 (fun y hy => List.mem_filter.2 ⟨hs y (List.mem_cons_of_mem _ hy), decide_eq_true fun e => by
   have := hi y (List.mem_cons_of_mem _ hy) x List.mem_cons_self e
   subst this; exact hn.1 hy⟩) (fun a ha b hb => hi a (List.mem_cons_of_mem _ ha) b (List.mem_cons_of_mem _ hb))
  have h2 := filter_lt (l := s) (p := fun y => decide (y ≠ g x)) hx (by simp)
  simp only [List.length_cons]; omega
theorem even_inv {f : Nat -> Nat} : ∀ (k : Nat) (L : List Nat), L.length <= k -> L.Nodup -> (∀ x ∈ L, f x ∈ L /\ f x ≠ x /\ f (f x) = x) -> L.length % 2 = 0
 | _, [], _, _, _ => rfl
 | 0, _ :: _, h, _, _ => by simp at h
 | k + 1, x :: L, h, hn, hf => by
  rw [List.nodup_cons] at hn
  obtain ⟨h1, h2, h3⟩ := hf x List.mem_cons_self
  have hL : f x ∈ L := (List.mem_cons.1 h1).resolve_left h2
  have hlen := List.length_erase_of_mem hL
  have hpos := List.length_pos_of_mem hL
  have ih := even_inv k (L.erase (f x)) (by simp only [List.length_cons] at h; omega) (hn.2.erase _) (fun y hy => by
   rw [hn.2.mem_erase_iff] at hy
   obtain ⟨g1, g2, g3⟩ := hf y (List.mem_cons_of_mem _ hy.2)
   refine ⟨?_, g2, g3⟩
   rw [hn.2.mem_erase_iff]
   refine ⟨fun e => ?_, (List.mem_cons.1 g1).resolve_left fun e => ?_⟩
   ·have : y = x := by rw [<- g3, e, h3]
    subst this; exact hn.1 hy.2
   ·exact hy.1 (by rw [<- e, g3]))
  simp only [List.length_cons]; omega
variable {n : Nat} {J : Nat -> Nat -> Prop} {mt : Nat -> Int}
theorem even_paired (hm : Mt n J mt) (hJi : ∀ x, ¬ J x x) {L : List Nat} (hL : L.Nodup) (hlt : ∀ x ∈ L, x < n) (hp : ∀ x ∈ L, ∃ y : Nat, mt x = (y : Int) /\ y ∈ L) : L.length % 2 = 0 := by
 refine even_inv (f := fun x => (mt x).toNat) L.length L (Nat.le_refl _) hL (fun x hx => ?_)
 obtain ⟨y, e, hy⟩ := hp x hx
 have e2 := hm.sym (hlt x hx) e
 simp only [e, Int.toNat_natCast, e2]
 exact ⟨hy, fun h => by subst h; exact hJi _ (hm.adj (hlt _ hx) e), trivial⟩
theorem berge_weak (hm : Mt n J mt) (hJi : ∀ x, ¬ J x x) (hsy : ∀ x y, J x y -> J y x) (hn : n <= 40) {S : Nat -> Prop} (hS : ∀ r, S r -> r < n) :
  sumN 40 (rootF J S) <= (((listOf fun x => x < n /\ mt x = -1).length + (listOf fun x => x < n /\ ¬ S x).length : Nat) : Int) := by
 have h01 : ∀ v, rootF J S v = 0 \/ rootF J S v = 1 := fun v => by have := rootF_in (Aj := J) (S := S) v; omega
 rw [sum_list h01 40]
 have hodd : ∀ v, rootF J S v = 1 -> S v /\ (∀ u, u < v -> ¬ Rch J S v u) /\ pc (bitsOf (Rch J S v) 40) % 2 = 1 := fun v hv => by
  unfold rootF at hv
  split at hv
  ·rename_i h; exact ⟨h.1, h.2, by omega⟩
  ·cases hv
 have hex : ∀ v, rootF J S v = 1 -> ∃ z x : Nat, Rch J S v x /\ ((mt x = -1 /\ z = x) \/ (mt x = (z : Int) /\ ¬ S z)) := fun v hv => by
  apply byContradiction
  intro hno
  obtain ⟨_, _, h3⟩ := hodd v hv
  rw [pc_list] at h3
  have := even_paired hm hJi (listOf_nodup (Rch J S v)) (fun x hx => hS x (listOf_mem.1 hx).2.mem) (fun x hx => by
   have hr := (listOf_mem.1 hx).2
   rcases hm.rng (hS x hr.mem) with e | ⟨y, hy, e⟩
   ·exact absurd ⟨x, x, hr, .inl ⟨e, rfl⟩⟩ hno
   ·refine ⟨y, e, listOf_mem.2 ⟨by omega, ?_⟩⟩
    by_cases hSy : S y
    ·exact hr.step (hm.adj (hS x hr.mem) e) hSy
    ·exact absurd ⟨y, x, hr, .inr ⟨e, hSy⟩⟩ hno)
  omega
 let g : Nat -> Nat := fun v => if h : rootF J S v = 1 then Classical.choose (hex v h) else 0
 have hg : ∀ v, rootF J S v = 1 -> ∃ x : Nat, Rch J S v x /\ ((mt x = -1 /\ g v = x) \/ (mt x = (g v : Int) /\ ¬ S (g v))) := fun v hv => by
  have := Classical.choose_spec (hex v hv)
  simp only [g, dif_pos hv]; exact this
 have hle := inj_le (g := g) (l := (List.range 40).filter fun x => decide (rootF J S x = 1)) (s := (listOf fun x => x < n /\ mt x = -1) ++ listOf fun x => x < n /\ ¬ S x) (List.nodup_range.filter _) (fun v hv => by
  simp only [List.mem_filter, List.mem_range, decide_eq_true_eq] at hv
  obtain ⟨x, hr, h | h⟩ := hg v hv.2
  ·have := hS x hr.mem
   exact List.mem_append.2 (.inl (listOf_mem.2 ⟨by omega, by omega, by rw [h.2]; exact h.1⟩))
  ·have := hm.lt (hS x hr.mem) h.1
   exact List.mem_append.2 (.inr (listOf_mem.2 ⟨by omega, by omega, h.2⟩))) (fun v hv u hu e => by
  simp only [List.mem_filter, List.mem_range, decide_eq_true_eq] at hv hu
  obtain ⟨x, hr, h⟩ := hg v hv.2
  obtain ⟨y, hr2, h2⟩ := hg u hu.2
  have same : x = y -> v = u := fun e => by
   subst e
   obtain ⟨_, b1, _⟩ := hodd v hv.2
   obtain ⟨_, b2, _⟩ := hodd u hu.2
   have r1 := hr.trans (hr2.symm hsy)
   rcases Nat.lt_trichotomy v u with c | c | c
   ·exact absurd (r1.symm hsy) (b2 v c)
   ·exact c
   ·exact absurd r1 (b1 u c)
  rcases h with h | h
  ·rcases h2 with h2 | h2
   ·exact same (by rw [<- h.2, <- h2.2, e])
   ·exact absurd hr.mem (by rw [<- h.2, e]; exact h2.2)
  ·rcases h2 with h2 | h2
   ·exact absurd hr2.mem (by rw [<- h2.2, <- e]; exact h.2)
   ·have hx := hS x hr.mem
    have hy := hS y hr2.mem
    rw [<- e] at h2
    exact same (hm.inj hx hy h.1 h2.1))
 rw [List.length_append] at hle
 exact_mod_cast hle
theorem berge_strong {D A : Nat -> Prop} {cl : Nat -> Nat} (hm : Mt n J mt) (hJi : ∀ x, ¬ J x x) (hsy : ∀ x y, J x y -> J y x) (hn : n <= 40) (h : Dn n J mt D A cl) (hall : ∀ x, x < n -> mt x = -1 -> D x) :
  (((listOf fun x => x < n /\ mt x = -1).length + (listOf A).length : Nat) : Int) <= sumN 40 (rootF J fun r => r < n /\ ¬ A r) := by
 have h01 : ∀ v, rootF J (fun r => r < n /\ ¬ A r) v = 0 \/ rootF J (fun r => r < n /\ ¬ A r) v = 1 := fun v => by have := rootF_in (Aj := J) (S := fun r => r < n /\ ¬ A r) v; omega
 rw [sum_list h01 40]
 obtain ⟨S, hS⟩ : ∃ S : Nat -> Prop, S = fun r => r < n /\ ¬ A r := ⟨_, rfl⟩
 rw [<- hS]
 have hSD : ∀ x, D x -> S x := fun x hx => by rw [hS]; exact ⟨h.dlt hx, h.dis hx⟩
 have hSn : ∀ x, S x -> x < n /\ ¬ A x := fun x hx => by rw [hS] at hx; exact hx
 -- the part of a base
 have part : ∀ {b x : Nat}, D b -> cl b = b -> (Rch J S b x ↔ D x /\ cl x = b) := fun {b x} hb hc => by
  constructor
  ·intro hr
   induction hr with
   | start _ => exact ⟨hb, hc⟩
   | step _ hJ hSr ih =>
    obtain ⟨i1, i2⟩ := ih
    rcases h.clo i1 hJ (hSn _ hSr).1 with g | g
    ·exact ⟨g.1, by rw [g.2, i2]⟩
    ·exact absurd g (hSn _ hSr).2
  ·rintro ⟨hx, e⟩
   refine h.con hx (Rch J S b) (by rw [e]; exact .start (hSD _ hb)) (fun y z hy hz e1 e2 hJ hr => hr.step hJ (hSD _ hz))
 -- which is odd
 have oddP : ∀ {b : Nat}, D b -> cl b = b -> ∀ u, Rch J S b u -> pc (bitsOf (Rch J S u) 40) % 2 = 1 := fun {b} hb hc u hu => by
  rw [pc_list]
  have hmem : ∀ x, x ∈ listOf (Rch J S u) ↔ D x /\ cl x = b := fun x => by
   rw [listOf_mem]
   constructor
   ·intro hx; exact (part hb hc).1 (hu.trans hx.2)
   ·intro hx; exact ⟨by have := h.dlt hx.1; omega, (hu.symm hsy).trans ((part hb hc).2 hx)⟩
  have hbm := (hmem b).2 ⟨hb, hc⟩
  have hnd := listOf_nodup (Rch J S u)
  have hlen := List.length_erase_of_mem hbm
  have hpos := List.length_pos_of_mem hbm
  have := even_paired hm hJi (hnd.erase b) (fun x hx => by
   rw [hnd.mem_erase_iff] at hx
   exact h.dlt ((hmem x).1 hx.2).1) (fun x hx => by
   rw [hnd.mem_erase_iff] at hx
   obtain ⟨x1, x2⟩ := (hmem x).1 hx.2
   obtain ⟨y, y1, y2, y3⟩ := h.inn x1 (by rw [x2]; exact hx.1)
   refine ⟨y, y1, ?_⟩
   rw [hnd.mem_erase_iff, hmem]
   refine ⟨fun e => ?_, y2, by rw [y3, x2]⟩
   -- the mate of the base is no point of D
   subst e
   have e2 := hm.sym (h.dlt x1) y1
   rcases h.bas hb hc.symm with g | ⟨z, g1, g2⟩
   ·omega
   ·have : z = x := by omega
    subst this; exact h.dis x1 g2)
  omega
 -- free points and mates of A are bases
 have hfree : ∀ x, x < n -> mt x = -1 -> D x /\ cl x = x := fun x hx e => by
  refine ⟨hall x hx e, ?_⟩
  apply byContradiction
  intro hne
  obtain ⟨y, y1, _⟩ := h.inn (hall x hx e) (fun e => hne e.symm)
  omega
 have hmate : ∀ y, A y -> ∃ x : Nat, mt y = (x : Int) /\ D x /\ cl x = x := fun y hy => by
  obtain ⟨x, x1, x2⟩ := h.mA hy
  refine ⟨x, x1, x2, ?_⟩
  apply byContradiction
  intro hne
  obtain ⟨z, z1, z2, _⟩ := h.inn x2 (fun e => hne e.symm)
  have e2 := hm.sym (h.alt hy) x1
  have : z = y := by omega
  subst this; exact h.dis z2 hy
 have le1 := inj_le (g := fun x => if A x then (mt x).toNat else x) (l := (listOf fun x => x < n /\ mt x = -1) ++ listOf A) (s := listOf fun b => D b /\ cl b = b) (List.nodup_append.2 ⟨listOf_nodup _, listOf_nodup _, fun x hx y hy e => by
   subst e
   have hy := (listOf_mem.1 hy).2
   have hx := (listOf_mem.1 hx).2
   exact h.dis (hall x hx.1 hx.2) hy⟩) (fun x hx => by
   rcases List.mem_append.1 hx with hx | hx
   ·obtain ⟨_, x1, x2⟩ := listOf_mem.1 hx
    have := hfree x x1 x2
    rw [if_neg (h.dis this.1)]
    exact listOf_mem.2 ⟨by omega, this⟩
   ·obtain ⟨_, x1⟩ := listOf_mem.1 hx
    obtain ⟨y, y1, y2⟩ := hmate x x1
    rw [if_pos x1, y1]
    exact listOf_mem.2 ⟨by have := h.dlt y2.1; simp only [Int.toNat_natCast]; omega, by simpa using y2⟩) (fun x hx y hy e => by
   have cs : ∀ x, x ∈ (listOf fun x => x < n /\ mt x = -1) ++ listOf A -> (¬ A x /\ x < n /\ mt x = -1) \/ (A x /\ ∃ z : Nat, mt x = (z : Int)) := fun x hx => by
    rcases List.mem_append.1 hx with hx | hx
    ·obtain ⟨_, x1, x2⟩ := listOf_mem.1 hx
     exact .inl ⟨h.dis (hfree x x1 x2).1, x1, x2⟩
    ·obtain ⟨_, x1⟩ := listOf_mem.1 hx
     obtain ⟨y, y1, y2⟩ := hmate x x1
     exact .inr ⟨x1, y, y1⟩
   rcases cs x hx with ⟨a1, a2, a3⟩ | ⟨a1, z, a2⟩
   ·rw [if_neg a1] at e
    rcases cs y hy with ⟨b1, b2, b3⟩ | ⟨b1, z, b2⟩
    ·rw [if_neg b1] at e; exact e
    ·rw [if_pos b1, b2, Int.toNat_natCast] at e
     have := hm.sym (h.alt b1) b2
     rw [<- e] at this; omega
   ·rw [if_pos a1, a2, Int.toNat_natCast] at e
    rcases cs y hy with ⟨b1, b2, b3⟩ | ⟨b1, z2, b2⟩
    ·rw [if_neg b1] at e
     have := hm.sym (h.alt a1) a2
     rw [e] at this; omega
    ·rw [if_pos b1, b2, Int.toNat_natCast] at e
     rw [<- e] at b2
     exact hm.inj (h.alt a1) (h.alt b1) a2 b2)
 have hroot : ∀ b, D b /\ cl b = b -> ∃ u, Rch J S b u /\ ∀ v, v < u -> ¬ Rch J S u v := fun b hb => by
  have ex : ∃ u, Rch J S b u := ⟨b, .start (hSD _ hb.1)⟩
  have least : ∀ k, (∃ u, u <= k /\ Rch J S b u) -> ∃ u, Rch J S b u /\ ∀ v, v < u -> ¬ Rch J S b v := fun k => by
   induction k with
   | zero => rintro ⟨u, hu, hr⟩; exact ⟨u, hr, fun v hv => by omega⟩
   | succ k ih =>
    rintro ⟨u, hu, hr⟩
    by_cases hk : ∃ u, u <= k /\ Rch J S b u
    ·exact ih hk
    ·exact ⟨u, hr, fun v hv h2 => hk ⟨v, by omega, h2⟩⟩
  obtain ⟨u, hr, hl⟩ := least b ⟨b, Nat.le_refl _, .start (hSD _ hb.1)⟩
  exact ⟨u, hr, fun v hv h2 => hl v hv (hr.trans h2)⟩
 let g : Nat -> Nat := fun b => if h : D b /\ cl b = b then Classical.choose (hroot b h) else 0
 have hg : ∀ b, D b /\ cl b = b -> Rch J S b (g b) /\ ∀ v, v < g b -> ¬ Rch J S (g b) v := fun b hb => by
  have := Classical.choose_spec (hroot b hb)
  simp only [g, dif_pos hb]; exact this
 have le2 := inj_le (g := g) (l := listOf fun b => D b /\ cl b = b) (s := (List.range 40).filter fun x => decide (rootF J S x = 1)) (listOf_nodup _) (fun b hb => by
   obtain ⟨_, hb⟩ := listOf_mem.1 hb
   obtain ⟨g1, g2⟩ := hg b hb
   have hn1 := (hSn _ g1.mem).1
   simp only [List.mem_filter, List.mem_range, decide_eq_true_eq]
   refine ⟨by omega, ?_⟩
   unfold rootF
   rw [if_pos ⟨g1.mem, g2⟩, oddP hb.1 hb.2 _ g1]; rfl) (fun a ha b hb e => by
   obtain ⟨_, ha⟩ := listOf_mem.1 ha
   obtain ⟨_, hb⟩ := listOf_mem.1 hb
   obtain ⟨g1, _⟩ := hg a ha
   obtain ⟨g2, _⟩ := hg b hb
   rw [<- e] at g2
   have k1 := ((part ha.1 ha.2).1 g1).2
   have k2 := ((part hb.1 hb.2).1 g2).2
   rw [<- k1, <- k2])
 rw [List.length_append] at le1
 exact_mod_cast Nat.le_trans le1 le2
end
theorem all_wp {W : AW} {pw n : Nat} {J : List Nat} (hVw : Var W pw 108 (.int .i64 (n : Int) :: J.map setV)) (hn : n <= 40) :
  WpF T0 63 [.pointer (some ⟨pw, 0, none⟩)] W (fun u W' => W' = W /\ u = .int .u64 ((2 ^ n - 1 : Nat) : Int)) := by
 have l0 := hVw.load1 (T := T0) und3 rfl (j := 0) (v := .int .i64 (n : Int)) rfl
 refine wpF fun63 rfl ?_
 try simp only [zzA]
 refine wpK_reg (fun R hR => by simp []; exact hR) ?_
 have hb := below_wp n (by omega) W
 generalize 2 ^ n - 1 = m at hb ⊢
 try simp only [zzA]
 refine wpK_reg (fun R hR => by
  simp [l0, aEnter, fun75, zzC, aCallV]; rw [zzD]
  refine hb.mono ?_
  rintro _ W9 ⟨e9, rfl⟩; subst W9
  simp; exact hR) ?_
 exact wpK_ret ⟨.inr rfl, rfl, [.int .u64 (m : Int)], by simp, rfl, rfl⟩
def sumT (ls : List Nat) (k : Nat) : Int := sumN k (fun i => ((ls.getD i 0 % 2 : Nat) : Int))
theorem build24_0 (P : Int) : aBuild T0 24 [(0, .int .i64 P)] = some (.agg ⟨[.int .i64 P, .slice none 0 0]⟩) := by kernel_rfl
theorem bs22 (W : AW) (a b : Int) : aBuildSlice T0 W 22 1 [(0, pr a b)] = some (.slice (some ⟨W.next, 0, none⟩) 1 2, W.newCells 55 [.int .i64 a, .int .i64 b]) := by kernel_rfl
theorem good_app {P : Int} {xs : List Edge} (h : GoodTo P xs xs.length) {a b : Int} (h1 : 0 <= a /\ a < P /\ 0 <= b /\ b < P /\ a ≠ b) (h2 : ¬ Jn xs a b) : GoodTo P (xs ++ [(a, b)]) (xs ++ [(a, b)]).length := fun i hi x y hx => by
 simp at hi
 have hold : ∀ j, j < xs.length -> (xs ++ [(a, b)])[j]? = xs[j]? := fun j hj => List.getElem?_append_left hj
 by_cases e : i = xs.length
 ·subst e
  rw [List.getElem?_append_right (Nat.le_refl _), Nat.sub_self] at hx
  cases hx
  exact ⟨h1.1, h1.2.1, h1.2.2.1, h1.2.2.2.1, h1.2.2.2.2, fun j hj => by
   rw [hold j hj]
   exact ⟨fun e => h2 ⟨j, .inl e⟩, fun e => h2 ⟨j, .inr e⟩⟩⟩
 ·rw [hold i (by omega)] at hx
  obtain ⟨g1, g2, g3, g4, g5, g6⟩ := h i (by omega) x y hx
  exact ⟨g1, g2, g3, g4, g5, fun j hj => by rw [hold j (by omega)]; exact g6 j hj⟩

theorem natsN_row {W : AW} {v : Value} {ps : List Nat} {K : Nat -> Prop} (h : GrowsN W v ps.length (natsV ps) 3 1 K) : IntN W v (ps.map Int.ofNat) := natsV_row h
end Go.Proofs.YtdpnplanohgecaaDoor