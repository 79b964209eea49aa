import Derived.Test.YtnnfobmfffbhaaaP39
import Derived.Test.YtnnfobmfffbhaaaEngAr
set_option linter.unusedSimpArgs false
set_option linter.unusedVariables false
set_option linter.unusedSectionVars false
open Go Go.Eng
namespace Go.Proofs.Ytnnfobmfffbhaaa

/-- the slices of a search -/
def srchF (KT sz : Nat) (n : Nat) (lS lB lL lN : List Value) (nN : Nat) : Nat → Option Fld
  | 1 => some ⟨n, lS, KT, sz⟩
  | 2 => some ⟨n, lB, 3, 1⟩
  | 3 => some ⟨n, lL, 5, 1⟩
  | 4 => some ⟨nN, lN, 77, 4⟩
  | _ => none

/-- a search: what has been found, from where, by what, and the rows of those that it has gone on from -/
structure Srch (W : AW) (p m ST mt KT sz : Nat) (col : Nat → Nat) (keys lB lL lN : List Value) (nN : Nat) : Prop where
  obj : ∃ c, GObj W p 5 ST col (srchF KT sz keys.length (keys.flatMap acells) lB lL lN nN) c ∧ c.get 0 = some (.map (some m))
  cm : col m = 7
  map : ∃ es ck, W.blocks.get m = some ⟨.map es ck, []⟩ ∧ es.map (·.1) = keys ∧ ∀ (i : Nat) e, es[i]? = some e → e.2.1 = .int .i64 i
  key : ∀ k ∈ keys, keyOk T0 KT k = true

theorem Srch.only {W W' : AW} {p m ST mt KT sz : Nat} {col : Nat → Nat} {keys lB lL lN : List Value} {nN : Nat} {K : Nat → Prop} (h : Srch W p m ST mt KT sz col keys lB lL lN nN) (ho : Only K W W') (hk : ∀ b, b < W.next → col b ≠ 0 → ¬ K b) : Srch W' p m ST mt KT sz col keys lB lL lN nN where
  obj := let ⟨c, h1, h2⟩ := h.obj; ⟨c, h1.only ho hk, h2⟩
  cm := h.cm
  map := by
    obtain ⟨es, ck, h1, h2⟩ := h.map
    obtain ⟨c, g1, _⟩ := h.obj
    have hm := g1.lt m (by rw [h.cm]; omega)
    exact ⟨es, ck, by rw [ho.2 m hm (hk m hm (by rw [h.cm]; omega))]; exact h1, h2⟩
  key := h.key

theorem inf5' : T0.info.get 5 = some Try.t5 := by kernel_rfl
theorem inf38 : T0.info.get 92 = some Try.t92 := by kernel_rfl
theorem oneCells_of {l : List Value} (h : ∀ x ∈ l, x.oneCell' = true) : oneCells l = true := by
  unfold oneCells
  induction l with
  | nil => rfl
  | cons a l ih =>
    simp only [allB, h a (List.mem_cons_self ..)]
    exact ih (fun x hx => h x (List.mem_cons_of_mem _ hx))

/-- one more is found -/
theorem Srch.add {W : AW} {p m ST mt KT sz : Nat} {col : Nat → Nat} {keys lB lL lN : List Value} {nN : Nat} (h : Srch W p m ST mt KT sz col keys lB lL lN nN)
    {tS : TypeId} {i it : TypeInfo} {z : Value} (hsz : 0 < sz) (hmt : T0.und.get mt = some (.map KT 3)) (ht : T0.und.get tS = some (.slice KT)) (hi : T0.info.get KT = some i) (hs : i.size = sz) (hz : i.zero = some z) (hz1 : (acells z).length = sz) (hit : T0.info.get tS = some it) (hits : it.size = 1)
    (hib : i.bytes ≤ 1000) {key : Value} (hko : keyOk T0 KT key = true) (hkc : (acells key).length = sz) (hk1 : oneCells (acells key) = true) (hnew : ∀ k ∈ keys, keyEq key k = false) (hlen : keys.length < 10000)
    {bf lt : Int} :
    ∃ es ck v1 v2 v3 W1 w1 W2 W3 w2 W4 W5 w3 W6 W7 col',
      W.blocks.get m = some ⟨.map es ck, []⟩ ∧ aFind T0 KT key es 0 = some none ∧ aMapUpdate T0 W mt (.map (some m)) key (.int .i64 keys.length) = some W1 ∧ W1.next = W.next ∧
      aLoadVar T0 W1 tS p 1 = some v1 ∧ aAppend T0 (W1.newCells KT (acells key)) [tS, tS] [v1, .slice (some ⟨W1.next, 0, none⟩) 1 (2 * 1)] = some (w1, W2) ∧ aStoreVar T0 W2 tS p 1 w1 = some W3 ∧
      aLoadVar T0 W3 65 p 2 = some v2 ∧ aAppend T0 (W3.newCells 3 [.int .i64 bf]) [65, 65] [v2, .slice (some ⟨W3.next, 0, none⟩) 1 (2 * 1)] = some (w2, W4) ∧ aStoreVar T0 W4 65 p 2 w2 = some W5 ∧
      aLoadVar T0 W5 92 p 3 = some v3 ∧ aAppend T0 (W5.newCells 5 [.int .u8 lt]) [92, 92] [v3, .slice (some ⟨W5.next, 0, none⟩) 1 (2 * 1)] = some (w3, W6) ∧ aStoreVar T0 W6 92 p 3 w3 = some W7 ∧
      (∀ b, b < W.next → col' b = col b) ∧ Only (fun b => (col b ≠ 0 ∧ col b ≠ 8)) W W7 ∧ Srch W7 p m ST mt KT sz col' (keys ++ [key]) (lB ++ [.int .i64 bf]) (lL ++ [.int .u8 lt]) lN nN ∧
      Only (fun b => col b ≠ 0 ∧ b ≠ p) W1 W2 ∧ Only (fun b => (col b ≠ 0 ∧ col b ≠ 8)) W W1 ∧ (∃ a c, v1 = .slice a keys.length c) ∧ W2.next = W1.next + 2 ∧ W3.next = W1.next + 2 := by
  obtain ⟨c, hO, hc0⟩ := h.obj
  obtain ⟨es, ck, hm1, hm2, hm3⟩ := h.map
  have hes : ∀ e ∈ es, keyOk T0 KT e.1 = true := fun e he => h.key e.1 (by rw [← hm2]; exact List.mem_map_of_mem he)
  have hfn : aFind T0 KT key es 0 = some none := aFind_none hes (fun e he => hnew e.1 (by rw [← hm2]; exact List.mem_map_of_mem he))
  have hup : aMapUpdate T0 W mt (.map (some m)) key (.int .i64 keys.length) = some ⟨W.blocks.set m ⟨.map (es ++ [(key, .int .i64 keys.length, ck)]) (ck + 1), []⟩, W.next⟩ := by
    simp only [aMapUpdate, hmt, hko, hm1, hfn]
  have hmn := hO.lt m (by rw [h.cm]; omega)
  have hpn := hO.lt p (by rw [hO.cp]; omega)
  have hmp : m ≠ p := fun e => by have := h.cm; rw [e, hO.cp] at this; omega
  generalize hW1 : (⟨W.blocks.set m ⟨.map (es ++ [(key, .int .i64 keys.length, ck)]) (ck + 1), []⟩, W.next⟩ : AW) = W1 at hup
  have hn1 : W1.next = W.next := by rw [← hW1]
  have hO1 : Only (fun b => b = m) W W1 := ⟨by omega, fun b _ hb => by rw [← hW1]; simp only [Tr.get_set]; rw [if_neg hb]⟩
  have hg1 : W1.blocks.get m = some ⟨.map (es ++ [(key, .int .i64 keys.length, ck)]) (ck + 1), []⟩ := by rw [← hW1]; simp only [Tr.get_set, if_true]
  have hG1 : GObj W1 p 5 ST col (srchF KT sz keys.length (keys.flatMap acells) lB lL lN nN) c := by
    refine ⟨by rw [hO1.2 p hpn (Ne.symm hmp)]; exact hO.blk, fun o fl hf => ?_, hO.cp, fun b hb => by rw [hn1]; exact hO.lt b hb⟩
    obtain ⟨g1, v, g2, g3⟩ := hO.fld o fl hf
    exact ⟨g1, v, g2, g3.only hO1 (fun b _ hb e => by subst e; have := h.cm; have hb' : col b = o + 1 := hb; omega)⟩
  obtain ⟨_, v1, hv1, hv1g⟩ := hG1.fld 1 _ rfl
  obtain ⟨w1, W2, W3, a1, a2, a3, a4, a5, a6, a7⟩ := hG1.push (T := T0) (t := tS) (it := it) (o := 1) (u := acells key) rfl hsz ht hi hs hz hz1 hit hits hkc hk1 (by show 2 * (keys.length + 1) * i.bytes ≤ _; exact Nat.le_trans (Nat.mul_le_mul (show 2 * (keys.length + 1) ≤ 20000 by omega) hib) (by omega)) (by show keys.length + 1 ≤ _; omega) hv1
  obtain ⟨_, v2, hv2, _⟩ := a6.fld 2 _ rfl
  obtain ⟨w2, W4, W5, b1, b2, b3, b4, b5, b6, b7⟩ := a6.push (T := T0) (t := 65) (i := Try.t3) (it := Try.t65) (o := 2) (u := [.int .i64 bf]) rfl (by show 0 < 1; omega) und43 inf3 rfl rfl rfl inf43 rfl rfl rfl (by show 2 * (keys.length + 1) * 8 ≤ _; omega) (by show keys.length + 1 ≤ _; omega) hv2
  obtain ⟨_, v3, hv3, _⟩ := b6.fld 3 _ rfl
  obtain ⟨w3, W6, W7, c1, c2, c3, c4, c5, c6, c7⟩ := b6.push (T := T0) (t := 92) (i := Try.t5) (it := Try.t92) (o := 3) (u := [.int .u8 lt]) rfl (by show 0 < 1; omega) und38 inf5' rfl rfl rfl inf38 rfl rfl rfl (by show 2 * (keys.length + 1) * 1 ≤ _; omega) (by show keys.length + 1 ≤ _; omega) hv3
  have hl2 : aLoadVar T0 W1 tS p 1 = some v1 := hG1.load ht rfl (by omega) hv1
  have hl3 : aLoadVar T0 W3 65 p 2 = some v2 := a6.load und43 rfl (by omega) hv2
  have hl4 : aLoadVar T0 W5 92 p 3 = some v3 := b6.load und38 rfl (by omega) hv3
  have hOm : Only (fun b => (col b ≠ 0 ∧ col b ≠ 8)) W W1 := hO1.mono (fun b _ e => by subst e; rw [h.cm]; omega)
  have hO3 : Only (fun b => b ≠ m ∧ ((col b ≠ 0 ∧ col b ≠ 8))) W1 W3 := a7.mono (fun b _ hb => hb.elim (fun e => ⟨fun x => by subst x; have := h.cm; omega, by omega⟩) (fun e => by subst e; exact ⟨Ne.symm hmp, by rw [hO.cp]; omega⟩))
  have hO5 : Only (fun b => b ≠ m ∧ ((col b ≠ 0 ∧ col b ≠ 8) ∨ W1.next ≤ b)) W3 W5 := b7.mono (fun b _ hb => by
    rcases hb with hb | hb
    · by_cases e : b = W1.next + 1
      · exact ⟨by omega, .inr (by omega)⟩
      · rw [if_neg e] at hb; exact ⟨fun x => by subst x; have := h.cm; omega, .inl (by omega)⟩
    · subst hb; exact ⟨Ne.symm hmp, .inl (by rw [hO.cp]; omega)⟩)
  have hO7 : Only (fun b => b ≠ m ∧ ((col b ≠ 0 ∧ col b ≠ 8) ∨ W1.next ≤ b)) W5 W7 := c7.mono (fun b _ hb => by
    rcases hb with hb | hb
    · by_cases e : b = W3.next + 1
      · exact ⟨by omega, .inr (by omega)⟩
      · rw [if_neg e] at hb
        by_cases e : b = W1.next + 1
        · exact ⟨by omega, .inr (by omega)⟩
        · rw [if_neg e] at hb; exact ⟨fun x => by subst x; have := h.cm; omega, .inl (by omega)⟩
    · subst hb; exact ⟨Ne.symm hmp, .inl (by rw [hO.cp]; omega)⟩)
  have hAll : ∀ b, b < W1.next → ¬ (b ≠ m ∧ (col b ≠ 0 ∧ col b ≠ 8)) → W7.blocks.get b = W1.blocks.get b := fun b hb hk => by
    rw [hO7.2 b (by omega) (fun x => hk ⟨x.1, x.2.elim (fun y => y) (fun y => by omega)⟩), hO5.2 b (by omega) (fun x => hk ⟨x.1, x.2.elim (fun y => y) (fun y => by omega)⟩), hO3.2 b hb (fun x => hk x)]
  refine ⟨es, ck, v1, v2, v3, W1, w1, W2, W3, w2, W4, W5, w3, W6, W7, (fun b => if b = W5.next + 1 then 4 else if b = W3.next + 1 then 3 else if b = W1.next + 1 then 2 else col b), hm1, hfn, hup, hn1, hl2, a1, a2, hl3, b1, b2, hl4, c1, c2, fun b hb => ?_, ⟨by omega, fun b hb hk => ?_⟩, ⟨?_, ?_, ?_, ?_⟩, a5, hOm, hv1g.len, a3, a4⟩
  · simp only [if_neg (show ¬ b = W5.next + 1 from by omega), if_neg (show ¬ b = W3.next + 1 from by omega), if_neg (show ¬ b = W1.next + 1 from by omega)]
  · rw [hAll b (by omega) (fun x => hk x.2), hOm.2 b hb hk]
  · refine ⟨_, ⟨c6.blk, fun o fl hf => ?_, c6.cp, c6.lt⟩, ?_⟩
    · refine c6.fld o fl ?_
      match o, hf with
      | 1, hf => simpa [srchF, List.flatMap_append] using hf
      | 2, hf => simpa [srchF] using hf
      | 3, hf => simpa [srchF] using hf
      | 4, hf => simpa [srchF] using hf
    · simp only [Tr.get_set]; exact hc0
  · simp only [if_neg (show ¬ m = W5.next + 1 from by omega), if_neg (show ¬ m = W3.next + 1 from by omega), if_neg (show ¬ m = W1.next + 1 from by omega)]
    exact h.cm
  · refine ⟨_, _, by rw [hAll m (by omega) (fun x => x.1 rfl)]; exact hg1, by rw [List.map_append, hm2]; rfl, fun i e he => ?_⟩
    have hel : es.length = keys.length := by rw [← hm2, List.length_map]
    by_cases hi : i < es.length
    · rw [List.getElem?_append_left hi] at he
      exact hm3 i e he
    · rw [List.getElem?_append_right (by omega)] at he
      have hi' : i - es.length < 1 := by have := (List.getElem?_eq_some_iff.1 he).1; simpa using this
      rw [show i - es.length = 0 from by omega] at he
      simp at he; subst he
      simp only
      rw [show keys.length = i from by omega]
  · intro k hk
    rcases List.mem_append.1 hk with hk | hk
    · exact h.key k hk
    · simp only [List.mem_singleton] at hk; subst hk; exact hko
end Go.Proofs.Ytnnfobmfffbhaaa

open Go Go.Eng
namespace Go.Proofs.Ytnnfobmfffbhaaa
attribute [local congr] undef_congr WpK.congr WpS.congr WpL.congr WpC.congr WpF.congr gotS.congr callS.congr nextS.congr wantS.congr condS.congr
attribute [local irreducible] WpK
attribute [local simp] WpDr_nil WpDr_cons atS_some dwantS_true dwantS_false kindS_light kindS_float kindS_heavy lightS_value floatS_some heavyS_value heavyS_skip heavyS_enter dcallS_some doneS_eq
  isLight isFloat isPlain dLook testBit_dec dChain dLights_nil dLights_skip dLights_one dLight_nil dLight_cons dFreshes_nil dFreshes_one oneF_none oneF_some dFresh_nil dFresh_cons oneL_some oneW_true oneW_false sameV_value dPut dMay valEq arrEq listEq List.getElem?_cons Tr.get_nil dEnd
attribute [local simp] WpS_nil WpS_cons isDefer undef_false wantS_true wantS_false nextS_value nextS_skip nextS_enter callS_some gotS_some aWanted aOp aEvalF aEval opMove opAssign opPick aVal flat flat1 AAct.put opBinOp opConvert opIndex Tr.get_set Tr.get_lay aBin aResults tupled
  aCall aVals aCallB blt_dec ble_dec beq_dec aBinI_add aBinI_sub aBinI_lss aBinI_leq aBinI_gtr aBinI_geq aBinI_eql aBinI_neq index_str len_str len_slice Nat.beq_refl und3 und37 und5 und9
  opBox opLoad opFieldAddr opIndexAddr acells aAddr field25 und22 und23 und43 und4 und28
attribute [local simp] field31 conv_3_5 conv_3_37 conv_37_3 conv_5_3
set_option maxHeartbeats 4000000

theorem fun45 : T0.funcs.get 49 = some Try.f49 := by kernel_rfl
theorem fun46 : T0.funcs.get 50 = some Try.f50 := by kernel_rfl
theorem fun31 : T0.funcs.get 33 = some Try.f33 := by kernel_rfl
theorem und79 : T0.und.get 101 = some (.map 3 3) := by kernel_rfl
theorem und73 : T0.und.get 72 = some (.pointer 103) := by kernel_rfl
theorem und55 : T0.und.get 67 = some (.slice 77) := by kernel_rfl
theorem field81 (b o f : Nat) (hf : f < 5) : aField T0 103 (.pointer (some ⟨b, o, none⟩)) f = some (.pointer (some ⟨b, o + f, none⟩)) := by
  match f, hf with
  | 0, _ => rfl
  | 1, _ => rfl
  | 2, _ => rfl
  | 3, _ => rfl
  | 4, _ => rfl
theorem nilck (a : Addr) : nilChecked T0 (.pointer (some a)) = true := rfl

theorem build81 (m : Option Nat) : aBuild T0 103 [(0, .map m)] = some (.agg ⟨[.map m, .slice none 0 0, .slice none 0 0, .slice none 0 0, .slice none 0 0]⟩) := by kernel_rfl
theorem zero3 : aZero T0 3 = some (.int .i64 0) := by kernel_rfl

/-- a search that has found nothing -/
theorem newSearch3_wp (W : AW) : WpF T0 49 [] W (fun v W' => v = .pointer (some ⟨W.next + 1, 0, none⟩) ∧ Ext W W' ∧ W'.next = W.next + 2 ∧
    Srch W' (W.next + 1) W.next 103 101 3 1 (fun b => if b = W.next + 1 then 6 else if b = W.next then 7 else 0) [] [] [] [] 0) := by
  refine wpF fun45 rfl ?_
  refine wpK_reg (fun R hR => by simp; exact hR) ?_
  refine wpK_reg (fun R hR => by simp [opMakeMap, aMakeMap, aOpt, aValW, opBuild, aParts, build81]; exact hR) ?_
  refine wpK_ret ⟨.inr rfl, rfl, [.pointer (some ⟨W.next + 1, 0, none⟩)], by simp [AW.new], by simp [AW.new], ?_, rfl, ?_⟩
  · refine ⟨by simp [AW.new, AW.newCells]; omega, fun b hb _ => ?_⟩
    rw [newCells_get, if_neg (by simp [AW.new]; omega)]
    simp only [AW.new, Tr.get_set]
    rw [if_neg (by omega)]
  · have hg1 : ((W.new (.map [] 0)).newCells 103 [.map (some W.next), .slice none 0 0, .slice none 0 0, .slice none 0 0, .slice none 0 0]).blocks.get (W.next + 1) = some ⟨.cells (Tr.nil.lay 0 [.map (some W.next), .slice none 0 0, .slice none 0 0, .slice none 0 0, .slice none 0 0]) 5 103, []⟩ := by
      rw [newCells_get, if_pos (by simp [AW.new])]; rfl
    have hg0 : ((W.new (.map [] 0)).newCells 103 [.map (some W.next), .slice none 0 0, .slice none 0 0, .slice none 0 0, .slice none 0 0]).blocks.get W.next = some ⟨.map [] 0, []⟩ := by
      rw [newCells_get, if_neg (by simp [AW.new])]
      simp only [AW.new, Tr.get_set, if_true]
    refine ⟨⟨_, ⟨hg1, fun o fl hf => ?_, by simp, fun b hb => ?_⟩, by rw [Tr.get_lay]; rfl⟩, ?_, ⟨[], 0, hg0, rfl, fun i e h => by simp at h⟩, fun k hk => by cases hk⟩
    · match o, hf with
      | 1, hf => simp only [srchF, Option.some.injEq] at hf; subst hf; exact ⟨by omega, .slice none 0 0, by rw [Tr.get_lay]; rfl, .nil _ _ _ _⟩
      | 2, hf => simp only [srchF, Option.some.injEq] at hf; subst hf; exact ⟨by omega, .slice none 0 0, by rw [Tr.get_lay]; rfl, .nil _ _ _ _⟩
      | 3, hf => simp only [srchF, Option.some.injEq] at hf; subst hf; exact ⟨by omega, .slice none 0 0, by rw [Tr.get_lay]; rfl, .nil _ _ _ _⟩
      | 4, hf => simp only [srchF, Option.some.injEq] at hf; subst hf; exact ⟨by omega, .slice none 0 0, by rw [Tr.get_lay]; rfl, .nil _ _ _ _⟩
    · show b < W.next + 2
      have hb : (if b = W.next + 1 then 6 else if b = W.next then 7 else 0) ≠ 0 := hb
      split at hb
      · omega
      · split at hb
        · omega
        · exact absurd rfl hb
    · simp

/-- the lists of a search when a key has been looked for -/
def Found (keys lB lL : List Value) (key : Value) (bf lt : Int) (keys' lB' lL' : List Value) (i : Nat) : Prop :=
  i < keys'.length ∧ (∃ k, keys'[i]? = some k ∧ keyEq key k = true) ∧
  ((keys' = keys ∧ lB' = lB ∧ lL' = lL) ∨ (i = keys.length ∧ (∀ k ∈ keys, keyEq key k = false) ∧ keys' = keys ++ [key] ∧ lB' = lB ++ [.int .i64 bf] ∧ lL' = lL ++ [.int .u8 lt]))

theorem letter_u8 (x : Nat) (hx : x < 4) : IntKind.u8.wrap (97 + IntKind.u8.wrap (x : Int)) = 97 + (x : Int) := by
  rw [IntWalk.u8_in (x : Int) (by omega), IntWalk.u8_in _ (by omega)]

theorem key3_self (s : Int) : keyEq (.int .i64 s) (.int .i64 s) = true := by
  cases s <;> simp [keyEq, key1Eq]

theorem find3_wp {W : AW} {p m : Nat} {col : Nat → Nat} {keys lB lL lN : List Value} {nN : Nat} (h : Srch W p m 103 101 3 1 col keys lB lL lN nN) (hlen : keys.length < 10000) (s bf : Int) (x : Nat) (hx : x < 4) :
    WpF T0 50 [.pointer (some ⟨p, 0, none⟩), .int .i64 s, .int .i64 bf, .int .i64 x] W (fun v W' => ∃ col' keys' lB' lL' i, v = .int .i64 (i : Nat) ∧ Found keys lB lL (.int .i64 s) bf (97 + x) keys' lB' lL' i ∧
      Only (fun b => col b ≠ 0 ∧ col b ≠ 8) W W' ∧ (∀ b, b < W.next → col' b = col b) ∧ Srch W' p m 103 101 3 1 col' keys' lB' lL' lN nN) := by
  refine wpF fun46 rfl ?_
  refine wpK_reg (fun R hR => by simp; exact hR) ?_
  obtain ⟨c, hO, hc0⟩ := h.obj
  obtain ⟨es, ck, hm1, hm2, hm3⟩ := h.map
  have hes : ∀ e ∈ es, keyOk T0 3 e.1 = true := fun e he => h.key e.1 (by rw [← hm2]; exact List.mem_map_of_mem he)
  have hko : keyOk T0 3 (.int .i64 s) = true := by kernel_rfl
  have hl0 : aLoadVar T0 W 101 p 0 = some (.map (some m)) := hO.load und79 rfl (by omega) hc0
  by_cases hin : ∃ k ∈ keys, keyEq (.int .i64 s) k = true
  · -- it is there
    have hin2 : ∃ e ∈ es, keyEq (.int .i64 s) e.1 = true := by
      obtain ⟨k, hk, hk2⟩ := hin
      rw [← hm2] at hk
      obtain ⟨e, he, rfl⟩ := List.mem_map.1 hk
      exact ⟨e, he, hk2⟩
    obtain ⟨j, e, hf, hj, hje⟩ := aFind_some (T := T0) (i := 0) hes hin2
    have hjl : j < es.length := (List.getElem?_eq_some_iff.1 hj).1
    have hel : es.length = keys.length := by rw [← hm2, List.length_map]
    have hv := hm3 j e hj
    have hlk : aLookup T0 W 101 (.map (some m)) (.int .i64 s) true = some (.tuple ⟨[.int .i64 (j : Nat), .bool true]⟩) := by
      simp only [aLookup, und79, hko, aEntries, hm1, hf, hv, aOkd]
    try simp only [wpK_assoc]
    refine wpK_reg (fun R hR => by simp [opNilCheck, nilck, field81, hl0, opLookup, hlk, opExtract, aExtract]; exact hR) ?_
    try simp only [wpK_assoc]
    refine wpK_reg (fun R hR => by simp; exact hR) ?_
    refine wpK_condT (by simp) ?_
    refine wpK_reg (fun R hR => by simp; exact hR) ?_
    refine wpK_ret ⟨.inr rfl, rfl, [.int .i64 (j : Nat)], by simp, col, keys, lB, lL, j, rfl, ⟨by omega, ⟨e.1, by rw [← hm2, List.getElem?_map, hj]; rfl, hje⟩, .inl ⟨rfl, rfl, rfl⟩⟩, .refl _ _, fun _ _ => rfl, h⟩
  · have hnew : ∀ k ∈ keys, keyEq (.int .i64 s) k = false := fun k hk => by
      cases hh : keyEq (.int .i64 s) k
      · rfl
      · exact absurd ⟨k, hk, hh⟩ hin
    obtain ⟨es', ck', v1, v2, v3, W1, w1, W2, W3, w2, W4, W5, w3, W6, W7, col', a0, a1, a2, a3, b1, b2, b3, d1, d2, d3, e1, e2, e3, g1, g2, g3, g4, g5, _, _, _⟩ :=
      h.add (tS := 65) (i := Try.t3) (it := Try.t65) (z := .int .i64 0) (by omega) und79 und43 inf3 rfl rfl rfl inf43 rfl (by show 8 ≤ 1000; omega) (key := .int .i64 s) hko rfl rfl hnew hlen (bf := bf) (lt := 97 + x)
    rw [hm1] at a0; cases a0
    simp only [acells, Nat.mul_one] at b2 d2 e2
    have hlk : aLookup T0 W 101 (.map (some m)) (.int .i64 s) true = some (.tuple ⟨[.int .i64 0, .bool false]⟩) := by
      simp only [aLookup, und79, hko, aEntries, hm1, a1, zero3, aOkd]
    try simp only [wpK_assoc]
    refine wpK_reg (fun R hR => by simp [opNilCheck, nilck, field81, hl0, opLookup, hlk, opExtract, aExtract]; exact hR) ?_
    try simp only [wpK_assoc]
    refine wpK_reg (fun R hR => by simp; exact hR) ?_
    refine wpK_onF (by simp) ?_
    obtain ⟨_, v1', hv1', hG1⟩ := hO.fld 1 _ rfl
    have hls : aLoadVar T0 W 65 p 1 = some v1' := hO.load und43 rfl (by omega) hv1'
    obtain ⟨av, cv, hv1e⟩ := hG1.len
    subst hv1e
    simp only at hls
    try simp only [wpK_assoc]
    refine wpK_reg (fun R hR => by simp [opNilCheck, nilck, field81, hls]; exact hR) ?_
    try simp only [wpK_assoc]
    refine wpK_reg (fun R hR => by simp [opNilCheck, nilck, field81, hl0, opMapUpdate, a2]; exact hR) ?_
    try simp only [wpK_assoc]
    refine wpK_reg (fun R hR => by simp [opNilCheck, nilck, field81, b1, opBuildSlice, aParts, aValW, bs43, b2, opStore, b3]; exact hR) ?_
    try simp only [wpK_assoc]
    refine wpK_reg (fun R hR => by simp [opNilCheck, nilck, field81, d1, opBuildSlice, aParts, aValW, bs43, d2, opStore, d3]; exact hR) ?_
    try simp only [wpK_assoc]
    refine wpK_reg (fun R hR => by simp [opNilCheck, nilck, field81, e1, letter_u8 x hx, opBuildSlice, aParts, aValW, bs38, e2, opStore, e3]; exact hR) ?_
    try simp only [wpK_assoc]
    refine wpK_reg (fun R hR => by simp; exact hR) ?_
    refine wpK_ret ⟨.inr rfl, rfl, [.int .i64 (keys.length : Nat)], by simp, col', _, _, _, keys.length, rfl, ⟨by simp, ⟨.int .i64 s, by simp, key3_self s⟩, .inr ⟨rfl, hnew, rfl, rfl, rfl⟩⟩, g2, g1, g3⟩
end Go.Proofs.Ytnnfobmfffbhaaa

open Go Go.Eng
namespace Go.Proofs.Ytnnfobmfffbhaaa
attribute [local congr] undef_congr WpK.congr WpS.congr WpL.congr WpC.congr WpF.congr gotS.congr callS.congr nextS.congr wantS.congr condS.congr
attribute [local irreducible] WpK
attribute [local simp] WpDr_nil WpDr_cons atS_some dwantS_true dwantS_false kindS_light kindS_float kindS_heavy lightS_value floatS_some heavyS_value heavyS_skip heavyS_enter dcallS_some doneS_eq
  isLight isFloat isPlain dLook testBit_dec dChain dLights_nil dLights_skip dLights_one dLight_nil dLight_cons dFreshes_nil dFreshes_one oneF_none oneF_some dFresh_nil dFresh_cons oneL_some oneW_true oneW_false sameV_value dPut dMay valEq arrEq listEq List.getElem?_cons Tr.get_nil dEnd
attribute [local simp] WpS_nil WpS_cons isDefer undef_false wantS_true wantS_false nextS_value nextS_skip nextS_enter callS_some gotS_some aWanted aOp aEvalF aEval opMove opAssign opPick aVal flat flat1 AAct.put opBinOp opConvert opIndex Tr.get_set Tr.get_lay aBin aResults tupled
  aCall aVals aCallB blt_dec ble_dec beq_dec aBinI_add aBinI_sub aBinI_lss aBinI_leq aBinI_gtr aBinI_geq aBinI_eql aBinI_neq index_str len_str len_slice Nat.beq_refl und3 und37 und5 und9
  opBox opLoad opFieldAddr opIndexAddr acells aAddr field25 und22 und23 und43 und4 und28
attribute [local simp] field31 conv_3_5 conv_3_37 conv_37_3 conv_5_3
set_option maxHeartbeats 4000000

theorem from3_wp (s : Int) (W : AW) : WpF T0 33 [.int .i64 s] W (fun v W' => v = .pointer (some ⟨W.next + 1, 0, none⟩) ∧ Ext W W' ∧ ∃ col, (∀ b, b < W.next → col b = 0) ∧
    Srch W' (W.next + 1) W.next 103 101 3 1 col [.int .i64 s] [.int .i64 (-1)] [.int .u8 97] [] 0) := by
  refine wpF fun31 rfl ?_
  refine wpK_reg (fun R hR => by simp; exact hR) ?_
  try simp only [wpK_assoc]
  refine wpK_regc (J := fun A' W' => A'.n = 9 ∧ A'.defers = [] ∧ A'.tmps.get 0 = some (.int .i64 s) ∧ A'.tmps.get 3 = some (.pointer (some ⟨W.next + 1, 0, none⟩)) ∧ Ext W W' ∧ W'.next = W.next + 2 ∧
    Srch W' (W.next + 1) W.next 103 101 3 1 (fun b => if b = W.next + 1 then 6 else if b = W.next then 7 else 0) [] [] [] [] 0) (fun R hR => ?_) ?_
  · simp [aEnter, fun45, short_other, aCallV]
    rw [callS_none]
    refine (newSearch3_wp W).mono ?_
    rintro v W' ⟨rfl, h1, h2, h3⟩
    simp
    apply hR
    exact ⟨rfl, rfl, by simp, by simp, h1, h2, h3⟩
  rintro ⟨t, n, ds⟩ W1 ⟨hn, hd, h0, h3, hE, hnx, hS⟩
  simp only at hn hd h0 h3
  subst hn; subst hd
  try simp only [wpK_assoc]
  refine wpK_regc (J := fun A' W' => A'.n = 9 ∧ A'.defers = [] ∧ A'.tmps.get 3 = some (.pointer (some ⟨W.next + 1, 0, none⟩)) ∧ Ext W W' ∧ ∃ col, (∀ b, b < W.next → col b = 0) ∧
    Srch W' (W.next + 1) W.next 103 101 3 1 col [.int .i64 s] [.int .i64 (-1)] [.int .u8 97] [] 0) (fun R hR => ?_) ?_
  · simp [h0, h3, aEnter, fun46, short_other, aCallV]
    rw [callS_none]
    refine (find3_wp hS (by simp) s (-1) 0 (by omega)).mono ?_
    rintro v W' ⟨col', keys', lB', lL', i, rfl, ⟨hi, hk, hf⟩, g2, g3, g4⟩
    simp
    apply hR
    have hf2 : keys' = [.int .i64 s] ∧ lB' = [.int .i64 (-1)] ∧ lL' = [.int .u8 97] := by
      rcases hf with ⟨rfl, rfl, rfl⟩ | ⟨_, _, rfl, rfl, rfl⟩
      · simp at hi
      · exact ⟨rfl, rfl, rfl⟩
    obtain ⟨rfl, rfl, rfl⟩ := hf2
    refine ⟨rfl, rfl, by simp [h3], ⟨by have := g2.1; omega, fun b hb hx => (g2.2 b (by omega) ?_).trans (hE.2 b hb hx)⟩, col', fun b hb => ?_, g4⟩
    · simp only [if_neg (show ¬ b = W.next + 1 from by omega), if_neg (show ¬ b = W.next from by omega)]; exact fun h => h.1 rfl
    · rw [g3 b (by omega)]
      simp only [if_neg (show ¬ b = W.next + 1 from by omega), if_neg (show ¬ b = W.next from by omega)]
  rintro ⟨t, n, ds⟩ W2 ⟨hn, hd, h3, hE2, col, hc, hS2⟩
  simp only at hn hd h3
  subst hn; subst hd
  try simp only [wpK_assoc]
  refine wpK_reg (fun R hR => by simp [h3]; exact hR) ?_
  exact wpK_ret ⟨.inr rfl, rfl, [.pointer (some ⟨W.next + 1, 0, none⟩)], by simp, rfl, hE2, col, hc, hS2⟩

/-! ### a search goes on from all that it finds -/
def RowI (step : Value → Nat → Value) (key : Value) (i : Nat) : Nat → List Value → List Value → List Value → List Value → List Value → List Value → List Value → Prop
  | 0, keys, lB, lL, row, keys', lB', lL' => keys' = keys ∧ lB' = lB ∧ lL' = lL ∧ row = List.replicate 4 (.int .i64 0)
  | x + 1, keys, lB, lL, row, keys', lB', lL' => ∃ r1 k1 B1 L1 j, RowI step key i x keys lB lL r1 k1 B1 L1 ∧ Found k1 B1 L1 (step key x) i (97 + x) keys' lB' lL' j ∧ row = r1.set x (.int .i64 (j : Nat))
/-- the lists of a search that has gone on from i -/
def Bfs (step : Value → Nat → Value) (L : Nat) (start : Value) : Nat → List Value → List Value → List Value → List Value → Prop
  | 0, keys, lB, lL, lN => keys = [start] ∧ lB = [.int .i64 (-1)] ∧ lL = [.int .u8 97] ∧ lN = []
  | i + 1, keys, lB, lL, lN => ∃ k0 B0 L0 N0 key row, Bfs step L start i k0 B0 L0 N0 ∧ k0[i]? = some key ∧ RowI step key i L k0 B0 L0 row keys lB lL ∧ lN = N0 ++ row

theorem Found.grows {keys lB lL : List Value} {key : Value} {bf lt : Int} {keys' lB' lL' : List Value} {i : Nat} (h : Found keys lB lL key bf lt keys' lB' lL' i) : keys <+: keys' ∧ lB <+: lB' ∧ lL <+: lL' := by
  obtain ⟨_, _, ⟨rfl, rfl, rfl⟩ | ⟨_, _, rfl, rfl, rfl⟩⟩ := h
  · exact ⟨List.prefix_refl _, List.prefix_refl _, List.prefix_refl _⟩
  · exact ⟨List.prefix_append _ _, List.prefix_append _ _, List.prefix_append _ _⟩

theorem gobj_only8 {W W' : AW} {p N : Nat} {ST : TypeId} {col : Nat → Nat} {F : Nat → Option Fld} {c : Tr Value} {K : Nat → Prop} (h : GObj W p N ST col F c) (ho : Only K W W') (hk : ∀ b, b < W.next → col b ≠ 0 → col b ≤ N + 1 → ¬ K b) : GObj W' p N ST col F c where
  blk := by rw [ho.2 p (h.lt p (by rw [h.cp]; omega)) (hk p (h.lt p (by rw [h.cp]; omega)) (by rw [h.cp]; omega) (by rw [h.cp]; omega))]; exact h.blk
  fld := fun o fl hf => by
    obtain ⟨h1, v, h2, h3⟩ := h.fld o fl hf
    exact ⟨h1, v, h2, h3.only ho (fun b hb hc => hk b hb (by rw [hc]; omega) (by rw [hc]; omega))⟩
  cp := h.cp
  lt := fun b hb => Nat.lt_of_lt_of_le (h.lt b hb) ho.1
theorem Srch.only8 {W W' : AW} {p m ST mt KT sz : Nat} {col : Nat → Nat} {keys lB lL lN : List Value} {nN : Nat} {K : Nat → Prop} (h : Srch W p m ST mt KT sz col keys lB lL lN nN) (ho : Only K W W') (hk : ∀ b, b < W.next → col b ≠ 0 → col b ≠ 8 → ¬ K b) : Srch W' p m ST mt KT sz col keys lB lL lN nN where
  obj := let ⟨c, h1, h2⟩ := h.obj; ⟨c, gobj_only8 h1 ho (fun b hb hc h8 => hk b hb hc (by omega)), h2⟩
  cm := h.cm
  map := by
    obtain ⟨es, ck, h1, h2⟩ := h.map
    obtain ⟨c, g1, _⟩ := h.obj
    have hm := g1.lt m (by rw [h.cm]; omega)
    exact ⟨es, ck, by rw [ho.2 m hm (hk m hm (by rw [h.cm]; omega) (by rw [h.cm]; omega))]; exact h1, h2⟩
  key := h.key
/-- a further name counts as the search's -/
theorem Srch.paint {W : AW} {p m ST mt KT sz : Nat} {col : Nat → Nat} {keys lB lL lN : List Value} {nN r : Nat} (h : Srch W p m ST mt KT sz col keys lB lL lN nN) (hr : r < W.next) (h0 : col r = 0) : Srch W p m ST mt KT sz (fun b => if b = r then 8 else col b) keys lB lL lN nN where
  obj := by
    obtain ⟨c, h1, h2⟩ := h.obj
    have ne : ∀ b, col b ≠ 0 → b ≠ r := fun b hb e => hb (e ▸ h0)
    refine ⟨c, ⟨h1.blk, fun o fl hf => ?_, by simp only [if_neg (ne p (by rw [h1.cp]; omega))]; exact h1.cp, fun b hb => ?_⟩, h2⟩
    · obtain ⟨g1, v, g2, g3⟩ := h1.fld o fl hf
      exact ⟨g1, v, g2, g3.mono (fun b hb => by simp only [if_neg (ne b (by rw [hb]; omega))]; exact hb)⟩
    · by_cases e : b = r
      · rw [e]; exact hr
      · simp only [if_neg e] at hb; exact h1.lt b hb
  cm := by
    have : m ≠ r := fun e => by have := h.cm; rw [e, h0] at this; omega
    simp only [if_neg this]; exact h.cm
  map := h.map
  key := h.key
theorem Srch.lt {W : AW} {p m ST mt KT sz : Nat} {col : Nat → Nat} {keys lB lL lN : List Value} {nN b : Nat} (h : Srch W p m ST mt KT sz col keys lB lL lN nN) (hb : col b ≠ 0) : b < W.next := by
  obtain ⟨c, h1, h2⟩ := h.obj
  exact h1.lt b hb
theorem inf85 : T0.info.get 77 = some Try.t77 := by kernel_rfl
theorem inf55 : T0.info.get 67 = some Try.t67 := by kernel_rfl
/-- a row is put behind the others -/
theorem Srch.row {W : AW} {p m ST mt KT sz : Nat} {col : Nat → Nat} {keys lB lL lN : List Value} {nN : Nat} (h : Srch W p m ST mt KT sz col keys lB lL lN nN) {row : List Value} (hr : row.length = 4) (hone : oneCells row = true) (hn : nN < 20000) :
    ∃ v w W4 W5 col', (W.Has p 4 v ∧ ∃ a c, v = .slice a nN c) ∧ aLoadVar T0 W 67 p 4 = some v ∧ aAppend T0 (W.newCells 77 row) [67, 67] [v, .slice (some ⟨W.next, 0, none⟩) 1 2] = some (w, W4) ∧ aStoreVar T0 W4 67 p 4 w = some W5 ∧ W4.next = W.next + 2 ∧ W5.next = W.next + 2 ∧
      Only (fun b => col b ≠ 0 ∧ b ≠ p) W W4 ∧ Only (fun b => col b ≠ 0) W W5 ∧ (∀ b, b < W.next → col' b = col b) ∧ Srch W5 p m ST mt KT sz col' keys lB lL (lN ++ row) (nN + 1) := by
  obtain ⟨c, hO, hc0⟩ := h.obj
  obtain ⟨es, ck, hm1, hm2⟩ := h.map
  obtain ⟨_, v, hv, hvG⟩ := hO.fld 4 _ rfl
  have hl : aLoadVar T0 W 67 p 4 = some v := hO.load und55 rfl (by omega) hv
  have hmn := hO.lt m (by rw [h.cm]; omega)
  have hmp : m ≠ p := fun e => by have := h.cm; rw [e, hO.cp] at this; omega
  obtain ⟨w, W4, W5, a1, a2, a3, a4, a5, a6, a7⟩ := hO.push (T := T0) (t := 67) (i := Try.t77) (it := Try.t67) (z := .agg ⟨[.int .i64 0, .int .i64 0, .int .i64 0, .int .i64 0]⟩) (o := 4) (u := row) rfl (by show 0 < 4; omega) und55 inf85 rfl rfl rfl inf55 rfl hr hone (by show 2 * (nN + 1) * 32 ≤ _; omega) (by show nN + 1 ≤ _; omega) hv
  simp only [Nat.mul_one] at a1
  have hHas : W.Has p 4 v := ⟨hO.lt p (by rw [hO.cp]; omega), by simp only [AW.cell, hO.blk, blt_dec]; exact hv⟩
  refine ⟨v, w, W4, W5, _, ⟨hHas, hvG.len⟩, hl, a1, a2, a3, a4, a5, a7.mono (fun b _ hb => ?_), fun b hb => ?_, ⟨⟨_, ⟨a6.blk, fun o fl hf => ?_, a6.cp, a6.lt⟩, by simp only [Tr.get_set]; exact hc0⟩, ?_, ⟨es, ck, ?_, hm2⟩, h.key⟩⟩
  · rcases hb with hb | rfl
    · rw [hb]; omega
    · rw [hO.cp]; omega
  · simp only [if_neg (show ¬ b = W.next + 1 from by omega)]
  · refine a6.fld o fl ?_
    match o, hf with
    | 1, hf => simpa [srchF] using hf
    | 2, hf => simpa [srchF] using hf
    | 3, hf => simpa [srchF] using hf
    | 4, hf => simpa [srchF] using hf
  · simp only [if_neg (show ¬ m = W.next + 1 from by omega)]; exact h.cm
  · rw [a7.2 m hmn (fun x => x.elim (fun e => by have := h.cm; omega) (fun e => hmp e))]; exact hm1
end Go.Proofs.Ytnnfobmfffbhaaa

open Go Go.Eng
namespace Go.Proofs.Ytnnfobmfffbhaaa
attribute [local congr] undef_congr WpK.congr WpS.congr WpL.congr WpC.congr WpF.congr gotS.congr callS.congr nextS.congr wantS.congr condS.congr
attribute [local irreducible] WpK
attribute [local simp] WpDr_nil WpDr_cons atS_some dwantS_true dwantS_false kindS_light kindS_float kindS_heavy lightS_value floatS_some heavyS_value heavyS_skip heavyS_enter dcallS_some doneS_eq
  isLight isFloat isPlain dLook testBit_dec dChain dLights_nil dLights_skip dLights_one dLight_nil dLight_cons dFreshes_nil dFreshes_one oneF_none oneF_some dFresh_nil dFresh_cons oneL_some oneW_true oneW_false sameV_value dPut dMay valEq arrEq listEq List.getElem?_cons Tr.get_nil dEnd
attribute [local simp] WpS_nil WpS_cons isDefer undef_false wantS_true wantS_false nextS_value nextS_skip nextS_enter callS_some gotS_some aWanted aOp aEvalF aEval opMove opAssign opPick aVal flat flat1 AAct.put opBinOp opConvert opIndex Tr.get_set Tr.get_lay aBin aResults tupled
  aCall aVals aCallB blt_dec ble_dec beq_dec aBinI_add aBinI_sub aBinI_lss aBinI_leq aBinI_gtr aBinI_geq aBinI_eql aBinI_neq index_str len_str len_slice Nat.beq_refl und3 und37 und5 und9
  opBox opLoad opFieldAddr opIndexAddr acells aAddr field25 und22 und23 und43 und4 und28
attribute [local simp] field31 conv_3_5 conv_3_37 conv_37_3 conv_5_3
set_option maxHeartbeats 4000000
theorem fun47 : T0.funcs.get 51 = some Try.f51 := by kernel_rfl
theorem und78 : T0.und.get 78 = some (.func #[3, 3] #[3] false) := by kernel_rfl
theorem build85 : aBuild T0 77 [] = some (.agg ⟨[.int .i64 0, .int .i64 0, .int .i64 0, .int .i64 0]⟩) := by kernel_rfl
theorem zero85 : aZero T0 77 = some (.agg ⟨[.int .i64 0, .int .i64 0, .int .i64 0, .int .i64 0]⟩) := by kernel_rfl
theorem und85 : T0.und.get 77 = some (.array 4 3) := by kernel_rfl
theorem bs55' (W : AW) (a b c d : Value) : aBuildSlice T0 W 67 1 [(0, .agg ⟨[a, b, c, d]⟩)] = some (.slice (some ⟨W.next, 0, none⟩) 1 2, W.newCells 77 [a, b, c, d]) := by kernel_rfl
theorem bs55 (W : AW) : ∀ (l : List Value), l.length = 4 → aBuildSlice T0 W 67 1 [(0, .agg ⟨l⟩)] = some (.slice (some ⟨W.next, 0, none⟩) 1 2, W.newCells 77 l)
  | [a, b, c, d], _ => bs55' W a b c d

theorem RowI.len {step : Value → Nat → Value} {key : Value} {i : Nat} : ∀ {x : Nat} {keys lB lL row keys' lB' lL' : List Value}, RowI step key i x keys lB lL row keys' lB' lL' → row.length = 4
  | 0, _, _, _, _, _, _, _, h => by rw [h.2.2.2]; rfl
  | x + 1, _, _, _, _, _, _, _, ⟨r1, _, _, _, j, h1, _, h3⟩ => by rw [h3, List.length_set]; exact h1.len
theorem RowI.grows {step : Value → Nat → Value} {key : Value} {i : Nat} : ∀ {x : Nat} {keys lB lL row keys' lB' lL' : List Value}, RowI step key i x keys lB lL row keys' lB' lL' → keys <+: keys' ∧ lB <+: lB' ∧ lL <+: lL'
  | 0, _, _, _, _, _, _, _, h => by
    obtain ⟨rfl, rfl, rfl, _⟩ := h
    exact ⟨List.prefix_refl _, List.prefix_refl _, List.prefix_refl _⟩
  | x + 1, _, _, _, _, _, _, _, ⟨r1, _, _, _, j, h1, h2, _⟩ =>
    let ⟨a1, a2, a3⟩ := h1.grows
    let ⟨b1, b2, b3⟩ := h2.grows
    ⟨a1.trans b1, a2.trans b2, a3.trans b3⟩
theorem RowI.ints {step : Value → Nat → Value} {key : Value} {i : Nat} : ∀ {x : Nat} {keys lB lL row keys' lB' lL' : List Value}, RowI step key i x keys lB lL row keys' lB' lL' → 0 < keys.length → ∀ v ∈ row, ∃ j : Nat, j < keys'.length ∧ v = .int .i64 j
  | 0, _, _, _, _, _, _, _, h, hk => by
    obtain ⟨rfl, rfl, rfl, rfl⟩ := h
    intro v hv
    rw [List.mem_replicate] at hv
    exact ⟨0, hk, hv.2⟩
  | x + 1, _, _, _, _, _, _, _, ⟨r1, _, _, _, j, h1, h2, h3⟩, hk => by
    intro v hv
    rw [h3] at hv
    rcases List.mem_or_eq_of_mem_set hv with hv | rfl
    · obtain ⟨j', g1, g2⟩ := h1.ints hk v hv
      exact ⟨j', Nat.lt_of_lt_of_le g1 h2.grows.1.length_le, g2⟩
    · exact ⟨j, h2.1, rfl⟩
theorem oneCells_ints {l : List Value} (h : ∀ v ∈ l, ∃ j : Nat, v = .int .i64 j) : oneCells l = true := oneCells_of (fun x hx => by
  obtain ⟨j, rfl⟩ := h x hx; rfl)

/-- what all's caller has to say -/
structure Caller (PT : Nat) (fAll : FuncId) (isK : Value → Prop) (L p b1 b2 b3 l : Nat) (fs : FuncId) (first cap : List Value) (step : Value → Nat → Value) (start : Value) (M : Nat)
    (S : Nat → List Value → List Value → List Value → List Value → (Nat → Nat) → AW → Prop)
    (C D : Nat → List Value → List Value → List Value → List Value → (Nat → Nat) → AW → Prop) : Prop where
  hL : L ≤ 4
  hM : M < 10000
  fsOk : ∃ f, T0.funcs.get fs = some f
  fsNo : fs ≠ 17
  fcOk : listEq first first = true ∧ listEq cap cap = true
  env : ∀ {i keys lB lL lN col W}, C i keys lB lL lN col W → W.Has b1 0 (.pointer (some ⟨p, 0, none⟩)) ∧ W.Has b2 0 (.int .i64 L) ∧ W.Has b3 0 (.func (.func fs) ⟨first⟩ ⟨cap⟩)
  stab : ∀ {i keys lB lL lN col keys' lB' lL' lN' col' W W'}, C i keys lB lL lN col W → keys <+: keys' → lB <+: lB' → lL <+: lL' → lN <+: lN' → Only (fun b => col b ≠ 0) W W' → (∀ b, b < W.next → col b ≠ 0 → col' b ≠ 0) → (∀ b, b < W.next → col b = 0 → col' b = 0) → C i keys' lB' lL' lN' col' W'
  stepOk : ∀ {i keys lB lL lN col W key x}, C i keys lB lL lN col W → key ∈ keys → isK key → x < L → WpF T0 fs (first ++ ([key, .int .i64 (x : Nat)] ++ cap)) W (fun v W' => Ext W W' ∧ v = step key x)
  keyOk : ∀ {key x}, isK key → isK (step key x)
  startOk : isK start
  bound : ∀ {i keys lB lL lN}, Bfs step L start i keys lB lL lN → keys.length ≤ M
  rbound : ∀ {i x k0 B0 L0 N0 key row keys lB lL}, Bfs step L start i k0 B0 L0 N0 → k0[i]? = some key → x ≤ L → RowI step key i x k0 B0 L0 row keys lB lL → keys.length ≤ M
  yield : ∀ {i keys lB lL lN col W key}, C i keys lB lL lN col W → S i keys lB lL lN col W → Bfs step L start i keys lB lL lN → keys[i]? = some key →
    ∃ st pd fn t n ps asn bd df kin t', W.blocks.get l = some ⟨.loop st pd fn t n ps asn bd df, kin⟩ ∧ aSetAll t n ps.toList [.int .i64 (i : Nat), key] = some t' ∧
      WpR T0 l fn t' n asn bd W (fun v W' => (v = .bool true ∧ Only (fun b => col b = 0) W W' ∧ C (i + 1) keys lB lL lN col W') ∨ (v = .bool false ∧ D i keys lB lL lN col W'))

def IsK3 (v : Value) : Prop := ∃ s : Int, v = .int .i64 s
theorem bfs_isK {isK : Value → Prop} {step : Value → Nat → Value} (hs : ∀ {key x}, isK key → isK (step key x)) : ∀ {x : Nat} {key : Value} {i : Nat} {keys lB lL row keys' lB' lL' : List Value}, RowI step key i x keys lB lL row keys' lB' lL' → isK key → (∀ k ∈ keys, isK k) → ∀ k ∈ keys', isK k
  | 0, _, _, _, _, _, _, _, _, _, h, _, hk => by obtain ⟨rfl, _⟩ := h; exact hk
  | x + 1, _, _, _, _, _, _, _, _, _, ⟨r1, k1, _, _, j, h1, h2, _⟩, hkey, hk => by
    have ih := bfs_isK hs h1 hkey hk
    obtain ⟨_, _, ⟨rfl, _⟩ | ⟨_, _, rfl, _⟩⟩ := h2
    · exact ih
    · intro k hk
      rcases List.mem_append.1 hk with hk | hk
      · exact ih k hk
      · simp only [List.mem_singleton] at hk; subst hk; exact hs hkey
theorem Bfs.isK {isK : Value → Prop} {step : Value → Nat → Value} {L : Nat} {start : Value} (hs : ∀ {key x}, isK key → isK (step key x)) (h0 : isK start) : ∀ {i : Nat} {keys lB lL lN : List Value}, Bfs step L start i keys lB lL lN → ∀ k ∈ keys, isK k
  | 0, _, _, _, _, h => by obtain ⟨rfl, _⟩ := h; intro k hk; simp only [List.mem_singleton] at hk; subst hk; exact h0
  | i + 1, _, _, _, _, ⟨k0, _, _, _, key, row, h1, h2, h3, _⟩ => bfs_isK hs h3 (Bfs.isK hs h0 h1 _ (List.mem_of_getElem? h2)) (Bfs.isK hs h0 h1)

theorem flat_ints : ∀ {keys : List Value}, (∀ k ∈ keys, IsK3 k) → keys.flatMap acells = keys
  | [], _ => rfl
  | k :: keys, h => by
    obtain ⟨s, rfl⟩ := h k (List.mem_cons_self ..)
    rw [List.flatMap_cons, flat_ints (fun k hk => h k (List.mem_cons_of_mem _ hk))]; rfl
theorem srch3_len {W : AW} {p m : Nat} {col : Nat → Nat} {keys lB lL lN : List Value} {nN : Nat} (h : Srch W p m 103 101 3 1 col keys lB lL lN nN) : ∃ a c, aLoadVar T0 W 65 p 1 = some (.slice a keys.length c) := by
  obtain ⟨c, hO, _⟩ := h.obj
  obtain ⟨_, v, hv, hG⟩ := hO.fld 1 _ rfl
  obtain ⟨a, c', rfl⟩ := hG.len
  exact ⟨a, c', hO.load und43 rfl (by omega) hv⟩
theorem srch3_key {W : AW} {p m : Nat} {col : Nat → Nat} {keys lB lL lN : List Value} {nN i : Nat} {key : Value} (h : Srch W p m 103 101 3 1 col keys lB lL lN nN) (hk : ∀ k ∈ keys, IsK3 k) (hi : keys[i]? = some key) :
    ∃ bs, aLoadVar T0 W 65 p 1 = some (.slice (some ⟨bs, 0, none⟩) keys.length 3) ∧ aIndexAddr T0 65 (.slice (some ⟨bs, 0, none⟩) keys.length 3) (.int .i64 (i : Nat)) = some (.pointer (some ⟨bs, i, none⟩)) ∧ aLoadVar T0 W 3 bs i = some key ∧ W.Has bs i key ∧ W.Has p 1 (.slice (some ⟨bs, 0, none⟩) keys.length 3) := by
  have hlt : i < keys.length := (List.getElem?_eq_some_iff.1 hi).1
  obtain ⟨c, hO, _⟩ := h.obj
  obtain ⟨_, v, hv, hG⟩ := hO.fld 1 _ rfl
  have hG2 : GrowsN W v keys.length (keys.flatMap acells) 3 1 (fun b => col b = 1 + 1) := hG
  rw [flat_ints hk] at hG2
  obtain ⟨bs, rfl, _, _, _, hh⟩ := hG2.has (by omega)
  have hx := indexAddr_slice (b := bs) (o := 0) (c := 2 * 1 + 1) (k := .i64) und43 sz3 hlt
  simp only [Nat.mul_one, Nat.zero_add] at hx
  refine ⟨bs, hO.load und43 rfl (by omega) hv, hx, ?_, hh i key hi, ⟨hO.lt p (by rw [hO.cp]; omega), ?_⟩⟩
  · rw [loadVar_cell und3 rfl]; exact (hh i key hi).2
  · simp only [AW.cell, hO.blk, blt_dec]; exact hv

theorem indexAddr_85 (r x : Nat) (hx : x < 4) : aIndexAddr T0 77 (.pointer (some ⟨r, 0, none⟩)) (.int .i64 (x : Nat)) = some (.pointer (some ⟨r, x, none⟩)) := by
  show aIndexAddr T0 77 (.pointer (some ⟨r, 0, none⟩)) (.int .i64 (Int.ofNat x)) = _
  simp only [aIndexAddr, und85, sz3, blt_dec, hx, decide_true, Nat.mul_one, Nat.zero_add]

theorem t85z : Try.t77.zero = some (.agg ⟨[.int .i64 0, .int .i64 0, .int .i64 0, .int .i64 0]⟩) := by kernel_rfl
theorem t85s : Try.t77.size = 4 := by kernel_rfl
theorem fill85 (a b c d : Value) : aFill (fun j => some (j * 4, 4)) (rep [.int .i64 0, .int .i64 0, .int .i64 0, .int .i64 0] 1) [(0, .agg ⟨[a, b, c, d]⟩)] = some [a, b, c, d] := by kernel_rfl
theorem four {l : List Value} (h : l.length = 4) : ∃ a b c d, l = [a, b, c, d] := by
  match l, h with
  | [a, b, c, d], _ => exact ⟨a, b, c, d, rfl⟩

theorem freshB_new (W : AW) (el : TypeId) (l : List Value) (h : listEq l l = true) : freshB (W.newCells el l) W.next el l = true := by
  simp only [freshB, newCells_get, if_pos, newCells_next, blt_dec, Nat.beq_refl, Nat.lt_succ_self, decide_true]
  rw [take_get (Tr.nil.lay 0 l) l.length 0 l rfl (fun j hj => by rw [Tr.get_lay, if_pos (by omega)]; simp)]
  exact h
theorem listEq_ints : ∀ {l : List Value}, (∀ v ∈ l, ∃ j : Nat, v = .int .i64 j) → listEq l l = true
  | [], _ => rfl
  | v :: l, h => by
    obtain ⟨j, rfl⟩ := h v (List.mem_cons_self ..)
    exact listEq_cons (valEq_int _ _) (listEq_ints (fun v hv => h v (List.mem_cons_of_mem _ hv)))
theorem load_ext {W W' : AW} {t : TypeId} {d : TypeDesc} {b o : Nat} {v : Value} (hd : T0.und.get t = some d) (ha : isAggD d = false) (h : W.Has b o v) (he : Ext W W') : aLoadVar T0 W' t b o = some v := by
  rw [loadVar_cell hd ha]; exact (h.ext he).2
theorem load85 {W : AW} {r : Nat} {c : Tr Value} {row : List Value} (h : W.blocks.get r = some ⟨.cells c 4 77, []⟩) (hc : ∀ y, y < 4 → c.get y = row[y]?) (hl : row.length = 4) : aLoadVar T0 W 77 r 0 = some (.agg ⟨row⟩) := by
  refine loadVar_agg und85 rfl inf85 (cellsAt_of_cells hl ⟨_, h⟩ (fun j hj => ?_) (by show 0 < 4; omega))
  have hj4 : j < 4 := hj
  simp only [AW.cell, h, blt_dec, Nat.zero_add, hj4, decide_true]
  exact hc j hj4

theorem all3_wp {isK : Value → Prop} (hK : ∀ v, isK v → IsK3 v) {L p m b1 b2 b3 l : Nat} {fs : FuncId} {first cap : List Value} {step : Value → Nat → Value} {start : Value} {M : Nat} {C D : Nat → List Value → List Value → List Value → List Value → (Nat → Nat) → AW → Prop}
    (h : Caller 72 51 isK L p b1 b2 b3 l fs first cap step start M (fun i keys lB lL lN col W => Srch W p m 103 101 3 1 col keys lB lL lN i) C D) {W : AW} {col : Nat → Nat}
    (hS : Srch W p m 103 101 3 1 col [start] [.int .i64 (-1)] [.int .u8 97] [] 0) (hC : C 0 [start] [.int .i64 (-1)] [.int .u8 97] [] col W) :
    WpF T0 51 [.func (.yield l) #[] #[], .pointer (some ⟨b1, 0, none⟩), .pointer (some ⟨b2, 0, none⟩), .pointer (some ⟨b3, 0, none⟩)] W (fun _ W' => ∃ keys lB lL lN col', (Bfs step L start keys.length keys lB lL lN ∧ Srch W' p m 103 101 3 1 col' keys lB lL lN keys.length ∧ C keys.length keys lB lL lN col' W') ∨ ∃ i, D i keys lB lL lN col' W') := by
  refine wpF fun47 rfl ?_
  refine wpK_reg (fun R hR => by simp; exact hR) ?_
  refine wpK_while1 (I := fun k A W => A.n = 60 ∧ A.defers = [] ∧ A.tmps.get 0 = some (.func (.yield l) #[] #[]) ∧ A.tmps.get 1 = some (.pointer (some ⟨b1, 0, none⟩)) ∧ A.tmps.get 2 = some (.pointer (some ⟨b2, 0, none⟩)) ∧ A.tmps.get 3 = some (.pointer (some ⟨b3, 0, none⟩)) ∧
      ∃ (i : Nat) (keys lB lL lN : List Value) (col : Nat → Nat), k = M + 1 - i ∧ i ≤ keys.length ∧ A.tmps.get 5 = some (.int .i64 i) ∧ Bfs step L start i keys lB lL lN ∧ Srch W p m 103 101 3 1 col keys lB lL lN i ∧ C i keys lB lL lN col W)
    (J := fun A W => A.defers = [] ∧ ∃ (keys lB lL lN : List Value) (col : Nat → Nat), Bfs step L start keys.length keys lB lL lN ∧ Srch W p m 103 101 3 1 col keys lB lL lN keys.length ∧ C keys.length keys lB lL lN col W)
    (Rt := fun A W => A.defers = [] ∧ ∃ (keys lB lL lN : List Value) (col : Nat → Nat) (i : Nat), D i keys lB lL lN col W) (k := M + 1) ?_ ?_ ?_ ?_
  · exact ⟨rfl, rfl, by simp, by simp, by simp, by simp, 0, _, _, _, _, col, by omega, by simp, by simp, ⟨rfl, rfl, rfl, rfl⟩, hS, hC⟩
  · rintro k ⟨t, n, ds⟩ W ⟨hn, hd, h0, h1, h2, h3, i, keys, lB, lL, lN, col, hk, hi, h5, hB, hS, hC⟩ Q' hJ hRt hI
    simp only at hn hd h0 h1 h2 h3 h5
    subst hn; subst hd
    have hM := h.hM
    have hL := h.hL
    obtain ⟨he1, he2, he3⟩ := h.env hC
    have hb1 : aLoadVar T0 W 72 b1 0 = some (.pointer (some ⟨p, 0, none⟩)) := by rw [loadVar_cell und73 rfl]; exact he1.2
    obtain ⟨sa, sc, hls⟩ := srch3_len hS
    have hkb := h.bound hB
    have hisK := hB.isK h.keyOk h.startOk
    try simp only [wpK_assoc]
    refine wpK_reg (fun R hR => by simp [h5, h1, hb1, opNilCheck, nilck, field81, hls]; exact hR) ?_
    by_cases hlt : i < keys.length
    case neg =>
      have : i = keys.length := by omega
      subst this
      exact wpK_out (by simp) (hJ _ _ ⟨rfl, keys, lB, lL, lN, col, hB, hS, hC⟩)
    refine wpK_onT (by simp [hlt]) ?_
    refine wpK_block ?_
    obtain ⟨key, hkey⟩ : ∃ key, keys[i]? = some key := ⟨keys[i], List.getElem?_eq_getElem hlt⟩
    obtain ⟨bs, hk1, hk2, hk3, _⟩ := srch3_key hS (fun k hk => hK k (hisK k hk)) hkey
    have hkeyK := hisK key (List.mem_of_getElem? hkey)
    obtain ⟨st, pd, fn, t', n', ps, asn, bd, df, kin, tt, hy1, hy2, hy3⟩ := h.yield hC hS hB hkey
    try simp only [wpK_assoc]
    refine wpK_regc (J := fun A' W' => A'.n = 60 ∧ A'.defers = [] ∧ A'.tmps.get 0 = some (.func (.yield l) #[] #[]) ∧ A'.tmps.get 1 = some (.pointer (some ⟨b1, 0, none⟩)) ∧ A'.tmps.get 2 = some (.pointer (some ⟨b2, 0, none⟩)) ∧ A'.tmps.get 3 = some (.pointer (some ⟨b3, 0, none⟩)) ∧ A'.tmps.get 5 = some (.int .i64 i) ∧
        ((A'.tmps.get 27 = some (.bool false) ∧ Only (fun b => col b = 0) W W' ∧ C (i + 1) keys lB lL lN col W') ∨ (A'.tmps.get 27 = some (.bool true) ∧ D i keys lB lL lN col W'))) (fun R hR => ?_) ?_
    · simp [h0, h5, h1, hb1, opNilCheck, nilck, field81, hk1, hk2, hk3, aEnter, hy1, hy2, aCallV, nextS_round]
      refine hy3.mono ?_
      rintro v W' (⟨rfl, g1, g2⟩ | ⟨rfl, g1⟩)
      · simp [opUnOp, aUn]
        apply hR
        exact ⟨rfl, rfl, by simp [h0], by simp [h1], by simp [h2], by simp [h3], by simp [h5], .inl ⟨by simp, g1, g2⟩⟩
      · simp [opUnOp, aUn]
        apply hR
        exact ⟨rfl, rfl, by simp [h0], by simp [h1], by simp [h2], by simp [h3], by simp [h5], .inr ⟨by simp, g1⟩⟩
    rintro ⟨t, n, ds⟩ W1 ⟨hn, hd, h0, h1, h2, h3, h5, hyy⟩
    simp only at hn hd h0 h1 h2 h3 h5 hyy
    subst hn; subst hd
    try simp only [wpK_assoc]
    rcases hyy with ⟨h27, hO1, hC1⟩ | ⟨h27, hD⟩
    case inr =>
      refine wpK_condT (by simp [h27]) ?_
      exact wpK_ret (hRt _ _ ⟨rfl, keys, lB, lL, lN, col, i, hD⟩)
    refine wpK_onF (by simp [h27]) ?_
    have hS1 : Srch W1 p m 103 101 3 1 col keys lB lL lN i := hS.only hO1 (fun b _ hc hx => hc hx)
    -- the row
    obtain ⟨W2, hW2⟩ : ∃ W2, aStoreVar T0 (W1.newCells 77 [.int .i64 0, .int .i64 0, .int .i64 0, .int .i64 0]) 77 W1.next 0 (.agg ⟨[.int .i64 0, .int .i64 0, .int .i64 0, .int .i64 0]⟩) = some W2 ∧ W2.next = W1.next + 1 ∧ (∀ x, x ≠ W1.next → W2.blocks.get x = W1.blocks.get x) ∧ ∃ c, W2.blocks.get W1.next = some ⟨.cells c 4 77, []⟩ ∧ ∀ y, y < 4 → c.get y = (List.replicate 4 (Value.int .i64 0))[y]? := by
      obtain ⟨W2, s1, s2, s3, s4⟩ := storeVar_own (T := T0) (t := 77) (W := W1.newCells 77 [.int .i64 0, .int .i64 0, .int .i64 0, .int .i64 0]) (v := .agg ⟨[.int .i64 0, .int .i64 0, .int .i64 0, .int .i64 0]⟩) (b := W1.next) (o := 0) inf85 rfl (by rw [newCells_get, if_pos rfl]) (by show 0 + 4 ≤ 4; omega) rfl
      refine ⟨W2, s1, s2, fun x hx => by rw [s3 x hx, newCells_get, if_neg hx], _, s4, fun y hy => ?_⟩
      rw [Tr.get_lay]
      match y, hy with
      | 0, _ => rfl
      | 1, _ => rfl
      | 2, _ => rfl
      | 3, _ => rfl
    obtain ⟨hW2a, hW2n, hW2o, cr, hW2r, hW2c⟩ := hW2
    try simp only [wpK_assoc]
    refine wpK_reg (fun R hR => by simp [opBuild, aParts, build85, opAlloc, zero85, opStore, hW2a]; exact hR) ?_
    have hO2 : Only (fun b => col b = 0) W W2 := hO1.trans ⟨by omega, fun b hb _ => hW2o b (by omega)⟩
    have hE12 : Ext W1 W2 := ⟨by omega, fun b hb _ => hW2o b (by omega)⟩
    have hcr : col W1.next = 0 := by
      cases hc : col W1.next with
      | zero => rfl
      | succ x => exact absurd (hS1.lt (b := W1.next) (by omega)) (by omega)
    have hS2 : Srch W2 p m 103 101 3 1 (fun b => if b = W1.next then 8 else col b) keys lB lL lN i := (hS1.only (K := fun _ => False) hE12 (fun _ _ _ x => x)).paint (by omega) hcr
    have hC2 : C (i + 1) keys lB lL lN (fun b => if b = W1.next then 8 else col b) W2 := h.stab hC1 (List.prefix_refl _) (List.prefix_refl _) (List.prefix_refl _) (List.prefix_refl _) (hE12.mono (fun _ _ x => x.elim)) (fun b hb hc => by rw [if_neg (by omega)]; exact hc) (fun b hb hc => by rw [if_neg (by omega)]; exact hc)
    have hc8 : (fun b => if b = W1.next then 8 else col b) W1.next = 8 := by simp
    generalize (fun b => if b = W1.next then 8 else col b) = col2 at hS2 hC2 hc8
    generalize hr6 : W1.next = r6 at hW2r hW2n hc8
    have hr6l : r6 < W2.next := by omega
    clear hO1 hC1 hS1 hE12 hO2 hW2a hW2o hcr hy1 hy2 hy3 hk1 hk2 hk3 hls he1 he2 he3 hb1
    obtain ⟨he1, he2, he3⟩ := h.env hC2
    have hb2 : aLoadVar T0 W2 3 b2 0 = some (.int .i64 L) := by rw [loadVar_cell und3 rfl]; exact he2.2
    try simp only [wpK_assoc]
    refine wpK_reg (fun R hR => by simp [h2, hb2]; exact hR) ?_
    clear he1 he2 he3 hb2
    refine wpK_while (I := fun k A W => A.n = 60 ∧ A.defers = [] ∧ A.tmps.get 0 = some (.func (.yield l) #[] #[]) ∧ A.tmps.get 1 = some (.pointer (some ⟨b1, 0, none⟩)) ∧ A.tmps.get 2 = some (.pointer (some ⟨b2, 0, none⟩)) ∧ A.tmps.get 3 = some (.pointer (some ⟨b3, 0, none⟩)) ∧
        A.tmps.get 5 = some (.int .i64 i) ∧ A.tmps.get 6 = some (.pointer (some ⟨r6, 0, none⟩)) ∧ A.tmps.get 29 = some (.int .i64 L) ∧
        ∃ (x : Nat) (row keys' lB' lL' : List Value) (col : Nat → Nat), k = L - x ∧ x ≤ L ∧ A.tmps.get 30 = some (.int .i64 x) ∧ RowI step key i x keys lB lL row keys' lB' lL' ∧ Srch W p m 103 101 3 1 col keys' lB' lL' lN i ∧ C (i + 1) keys' lB' lL' lN col W ∧ col r6 = 8 ∧ r6 < W.next ∧
          ∃ c, W.blocks.get r6 = some ⟨.cells c 4 77, []⟩ ∧ ∀ y, y < 4 → c.get y = row[y]?)
      (J := fun A W => A.n = 60 ∧ A.defers = [] ∧ A.tmps.get 0 = some (.func (.yield l) #[] #[]) ∧ A.tmps.get 1 = some (.pointer (some ⟨b1, 0, none⟩)) ∧ A.tmps.get 2 = some (.pointer (some ⟨b2, 0, none⟩)) ∧ A.tmps.get 3 = some (.pointer (some ⟨b3, 0, none⟩)) ∧
        A.tmps.get 5 = some (.int .i64 i) ∧ A.tmps.get 6 = some (.pointer (some ⟨r6, 0, none⟩)) ∧
        ∃ (row keys' lB' lL' : List Value) (col : Nat → Nat), RowI step key i L keys lB lL row keys' lB' lL' ∧ Srch W p m 103 101 3 1 col keys' lB' lL' lN i ∧ C (i + 1) keys' lB' lL' lN col W ∧ col r6 = 8 ∧ r6 < W.next ∧
          ∃ c, W.blocks.get r6 = some ⟨.cells c 4 77, []⟩ ∧ ∀ y, y < 4 → c.get y = row[y]?)
      (Rt := fun _ _ => False) (k := L) ?_ ?_ ?_ ?_
    · exact ⟨rfl, rfl, by simp [h0], by simp [h1], by simp [h2], by simp [h3], by simp [h5], by simp, by simp, 0, _, keys, lB, lL, col2, by omega, by omega, by simp, ⟨rfl, rfl, rfl, rfl⟩, hS2, hC2, hc8, hr6l, cr, hW2r, hW2c⟩
    · rintro k' ⟨t, n, ds⟩ W ⟨hn, hd, h0, h1, h2, h3, h5, h6, h29, x, row, keys', lB', lL', col, hk', hx, h30, hRow, hS, hC, hc8, hrl, c, hcr, hcc⟩ Q'' hJ' hRt' hI'
      simp only at hn hd h0 h1 h2 h3 h5 h6 h29 h30
      subst hn; subst hd
      try simp only [wpK_assoc]
      refine wpK_reg (fun R hR => by simp [h29, h30]; exact hR) ?_
      by_cases hxL : x < L
      case neg =>
        have : x = L := by omega
        subst this
        exact wpK_out (by simp) (hJ' _ _ ⟨rfl, rfl, by simp [h0], by simp [h1], by simp [h2], by simp [h3], by simp [h5], by simp [h6], row, keys', lB', lL', col, hRow, hS, hC, hc8, hrl, c, hcr, hcc⟩)
      refine wpK_onT (by simp [hxL]) ?_
      refine wpK_block ?_
      try simp only [wpK_assoc]
      refine wpK_reg (fun R hR => by simp [h30]; exact hR) ?_
      obtain ⟨he1, he2, he3⟩ := h.env hC
      have hb1 : ∀ W', Ext W W' → aLoadVar T0 W' 72 b1 0 = some (.pointer (some ⟨p, 0, none⟩)) := fun W' hE => by rw [loadVar_cell und73 rfl]; exact (he1.ext hE).2
      have hb3 : ∀ W', Ext W W' → aLoadVar T0 W' 78 b3 0 = some (.func (.func fs) ⟨first⟩ ⟨cap⟩) := fun W' hE => by rw [loadVar_cell und78 rfl]; exact (he3.ext hE).2
      have hgr := hRow.grows
      have hisK' : ∀ k ∈ keys', IsK3 k := fun k hk => hK k (bfs_isK h.keyOk hRow hkeyK hisK k hk)
      have hkey' : keys'[i]? = some key := by
        obtain ⟨r, rfl⟩ := hgr.1
        rw [List.getElem?_append_left hlt]; exact hkey
      obtain ⟨bs, hk1, hk2, hk3, hk4, hk5⟩ := srch3_key hS hisK' hkey'
      obtain ⟨fsf, hfs⟩ := h.fsOk
      have hkv : valEq key key = true := by obtain ⟨s0, rfl⟩ := hK _ hkeyK; exact valEq_int _ _
      have hlen' := h.rbound hB hkey (Nat.le_of_lt hxL) hRow
      obtain ⟨s', hs'⟩ := hK _ (h.keyOk (x := x) hkeyK)
      try simp only [wpK_assoc]
      refine wpK_dr1 (wr := Tr.nil |>.set 33 0 |>.set 34 1 |>.set 35 2 |>.set 36 3 |>.set 37 4 |>.set 38 5 |>.set 39 6 |>.set 40 7 |>.set 41 8 |>.set 42 9 |>.set 43 10 |>.set 44 11 |>.set 45 12 |>.set 46 13 |>.set 47 14 |>.set 48 15) (bits := Tr.nil.lay 0 [0, 0, 0, 0, 8, 24, 56, 0, 248, 504, 0, 2044, 0, 0, 16382, 32767, 65535]) (ord := [0, 1, 2, 3, 4, 5, 6, 7, 8, 9, 10, 11, 12, 13, 14, 15, 16])
        (J := fun A W => A.n = 60 ∧ A.defers = [] ∧ A.tmps.get 0 = some (.func (.yield l) #[] #[]) ∧ A.tmps.get 1 = some (.pointer (some ⟨b1, 0, none⟩)) ∧ A.tmps.get 2 = some (.pointer (some ⟨b2, 0, none⟩)) ∧ A.tmps.get 3 = some (.pointer (some ⟨b3, 0, none⟩)) ∧
          A.tmps.get 5 = some (.int .i64 i) ∧ A.tmps.get 6 = some (.pointer (some ⟨r6, 0, none⟩)) ∧ A.tmps.get 29 = some (.int .i64 L) ∧ A.tmps.get 30 = some (.int .i64 x) ∧
          ∃ (row keys' lB' lL' : List Value) (col : Nat → Nat), RowI step key i (x + 1) keys lB lL row keys' lB' lL' ∧ Srch W p m 103 101 3 1 col keys' lB' lL' lN i ∧ C (i + 1) keys' lB' lL' lN col W ∧ col r6 = 8 ∧ r6 < W.next ∧
            ∃ c, W.blocks.get r6 = some ⟨.cells c 4 77, []⟩ ∧ ∀ y, y < 4 → c.get y = row[y]?)
        (by kernel_rfl) (by kernel_rfl) (by kernel_rfl) (fun G hG => ?_) ?_
      · simp [h0, h1, h2, h3, h5, h6, h30, hb1 W (.refl _ _), hb3 W (.refl _ _), opNilCheck, nilck, field81, hk1, hk2, hk3, aEnter, hfs, aCallV, short_other h.fsNo]
        rw [dcallS_none]
        refine (h.stepOk hC (List.mem_of_getElem? hkey') hkeyK hxL).mono ?_
        rintro v W3 ⟨hE3, rfl⟩
        rw [hs']
        simp [h0, h1, h2, h3, h5, h6, h30, hb1 W (.refl _ _), hb3 W (.refl _ _), hb1 W3 hE3, hb3 W3 hE3, hE3.1, opNilCheck, nilck, field81, hk1, hk2, hk3, aEnter, fun46, aCallV, short_other]
        rw [dcallS_none]
        refine (find3_wp (hS.only (K := fun _ => False) hE3 (fun _ _ _ y => y)) (by omega) s' i x (by omega)).mono ?_
        rintro v W4 ⟨col', keys2, lB2, lL2, j, rfl, hF, hO4, hcol4, hS4⟩
        have hr4 : W4.blocks.get r6 = some ⟨.cells c 4 77, []⟩ := by rw [hO4.2 r6 (by have := hE3.1; omega) (fun y => y.2 hc8), hE3.2 r6 hrl (fun y => y)]; exact hcr
        have hC4 : C (i + 1) keys2 lB2 lL2 lN col' W4 := h.stab hC hF.grows.1 hF.grows.2.1 hF.grows.2.2 (List.prefix_refl _) ⟨by have := hE3.1; have := hO4.1; omega, fun b hb hc => by rw [hO4.2 b (by have := hE3.1; omega) (fun y => hc y.1), hE3.2 b hb (fun y => y)]⟩ (fun b hb hc => by rw [hcol4 b (by have := hE3.1; omega)]; exact hc) (fun b hb hc => by rw [hcol4 b (by have := hE3.1; omega)]; exact hc)
        have hc84 : col' r6 = 8 := by rw [hcol4 r6 (by have := hE3.1; omega)]; exact hc8
        have he4 := h.env hC4
        obtain ⟨W5, s1, s2, s3, s4⟩ := storeVar_own (T := T0) (t := 3) (W := W4) (v := .int .i64 (j : Nat)) (b := r6) (o := x) inf3 rfl hr4 (by show x + 1 ≤ 4; omega) rfl
        have hb14 : aLoadVar T0 W4 72 b1 0 = some (.pointer (some ⟨p, 0, none⟩)) := by rw [loadVar_cell und73 rfl]; exact he4.1.2
        have hb34 : aLoadVar T0 W4 78 b3 0 = some (.func (.func fs) ⟨first⟩ ⟨cap⟩) := by rw [loadVar_cell und78 rfl]; exact he4.2.2.2
        simp [h0, h1, h2, h3, h5, h6, h30, hb1 W (.refl _ _), hb3 W (.refl _ _), hb1 W3 hE3, hb3 W3 hE3, hb14, hb34, hE3.1, hO4.1, s2, h.fcOk.1, h.fcOk.2, hkv, opNilCheck, nilck, field81, hk1, hk2, hk3, indexAddr_85 r6 x (by omega), opStore, s1]
        apply hG
        have hO5 : Only (fun b => b = r6) W4 W5 := ⟨by omega, fun b _ hb => s3 b hb⟩
        refine ⟨rfl, rfl, by simp [h0], by simp [h1], by simp [h2], by simp [h3], by simp [h5], by simp [h6], by simp [h29], by simp [h30], row.set x (.int .i64 (j : Nat)), keys2, lB2, lL2, col', ⟨row, keys', lB', lL', j, hRow, by rw [hs']; exact hF, rfl⟩, hS4.only8 hO5 (fun b _ _ h8 e => h8 (by rw [e]; exact hc84)), ?_, hc84, by have := hE3.1; have := hO4.1; omega, _, s4, fun y hy => ?_⟩
        · exact h.stab hC4 (List.prefix_refl _) (List.prefix_refl _) (List.prefix_refl _) (List.prefix_refl _) (hO5.mono (fun b _ e => by rw [e, hc84]; omega)) (fun _ _ hc => hc) (fun _ _ hc => hc)
        · have hrl := hRow.len
          rw [show acells (Value.int .i64 (j : Nat)) = [Value.int .i64 (j : Nat)] from rfl]
          show (Tr.set c x (.int .i64 (j : Nat))).get y = _
          rw [Tr.get_set]
          by_cases e : y = x
          · rw [if_pos e, e, List.getElem?_set_self (by omega)]
          · rw [if_neg e, List.getElem?_set_ne (by omega)]; exact hcc y hy
      · rintro ⟨t, n, ds⟩ W' ⟨hn, hd, h0, h1, h2, h3, h5, h6, h29, h30, row', keys2, lB2, lL2, col', hRow', hS', hC', hc8', hrl', c', hcr', hcc'⟩
        simp only at hn hd h0 h1 h2 h3 h5 h6 h29 h30
        subst hn; subst hd
        have hw := i64_succ x (by omega)
        refine wpK_reg1 (fun R hR => by simp [h30]; exact hR) ?_
        refine hI' (L - (x + 1)) _ _ (by omega) ⟨rfl, rfl, by simp [h0], by simp [h1], by simp [h2], by simp [h3], by simp [h5], by simp [h6], by simp [h29], x + 1, row', keys2, lB2, lL2, col', rfl, by omega, by simp [hw], hRow', hS', hC', hc8', hrl', c', hcr', hcc'⟩
    · rintro A' W' hf; exact hf.elim
    · rintro ⟨t, n, ds⟩ W3 ⟨hn, hd, h0, h1, h2, h3, h5, h6, row, keys', lB', lL', col3, hRow, hS3, hC3, hc83, hrl3, c3, hcr3, hcc3⟩
      simp only at hn hd h0 h1 h2 h3 h5 h6
      subst hn; subst hd
      have hrow4 := hRow.len
      have hrowI := hRow.ints (by omega)
      have hone := oneCells_ints (l := row) (fun v hv => let ⟨j, _, hj⟩ := hrowI v hv; ⟨j, hj⟩)
      obtain ⟨v, w, W4, W5, col', r0, r1, r2, r3, r4, r45, r5, r6', r7, r8⟩ := hS3.row hrow4 hone (by omega)
      obtain ⟨he1, he2, he3⟩ := h.env hC3
      have hC4 : C (i + 1) keys' lB' lL' lN col3 W4 := h.stab hC3 (List.prefix_refl _) (List.prefix_refl _) (List.prefix_refl _) (List.prefix_refl _) (r5.mono (fun _ _ x => x.1)) (fun _ _ x => x) (fun _ _ x => x)
      have hb1 : aLoadVar T0 W3 72 b1 0 = some (.pointer (some ⟨p, 0, none⟩)) := by rw [loadVar_cell und73 rfl]; exact he1.2
      have hb14 : aLoadVar T0 W4 72 b1 0 = some (.pointer (some ⟨p, 0, none⟩)) := by rw [loadVar_cell und73 rfl]; exact (h.env hC4).1.2
      have hld := load85 hcr3 hcc3 hrow4
      have hE35 : Ext W3 (W3.newCells 77 row) := .newCells _ _ _
      have hld5 : aLoadVar T0 (W3.newCells 77 row) 77 r6 0 = some (.agg ⟨row⟩) := load85 (by rw [newCells_get, if_neg (by omega)]; exact hcr3) hcc3 hrow4
      have hb15 := load_ext und73 rfl he1 hE35
      have hv5 := load_ext und55 rfl r0.1 hE35
      have hfr := freshB_new W3 77 row (listEq_ints (fun v hv => let ⟨j, _, hj⟩ := hrowI v hv; ⟨j, hj⟩))
      have hrr : listEq row row = true := listEq_ints (fun v hv => let ⟨j, _, hj⟩ := hrowI v hv; ⟨j, hj⟩)
      obtain ⟨av, cv, hve⟩ := r0.2
      have hvv : valEq v v = true := by rw [hve]; exact valEq_slice _ _ _
      have hraa : valEq (.agg ⟨row⟩) (.agg ⟨row⟩) = true := by simp only [valEq, arrEq, hrr]
      have hn4 : (W3.newCells 77 row).next ≤ W4.next := by rw [newCells_next]; omega
      have hn5 : W4.next ≤ W5.next := by omega
      obtain ⟨va, vb, vc, vd, rfl⟩ := four hrow4
      refine wpK_dr1 (wr := Tr.nil |>.set 50 0 |>.set 51 1 |>.set 52 2 |>.set 53 3 |>.set 54 4 |>.set 55 5 |>.set 56 6 |>.set 57 7 |>.set 58 8 |>.set 59 9) (bits := Tr.nil.lay 0 [0, 0, 2, 6, 14, 0, 32, 126, 255, 511, 1023]) (ord := [0, 1, 2, 3, 4, 5, 6, 7, 8, 9, 10])
        (J := fun A W => A.n = 60 ∧ A.defers = [] ∧ A.tmps.get 0 = some (.func (.yield l) #[] #[]) ∧ A.tmps.get 1 = some (.pointer (some ⟨b1, 0, none⟩)) ∧ A.tmps.get 2 = some (.pointer (some ⟨b2, 0, none⟩)) ∧ A.tmps.get 3 = some (.pointer (some ⟨b3, 0, none⟩)) ∧
          A.tmps.get 5 = some (.int .i64 i) ∧ W = W5)
        (by kernel_rfl) (by kernel_rfl) (by kernel_rfl) (fun G hG => ?_) ?_
      · simp [h0, h1, h2, h3, h5, h6, hb1, hb14, hb15, hv5, hld5, hfr, hvv, hraa, hn4, hn5, opNilCheck, nilck, field81, r1, hld, aFlt, aParts, und55, inf85, t85z, t85s, fill85, AFlt.val, r2, opStore, r3]
        refine ⟨by simpa [listEq] using hrr, ?_⟩
        apply hG
        exact ⟨rfl, rfl, by simp [h0], by simp [h1], by simp [h2], by simp [h3], by simp [h5], rfl⟩
      · rintro ⟨t, n, ds⟩ W ⟨hn, hd, h0, h1, h2, h3, h5, rfl⟩
        simp only at hn hd h0 h1 h2 h3 h5
        subst hn; subst hd
        have hw := i64_succ i (by omega)
        refine wpK_reg1 (fun R hR => by simp [h5]; exact hR) ?_
        refine hI (M + 1 - (i + 1)) _ _ (by omega) ⟨rfl, rfl, by simp [h0], by simp [h1], by simp [h2], by simp [h3], i + 1, keys', lB', lL', _, col', rfl, by have := hRow.grows.1.length_le; omega, by simp [hw], ⟨keys, lB, lL, lN, key, _, hB, hkey, hRow, rfl⟩, r8, ?_⟩
        exact h.stab hC3 (List.prefix_refl _) (List.prefix_refl _) (List.prefix_refl _) (List.prefix_append _ _) r6' (fun b hb hc => by rw [r7 b hb]; exact hc) (fun b hb hc => by rw [r7 b hb]; exact hc)
  · rintro ⟨t, n, ds⟩ W' ⟨hd, keys, lB, lL, lN, col, i, hD⟩
    simp only at hd
    subst hd
    exact ⟨.inr rfl, rfl, [], rfl, keys, lB, lL, lN, col, .inr ⟨i, hD⟩⟩
  · rintro ⟨t, n, ds⟩ W' ⟨hd, keys, lB, lL, lN, col, hB, hS, hC⟩
    simp only at hd
    subst hd
    exact ⟨.inl rfl, rfl, [], rfl, keys, lB, lL, lN, col, .inl ⟨hB, hS, hC⟩⟩
end Go.Proofs.Ytnnfobmfffbhaaa

open Go Go.Eng
namespace Go.Proofs.Ytnnfobmfffbhaaa
attribute [local congr] undef_congr WpK.congr WpS.congr WpL.congr WpC.congr WpF.congr gotS.congr callS.congr nextS.congr wantS.congr condS.congr
attribute [local irreducible] WpK
attribute [local simp] WpDr_nil WpDr_cons atS_some dwantS_true dwantS_false kindS_light kindS_float kindS_heavy lightS_value floatS_some heavyS_value heavyS_skip heavyS_enter dcallS_some doneS_eq
  isLight isFloat isPlain dLook testBit_dec dChain dLights_nil dLights_skip dLights_one dLight_nil dLight_cons dFreshes_nil dFreshes_one oneF_none oneF_some dFresh_nil dFresh_cons oneL_some oneW_true oneW_false sameV_value dPut dMay valEq arrEq listEq List.getElem?_cons Tr.get_nil dEnd
attribute [local simp] WpS_nil WpS_cons isDefer undef_false wantS_true wantS_false nextS_value nextS_skip nextS_enter callS_some gotS_some aWanted aOp aEvalF aEval opMove opAssign opPick aVal flat flat1 AAct.put opBinOp opConvert opIndex Tr.get_set Tr.get_lay aBin aResults tupled
  aCall aVals aCallB blt_dec ble_dec beq_dec aBinI_add aBinI_sub aBinI_lss aBinI_leq aBinI_gtr aBinI_geq aBinI_eql aBinI_neq index_str len_str len_slice Nat.beq_refl und3 und37 und5 und9
  opBox opLoad opFieldAddr opIndexAddr acells aAddr field25 und22 und23 und43 und4 und28
attribute [local simp] field31 conv_3_5 conv_3_37 conv_37_3 conv_5_3
set_option maxHeartbeats 4000000
theorem fun48 : T0.funcs.get 70 = some Try.f70 := by kernel_rfl
theorem fun49 : T0.funcs.get 71 = some Try.f71 := by kernel_rfl
theorem fun34 : T0.funcs.get 59 = some Try.f59 := by kernel_rfl
theorem fun50 : T0.funcs.get 72 = some Try.f72 := by kernel_rfl
theorem und109 : T0.und.get 140 = some (.map 119 3) := by kernel_rfl
theorem und82 : T0.und.get 117 = some (.pointer 143) := by kernel_rfl
theorem und84 : T0.und.get 119 = some (.array 2 3) := by kernel_rfl
theorem und110 : T0.und.get 141 = some (.slice 119) := by kernel_rfl
theorem inf84 : T0.info.get 119 = some Try.t119 := by kernel_rfl
theorem inf110 : T0.info.get 141 = some Try.t141 := by kernel_rfl
theorem sz84 : aSize T0 119 = some 2 := by kernel_rfl
theorem t84z : Try.t119.zero = some (.agg ⟨[.int .i64 0, .int .i64 0]⟩) := by kernel_rfl
theorem t84s : Try.t119.size = 2 := by kernel_rfl
theorem fill84 (a b : Value) : aFill (fun j => some (j * 2, 2)) (rep [.int .i64 0, .int .i64 0] 1) [(0, .agg ⟨[a, b]⟩)] = some [a, b] := by kernel_rfl
theorem field112 (b o f : Nat) (hf : f < 5) : aField T0 143 (.pointer (some ⟨b, o, none⟩)) f = some (.pointer (some ⟨b, o + f, none⟩)) := by
  match f, hf with
  | 0, _ => rfl
  | 1, _ => rfl
  | 2, _ => rfl
  | 3, _ => rfl
  | 4, _ => rfl
theorem build112 (m : Option Nat) : aBuild T0 143 [(0, .map m)] = some (.agg ⟨[.map m, .slice none 0 0, .slice none 0 0, .slice none 0 0, .slice none 0 0]⟩) := by kernel_rfl
/-- a pair of numbers -/
def pr (a b : Int) : Value := .agg ⟨[.int .i64 a, .int .i64 b]⟩
def IsK84 (v : Value) : Prop := ∃ a b : Int, v = pr a b
theorem key84_self (a b : Int) : keyEq (pr a b) (pr a b) = true := by
  cases a <;> cases b <;> simp [pr, keyEq, keysEq, key1Eq]
theorem keyOk84 (a b : Int) : keyOk T0 119 (pr a b) = true := by kernel_rfl
theorem load84 {W : AW} {r o : Nat} {x y : Value} (h0 : W.Has r o x) (h1 : W.Has r (o + 1) y) : aLoadVar T0 W 119 r o = some (.agg ⟨[x, y]⟩) := by
  refine loadVar_agg und84 rfl inf84 (cellsAt_of_cells rfl ?_ (fun j hj => ?_) (by show 0 < 2; omega))
  · have := h0.2
    simp only [AW.cell] at this
    cases hb : W.blocks.get r with
    | none => rw [hb] at this; cases this
    | some k => exact ⟨k, rfl⟩
  · have hj2 : j < 2 := hj
    match j, hj2 with
    | 0, _ => exact h0.2
    | 1, _ => exact h1.2
theorem valEq_pr (a b : Int) : valEq (pr a b) (pr a b) = true := by simp [pr, valEq, arrEq, listEq]

/-- a search that has found nothing -/
theorem newSearch84_wp (W : AW) : WpF T0 70 [] W (fun v W' => v = .pointer (some ⟨W.next + 1, 0, none⟩) ∧ Ext W W' ∧ W'.next = W.next + 2 ∧
    Srch W' (W.next + 1) W.next 143 140 119 2 (fun b => if b = W.next + 1 then 6 else if b = W.next then 7 else 0) [] [] [] [] 0) := by
  refine wpF fun48 rfl ?_
  refine wpK_reg (fun R hR => by simp; exact hR) ?_
  refine wpK_reg (fun R hR => by simp [opMakeMap, aMakeMap, aOpt, aValW, opBuild, aParts, build112]; exact hR) ?_
  refine wpK_ret ⟨.inr rfl, rfl, [.pointer (some ⟨W.next + 1, 0, none⟩)], by simp [AW.new], by simp [AW.new], ?_, rfl, ?_⟩
  · refine ⟨by simp [AW.new, AW.newCells]; omega, fun b hb _ => ?_⟩
    rw [newCells_get, if_neg (by simp [AW.new]; omega)]
    simp only [AW.new, Tr.get_set]
    rw [if_neg (by omega)]
  · have hg1 : ((W.new (.map [] 0)).newCells 143 [.map (some W.next), .slice none 0 0, .slice none 0 0, .slice none 0 0, .slice none 0 0]).blocks.get (W.next + 1) = some ⟨.cells (Tr.nil.lay 0 [.map (some W.next), .slice none 0 0, .slice none 0 0, .slice none 0 0, .slice none 0 0]) 5 143, []⟩ := by
      rw [newCells_get, if_pos (by simp [AW.new])]; rfl
    have hg0 : ((W.new (.map [] 0)).newCells 143 [.map (some W.next), .slice none 0 0, .slice none 0 0, .slice none 0 0, .slice none 0 0]).blocks.get W.next = some ⟨.map [] 0, []⟩ := by
      rw [newCells_get, if_neg (by simp [AW.new])]
      simp only [AW.new, Tr.get_set, if_true]
    refine ⟨⟨_, ⟨hg1, fun o fl hf => ?_, by simp, fun b hb => ?_⟩, by rw [Tr.get_lay]; rfl⟩, ?_, ⟨[], 0, hg0, rfl, fun i e h => by simp at h⟩, fun k hk => by cases hk⟩
    · match o, hf with
      | 1, hf => simp only [srchF, Option.some.injEq] at hf; subst hf; exact ⟨by omega, .slice none 0 0, by rw [Tr.get_lay]; rfl, .nil _ _ _ _⟩
      | 2, hf => simp only [srchF, Option.some.injEq] at hf; subst hf; exact ⟨by omega, .slice none 0 0, by rw [Tr.get_lay]; rfl, .nil _ _ _ _⟩
      | 3, hf => simp only [srchF, Option.some.injEq] at hf; subst hf; exact ⟨by omega, .slice none 0 0, by rw [Tr.get_lay]; rfl, .nil _ _ _ _⟩
      | 4, hf => simp only [srchF, Option.some.injEq] at hf; subst hf; exact ⟨by omega, .slice none 0 0, by rw [Tr.get_lay]; rfl, .nil _ _ _ _⟩
    · show b < W.next + 2
      have hb : (if b = W.next + 1 then 6 else if b = W.next then 7 else 0) ≠ 0 := hb
      split at hb
      · omega
      · split at hb
        · omega
        · exact absurd rfl hb
    · simp

theorem find84_wp {W : AW} {p m : Nat} {col : Nat → Nat} {keys lB lL lN : List Value} {nN : Nat} (h : Srch W p m 143 140 119 2 col keys lB lL lN nN) (hlen : keys.length < 10000) (a b : Int) (bf : Int) (x : Nat) (hx : x < 4) :
    WpF T0 71 [.pointer (some ⟨p, 0, none⟩), pr a b, .int .i64 bf, .int .i64 x] W (fun v W' => ∃ col' keys' lB' lL' i, v = .int .i64 (i : Nat) ∧ Found keys lB lL (pr a b) bf (97 + x) keys' lB' lL' i ∧
      Only (fun b => col b ≠ 0 ∧ col b ≠ 8) W W' ∧ (∀ b, b < W.next → col' b = col b) ∧ Srch W' p m 143 140 119 2 col' keys' lB' lL' lN nN) := by
  refine wpF fun49 rfl ?_
  refine wpK_reg (fun R hR => by simp [pr]; exact hR) ?_
  -- the box of the key
  have hE : Ext W (W.newCells 119 [.int .i64 a, .int .i64 b]) := .newCells _ _ _
  have hk0 : (W.newCells 119 [.int .i64 a, .int .i64 b]).Has W.next 0 (.int .i64 a) := Has.newCells rfl
  have hk1 : (W.newCells 119 [.int .i64 a, .int .i64 b]).Has W.next 1 (.int .i64 b) := Has.newCells rfl
  have hnx : (W.newCells 119 [.int .i64 a, .int .i64 b]).next = W.next + 1 := rfl
  generalize W.newCells 119 [.int .i64 a, .int .i64 b] = W0 at hE hk0 hk1 hnx
  have h' := h.only (K := fun _ => False) hE (fun _ _ _ y => y)
  have hcb : col W.next = 0 := by
    cases hc : col W.next with
    | zero => rfl
    | succ y => exact absurd (h.lt (b := W.next) (by omega)) (by omega)
  obtain ⟨c, hO, hc0⟩ := h'.obj
  obtain ⟨es, ck, hm1, hm2, hm3⟩ := h'.map
  have hes : ∀ e ∈ es, keyOk T0 119 e.1 = true := fun e he => h'.key e.1 (by rw [← hm2]; exact List.mem_map_of_mem he)
  have hko : keyOk T0 119 (pr a b) = true := keyOk84 a b
  have hl0 : aLoadVar T0 W0 140 p 0 = some (.map (some m)) := hO.load und109 rfl (by omega) hc0
  have hlk5 : aLoadVar T0 W0 119 W.next 0 = some (pr a b) := load84 hk0 hk1
  by_cases hin : ∃ k ∈ keys, keyEq (pr a b) k = true
  · -- it is there
    have hin2 : ∃ e ∈ es, keyEq (pr a b) e.1 = true := by
      obtain ⟨k, hk, hk2⟩ := hin
      rw [← hm2] at hk
      obtain ⟨e, he, rfl⟩ := List.mem_map.1 hk
      exact ⟨e, he, hk2⟩
    obtain ⟨j, e, hf, hj, hje⟩ := aFind_some (T := T0) (i := 0) hes hin2
    have hjl : j < es.length := (List.getElem?_eq_some_iff.1 hj).1
    have hel : es.length = keys.length := by rw [← hm2, List.length_map]
    have hv := hm3 j e hj
    have hlk : aLookup T0 W0 140 (.map (some m)) (pr a b) true = some (.tuple ⟨[.int .i64 (j : Nat), .bool true]⟩) := by
      simp only [aLookup, und109, hko, aEntries, hm1, hf, hv, aOkd]
    try simp only [wpK_assoc]
    refine wpK_dr (wr := Tr.nil |>.set 13 0 |>.set 14 1 |>.set 15 2 |>.set 16 3 |>.set 17 4 |>.set 18 5 |>.set 12 6 |>.set 19 7 |>.set 20 8 |>.set 9 9 |>.set 10 10) (bits := Tr.nil.lay 0 [0, 1, 3, 7, 0, 31, 63, 127, 127, 255, 1023]) (ord := [0, 1, 2, 3, 4, 5, 6, 7, 8, 9, 10])
      (J := fun A W' => A.n = 67 ∧ A.defers = [] ∧ A.tmps.get 9 = some (.int .i64 (j : Nat)) ∧ A.tmps.get 10 = some (.bool true) ∧ W' = W0) (by kernel_rfl) (by kernel_rfl) (by kernel_rfl) (fun G hG => ?_) ?_
    · simp [opNilCheck, nilck, field112, hl0, hlk5, valEq_pr, opLookup, hlk, opExtract, aExtract]
      apply hG
      exact ⟨rfl, rfl, by simp, by simp, rfl⟩
    rintro ⟨t, n, ds⟩ W1 ⟨hn, hd, h9, h10, rfl⟩
    simp only at hn hd h9 h10
    subst hn; subst hd
    try simp only [wpK_assoc]
    refine wpK_reg (fun R hR => by simp [h10]; exact hR) ?_
    refine wpK_condT (by simp) ?_
    refine wpK_reg (fun R hR => by simp [h9]; exact hR) ?_
    refine wpK_ret ⟨.inr rfl, rfl, [.int .i64 (j : Nat)], by simp, col, keys, lB, lL, j, rfl, ⟨by omega, ⟨e.1, by rw [← hm2, List.getElem?_map, hj]; rfl, hje⟩, .inl ⟨rfl, rfl, rfl⟩⟩, hE.mono (fun _ _ y => y.elim), fun _ _ => rfl, h'⟩
  · have hnew : ∀ k ∈ keys, keyEq (pr a b) k = false := fun k hk => by
      cases hh : keyEq (pr a b) k
      · rfl
      · exact absurd ⟨k, hk, hh⟩ hin
    obtain ⟨es', ck', v1, v2, v3, W1, w1, W2, W3, w2, W4, W5, w3, W6, W7, col', a0, a1, a2, a3, b1, b2, b3, d1, d2, d3, e1, e2, e3, g1, g2, g3, g4, g5, ⟨sa, sc, rfl⟩, g6, g7⟩ :=
      h'.add (tS := 141) (i := Try.t119) (it := Try.t141) (z := .agg ⟨[.int .i64 0, .int .i64 0]⟩) (by omega) und109 und110 inf84 t84s t84z rfl inf110 rfl (by show 16 ≤ 1000; omega) (key := pr a b) hko rfl rfl hnew hlen (bf := bf) (lt := 97 + x)
    rw [hm1] at a0; cases a0
    have hac : acells (pr a b) = [.int .i64 a, .int .i64 b] := rfl
    simp only [hac] at b2 d2 e2
    simp only [acells, Nat.mul_one] at b2 d2 e2
    have hlk : aLookup T0 W0 140 (.map (some m)) (pr a b) true = some (.tuple ⟨[.int .i64 0, .bool false]⟩) := by
      simp only [aLookup, und109, hko, aEntries, hm1, a1, zero3, aOkd]
    try simp only [wpK_assoc]
    refine wpK_dr (wr := Tr.nil |>.set 13 0 |>.set 14 1 |>.set 15 2 |>.set 16 3 |>.set 17 4 |>.set 18 5 |>.set 12 6 |>.set 19 7 |>.set 20 8 |>.set 9 9 |>.set 10 10) (bits := Tr.nil.lay 0 [0, 1, 3, 7, 0, 31, 63, 127, 127, 255, 1023]) (ord := [0, 1, 2, 3, 4, 5, 6, 7, 8, 9, 10])
      (J := fun A W' => A.n = 67 ∧ A.defers = [] ∧ A.tmps.get 0 = some (.pointer (some ⟨p, 0, none⟩)) ∧ A.tmps.get 2 = some (.int .i64 bf) ∧ A.tmps.get 3 = some (.int .i64 x) ∧ A.tmps.get 5 = some (.pointer (some ⟨W.next, 0, none⟩)) ∧ A.tmps.get 10 = some (.bool false) ∧ W' = W0) (by kernel_rfl) (by kernel_rfl) (by kernel_rfl) (fun G hG => ?_) ?_
    · simp [opNilCheck, nilck, field112, hl0, hlk5, valEq_pr, opLookup, hlk, opExtract, aExtract]
      apply hG
      exact ⟨rfl, rfl, by simp, by simp, by simp, by simp, by simp, rfl⟩
    rintro ⟨t, n, ds⟩ W1' ⟨hn, hd, h0, h2, h3, h5, h10, rfl⟩
    simp only at hn hd h0 h2 h3 h5 h10
    subst hn; subst hd
    try simp only [wpK_assoc]
    refine wpK_reg (fun R hR => by simp [h10]; exact hR) ?_
    refine wpK_onF (by simp) ?_
    obtain ⟨_, v1', hv1', hG1⟩ := hO.fld 1 _ rfl
    have hls : aLoadVar T0 W1' 141 p 1 = some v1' := hO.load und110 rfl (by omega) hv1'
    obtain ⟨av, cv, hv1e⟩ := hG1.len
    subst hv1e
    simp only [srchF] at hls
    try simp only [wpK_assoc]
    refine wpK_reg (fun R hR => by simp [h0, opNilCheck, nilck, field112, hls, len_slice und110]; exact hR) ?_
    try simp only [wpK_assoc]
    refine wpK_dr (wr := Tr.nil |>.set 28 0 |>.set 29 1 |>.set 30 2 |>.set 31 3 |>.set 32 4 |>.set 33 5) (bits := Tr.nil.lay 0 [0, 1, 3, 7, 0, 0, 63]) (ord := [0, 1, 2, 3, 4, 5, 6])
      (J := fun A W' => A.n = 67 ∧ A.defers = [] ∧ A.tmps.get 0 = some (.pointer (some ⟨p, 0, none⟩)) ∧ A.tmps.get 2 = some (.int .i64 bf) ∧ A.tmps.get 3 = some (.int .i64 x) ∧ A.tmps.get 5 = some (.pointer (some ⟨W.next, 0, none⟩)) ∧ A.tmps.get 11 = some (.int .i64 (keys.length : Nat)) ∧ W' = W1) (by kernel_rfl) (by kernel_rfl) (by kernel_rfl) (fun G hG => ?_) ?_
    · simp [h0, h5, opNilCheck, nilck, field112, hl0, hlk5, valEq_pr, opMapUpdate, a2, a3]
      apply hG
      exact ⟨rfl, rfl, by simp [h0], by simp [h2], by simp [h3], by simp [h5], by simp, rfl⟩
    rintro ⟨t, n, ds⟩ W1'' ⟨hn, hd, h0, h2, h3, h5, h11, rfl⟩
    simp only at hn hd h0 h2 h3 h5 h11
    subst hn; subst hd
    have hk0' := hk0.only g5 (fun y => y.1 hcb)
    have hk1' := hk1.only g5 (fun y => y.1 hcb)
    have hE2 : Ext W1'' (W1''.newCells 119 [.int .i64 a, .int .i64 b]) := .newCells _ _ _
    have hks : aLoadVar T0 W1'' 119 W.next 0 = some (pr a b) := load84 hk0' hk1'
    have hks2 : aLoadVar T0 (W1''.newCells 119 [.int .i64 a, .int .i64 b]) 119 W.next 0 = some (pr a b) := load84 (hk0'.ext hE2) (hk1'.ext hE2)
    have hp1 : W1''.Has p 1 (.slice sa keys.length sc) := ⟨by have := hO.lt p (by rw [hO.cp]; omega); omega, by rw [← loadVar_cell und110 rfl]; exact b1⟩
    have hp2 := load_ext und110 rfl hp1 hE2
    have hn4 : (W1''.newCells 119 [.int .i64 a, .int .i64 b]).next ≤ W2.next := by rw [newCells_next]; omega
    have hn5 : W2.next ≤ W3.next := by omega
    have hfr := freshB_new W1'' 119 [.int .i64 a, .int .i64 b] (listEq_cons (valEq_int _ _) (listEq_cons (valEq_int _ _) rfl))
    have hfl : aFill (fun j => some (j * 2, 2)) (rep [.int .i64 0, .int .i64 0] 1) [(0, pr a b)] = some [.int .i64 a, .int .i64 b] := fill84 _ _
    try simp only [wpK_assoc]
    refine wpK_dr (wr := Tr.nil |>.set 34 0 |>.set 35 1 |>.set 36 2 |>.set 37 3 |>.set 38 4 |>.set 39 5 |>.set 40 6 |>.set 41 7 |>.set 42 8 |>.set 43 9) (bits := Tr.nil.lay 0 [0, 0, 2, 6, 14, 0, 32, 126, 255, 511, 1023]) (ord := [0, 1, 2, 3, 4, 5, 6, 7, 8, 9, 10])
      (J := fun A W' => A.n = 67 ∧ A.defers = [] ∧ A.tmps.get 0 = some (.pointer (some ⟨p, 0, none⟩)) ∧ A.tmps.get 2 = some (.int .i64 bf) ∧ A.tmps.get 3 = some (.int .i64 x) ∧ A.tmps.get 11 = some (.int .i64 (keys.length : Nat)) ∧ W' = W3) (by kernel_rfl) (by kernel_rfl) (by kernel_rfl) (fun G hG => ?_) ?_
    · simp [h0, h5, opNilCheck, nilck, field112, b1, hks, hks2, hp2, hn4, hn5, hfr, valEq_slice, valEq_pr, aFlt, aParts, und110, inf84, t84z, t84s, hfl, AFlt.val, b2, opStore, b3]
      apply hG
      exact ⟨rfl, rfl, by simp [h0], by simp [h2], by simp [h3], by simp [h11], rfl⟩
    rintro ⟨t, n, ds⟩ W3' ⟨hn, hd, h0, h2, h3, h11, rfl⟩
    simp only at hn hd h0 h2 h3 h11
    subst hn; subst hd
    try simp only [wpK_assoc]
    refine wpK_reg (fun R hR => by simp [h0, h2, opNilCheck, nilck, field112, d1, opBuildSlice, aParts, aValW, bs43, d2, opStore, d3]; exact hR) ?_
    try simp only [wpK_assoc]
    refine wpK_reg (fun R hR => by simp [h0, h3, opNilCheck, nilck, field112, e1, letter_u8 x hx, opBuildSlice, aParts, aValW, bs38, e2, opStore, e3]; exact hR) ?_
    try simp only [wpK_assoc]
    refine wpK_reg (fun R hR => by simp [h11]; exact hR) ?_
    refine wpK_ret ⟨.inr rfl, rfl, [.int .i64 (keys.length : Nat)], by simp, col', _, _, _, keys.length, rfl, ⟨by simp, ⟨pr a b, by simp, key84_self a b⟩, .inr ⟨rfl, hnew, rfl, rfl, rfl⟩⟩, ⟨by have := hE.1; have := g2.1; omega, fun y hy hk => by rw [g2.2 y (by omega) hk, hE.2 y hy (fun z => z)]⟩, fun y hy => g1 y (by omega), g3⟩
end Go.Proofs.Ytnnfobmfffbhaaa

open Go Go.Eng
namespace Go.Proofs.Ytnnfobmfffbhaaa
attribute [local congr] undef_congr WpK.congr WpS.congr WpL.congr WpC.congr WpF.congr gotS.congr callS.congr nextS.congr wantS.congr condS.congr
attribute [local irreducible] WpK
attribute [local simp] WpDr_nil WpDr_cons atS_some dwantS_true dwantS_false kindS_light kindS_float kindS_heavy lightS_value floatS_some heavyS_value heavyS_skip heavyS_enter dcallS_some doneS_eq
  isLight isFloat isPlain dLook testBit_dec dChain dLights_nil dLights_skip dLights_one dLight_nil dLight_cons dFreshes_nil dFreshes_one oneF_none oneF_some dFresh_nil dFresh_cons oneL_some oneW_true oneW_false sameV_value dPut dMay valEq arrEq listEq List.getElem?_cons Tr.get_nil dEnd
attribute [local simp] WpS_nil WpS_cons isDefer undef_false wantS_true wantS_false nextS_value nextS_skip nextS_enter callS_some gotS_some aWanted aOp aEvalF aEval opMove opAssign opPick aVal flat flat1 AAct.put opBinOp opConvert opIndex Tr.get_set Tr.get_lay aBin aResults tupled
  aCall aVals aCallB blt_dec ble_dec beq_dec aBinI_add aBinI_sub aBinI_lss aBinI_leq aBinI_gtr aBinI_geq aBinI_eql aBinI_neq index_str len_str len_slice Nat.beq_refl und3 und37 und5 und9
  opBox opLoad opFieldAddr opIndexAddr acells aAddr field25 und22 und23 und43 und4 und28
attribute [local simp] field31 conv_3_5 conv_3_37 conv_37_3 conv_5_3
set_option maxHeartbeats 4000000
theorem from84_wp (a b : Int) (W : AW) : WpF T0 59 [pr a b] W (fun v W' => v = .pointer (some ⟨W.next + 2, 0, none⟩) ∧ Ext W W' ∧ ∃ col, (∀ b, b < W.next → col b = 0) ∧
    Srch W' (W.next + 2) (W.next + 1) 143 140 119 2 col [pr a b] [.int .i64 (-1)] [.int .u8 97] [] 0) := by
  refine wpF fun34 rfl ?_
  refine wpK_reg (fun R hR => by simp [pr]; exact hR) ?_
  have hE0 : Ext W (W.newCells 119 [.int .i64 a, .int .i64 b]) := .newCells _ _ _
  have hk0 : (W.newCells 119 [.int .i64 a, .int .i64 b]).Has W.next 0 (.int .i64 a) := Has.newCells rfl
  have hk1 : (W.newCells 119 [.int .i64 a, .int .i64 b]).Has W.next 1 (.int .i64 b) := Has.newCells rfl
  have hnx0 : (W.newCells 119 [.int .i64 a, .int .i64 b]).next = W.next + 1 := rfl
  generalize W.newCells 119 [.int .i64 a, .int .i64 b] = W0 at hE0 hk0 hk1 hnx0
  try simp only [wpK_assoc]
  refine wpK_regc (J := fun A' W' => A'.n = 9 ∧ A'.defers = [] ∧ A'.tmps.get 1 = some (.pointer (some ⟨W.next, 0, none⟩)) ∧ A'.tmps.get 3 = some (.pointer (some ⟨W.next + 2, 0, none⟩)) ∧ Ext W0 W' ∧ W'.next = W.next + 3 ∧
    Srch W' (W.next + 2) (W.next + 1) 143 140 119 2 (fun b => if b = W.next + 2 then 6 else if b = W.next + 1 then 7 else 0) [] [] [] [] 0) (fun R hR => ?_) ?_
  · simp [aEnter, fun48, short_other, aCallV]
    rw [callS_none]
    refine (newSearch84_wp W0).mono ?_
    rintro v W' ⟨rfl, h1, h2, h3⟩
    rw [hnx0] at h2 h3
    simp [hnx0]
    apply hR
    exact ⟨rfl, rfl, by simp, by simp, h1, h2, h3⟩
  rintro ⟨t, n, ds⟩ W1 ⟨hn, hd, h1, h3, hE, hnx, hS⟩
  simp only at hn hd h1 h3
  subst hn; subst hd
  have hl : aLoadVar T0 W1 119 W.next 0 = some (pr a b) := load84 (hk0.ext hE) (hk1.ext hE)
  try simp only [wpK_assoc]
  refine wpK_regc (J := fun A' W' => A'.n = 9 ∧ A'.defers = [] ∧ A'.tmps.get 3 = some (.pointer (some ⟨W.next + 2, 0, none⟩)) ∧ Ext W W' ∧ ∃ col, (∀ b, b < W.next → col b = 0) ∧
    Srch W' (W.next + 2) (W.next + 1) 143 140 119 2 col [pr a b] [.int .i64 (-1)] [.int .u8 97] [] 0) (fun R hR => ?_) ?_
  · simp [h1, h3, hl, aEnter, fun49, short_other, aCallV]
    rw [callS_none]
    refine (find84_wp hS (by simp) a b (-1) 0 (by omega)).mono ?_
    rintro v W' ⟨col', keys', lB', lL', i, rfl, ⟨hi, hk, hf⟩, g2, g3, g4⟩
    simp
    apply hR
    have hf2 : keys' = [pr a b] ∧ lB' = [.int .i64 (-1)] ∧ lL' = [.int .u8 97] := by
      rcases hf with ⟨rfl, rfl, rfl⟩ | ⟨_, _, rfl, rfl, rfl⟩
      · simp at hi
      · exact ⟨rfl, rfl, rfl⟩
    obtain ⟨rfl, rfl, rfl⟩ := hf2
    refine ⟨rfl, rfl, by simp [h3], ⟨by have := g2.1; omega, fun b hb hx => (g2.2 b (by omega) ?_).trans ((hE.2 b (by omega) hx).trans (hE0.2 b hb hx))⟩, col', fun b hb => ?_, g4⟩
    · simp only [if_neg (show ¬ b = W.next + 2 from by omega), if_neg (show ¬ b = W.next + 1 from by omega)]; exact fun h => h.1 rfl
    · rw [g3 b (by omega)]
      simp only [if_neg (show ¬ b = W.next + 2 from by omega), if_neg (show ¬ b = W.next + 1 from by omega)]
  rintro ⟨t, n, ds⟩ W2 ⟨hn, hd, h3, hE2, col, hc, hS2⟩
  simp only at hn hd h3
  subst hn; subst hd
  try simp only [wpK_assoc]
  refine wpK_reg (fun R hR => by simp [h3]; exact hR) ?_
  exact wpK_ret ⟨.inr rfl, rfl, [.pointer (some ⟨W.next + 2, 0, none⟩)], by simp, rfl, hE2, col, hc, hS2⟩
end Go.Proofs.Ytnnfobmfffbhaaa

open Go Go.Eng
namespace Go.Proofs.Ytnnfobmfffbhaaa
attribute [local congr] undef_congr WpK.congr WpS.congr WpL.congr WpC.congr WpF.congr gotS.congr callS.congr nextS.congr wantS.congr condS.congr
attribute [local irreducible] WpK
attribute [local simp] WpDr_nil WpDr_cons atS_some dwantS_true dwantS_false kindS_light kindS_float kindS_heavy lightS_value floatS_some heavyS_value heavyS_skip heavyS_enter dcallS_some doneS_eq
  isLight isFloat isPlain dLook testBit_dec dChain dLights_nil dLights_skip dLights_one dLight_nil dLight_cons dFreshes_nil dFreshes_one oneF_none oneF_some dFresh_nil dFresh_cons oneL_some oneW_true oneW_false sameV_value dPut dMay valEq arrEq listEq List.getElem?_cons Tr.get_nil dEnd
attribute [local simp] WpS_nil WpS_cons isDefer undef_false wantS_true wantS_false nextS_value nextS_skip nextS_enter callS_some gotS_some aWanted aOp aEvalF aEval opMove opAssign opPick aVal flat flat1 AAct.put opBinOp opConvert opIndex Tr.get_set Tr.get_lay aBin aResults tupled
  aCall aVals aCallB blt_dec ble_dec beq_dec aBinI_add aBinI_sub aBinI_lss aBinI_leq aBinI_gtr aBinI_geq aBinI_eql aBinI_neq index_str len_str len_slice Nat.beq_refl und3 und37 und5 und9
  opBox opLoad opFieldAddr opIndexAddr acells aAddr field25 und22 und23 und43 und4 und28
attribute [local simp] field31 conv_3_5 conv_3_37 conv_37_3 conv_5_3
set_option maxHeartbeats 4000000
theorem und86 : T0.und.get 120 = some (.func #[119, 3] #[119] false) := by kernel_rfl
theorem srch84_len {W : AW} {p m : Nat} {col : Nat → Nat} {keys lB lL lN : List Value} {nN : Nat} (h : Srch W p m 143 140 119 2 col keys lB lL lN nN) : ∃ a c, aLoadVar T0 W 141 p 1 = some (.slice a keys.length c) := by
  obtain ⟨c, hO, _⟩ := h.obj
  obtain ⟨_, v, hv, hG⟩ := hO.fld 1 _ rfl
  obtain ⟨a, c', rfl⟩ := hG.len
  exact ⟨a, c', hO.load und110 rfl (by omega) hv⟩
theorem flat_prs : ∀ {keys : List Value} {i : Nat} {a b : Int}, (∀ k ∈ keys, IsK84 k) → keys[i]? = some (pr a b) → (keys.flatMap acells)[2 * i]? = some (.int .i64 a) ∧ (keys.flatMap acells)[2 * i + 1]? = some (.int .i64 b)
  | [], _, _, _, _, h => by simp at h
  | k :: keys, i, a, b, hk, h => by
    obtain ⟨c, d, rfl⟩ := hk k (List.mem_cons_self ..)
    rw [List.flatMap_cons, show acells (pr c d) = [.int .i64 c, .int .i64 d] from rfl]
    cases i with
    | zero =>
      simp only [List.getElem?_cons_zero, Option.some.injEq, pr, Value.agg.injEq, Array.mk.injEq, List.cons.injEq, Value.int.injEq, true_and, and_true] at h
      obtain ⟨rfl, rfl⟩ := h
      exact ⟨rfl, rfl⟩
    | succ i =>
      have := flat_prs (fun k h => hk k (List.mem_cons_of_mem _ h)) (show keys[i]? = some (pr a b) from by simpa using h)
      rw [show 2 * (i + 1) = 2 * i + 1 + 1 from by omega]
      simpa using this
theorem srch84_key {W : AW} {p m : Nat} {col : Nat → Nat} {keys lB lL lN : List Value} {nN i : Nat} {key : Value} (h : Srch W p m 143 140 119 2 col keys lB lL lN nN) (hk : ∀ k ∈ keys, IsK84 k) (hi : keys[i]? = some key) :
    ∃ bs, aLoadVar T0 W 141 p 1 = some (.slice (some ⟨bs, 0, none⟩) keys.length 5) ∧ aIndexAddr T0 141 (.slice (some ⟨bs, 0, none⟩) keys.length 5) (.int .i64 (i : Nat)) = some (.pointer (some ⟨bs, i * 2, none⟩)) ∧ aLoadVar T0 W 119 bs (i * 2) = some key ∧ True ∧ W.Has p 1 (.slice (some ⟨bs, 0, none⟩) keys.length 5) := by
  have hlt : i < keys.length := (List.getElem?_eq_some_iff.1 hi).1
  obtain ⟨c, hO, _⟩ := h.obj
  obtain ⟨_, v, hv, hG⟩ := hO.fld 1 _ rfl
  have hG2 : GrowsN W v keys.length (keys.flatMap acells) 119 2 (fun b => col b = 1 + 1) := hG
  obtain ⟨bs, rfl, _, _, _, hh⟩ := hG2.has (by omega)
  have hx := indexAddr_slice (b := bs) (o := 0) (c := 2 * 2 + 1) (k := .i64) und110 sz84 hlt
  simp only [Nat.zero_add] at hx
  obtain ⟨x, y, rfl⟩ := hk key (List.mem_of_getElem? hi)
  obtain ⟨f1, f2⟩ := flat_prs hk hi
  refine ⟨bs, hO.load und110 rfl (by omega) hv, hx, ?_, trivial, ⟨hO.lt p (by rw [hO.cp]; omega), ?_⟩⟩
  · rw [Nat.mul_comm i 2]; exact load84 (hh _ _ f1) (hh _ _ f2)
  · simp only [AW.cell, hO.blk, blt_dec]; exact hv

theorem all84_wp {isK : Value → Prop} (hK : ∀ v, isK v → IsK84 v) {L p m b1 b2 b3 l : Nat} {fs : FuncId} {first cap : List Value} {step : Value → Nat → Value} {start : Value} {M : Nat} {C D : Nat → List Value → List Value → List Value → List Value → (Nat → Nat) → AW → Prop}
    (h : Caller 117 72 isK L p b1 b2 b3 l fs first cap step start M (fun i keys lB lL lN col W => Srch W p m 143 140 119 2 col keys lB lL lN i) C D) {W : AW} {col : Nat → Nat}
    (hS : Srch W p m 143 140 119 2 col [start] [.int .i64 (-1)] [.int .u8 97] [] 0) (hC : C 0 [start] [.int .i64 (-1)] [.int .u8 97] [] col W) :
    WpF T0 72 [.func (.yield l) #[] #[], .pointer (some ⟨b1, 0, none⟩), .pointer (some ⟨b2, 0, none⟩), .pointer (some ⟨b3, 0, none⟩)] W (fun _ W' => ∃ keys lB lL lN col', (Bfs step L start keys.length keys lB lL lN ∧ Srch W' p m 143 140 119 2 col' keys lB lL lN keys.length ∧ C keys.length keys lB lL lN col' W') ∨ ∃ i, D i keys lB lL lN col' W') := by
  refine wpF fun50 rfl ?_
  refine wpK_reg (fun R hR => by simp; exact hR) ?_
  refine wpK_while1 (I := fun k A W => A.n = 60 ∧ A.defers = [] ∧ A.tmps.get 0 = some (.func (.yield l) #[] #[]) ∧ A.tmps.get 1 = some (.pointer (some ⟨b1, 0, none⟩)) ∧ A.tmps.get 2 = some (.pointer (some ⟨b2, 0, none⟩)) ∧ A.tmps.get 3 = some (.pointer (some ⟨b3, 0, none⟩)) ∧
      ∃ (i : Nat) (keys lB lL lN : List Value) (col : Nat → Nat), k = M + 1 - i ∧ i ≤ keys.length ∧ A.tmps.get 5 = some (.int .i64 i) ∧ Bfs step L start i keys lB lL lN ∧ Srch W p m 143 140 119 2 col keys lB lL lN i ∧ C i keys lB lL lN col W)
    (J := fun A W => A.defers = [] ∧ ∃ (keys lB lL lN : List Value) (col : Nat → Nat), Bfs step L start keys.length keys lB lL lN ∧ Srch W p m 143 140 119 2 col keys lB lL lN keys.length ∧ C keys.length keys lB lL lN col W)
    (Rt := fun A W => A.defers = [] ∧ ∃ (keys lB lL lN : List Value) (col : Nat → Nat) (i : Nat), D i keys lB lL lN col W) (k := M + 1) ?_ ?_ ?_ ?_
  · exact ⟨rfl, rfl, by simp, by simp, by simp, by simp, 0, _, _, _, _, col, by omega, by simp, by simp, ⟨rfl, rfl, rfl, rfl⟩, hS, hC⟩
  · rintro k ⟨t, n, ds⟩ W ⟨hn, hd, h0, h1, h2, h3, i, keys, lB, lL, lN, col, hk, hi, h5, hB, hS, hC⟩ Q' hJ hRt hI
    simp only at hn hd h0 h1 h2 h3 h5
    subst hn; subst hd
    have hM := h.hM
    have hL := h.hL
    obtain ⟨he1, he2, he3⟩ := h.env hC
    have hb1 : aLoadVar T0 W 117 b1 0 = some (.pointer (some ⟨p, 0, none⟩)) := by rw [loadVar_cell und82 rfl]; exact he1.2
    obtain ⟨sa, sc, hls⟩ := srch84_len hS
    have hkb := h.bound hB
    have hisK := hB.isK h.keyOk h.startOk
    try simp only [wpK_assoc]
    refine wpK_reg (fun R hR => by simp [h5, h1, hb1, opNilCheck, nilck, field112, hls, len_slice und110]; exact hR) ?_
    by_cases hlt : i < keys.length
    case neg =>
      have : i = keys.length := by omega
      subst this
      exact wpK_out (by simp) (hJ _ _ ⟨rfl, keys, lB, lL, lN, col, hB, hS, hC⟩)
    refine wpK_onT (by simp [hlt]) ?_
    refine wpK_block ?_
    obtain ⟨key, hkey⟩ : ∃ key, keys[i]? = some key := ⟨keys[i], List.getElem?_eq_getElem hlt⟩
    obtain ⟨bs, hk1, hk2, hk3, _⟩ := srch84_key hS (fun k hk => hK k (hisK k hk)) hkey
    have hkeyK := hisK key (List.mem_of_getElem? hkey)
    obtain ⟨st, pd, fn, t', n', ps, asn, bd, df, kin, tt, hy1, hy2, hy3⟩ := h.yield hC hS hB hkey
    try simp only [wpK_assoc]
    refine wpK_regc (J := fun A' W' => A'.n = 60 ∧ A'.defers = [] ∧ A'.tmps.get 0 = some (.func (.yield l) #[] #[]) ∧ A'.tmps.get 1 = some (.pointer (some ⟨b1, 0, none⟩)) ∧ A'.tmps.get 2 = some (.pointer (some ⟨b2, 0, none⟩)) ∧ A'.tmps.get 3 = some (.pointer (some ⟨b3, 0, none⟩)) ∧ A'.tmps.get 5 = some (.int .i64 i) ∧
        ((A'.tmps.get 27 = some (.bool false) ∧ Only (fun b => col b = 0) W W' ∧ C (i + 1) keys lB lL lN col W') ∨ (A'.tmps.get 27 = some (.bool true) ∧ D i keys lB lL lN col W'))) (fun R hR => ?_) ?_
    · simp [h0, h5, h1, hb1, opNilCheck, nilck, field112, hk1, hk2, hk3, aEnter, hy1, hy2, aCallV, nextS_round]
      refine hy3.mono ?_
      rintro v W' (⟨rfl, g1, g2⟩ | ⟨rfl, g1⟩)
      · simp [opUnOp, aUn]
        apply hR
        exact ⟨rfl, rfl, by simp [h0], by simp [h1], by simp [h2], by simp [h3], by simp [h5], .inl ⟨by simp, g1, g2⟩⟩
      · simp [opUnOp, aUn]
        apply hR
        exact ⟨rfl, rfl, by simp [h0], by simp [h1], by simp [h2], by simp [h3], by simp [h5], .inr ⟨by simp, g1⟩⟩
    rintro ⟨t, n, ds⟩ W1 ⟨hn, hd, h0, h1, h2, h3, h5, hyy⟩
    simp only at hn hd h0 h1 h2 h3 h5 hyy
    subst hn; subst hd
    try simp only [wpK_assoc]
    rcases hyy with ⟨h27, hO1, hC1⟩ | ⟨h27, hD⟩
    case inr =>
      refine wpK_condT (by simp [h27]) ?_
      exact wpK_ret (hRt _ _ ⟨rfl, keys, lB, lL, lN, col, i, hD⟩)
    refine wpK_onF (by simp [h27]) ?_
    have hS1 : Srch W1 p m 143 140 119 2 col keys lB lL lN i := hS.only hO1 (fun b _ hc hx => hc hx)
    -- the row
    obtain ⟨W2, hW2⟩ : ∃ W2, aStoreVar T0 (W1.newCells 77 [.int .i64 0, .int .i64 0, .int .i64 0, .int .i64 0]) 77 W1.next 0 (.agg ⟨[.int .i64 0, .int .i64 0, .int .i64 0, .int .i64 0]⟩) = some W2 ∧ W2.next = W1.next + 1 ∧ (∀ x, x ≠ W1.next → W2.blocks.get x = W1.blocks.get x) ∧ ∃ c, W2.blocks.get W1.next = some ⟨.cells c 4 77, []⟩ ∧ ∀ y, y < 4 → c.get y = (List.replicate 4 (Value.int .i64 0))[y]? := by
      obtain ⟨W2, s1, s2, s3, s4⟩ := storeVar_own (T := T0) (t := 77) (W := W1.newCells 77 [.int .i64 0, .int .i64 0, .int .i64 0, .int .i64 0]) (v := .agg ⟨[.int .i64 0, .int .i64 0, .int .i64 0, .int .i64 0]⟩) (b := W1.next) (o := 0) inf85 rfl (by rw [newCells_get, if_pos rfl]) (by show 0 + 4 ≤ 4; omega) rfl
      refine ⟨W2, s1, s2, fun x hx => by rw [s3 x hx, newCells_get, if_neg hx], _, s4, fun y hy => ?_⟩
      rw [Tr.get_lay]
      match y, hy with
      | 0, _ => rfl
      | 1, _ => rfl
      | 2, _ => rfl
      | 3, _ => rfl
    obtain ⟨hW2a, hW2n, hW2o, cr, hW2r, hW2c⟩ := hW2
    try simp only [wpK_assoc]
    refine wpK_reg (fun R hR => by simp [opBuild, aParts, build85, opAlloc, zero85, opStore, hW2a]; exact hR) ?_
    have hO2 : Only (fun b => col b = 0) W W2 := hO1.trans ⟨by omega, fun b hb _ => hW2o b (by omega)⟩
    have hE12 : Ext W1 W2 := ⟨by omega, fun b hb _ => hW2o b (by omega)⟩
    have hcr : col W1.next = 0 := by
      cases hc : col W1.next with
      | zero => rfl
      | succ x => exact absurd (hS1.lt (b := W1.next) (by omega)) (by omega)
    have hS2 : Srch W2 p m 143 140 119 2 (fun b => if b = W1.next then 8 else col b) keys lB lL lN i := (hS1.only (K := fun _ => False) hE12 (fun _ _ _ x => x)).paint (by omega) hcr
    have hC2 : C (i + 1) keys lB lL lN (fun b => if b = W1.next then 8 else col b) W2 := h.stab hC1 (List.prefix_refl _) (List.prefix_refl _) (List.prefix_refl _) (List.prefix_refl _) (hE12.mono (fun _ _ x => x.elim)) (fun b hb hc => by rw [if_neg (by omega)]; exact hc) (fun b hb hc => by rw [if_neg (by omega)]; exact hc)
    have hc8 : (fun b => if b = W1.next then 8 else col b) W1.next = 8 := by simp
    generalize (fun b => if b = W1.next then 8 else col b) = col2 at hS2 hC2 hc8
    generalize hr6 : W1.next = r6 at hW2r hW2n hc8
    have hr6l : r6 < W2.next := by omega
    clear hO1 hC1 hS1 hE12 hO2 hW2a hW2o hcr hy1 hy2 hy3 hk1 hk2 hk3 hls he1 he2 he3 hb1
    obtain ⟨he1, he2, he3⟩ := h.env hC2
    have hb2 : aLoadVar T0 W2 3 b2 0 = some (.int .i64 L) := by rw [loadVar_cell und3 rfl]; exact he2.2
    try simp only [wpK_assoc]
    refine wpK_reg (fun R hR => by simp [h2, hb2]; exact hR) ?_
    clear he1 he2 he3 hb2
    refine wpK_while (I := fun k A W => A.n = 60 ∧ A.defers = [] ∧ A.tmps.get 0 = some (.func (.yield l) #[] #[]) ∧ A.tmps.get 1 = some (.pointer (some ⟨b1, 0, none⟩)) ∧ A.tmps.get 2 = some (.pointer (some ⟨b2, 0, none⟩)) ∧ A.tmps.get 3 = some (.pointer (some ⟨b3, 0, none⟩)) ∧
        A.tmps.get 5 = some (.int .i64 i) ∧ A.tmps.get 6 = some (.pointer (some ⟨r6, 0, none⟩)) ∧ A.tmps.get 29 = some (.int .i64 L) ∧
        ∃ (x : Nat) (row keys' lB' lL' : List Value) (col : Nat → Nat), k = L - x ∧ x ≤ L ∧ A.tmps.get 30 = some (.int .i64 x) ∧ RowI step key i x keys lB lL row keys' lB' lL' ∧ Srch W p m 143 140 119 2 col keys' lB' lL' lN i ∧ C (i + 1) keys' lB' lL' lN col W ∧ col r6 = 8 ∧ r6 < W.next ∧
          ∃ c, W.blocks.get r6 = some ⟨.cells c 4 77, []⟩ ∧ ∀ y, y < 4 → c.get y = row[y]?)
      (J := fun A W => A.n = 60 ∧ A.defers = [] ∧ A.tmps.get 0 = some (.func (.yield l) #[] #[]) ∧ A.tmps.get 1 = some (.pointer (some ⟨b1, 0, none⟩)) ∧ A.tmps.get 2 = some (.pointer (some ⟨b2, 0, none⟩)) ∧ A.tmps.get 3 = some (.pointer (some ⟨b3, 0, none⟩)) ∧
        A.tmps.get 5 = some (.int .i64 i) ∧ A.tmps.get 6 = some (.pointer (some ⟨r6, 0, none⟩)) ∧
        ∃ (row keys' lB' lL' : List Value) (col : Nat → Nat), RowI step key i L keys lB lL row keys' lB' lL' ∧ Srch W p m 143 140 119 2 col keys' lB' lL' lN i ∧ C (i + 1) keys' lB' lL' lN col W ∧ col r6 = 8 ∧ r6 < W.next ∧
          ∃ c, W.blocks.get r6 = some ⟨.cells c 4 77, []⟩ ∧ ∀ y, y < 4 → c.get y = row[y]?)
      (Rt := fun _ _ => False) (k := L) ?_ ?_ ?_ ?_
    · exact ⟨rfl, rfl, by simp [h0], by simp [h1], by simp [h2], by simp [h3], by simp [h5], by simp, by simp, 0, _, keys, lB, lL, col2, by omega, by omega, by simp, ⟨rfl, rfl, rfl, rfl⟩, hS2, hC2, hc8, hr6l, cr, hW2r, hW2c⟩
    · rintro k' ⟨t, n, ds⟩ W ⟨hn, hd, h0, h1, h2, h3, h5, h6, h29, x, row, keys', lB', lL', col, hk', hx, h30, hRow, hS, hC, hc8, hrl, c, hcr, hcc⟩ Q'' hJ' hRt' hI'
      simp only at hn hd h0 h1 h2 h3 h5 h6 h29 h30
      subst hn; subst hd
      try simp only [wpK_assoc]
      refine wpK_reg (fun R hR => by simp [h29, h30]; exact hR) ?_
      by_cases hxL : x < L
      case neg =>
        have : x = L := by omega
        subst this
        exact wpK_out (by simp) (hJ' _ _ ⟨rfl, rfl, by simp [h0], by simp [h1], by simp [h2], by simp [h3], by simp [h5], by simp [h6], row, keys', lB', lL', col, hRow, hS, hC, hc8, hrl, c, hcr, hcc⟩)
      refine wpK_onT (by simp [hxL]) ?_
      refine wpK_block ?_
      try simp only [wpK_assoc]
      refine wpK_reg (fun R hR => by simp [h30]; exact hR) ?_
      obtain ⟨he1, he2, he3⟩ := h.env hC
      have hb1 : ∀ W', Ext W W' → aLoadVar T0 W' 117 b1 0 = some (.pointer (some ⟨p, 0, none⟩)) := fun W' hE => by rw [loadVar_cell und82 rfl]; exact (he1.ext hE).2
      have hb3 : ∀ W', Ext W W' → aLoadVar T0 W' 120 b3 0 = some (.func (.func fs) ⟨first⟩ ⟨cap⟩) := fun W' hE => by rw [loadVar_cell und86 rfl]; exact (he3.ext hE).2
      have hgr := hRow.grows
      have hisK' : ∀ k ∈ keys', IsK84 k := fun k hk => hK k (bfs_isK h.keyOk hRow hkeyK hisK k hk)
      have hkey' : keys'[i]? = some key := by
        obtain ⟨r, rfl⟩ := hgr.1
        rw [List.getElem?_append_left hlt]; exact hkey
      obtain ⟨bs, hk1, hk2, hk3, hk4, hk5⟩ := srch84_key hS hisK' hkey'
      obtain ⟨fsf, hfs⟩ := h.fsOk
      have hkv : valEq key key = true := by obtain ⟨s0, s0', rfl⟩ := hK _ hkeyK; exact valEq_pr _ _
      have hlen' := h.rbound hB hkey (Nat.le_of_lt hxL) hRow
      obtain ⟨s1', s2', hs'⟩ := hK _ (h.keyOk (x := x) hkeyK)
      try simp only [wpK_assoc]
      refine wpK_dr1 (wr := Tr.nil |>.set 33 0 |>.set 34 1 |>.set 35 2 |>.set 36 3 |>.set 37 4 |>.set 38 5 |>.set 39 6 |>.set 40 7 |>.set 41 8 |>.set 42 9 |>.set 43 10 |>.set 44 11 |>.set 45 12 |>.set 46 13 |>.set 47 14 |>.set 48 15) (bits := Tr.nil.lay 0 [0, 0, 0, 0, 8, 24, 56, 0, 248, 504, 0, 2044, 0, 0, 16382, 32767, 65535]) (ord := [0, 1, 2, 3, 4, 5, 6, 7, 8, 9, 10, 11, 12, 13, 14, 15, 16])
        (J := fun A W => A.n = 60 ∧ A.defers = [] ∧ A.tmps.get 0 = some (.func (.yield l) #[] #[]) ∧ A.tmps.get 1 = some (.pointer (some ⟨b1, 0, none⟩)) ∧ A.tmps.get 2 = some (.pointer (some ⟨b2, 0, none⟩)) ∧ A.tmps.get 3 = some (.pointer (some ⟨b3, 0, none⟩)) ∧
          A.tmps.get 5 = some (.int .i64 i) ∧ A.tmps.get 6 = some (.pointer (some ⟨r6, 0, none⟩)) ∧ A.tmps.get 29 = some (.int .i64 L) ∧ A.tmps.get 30 = some (.int .i64 x) ∧
          ∃ (row keys' lB' lL' : List Value) (col : Nat → Nat), RowI step key i (x + 1) keys lB lL row keys' lB' lL' ∧ Srch W p m 143 140 119 2 col keys' lB' lL' lN i ∧ C (i + 1) keys' lB' lL' lN col W ∧ col r6 = 8 ∧ r6 < W.next ∧
            ∃ c, W.blocks.get r6 = some ⟨.cells c 4 77, []⟩ ∧ ∀ y, y < 4 → c.get y = row[y]?)
        (by kernel_rfl) (by kernel_rfl) (by kernel_rfl) (fun G hG => ?_) ?_
      · simp [h0, h1, h2, h3, h5, h6, h30, hb1 W (.refl _ _), hb3 W (.refl _ _), opNilCheck, nilck, field112, hk1, hk2, hk3, aEnter, hfs, aCallV, short_other h.fsNo]
        rw [dcallS_none]
        refine (h.stepOk hC (List.mem_of_getElem? hkey') hkeyK hxL).mono ?_
        rintro v W3 ⟨hE3, rfl⟩
        rw [hs']
        simp [h0, h1, h2, h3, h5, h6, h30, hb1 W (.refl _ _), hb3 W (.refl _ _), hb1 W3 hE3, hb3 W3 hE3, hE3.1, opNilCheck, nilck, field112, hk1, hk2, hk3, aEnter, fun49, aCallV, short_other]
        rw [dcallS_none]
        refine (find84_wp (hS.only (K := fun _ => False) hE3 (fun _ _ _ y => y)) (by omega) s1' s2' i x (by omega)).mono ?_
        rintro v W4 ⟨col', keys2, lB2, lL2, j, rfl, hF, hO4, hcol4, hS4⟩
        have hr4 : W4.blocks.get r6 = some ⟨.cells c 4 77, []⟩ := by rw [hO4.2 r6 (by have := hE3.1; omega) (fun y => y.2 hc8), hE3.2 r6 hrl (fun y => y)]; exact hcr
        have hC4 : C (i + 1) keys2 lB2 lL2 lN col' W4 := h.stab hC hF.grows.1 hF.grows.2.1 hF.grows.2.2 (List.prefix_refl _) ⟨by have := hE3.1; have := hO4.1; omega, fun b hb hc => by rw [hO4.2 b (by have := hE3.1; omega) (fun y => hc y.1), hE3.2 b hb (fun y => y)]⟩ (fun b hb hc => by rw [hcol4 b (by have := hE3.1; omega)]; exact hc) (fun b hb hc => by rw [hcol4 b (by have := hE3.1; omega)]; exact hc)
        have hc84 : col' r6 = 8 := by rw [hcol4 r6 (by have := hE3.1; omega)]; exact hc8
        have he4 := h.env hC4
        obtain ⟨W5, s1, s2, s3, s4⟩ := storeVar_own (T := T0) (t := 3) (W := W4) (v := .int .i64 (j : Nat)) (b := r6) (o := x) inf3 rfl hr4 (by show x + 1 ≤ 4; omega) rfl
        have hb14 : aLoadVar T0 W4 117 b1 0 = some (.pointer (some ⟨p, 0, none⟩)) := by rw [loadVar_cell und82 rfl]; exact he4.1.2
        have hb34 : aLoadVar T0 W4 120 b3 0 = some (.func (.func fs) ⟨first⟩ ⟨cap⟩) := by rw [loadVar_cell und86 rfl]; exact he4.2.2.2
        simp [h0, h1, h2, h3, h5, h6, h30, hb1 W (.refl _ _), hb3 W (.refl _ _), hb1 W3 hE3, hb3 W3 hE3, hb14, hb34, hE3.1, hO4.1, s2, h.fcOk.1, h.fcOk.2, hkv, opNilCheck, nilck, field112, hk1, hk2, hk3, indexAddr_85 r6 x (by omega), opStore, s1]
        apply hG
        have hO5 : Only (fun b => b = r6) W4 W5 := ⟨by omega, fun b _ hb => s3 b hb⟩
        refine ⟨rfl, rfl, by simp [h0], by simp [h1], by simp [h2], by simp [h3], by simp [h5], by simp [h6], by simp [h29], by simp [h30], row.set x (.int .i64 (j : Nat)), keys2, lB2, lL2, col', ⟨row, keys', lB', lL', j, hRow, by rw [hs']; exact hF, rfl⟩, hS4.only8 hO5 (fun b _ _ h8 e => h8 (by rw [e]; exact hc84)), ?_, hc84, by have := hE3.1; have := hO4.1; omega, _, s4, fun y hy => ?_⟩
        · exact h.stab hC4 (List.prefix_refl _) (List.prefix_refl _) (List.prefix_refl _) (List.prefix_refl _) (hO5.mono (fun b _ e => by rw [e, hc84]; omega)) (fun _ _ hc => hc) (fun _ _ hc => hc)
        · have hrl := hRow.len
          rw [show acells (Value.int .i64 (j : Nat)) = [Value.int .i64 (j : Nat)] from rfl]
          show (Tr.set c x (.int .i64 (j : Nat))).get y = _
          rw [Tr.get_set]
          by_cases e : y = x
          · rw [if_pos e, e, List.getElem?_set_self (by omega)]
          · rw [if_neg e, List.getElem?_set_ne (by omega)]; exact hcc y hy
      · rintro ⟨t, n, ds⟩ W' ⟨hn, hd, h0, h1, h2, h3, h5, h6, h29, h30, row', keys2, lB2, lL2, col', hRow', hS', hC', hc8', hrl', c', hcr', hcc'⟩
        simp only at hn hd h0 h1 h2 h3 h5 h6 h29 h30
        subst hn; subst hd
        have hw := i64_succ x (by omega)
        refine wpK_reg1 (fun R hR => by simp [h30]; exact hR) ?_
        refine hI' (L - (x + 1)) _ _ (by omega) ⟨rfl, rfl, by simp [h0], by simp [h1], by simp [h2], by simp [h3], by simp [h5], by simp [h6], by simp [h29], x + 1, row', keys2, lB2, lL2, col', rfl, by omega, by simp [hw], hRow', hS', hC', hc8', hrl', c', hcr', hcc'⟩
    · rintro A' W' hf; exact hf.elim
    · rintro ⟨t, n, ds⟩ W3 ⟨hn, hd, h0, h1, h2, h3, h5, h6, row, keys', lB', lL', col3, hRow, hS3, hC3, hc83, hrl3, c3, hcr3, hcc3⟩
      simp only at hn hd h0 h1 h2 h3 h5 h6
      subst hn; subst hd
      have hrow4 := hRow.len
      have hrowI := hRow.ints (by omega)
      have hone := oneCells_ints (l := row) (fun v hv => let ⟨j, _, hj⟩ := hrowI v hv; ⟨j, hj⟩)
      obtain ⟨v, w, W4, W5, col', r0, r1, r2, r3, r4, r45, r5, r6', r7, r8⟩ := hS3.row hrow4 hone (by omega)
      obtain ⟨he1, he2, he3⟩ := h.env hC3
      have hC4 : C (i + 1) keys' lB' lL' lN col3 W4 := h.stab hC3 (List.prefix_refl _) (List.prefix_refl _) (List.prefix_refl _) (List.prefix_refl _) (r5.mono (fun _ _ x => x.1)) (fun _ _ x => x) (fun _ _ x => x)
      have hb1 : aLoadVar T0 W3 117 b1 0 = some (.pointer (some ⟨p, 0, none⟩)) := by rw [loadVar_cell und82 rfl]; exact he1.2
      have hb14 : aLoadVar T0 W4 117 b1 0 = some (.pointer (some ⟨p, 0, none⟩)) := by rw [loadVar_cell und82 rfl]; exact (h.env hC4).1.2
      have hld := load85 hcr3 hcc3 hrow4
      have hE35 : Ext W3 (W3.newCells 77 row) := .newCells _ _ _
      have hld5 : aLoadVar T0 (W3.newCells 77 row) 77 r6 0 = some (.agg ⟨row⟩) := load85 (by rw [newCells_get, if_neg (by omega)]; exact hcr3) hcc3 hrow4
      have hb15 := load_ext und82 rfl he1 hE35
      have hv5 := load_ext und55 rfl r0.1 hE35
      have hfr := freshB_new W3 77 row (listEq_ints (fun v hv => let ⟨j, _, hj⟩ := hrowI v hv; ⟨j, hj⟩))
      have hrr : listEq row row = true := listEq_ints (fun v hv => let ⟨j, _, hj⟩ := hrowI v hv; ⟨j, hj⟩)
      obtain ⟨av, cv, hve⟩ := r0.2
      have hvv : valEq v v = true := by rw [hve]; exact valEq_slice _ _ _
      have hraa : valEq (.agg ⟨row⟩) (.agg ⟨row⟩) = true := by simp only [valEq, arrEq, hrr]
      have hn4 : (W3.newCells 77 row).next ≤ W4.next := by rw [newCells_next]; omega
      have hn5 : W4.next ≤ W5.next := by omega
      obtain ⟨va, vb, vc, vd, rfl⟩ := four hrow4
      refine wpK_dr1 (wr := Tr.nil |>.set 50 0 |>.set 51 1 |>.set 52 2 |>.set 53 3 |>.set 54 4 |>.set 55 5 |>.set 56 6 |>.set 57 7 |>.set 58 8 |>.set 59 9) (bits := Tr.nil.lay 0 [0, 0, 2, 6, 14, 0, 32, 126, 255, 511, 1023]) (ord := [0, 1, 2, 3, 4, 5, 6, 7, 8, 9, 10])
        (J := fun A W => A.n = 60 ∧ A.defers = [] ∧ A.tmps.get 0 = some (.func (.yield l) #[] #[]) ∧ A.tmps.get 1 = some (.pointer (some ⟨b1, 0, none⟩)) ∧ A.tmps.get 2 = some (.pointer (some ⟨b2, 0, none⟩)) ∧ A.tmps.get 3 = some (.pointer (some ⟨b3, 0, none⟩)) ∧
          A.tmps.get 5 = some (.int .i64 i) ∧ W = W5)
        (by kernel_rfl) (by kernel_rfl) (by kernel_rfl) (fun G hG => ?_) ?_
      · simp [h0, h1, h2, h3, h5, h6, hb1, hb14, hb15, hv5, hld5, hfr, hvv, hraa, hn4, hn5, opNilCheck, nilck, field112, r1, hld, aFlt, aParts, und55, inf85, t85z, t85s, fill85, AFlt.val, r2, opStore, r3]
        refine ⟨by simpa [listEq] using hrr, ?_⟩
        apply hG
        exact ⟨rfl, rfl, by simp [h0], by simp [h1], by simp [h2], by simp [h3], by simp [h5], rfl⟩
      · rintro ⟨t, n, ds⟩ W ⟨hn, hd, h0, h1, h2, h3, h5, rfl⟩
        simp only at hn hd h0 h1 h2 h3 h5
        subst hn; subst hd
        have hw := i64_succ i (by omega)
        refine wpK_reg1 (fun R hR => by simp [h5]; exact hR) ?_
        refine hI (M + 1 - (i + 1)) _ _ (by omega) ⟨rfl, rfl, by simp [h0], by simp [h1], by simp [h2], by simp [h3], i + 1, keys', lB', lL', _, col', rfl, by have := hRow.grows.1.length_le; omega, by simp [hw], ⟨keys, lB, lL, lN, key, _, hB, hkey, hRow, rfl⟩, r8, ?_⟩
        exact h.stab hC3 (List.prefix_refl _) (List.prefix_refl _) (List.prefix_refl _) (List.prefix_append _ _) r6' (fun b hb hc => by rw [r7 b hb]; exact hc) (fun b hb hc => by rw [r7 b hb]; exact hc)
  · rintro ⟨t, n, ds⟩ W' ⟨hd, keys, lB, lL, lN, col, i, hD⟩
    simp only at hd
    subst hd
    exact ⟨.inr rfl, rfl, [], rfl, keys, lB, lL, lN, col, .inr ⟨i, hD⟩⟩
  · rintro ⟨t, n, ds⟩ W' ⟨hd, keys, lB, lL, lN, col, hB, hS, hC⟩
    simp only at hd
    subst hd
    exact ⟨.inl rfl, rfl, [], rfl, keys, lB, lL, lN, col, .inl ⟨hB, hS, hC⟩⟩
end Go.Proofs.Ytnnfobmfffbhaaa

open Go Go.Eng
namespace Go.Proofs.Ytnnfobmfffbhaaa
attribute [local congr] undef_congr WpK.congr WpS.congr WpL.congr WpC.congr WpF.congr gotS.congr callS.congr nextS.congr wantS.congr condS.congr
attribute [local irreducible] WpK
attribute [local simp] WpDr_nil WpDr_cons atS_some dwantS_true dwantS_false kindS_light kindS_float kindS_heavy lightS_value floatS_some heavyS_value heavyS_skip heavyS_enter dcallS_some doneS_eq
  isLight isFloat isPlain dLook testBit_dec dChain dLights_nil dLights_skip dLights_one dLight_nil dLight_cons dFreshes_nil dFreshes_one oneF_none oneF_some dFresh_nil dFresh_cons oneL_some oneW_true oneW_false sameV_value dPut dMay valEq arrEq listEq List.getElem?_cons Tr.get_nil dEnd
attribute [local simp] WpS_nil WpS_cons isDefer undef_false wantS_true wantS_false nextS_value nextS_skip nextS_enter callS_some gotS_some aWanted aOp aEvalF aEval opMove opAssign opPick aVal flat flat1 AAct.put opBinOp opConvert opIndex Tr.get_set Tr.get_lay aBin aResults tupled
  aCall aVals aCallB blt_dec ble_dec beq_dec aBinI_add aBinI_sub aBinI_lss aBinI_leq aBinI_gtr aBinI_geq aBinI_eql aBinI_neq index_str len_str len_slice Nat.beq_refl und3 und37 und5 und9
  opBox opLoad opFieldAddr opIndexAddr acells aAddr field25 und22 und23 und43 und4 und28
attribute [local simp] field31 conv_3_5 conv_3_37 conv_37_3 conv_5_3
set_option maxHeartbeats 4000000
theorem fun32 : T0.funcs.get 34 = some Try.f34 := by kernel_rfl
theorem fun33 : T0.funcs.get 53 = some Try.f53 := by kernel_rfl
theorem fun36 : T0.funcs.get 61 = some Try.f61 := by kernel_rfl

theorem all32_wp (p L f : Nat) (first cap : List Value) (W : AW) : WpF T0 34 [.pointer (some ⟨p, 0, none⟩),   .int .i64 L, .func (.func f) ⟨first⟩ ⟨cap⟩] W (fun v W' =>
    v = .func (.func 51) ⟨[]⟩ ⟨[.pointer (some ⟨W.next, 0, none⟩), .pointer (some ⟨W.next + 1, 0, none⟩), .pointer (some ⟨W.next + 2, 0, none⟩)]⟩ ∧ Ext W W' ∧ W'.next = W.next + 3 ∧
      W'.Has W.next 0 (.pointer (some ⟨p, 0, none⟩)) ∧ W'.Has (W.next + 1) 0 (.int .i64 L) ∧ W'.Has (W.next + 2) 0 (.func (.func f) ⟨first⟩ ⟨cap⟩)) := by
  refine wpF fun32 rfl ?_
  refine wpK_reg (fun R hR => by simp; exact hR) ?_
  refine wpK_reg (fun R hR => by simp [opMakeFunc]; exact hR) ?_
  refine wpK_ret ⟨.inr rfl, rfl, _, by simp; rfl, rfl, ((Only.newCells _ _ _).trans (Only.newCells _ _ _)).trans (Only.newCells _ _ _), rfl, ?_, ?_, ?_⟩
  · exact ((Has.newCells (W := W) (el := 72) (l := [.pointer (some ⟨p, 0, none⟩)]) rfl).ext (.newCells _ _ _)).ext (.newCells _ _ _)
  · exact (Has.newCells (W := W.newCells 72 [.pointer (some ⟨p, 0, none⟩)]) (el := 3) (l := [.int .i64 L]) rfl).ext (.newCells _ _ _)
  · exact Has.newCells (W := (W.newCells 72 [.pointer (some ⟨p, 0, none⟩)]).newCells 3 [.int .i64 L]) (el := 78) (l := [.func (.func f) ⟨first⟩ ⟨cap⟩]) rfl
theorem all36_wp (p L f : Nat) (first cap : List Value) (W : AW) : WpF T0 61 [.pointer (some ⟨p, 0, none⟩),   .int .i64 L, .func (.func f) ⟨first⟩ ⟨cap⟩] W (fun v W' =>
    v = .func (.func 72) ⟨[]⟩ ⟨[.pointer (some ⟨W.next, 0, none⟩), .pointer (some ⟨W.next + 1, 0, none⟩), .pointer (some ⟨W.next + 2, 0, none⟩)]⟩ ∧ Ext W W' ∧ W'.next = W.next + 3 ∧
      W'.Has W.next 0 (.pointer (some ⟨p, 0, none⟩)) ∧ W'.Has (W.next + 1) 0 (.int .i64 L) ∧ W'.Has (W.next + 2) 0 (.func (.func f) ⟨first⟩ ⟨cap⟩)) := by
  refine wpF fun36 rfl ?_
  refine wpK_reg (fun R hR => by simp; exact hR) ?_
  refine wpK_reg (fun R hR => by simp [opMakeFunc]; exact hR) ?_
  refine wpK_ret ⟨.inr rfl, rfl, _, by simp; rfl, rfl, ((Only.newCells _ _ _).trans (Only.newCells _ _ _)).trans (Only.newCells _ _ _), rfl, ?_, ?_, ?_⟩
  · exact ((Has.newCells (W := W) (el := 117) (l := [.pointer (some ⟨p, 0, none⟩)]) rfl).ext (.newCells _ _ _)).ext (.newCells _ _ _)
  · exact (Has.newCells (W := W.newCells 117 [.pointer (some ⟨p, 0, none⟩)]) (el := 3) (l := [.int .i64 L]) rfl).ext (.newCells _ _ _)
  · exact Has.newCells (W := (W.newCells 117 [.pointer (some ⟨p, 0, none⟩)]).newCells 3 [.int .i64 L]) (el := 120) (l := [.func (.func f) ⟨first⟩ ⟨cap⟩]) rfl

/-- a step of an automaton, as a search takes it -/
def stepA (L n : Nat) (nx : Nat → Nat → Nat) (key : Value) (x : Nat) : Value :=
  match key with
  | .int _ (.ofNat s) => if s < n ∧ x < L then .int .i64 (nx s x : Nat) else .int .i64 0
  | _ => .int .i64 0
def IsS (n : Nat) (v : Value) : Prop := ∃ s : Nat, s < n ∧ v = .int .i64 (s : Nat)
theorem stepA_is {L n : Nat} {nx : Nat → Nat → Nat} (hn : 0 < n) (hnx : ∀ s i, s < n → i < L → nx s i < n) {key : Value} {x : Nat} : IsS n key → IsS n (stepA L n nx key x) := by
  rintro ⟨s, hs, rfl⟩
  show IsS n (if s < n ∧ x < L then .int .i64 (nx s x : Nat) else .int .i64 0)
  split
  · rename_i h; exact ⟨_, hnx _ _ h.1 h.2, rfl⟩
  · exact ⟨0, hn, rfl⟩
theorem stepA_eq {L n : Nat} {nx : Nat → Nat → Nat} {s x : Nat} (hs : s < n) (hx : x < L) : stepA L n nx (.int .i64 (s : Nat)) x = .int .i64 (nx s x : Nat) := by
  show stepA L n nx (.int .i64 (Int.ofNat s)) x = _
  unfold stepA
  simp only [hs, hx, and_self, if_true]

theorem step33_wp {L n bN oN cN ba : Nat} {nx : Nat → Nat → Nat} {W : AW} (hb : W.Has ba 1 (.slice (some ⟨bN, oN, none⟩) n cN)) (hN : Rows W bN oN n L nx) {s x : Nat} (hs : s < n) (hx : x < L) :
    WpF T0 53 [.int .i64 (s : Nat), .int .i64 (x : Nat), .pointer (some ⟨ba, 0, none⟩)] W (fun v W' => W' = W ∧ v = .int .i64 (nx s x : Nat)) := by
  refine wpF fun33 rfl ?_
  refine wpK_reg (fun R hR => by simp; exact hR) ?_
  obtain ⟨r, ro, c, h1, h2⟩ := hN s hs
  have hl1 : aLoadVar T0 W 22 ba 1 = some (.slice (some ⟨bN, oN, none⟩) n cN) := by rw [loadVar_cell und22 rfl]; exact hb.2
  have ha1 := indexAddr_slice (b := bN) (o := oN) (c := cN) (k := .i64) und22 sz43 hs
  have hl2 : aLoadVar T0 W 65 bN (oN + s) = some (.slice (some ⟨r, ro, none⟩) L c) := by rw [loadVar_cell und43 rfl]; exact h1.2
  have ha2 := indexAddr_slice (b := r) (o := ro) (c := c) (k := .i64) und43 sz3 hx
  have hl3 : aLoadVar T0 W 3 r (ro + x) = some (.int .i64 (nx s x : Nat)) := by rw [loadVar_cell und3 rfl]; exact (h2 x hx).2
  simp only [Nat.mul_one] at ha1 ha2
  try simp only [wpK_assoc]
  refine wpK_reg (fun R hR => by simp [hl1, ha1, hl2, ha2, hl3]; exact hR) ?_
  exact wpK_ret ⟨.inr rfl, rfl, [.int .i64 (nx s x : Nat)], by simp, rfl, rfl⟩
end Go.Proofs.Ytnnfobmfffbhaaa

open Go Go.Eng
namespace Go.Proofs.Ytnnfobmfffbhaaa
attribute [local congr] undef_congr WpK.congr WpS.congr WpL.congr WpC.congr WpF.congr gotS.congr callS.congr nextS.congr wantS.congr condS.congr
attribute [local irreducible] WpK
attribute [local simp] WpDr_nil WpDr_cons atS_some dwantS_true dwantS_false kindS_light kindS_float kindS_heavy lightS_value floatS_some heavyS_value heavyS_skip heavyS_enter dcallS_some doneS_eq
  isLight isFloat isPlain dLook testBit_dec dChain dLights_nil dLights_skip dLights_one dLight_nil dLight_cons dFreshes_nil dFreshes_one oneF_none oneF_some dFresh_nil dFresh_cons oneL_some oneW_true oneW_false sameV_value dPut dMay valEq arrEq listEq List.getElem?_cons Tr.get_nil dEnd
attribute [local simp] WpS_nil WpS_cons isDefer undef_false wantS_true wantS_false nextS_value nextS_skip nextS_enter callS_some gotS_some aWanted aOp aEvalF aEval opMove opAssign opPick aVal flat flat1 AAct.put opBinOp opConvert opIndex Tr.get_set Tr.get_lay aBin aResults tupled
  aCall aVals aCallB blt_dec ble_dec beq_dec aBinI_add aBinI_sub aBinI_lss aBinI_leq aBinI_gtr aBinI_geq aBinI_eql aBinI_neq index_str len_str len_slice Nat.beq_refl und3 und37 und5 und9
  opBox opLoad opFieldAddr opIndexAddr acells aAddr field25 und22 und23 und43 und4 und28
attribute [local simp] field31 conv_3_5 conv_3_37 conv_37_3 conv_5_3
set_option maxHeartbeats 4000000
/-! ### the keys of a search are different ones -/
def Dist (keys : List Value) : Prop := keys.Pairwise (fun a b => keyEq b a = false)
theorem Found.dist {keys lB lL : List Value} {key : Value} {bf lt : Int} {keys' lB' lL' : List Value} {i : Nat} (h : Found keys lB lL key bf lt keys' lB' lL' i) (hd : Dist keys) : Dist keys' := by
  obtain ⟨_, _, ⟨rfl, _⟩ | ⟨_, h1, rfl, _⟩⟩ := h
  · exact hd
  · unfold Dist
    rw [List.pairwise_append]
    exact ⟨hd, List.pairwise_singleton _ _, fun a ha b hb => by rw [List.mem_singleton] at hb; subst hb; exact h1 a ha⟩
theorem RowI.dist {step : Value → Nat → Value} {key : Value} {i : Nat} : ∀ {x : Nat} {keys lB lL row keys' lB' lL' : List Value}, RowI step key i x keys lB lL row keys' lB' lL' → Dist keys → Dist keys'
  | 0, _, _, _, _, _, _, _, h, hd => by obtain ⟨rfl, _⟩ := h; exact hd
  | x + 1, _, _, _, _, _, _, _, ⟨_, _, _, _, _, h1, h2, _⟩, hd => h2.dist (h1.dist hd)
theorem Bfs.dist {step : Value → Nat → Value} {L : Nat} {start : Value} : ∀ {i : Nat} {keys lB lL lN : List Value}, Bfs step L start i keys lB lL lN → Dist keys
  | 0, _, _, _, _, h => by obtain ⟨rfl, _⟩ := h; exact List.pairwise_singleton _ _
  | i + 1, _, _, _, _, ⟨_, _, _, _, _, _, h1, _, h3, _⟩ => h3.dist h1.dist
theorem nodup_lt : ∀ (n : Nat) (l : List Nat), l.Nodup → (∀ x ∈ l, x < n) → l.length ≤ n
  | 0, l, _, h => by
    cases l with
    | nil => simp
    | cons a l => exact absurd (h a (List.mem_cons_self ..)) (by omega)
  | n + 1, l, hd, h => by
    by_cases hn : n ∈ l
    · have := nodup_lt n (l.erase n) (hd.erase n) (fun x hx => by
        have h1 := (List.Nodup.mem_erase_iff hd).1 hx
        have := h x h1.2
        omega)
      rw [List.length_erase_of_mem hn] at this
      omega
    · have := nodup_lt n l hd (fun x hx => by
        have := h x hx
        have : x ≠ n := fun e => hn (e ▸ hx)
        omega)
      omega
/-- keys that are told apart by numbers below n are no more than n -/
theorem dist_len {keys : List Value} {n : Nat} (code : Value → Nat) (hc : ∀ k ∈ keys, code k < n) (hi : ∀ a ∈ keys, ∀ b ∈ keys, code b = code a → keyEq b a = true) (hd : Dist keys) : keys.length ≤ n := by
  have h1 : (keys.map code).Nodup := by
    unfold List.Nodup
    rw [List.pairwise_map]
    exact hd.imp_of_mem (fun {a b} ha hb h e => by rw [hi a ha b hb e.symm] at h; cases h)
  have := nodup_lt n (keys.map code) h1 (fun x hx => by
    obtain ⟨k, hk, rfl⟩ := List.mem_map.1 hx
    exact hc k hk)
  simpa using this
def codeS : Value → Nat
  | .int _ (.ofNat s) => s
  | _ => 0
theorem codeS_int (s : Nat) : codeS (.int .i64 (s : Nat)) = s := rfl
theorem distS_len {keys : List Value} {n : Nat} (hk : ∀ k ∈ keys, IsS n k) (hd : Dist keys) : keys.length ≤ n := by
  refine dist_len codeS (fun k h => ?_) (fun a ha b hb e => ?_) hd
  · obtain ⟨s, h1, rfl⟩ := hk k h; exact h1
  · obtain ⟨s, h1, rfl⟩ := hk a ha
    obtain ⟨s', h1', rfl⟩ := hk b hb
    rw [codeS_int, codeS_int] at e
    subst e
    exact key3_self _
theorem IsS.k3 {n : Nat} {v : Value} (h : IsS n v) : IsK3 v := let ⟨s, _, h⟩ := h; ⟨s, h⟩

/-- a loop over a function, the world at its beginning by what is to be known of it -/
theorem wpK_range2 {T : Tabs} {f₀ : FuncId} {A : AAct} {W : AW} {Q : AExit → AAct → AW → Prop} {id : Nat} {b : Code} {g : Operand} {ps : Array Tmp} {asn bd : Code} {f : FuncId} {first cap : Array Value} {fn : Func}
    (hg : aEval T A.tmps g = some (.func (.func f) first cap)) (hf : T.funcs.get f = some fn)
    (h : ∀ W5 : AW, W5.next = W.next + 2 → (∀ b, b < W.next → W5.blocks.get b = W.blocks.get b) → W5.blocks.get W.next = some ⟨.deferred (some []), []⟩ → W5.blocks.get (W.next + 1) = some ⟨.loop .ready none f₀ A.tmps A.n ps asn bd W.next, []⟩ →
      WpF T f (first.toList ++ .func (.yield (W.next + 1)) #[] #[] :: cap.toList) W5 (fun _ W₂ =>
      ∃ st p fn' t' n' ps' as' bd' df', W₂.blocks.get (W.next + 1) = some ⟨.loop st p fn' t' n' ps' as' bd' df', []⟩ ∧ st ≠ .busy ∧
        goOn (leaves id (behind Q fun A' W' => WpK T ⟨f₀, none⟩ b A' W' Q)) { A with defers := { target := .collected W.next, args := #[] } :: A.defers } (W₂.setObj (W.next + 1) (.loop .exhausted p fn' t' n' ps' as' bd' df')) p)) :
    WpK T ⟨f₀, none⟩ (.seq (.block id (.rangeFunc g ps asn bd)) b) A W Q := by
  refine wpK_range hg hf (h _ rfl (fun b hb => ?_) ?_ ?_)
  · simp only [AW.beforeLoop, AW.new, Tr.get_set]; rw [if_neg (by omega), if_neg (by omega)]
  · simp only [AW.beforeLoop, AW.new, Tr.get_set]; rw [if_neg (by omega), if_true]
  · simp only [AW.beforeLoop, AW.new, Tr.get_set]; rw [if_true]
theorem setObj_get (W : AW) (r : Nat) (o : AObj) (b : Nat) : (W.setObj r o).blocks.get b = if b = r then some ⟨o, []⟩ else W.blocks.get b := by
  simp only [AW.setObj, Tr.get_set]
theorem setObj_next (W : AW) (r : Nat) (o : AObj) : (W.setObj r o).next = W.next := rfl
theorem setObj_only (W : AW) (r : Nat) (o : AObj) : Only (fun b => b = r) W (W.setObj r o) := ⟨Nat.le_refl _, fun b _ hb => by rw [setObj_get, if_neg hb]⟩

theorem fun22 : T0.funcs.get 37 = some Try.f37 := by kernel_rfl
theorem und57 : T0.und.get 69 = some Try.t68.desc := by kernel_rfl
theorem inf57 : T0.info.get 69 = some Try.t69 := by kernel_rfl
theorem zero57 : aZero T0 69 = some (.agg ⟨[.int .i64 0, .slice none 0 0, .slice none 0 0]⟩) := by kernel_rfl
theorem build57 (L : Int) : aBuild T0 69 [(0, .int .i64 L)] = some (.agg ⟨[.int .i64 L, .slice none 0 0, .slice none 0 0]⟩) := by kernel_rfl
theorem field57 (b o f : Nat) (hf : f < 3) : aField T0 69 (.pointer (some ⟨b, o, none⟩)) f = some (.pointer (some ⟨b, o + f, none⟩)) := by
  match f, hf with
  | 0, _ => rfl
  | 1, _ => rfl
  | 2, _ => rfl
theorem load57 {W : AW} {b o : Nat} {l : List Value} (h : W.cellsAt b o 3 = some l) : aLoadVar T0 W 69 b o = some (.agg ⟨l⟩) := loadVar_agg und57 (by kernel_rfl) inf57 h
/-- a struct of three cells that is known whole -/
theorem cells3 {W : AW} {b : Nat} {c : Tr Value} {el : TypeId} {x y z : Value} (h : W.blocks.get b = some ⟨.cells c 3 el, []⟩) (h0 : c.get 0 = some x) (h1 : c.get 1 = some y) (h2 : c.get 2 = some z) : W.cellsAt b 0 3 = some [x, y, z] :=
  cellsAt_of_cells rfl ⟨_, h⟩ (fun j hj => by
    simp only [AW.cell, h, blt_dec, Nat.zero_add, hj, decide_true]
    match j, hj with
    | 0, _ => exact h0
    | 1, _ => exact h1
    | 2, _ => exact h2) (by omega)
def gdV (gd : Nat → Bool) (k : Value) : Value := .bool (gd (codeS k))

/-- what reached's loop keeps -/
structure Rch (W W5 : AW) (col0 : Nat → Nat) (pm L : Nat) (gd : Nat → Bool) (i : Nat) (keys _lB _lL _lN : List Value) (col : Nat → Nat) (W' : AW) : Prop where
  le : i ≤ keys.length
  next : W5.next ≤ W'.next
  fix : ∀ b, b < W5.next → col0 b = 0 → b ≠ pm → col b = 0 ∧ W'.blocks.get b = W5.blocks.get b
  cpm : col pm = 0
  good : ∃ (colG : Nat → Nat) (c : Tr Value) (v : Value), W'.blocks.get pm = some ⟨.cells c 3 69, []⟩ ∧ c.get 0 = some (.int .i64 L) ∧ c.get 1 = some (.slice none 0 0) ∧ c.get 2 = some v ∧
    GrowsN W' v i ((keys.take i).map (gdV gd)) 4 1 (fun b => colG b = 1) ∧ ∀ b, colG b ≠ 0 → col b = 0 ∧ W5.next ≤ b ∧ b < W'.next

theorem Rch.stab {W W5 : AW} {col0 : Nat → Nat} {pm L : Nat} {gd : Nat → Bool} {i : Nat} {keys lB lL lN : List Value} {col : Nat → Nat} {W' W'' : AW} {keys' lB' lL' lN' : List Value} {col' : Nat → Nat} (hpm : pm < W5.next) (h : Rch W W5 col0 pm L gd i keys lB lL lN col W')
    (hk : keys <+: keys') (hO : Only (fun b => col b ≠ 0) W' W'') (h0 : ∀ b, b < W'.next → col b = 0 → col' b = 0) : Rch W W5 col0 pm L gd i keys' lB' lL' lN' col' W'' where
  le := Nat.le_trans h.le hk.length_le
  next := Nat.le_trans h.next hO.1
  fix := fun b hb hc hp => by
    obtain ⟨g1, g2⟩ := h.fix b hb hc hp
    have hlt := Nat.lt_of_lt_of_le hb h.next
    exact ⟨h0 b hlt g1, by rw [hO.2 b hlt (fun x => x g1)]; exact g2⟩
  cpm := h0 pm (Nat.lt_of_lt_of_le hpm h.next) h.cpm
  good := by
    obtain ⟨colG, c, v, g1, g2, g3, g4, g5, g6⟩ := h.good
    refine ⟨colG, c, v, by rw [hO.2 pm (Nat.lt_of_lt_of_le hpm h.next) (fun x => x h.cpm)]; exact g1, g2, g3, g4, ?_, fun b hb => ?_⟩
    · obtain ⟨r, rfl⟩ := hk
      rw [List.take_append_of_le_length h.le]
      exact g5.only hO (fun b _ hb hc => hc (g6 b (by rw [hb]; omega)).1)
    · obtain ⟨q1, q2, q3⟩ := g6 b hb
      exact ⟨h0 b q3 q1, q2, Nat.lt_of_lt_of_le q3 hO.1⟩

theorem Bfs.pos {step : Value → Nat → Value} {L : Nat} {start : Value} : ∀ {i : Nat} {keys lB lL lN : List Value}, Bfs step L start i keys lB lL lN → [start] <+: keys
  | 0, _, _, _, _, h => by rw [h.1]; exact List.prefix_refl _
  | i + 1, _, _, _, _, ⟨_, _, _, _, _, _, h1, _, h3, _⟩ => h1.pos.trans h3.grows.1
end Go.Proofs.Ytnnfobmfffbhaaa

open Go Go.Eng
namespace Go.Proofs.Ytnnfobmfffbhaaa
attribute [local congr] undef_congr WpK.congr WpS.congr WpL.congr WpC.congr WpF.congr gotS.congr callS.congr nextS.congr wantS.congr condS.congr
attribute [local irreducible] WpK
attribute [local simp] WpDr_nil WpDr_cons atS_some dwantS_true dwantS_false kindS_light kindS_float kindS_heavy lightS_value floatS_some heavyS_value heavyS_skip heavyS_enter dcallS_some doneS_eq
  isLight isFloat isPlain dLook testBit_dec dChain dLights_nil dLights_skip dLights_one dLight_nil dLight_cons dFreshes_nil dFreshes_one oneF_none oneF_some dFresh_nil dFresh_cons oneL_some oneW_true oneW_false sameV_value dPut dMay valEq arrEq listEq List.getElem?_cons Tr.get_nil dEnd
attribute [local simp] WpS_nil WpS_cons isDefer undef_false wantS_true wantS_false nextS_value nextS_skip nextS_enter callS_some gotS_some aWanted aOp aEvalF aEval opMove opAssign opPick aVal flat flat1 AAct.put opBinOp opConvert opIndex Tr.get_set Tr.get_lay aBin aResults tupled
  aCall aVals aCallB blt_dec ble_dec beq_dec aBinI_add aBinI_sub aBinI_lss aBinI_leq aBinI_gtr aBinI_geq aBinI_eql aBinI_neq index_str len_str len_slice Nat.beq_refl und3 und37 und5 und9
  opBox opLoad opFieldAddr opIndexAddr acells aAddr field25 und22 und23 und43 und4 und28
attribute [local simp] field31 conv_3_5 conv_3_37 conv_37_3 conv_5_3
set_option maxHeartbeats 4000000
attribute [local simp] field57
theorem t4z : Try.t4.zero = some (.bool false) := by kernel_rfl
theorem t4s : Try.t4.size = 1 := by kernel_rfl
theorem fill4 (b : Bool) : aFill (fun j => some (j, 1)) (rep [.bool false] 1) [(0, .bool b)] = some [.bool b] := by kernel_rfl
/-- one round of reached's loop: m.good = append(m.good, a.Good[state]) -/
theorem reached_wp (L n bN oN cN bG oG cG : Nat) (nx : Nat → Nat → Nat) (gd : Nat → Bool) (W : AW) (hN : Rows W bN oN n L nx) (hG : Goods W bG oG n gd) (hL1 : 1 ≤ L) (hL4 : L ≤ 4) (hn : 1 ≤ n) (hn64 : n ≤ 64) (hnx : ∀ s i, s < n → i < L → nx s i < n) :
    WpF T0 37 [autoV L n bN oN cN bG oG cG] W (fun v W' => Ext W W' ∧ ∃ keys lB lL lN bs gs c1 c2, Bfs (stepA L n nx) L (.int .i64 0) keys.length keys lB lL lN ∧
      v = .agg ⟨[.int .i64 L, .slice (some ⟨bs, 0, none⟩) keys.length c1, .slice (some ⟨gs, 0, none⟩) keys.length c2]⟩ ∧ (∀ j u, lN[j]? = some u → W'.Has bs j u) ∧ (∀ j k, keys[j]? = some k → W'.Has gs j (gdV gd k))) := by
  refine wpFd fun22 rfl ?_
  refine wpK_reg (fun R hR => by simp [opAlloc, zero57]; exact hR) ?_
  -- the box of the argument, and the result's variable
  obtain ⟨W1, hW1, hE1, hn1, hba, hat, ht2⟩ : ∃ W1, W1 = (W.newCells 28 [.int .i64 L, .slice (some ⟨bN, oN, none⟩) n cN, .slice (some ⟨bG, oG, none⟩) n cG]).newCells 69 [.int .i64 0, .slice none 0 0, .slice none 0 0] ∧ Ext W W1 ∧ W1.next = W.next + 2 ∧
      (∀ j u, [Value.int .i64 (L : Nat), .slice (some ⟨bN, oN, none⟩) n cN, .slice (some ⟨bG, oG, none⟩) n cG][j]? = some u → W1.Has W.next j u) ∧ (∃ k, W1.blocks.get W.next = some k) ∧
      W1.blocks.get (W.next + 1) = some ⟨.cells (Tr.nil.lay 0 [.int .i64 0, .slice none 0 0, .slice none 0 0]) 3 69, []⟩ := by
    refine ⟨_, rfl, (Only.newCells _ _ _).trans (Only.newCells _ _ _), rfl, fun j u h => (Has.newCells h).ext (.newCells _ _ _), ⟨_, by rw [newCells_get, if_neg (by rw [newCells_next]; omega), newCells_get, if_pos rfl]⟩, by rw [newCells_get, if_pos (by rw [newCells_next])]; rfl⟩
  rw [← hW1]
  clear hW1
  try simp only [wpK_assoc]
  -- the search
  refine wpK_regc (J := fun A W2 => A.n = 34 ∧ A.defers = [] ∧ A.tmps.get 1 = some (.pointer (some ⟨W.next, 0, none⟩)) ∧ A.tmps.get 2 = some (.pointer (some ⟨W.next + 1, 0, none⟩)) ∧ A.tmps.get 3 = some (.pointer (some ⟨W1.next + 1, 0, none⟩)) ∧ Ext W1 W2 ∧
      ∃ col, (∀ b, b < W1.next → col b = 0) ∧ Srch W2 (W1.next + 1) W1.next 103 101 3 1 col [.int .i64 0] [.int .i64 (-1)] [.int .u8 97] [] 0) (fun R hR => ?_) ?_
  · simp [aEnter, fun31, short_other, aCallV]
    rw [callS_none]
    refine (from3_wp 0 W1).mono ?_
    rintro v W2 ⟨rfl, h1, col, h2, h3⟩
    simp
    apply hR
    exact ⟨rfl, rfl, by simp, by simp [newCells_next], by simp, h1, col, h2, h3⟩
  rintro ⟨t, nt, ds⟩ W2 ⟨hnt, hd, h1, h2, h3, hE2, col0, hc0, hS⟩
  simp only at hnt hd h1 h2 h3
  subst hnt; subst hd
  generalize hp : W1.next + 1 = p at h3 hS
  generalize hm : W1.next = m at hS
  -- m
  have hl0 : aLoadVar T0 W2 3 W.next 0 = some (.int .i64 L) := load_ext und3 rfl (hba 0 _ rfl) hE2
  obtain ⟨W3, s1, s2, s3, s4⟩ := storeVar_own (T := T0) (t := 69) (W := W2.newCells 69 [.int .i64 0, .slice none 0 0, .slice none 0 0]) (v := .agg ⟨[.int .i64 L, .slice none 0 0, .slice none 0 0]⟩) (b := W2.next) (o := 0) inf57 rfl (by rw [newCells_get, if_pos rfl]) (by show 0 + 3 ≤ 3; omega) rfl
  have hE3 : Ext W2 W3 := ⟨by rw [s2, newCells_next]; omega, fun b hb _ => by rw [s3 b (by omega), newCells_get, if_neg (by omega)]⟩
  have hn3 : W3.next = W2.next + 1 := s2
  try simp only [wpK_assoc]
  refine wpK_reg (fun R hR => by simp [h1, hl0, opBuild, aParts, build57, opAlloc, zero57, opStore, s1]; exact hR) ?_
  -- the closure
  have hl03 : aLoadVar T0 W3 3 W.next 0 = some (.int .i64 L) := load_ext und3 rfl ((hba 0 _ rfl).ext hE2) hE3
  try simp only [wpK_assoc]
  refine wpK_regc (J := fun A W4 => A.n = 34 ∧ A.defers = [] ∧ A.tmps.get 1 = some (.pointer (some ⟨W.next, 0, none⟩)) ∧ A.tmps.get 2 = some (.pointer (some ⟨W.next + 1, 0, none⟩)) ∧ A.tmps.get 3 = some (.pointer (some ⟨p, 0, none⟩)) ∧ A.tmps.get 4 = some (.pointer (some ⟨W2.next, 0, none⟩)) ∧
      A.tmps.get 15 = some (.func (.func 51) ⟨[]⟩ ⟨[.pointer (some ⟨W3.next, 0, none⟩), .pointer (some ⟨W3.next + 1, 0, none⟩), .pointer (some ⟨W3.next + 2, 0, none⟩)]⟩) ∧ Ext W3 W4 ∧ W4.next = W3.next + 3 ∧
      W4.Has W3.next 0 (.pointer (some ⟨p, 0, none⟩)) ∧ W4.Has (W3.next + 1) 0 (.int .i64 L) ∧ W4.Has (W3.next + 2) 0 (.func (.func 53) ⟨[]⟩ ⟨[.pointer (some ⟨W.next, 0, none⟩)]⟩)) (fun R hR => ?_) ?_
  · simp [h1, h3, hl03, opMakeFunc, aEnter, fun32, short_other, aCallV]
    rw [callS_none]
    refine (all32_wp p L 53 [] [.pointer (some ⟨W.next, 0, none⟩)] W3).mono ?_
    rintro v W4 ⟨rfl, g1, g2, g3, g4, g5⟩
    simp
    apply hR
    exact ⟨rfl, rfl, by simp [h1], by simp [h2], by simp [h3], by simp, by simp, g1, g2, g3, g4, g5⟩
  rintro ⟨t, nt, ds⟩ W4 ⟨hnt, hd, h1, h2, h3, h4, h15, hE4, hn4, hb1, hb2, hb3⟩
  simp only at hnt hd h1 h2 h3 h4 h15
  subst hnt; subst hd
  try simp only [wpK_assoc]
  refine wpK_range2 (f := 51) (first := ⟨[]⟩) (cap := ⟨[.pointer (some ⟨W3.next, 0, none⟩), .pointer (some ⟨W3.next + 1, 0, none⟩), .pointer (some ⟨W3.next + 2, 0, none⟩)]⟩) (by simp [h15]) fun47 (fun W5 hn5 hW5 hdf hlp => ?_)
  -- the world at the loop's beginning
  have hE45 : Ext W4 W5 := ⟨by omega, fun b hb _ => hW5 b hb⟩
  have hE35 : Ext W3 W5 := hE4.trans hE45
  have hE25 : Ext W2 W5 := hE3.trans hE35
  have hE15 : Ext W1 W5 := hE2.trans hE25
  have hE05 : Ext W W5 := hE1.trans hE15
  have hpm5 : W5.blocks.get W2.next = some ⟨.cells ((Tr.nil.lay 0 [.int .i64 0, .slice none 0 0, .slice none 0 0]).lay 0 (acells (.agg ⟨[.int .i64 L, .slice none 0 0, .slice none 0 0]⟩))) 3 69, []⟩ := by rw [hE35.2 W2.next (by omega) (fun x => x)]; exact s4
  have hcol0 : ∀ b, col0 b ≠ 0 → b < W2.next := fun b hb => hS.lt hb
  have hz : ∀ b, W2.next ≤ b → col0 b = 0 := fun b hb => by
    cases hc : col0 b with
    | zero => rfl
    | succ y => exact absurd (hcol0 b (by omega)) (by omega)
  have hS5 := hS.only (K := fun _ => False) hE25 (fun _ _ _ x => x)
  have hlW2 := hE2.1
  have hC0 : Rch W W5 col0 W2.next L gd 0 [.int .i64 0] [.int .i64 (-1)] [.int .u8 97] [] col0 W5 := by
    refine ⟨Nat.zero_le _, Nat.le_refl _, fun b hb hc _ => ⟨hc, rfl⟩, hz _ (Nat.le_refl _), fun _ => 0, _, .slice none 0 0, hpm5, by rw [Tr.get_lay]; rfl, by rw [Tr.get_lay]; rfl, by rw [Tr.get_lay]; rfl, .nil _ _ _ _, fun b hb => absurd rfl hb⟩
  -- what is known of the world in a round
  have hFix : ∀ {i keys lB lL lN col W'}, Rch W W5 col0 W2.next L gd i keys lB lL lN col W' → ∀ {b o v}, W5.Has b o v → col0 b = 0 → b ≠ W2.next → W'.Has b o v := fun {i keys lB lL lN col W'} h {b o v} hh hc hp =>
    ⟨Nat.lt_of_lt_of_le hh.1 h.next, by rw [AW.cell_of_get (h.fix b hh.1 hc hp).2]; exact hh.2⟩
  have hOld : ∀ {i keys lB lL lN col W'}, Rch W W5 col0 W2.next L gd i keys lB lL lN col W' → Ext W W' := fun {i keys lB lL lN col W'} h =>
    ⟨Nat.le_trans hE05.1 h.next, fun b hb _ => by rw [(h.fix b (Nat.lt_of_lt_of_le hb hE05.1) (hc0 b (by omega)) (by omega)).2]; exact hE05.2 b hb (fun x => x)⟩
  have hCaller : Caller 72 51 (IsS n) L p W3.next (W3.next + 1) (W3.next + 2) (W4.next + 1) 53 [] [.pointer (some ⟨W.next, 0, none⟩)] (stepA L n nx) (.int .i64 0) n (fun i keys lB lL lN col W => Srch W p m 103 101 3 1 col keys lB lL lN i)
      (Rch W W5 col0 W2.next L gd) (fun _ _ _ _ _ _ _ => False) := by
    refine ⟨hL4, by omega, ⟨_, fun33⟩, by decide, ⟨rfl, by simp [listEq, valEq]⟩, fun {i keys lB lL lN col W'} h => ?_, fun {i keys lB lL lN col keys' lB' lL' lN' col' W' W''} h hk _ _ _ hO _ hc => ?_, fun {i keys lB lL lN col W' key x} h hkey hkk hx => ?_, fun h => stepA_is (by omega) hnx h, ⟨0, by omega, rfl⟩, fun hB => ?_, fun hB hkey hx hR => ?_, fun {i keys lB lL lN col W' key} h hS' hB hkey => ?_⟩
    · exact ⟨hFix h (hb1.ext hE45) (hz _ (by omega)) (by omega), hFix h (hb2.ext hE45) (hz _ (by omega)) (by omega), hFix h (hb3.ext hE45) (hz _ (by omega)) (by omega)⟩
    · exact h.stab (by omega) hk hO hc
    · obtain ⟨s, hs, rfl⟩ := hkk
      refine (step33_wp (hFix h ((hba 1 _ rfl).ext hE15) (hc0 _ (by omega)) (by omega)) (hN.ext (hOld h)) hs hx).mono ?_
      rintro v W'' ⟨rfl, rfl⟩
      exact ⟨.refl _ _, (stepA_eq hs hx).symm⟩
    · exact distS_len (hB.isK (fun h => stepA_is (by omega) hnx h) ⟨0, by omega, rfl⟩) hB.dist
    · exact distS_len (bfs_isK (fun h => stepA_is (by omega) hnx h) hR (hB.isK (fun h => stepA_is (by omega) hnx h) ⟨0, by omega, rfl⟩ _ (List.mem_of_getElem? hkey)) (hB.isK (fun h => stepA_is (by omega) hnx h) ⟨0, by omega, rfl⟩)) (hR.dist hB.dist)
    · have hl : W'.blocks.get (W4.next + 1) = _ := (h.fix _ (by omega) (hz _ (by omega)) (by omega)).2.trans hlp
      obtain ⟨s, hs, rfl⟩ := hB.isK (isK := IsS n) (fun h => stepA_is (by omega) hnx h) ⟨0, by omega, rfl⟩ key (List.mem_of_getElem? hkey)
      refine ⟨_, _, _, _, _, _, _, _, _, _, (t.set 16 (.int .i64 (i : Nat))).set 17 (.int .i64 (s : Nat)), hl, rfl, ?_⟩
      refine wpR ?_
      refine wpK_reg1 (fun R hR => by simp; exact hR) ?_
      refine ⟨rfl, _, _, _, _, _, _, _, _, hl, ?_⟩
      obtain ⟨colG, c, v, g1, g2, g3, g4, g5, g6⟩ := h.good
      have hpl : W2.next < W'.next := Nat.lt_of_lt_of_le (by omega) h.next
      have hll : W4.next + 1 < W'.next := Nat.lt_of_lt_of_le (by omega) h.next
      have hOb := fun o => setObj_only W' (W4.next + 1) o
      refine wpK_block1 ?_
      have hlG : colG (W4.next + 1) = 0 := by
        cases hc : colG (W4.next + 1) with
        | zero => rfl
        | succ y => exact absurd (g6 (W4.next + 1) (by omega)).2.1 (by omega)
      have hpG : colG W2.next = 0 := by
        cases hc : colG W2.next with
        | zero => rfl
        | succ y => exact absurd (g6 W2.next (by omega)).2.1 (by omega)
      have hba2 := hFix h ((hba 2 _ rfl).ext hE15) (hc0 _ (by omega)) (by omega)
      have hgs := (hG s hs).ext (hOld h)
      have hg0 := hgs.1
      have hg00 := hG s hs
      generalize hbz : (AObj.loop LoopState.busy _ _ _ _ _ _ _ _) = bz
      obtain ⟨Wb, hWb, hObz, hnb, hpb⟩ : ∃ Wb, Wb = W'.setObj (W4.next + 1) bz ∧ Only (fun b => b = W4.next + 1) W' Wb ∧ Wb.next = W'.next ∧ Wb.blocks.get W2.next = some ⟨.cells c 3 69, []⟩ := ⟨_, rfl, hOb bz, rfl, by rw [setObj_get, if_neg (by omega)]; exact g1⟩
      have hlb : Wb.blocks.get (W4.next + 1) = some ⟨bz, []⟩ := by rw [hWb, setObj_get, if_pos rfl]
      rw [← hWb]
      clear hWb
      have hcell : Wb.Has W2.next 2 v := ⟨by omega, by simp only [AW.cell, hpb, blt_dec]; exact g4⟩
      have hba2b := hba2.only hObz (show ¬ W.next = W4.next + 1 from by omega)
      have hgsb := hgs.only hObz (show ¬ bG = W4.next + 1 from by have := hg00.1; omega)
      obtain ⟨v', W4', W5', a1, a2, a3, a4, a5, a6, _, a8⟩ := push_ownN (T := T0) (t := 23) (i := Try.t4) (it := Try.t23) (z := .bool false) (o := 2) (u := [.bool (gd s)]) (by omega) und23 inf4 t4s t4z rfl inf23 rfl (g5.only hObz (fun b hb hc e => by subst e; rw [hlG] at hc; omega)) hpb (by omega) (show ¬ colG W2.next = 1 from by omega) (by omega) rfl rfl (by show 2 * (i + 1) * 1 ≤ _; have := h.le; have := distS_len (hB.isK (isK := IsS n) (fun h => stepA_is (by omega) hnx h) ⟨0, by omega, rfl⟩) hB.dist; omega) (by have := h.le; have := distS_len (hB.isK (isK := IsS n) (fun h => stepA_is (by omega) hnx h) ⟨0, by omega, rfl⟩) hB.dist; omega)
      have hEn : Ext Wb (Wb.newCells 4 [.bool (gd s)]) := .newCells _ _ _
      have ha1 := indexAddr_slice (b := bG) (o := oG) (c := cG) (k := .i64) und23 sz4 hs
      simp only [Nat.mul_one] at ha1 a1
      have hn4 : (Wb.newCells 4 [.bool (gd s)]).next ≤ W4'.next := by rw [newCells_next]; omega
      have hn5' : W4'.next ≤ W5'.next := by omega
      have hfr := freshB_new Wb 4 [.bool (gd s)] (listEq_cons (by simp [valEq]) rfl)
      obtain ⟨sa, sc, rfl⟩ := g5.len
      refine wpK_dr1 (wr := Tr.nil |>.set 18 0 |>.set 19 1 |>.set 20 2 |>.set 21 3 |>.set 22 4 |>.set 23 5 |>.set 24 6 |>.set 25 7 |>.set 26 8 |>.set 27 9) (bits := Tr.nil.lay 0 [0, 1, 0, 4, 0, 28, 60, 124, 255, 511, 1023]) (ord := [0, 1, 2, 3, 4, 5, 6, 7, 8, 9, 10])
        (J := fun A W => W = W5') (by kernel_rfl) (by kernel_rfl) (by kernel_rfl) (fun G hG => ?_) ?_
      · simp [h1, h4, load_ext und23 rfl hcell (.refl _ _), load_ext und23 rfl hcell hEn, load_ext und23 rfl hba2b (.refl _ _), load_ext und23 rfl hba2b hEn, ha1, load_ext und4 rfl hgsb (.refl _ _), load_ext und4 rfl hgsb hEn, hn4, hn5', hfr, valEq_slice, aFlt, aParts, und23, inf4, t4z, t4s, fill4, AFlt.val, a1, opStore, a2]
        exact hG _ _ rfl
      · rintro A' W'' rfl
        subst hbz
        have hl5 := (a8.2 (W4.next + 1) (by omega) (fun x => x.elim (fun y => by omega) (fun y => by omega))).trans hlb
        refine ⟨_, _, _, _, _, _, _, _, _, hl5, .inl ⟨rfl, ?_, ?_⟩⟩
        · refine ⟨by rw [setObj_next]; omega, fun b hb hc => ?_⟩
          have hc : ¬ col b = 0 := hc
          have hne : b ≠ W4.next + 1 := fun e => hc (by rw [e]; exact (h.fix _ (by omega) (hz _ (by omega)) (by omega)).1)
          rw [setObj_get, if_neg hne, a8.2 b (by omega) (fun x => x.elim (fun y => hc (g6 b (by omega)).1) (fun y => hc (by rw [y]; exact h.cpm))), hObz.2 b hb hne]
        · refine ⟨(List.getElem?_eq_some_iff.1 hkey).1, by rw [setObj_next]; have := h.next; omega, fun b hb hc hp => ?_, h.cpm, fun b => if b = W'.next + 1 then 1 else colG b, c.set 2 v', v', ?_, by rw [Tr.get_set, if_neg (by omega)]; exact g2, by rw [Tr.get_set, if_neg (by omega)]; exact g3, by rw [Tr.get_set, if_pos rfl], ?_, fun b hb => ?_⟩
          · obtain ⟨q1, q2⟩ := h.fix b hb hc hp
            refine ⟨q1, ?_⟩
            have := h.next
            by_cases e : b = W4.next + 1
            · rw [e, setObj_get, if_pos rfl]; exact hlp.symm
            · rw [setObj_get, if_neg e, a8.2 b (by omega) (fun x => x.elim (fun y => by have := (g6 b (by omega)).2.1; omega) hp), hObz.2 b (by omega) e]; exact q2
          · rw [setObj_get, if_neg (by omega)]; exact a5
          · have htk : (keys.take (i + 1)).map (gdV gd) = (keys.take i).map (gdV gd) ++ [.bool (gd s)] := by
              rw [List.take_add_one, hkey, List.map_append]; rfl
            rw [htk]
            refine (a6.only (setObj_only _ _ _) (fun b _ hb e => ?_)).mono (fun b hb => ?_)
            · subst e; rcases hb with hb | hb <;> omega
            · show (if b = W'.next + 1 then 1 else colG b) = 1
              rcases hb with hb | hb
              · split
                · rfl
                · exact hb
              · rw [hnb] at hb; rw [if_pos hb]
          · have hb : (if b = W'.next + 1 then 1 else colG b) ≠ 0 := hb
            rw [setObj_next]
            split at hb
            · rename_i e
              refine ⟨?_, by have := h.next; omega, by omega⟩
              cases hcc : col b with
              | zero => rfl
              | succ y => exact absurd (hS'.lt (b := b) (by omega)) (by omega)
            · obtain ⟨q1, q2, q3⟩ := g6 b hb
              exact ⟨q1, q2, by omega⟩
  refine (all3_wp (fun v h => h.k3) hCaller hS5 hC0).mono ?_
  rintro _ W6 ⟨keys, lB, lL, lN, col, ⟨hB, hS6, hC6⟩ | ⟨_, hf⟩⟩
  case inr => exact hf.elim
  -- behind the loop
  have hfix6 : ∀ b, b < W5.next → col0 b = 0 → b ≠ W2.next → W6.blocks.get b = W5.blocks.get b := fun b hb hc hp => (hC6.fix b hb hc hp).2
  have hnx6 := hC6.next
  have hl6 := (hfix6 (W4.next + 1) (by omega) (hz _ (by omega)) (by omega)).trans hlp
  refine ⟨_, _, _, _, _, _, _, _, _, hl6, (fun h => by cases h), ?_⟩
  show WpK T0 ⟨37, none⟩ _ _ _ _
  generalize hex : (AObj.loop LoopState.exhausted _ _ _ _ _ _ _ _) = ex
  obtain ⟨W7, hW7, hO7, hn7⟩ : ∃ W7, W7 = W6.setObj (W4.next + 1) ex ∧ Only (fun b => b = W4.next + 1) W6 W7 ∧ W7.next = W6.next := ⟨_, rfl, setObj_only _ _ _, rfl⟩
  rw [← hW7]
  clear hW7 hex
  obtain ⟨colG, c, v, g1, g2, g3, g4, g5, g6⟩ := hC6.good
  have hkpos : 0 < keys.length := hB.pos.length_le
  rw [List.take_length] at g5
  obtain ⟨gs, rfl, hgs1, hgs2, _, hgs3⟩ := g5.has hkpos
  obtain ⟨c6, hOb, _⟩ := hS6.obj
  obtain ⟨_, v4, hv4, hG4⟩ := hOb.fld 4 _ rfl
  have hG4' : GrowsN W6 v4 keys.length lN 77 4 (fun b => col b = 4 + 1) := hG4
  obtain ⟨bs, rfl, hbs1, hbs2, _, hbs3⟩ := hG4'.has hkpos
  have hpp : W6.Has p 4 (.slice (some ⟨bs, 0, none⟩) keys.length (2 * 4 + 1)) := ⟨hOb.lt p (by rw [hOb.cp]; omega), by simp only [AW.cell, hOb.blk, blt_dec]; exact hv4⟩
  have hcl : col (W4.next + 1) = 0 := (hC6.fix _ (by omega) (hz _ (by omega)) (by omega)).1
  have hpl : p ≠ W4.next + 1 := fun e => by have := hOb.cp; rw [e, hcl] at this; omega
  have hl4 : aLoadVar T0 W7 67 p 4 = some (.slice (some ⟨bs, 0, none⟩) keys.length 9) := by rw [loadVar_cell und55 rfl]; exact (hpp.only hO7 hpl).2
  have hpm7 : W7.blocks.get W2.next = some ⟨.cells c 3 69, []⟩ := by rw [hO7.2 _ (by omega) (by omega)]; exact g1
  obtain ⟨W8, r1, r2, r3, r4⟩ := storeVar_own (T := T0) (t := 67) (W := W7) (v := .slice (some ⟨bs, 0, none⟩) keys.length (2 * 4 + 1)) (b := W2.next) (o := 1) inf55 rfl hpm7 (by show 1 + 1 ≤ 3; omega) rfl
  try simp only [wpK_assoc]
  refine wpK_reg (fun R hR => by simp [h3, h4, opNilCheck, nilck, field81, hl4, opStore, r1]; exact hR) ?_
  have hm8 : aLoadVar T0 W8 69 W2.next 0 = some (.agg ⟨[.int .i64 L, .slice (some ⟨bs, 0, none⟩) keys.length 9, .slice (some ⟨gs, 0, none⟩) keys.length (2 * 1 + 1)]⟩) := load57 (cells3 r4 (by show (Tr.set c 1 _).get 0 = _; rw [Tr.get_set, if_neg (by omega)]; exact g2) (by show (Tr.set c 1 _).get 1 = _; rw [Tr.get_set, if_pos rfl]) (by show (Tr.set c 1 _).get 2 = _; rw [Tr.get_set, if_neg (by omega)]; exact g4))
  have ht28 : W8.blocks.get (W.next + 1) = some ⟨.cells (Tr.nil.lay 0 [.int .i64 0, .slice none 0 0, .slice none 0 0]) 3 69, []⟩ := by
    rw [r3 _ (by omega), hO7.2 _ (by omega) (by omega), hfix6 _ (by omega) (hc0 _ (by omega)) (by omega), hE15.2 _ (by omega) (fun x => x)]; exact ht2
  obtain ⟨W9, q1, q2, q3, q4⟩ := storeVar_own (T := T0) (t := 69) (W := W8) (v := .agg ⟨[.int .i64 L, .slice (some ⟨bs, 0, none⟩) keys.length 9, .slice (some ⟨gs, 0, none⟩) keys.length (2 * 1 + 1)]⟩) (b := W.next + 1) (o := 0) inf57 rfl ht28 (by show 0 + 3 ≤ 3; omega) rfl
  try simp only [wpK_assoc]
  refine wpK_reg (fun R hR => by simp [h2, h4, hm8, opStore, q1]; exact hR) ?_
  have hdf9 : W9.blocks.get W4.next = some ⟨.deferred (some []), []⟩ := by
    rw [q3 _ (by omega), r3 _ (by omega), hO7.2 _ (by omega) (by omega), hfix6 _ (by omega) (hz _ (by omega)) (by omega)]; exact hdf
  have hcat : ∀ {b o u}, W6.Has b o u → b ≠ W4.next + 1 → b ≠ W4.next → b ≠ W2.next → b ≠ W.next + 1 → (W9.setObj W4.next (.deferred none)).Has b o u := fun {b o u} hh e1 e2 e3 e4 =>
    ⟨by rw [setObj_next]; have := hh.1; omega, (AW.cell_of_get (W := W6) (by rw [setObj_get, if_neg e2, q3 _ e4, r3 _ e3, hO7.2 _ hh.1 e1]) _).trans hh.2⟩
  refine wpK_ret ⟨.inr rfl, W9.setObj W4.next (.deferred none), ⟨W4.next, rfl, hdf9, rfl⟩, [.agg ⟨[.int .i64 L, .slice (some ⟨bs, 0, none⟩) keys.length 9, .slice (some ⟨gs, 0, none⟩) keys.length (2 * 1 + 1)]⟩], ?_, ⟨by rw [setObj_next]; omega, fun b hb hx => ?_⟩, keys, lB, lL, lN, bs, gs, _, _, hB, rfl, fun j u hu => ?_, fun j k hk => ?_⟩
  · have hres : aLoadVar T0 (W9.setObj W4.next (.deferred none)) 69 (W.next + 1) 0 = _ := load57 (cells3 (c := ((Tr.nil.lay 0 [.int .i64 0, .slice none 0 0, .slice none 0 0]).lay 0 (acells (.agg ⟨[.int .i64 L, .slice (some ⟨bs, 0, none⟩) keys.length 9, .slice (some ⟨gs, 0, none⟩) keys.length (2 * 1 + 1)]⟩)))) (by rw [setObj_get, if_neg (by omega)]; exact q4) (by rw [Tr.get_lay]; rfl) (by rw [Tr.get_lay]; rfl) (by rw [Tr.get_lay]; rfl))
    show aResults T0 _ _ [.cell 2 69] = _
    simp [h2, hres]
  · rw [setObj_get, if_neg (by omega), q3 _ (by omega), r3 _ (by omega), hO7.2 _ (by omega) (by omega), hfix6 _ (by omega) (hc0 _ (by omega)) (by omega)]
    exact hE05.2 b hb hx
  · have hcs : col bs = 5 := hbs1
    refine hcat (hbs3 j u hu) (fun e => ?_) (fun e => ?_) (fun e => ?_) (fun e => ?_)
    · rw [e, hcl] at hcs; omega
    · rw [e, (hC6.fix _ (by omega) (hz _ (by omega)) (by omega)).1] at hcs; omega
    · rw [e, hC6.cpm] at hcs; omega
    · rw [e, (hC6.fix _ (by omega) (hc0 _ (by omega)) (by omega)).1] at hcs; omega
  · have := (g6 gs (by rw [hgs1]; omega)).2.1
    refine hcat (hgs3 j _ (by rw [List.getElem?_map, hk]; rfl)) (by omega) (by omega) (by omega) (by omega)
end Go.Proofs.Ytnnfobmfffbhaaa
