import Derived.Test.YtfpakfidfmjfhaaEngZ
import Derived.Test.YtfpakfidfmjfhaaChecked
import Derived.KernelRfl
set_option linter.unusedSimpArgs false
set_option linter.unusedVariables false
set_option linter.unusedSectionVars false
open Go Go.Eng
namespace Go.Proofs.Ytfpakfidfmjfhaa

theorem Tr.node_all {α : Type} {P : Nat → α → Prop} {v : Option α} {l r : Tr α} {a b : Nat} (h0 : ∀ x, v = some x → P b x) (hl : ∀ k x, l.get k = some x → P ((2 * a) * k + (a + b)) x)
    (hr : ∀ k x, r.get k = some x → P ((2 * a) * k + (2 * a + b)) x) : ∀ k x, (Tr.node v l r).get k = some x → P (a * k + b) x := by
  intro k x h
  cases k with
  | zero => simp only [Nat.mul_zero, Nat.zero_add]; exact h0 x h
  | succ m =>
    simp only [Tr.get] at h
    split at h
    · rename_i hb
      have hb := Nat.eq_of_beq_eq_true hb
      have := hl _ _ h
      rw [natmod] at hb
      rw [natdiv] at this
      have e : 2 * a * (m / 2) + (a + b) = a * (m + 1) + b := by
        have : m = 2 * (m / 2) := by omega
        rw [Nat.mul_add, show a * m = a * (2 * (m / 2)) from by rw [← this]]
        rw [Nat.mul_comm 2 a, Nat.mul_assoc]; omega
      rwa [e] at this
    · rename_i hb
      have hb := Nat.ne_of_beq_eq_false hb
      have := hr _ _ h
      rw [natmod] at hb
      rw [natdiv] at this
      have e : 2 * a * (m / 2) + (2 * a + b) = a * (m + 1) + b := by
        have : m = 2 * (m / 2) + 1 := by omega
        rw [show a * (m + 1) = a * (2 * (m / 2) + 2) from by rw [show m + 1 = 2 * (m / 2) + 2 from by omega]]
        rw [Nat.mul_add, Nat.mul_comm 2 a, Nat.mul_assoc]; omega
      rwa [e] at this

theorem info0 : Try.prog.info? 0 = some Try.t0 := by kernel_rfl
theorem info1 : Try.prog.info? 1 = some Try.t1 := by kernel_rfl
theorem info2 : Try.prog.info? 2 = some Try.t2 := by kernel_rfl
theorem info3 : Try.prog.info? 3 = some Try.t3 := by kernel_rfl
theorem info4 : Try.prog.info? 4 = some Try.t4 := by kernel_rfl
theorem info5 : Try.prog.info? 5 = some Try.t5 := by kernel_rfl
theorem info6 : Try.prog.info? 6 = some Try.t6 := by kernel_rfl
theorem info7 : Try.prog.info? 7 = some Try.t7 := by kernel_rfl
theorem info8 : Try.prog.info? 8 = some Try.t8 := by kernel_rfl
theorem info9 : Try.prog.info? 9 = some Try.t9 := by kernel_rfl
theorem info10 : Try.prog.info? 10 = some Try.t10 := by kernel_rfl
theorem info11 : Try.prog.info? 11 = some Try.t11 := by kernel_rfl
theorem info12 : Try.prog.info? 12 = some Try.t12 := by kernel_rfl
theorem info13 : Try.prog.info? 13 = some Try.t13 := by kernel_rfl
theorem info14 : Try.prog.info? 14 = some Try.t14 := by kernel_rfl
theorem info15 : Try.prog.info? 15 = some Try.t15 := by kernel_rfl
theorem info16 : Try.prog.info? 16 = some Try.t16 := by kernel_rfl
theorem info17 : Try.prog.info? 17 = some Try.t17 := by kernel_rfl
theorem info18 : Try.prog.info? 18 = some Try.t18 := by kernel_rfl
theorem info19 : Try.prog.info? 19 = some Try.t19 := by kernel_rfl
theorem info20 : Try.prog.info? 20 = some Try.t20 := by kernel_rfl
theorem info21 : Try.prog.info? 21 = some Try.t21 := by kernel_rfl
theorem info22 : Try.prog.info? 22 = some Try.t22 := by kernel_rfl
theorem info23 : Try.prog.info? 23 = some Try.t23 := by kernel_rfl
theorem info24 : Try.prog.info? 24 = some Try.t24 := by kernel_rfl
theorem info25 : Try.prog.info? 25 = some Try.t25 := by kernel_rfl
theorem info26 : Try.prog.info? 26 = some Try.t26 := by kernel_rfl
theorem info27 : Try.prog.info? 27 = some Try.t27 := by kernel_rfl
theorem info28 : Try.prog.info? 28 = some Try.t28 := by kernel_rfl
theorem info29 : Try.prog.info? 29 = some Try.t29 := by kernel_rfl
theorem info30 : Try.prog.info? 30 = some Try.t30 := by kernel_rfl
theorem info31 : Try.prog.info? 31 = some Try.t31 := by kernel_rfl
theorem info32 : Try.prog.info? 32 = some Try.t32 := by kernel_rfl
theorem info33 : Try.prog.info? 33 = some Try.t33 := by kernel_rfl
theorem info34 : Try.prog.info? 34 = some Try.t34 := by kernel_rfl
theorem info35 : Try.prog.info? 35 = some Try.t35 := by kernel_rfl
theorem info36 : Try.prog.info? 36 = some Try.t36 := by kernel_rfl
theorem info37 : Try.prog.info? 37 = some Try.t37 := by kernel_rfl
theorem info38 : Try.prog.info? 38 = some Try.t38 := by kernel_rfl
theorem info39 : Try.prog.info? 39 = some Try.t39 := by kernel_rfl
theorem info40 : Try.prog.info? 40 = some Try.t40 := by kernel_rfl
theorem info41 : Try.prog.info? 41 = some Try.t41 := by kernel_rfl
theorem info42 : Try.prog.info? 42 = some Try.t42 := by kernel_rfl
theorem info43 : Try.prog.info? 43 = some Try.t43 := by kernel_rfl
theorem info44 : Try.prog.info? 44 = some Try.t44 := by kernel_rfl
theorem info45 : Try.prog.info? 45 = some Try.t45 := by kernel_rfl
theorem info46 : Try.prog.info? 46 = some Try.t46 := by kernel_rfl
theorem info47 : Try.prog.info? 47 = some Try.t47 := by kernel_rfl
theorem info48 : Try.prog.info? 48 = some Try.t48 := by kernel_rfl
theorem info49 : Try.prog.info? 49 = some Try.t49 := by kernel_rfl
theorem info50 : Try.prog.info? 50 = some Try.t50 := by kernel_rfl
theorem info51 : Try.prog.info? 51 = some Try.t51 := by kernel_rfl
theorem info52 : Try.prog.info? 52 = some Try.t52 := by kernel_rfl
theorem info53 : Try.prog.info? 53 = some Try.t53 := by kernel_rfl
theorem info54 : Try.prog.info? 54 = some Try.t54 := by kernel_rfl
theorem info55 : Try.prog.info? 55 = some Try.t55 := by kernel_rfl
theorem info56 : Try.prog.info? 56 = some Try.t56 := by kernel_rfl
theorem info57 : Try.prog.info? 57 = some Try.t57 := by kernel_rfl
theorem info58 : Try.prog.info? 58 = some Try.t58 := by kernel_rfl
theorem info59 : Try.prog.info? 59 = some Try.t59 := by kernel_rfl
theorem info60 : Try.prog.info? 60 = some Try.t60 := by kernel_rfl
theorem info61 : Try.prog.info? 61 = some Try.t61 := by kernel_rfl
theorem info62 : Try.prog.info? 62 = some Try.t62 := by kernel_rfl
theorem info63 : Try.prog.info? 63 = some Try.t63 := by kernel_rfl
theorem info64 : Try.prog.info? 64 = some Try.t64 := by kernel_rfl
theorem info65 : Try.prog.info? 65 = some Try.t65 := by kernel_rfl
theorem info66 : Try.prog.info? 66 = some Try.t66 := by kernel_rfl
theorem info67 : Try.prog.info? 67 = some Try.t67 := by kernel_rfl
theorem info68 : Try.prog.info? 68 = some Try.t68 := by kernel_rfl
theorem info69 : Try.prog.info? 69 = some Try.t69 := by kernel_rfl
theorem info70 : Try.prog.info? 70 = some Try.t70 := by kernel_rfl
theorem info71 : Try.prog.info? 71 = some Try.t71 := by kernel_rfl
theorem info72 : Try.prog.info? 72 = some Try.t72 := by kernel_rfl
theorem info73 : Try.prog.info? 73 = some Try.t73 := by kernel_rfl
theorem info74 : Try.prog.info? 74 = some Try.t74 := by kernel_rfl
theorem info75 : Try.prog.info? 75 = some Try.t75 := by kernel_rfl
theorem info76 : Try.prog.info? 76 = some Try.t76 := by kernel_rfl
theorem info77 : Try.prog.info? 77 = some Try.t77 := by kernel_rfl
theorem info78 : Try.prog.info? 78 = some Try.t78 := by kernel_rfl
theorem info79 : Try.prog.info? 79 = some Try.t79 := by kernel_rfl
theorem info80 : Try.prog.info? 80 = some Try.t80 := by kernel_rfl
theorem info81 : Try.prog.info? 81 = some Try.t81 := by kernel_rfl
theorem info82 : Try.prog.info? 82 = some Try.t82 := by kernel_rfl
theorem info83 : Try.prog.info? 83 = some Try.t83 := by kernel_rfl
theorem info84 : Try.prog.info? 84 = some Try.t84 := by kernel_rfl
theorem info85 : Try.prog.info? 85 = some Try.t85 := by kernel_rfl
theorem info86 : Try.prog.info? 86 = some Try.t86 := by kernel_rfl
theorem info87 : Try.prog.info? 87 = some Try.t87 := by kernel_rfl
theorem info88 : Try.prog.info? 88 = some Try.t88 := by kernel_rfl
theorem info89 : Try.prog.info? 89 = some Try.t89 := by kernel_rfl
theorem info90 : Try.prog.info? 90 = some Try.t90 := by kernel_rfl
theorem info91 : Try.prog.info? 91 = some Try.t91 := by kernel_rfl
theorem info92 : Try.prog.info? 92 = some Try.t92 := by kernel_rfl
theorem info93 : Try.prog.info? 93 = some Try.t93 := by kernel_rfl
theorem info94 : Try.prog.info? 94 = some Try.t94 := by kernel_rfl
theorem info95 : Try.prog.info? 95 = some Try.t95 := by kernel_rfl
theorem info96 : Try.prog.info? 96 = some Try.t96 := by kernel_rfl
theorem info97 : Try.prog.info? 97 = some Try.t97 := by kernel_rfl
theorem info98 : Try.prog.info? 98 = some Try.t98 := by kernel_rfl
theorem info99 : Try.prog.info? 99 = some Try.t99 := by kernel_rfl
theorem info100 : Try.prog.info? 100 = some Try.t100 := by kernel_rfl
theorem info101 : Try.prog.info? 101 = some Try.t101 := by kernel_rfl
theorem info102 : Try.prog.info? 102 = some Try.t102 := by kernel_rfl
theorem info103 : Try.prog.info? 103 = some Try.t103 := by kernel_rfl
theorem info104 : Try.prog.info? 104 = some Try.t104 := by kernel_rfl
theorem info105 : Try.prog.info? 105 = some Try.t105 := by kernel_rfl
theorem info106 : Try.prog.info? 106 = some Try.t106 := by kernel_rfl
theorem info107 : Try.prog.info? 107 = some Try.t107 := by kernel_rfl
theorem info108 : Try.prog.info? 108 = some Try.t108 := by kernel_rfl
theorem info109 : Try.prog.info? 109 = some Try.t109 := by kernel_rfl
theorem info110 : Try.prog.info? 110 = some Try.t110 := by kernel_rfl
theorem info111 : Try.prog.info? 111 = some Try.t111 := by kernel_rfl
theorem info112 : Try.prog.info? 112 = some Try.t112 := by kernel_rfl
theorem info113 : Try.prog.info? 113 = some Try.t113 := by kernel_rfl
theorem info114 : Try.prog.info? 114 = some Try.t114 := by kernel_rfl
theorem info115 : Try.prog.info? 115 = some Try.t115 := by kernel_rfl
theorem info116 : Try.prog.info? 116 = some Try.t116 := by kernel_rfl
theorem info117 : Try.prog.info? 117 = some Try.t117 := by kernel_rfl
theorem info118 : Try.prog.info? 118 = some Try.t118 := by kernel_rfl
theorem info119 : Try.prog.info? 119 = some Try.t119 := by kernel_rfl
theorem info120 : Try.prog.info? 120 = some Try.t120 := by kernel_rfl
theorem info121 : Try.prog.info? 121 = some Try.t121 := by kernel_rfl
theorem info122 : Try.prog.info? 122 = some Try.t122 := by kernel_rfl
theorem info123 : Try.prog.info? 123 = some Try.t123 := by kernel_rfl
theorem info124 : Try.prog.info? 124 = some Try.t124 := by kernel_rfl
theorem info125 : Try.prog.info? 125 = some Try.t125 := by kernel_rfl
theorem info126 : Try.prog.info? 126 = some Try.t126 := by kernel_rfl
theorem info127 : Try.prog.info? 127 = some Try.t127 := by kernel_rfl
theorem info128 : Try.prog.info? 128 = some Try.t128 := by kernel_rfl
theorem info129 : Try.prog.info? 129 = some Try.t129 := by kernel_rfl
theorem info130 : Try.prog.info? 130 = some Try.t130 := by kernel_rfl
theorem info131 : Try.prog.info? 131 = some Try.t131 := by kernel_rfl
theorem info132 : Try.prog.info? 132 = some Try.t132 := by kernel_rfl
theorem info133 : Try.prog.info? 133 = some Try.t133 := by kernel_rfl
theorem info134 : Try.prog.info? 134 = some Try.t134 := by kernel_rfl
theorem info135 : Try.prog.info? 135 = some Try.t135 := by kernel_rfl
theorem info136 : Try.prog.info? 136 = some Try.t136 := by kernel_rfl
theorem info137 : Try.prog.info? 137 = some Try.t137 := by kernel_rfl
theorem info138 : Try.prog.info? 138 = some Try.t138 := by kernel_rfl
theorem info139 : Try.prog.info? 139 = some Try.t139 := by kernel_rfl
theorem info140 : Try.prog.info? 140 = some Try.t140 := by kernel_rfl
theorem info141 : Try.prog.info? 141 = some Try.t141 := by kernel_rfl
noncomputable def tabInfo_8 : Tr (TypeInfo) := Tr.node (some Try.t127) Tr.nil Tr.nil
theorem tabInfo_8_all : ∀ k x, tabInfo_8.get k = some x → (fun n x => Try.prog.info? n = some x ∧ ∀ z, x.zero = some z → flat z = true) (128 * k + 127) x := Tr.node_all (P := fun n x => Try.prog.info? n = some x ∧ ∀ z, x.zero = some z → flat z = true) (a := 128) (b := 127) (fun _ h => by cases h; exact ⟨info127, fun z h => by cases h <;> rfl⟩) (fun k x h => by rw [Tr.get_nil] at h; cases h) (fun k x h => by rw [Tr.get_nil] at h; cases h)
noncomputable def tabInfo_7 : Tr (TypeInfo) := Tr.node (some Try.t63) tabInfo_8 Tr.nil
theorem tabInfo_7_all : ∀ k x, tabInfo_7.get k = some x → (fun n x => Try.prog.info? n = some x ∧ ∀ z, x.zero = some z → flat z = true) (64 * k + 63) x := Tr.node_all (P := fun n x => Try.prog.info? n = some x ∧ ∀ z, x.zero = some z → flat z = true) (a := 64) (b := 63) (fun _ h => by cases h; exact ⟨info63, fun z h => by cases h <;> rfl⟩) tabInfo_8_all (fun k x h => by rw [Tr.get_nil] at h; cases h)
noncomputable def tabInfo_9 : Tr (TypeInfo) := Tr.node (some Try.t95) Tr.nil Tr.nil
theorem tabInfo_9_all : ∀ k x, tabInfo_9.get k = some x → (fun n x => Try.prog.info? n = some x ∧ ∀ z, x.zero = some z → flat z = true) (64 * k + 95) x := Tr.node_all (P := fun n x => Try.prog.info? n = some x ∧ ∀ z, x.zero = some z → flat z = true) (a := 64) (b := 95) (fun _ h => by cases h; exact ⟨info95, fun z h => by cases h <;> rfl⟩) (fun k x h => by rw [Tr.get_nil] at h; cases h) (fun k x h => by rw [Tr.get_nil] at h; cases h)
noncomputable def tabInfo_6 : Tr (TypeInfo) := Tr.node (some Try.t31) tabInfo_7 tabInfo_9
theorem tabInfo_6_all : ∀ k x, tabInfo_6.get k = some x → (fun n x => Try.prog.info? n = some x ∧ ∀ z, x.zero = some z → flat z = true) (32 * k + 31) x := Tr.node_all (P := fun n x => Try.prog.info? n = some x ∧ ∀ z, x.zero = some z → flat z = true) (a := 32) (b := 31) (fun _ h => by cases h; exact ⟨info31, fun z h => by cases h <;> rfl⟩) tabInfo_7_all tabInfo_9_all
noncomputable def tabInfo_11 : Tr (TypeInfo) := Tr.node (some Try.t79) Tr.nil Tr.nil
theorem tabInfo_11_all : ∀ k x, tabInfo_11.get k = some x → (fun n x => Try.prog.info? n = some x ∧ ∀ z, x.zero = some z → flat z = true) (64 * k + 79) x := Tr.node_all (P := fun n x => Try.prog.info? n = some x ∧ ∀ z, x.zero = some z → flat z = true) (a := 64) (b := 79) (fun _ h => by cases h; exact ⟨info79, fun z h => by cases h <;> rfl⟩) (fun k x h => by rw [Tr.get_nil] at h; cases h) (fun k x h => by rw [Tr.get_nil] at h; cases h)
noncomputable def tabInfo_12 : Tr (TypeInfo) := Tr.node (some Try.t111) Tr.nil Tr.nil
theorem tabInfo_12_all : ∀ k x, tabInfo_12.get k = some x → (fun n x => Try.prog.info? n = some x ∧ ∀ z, x.zero = some z → flat z = true) (64 * k + 111) x := Tr.node_all (P := fun n x => Try.prog.info? n = some x ∧ ∀ z, x.zero = some z → flat z = true) (a := 64) (b := 111) (fun _ h => by cases h; exact ⟨info111, fun z h => by cases h <;> rfl⟩) (fun k x h => by rw [Tr.get_nil] at h; cases h) (fun k x h => by rw [Tr.get_nil] at h; cases h)
noncomputable def tabInfo_10 : Tr (TypeInfo) := Tr.node (some Try.t47) tabInfo_11 tabInfo_12
theorem tabInfo_10_all : ∀ k x, tabInfo_10.get k = some x → (fun n x => Try.prog.info? n = some x ∧ ∀ z, x.zero = some z → flat z = true) (32 * k + 47) x := Tr.node_all (P := fun n x => Try.prog.info? n = some x ∧ ∀ z, x.zero = some z → flat z = true) (a := 32) (b := 47) (fun _ h => by cases h; exact ⟨info47, fun z h => by cases h <;> rfl⟩) tabInfo_11_all tabInfo_12_all
noncomputable def tabInfo_5 : Tr (TypeInfo) := Tr.node (some Try.t15) tabInfo_6 tabInfo_10
theorem tabInfo_5_all : ∀ k x, tabInfo_5.get k = some x → (fun n x => Try.prog.info? n = some x ∧ ∀ z, x.zero = some z → flat z = true) (16 * k + 15) x := Tr.node_all (P := fun n x => Try.prog.info? n = some x ∧ ∀ z, x.zero = some z → flat z = true) (a := 16) (b := 15) (fun _ h => by cases h; exact ⟨info15, fun z h => by cases h <;> rfl⟩) tabInfo_6_all tabInfo_10_all
noncomputable def tabInfo_16 : Tr (TypeInfo) := Tr.node (some Try.t135) Tr.nil Tr.nil
theorem tabInfo_16_all : ∀ k x, tabInfo_16.get k = some x → (fun n x => Try.prog.info? n = some x ∧ ∀ z, x.zero = some z → flat z = true) (128 * k + 135) x := Tr.node_all (P := fun n x => Try.prog.info? n = some x ∧ ∀ z, x.zero = some z → flat z = true) (a := 128) (b := 135) (fun _ h => by cases h; exact ⟨info135, fun z h => by cases h <;> rfl⟩) (fun k x h => by rw [Tr.get_nil] at h; cases h) (fun k x h => by rw [Tr.get_nil] at h; cases h)
noncomputable def tabInfo_15 : Tr (TypeInfo) := Tr.node (some Try.t71) tabInfo_16 Tr.nil
theorem tabInfo_15_all : ∀ k x, tabInfo_15.get k = some x → (fun n x => Try.prog.info? n = some x ∧ ∀ z, x.zero = some z → flat z = true) (64 * k + 71) x := Tr.node_all (P := fun n x => Try.prog.info? n = some x ∧ ∀ z, x.zero = some z → flat z = true) (a := 64) (b := 71) (fun _ h => by cases h; exact ⟨info71, fun z h => by cases h <;> rfl⟩) tabInfo_16_all (fun k x h => by rw [Tr.get_nil] at h; cases h)
noncomputable def tabInfo_17 : Tr (TypeInfo) := Tr.node (some Try.t103) Tr.nil Tr.nil
theorem tabInfo_17_all : ∀ k x, tabInfo_17.get k = some x → (fun n x => Try.prog.info? n = some x ∧ ∀ z, x.zero = some z → flat z = true) (64 * k + 103) x := Tr.node_all (P := fun n x => Try.prog.info? n = some x ∧ ∀ z, x.zero = some z → flat z = true) (a := 64) (b := 103) (fun _ h => by cases h; exact ⟨info103, fun z h => by cases h <;> rfl⟩) (fun k x h => by rw [Tr.get_nil] at h; cases h) (fun k x h => by rw [Tr.get_nil] at h; cases h)
noncomputable def tabInfo_14 : Tr (TypeInfo) := Tr.node (some Try.t39) tabInfo_15 tabInfo_17
theorem tabInfo_14_all : ∀ k x, tabInfo_14.get k = some x → (fun n x => Try.prog.info? n = some x ∧ ∀ z, x.zero = some z → flat z = true) (32 * k + 39) x := Tr.node_all (P := fun n x => Try.prog.info? n = some x ∧ ∀ z, x.zero = some z → flat z = true) (a := 32) (b := 39) (fun _ h => by cases h; exact ⟨info39, fun z h => by cases h <;> rfl⟩) tabInfo_15_all tabInfo_17_all
noncomputable def tabInfo_19 : Tr (TypeInfo) := Tr.node (some Try.t87) Tr.nil Tr.nil
theorem tabInfo_19_all : ∀ k x, tabInfo_19.get k = some x → (fun n x => Try.prog.info? n = some x ∧ ∀ z, x.zero = some z → flat z = true) (64 * k + 87) x := Tr.node_all (P := fun n x => Try.prog.info? n = some x ∧ ∀ z, x.zero = some z → flat z = true) (a := 64) (b := 87) (fun _ h => by cases h; exact ⟨info87, fun z h => by cases h <;> rfl⟩) (fun k x h => by rw [Tr.get_nil] at h; cases h) (fun k x h => by rw [Tr.get_nil] at h; cases h)
noncomputable def tabInfo_20 : Tr (TypeInfo) := Tr.node (some Try.t119) Tr.nil Tr.nil
theorem tabInfo_20_all : ∀ k x, tabInfo_20.get k = some x → (fun n x => Try.prog.info? n = some x ∧ ∀ z, x.zero = some z → flat z = true) (64 * k + 119) x := Tr.node_all (P := fun n x => Try.prog.info? n = some x ∧ ∀ z, x.zero = some z → flat z = true) (a := 64) (b := 119) (fun _ h => by cases h; exact ⟨info119, fun z h => by cases h <;> rfl⟩) (fun k x h => by rw [Tr.get_nil] at h; cases h) (fun k x h => by rw [Tr.get_nil] at h; cases h)
noncomputable def tabInfo_18 : Tr (TypeInfo) := Tr.node (some Try.t55) tabInfo_19 tabInfo_20
theorem tabInfo_18_all : ∀ k x, tabInfo_18.get k = some x → (fun n x => Try.prog.info? n = some x ∧ ∀ z, x.zero = some z → flat z = true) (32 * k + 55) x := Tr.node_all (P := fun n x => Try.prog.info? n = some x ∧ ∀ z, x.zero = some z → flat z = true) (a := 32) (b := 55) (fun _ h => by cases h; exact ⟨info55, fun z h => by cases h <;> rfl⟩) tabInfo_19_all tabInfo_20_all
noncomputable def tabInfo_13 : Tr (TypeInfo) := Tr.node (some Try.t23) tabInfo_14 tabInfo_18
theorem tabInfo_13_all : ∀ k x, tabInfo_13.get k = some x → (fun n x => Try.prog.info? n = some x ∧ ∀ z, x.zero = some z → flat z = true) (16 * k + 23) x := Tr.node_all (P := fun n x => Try.prog.info? n = some x ∧ ∀ z, x.zero = some z → flat z = true) (a := 16) (b := 23) (fun _ h => by cases h; exact ⟨info23, fun z h => by cases h <;> rfl⟩) tabInfo_14_all tabInfo_18_all
noncomputable def tabInfo_4 : Tr (TypeInfo) := Tr.node (some Try.t7) tabInfo_5 tabInfo_13
theorem tabInfo_4_all : ∀ k x, tabInfo_4.get k = some x → (fun n x => Try.prog.info? n = some x ∧ ∀ z, x.zero = some z → flat z = true) (8 * k + 7) x := Tr.node_all (P := fun n x => Try.prog.info? n = some x ∧ ∀ z, x.zero = some z → flat z = true) (a := 8) (b := 7) (fun _ h => by cases h; exact ⟨info7, fun z h => by cases h <;> rfl⟩) tabInfo_5_all tabInfo_13_all
noncomputable def tabInfo_25 : Tr (TypeInfo) := Tr.node (some Try.t131) Tr.nil Tr.nil
theorem tabInfo_25_all : ∀ k x, tabInfo_25.get k = some x → (fun n x => Try.prog.info? n = some x ∧ ∀ z, x.zero = some z → flat z = true) (128 * k + 131) x := Tr.node_all (P := fun n x => Try.prog.info? n = some x ∧ ∀ z, x.zero = some z → flat z = true) (a := 128) (b := 131) (fun _ h => by cases h; exact ⟨info131, fun z h => by cases h <;> rfl⟩) (fun k x h => by rw [Tr.get_nil] at h; cases h) (fun k x h => by rw [Tr.get_nil] at h; cases h)
noncomputable def tabInfo_24 : Tr (TypeInfo) := Tr.node (some Try.t67) tabInfo_25 Tr.nil
theorem tabInfo_24_all : ∀ k x, tabInfo_24.get k = some x → (fun n x => Try.prog.info? n = some x ∧ ∀ z, x.zero = some z → flat z = true) (64 * k + 67) x := Tr.node_all (P := fun n x => Try.prog.info? n = some x ∧ ∀ z, x.zero = some z → flat z = true) (a := 64) (b := 67) (fun _ h => by cases h; exact ⟨info67, fun z h => by cases h <;> rfl⟩) tabInfo_25_all (fun k x h => by rw [Tr.get_nil] at h; cases h)
noncomputable def tabInfo_26 : Tr (TypeInfo) := Tr.node (some Try.t99) Tr.nil Tr.nil
theorem tabInfo_26_all : ∀ k x, tabInfo_26.get k = some x → (fun n x => Try.prog.info? n = some x ∧ ∀ z, x.zero = some z → flat z = true) (64 * k + 99) x := Tr.node_all (P := fun n x => Try.prog.info? n = some x ∧ ∀ z, x.zero = some z → flat z = true) (a := 64) (b := 99) (fun _ h => by cases h; exact ⟨info99, fun z h => by cases h <;> rfl⟩) (fun k x h => by rw [Tr.get_nil] at h; cases h) (fun k x h => by rw [Tr.get_nil] at h; cases h)
noncomputable def tabInfo_23 : Tr (TypeInfo) := Tr.node (some Try.t35) tabInfo_24 tabInfo_26
theorem tabInfo_23_all : ∀ k x, tabInfo_23.get k = some x → (fun n x => Try.prog.info? n = some x ∧ ∀ z, x.zero = some z → flat z = true) (32 * k + 35) x := Tr.node_all (P := fun n x => Try.prog.info? n = some x ∧ ∀ z, x.zero = some z → flat z = true) (a := 32) (b := 35) (fun _ h => by cases h; exact ⟨info35, fun z h => by cases h <;> rfl⟩) tabInfo_24_all tabInfo_26_all
noncomputable def tabInfo_28 : Tr (TypeInfo) := Tr.node (some Try.t83) Tr.nil Tr.nil
theorem tabInfo_28_all : ∀ k x, tabInfo_28.get k = some x → (fun n x => Try.prog.info? n = some x ∧ ∀ z, x.zero = some z → flat z = true) (64 * k + 83) x := Tr.node_all (P := fun n x => Try.prog.info? n = some x ∧ ∀ z, x.zero = some z → flat z = true) (a := 64) (b := 83) (fun _ h => by cases h; exact ⟨info83, fun z h => by cases h <;> rfl⟩) (fun k x h => by rw [Tr.get_nil] at h; cases h) (fun k x h => by rw [Tr.get_nil] at h; cases h)
noncomputable def tabInfo_29 : Tr (TypeInfo) := Tr.node (some Try.t115) Tr.nil Tr.nil
theorem tabInfo_29_all : ∀ k x, tabInfo_29.get k = some x → (fun n x => Try.prog.info? n = some x ∧ ∀ z, x.zero = some z → flat z = true) (64 * k + 115) x := Tr.node_all (P := fun n x => Try.prog.info? n = some x ∧ ∀ z, x.zero = some z → flat z = true) (a := 64) (b := 115) (fun _ h => by cases h; exact ⟨info115, fun z h => by cases h <;> rfl⟩) (fun k x h => by rw [Tr.get_nil] at h; cases h) (fun k x h => by rw [Tr.get_nil] at h; cases h)
noncomputable def tabInfo_27 : Tr (TypeInfo) := Tr.node (some Try.t51) tabInfo_28 tabInfo_29
theorem tabInfo_27_all : ∀ k x, tabInfo_27.get k = some x → (fun n x => Try.prog.info? n = some x ∧ ∀ z, x.zero = some z → flat z = true) (32 * k + 51) x := Tr.node_all (P := fun n x => Try.prog.info? n = some x ∧ ∀ z, x.zero = some z → flat z = true) (a := 32) (b := 51) (fun _ h => by cases h; exact ⟨info51, fun z h => by cases h <;> rfl⟩) tabInfo_28_all tabInfo_29_all
noncomputable def tabInfo_22 : Tr (TypeInfo) := Tr.node (some Try.t19) tabInfo_23 tabInfo_27
theorem tabInfo_22_all : ∀ k x, tabInfo_22.get k = some x → (fun n x => Try.prog.info? n = some x ∧ ∀ z, x.zero = some z → flat z = true) (16 * k + 19) x := Tr.node_all (P := fun n x => Try.prog.info? n = some x ∧ ∀ z, x.zero = some z → flat z = true) (a := 16) (b := 19) (fun _ h => by cases h; exact ⟨info19, fun z h => by cases h <;> rfl⟩) tabInfo_23_all tabInfo_27_all
noncomputable def tabInfo_33 : Tr (TypeInfo) := Tr.node (some Try.t139) Tr.nil Tr.nil
theorem tabInfo_33_all : ∀ k x, tabInfo_33.get k = some x → (fun n x => Try.prog.info? n = some x ∧ ∀ z, x.zero = some z → flat z = true) (128 * k + 139) x := Tr.node_all (P := fun n x => Try.prog.info? n = some x ∧ ∀ z, x.zero = some z → flat z = true) (a := 128) (b := 139) (fun _ h => by cases h; exact ⟨info139, fun z h => by cases h <;> rfl⟩) (fun k x h => by rw [Tr.get_nil] at h; cases h) (fun k x h => by rw [Tr.get_nil] at h; cases h)
noncomputable def tabInfo_32 : Tr (TypeInfo) := Tr.node (some Try.t75) tabInfo_33 Tr.nil
theorem tabInfo_32_all : ∀ k x, tabInfo_32.get k = some x → (fun n x => Try.prog.info? n = some x ∧ ∀ z, x.zero = some z → flat z = true) (64 * k + 75) x := Tr.node_all (P := fun n x => Try.prog.info? n = some x ∧ ∀ z, x.zero = some z → flat z = true) (a := 64) (b := 75) (fun _ h => by cases h; exact ⟨info75, fun z h => by cases h <;> rfl⟩) tabInfo_33_all (fun k x h => by rw [Tr.get_nil] at h; cases h)
noncomputable def tabInfo_34 : Tr (TypeInfo) := Tr.node (some Try.t107) Tr.nil Tr.nil
theorem tabInfo_34_all : ∀ k x, tabInfo_34.get k = some x → (fun n x => Try.prog.info? n = some x ∧ ∀ z, x.zero = some z → flat z = true) (64 * k + 107) x := Tr.node_all (P := fun n x => Try.prog.info? n = some x ∧ ∀ z, x.zero = some z → flat z = true) (a := 64) (b := 107) (fun _ h => by cases h; exact ⟨info107, fun z h => by cases h <;> rfl⟩) (fun k x h => by rw [Tr.get_nil] at h; cases h) (fun k x h => by rw [Tr.get_nil] at h; cases h)
noncomputable def tabInfo_31 : Tr (TypeInfo) := Tr.node (some Try.t43) tabInfo_32 tabInfo_34
theorem tabInfo_31_all : ∀ k x, tabInfo_31.get k = some x → (fun n x => Try.prog.info? n = some x ∧ ∀ z, x.zero = some z → flat z = true) (32 * k + 43) x := Tr.node_all (P := fun n x => Try.prog.info? n = some x ∧ ∀ z, x.zero = some z → flat z = true) (a := 32) (b := 43) (fun _ h => by cases h; exact ⟨info43, fun z h => by cases h <;> rfl⟩) tabInfo_32_all tabInfo_34_all
noncomputable def tabInfo_36 : Tr (TypeInfo) := Tr.node (some Try.t123) Tr.nil Tr.nil
theorem tabInfo_36_all : ∀ k x, tabInfo_36.get k = some x → (fun n x => Try.prog.info? n = some x ∧ ∀ z, x.zero = some z → flat z = true) (64 * k + 123) x := Tr.node_all (P := fun n x => Try.prog.info? n = some x ∧ ∀ z, x.zero = some z → flat z = true) (a := 64) (b := 123) (fun _ h => by cases h; exact ⟨info123, fun z h => by cases h <;> rfl⟩) (fun k x h => by rw [Tr.get_nil] at h; cases h) (fun k x h => by rw [Tr.get_nil] at h; cases h)
noncomputable def tabInfo_35 : Tr (TypeInfo) := Tr.node (some Try.t59) Tr.nil tabInfo_36
theorem tabInfo_35_all : ∀ k x, tabInfo_35.get k = some x → (fun n x => Try.prog.info? n = some x ∧ ∀ z, x.zero = some z → flat z = true) (32 * k + 59) x := Tr.node_all (P := fun n x => Try.prog.info? n = some x ∧ ∀ z, x.zero = some z → flat z = true) (a := 32) (b := 59) (fun _ h => by cases h; exact ⟨info59, fun z h => by cases h <;> rfl⟩) (fun k x h => by rw [Tr.get_nil] at h; cases h) tabInfo_36_all
noncomputable def tabInfo_30 : Tr (TypeInfo) := Tr.node (some Try.t27) tabInfo_31 tabInfo_35
theorem tabInfo_30_all : ∀ k x, tabInfo_30.get k = some x → (fun n x => Try.prog.info? n = some x ∧ ∀ z, x.zero = some z → flat z = true) (16 * k + 27) x := Tr.node_all (P := fun n x => Try.prog.info? n = some x ∧ ∀ z, x.zero = some z → flat z = true) (a := 16) (b := 27) (fun _ h => by cases h; exact ⟨info27, fun z h => by cases h <;> rfl⟩) tabInfo_31_all tabInfo_35_all
noncomputable def tabInfo_21 : Tr (TypeInfo) := Tr.node (some Try.t11) tabInfo_22 tabInfo_30
theorem tabInfo_21_all : ∀ k x, tabInfo_21.get k = some x → (fun n x => Try.prog.info? n = some x ∧ ∀ z, x.zero = some z → flat z = true) (8 * k + 11) x := Tr.node_all (P := fun n x => Try.prog.info? n = some x ∧ ∀ z, x.zero = some z → flat z = true) (a := 8) (b := 11) (fun _ h => by cases h; exact ⟨info11, fun z h => by cases h <;> rfl⟩) tabInfo_22_all tabInfo_30_all
noncomputable def tabInfo_3 : Tr (TypeInfo) := Tr.node (some Try.t3) tabInfo_4 tabInfo_21
theorem tabInfo_3_all : ∀ k x, tabInfo_3.get k = some x → (fun n x => Try.prog.info? n = some x ∧ ∀ z, x.zero = some z → flat z = true) (4 * k + 3) x := Tr.node_all (P := fun n x => Try.prog.info? n = some x ∧ ∀ z, x.zero = some z → flat z = true) (a := 4) (b := 3) (fun _ h => by cases h; exact ⟨info3, fun z h => by cases h <;> rfl⟩) tabInfo_4_all tabInfo_21_all
noncomputable def tabInfo_42 : Tr (TypeInfo) := Tr.node (some Try.t129) Tr.nil Tr.nil
theorem tabInfo_42_all : ∀ k x, tabInfo_42.get k = some x → (fun n x => Try.prog.info? n = some x ∧ ∀ z, x.zero = some z → flat z = true) (128 * k + 129) x := Tr.node_all (P := fun n x => Try.prog.info? n = some x ∧ ∀ z, x.zero = some z → flat z = true) (a := 128) (b := 129) (fun _ h => by cases h; exact ⟨info129, fun z h => by cases h <;> rfl⟩) (fun k x h => by rw [Tr.get_nil] at h; cases h) (fun k x h => by rw [Tr.get_nil] at h; cases h)
noncomputable def tabInfo_41 : Tr (TypeInfo) := Tr.node (some Try.t65) tabInfo_42 Tr.nil
theorem tabInfo_41_all : ∀ k x, tabInfo_41.get k = some x → (fun n x => Try.prog.info? n = some x ∧ ∀ z, x.zero = some z → flat z = true) (64 * k + 65) x := Tr.node_all (P := fun n x => Try.prog.info? n = some x ∧ ∀ z, x.zero = some z → flat z = true) (a := 64) (b := 65) (fun _ h => by cases h; exact ⟨info65, fun z h => by cases h <;> rfl⟩) tabInfo_42_all (fun k x h => by rw [Tr.get_nil] at h; cases h)
noncomputable def tabInfo_43 : Tr (TypeInfo) := Tr.node (some Try.t97) Tr.nil Tr.nil
theorem tabInfo_43_all : ∀ k x, tabInfo_43.get k = some x → (fun n x => Try.prog.info? n = some x ∧ ∀ z, x.zero = some z → flat z = true) (64 * k + 97) x := Tr.node_all (P := fun n x => Try.prog.info? n = some x ∧ ∀ z, x.zero = some z → flat z = true) (a := 64) (b := 97) (fun _ h => by cases h; exact ⟨info97, fun z h => by cases h <;> rfl⟩) (fun k x h => by rw [Tr.get_nil] at h; cases h) (fun k x h => by rw [Tr.get_nil] at h; cases h)
noncomputable def tabInfo_40 : Tr (TypeInfo) := Tr.node (some Try.t33) tabInfo_41 tabInfo_43
theorem tabInfo_40_all : ∀ k x, tabInfo_40.get k = some x → (fun n x => Try.prog.info? n = some x ∧ ∀ z, x.zero = some z → flat z = true) (32 * k + 33) x := Tr.node_all (P := fun n x => Try.prog.info? n = some x ∧ ∀ z, x.zero = some z → flat z = true) (a := 32) (b := 33) (fun _ h => by cases h; exact ⟨info33, fun z h => by cases h <;> rfl⟩) tabInfo_41_all tabInfo_43_all
noncomputable def tabInfo_45 : Tr (TypeInfo) := Tr.node (some Try.t81) Tr.nil Tr.nil
theorem tabInfo_45_all : ∀ k x, tabInfo_45.get k = some x → (fun n x => Try.prog.info? n = some x ∧ ∀ z, x.zero = some z → flat z = true) (64 * k + 81) x := Tr.node_all (P := fun n x => Try.prog.info? n = some x ∧ ∀ z, x.zero = some z → flat z = true) (a := 64) (b := 81) (fun _ h => by cases h; exact ⟨info81, fun z h => by cases h <;> rfl⟩) (fun k x h => by rw [Tr.get_nil] at h; cases h) (fun k x h => by rw [Tr.get_nil] at h; cases h)
noncomputable def tabInfo_46 : Tr (TypeInfo) := Tr.node (some Try.t113) Tr.nil Tr.nil
theorem tabInfo_46_all : ∀ k x, tabInfo_46.get k = some x → (fun n x => Try.prog.info? n = some x ∧ ∀ z, x.zero = some z → flat z = true) (64 * k + 113) x := Tr.node_all (P := fun n x => Try.prog.info? n = some x ∧ ∀ z, x.zero = some z → flat z = true) (a := 64) (b := 113) (fun _ h => by cases h; exact ⟨info113, fun z h => by cases h <;> rfl⟩) (fun k x h => by rw [Tr.get_nil] at h; cases h) (fun k x h => by rw [Tr.get_nil] at h; cases h)
noncomputable def tabInfo_44 : Tr (TypeInfo) := Tr.node (some Try.t49) tabInfo_45 tabInfo_46
theorem tabInfo_44_all : ∀ k x, tabInfo_44.get k = some x → (fun n x => Try.prog.info? n = some x ∧ ∀ z, x.zero = some z → flat z = true) (32 * k + 49) x := Tr.node_all (P := fun n x => Try.prog.info? n = some x ∧ ∀ z, x.zero = some z → flat z = true) (a := 32) (b := 49) (fun _ h => by cases h; exact ⟨info49, fun z h => by cases h <;> rfl⟩) tabInfo_45_all tabInfo_46_all
noncomputable def tabInfo_39 : Tr (TypeInfo) := Tr.node (some Try.t17) tabInfo_40 tabInfo_44
theorem tabInfo_39_all : ∀ k x, tabInfo_39.get k = some x → (fun n x => Try.prog.info? n = some x ∧ ∀ z, x.zero = some z → flat z = true) (16 * k + 17) x := Tr.node_all (P := fun n x => Try.prog.info? n = some x ∧ ∀ z, x.zero = some z → flat z = true) (a := 16) (b := 17) (fun _ h => by cases h; exact ⟨info17, fun z h => by cases h <;> rfl⟩) tabInfo_40_all tabInfo_44_all
noncomputable def tabInfo_50 : Tr (TypeInfo) := Tr.node (some Try.t137) Tr.nil Tr.nil
theorem tabInfo_50_all : ∀ k x, tabInfo_50.get k = some x → (fun n x => Try.prog.info? n = some x ∧ ∀ z, x.zero = some z → flat z = true) (128 * k + 137) x := Tr.node_all (P := fun n x => Try.prog.info? n = some x ∧ ∀ z, x.zero = some z → flat z = true) (a := 128) (b := 137) (fun _ h => by cases h; exact ⟨info137, fun z h => by cases h <;> rfl⟩) (fun k x h => by rw [Tr.get_nil] at h; cases h) (fun k x h => by rw [Tr.get_nil] at h; cases h)
noncomputable def tabInfo_49 : Tr (TypeInfo) := Tr.node (some Try.t73) tabInfo_50 Tr.nil
theorem tabInfo_49_all : ∀ k x, tabInfo_49.get k = some x → (fun n x => Try.prog.info? n = some x ∧ ∀ z, x.zero = some z → flat z = true) (64 * k + 73) x := Tr.node_all (P := fun n x => Try.prog.info? n = some x ∧ ∀ z, x.zero = some z → flat z = true) (a := 64) (b := 73) (fun _ h => by cases h; exact ⟨info73, fun z h => by cases h <;> rfl⟩) tabInfo_50_all (fun k x h => by rw [Tr.get_nil] at h; cases h)
noncomputable def tabInfo_51 : Tr (TypeInfo) := Tr.node (some Try.t105) Tr.nil Tr.nil
theorem tabInfo_51_all : ∀ k x, tabInfo_51.get k = some x → (fun n x => Try.prog.info? n = some x ∧ ∀ z, x.zero = some z → flat z = true) (64 * k + 105) x := Tr.node_all (P := fun n x => Try.prog.info? n = some x ∧ ∀ z, x.zero = some z → flat z = true) (a := 64) (b := 105) (fun _ h => by cases h; exact ⟨info105, fun z h => by cases h <;> rfl⟩) (fun k x h => by rw [Tr.get_nil] at h; cases h) (fun k x h => by rw [Tr.get_nil] at h; cases h)
noncomputable def tabInfo_48 : Tr (TypeInfo) := Tr.node (some Try.t41) tabInfo_49 tabInfo_51
theorem tabInfo_48_all : ∀ k x, tabInfo_48.get k = some x → (fun n x => Try.prog.info? n = some x ∧ ∀ z, x.zero = some z → flat z = true) (32 * k + 41) x := Tr.node_all (P := fun n x => Try.prog.info? n = some x ∧ ∀ z, x.zero = some z → flat z = true) (a := 32) (b := 41) (fun _ h => by cases h; exact ⟨info41, fun z h => by cases h <;> rfl⟩) tabInfo_49_all tabInfo_51_all
noncomputable def tabInfo_53 : Tr (TypeInfo) := Tr.node (some Try.t89) Tr.nil Tr.nil
theorem tabInfo_53_all : ∀ k x, tabInfo_53.get k = some x → (fun n x => Try.prog.info? n = some x ∧ ∀ z, x.zero = some z → flat z = true) (64 * k + 89) x := Tr.node_all (P := fun n x => Try.prog.info? n = some x ∧ ∀ z, x.zero = some z → flat z = true) (a := 64) (b := 89) (fun _ h => by cases h; exact ⟨info89, fun z h => by cases h <;> rfl⟩) (fun k x h => by rw [Tr.get_nil] at h; cases h) (fun k x h => by rw [Tr.get_nil] at h; cases h)
noncomputable def tabInfo_54 : Tr (TypeInfo) := Tr.node (some Try.t121) Tr.nil Tr.nil
theorem tabInfo_54_all : ∀ k x, tabInfo_54.get k = some x → (fun n x => Try.prog.info? n = some x ∧ ∀ z, x.zero = some z → flat z = true) (64 * k + 121) x := Tr.node_all (P := fun n x => Try.prog.info? n = some x ∧ ∀ z, x.zero = some z → flat z = true) (a := 64) (b := 121) (fun _ h => by cases h; exact ⟨info121, fun z h => by cases h <;> rfl⟩) (fun k x h => by rw [Tr.get_nil] at h; cases h) (fun k x h => by rw [Tr.get_nil] at h; cases h)
noncomputable def tabInfo_52 : Tr (TypeInfo) := Tr.node (some Try.t57) tabInfo_53 tabInfo_54
theorem tabInfo_52_all : ∀ k x, tabInfo_52.get k = some x → (fun n x => Try.prog.info? n = some x ∧ ∀ z, x.zero = some z → flat z = true) (32 * k + 57) x := Tr.node_all (P := fun n x => Try.prog.info? n = some x ∧ ∀ z, x.zero = some z → flat z = true) (a := 32) (b := 57) (fun _ h => by cases h; exact ⟨info57, fun z h => by cases h <;> rfl⟩) tabInfo_53_all tabInfo_54_all
noncomputable def tabInfo_47 : Tr (TypeInfo) := Tr.node (some Try.t25) tabInfo_48 tabInfo_52
theorem tabInfo_47_all : ∀ k x, tabInfo_47.get k = some x → (fun n x => Try.prog.info? n = some x ∧ ∀ z, x.zero = some z → flat z = true) (16 * k + 25) x := Tr.node_all (P := fun n x => Try.prog.info? n = some x ∧ ∀ z, x.zero = some z → flat z = true) (a := 16) (b := 25) (fun _ h => by cases h; exact ⟨info25, fun z h => by cases h <;> rfl⟩) tabInfo_48_all tabInfo_52_all
noncomputable def tabInfo_38 : Tr (TypeInfo) := Tr.node (some Try.t9) tabInfo_39 tabInfo_47
theorem tabInfo_38_all : ∀ k x, tabInfo_38.get k = some x → (fun n x => Try.prog.info? n = some x ∧ ∀ z, x.zero = some z → flat z = true) (8 * k + 9) x := Tr.node_all (P := fun n x => Try.prog.info? n = some x ∧ ∀ z, x.zero = some z → flat z = true) (a := 8) (b := 9) (fun _ h => by cases h; exact ⟨info9, fun z h => by cases h <;> rfl⟩) tabInfo_39_all tabInfo_47_all
noncomputable def tabInfo_59 : Tr (TypeInfo) := Tr.node (some Try.t133) Tr.nil Tr.nil
theorem tabInfo_59_all : ∀ k x, tabInfo_59.get k = some x → (fun n x => Try.prog.info? n = some x ∧ ∀ z, x.zero = some z → flat z = true) (128 * k + 133) x := Tr.node_all (P := fun n x => Try.prog.info? n = some x ∧ ∀ z, x.zero = some z → flat z = true) (a := 128) (b := 133) (fun _ h => by cases h; exact ⟨info133, fun z h => by cases h <;> rfl⟩) (fun k x h => by rw [Tr.get_nil] at h; cases h) (fun k x h => by rw [Tr.get_nil] at h; cases h)
noncomputable def tabInfo_58 : Tr (TypeInfo) := Tr.node (some Try.t69) tabInfo_59 Tr.nil
theorem tabInfo_58_all : ∀ k x, tabInfo_58.get k = some x → (fun n x => Try.prog.info? n = some x ∧ ∀ z, x.zero = some z → flat z = true) (64 * k + 69) x := Tr.node_all (P := fun n x => Try.prog.info? n = some x ∧ ∀ z, x.zero = some z → flat z = true) (a := 64) (b := 69) (fun _ h => by cases h; exact ⟨info69, fun z h => by cases h <;> rfl⟩) tabInfo_59_all (fun k x h => by rw [Tr.get_nil] at h; cases h)
noncomputable def tabInfo_60 : Tr (TypeInfo) := Tr.node (some Try.t101) Tr.nil Tr.nil
theorem tabInfo_60_all : ∀ k x, tabInfo_60.get k = some x → (fun n x => Try.prog.info? n = some x ∧ ∀ z, x.zero = some z → flat z = true) (64 * k + 101) x := Tr.node_all (P := fun n x => Try.prog.info? n = some x ∧ ∀ z, x.zero = some z → flat z = true) (a := 64) (b := 101) (fun _ h => by cases h; exact ⟨info101, fun z h => by cases h <;> rfl⟩) (fun k x h => by rw [Tr.get_nil] at h; cases h) (fun k x h => by rw [Tr.get_nil] at h; cases h)
noncomputable def tabInfo_57 : Tr (TypeInfo) := Tr.node (some Try.t37) tabInfo_58 tabInfo_60
theorem tabInfo_57_all : ∀ k x, tabInfo_57.get k = some x → (fun n x => Try.prog.info? n = some x ∧ ∀ z, x.zero = some z → flat z = true) (32 * k + 37) x := Tr.node_all (P := fun n x => Try.prog.info? n = some x ∧ ∀ z, x.zero = some z → flat z = true) (a := 32) (b := 37) (fun _ h => by cases h; exact ⟨info37, fun z h => by cases h <;> rfl⟩) tabInfo_58_all tabInfo_60_all
noncomputable def tabInfo_62 : Tr (TypeInfo) := Tr.node (some Try.t85) Tr.nil Tr.nil
theorem tabInfo_62_all : ∀ k x, tabInfo_62.get k = some x → (fun n x => Try.prog.info? n = some x ∧ ∀ z, x.zero = some z → flat z = true) (64 * k + 85) x := Tr.node_all (P := fun n x => Try.prog.info? n = some x ∧ ∀ z, x.zero = some z → flat z = true) (a := 64) (b := 85) (fun _ h => by cases h; exact ⟨info85, fun z h => by cases h <;> rfl⟩) (fun k x h => by rw [Tr.get_nil] at h; cases h) (fun k x h => by rw [Tr.get_nil] at h; cases h)
noncomputable def tabInfo_63 : Tr (TypeInfo) := Tr.node (some Try.t117) Tr.nil Tr.nil
theorem tabInfo_63_all : ∀ k x, tabInfo_63.get k = some x → (fun n x => Try.prog.info? n = some x ∧ ∀ z, x.zero = some z → flat z = true) (64 * k + 117) x := Tr.node_all (P := fun n x => Try.prog.info? n = some x ∧ ∀ z, x.zero = some z → flat z = true) (a := 64) (b := 117) (fun _ h => by cases h; exact ⟨info117, fun z h => by cases h <;> rfl⟩) (fun k x h => by rw [Tr.get_nil] at h; cases h) (fun k x h => by rw [Tr.get_nil] at h; cases h)
noncomputable def tabInfo_61 : Tr (TypeInfo) := Tr.node (some Try.t53) tabInfo_62 tabInfo_63
theorem tabInfo_61_all : ∀ k x, tabInfo_61.get k = some x → (fun n x => Try.prog.info? n = some x ∧ ∀ z, x.zero = some z → flat z = true) (32 * k + 53) x := Tr.node_all (P := fun n x => Try.prog.info? n = some x ∧ ∀ z, x.zero = some z → flat z = true) (a := 32) (b := 53) (fun _ h => by cases h; exact ⟨info53, fun z h => by cases h <;> rfl⟩) tabInfo_62_all tabInfo_63_all
noncomputable def tabInfo_56 : Tr (TypeInfo) := Tr.node (some Try.t21) tabInfo_57 tabInfo_61
theorem tabInfo_56_all : ∀ k x, tabInfo_56.get k = some x → (fun n x => Try.prog.info? n = some x ∧ ∀ z, x.zero = some z → flat z = true) (16 * k + 21) x := Tr.node_all (P := fun n x => Try.prog.info? n = some x ∧ ∀ z, x.zero = some z → flat z = true) (a := 16) (b := 21) (fun _ h => by cases h; exact ⟨info21, fun z h => by cases h <;> rfl⟩) tabInfo_57_all tabInfo_61_all
noncomputable def tabInfo_67 : Tr (TypeInfo) := Tr.node (some Try.t141) Tr.nil Tr.nil
theorem tabInfo_67_all : ∀ k x, tabInfo_67.get k = some x → (fun n x => Try.prog.info? n = some x ∧ ∀ z, x.zero = some z → flat z = true) (128 * k + 141) x := Tr.node_all (P := fun n x => Try.prog.info? n = some x ∧ ∀ z, x.zero = some z → flat z = true) (a := 128) (b := 141) (fun _ h => by cases h; exact ⟨info141, fun z h => by cases h <;> rfl⟩) (fun k x h => by rw [Tr.get_nil] at h; cases h) (fun k x h => by rw [Tr.get_nil] at h; cases h)
noncomputable def tabInfo_66 : Tr (TypeInfo) := Tr.node (some Try.t77) tabInfo_67 Tr.nil
theorem tabInfo_66_all : ∀ k x, tabInfo_66.get k = some x → (fun n x => Try.prog.info? n = some x ∧ ∀ z, x.zero = some z → flat z = true) (64 * k + 77) x := Tr.node_all (P := fun n x => Try.prog.info? n = some x ∧ ∀ z, x.zero = some z → flat z = true) (a := 64) (b := 77) (fun _ h => by cases h; exact ⟨info77, fun z h => by cases h <;> rfl⟩) tabInfo_67_all (fun k x h => by rw [Tr.get_nil] at h; cases h)
noncomputable def tabInfo_68 : Tr (TypeInfo) := Tr.node (some Try.t109) Tr.nil Tr.nil
theorem tabInfo_68_all : ∀ k x, tabInfo_68.get k = some x → (fun n x => Try.prog.info? n = some x ∧ ∀ z, x.zero = some z → flat z = true) (64 * k + 109) x := Tr.node_all (P := fun n x => Try.prog.info? n = some x ∧ ∀ z, x.zero = some z → flat z = true) (a := 64) (b := 109) (fun _ h => by cases h; exact ⟨info109, fun z h => by cases h <;> rfl⟩) (fun k x h => by rw [Tr.get_nil] at h; cases h) (fun k x h => by rw [Tr.get_nil] at h; cases h)
noncomputable def tabInfo_65 : Tr (TypeInfo) := Tr.node (some Try.t45) tabInfo_66 tabInfo_68
theorem tabInfo_65_all : ∀ k x, tabInfo_65.get k = some x → (fun n x => Try.prog.info? n = some x ∧ ∀ z, x.zero = some z → flat z = true) (32 * k + 45) x := Tr.node_all (P := fun n x => Try.prog.info? n = some x ∧ ∀ z, x.zero = some z → flat z = true) (a := 32) (b := 45) (fun _ h => by cases h; exact ⟨info45, fun z h => by cases h <;> rfl⟩) tabInfo_66_all tabInfo_68_all
noncomputable def tabInfo_70 : Tr (TypeInfo) := Tr.node (some Try.t93) Tr.nil Tr.nil
theorem tabInfo_70_all : ∀ k x, tabInfo_70.get k = some x → (fun n x => Try.prog.info? n = some x ∧ ∀ z, x.zero = some z → flat z = true) (64 * k + 93) x := Tr.node_all (P := fun n x => Try.prog.info? n = some x ∧ ∀ z, x.zero = some z → flat z = true) (a := 64) (b := 93) (fun _ h => by cases h; exact ⟨info93, fun z h => by cases h <;> rfl⟩) (fun k x h => by rw [Tr.get_nil] at h; cases h) (fun k x h => by rw [Tr.get_nil] at h; cases h)
noncomputable def tabInfo_71 : Tr (TypeInfo) := Tr.node (some Try.t125) Tr.nil Tr.nil
theorem tabInfo_71_all : ∀ k x, tabInfo_71.get k = some x → (fun n x => Try.prog.info? n = some x ∧ ∀ z, x.zero = some z → flat z = true) (64 * k + 125) x := Tr.node_all (P := fun n x => Try.prog.info? n = some x ∧ ∀ z, x.zero = some z → flat z = true) (a := 64) (b := 125) (fun _ h => by cases h; exact ⟨info125, fun z h => by cases h <;> rfl⟩) (fun k x h => by rw [Tr.get_nil] at h; cases h) (fun k x h => by rw [Tr.get_nil] at h; cases h)
noncomputable def tabInfo_69 : Tr (TypeInfo) := Tr.node (some Try.t61) tabInfo_70 tabInfo_71
theorem tabInfo_69_all : ∀ k x, tabInfo_69.get k = some x → (fun n x => Try.prog.info? n = some x ∧ ∀ z, x.zero = some z → flat z = true) (32 * k + 61) x := Tr.node_all (P := fun n x => Try.prog.info? n = some x ∧ ∀ z, x.zero = some z → flat z = true) (a := 32) (b := 61) (fun _ h => by cases h; exact ⟨info61, fun z h => by cases h <;> rfl⟩) tabInfo_70_all tabInfo_71_all
noncomputable def tabInfo_64 : Tr (TypeInfo) := Tr.node (some Try.t29) tabInfo_65 tabInfo_69
theorem tabInfo_64_all : ∀ k x, tabInfo_64.get k = some x → (fun n x => Try.prog.info? n = some x ∧ ∀ z, x.zero = some z → flat z = true) (16 * k + 29) x := Tr.node_all (P := fun n x => Try.prog.info? n = some x ∧ ∀ z, x.zero = some z → flat z = true) (a := 16) (b := 29) (fun _ h => by cases h; exact ⟨info29, fun z h => by cases h <;> rfl⟩) tabInfo_65_all tabInfo_69_all
noncomputable def tabInfo_55 : Tr (TypeInfo) := Tr.node (some Try.t13) tabInfo_56 tabInfo_64
theorem tabInfo_55_all : ∀ k x, tabInfo_55.get k = some x → (fun n x => Try.prog.info? n = some x ∧ ∀ z, x.zero = some z → flat z = true) (8 * k + 13) x := Tr.node_all (P := fun n x => Try.prog.info? n = some x ∧ ∀ z, x.zero = some z → flat z = true) (a := 8) (b := 13) (fun _ h => by cases h; exact ⟨info13, fun z h => by cases h <;> rfl⟩) tabInfo_56_all tabInfo_64_all
noncomputable def tabInfo_37 : Tr (TypeInfo) := Tr.node (some Try.t5) tabInfo_38 tabInfo_55
theorem tabInfo_37_all : ∀ k x, tabInfo_37.get k = some x → (fun n x => Try.prog.info? n = some x ∧ ∀ z, x.zero = some z → flat z = true) (4 * k + 5) x := Tr.node_all (P := fun n x => Try.prog.info? n = some x ∧ ∀ z, x.zero = some z → flat z = true) (a := 4) (b := 5) (fun _ h => by cases h; exact ⟨info5, fun z h => by cases h <;> rfl⟩) tabInfo_38_all tabInfo_55_all
noncomputable def tabInfo_2 : Tr (TypeInfo) := Tr.node (some Try.t1) tabInfo_3 tabInfo_37
theorem tabInfo_2_all : ∀ k x, tabInfo_2.get k = some x → (fun n x => Try.prog.info? n = some x ∧ ∀ z, x.zero = some z → flat z = true) (2 * k + 1) x := Tr.node_all (P := fun n x => Try.prog.info? n = some x ∧ ∀ z, x.zero = some z → flat z = true) (a := 2) (b := 1) (fun _ h => by cases h; exact ⟨info1, fun z h => by cases h <;> rfl⟩) tabInfo_3_all tabInfo_37_all
noncomputable def tabInfo_78 : Tr (TypeInfo) := Tr.node (some Try.t128) Tr.nil Tr.nil
theorem tabInfo_78_all : ∀ k x, tabInfo_78.get k = some x → (fun n x => Try.prog.info? n = some x ∧ ∀ z, x.zero = some z → flat z = true) (128 * k + 128) x := Tr.node_all (P := fun n x => Try.prog.info? n = some x ∧ ∀ z, x.zero = some z → flat z = true) (a := 128) (b := 128) (fun _ h => by cases h; exact ⟨info128, fun z h => by cases h <;> rfl⟩) (fun k x h => by rw [Tr.get_nil] at h; cases h) (fun k x h => by rw [Tr.get_nil] at h; cases h)
noncomputable def tabInfo_77 : Tr (TypeInfo) := Tr.node (some Try.t64) tabInfo_78 Tr.nil
theorem tabInfo_77_all : ∀ k x, tabInfo_77.get k = some x → (fun n x => Try.prog.info? n = some x ∧ ∀ z, x.zero = some z → flat z = true) (64 * k + 64) x := Tr.node_all (P := fun n x => Try.prog.info? n = some x ∧ ∀ z, x.zero = some z → flat z = true) (a := 64) (b := 64) (fun _ h => by cases h; exact ⟨info64, fun z h => by cases h <;> rfl⟩) tabInfo_78_all (fun k x h => by rw [Tr.get_nil] at h; cases h)
noncomputable def tabInfo_79 : Tr (TypeInfo) := Tr.node (some Try.t96) Tr.nil Tr.nil
theorem tabInfo_79_all : ∀ k x, tabInfo_79.get k = some x → (fun n x => Try.prog.info? n = some x ∧ ∀ z, x.zero = some z → flat z = true) (64 * k + 96) x := Tr.node_all (P := fun n x => Try.prog.info? n = some x ∧ ∀ z, x.zero = some z → flat z = true) (a := 64) (b := 96) (fun _ h => by cases h; exact ⟨info96, fun z h => by cases h <;> rfl⟩) (fun k x h => by rw [Tr.get_nil] at h; cases h) (fun k x h => by rw [Tr.get_nil] at h; cases h)
noncomputable def tabInfo_76 : Tr (TypeInfo) := Tr.node (some Try.t32) tabInfo_77 tabInfo_79
theorem tabInfo_76_all : ∀ k x, tabInfo_76.get k = some x → (fun n x => Try.prog.info? n = some x ∧ ∀ z, x.zero = some z → flat z = true) (32 * k + 32) x := Tr.node_all (P := fun n x => Try.prog.info? n = some x ∧ ∀ z, x.zero = some z → flat z = true) (a := 32) (b := 32) (fun _ h => by cases h; exact ⟨info32, fun z h => by cases h <;> rfl⟩) tabInfo_77_all tabInfo_79_all
noncomputable def tabInfo_81 : Tr (TypeInfo) := Tr.node (some Try.t80) Tr.nil Tr.nil
theorem tabInfo_81_all : ∀ k x, tabInfo_81.get k = some x → (fun n x => Try.prog.info? n = some x ∧ ∀ z, x.zero = some z → flat z = true) (64 * k + 80) x := Tr.node_all (P := fun n x => Try.prog.info? n = some x ∧ ∀ z, x.zero = some z → flat z = true) (a := 64) (b := 80) (fun _ h => by cases h; exact ⟨info80, fun z h => by cases h <;> rfl⟩) (fun k x h => by rw [Tr.get_nil] at h; cases h) (fun k x h => by rw [Tr.get_nil] at h; cases h)
noncomputable def tabInfo_82 : Tr (TypeInfo) := Tr.node (some Try.t112) Tr.nil Tr.nil
theorem tabInfo_82_all : ∀ k x, tabInfo_82.get k = some x → (fun n x => Try.prog.info? n = some x ∧ ∀ z, x.zero = some z → flat z = true) (64 * k + 112) x := Tr.node_all (P := fun n x => Try.prog.info? n = some x ∧ ∀ z, x.zero = some z → flat z = true) (a := 64) (b := 112) (fun _ h => by cases h; exact ⟨info112, fun z h => by cases h <;> rfl⟩) (fun k x h => by rw [Tr.get_nil] at h; cases h) (fun k x h => by rw [Tr.get_nil] at h; cases h)
noncomputable def tabInfo_80 : Tr (TypeInfo) := Tr.node (some Try.t48) tabInfo_81 tabInfo_82
theorem tabInfo_80_all : ∀ k x, tabInfo_80.get k = some x → (fun n x => Try.prog.info? n = some x ∧ ∀ z, x.zero = some z → flat z = true) (32 * k + 48) x := Tr.node_all (P := fun n x => Try.prog.info? n = some x ∧ ∀ z, x.zero = some z → flat z = true) (a := 32) (b := 48) (fun _ h => by cases h; exact ⟨info48, fun z h => by cases h <;> rfl⟩) tabInfo_81_all tabInfo_82_all
noncomputable def tabInfo_75 : Tr (TypeInfo) := Tr.node (some Try.t16) tabInfo_76 tabInfo_80
theorem tabInfo_75_all : ∀ k x, tabInfo_75.get k = some x → (fun n x => Try.prog.info? n = some x ∧ ∀ z, x.zero = some z → flat z = true) (16 * k + 16) x := Tr.node_all (P := fun n x => Try.prog.info? n = some x ∧ ∀ z, x.zero = some z → flat z = true) (a := 16) (b := 16) (fun _ h => by cases h; exact ⟨info16, fun z h => by cases h <;> rfl⟩) tabInfo_76_all tabInfo_80_all
noncomputable def tabInfo_86 : Tr (TypeInfo) := Tr.node (some Try.t136) Tr.nil Tr.nil
theorem tabInfo_86_all : ∀ k x, tabInfo_86.get k = some x → (fun n x => Try.prog.info? n = some x ∧ ∀ z, x.zero = some z → flat z = true) (128 * k + 136) x := Tr.node_all (P := fun n x => Try.prog.info? n = some x ∧ ∀ z, x.zero = some z → flat z = true) (a := 128) (b := 136) (fun _ h => by cases h; exact ⟨info136, fun z h => by cases h <;> rfl⟩) (fun k x h => by rw [Tr.get_nil] at h; cases h) (fun k x h => by rw [Tr.get_nil] at h; cases h)
noncomputable def tabInfo_85 : Tr (TypeInfo) := Tr.node (some Try.t72) tabInfo_86 Tr.nil
theorem tabInfo_85_all : ∀ k x, tabInfo_85.get k = some x → (fun n x => Try.prog.info? n = some x ∧ ∀ z, x.zero = some z → flat z = true) (64 * k + 72) x := Tr.node_all (P := fun n x => Try.prog.info? n = some x ∧ ∀ z, x.zero = some z → flat z = true) (a := 64) (b := 72) (fun _ h => by cases h; exact ⟨info72, fun z h => by cases h <;> rfl⟩) tabInfo_86_all (fun k x h => by rw [Tr.get_nil] at h; cases h)
noncomputable def tabInfo_87 : Tr (TypeInfo) := Tr.node (some Try.t104) Tr.nil Tr.nil
theorem tabInfo_87_all : ∀ k x, tabInfo_87.get k = some x → (fun n x => Try.prog.info? n = some x ∧ ∀ z, x.zero = some z → flat z = true) (64 * k + 104) x := Tr.node_all (P := fun n x => Try.prog.info? n = some x ∧ ∀ z, x.zero = some z → flat z = true) (a := 64) (b := 104) (fun _ h => by cases h; exact ⟨info104, fun z h => by cases h <;> rfl⟩) (fun k x h => by rw [Tr.get_nil] at h; cases h) (fun k x h => by rw [Tr.get_nil] at h; cases h)
noncomputable def tabInfo_84 : Tr (TypeInfo) := Tr.node (some Try.t40) tabInfo_85 tabInfo_87
theorem tabInfo_84_all : ∀ k x, tabInfo_84.get k = some x → (fun n x => Try.prog.info? n = some x ∧ ∀ z, x.zero = some z → flat z = true) (32 * k + 40) x := Tr.node_all (P := fun n x => Try.prog.info? n = some x ∧ ∀ z, x.zero = some z → flat z = true) (a := 32) (b := 40) (fun _ h => by cases h; exact ⟨info40, fun z h => by cases h <;> rfl⟩) tabInfo_85_all tabInfo_87_all
noncomputable def tabInfo_89 : Tr (TypeInfo) := Tr.node (some Try.t88) Tr.nil Tr.nil
theorem tabInfo_89_all : ∀ k x, tabInfo_89.get k = some x → (fun n x => Try.prog.info? n = some x ∧ ∀ z, x.zero = some z → flat z = true) (64 * k + 88) x := Tr.node_all (P := fun n x => Try.prog.info? n = some x ∧ ∀ z, x.zero = some z → flat z = true) (a := 64) (b := 88) (fun _ h => by cases h; exact ⟨info88, fun z h => by cases h <;> rfl⟩) (fun k x h => by rw [Tr.get_nil] at h; cases h) (fun k x h => by rw [Tr.get_nil] at h; cases h)
noncomputable def tabInfo_90 : Tr (TypeInfo) := Tr.node (some Try.t120) Tr.nil Tr.nil
theorem tabInfo_90_all : ∀ k x, tabInfo_90.get k = some x → (fun n x => Try.prog.info? n = some x ∧ ∀ z, x.zero = some z → flat z = true) (64 * k + 120) x := Tr.node_all (P := fun n x => Try.prog.info? n = some x ∧ ∀ z, x.zero = some z → flat z = true) (a := 64) (b := 120) (fun _ h => by cases h; exact ⟨info120, fun z h => by cases h <;> rfl⟩) (fun k x h => by rw [Tr.get_nil] at h; cases h) (fun k x h => by rw [Tr.get_nil] at h; cases h)
noncomputable def tabInfo_88 : Tr (TypeInfo) := Tr.node (some Try.t56) tabInfo_89 tabInfo_90
theorem tabInfo_88_all : ∀ k x, tabInfo_88.get k = some x → (fun n x => Try.prog.info? n = some x ∧ ∀ z, x.zero = some z → flat z = true) (32 * k + 56) x := Tr.node_all (P := fun n x => Try.prog.info? n = some x ∧ ∀ z, x.zero = some z → flat z = true) (a := 32) (b := 56) (fun _ h => by cases h; exact ⟨info56, fun z h => by cases h <;> rfl⟩) tabInfo_89_all tabInfo_90_all
noncomputable def tabInfo_83 : Tr (TypeInfo) := Tr.node (some Try.t24) tabInfo_84 tabInfo_88
theorem tabInfo_83_all : ∀ k x, tabInfo_83.get k = some x → (fun n x => Try.prog.info? n = some x ∧ ∀ z, x.zero = some z → flat z = true) (16 * k + 24) x := Tr.node_all (P := fun n x => Try.prog.info? n = some x ∧ ∀ z, x.zero = some z → flat z = true) (a := 16) (b := 24) (fun _ h => by cases h; exact ⟨info24, fun z h => by cases h <;> rfl⟩) tabInfo_84_all tabInfo_88_all
noncomputable def tabInfo_74 : Tr (TypeInfo) := Tr.node (some Try.t8) tabInfo_75 tabInfo_83
theorem tabInfo_74_all : ∀ k x, tabInfo_74.get k = some x → (fun n x => Try.prog.info? n = some x ∧ ∀ z, x.zero = some z → flat z = true) (8 * k + 8) x := Tr.node_all (P := fun n x => Try.prog.info? n = some x ∧ ∀ z, x.zero = some z → flat z = true) (a := 8) (b := 8) (fun _ h => by cases h; exact ⟨info8, fun z h => by cases h <;> rfl⟩) tabInfo_75_all tabInfo_83_all
noncomputable def tabInfo_95 : Tr (TypeInfo) := Tr.node (some Try.t132) Tr.nil Tr.nil
theorem tabInfo_95_all : ∀ k x, tabInfo_95.get k = some x → (fun n x => Try.prog.info? n = some x ∧ ∀ z, x.zero = some z → flat z = true) (128 * k + 132) x := Tr.node_all (P := fun n x => Try.prog.info? n = some x ∧ ∀ z, x.zero = some z → flat z = true) (a := 128) (b := 132) (fun _ h => by cases h; exact ⟨info132, fun z h => by cases h <;> rfl⟩) (fun k x h => by rw [Tr.get_nil] at h; cases h) (fun k x h => by rw [Tr.get_nil] at h; cases h)
noncomputable def tabInfo_94 : Tr (TypeInfo) := Tr.node (some Try.t68) tabInfo_95 Tr.nil
theorem tabInfo_94_all : ∀ k x, tabInfo_94.get k = some x → (fun n x => Try.prog.info? n = some x ∧ ∀ z, x.zero = some z → flat z = true) (64 * k + 68) x := Tr.node_all (P := fun n x => Try.prog.info? n = some x ∧ ∀ z, x.zero = some z → flat z = true) (a := 64) (b := 68) (fun _ h => by cases h; exact ⟨info68, fun z h => by cases h <;> rfl⟩) tabInfo_95_all (fun k x h => by rw [Tr.get_nil] at h; cases h)
noncomputable def tabInfo_96 : Tr (TypeInfo) := Tr.node (some Try.t100) Tr.nil Tr.nil
theorem tabInfo_96_all : ∀ k x, tabInfo_96.get k = some x → (fun n x => Try.prog.info? n = some x ∧ ∀ z, x.zero = some z → flat z = true) (64 * k + 100) x := Tr.node_all (P := fun n x => Try.prog.info? n = some x ∧ ∀ z, x.zero = some z → flat z = true) (a := 64) (b := 100) (fun _ h => by cases h; exact ⟨info100, fun z h => by cases h <;> rfl⟩) (fun k x h => by rw [Tr.get_nil] at h; cases h) (fun k x h => by rw [Tr.get_nil] at h; cases h)
noncomputable def tabInfo_93 : Tr (TypeInfo) := Tr.node (some Try.t36) tabInfo_94 tabInfo_96
theorem tabInfo_93_all : ∀ k x, tabInfo_93.get k = some x → (fun n x => Try.prog.info? n = some x ∧ ∀ z, x.zero = some z → flat z = true) (32 * k + 36) x := Tr.node_all (P := fun n x => Try.prog.info? n = some x ∧ ∀ z, x.zero = some z → flat z = true) (a := 32) (b := 36) (fun _ h => by cases h; exact ⟨info36, fun z h => by cases h <;> rfl⟩) tabInfo_94_all tabInfo_96_all
noncomputable def tabInfo_98 : Tr (TypeInfo) := Tr.node (some Try.t84) Tr.nil Tr.nil
theorem tabInfo_98_all : ∀ k x, tabInfo_98.get k = some x → (fun n x => Try.prog.info? n = some x ∧ ∀ z, x.zero = some z → flat z = true) (64 * k + 84) x := Tr.node_all (P := fun n x => Try.prog.info? n = some x ∧ ∀ z, x.zero = some z → flat z = true) (a := 64) (b := 84) (fun _ h => by cases h; exact ⟨info84, fun z h => by cases h <;> rfl⟩) (fun k x h => by rw [Tr.get_nil] at h; cases h) (fun k x h => by rw [Tr.get_nil] at h; cases h)
noncomputable def tabInfo_99 : Tr (TypeInfo) := Tr.node (some Try.t116) Tr.nil Tr.nil
theorem tabInfo_99_all : ∀ k x, tabInfo_99.get k = some x → (fun n x => Try.prog.info? n = some x ∧ ∀ z, x.zero = some z → flat z = true) (64 * k + 116) x := Tr.node_all (P := fun n x => Try.prog.info? n = some x ∧ ∀ z, x.zero = some z → flat z = true) (a := 64) (b := 116) (fun _ h => by cases h; exact ⟨info116, fun z h => by cases h <;> rfl⟩) (fun k x h => by rw [Tr.get_nil] at h; cases h) (fun k x h => by rw [Tr.get_nil] at h; cases h)
noncomputable def tabInfo_97 : Tr (TypeInfo) := Tr.node (some Try.t52) tabInfo_98 tabInfo_99
theorem tabInfo_97_all : ∀ k x, tabInfo_97.get k = some x → (fun n x => Try.prog.info? n = some x ∧ ∀ z, x.zero = some z → flat z = true) (32 * k + 52) x := Tr.node_all (P := fun n x => Try.prog.info? n = some x ∧ ∀ z, x.zero = some z → flat z = true) (a := 32) (b := 52) (fun _ h => by cases h; exact ⟨info52, fun z h => by cases h <;> rfl⟩) tabInfo_98_all tabInfo_99_all
noncomputable def tabInfo_92 : Tr (TypeInfo) := Tr.node (some Try.t20) tabInfo_93 tabInfo_97
theorem tabInfo_92_all : ∀ k x, tabInfo_92.get k = some x → (fun n x => Try.prog.info? n = some x ∧ ∀ z, x.zero = some z → flat z = true) (16 * k + 20) x := Tr.node_all (P := fun n x => Try.prog.info? n = some x ∧ ∀ z, x.zero = some z → flat z = true) (a := 16) (b := 20) (fun _ h => by cases h; exact ⟨info20, fun z h => by cases h <;> rfl⟩) tabInfo_93_all tabInfo_97_all
noncomputable def tabInfo_103 : Tr (TypeInfo) := Tr.node (some Try.t140) Tr.nil Tr.nil
theorem tabInfo_103_all : ∀ k x, tabInfo_103.get k = some x → (fun n x => Try.prog.info? n = some x ∧ ∀ z, x.zero = some z → flat z = true) (128 * k + 140) x := Tr.node_all (P := fun n x => Try.prog.info? n = some x ∧ ∀ z, x.zero = some z → flat z = true) (a := 128) (b := 140) (fun _ h => by cases h; exact ⟨info140, fun z h => by cases h <;> rfl⟩) (fun k x h => by rw [Tr.get_nil] at h; cases h) (fun k x h => by rw [Tr.get_nil] at h; cases h)
noncomputable def tabInfo_102 : Tr (TypeInfo) := Tr.node (some Try.t76) tabInfo_103 Tr.nil
theorem tabInfo_102_all : ∀ k x, tabInfo_102.get k = some x → (fun n x => Try.prog.info? n = some x ∧ ∀ z, x.zero = some z → flat z = true) (64 * k + 76) x := Tr.node_all (P := fun n x => Try.prog.info? n = some x ∧ ∀ z, x.zero = some z → flat z = true) (a := 64) (b := 76) (fun _ h => by cases h; exact ⟨info76, fun z h => by cases h <;> rfl⟩) tabInfo_103_all (fun k x h => by rw [Tr.get_nil] at h; cases h)
noncomputable def tabInfo_104 : Tr (TypeInfo) := Tr.node (some Try.t108) Tr.nil Tr.nil
theorem tabInfo_104_all : ∀ k x, tabInfo_104.get k = some x → (fun n x => Try.prog.info? n = some x ∧ ∀ z, x.zero = some z → flat z = true) (64 * k + 108) x := Tr.node_all (P := fun n x => Try.prog.info? n = some x ∧ ∀ z, x.zero = some z → flat z = true) (a := 64) (b := 108) (fun _ h => by cases h; exact ⟨info108, fun z h => by cases h <;> rfl⟩) (fun k x h => by rw [Tr.get_nil] at h; cases h) (fun k x h => by rw [Tr.get_nil] at h; cases h)
noncomputable def tabInfo_101 : Tr (TypeInfo) := Tr.node (some Try.t44) tabInfo_102 tabInfo_104
theorem tabInfo_101_all : ∀ k x, tabInfo_101.get k = some x → (fun n x => Try.prog.info? n = some x ∧ ∀ z, x.zero = some z → flat z = true) (32 * k + 44) x := Tr.node_all (P := fun n x => Try.prog.info? n = some x ∧ ∀ z, x.zero = some z → flat z = true) (a := 32) (b := 44) (fun _ h => by cases h; exact ⟨info44, fun z h => by cases h <;> rfl⟩) tabInfo_102_all tabInfo_104_all
noncomputable def tabInfo_106 : Tr (TypeInfo) := Tr.node (some Try.t92) Tr.nil Tr.nil
theorem tabInfo_106_all : ∀ k x, tabInfo_106.get k = some x → (fun n x => Try.prog.info? n = some x ∧ ∀ z, x.zero = some z → flat z = true) (64 * k + 92) x := Tr.node_all (P := fun n x => Try.prog.info? n = some x ∧ ∀ z, x.zero = some z → flat z = true) (a := 64) (b := 92) (fun _ h => by cases h; exact ⟨info92, fun z h => by cases h <;> rfl⟩) (fun k x h => by rw [Tr.get_nil] at h; cases h) (fun k x h => by rw [Tr.get_nil] at h; cases h)
noncomputable def tabInfo_107 : Tr (TypeInfo) := Tr.node (some Try.t124) Tr.nil Tr.nil
theorem tabInfo_107_all : ∀ k x, tabInfo_107.get k = some x → (fun n x => Try.prog.info? n = some x ∧ ∀ z, x.zero = some z → flat z = true) (64 * k + 124) x := Tr.node_all (P := fun n x => Try.prog.info? n = some x ∧ ∀ z, x.zero = some z → flat z = true) (a := 64) (b := 124) (fun _ h => by cases h; exact ⟨info124, fun z h => by cases h <;> rfl⟩) (fun k x h => by rw [Tr.get_nil] at h; cases h) (fun k x h => by rw [Tr.get_nil] at h; cases h)
noncomputable def tabInfo_105 : Tr (TypeInfo) := Tr.node (some Try.t60) tabInfo_106 tabInfo_107
theorem tabInfo_105_all : ∀ k x, tabInfo_105.get k = some x → (fun n x => Try.prog.info? n = some x ∧ ∀ z, x.zero = some z → flat z = true) (32 * k + 60) x := Tr.node_all (P := fun n x => Try.prog.info? n = some x ∧ ∀ z, x.zero = some z → flat z = true) (a := 32) (b := 60) (fun _ h => by cases h; exact ⟨info60, fun z h => by cases h <;> rfl⟩) tabInfo_106_all tabInfo_107_all
noncomputable def tabInfo_100 : Tr (TypeInfo) := Tr.node (some Try.t28) tabInfo_101 tabInfo_105
theorem tabInfo_100_all : ∀ k x, tabInfo_100.get k = some x → (fun n x => Try.prog.info? n = some x ∧ ∀ z, x.zero = some z → flat z = true) (16 * k + 28) x := Tr.node_all (P := fun n x => Try.prog.info? n = some x ∧ ∀ z, x.zero = some z → flat z = true) (a := 16) (b := 28) (fun _ h => by cases h; exact ⟨info28, fun z h => by cases h <;> rfl⟩) tabInfo_101_all tabInfo_105_all
noncomputable def tabInfo_91 : Tr (TypeInfo) := Tr.node (some Try.t12) tabInfo_92 tabInfo_100
theorem tabInfo_91_all : ∀ k x, tabInfo_91.get k = some x → (fun n x => Try.prog.info? n = some x ∧ ∀ z, x.zero = some z → flat z = true) (8 * k + 12) x := Tr.node_all (P := fun n x => Try.prog.info? n = some x ∧ ∀ z, x.zero = some z → flat z = true) (a := 8) (b := 12) (fun _ h => by cases h; exact ⟨info12, fun z h => by cases h <;> rfl⟩) tabInfo_92_all tabInfo_100_all
noncomputable def tabInfo_73 : Tr (TypeInfo) := Tr.node (some Try.t4) tabInfo_74 tabInfo_91
theorem tabInfo_73_all : ∀ k x, tabInfo_73.get k = some x → (fun n x => Try.prog.info? n = some x ∧ ∀ z, x.zero = some z → flat z = true) (4 * k + 4) x := Tr.node_all (P := fun n x => Try.prog.info? n = some x ∧ ∀ z, x.zero = some z → flat z = true) (a := 4) (b := 4) (fun _ h => by cases h; exact ⟨info4, fun z h => by cases h <;> rfl⟩) tabInfo_74_all tabInfo_91_all
noncomputable def tabInfo_113 : Tr (TypeInfo) := Tr.node (some Try.t130) Tr.nil Tr.nil
theorem tabInfo_113_all : ∀ k x, tabInfo_113.get k = some x → (fun n x => Try.prog.info? n = some x ∧ ∀ z, x.zero = some z → flat z = true) (128 * k + 130) x := Tr.node_all (P := fun n x => Try.prog.info? n = some x ∧ ∀ z, x.zero = some z → flat z = true) (a := 128) (b := 130) (fun _ h => by cases h; exact ⟨info130, fun z h => by cases h <;> rfl⟩) (fun k x h => by rw [Tr.get_nil] at h; cases h) (fun k x h => by rw [Tr.get_nil] at h; cases h)
noncomputable def tabInfo_112 : Tr (TypeInfo) := Tr.node (some Try.t66) tabInfo_113 Tr.nil
theorem tabInfo_112_all : ∀ k x, tabInfo_112.get k = some x → (fun n x => Try.prog.info? n = some x ∧ ∀ z, x.zero = some z → flat z = true) (64 * k + 66) x := Tr.node_all (P := fun n x => Try.prog.info? n = some x ∧ ∀ z, x.zero = some z → flat z = true) (a := 64) (b := 66) (fun _ h => by cases h; exact ⟨info66, fun z h => by cases h <;> rfl⟩) tabInfo_113_all (fun k x h => by rw [Tr.get_nil] at h; cases h)
noncomputable def tabInfo_114 : Tr (TypeInfo) := Tr.node (some Try.t98) Tr.nil Tr.nil
theorem tabInfo_114_all : ∀ k x, tabInfo_114.get k = some x → (fun n x => Try.prog.info? n = some x ∧ ∀ z, x.zero = some z → flat z = true) (64 * k + 98) x := Tr.node_all (P := fun n x => Try.prog.info? n = some x ∧ ∀ z, x.zero = some z → flat z = true) (a := 64) (b := 98) (fun _ h => by cases h; exact ⟨info98, fun z h => by cases h <;> rfl⟩) (fun k x h => by rw [Tr.get_nil] at h; cases h) (fun k x h => by rw [Tr.get_nil] at h; cases h)
noncomputable def tabInfo_111 : Tr (TypeInfo) := Tr.node (some Try.t34) tabInfo_112 tabInfo_114
theorem tabInfo_111_all : ∀ k x, tabInfo_111.get k = some x → (fun n x => Try.prog.info? n = some x ∧ ∀ z, x.zero = some z → flat z = true) (32 * k + 34) x := Tr.node_all (P := fun n x => Try.prog.info? n = some x ∧ ∀ z, x.zero = some z → flat z = true) (a := 32) (b := 34) (fun _ h => by cases h; exact ⟨info34, fun z h => by cases h <;> rfl⟩) tabInfo_112_all tabInfo_114_all
noncomputable def tabInfo_116 : Tr (TypeInfo) := Tr.node (some Try.t82) Tr.nil Tr.nil
theorem tabInfo_116_all : ∀ k x, tabInfo_116.get k = some x → (fun n x => Try.prog.info? n = some x ∧ ∀ z, x.zero = some z → flat z = true) (64 * k + 82) x := Tr.node_all (P := fun n x => Try.prog.info? n = some x ∧ ∀ z, x.zero = some z → flat z = true) (a := 64) (b := 82) (fun _ h => by cases h; exact ⟨info82, fun z h => by cases h <;> rfl⟩) (fun k x h => by rw [Tr.get_nil] at h; cases h) (fun k x h => by rw [Tr.get_nil] at h; cases h)
noncomputable def tabInfo_117 : Tr (TypeInfo) := Tr.node (some Try.t114) Tr.nil Tr.nil
theorem tabInfo_117_all : ∀ k x, tabInfo_117.get k = some x → (fun n x => Try.prog.info? n = some x ∧ ∀ z, x.zero = some z → flat z = true) (64 * k + 114) x := Tr.node_all (P := fun n x => Try.prog.info? n = some x ∧ ∀ z, x.zero = some z → flat z = true) (a := 64) (b := 114) (fun _ h => by cases h; exact ⟨info114, fun z h => by cases h <;> rfl⟩) (fun k x h => by rw [Tr.get_nil] at h; cases h) (fun k x h => by rw [Tr.get_nil] at h; cases h)
noncomputable def tabInfo_115 : Tr (TypeInfo) := Tr.node (some Try.t50) tabInfo_116 tabInfo_117
theorem tabInfo_115_all : ∀ k x, tabInfo_115.get k = some x → (fun n x => Try.prog.info? n = some x ∧ ∀ z, x.zero = some z → flat z = true) (32 * k + 50) x := Tr.node_all (P := fun n x => Try.prog.info? n = some x ∧ ∀ z, x.zero = some z → flat z = true) (a := 32) (b := 50) (fun _ h => by cases h; exact ⟨info50, fun z h => by cases h <;> rfl⟩) tabInfo_116_all tabInfo_117_all
noncomputable def tabInfo_110 : Tr (TypeInfo) := Tr.node (some Try.t18) tabInfo_111 tabInfo_115
theorem tabInfo_110_all : ∀ k x, tabInfo_110.get k = some x → (fun n x => Try.prog.info? n = some x ∧ ∀ z, x.zero = some z → flat z = true) (16 * k + 18) x := Tr.node_all (P := fun n x => Try.prog.info? n = some x ∧ ∀ z, x.zero = some z → flat z = true) (a := 16) (b := 18) (fun _ h => by cases h; exact ⟨info18, fun z h => by cases h <;> rfl⟩) tabInfo_111_all tabInfo_115_all
noncomputable def tabInfo_121 : Tr (TypeInfo) := Tr.node (some Try.t138) Tr.nil Tr.nil
theorem tabInfo_121_all : ∀ k x, tabInfo_121.get k = some x → (fun n x => Try.prog.info? n = some x ∧ ∀ z, x.zero = some z → flat z = true) (128 * k + 138) x := Tr.node_all (P := fun n x => Try.prog.info? n = some x ∧ ∀ z, x.zero = some z → flat z = true) (a := 128) (b := 138) (fun _ h => by cases h; exact ⟨info138, fun z h => by cases h <;> rfl⟩) (fun k x h => by rw [Tr.get_nil] at h; cases h) (fun k x h => by rw [Tr.get_nil] at h; cases h)
noncomputable def tabInfo_120 : Tr (TypeInfo) := Tr.node (some Try.t74) tabInfo_121 Tr.nil
theorem tabInfo_120_all : ∀ k x, tabInfo_120.get k = some x → (fun n x => Try.prog.info? n = some x ∧ ∀ z, x.zero = some z → flat z = true) (64 * k + 74) x := Tr.node_all (P := fun n x => Try.prog.info? n = some x ∧ ∀ z, x.zero = some z → flat z = true) (a := 64) (b := 74) (fun _ h => by cases h; exact ⟨info74, fun z h => by cases h <;> rfl⟩) tabInfo_121_all (fun k x h => by rw [Tr.get_nil] at h; cases h)
noncomputable def tabInfo_122 : Tr (TypeInfo) := Tr.node (some Try.t106) Tr.nil Tr.nil
theorem tabInfo_122_all : ∀ k x, tabInfo_122.get k = some x → (fun n x => Try.prog.info? n = some x ∧ ∀ z, x.zero = some z → flat z = true) (64 * k + 106) x := Tr.node_all (P := fun n x => Try.prog.info? n = some x ∧ ∀ z, x.zero = some z → flat z = true) (a := 64) (b := 106) (fun _ h => by cases h; exact ⟨info106, fun z h => by cases h <;> rfl⟩) (fun k x h => by rw [Tr.get_nil] at h; cases h) (fun k x h => by rw [Tr.get_nil] at h; cases h)
noncomputable def tabInfo_119 : Tr (TypeInfo) := Tr.node (some Try.t42) tabInfo_120 tabInfo_122
theorem tabInfo_119_all : ∀ k x, tabInfo_119.get k = some x → (fun n x => Try.prog.info? n = some x ∧ ∀ z, x.zero = some z → flat z = true) (32 * k + 42) x := Tr.node_all (P := fun n x => Try.prog.info? n = some x ∧ ∀ z, x.zero = some z → flat z = true) (a := 32) (b := 42) (fun _ h => by cases h; exact ⟨info42, fun z h => by cases h <;> rfl⟩) tabInfo_120_all tabInfo_122_all
noncomputable def tabInfo_124 : Tr (TypeInfo) := Tr.node (some Try.t90) Tr.nil Tr.nil
theorem tabInfo_124_all : ∀ k x, tabInfo_124.get k = some x → (fun n x => Try.prog.info? n = some x ∧ ∀ z, x.zero = some z → flat z = true) (64 * k + 90) x := Tr.node_all (P := fun n x => Try.prog.info? n = some x ∧ ∀ z, x.zero = some z → flat z = true) (a := 64) (b := 90) (fun _ h => by cases h; exact ⟨info90, fun z h => by cases h <;> rfl⟩) (fun k x h => by rw [Tr.get_nil] at h; cases h) (fun k x h => by rw [Tr.get_nil] at h; cases h)
noncomputable def tabInfo_125 : Tr (TypeInfo) := Tr.node (some Try.t122) Tr.nil Tr.nil
theorem tabInfo_125_all : ∀ k x, tabInfo_125.get k = some x → (fun n x => Try.prog.info? n = some x ∧ ∀ z, x.zero = some z → flat z = true) (64 * k + 122) x := Tr.node_all (P := fun n x => Try.prog.info? n = some x ∧ ∀ z, x.zero = some z → flat z = true) (a := 64) (b := 122) (fun _ h => by cases h; exact ⟨info122, fun z h => by cases h <;> rfl⟩) (fun k x h => by rw [Tr.get_nil] at h; cases h) (fun k x h => by rw [Tr.get_nil] at h; cases h)
noncomputable def tabInfo_123 : Tr (TypeInfo) := Tr.node (some Try.t58) tabInfo_124 tabInfo_125
theorem tabInfo_123_all : ∀ k x, tabInfo_123.get k = some x → (fun n x => Try.prog.info? n = some x ∧ ∀ z, x.zero = some z → flat z = true) (32 * k + 58) x := Tr.node_all (P := fun n x => Try.prog.info? n = some x ∧ ∀ z, x.zero = some z → flat z = true) (a := 32) (b := 58) (fun _ h => by cases h; exact ⟨info58, fun z h => by cases h <;> rfl⟩) tabInfo_124_all tabInfo_125_all
noncomputable def tabInfo_118 : Tr (TypeInfo) := Tr.node (some Try.t26) tabInfo_119 tabInfo_123
theorem tabInfo_118_all : ∀ k x, tabInfo_118.get k = some x → (fun n x => Try.prog.info? n = some x ∧ ∀ z, x.zero = some z → flat z = true) (16 * k + 26) x := Tr.node_all (P := fun n x => Try.prog.info? n = some x ∧ ∀ z, x.zero = some z → flat z = true) (a := 16) (b := 26) (fun _ h => by cases h; exact ⟨info26, fun z h => by cases h <;> rfl⟩) tabInfo_119_all tabInfo_123_all
noncomputable def tabInfo_109 : Tr (TypeInfo) := Tr.node (some Try.t10) tabInfo_110 tabInfo_118
theorem tabInfo_109_all : ∀ k x, tabInfo_109.get k = some x → (fun n x => Try.prog.info? n = some x ∧ ∀ z, x.zero = some z → flat z = true) (8 * k + 10) x := Tr.node_all (P := fun n x => Try.prog.info? n = some x ∧ ∀ z, x.zero = some z → flat z = true) (a := 8) (b := 10) (fun _ h => by cases h; exact ⟨info10, fun z h => by cases h <;> rfl⟩) tabInfo_110_all tabInfo_118_all
noncomputable def tabInfo_130 : Tr (TypeInfo) := Tr.node (some Try.t134) Tr.nil Tr.nil
theorem tabInfo_130_all : ∀ k x, tabInfo_130.get k = some x → (fun n x => Try.prog.info? n = some x ∧ ∀ z, x.zero = some z → flat z = true) (128 * k + 134) x := Tr.node_all (P := fun n x => Try.prog.info? n = some x ∧ ∀ z, x.zero = some z → flat z = true) (a := 128) (b := 134) (fun _ h => by cases h; exact ⟨info134, fun z h => by cases h <;> rfl⟩) (fun k x h => by rw [Tr.get_nil] at h; cases h) (fun k x h => by rw [Tr.get_nil] at h; cases h)
noncomputable def tabInfo_129 : Tr (TypeInfo) := Tr.node (some Try.t70) tabInfo_130 Tr.nil
theorem tabInfo_129_all : ∀ k x, tabInfo_129.get k = some x → (fun n x => Try.prog.info? n = some x ∧ ∀ z, x.zero = some z → flat z = true) (64 * k + 70) x := Tr.node_all (P := fun n x => Try.prog.info? n = some x ∧ ∀ z, x.zero = some z → flat z = true) (a := 64) (b := 70) (fun _ h => by cases h; exact ⟨info70, fun z h => by cases h <;> rfl⟩) tabInfo_130_all (fun k x h => by rw [Tr.get_nil] at h; cases h)
noncomputable def tabInfo_131 : Tr (TypeInfo) := Tr.node (some Try.t102) Tr.nil Tr.nil
theorem tabInfo_131_all : ∀ k x, tabInfo_131.get k = some x → (fun n x => Try.prog.info? n = some x ∧ ∀ z, x.zero = some z → flat z = true) (64 * k + 102) x := Tr.node_all (P := fun n x => Try.prog.info? n = some x ∧ ∀ z, x.zero = some z → flat z = true) (a := 64) (b := 102) (fun _ h => by cases h; exact ⟨info102, fun z h => by cases h <;> rfl⟩) (fun k x h => by rw [Tr.get_nil] at h; cases h) (fun k x h => by rw [Tr.get_nil] at h; cases h)
noncomputable def tabInfo_128 : Tr (TypeInfo) := Tr.node (some Try.t38) tabInfo_129 tabInfo_131
theorem tabInfo_128_all : ∀ k x, tabInfo_128.get k = some x → (fun n x => Try.prog.info? n = some x ∧ ∀ z, x.zero = some z → flat z = true) (32 * k + 38) x := Tr.node_all (P := fun n x => Try.prog.info? n = some x ∧ ∀ z, x.zero = some z → flat z = true) (a := 32) (b := 38) (fun _ h => by cases h; exact ⟨info38, fun z h => by cases h <;> rfl⟩) tabInfo_129_all tabInfo_131_all
noncomputable def tabInfo_133 : Tr (TypeInfo) := Tr.node (some Try.t86) Tr.nil Tr.nil
theorem tabInfo_133_all : ∀ k x, tabInfo_133.get k = some x → (fun n x => Try.prog.info? n = some x ∧ ∀ z, x.zero = some z → flat z = true) (64 * k + 86) x := Tr.node_all (P := fun n x => Try.prog.info? n = some x ∧ ∀ z, x.zero = some z → flat z = true) (a := 64) (b := 86) (fun _ h => by cases h; exact ⟨info86, fun z h => by cases h <;> rfl⟩) (fun k x h => by rw [Tr.get_nil] at h; cases h) (fun k x h => by rw [Tr.get_nil] at h; cases h)
noncomputable def tabInfo_134 : Tr (TypeInfo) := Tr.node (some Try.t118) Tr.nil Tr.nil
theorem tabInfo_134_all : ∀ k x, tabInfo_134.get k = some x → (fun n x => Try.prog.info? n = some x ∧ ∀ z, x.zero = some z → flat z = true) (64 * k + 118) x := Tr.node_all (P := fun n x => Try.prog.info? n = some x ∧ ∀ z, x.zero = some z → flat z = true) (a := 64) (b := 118) (fun _ h => by cases h; exact ⟨info118, fun z h => by cases h <;> rfl⟩) (fun k x h => by rw [Tr.get_nil] at h; cases h) (fun k x h => by rw [Tr.get_nil] at h; cases h)
noncomputable def tabInfo_132 : Tr (TypeInfo) := Tr.node (some Try.t54) tabInfo_133 tabInfo_134
theorem tabInfo_132_all : ∀ k x, tabInfo_132.get k = some x → (fun n x => Try.prog.info? n = some x ∧ ∀ z, x.zero = some z → flat z = true) (32 * k + 54) x := Tr.node_all (P := fun n x => Try.prog.info? n = some x ∧ ∀ z, x.zero = some z → flat z = true) (a := 32) (b := 54) (fun _ h => by cases h; exact ⟨info54, fun z h => by cases h <;> rfl⟩) tabInfo_133_all tabInfo_134_all
noncomputable def tabInfo_127 : Tr (TypeInfo) := Tr.node (some Try.t22) tabInfo_128 tabInfo_132
theorem tabInfo_127_all : ∀ k x, tabInfo_127.get k = some x → (fun n x => Try.prog.info? n = some x ∧ ∀ z, x.zero = some z → flat z = true) (16 * k + 22) x := Tr.node_all (P := fun n x => Try.prog.info? n = some x ∧ ∀ z, x.zero = some z → flat z = true) (a := 16) (b := 22) (fun _ h => by cases h; exact ⟨info22, fun z h => by cases h <;> rfl⟩) tabInfo_128_all tabInfo_132_all
noncomputable def tabInfo_137 : Tr (TypeInfo) := Tr.node (some Try.t78) Tr.nil Tr.nil
theorem tabInfo_137_all : ∀ k x, tabInfo_137.get k = some x → (fun n x => Try.prog.info? n = some x ∧ ∀ z, x.zero = some z → flat z = true) (64 * k + 78) x := Tr.node_all (P := fun n x => Try.prog.info? n = some x ∧ ∀ z, x.zero = some z → flat z = true) (a := 64) (b := 78) (fun _ h => by cases h; exact ⟨info78, fun z h => by cases h <;> rfl⟩) (fun k x h => by rw [Tr.get_nil] at h; cases h) (fun k x h => by rw [Tr.get_nil] at h; cases h)
noncomputable def tabInfo_138 : Tr (TypeInfo) := Tr.node (some Try.t110) Tr.nil Tr.nil
theorem tabInfo_138_all : ∀ k x, tabInfo_138.get k = some x → (fun n x => Try.prog.info? n = some x ∧ ∀ z, x.zero = some z → flat z = true) (64 * k + 110) x := Tr.node_all (P := fun n x => Try.prog.info? n = some x ∧ ∀ z, x.zero = some z → flat z = true) (a := 64) (b := 110) (fun _ h => by cases h; exact ⟨info110, fun z h => by cases h <;> rfl⟩) (fun k x h => by rw [Tr.get_nil] at h; cases h) (fun k x h => by rw [Tr.get_nil] at h; cases h)
noncomputable def tabInfo_136 : Tr (TypeInfo) := Tr.node (some Try.t46) tabInfo_137 tabInfo_138
theorem tabInfo_136_all : ∀ k x, tabInfo_136.get k = some x → (fun n x => Try.prog.info? n = some x ∧ ∀ z, x.zero = some z → flat z = true) (32 * k + 46) x := Tr.node_all (P := fun n x => Try.prog.info? n = some x ∧ ∀ z, x.zero = some z → flat z = true) (a := 32) (b := 46) (fun _ h => by cases h; exact ⟨info46, fun z h => by cases h <;> rfl⟩) tabInfo_137_all tabInfo_138_all
noncomputable def tabInfo_140 : Tr (TypeInfo) := Tr.node (some Try.t94) Tr.nil Tr.nil
theorem tabInfo_140_all : ∀ k x, tabInfo_140.get k = some x → (fun n x => Try.prog.info? n = some x ∧ ∀ z, x.zero = some z → flat z = true) (64 * k + 94) x := Tr.node_all (P := fun n x => Try.prog.info? n = some x ∧ ∀ z, x.zero = some z → flat z = true) (a := 64) (b := 94) (fun _ h => by cases h; exact ⟨info94, fun z h => by cases h <;> rfl⟩) (fun k x h => by rw [Tr.get_nil] at h; cases h) (fun k x h => by rw [Tr.get_nil] at h; cases h)
noncomputable def tabInfo_141 : Tr (TypeInfo) := Tr.node (some Try.t126) Tr.nil Tr.nil
theorem tabInfo_141_all : ∀ k x, tabInfo_141.get k = some x → (fun n x => Try.prog.info? n = some x ∧ ∀ z, x.zero = some z → flat z = true) (64 * k + 126) x := Tr.node_all (P := fun n x => Try.prog.info? n = some x ∧ ∀ z, x.zero = some z → flat z = true) (a := 64) (b := 126) (fun _ h => by cases h; exact ⟨info126, fun z h => by cases h <;> rfl⟩) (fun k x h => by rw [Tr.get_nil] at h; cases h) (fun k x h => by rw [Tr.get_nil] at h; cases h)
noncomputable def tabInfo_139 : Tr (TypeInfo) := Tr.node (some Try.t62) tabInfo_140 tabInfo_141
theorem tabInfo_139_all : ∀ k x, tabInfo_139.get k = some x → (fun n x => Try.prog.info? n = some x ∧ ∀ z, x.zero = some z → flat z = true) (32 * k + 62) x := Tr.node_all (P := fun n x => Try.prog.info? n = some x ∧ ∀ z, x.zero = some z → flat z = true) (a := 32) (b := 62) (fun _ h => by cases h; exact ⟨info62, fun z h => by cases h <;> rfl⟩) tabInfo_140_all tabInfo_141_all
noncomputable def tabInfo_135 : Tr (TypeInfo) := Tr.node (some Try.t30) tabInfo_136 tabInfo_139
theorem tabInfo_135_all : ∀ k x, tabInfo_135.get k = some x → (fun n x => Try.prog.info? n = some x ∧ ∀ z, x.zero = some z → flat z = true) (16 * k + 30) x := Tr.node_all (P := fun n x => Try.prog.info? n = some x ∧ ∀ z, x.zero = some z → flat z = true) (a := 16) (b := 30) (fun _ h => by cases h; exact ⟨info30, fun z h => by cases h <;> rfl⟩) tabInfo_136_all tabInfo_139_all
noncomputable def tabInfo_126 : Tr (TypeInfo) := Tr.node (some Try.t14) tabInfo_127 tabInfo_135
theorem tabInfo_126_all : ∀ k x, tabInfo_126.get k = some x → (fun n x => Try.prog.info? n = some x ∧ ∀ z, x.zero = some z → flat z = true) (8 * k + 14) x := Tr.node_all (P := fun n x => Try.prog.info? n = some x ∧ ∀ z, x.zero = some z → flat z = true) (a := 8) (b := 14) (fun _ h => by cases h; exact ⟨info14, fun z h => by cases h <;> rfl⟩) tabInfo_127_all tabInfo_135_all
noncomputable def tabInfo_108 : Tr (TypeInfo) := Tr.node (some Try.t6) tabInfo_109 tabInfo_126
theorem tabInfo_108_all : ∀ k x, tabInfo_108.get k = some x → (fun n x => Try.prog.info? n = some x ∧ ∀ z, x.zero = some z → flat z = true) (4 * k + 6) x := Tr.node_all (P := fun n x => Try.prog.info? n = some x ∧ ∀ z, x.zero = some z → flat z = true) (a := 4) (b := 6) (fun _ h => by cases h; exact ⟨info6, fun z h => by cases h <;> rfl⟩) tabInfo_109_all tabInfo_126_all
noncomputable def tabInfo_72 : Tr (TypeInfo) := Tr.node (some Try.t2) tabInfo_73 tabInfo_108
theorem tabInfo_72_all : ∀ k x, tabInfo_72.get k = some x → (fun n x => Try.prog.info? n = some x ∧ ∀ z, x.zero = some z → flat z = true) (2 * k + 2) x := Tr.node_all (P := fun n x => Try.prog.info? n = some x ∧ ∀ z, x.zero = some z → flat z = true) (a := 2) (b := 2) (fun _ h => by cases h; exact ⟨info2, fun z h => by cases h <;> rfl⟩) tabInfo_73_all tabInfo_108_all
noncomputable def tabInfo_1 : Tr (TypeInfo) := Tr.node (some Try.t0) tabInfo_2 tabInfo_72
theorem tabInfo_1_all : ∀ k x, tabInfo_1.get k = some x → (fun n x => Try.prog.info? n = some x ∧ ∀ z, x.zero = some z → flat z = true) (1 * k + 0) x := Tr.node_all (P := fun n x => Try.prog.info? n = some x ∧ ∀ z, x.zero = some z → flat z = true) (a := 1) (b := 0) (fun _ h => by cases h; exact ⟨info0, fun z h => by cases h <;> rfl⟩) tabInfo_2_all tabInfo_72_all
noncomputable def tabInfo : Tr (TypeInfo) := tabInfo_1
theorem tabInfo_all : ∀ k x, tabInfo.get k = some x → (fun n x => Try.prog.info? n = some x ∧ ∀ z, x.zero = some z → flat z = true) k x := fun k x h => by have := tabInfo_1_all k x h; rwa [Nat.one_mul, Nat.add_zero] at this
noncomputable def tabUnd_149 : Tr (TypeDesc) := Tr.node (some Try.t126.desc) Tr.nil Tr.nil
theorem tabUnd_149_all : ∀ k x, tabUnd_149.get k = some x → (fun n x => Try.prog.underlying n = some x) (128 * k + 127) x := Tr.node_all (P := fun n x => Try.prog.underlying n = some x) (a := 128) (b := 127) (fun _ h => by cases h; exact Try.underlying127) (fun k x h => by rw [Tr.get_nil] at h; cases h) (fun k x h => by rw [Tr.get_nil] at h; cases h)
noncomputable def tabUnd_148 : Tr (TypeDesc) := Tr.node (some Try.t63.desc) tabUnd_149 Tr.nil
theorem tabUnd_148_all : ∀ k x, tabUnd_148.get k = some x → (fun n x => Try.prog.underlying n = some x) (64 * k + 63) x := Tr.node_all (P := fun n x => Try.prog.underlying n = some x) (a := 64) (b := 63) (fun _ h => by cases h; exact Try.underlying63) tabUnd_149_all (fun k x h => by rw [Tr.get_nil] at h; cases h)
noncomputable def tabUnd_150 : Tr (TypeDesc) := Tr.node (some Try.t94.desc) Tr.nil Tr.nil
theorem tabUnd_150_all : ∀ k x, tabUnd_150.get k = some x → (fun n x => Try.prog.underlying n = some x) (64 * k + 95) x := Tr.node_all (P := fun n x => Try.prog.underlying n = some x) (a := 64) (b := 95) (fun _ h => by cases h; exact Try.underlying95) (fun k x h => by rw [Tr.get_nil] at h; cases h) (fun k x h => by rw [Tr.get_nil] at h; cases h)
noncomputable def tabUnd_147 : Tr (TypeDesc) := Tr.node (some Try.t24.desc) tabUnd_148 tabUnd_150
theorem tabUnd_147_all : ∀ k x, tabUnd_147.get k = some x → (fun n x => Try.prog.underlying n = some x) (32 * k + 31) x := Tr.node_all (P := fun n x => Try.prog.underlying n = some x) (a := 32) (b := 31) (fun _ h => by cases h; exact Try.underlying31) tabUnd_148_all tabUnd_150_all
noncomputable def tabUnd_152 : Tr (TypeDesc) := Tr.node (some Try.t79.desc) Tr.nil Tr.nil
theorem tabUnd_152_all : ∀ k x, tabUnd_152.get k = some x → (fun n x => Try.prog.underlying n = some x) (64 * k + 79) x := Tr.node_all (P := fun n x => Try.prog.underlying n = some x) (a := 64) (b := 79) (fun _ h => by cases h; exact Try.underlying79) (fun k x h => by rw [Tr.get_nil] at h; cases h) (fun k x h => by rw [Tr.get_nil] at h; cases h)
noncomputable def tabUnd_153 : Tr (TypeDesc) := Tr.node (some Try.t111.desc) Tr.nil Tr.nil
theorem tabUnd_153_all : ∀ k x, tabUnd_153.get k = some x → (fun n x => Try.prog.underlying n = some x) (64 * k + 111) x := Tr.node_all (P := fun n x => Try.prog.underlying n = some x) (a := 64) (b := 111) (fun _ h => by cases h; exact Try.underlying111) (fun k x h => by rw [Tr.get_nil] at h; cases h) (fun k x h => by rw [Tr.get_nil] at h; cases h)
noncomputable def tabUnd_151 : Tr (TypeDesc) := Tr.node (some Try.t47.desc) tabUnd_152 tabUnd_153
theorem tabUnd_151_all : ∀ k x, tabUnd_151.get k = some x → (fun n x => Try.prog.underlying n = some x) (32 * k + 47) x := Tr.node_all (P := fun n x => Try.prog.underlying n = some x) (a := 32) (b := 47) (fun _ h => by cases h; exact Try.underlying47) tabUnd_152_all tabUnd_153_all
noncomputable def tabUnd_146 : Tr (TypeDesc) := Tr.node (some Try.t15.desc) tabUnd_147 tabUnd_151
theorem tabUnd_146_all : ∀ k x, tabUnd_146.get k = some x → (fun n x => Try.prog.underlying n = some x) (16 * k + 15) x := Tr.node_all (P := fun n x => Try.prog.underlying n = some x) (a := 16) (b := 15) (fun _ h => by cases h; exact Try.underlying15) tabUnd_147_all tabUnd_151_all
noncomputable def tabUnd_157 : Tr (TypeDesc) := Tr.node (some Try.t135.desc) Tr.nil Tr.nil
theorem tabUnd_157_all : ∀ k x, tabUnd_157.get k = some x → (fun n x => Try.prog.underlying n = some x) (128 * k + 135) x := Tr.node_all (P := fun n x => Try.prog.underlying n = some x) (a := 128) (b := 135) (fun _ h => by cases h; exact Try.underlying135) (fun k x h => by rw [Tr.get_nil] at h; cases h) (fun k x h => by rw [Tr.get_nil] at h; cases h)
noncomputable def tabUnd_156 : Tr (TypeDesc) := Tr.node (some Try.t70.desc) tabUnd_157 Tr.nil
theorem tabUnd_156_all : ∀ k x, tabUnd_156.get k = some x → (fun n x => Try.prog.underlying n = some x) (64 * k + 71) x := Tr.node_all (P := fun n x => Try.prog.underlying n = some x) (a := 64) (b := 71) (fun _ h => by cases h; exact Try.underlying71) tabUnd_157_all (fun k x h => by rw [Tr.get_nil] at h; cases h)
noncomputable def tabUnd_158 : Tr (TypeDesc) := Tr.node (some Try.t103.desc) Tr.nil Tr.nil
theorem tabUnd_158_all : ∀ k x, tabUnd_158.get k = some x → (fun n x => Try.prog.underlying n = some x) (64 * k + 103) x := Tr.node_all (P := fun n x => Try.prog.underlying n = some x) (a := 64) (b := 103) (fun _ h => by cases h; exact Try.underlying103) (fun k x h => by rw [Tr.get_nil] at h; cases h) (fun k x h => by rw [Tr.get_nil] at h; cases h)
noncomputable def tabUnd_155 : Tr (TypeDesc) := Tr.node (some Try.t39.desc) tabUnd_156 tabUnd_158
theorem tabUnd_155_all : ∀ k x, tabUnd_155.get k = some x → (fun n x => Try.prog.underlying n = some x) (32 * k + 39) x := Tr.node_all (P := fun n x => Try.prog.underlying n = some x) (a := 32) (b := 39) (fun _ h => by cases h; exact Try.underlying39) tabUnd_156_all tabUnd_158_all
noncomputable def tabUnd_160 : Tr (TypeDesc) := Tr.node (some Try.t87.desc) Tr.nil Tr.nil
theorem tabUnd_160_all : ∀ k x, tabUnd_160.get k = some x → (fun n x => Try.prog.underlying n = some x) (64 * k + 87) x := Tr.node_all (P := fun n x => Try.prog.underlying n = some x) (a := 64) (b := 87) (fun _ h => by cases h; exact Try.underlying87) (fun k x h => by rw [Tr.get_nil] at h; cases h) (fun k x h => by rw [Tr.get_nil] at h; cases h)
noncomputable def tabUnd_161 : Tr (TypeDesc) := Tr.node (some Try.t119.desc) Tr.nil Tr.nil
theorem tabUnd_161_all : ∀ k x, tabUnd_161.get k = some x → (fun n x => Try.prog.underlying n = some x) (64 * k + 119) x := Tr.node_all (P := fun n x => Try.prog.underlying n = some x) (a := 64) (b := 119) (fun _ h => by cases h; exact Try.underlying119) (fun k x h => by rw [Tr.get_nil] at h; cases h) (fun k x h => by rw [Tr.get_nil] at h; cases h)
noncomputable def tabUnd_159 : Tr (TypeDesc) := Tr.node (some Try.t55.desc) tabUnd_160 tabUnd_161
theorem tabUnd_159_all : ∀ k x, tabUnd_159.get k = some x → (fun n x => Try.prog.underlying n = some x) (32 * k + 55) x := Tr.node_all (P := fun n x => Try.prog.underlying n = some x) (a := 32) (b := 55) (fun _ h => by cases h; exact Try.underlying55) tabUnd_160_all tabUnd_161_all
noncomputable def tabUnd_154 : Tr (TypeDesc) := Tr.node (some Try.t23.desc) tabUnd_155 tabUnd_159
theorem tabUnd_154_all : ∀ k x, tabUnd_154.get k = some x → (fun n x => Try.prog.underlying n = some x) (16 * k + 23) x := Tr.node_all (P := fun n x => Try.prog.underlying n = some x) (a := 16) (b := 23) (fun _ h => by cases h; exact Try.underlying23) tabUnd_155_all tabUnd_159_all
noncomputable def tabUnd_145 : Tr (TypeDesc) := Tr.node (some Try.t7.desc) tabUnd_146 tabUnd_154
theorem tabUnd_145_all : ∀ k x, tabUnd_145.get k = some x → (fun n x => Try.prog.underlying n = some x) (8 * k + 7) x := Tr.node_all (P := fun n x => Try.prog.underlying n = some x) (a := 8) (b := 7) (fun _ h => by cases h; exact Try.underlying7) tabUnd_146_all tabUnd_154_all
noncomputable def tabUnd_166 : Tr (TypeDesc) := Tr.node (some Try.t131.desc) Tr.nil Tr.nil
theorem tabUnd_166_all : ∀ k x, tabUnd_166.get k = some x → (fun n x => Try.prog.underlying n = some x) (128 * k + 131) x := Tr.node_all (P := fun n x => Try.prog.underlying n = some x) (a := 128) (b := 131) (fun _ h => by cases h; exact Try.underlying131) (fun k x h => by rw [Tr.get_nil] at h; cases h) (fun k x h => by rw [Tr.get_nil] at h; cases h)
noncomputable def tabUnd_165 : Tr (TypeDesc) := Tr.node (some Try.t67.desc) tabUnd_166 Tr.nil
theorem tabUnd_165_all : ∀ k x, tabUnd_165.get k = some x → (fun n x => Try.prog.underlying n = some x) (64 * k + 67) x := Tr.node_all (P := fun n x => Try.prog.underlying n = some x) (a := 64) (b := 67) (fun _ h => by cases h; exact Try.underlying67) tabUnd_166_all (fun k x h => by rw [Tr.get_nil] at h; cases h)
noncomputable def tabUnd_167 : Tr (TypeDesc) := Tr.node (some Try.t99.desc) Tr.nil Tr.nil
theorem tabUnd_167_all : ∀ k x, tabUnd_167.get k = some x → (fun n x => Try.prog.underlying n = some x) (64 * k + 99) x := Tr.node_all (P := fun n x => Try.prog.underlying n = some x) (a := 64) (b := 99) (fun _ h => by cases h; exact Try.underlying99) (fun k x h => by rw [Tr.get_nil] at h; cases h) (fun k x h => by rw [Tr.get_nil] at h; cases h)
noncomputable def tabUnd_164 : Tr (TypeDesc) := Tr.node (some Try.t35.desc) tabUnd_165 tabUnd_167
theorem tabUnd_164_all : ∀ k x, tabUnd_164.get k = some x → (fun n x => Try.prog.underlying n = some x) (32 * k + 35) x := Tr.node_all (P := fun n x => Try.prog.underlying n = some x) (a := 32) (b := 35) (fun _ h => by cases h; exact Try.underlying35) tabUnd_165_all tabUnd_167_all
noncomputable def tabUnd_169 : Tr (TypeDesc) := Tr.node (some Try.t83.desc) Tr.nil Tr.nil
theorem tabUnd_169_all : ∀ k x, tabUnd_169.get k = some x → (fun n x => Try.prog.underlying n = some x) (64 * k + 83) x := Tr.node_all (P := fun n x => Try.prog.underlying n = some x) (a := 64) (b := 83) (fun _ h => by cases h; exact Try.underlying83) (fun k x h => by rw [Tr.get_nil] at h; cases h) (fun k x h => by rw [Tr.get_nil] at h; cases h)
noncomputable def tabUnd_170 : Tr (TypeDesc) := Tr.node (some Try.t115.desc) Tr.nil Tr.nil
theorem tabUnd_170_all : ∀ k x, tabUnd_170.get k = some x → (fun n x => Try.prog.underlying n = some x) (64 * k + 115) x := Tr.node_all (P := fun n x => Try.prog.underlying n = some x) (a := 64) (b := 115) (fun _ h => by cases h; exact Try.underlying115) (fun k x h => by rw [Tr.get_nil] at h; cases h) (fun k x h => by rw [Tr.get_nil] at h; cases h)
noncomputable def tabUnd_168 : Tr (TypeDesc) := Tr.node (some Try.t51.desc) tabUnd_169 tabUnd_170
theorem tabUnd_168_all : ∀ k x, tabUnd_168.get k = some x → (fun n x => Try.prog.underlying n = some x) (32 * k + 51) x := Tr.node_all (P := fun n x => Try.prog.underlying n = some x) (a := 32) (b := 51) (fun _ h => by cases h; exact Try.underlying51) tabUnd_169_all tabUnd_170_all
noncomputable def tabUnd_163 : Tr (TypeDesc) := Tr.node (some Try.t18.desc) tabUnd_164 tabUnd_168
theorem tabUnd_163_all : ∀ k x, tabUnd_163.get k = some x → (fun n x => Try.prog.underlying n = some x) (16 * k + 19) x := Tr.node_all (P := fun n x => Try.prog.underlying n = some x) (a := 16) (b := 19) (fun _ h => by cases h; exact Try.underlying19) tabUnd_164_all tabUnd_168_all
noncomputable def tabUnd_174 : Tr (TypeDesc) := Tr.node (some Try.t139.desc) Tr.nil Tr.nil
theorem tabUnd_174_all : ∀ k x, tabUnd_174.get k = some x → (fun n x => Try.prog.underlying n = some x) (128 * k + 139) x := Tr.node_all (P := fun n x => Try.prog.underlying n = some x) (a := 128) (b := 139) (fun _ h => by cases h; exact Try.underlying139) (fun k x h => by rw [Tr.get_nil] at h; cases h) (fun k x h => by rw [Tr.get_nil] at h; cases h)
noncomputable def tabUnd_173 : Tr (TypeDesc) := Tr.node (some Try.t75.desc) tabUnd_174 Tr.nil
theorem tabUnd_173_all : ∀ k x, tabUnd_173.get k = some x → (fun n x => Try.prog.underlying n = some x) (64 * k + 75) x := Tr.node_all (P := fun n x => Try.prog.underlying n = some x) (a := 64) (b := 75) (fun _ h => by cases h; exact Try.underlying75) tabUnd_174_all (fun k x h => by rw [Tr.get_nil] at h; cases h)
noncomputable def tabUnd_175 : Tr (TypeDesc) := Tr.node (some Try.t107.desc) Tr.nil Tr.nil
theorem tabUnd_175_all : ∀ k x, tabUnd_175.get k = some x → (fun n x => Try.prog.underlying n = some x) (64 * k + 107) x := Tr.node_all (P := fun n x => Try.prog.underlying n = some x) (a := 64) (b := 107) (fun _ h => by cases h; exact Try.underlying107) (fun k x h => by rw [Tr.get_nil] at h; cases h) (fun k x h => by rw [Tr.get_nil] at h; cases h)
noncomputable def tabUnd_172 : Tr (TypeDesc) := Tr.node (some Try.t43.desc) tabUnd_173 tabUnd_175
theorem tabUnd_172_all : ∀ k x, tabUnd_172.get k = some x → (fun n x => Try.prog.underlying n = some x) (32 * k + 43) x := Tr.node_all (P := fun n x => Try.prog.underlying n = some x) (a := 32) (b := 43) (fun _ h => by cases h; exact Try.underlying43) tabUnd_173_all tabUnd_175_all
noncomputable def tabUnd_177 : Tr (TypeDesc) := Tr.node (some Try.t91.desc) Tr.nil Tr.nil
theorem tabUnd_177_all : ∀ k x, tabUnd_177.get k = some x → (fun n x => Try.prog.underlying n = some x) (64 * k + 91) x := Tr.node_all (P := fun n x => Try.prog.underlying n = some x) (a := 64) (b := 91) (fun _ h => by cases h; exact Try.underlying91) (fun k x h => by rw [Tr.get_nil] at h; cases h) (fun k x h => by rw [Tr.get_nil] at h; cases h)
noncomputable def tabUnd_178 : Tr (TypeDesc) := Tr.node (some Try.t123.desc) Tr.nil Tr.nil
theorem tabUnd_178_all : ∀ k x, tabUnd_178.get k = some x → (fun n x => Try.prog.underlying n = some x) (64 * k + 123) x := Tr.node_all (P := fun n x => Try.prog.underlying n = some x) (a := 64) (b := 123) (fun _ h => by cases h; exact Try.underlying123) (fun k x h => by rw [Tr.get_nil] at h; cases h) (fun k x h => by rw [Tr.get_nil] at h; cases h)
noncomputable def tabUnd_176 : Tr (TypeDesc) := Tr.node (some Try.t59.desc) tabUnd_177 tabUnd_178
theorem tabUnd_176_all : ∀ k x, tabUnd_176.get k = some x → (fun n x => Try.prog.underlying n = some x) (32 * k + 59) x := Tr.node_all (P := fun n x => Try.prog.underlying n = some x) (a := 32) (b := 59) (fun _ h => by cases h; exact Try.underlying59) tabUnd_177_all tabUnd_178_all
noncomputable def tabUnd_171 : Tr (TypeDesc) := Tr.node (some Try.t27.desc) tabUnd_172 tabUnd_176
theorem tabUnd_171_all : ∀ k x, tabUnd_171.get k = some x → (fun n x => Try.prog.underlying n = some x) (16 * k + 27) x := Tr.node_all (P := fun n x => Try.prog.underlying n = some x) (a := 16) (b := 27) (fun _ h => by cases h; exact Try.underlying27) tabUnd_172_all tabUnd_176_all
noncomputable def tabUnd_162 : Tr (TypeDesc) := Tr.node (some Try.t9.desc) tabUnd_163 tabUnd_171
theorem tabUnd_162_all : ∀ k x, tabUnd_162.get k = some x → (fun n x => Try.prog.underlying n = some x) (8 * k + 11) x := Tr.node_all (P := fun n x => Try.prog.underlying n = some x) (a := 8) (b := 11) (fun _ h => by cases h; exact Try.underlying11) tabUnd_163_all tabUnd_171_all
noncomputable def tabUnd_144 : Tr (TypeDesc) := Tr.node (some Try.t3.desc) tabUnd_145 tabUnd_162
theorem tabUnd_144_all : ∀ k x, tabUnd_144.get k = some x → (fun n x => Try.prog.underlying n = some x) (4 * k + 3) x := Tr.node_all (P := fun n x => Try.prog.underlying n = some x) (a := 4) (b := 3) (fun _ h => by cases h; exact Try.underlying3) tabUnd_145_all tabUnd_162_all
noncomputable def tabUnd_184 : Tr (TypeDesc) := Tr.node (some Try.t129.desc) Tr.nil Tr.nil
theorem tabUnd_184_all : ∀ k x, tabUnd_184.get k = some x → (fun n x => Try.prog.underlying n = some x) (128 * k + 129) x := Tr.node_all (P := fun n x => Try.prog.underlying n = some x) (a := 128) (b := 129) (fun _ h => by cases h; exact Try.underlying129) (fun k x h => by rw [Tr.get_nil] at h; cases h) (fun k x h => by rw [Tr.get_nil] at h; cases h)
noncomputable def tabUnd_183 : Tr (TypeDesc) := Tr.node (some Try.t65.desc) tabUnd_184 Tr.nil
theorem tabUnd_183_all : ∀ k x, tabUnd_183.get k = some x → (fun n x => Try.prog.underlying n = some x) (64 * k + 65) x := Tr.node_all (P := fun n x => Try.prog.underlying n = some x) (a := 64) (b := 65) (fun _ h => by cases h; exact Try.underlying65) tabUnd_184_all (fun k x h => by rw [Tr.get_nil] at h; cases h)
noncomputable def tabUnd_185 : Tr (TypeDesc) := Tr.node (some Try.t97.desc) Tr.nil Tr.nil
theorem tabUnd_185_all : ∀ k x, tabUnd_185.get k = some x → (fun n x => Try.prog.underlying n = some x) (64 * k + 97) x := Tr.node_all (P := fun n x => Try.prog.underlying n = some x) (a := 64) (b := 97) (fun _ h => by cases h; exact Try.underlying97) (fun k x h => by rw [Tr.get_nil] at h; cases h) (fun k x h => by rw [Tr.get_nil] at h; cases h)
noncomputable def tabUnd_182 : Tr (TypeDesc) := Tr.node (some Try.t33.desc) tabUnd_183 tabUnd_185
theorem tabUnd_182_all : ∀ k x, tabUnd_182.get k = some x → (fun n x => Try.prog.underlying n = some x) (32 * k + 33) x := Tr.node_all (P := fun n x => Try.prog.underlying n = some x) (a := 32) (b := 33) (fun _ h => by cases h; exact Try.underlying33) tabUnd_183_all tabUnd_185_all
noncomputable def tabUnd_187 : Tr (TypeDesc) := Tr.node (some Try.t80.desc) Tr.nil Tr.nil
theorem tabUnd_187_all : ∀ k x, tabUnd_187.get k = some x → (fun n x => Try.prog.underlying n = some x) (64 * k + 81) x := Tr.node_all (P := fun n x => Try.prog.underlying n = some x) (a := 64) (b := 81) (fun _ h => by cases h; exact Try.underlying81) (fun k x h => by rw [Tr.get_nil] at h; cases h) (fun k x h => by rw [Tr.get_nil] at h; cases h)
noncomputable def tabUnd_188 : Tr (TypeDesc) := Tr.node (some Try.t113.desc) Tr.nil Tr.nil
theorem tabUnd_188_all : ∀ k x, tabUnd_188.get k = some x → (fun n x => Try.prog.underlying n = some x) (64 * k + 113) x := Tr.node_all (P := fun n x => Try.prog.underlying n = some x) (a := 64) (b := 113) (fun _ h => by cases h; exact Try.underlying113) (fun k x h => by rw [Tr.get_nil] at h; cases h) (fun k x h => by rw [Tr.get_nil] at h; cases h)
noncomputable def tabUnd_186 : Tr (TypeDesc) := Tr.node (some Try.t49.desc) tabUnd_187 tabUnd_188
theorem tabUnd_186_all : ∀ k x, tabUnd_186.get k = some x → (fun n x => Try.prog.underlying n = some x) (32 * k + 49) x := Tr.node_all (P := fun n x => Try.prog.underlying n = some x) (a := 32) (b := 49) (fun _ h => by cases h; exact Try.underlying49) tabUnd_187_all tabUnd_188_all
noncomputable def tabUnd_181 : Tr (TypeDesc) := Tr.node (some Try.t17.desc) tabUnd_182 tabUnd_186
theorem tabUnd_181_all : ∀ k x, tabUnd_181.get k = some x → (fun n x => Try.prog.underlying n = some x) (16 * k + 17) x := Tr.node_all (P := fun n x => Try.prog.underlying n = some x) (a := 16) (b := 17) (fun _ h => by cases h; exact Try.underlying17) tabUnd_182_all tabUnd_186_all
noncomputable def tabUnd_192 : Tr (TypeDesc) := Tr.node (some Try.t21.desc) Tr.nil Tr.nil
theorem tabUnd_192_all : ∀ k x, tabUnd_192.get k = some x → (fun n x => Try.prog.underlying n = some x) (128 * k + 137) x := Tr.node_all (P := fun n x => Try.prog.underlying n = some x) (a := 128) (b := 137) (fun _ h => by cases h; exact Try.underlying137) (fun k x h => by rw [Tr.get_nil] at h; cases h) (fun k x h => by rw [Tr.get_nil] at h; cases h)
noncomputable def tabUnd_191 : Tr (TypeDesc) := Tr.node (some Try.t73.desc) tabUnd_192 Tr.nil
theorem tabUnd_191_all : ∀ k x, tabUnd_191.get k = some x → (fun n x => Try.prog.underlying n = some x) (64 * k + 73) x := Tr.node_all (P := fun n x => Try.prog.underlying n = some x) (a := 64) (b := 73) (fun _ h => by cases h; exact Try.underlying73) tabUnd_192_all (fun k x h => by rw [Tr.get_nil] at h; cases h)
noncomputable def tabUnd_193 : Tr (TypeDesc) := Tr.node (some Try.t105.desc) Tr.nil Tr.nil
theorem tabUnd_193_all : ∀ k x, tabUnd_193.get k = some x → (fun n x => Try.prog.underlying n = some x) (64 * k + 105) x := Tr.node_all (P := fun n x => Try.prog.underlying n = some x) (a := 64) (b := 105) (fun _ h => by cases h; exact Try.underlying105) (fun k x h => by rw [Tr.get_nil] at h; cases h) (fun k x h => by rw [Tr.get_nil] at h; cases h)
noncomputable def tabUnd_190 : Tr (TypeDesc) := Tr.node (some Try.t41.desc) tabUnd_191 tabUnd_193
theorem tabUnd_190_all : ∀ k x, tabUnd_190.get k = some x → (fun n x => Try.prog.underlying n = some x) (32 * k + 41) x := Tr.node_all (P := fun n x => Try.prog.underlying n = some x) (a := 32) (b := 41) (fun _ h => by cases h; exact Try.underlying41) tabUnd_191_all tabUnd_193_all
noncomputable def tabUnd_195 : Tr (TypeDesc) := Tr.node (some Try.t89.desc) Tr.nil Tr.nil
theorem tabUnd_195_all : ∀ k x, tabUnd_195.get k = some x → (fun n x => Try.prog.underlying n = some x) (64 * k + 89) x := Tr.node_all (P := fun n x => Try.prog.underlying n = some x) (a := 64) (b := 89) (fun _ h => by cases h; exact Try.underlying89) (fun k x h => by rw [Tr.get_nil] at h; cases h) (fun k x h => by rw [Tr.get_nil] at h; cases h)
noncomputable def tabUnd_196 : Tr (TypeDesc) := Tr.node (some Try.t121.desc) Tr.nil Tr.nil
theorem tabUnd_196_all : ∀ k x, tabUnd_196.get k = some x → (fun n x => Try.prog.underlying n = some x) (64 * k + 121) x := Tr.node_all (P := fun n x => Try.prog.underlying n = some x) (a := 64) (b := 121) (fun _ h => by cases h; exact Try.underlying121) (fun k x h => by rw [Tr.get_nil] at h; cases h) (fun k x h => by rw [Tr.get_nil] at h; cases h)
noncomputable def tabUnd_194 : Tr (TypeDesc) := Tr.node (some Try.t56.desc) tabUnd_195 tabUnd_196
theorem tabUnd_194_all : ∀ k x, tabUnd_194.get k = some x → (fun n x => Try.prog.underlying n = some x) (32 * k + 57) x := Tr.node_all (P := fun n x => Try.prog.underlying n = some x) (a := 32) (b := 57) (fun _ h => by cases h; exact Try.underlying57) tabUnd_195_all tabUnd_196_all
noncomputable def tabUnd_189 : Tr (TypeDesc) := Tr.node (some Try.t24.desc) tabUnd_190 tabUnd_194
theorem tabUnd_189_all : ∀ k x, tabUnd_189.get k = some x → (fun n x => Try.prog.underlying n = some x) (16 * k + 25) x := Tr.node_all (P := fun n x => Try.prog.underlying n = some x) (a := 16) (b := 25) (fun _ h => by cases h; exact Try.underlying25) tabUnd_190_all tabUnd_194_all
noncomputable def tabUnd_180 : Tr (TypeDesc) := Tr.node (some Try.t9.desc) tabUnd_181 tabUnd_189
theorem tabUnd_180_all : ∀ k x, tabUnd_180.get k = some x → (fun n x => Try.prog.underlying n = some x) (8 * k + 9) x := Tr.node_all (P := fun n x => Try.prog.underlying n = some x) (a := 8) (b := 9) (fun _ h => by cases h; exact Try.underlying9) tabUnd_181_all tabUnd_189_all
noncomputable def tabUnd_201 : Tr (TypeDesc) := Tr.node (some Try.t5.desc) Tr.nil Tr.nil
theorem tabUnd_201_all : ∀ k x, tabUnd_201.get k = some x → (fun n x => Try.prog.underlying n = some x) (128 * k + 133) x := Tr.node_all (P := fun n x => Try.prog.underlying n = some x) (a := 128) (b := 133) (fun _ h => by cases h; exact Try.underlying133) (fun k x h => by rw [Tr.get_nil] at h; cases h) (fun k x h => by rw [Tr.get_nil] at h; cases h)
noncomputable def tabUnd_200 : Tr (TypeDesc) := Tr.node (some Try.t68.desc) tabUnd_201 Tr.nil
theorem tabUnd_200_all : ∀ k x, tabUnd_200.get k = some x → (fun n x => Try.prog.underlying n = some x) (64 * k + 69) x := Tr.node_all (P := fun n x => Try.prog.underlying n = some x) (a := 64) (b := 69) (fun _ h => by cases h; exact Try.underlying69) tabUnd_201_all (fun k x h => by rw [Tr.get_nil] at h; cases h)
noncomputable def tabUnd_202 : Tr (TypeDesc) := Tr.node (some Try.t101.desc) Tr.nil Tr.nil
theorem tabUnd_202_all : ∀ k x, tabUnd_202.get k = some x → (fun n x => Try.prog.underlying n = some x) (64 * k + 101) x := Tr.node_all (P := fun n x => Try.prog.underlying n = some x) (a := 64) (b := 101) (fun _ h => by cases h; exact Try.underlying101) (fun k x h => by rw [Tr.get_nil] at h; cases h) (fun k x h => by rw [Tr.get_nil] at h; cases h)
noncomputable def tabUnd_199 : Tr (TypeDesc) := Tr.node (some Try.t37.desc) tabUnd_200 tabUnd_202
theorem tabUnd_199_all : ∀ k x, tabUnd_199.get k = some x → (fun n x => Try.prog.underlying n = some x) (32 * k + 37) x := Tr.node_all (P := fun n x => Try.prog.underlying n = some x) (a := 32) (b := 37) (fun _ h => by cases h; exact Try.underlying37) tabUnd_200_all tabUnd_202_all
noncomputable def tabUnd_204 : Tr (TypeDesc) := Tr.node (some Try.t85.desc) Tr.nil Tr.nil
theorem tabUnd_204_all : ∀ k x, tabUnd_204.get k = some x → (fun n x => Try.prog.underlying n = some x) (64 * k + 85) x := Tr.node_all (P := fun n x => Try.prog.underlying n = some x) (a := 64) (b := 85) (fun _ h => by cases h; exact Try.underlying85) (fun k x h => by rw [Tr.get_nil] at h; cases h) (fun k x h => by rw [Tr.get_nil] at h; cases h)
noncomputable def tabUnd_205 : Tr (TypeDesc) := Tr.node (some Try.t117.desc) Tr.nil Tr.nil
theorem tabUnd_205_all : ∀ k x, tabUnd_205.get k = some x → (fun n x => Try.prog.underlying n = some x) (64 * k + 117) x := Tr.node_all (P := fun n x => Try.prog.underlying n = some x) (a := 64) (b := 117) (fun _ h => by cases h; exact Try.underlying117) (fun k x h => by rw [Tr.get_nil] at h; cases h) (fun k x h => by rw [Tr.get_nil] at h; cases h)
noncomputable def tabUnd_203 : Tr (TypeDesc) := Tr.node (some Try.t53.desc) tabUnd_204 tabUnd_205
theorem tabUnd_203_all : ∀ k x, tabUnd_203.get k = some x → (fun n x => Try.prog.underlying n = some x) (32 * k + 53) x := Tr.node_all (P := fun n x => Try.prog.underlying n = some x) (a := 32) (b := 53) (fun _ h => by cases h; exact Try.underlying53) tabUnd_204_all tabUnd_205_all
noncomputable def tabUnd_198 : Tr (TypeDesc) := Tr.node (some Try.t21.desc) tabUnd_199 tabUnd_203
theorem tabUnd_198_all : ∀ k x, tabUnd_198.get k = some x → (fun n x => Try.prog.underlying n = some x) (16 * k + 21) x := Tr.node_all (P := fun n x => Try.prog.underlying n = some x) (a := 16) (b := 21) (fun _ h => by cases h; exact Try.underlying21) tabUnd_199_all tabUnd_203_all
noncomputable def tabUnd_209 : Tr (TypeDesc) := Tr.node (some Try.t141.desc) Tr.nil Tr.nil
theorem tabUnd_209_all : ∀ k x, tabUnd_209.get k = some x → (fun n x => Try.prog.underlying n = some x) (128 * k + 141) x := Tr.node_all (P := fun n x => Try.prog.underlying n = some x) (a := 128) (b := 141) (fun _ h => by cases h; exact Try.underlying141) (fun k x h => by rw [Tr.get_nil] at h; cases h) (fun k x h => by rw [Tr.get_nil] at h; cases h)
noncomputable def tabUnd_208 : Tr (TypeDesc) := Tr.node (some Try.t77.desc) tabUnd_209 Tr.nil
theorem tabUnd_208_all : ∀ k x, tabUnd_208.get k = some x → (fun n x => Try.prog.underlying n = some x) (64 * k + 77) x := Tr.node_all (P := fun n x => Try.prog.underlying n = some x) (a := 64) (b := 77) (fun _ h => by cases h; exact Try.underlying77) tabUnd_209_all (fun k x h => by rw [Tr.get_nil] at h; cases h)
noncomputable def tabUnd_210 : Tr (TypeDesc) := Tr.node (some Try.t109.desc) Tr.nil Tr.nil
theorem tabUnd_210_all : ∀ k x, tabUnd_210.get k = some x → (fun n x => Try.prog.underlying n = some x) (64 * k + 109) x := Tr.node_all (P := fun n x => Try.prog.underlying n = some x) (a := 64) (b := 109) (fun _ h => by cases h; exact Try.underlying109) (fun k x h => by rw [Tr.get_nil] at h; cases h) (fun k x h => by rw [Tr.get_nil] at h; cases h)
noncomputable def tabUnd_207 : Tr (TypeDesc) := Tr.node (some Try.t45.desc) tabUnd_208 tabUnd_210
theorem tabUnd_207_all : ∀ k x, tabUnd_207.get k = some x → (fun n x => Try.prog.underlying n = some x) (32 * k + 45) x := Tr.node_all (P := fun n x => Try.prog.underlying n = some x) (a := 32) (b := 45) (fun _ h => by cases h; exact Try.underlying45) tabUnd_208_all tabUnd_210_all
noncomputable def tabUnd_212 : Tr (TypeDesc) := Tr.node (some Try.t93.desc) Tr.nil Tr.nil
theorem tabUnd_212_all : ∀ k x, tabUnd_212.get k = some x → (fun n x => Try.prog.underlying n = some x) (64 * k + 93) x := Tr.node_all (P := fun n x => Try.prog.underlying n = some x) (a := 64) (b := 93) (fun _ h => by cases h; exact Try.underlying93) (fun k x h => by rw [Tr.get_nil] at h; cases h) (fun k x h => by rw [Tr.get_nil] at h; cases h)
noncomputable def tabUnd_213 : Tr (TypeDesc) := Tr.node (some Try.t125.desc) Tr.nil Tr.nil
theorem tabUnd_213_all : ∀ k x, tabUnd_213.get k = some x → (fun n x => Try.prog.underlying n = some x) (64 * k + 125) x := Tr.node_all (P := fun n x => Try.prog.underlying n = some x) (a := 64) (b := 125) (fun _ h => by cases h; exact Try.underlying125) (fun k x h => by rw [Tr.get_nil] at h; cases h) (fun k x h => by rw [Tr.get_nil] at h; cases h)
noncomputable def tabUnd_211 : Tr (TypeDesc) := Tr.node (some Try.t61.desc) tabUnd_212 tabUnd_213
theorem tabUnd_211_all : ∀ k x, tabUnd_211.get k = some x → (fun n x => Try.prog.underlying n = some x) (32 * k + 61) x := Tr.node_all (P := fun n x => Try.prog.underlying n = some x) (a := 32) (b := 61) (fun _ h => by cases h; exact Try.underlying61) tabUnd_212_all tabUnd_213_all
noncomputable def tabUnd_206 : Tr (TypeDesc) := Tr.node (some Try.t29.desc) tabUnd_207 tabUnd_211
theorem tabUnd_206_all : ∀ k x, tabUnd_206.get k = some x → (fun n x => Try.prog.underlying n = some x) (16 * k + 29) x := Tr.node_all (P := fun n x => Try.prog.underlying n = some x) (a := 16) (b := 29) (fun _ h => by cases h; exact Try.underlying29) tabUnd_207_all tabUnd_211_all
noncomputable def tabUnd_197 : Tr (TypeDesc) := Tr.node (some Try.t13.desc) tabUnd_198 tabUnd_206
theorem tabUnd_197_all : ∀ k x, tabUnd_197.get k = some x → (fun n x => Try.prog.underlying n = some x) (8 * k + 13) x := Tr.node_all (P := fun n x => Try.prog.underlying n = some x) (a := 8) (b := 13) (fun _ h => by cases h; exact Try.underlying13) tabUnd_198_all tabUnd_206_all
noncomputable def tabUnd_179 : Tr (TypeDesc) := Tr.node (some Try.t5.desc) tabUnd_180 tabUnd_197
theorem tabUnd_179_all : ∀ k x, tabUnd_179.get k = some x → (fun n x => Try.prog.underlying n = some x) (4 * k + 5) x := Tr.node_all (P := fun n x => Try.prog.underlying n = some x) (a := 4) (b := 5) (fun _ h => by cases h; exact Try.underlying5) tabUnd_180_all tabUnd_197_all
noncomputable def tabUnd_143 : Tr (TypeDesc) := Tr.node (some Try.t1.desc) tabUnd_144 tabUnd_179
theorem tabUnd_143_all : ∀ k x, tabUnd_143.get k = some x → (fun n x => Try.prog.underlying n = some x) (2 * k + 1) x := Tr.node_all (P := fun n x => Try.prog.underlying n = some x) (a := 2) (b := 1) (fun _ h => by cases h; exact Try.underlying1) tabUnd_144_all tabUnd_179_all
noncomputable def tabUnd_220 : Tr (TypeDesc) := Tr.node (some Try.t128.desc) Tr.nil Tr.nil
theorem tabUnd_220_all : ∀ k x, tabUnd_220.get k = some x → (fun n x => Try.prog.underlying n = some x) (128 * k + 128) x := Tr.node_all (P := fun n x => Try.prog.underlying n = some x) (a := 128) (b := 128) (fun _ h => by cases h; exact Try.underlying128) (fun k x h => by rw [Tr.get_nil] at h; cases h) (fun k x h => by rw [Tr.get_nil] at h; cases h)
noncomputable def tabUnd_219 : Tr (TypeDesc) := Tr.node (some Try.t64.desc) tabUnd_220 Tr.nil
theorem tabUnd_219_all : ∀ k x, tabUnd_219.get k = some x → (fun n x => Try.prog.underlying n = some x) (64 * k + 64) x := Tr.node_all (P := fun n x => Try.prog.underlying n = some x) (a := 64) (b := 64) (fun _ h => by cases h; exact Try.underlying64) tabUnd_220_all (fun k x h => by rw [Tr.get_nil] at h; cases h)
noncomputable def tabUnd_221 : Tr (TypeDesc) := Tr.node (some Try.t96.desc) Tr.nil Tr.nil
theorem tabUnd_221_all : ∀ k x, tabUnd_221.get k = some x → (fun n x => Try.prog.underlying n = some x) (64 * k + 96) x := Tr.node_all (P := fun n x => Try.prog.underlying n = some x) (a := 64) (b := 96) (fun _ h => by cases h; exact Try.underlying96) (fun k x h => by rw [Tr.get_nil] at h; cases h) (fun k x h => by rw [Tr.get_nil] at h; cases h)
noncomputable def tabUnd_218 : Tr (TypeDesc) := Tr.node (some Try.t32.desc) tabUnd_219 tabUnd_221
theorem tabUnd_218_all : ∀ k x, tabUnd_218.get k = some x → (fun n x => Try.prog.underlying n = some x) (32 * k + 32) x := Tr.node_all (P := fun n x => Try.prog.underlying n = some x) (a := 32) (b := 32) (fun _ h => by cases h; exact Try.underlying32) tabUnd_219_all tabUnd_221_all
noncomputable def tabUnd_223 : Tr (TypeDesc) := Tr.node (some Try.t80.desc) Tr.nil Tr.nil
theorem tabUnd_223_all : ∀ k x, tabUnd_223.get k = some x → (fun n x => Try.prog.underlying n = some x) (64 * k + 80) x := Tr.node_all (P := fun n x => Try.prog.underlying n = some x) (a := 64) (b := 80) (fun _ h => by cases h; exact Try.underlying80) (fun k x h => by rw [Tr.get_nil] at h; cases h) (fun k x h => by rw [Tr.get_nil] at h; cases h)
noncomputable def tabUnd_224 : Tr (TypeDesc) := Tr.node (some Try.t111.desc) Tr.nil Tr.nil
theorem tabUnd_224_all : ∀ k x, tabUnd_224.get k = some x → (fun n x => Try.prog.underlying n = some x) (64 * k + 112) x := Tr.node_all (P := fun n x => Try.prog.underlying n = some x) (a := 64) (b := 112) (fun _ h => by cases h; exact Try.underlying112) (fun k x h => by rw [Tr.get_nil] at h; cases h) (fun k x h => by rw [Tr.get_nil] at h; cases h)
noncomputable def tabUnd_222 : Tr (TypeDesc) := Tr.node (some Try.t48.desc) tabUnd_223 tabUnd_224
theorem tabUnd_222_all : ∀ k x, tabUnd_222.get k = some x → (fun n x => Try.prog.underlying n = some x) (32 * k + 48) x := Tr.node_all (P := fun n x => Try.prog.underlying n = some x) (a := 32) (b := 48) (fun _ h => by cases h; exact Try.underlying48) tabUnd_223_all tabUnd_224_all
noncomputable def tabUnd_217 : Tr (TypeDesc) := Tr.node (some Try.t16.desc) tabUnd_218 tabUnd_222
theorem tabUnd_217_all : ∀ k x, tabUnd_217.get k = some x → (fun n x => Try.prog.underlying n = some x) (16 * k + 16) x := Tr.node_all (P := fun n x => Try.prog.underlying n = some x) (a := 16) (b := 16) (fun _ h => by cases h; exact Try.underlying16) tabUnd_218_all tabUnd_222_all
noncomputable def tabUnd_228 : Tr (TypeDesc) := Tr.node (some Try.t136.desc) Tr.nil Tr.nil
theorem tabUnd_228_all : ∀ k x, tabUnd_228.get k = some x → (fun n x => Try.prog.underlying n = some x) (128 * k + 136) x := Tr.node_all (P := fun n x => Try.prog.underlying n = some x) (a := 128) (b := 136) (fun _ h => by cases h; exact Try.underlying136) (fun k x h => by rw [Tr.get_nil] at h; cases h) (fun k x h => by rw [Tr.get_nil] at h; cases h)
noncomputable def tabUnd_227 : Tr (TypeDesc) := Tr.node (some Try.t72.desc) tabUnd_228 Tr.nil
theorem tabUnd_227_all : ∀ k x, tabUnd_227.get k = some x → (fun n x => Try.prog.underlying n = some x) (64 * k + 72) x := Tr.node_all (P := fun n x => Try.prog.underlying n = some x) (a := 64) (b := 72) (fun _ h => by cases h; exact Try.underlying72) tabUnd_228_all (fun k x h => by rw [Tr.get_nil] at h; cases h)
noncomputable def tabUnd_229 : Tr (TypeDesc) := Tr.node (some Try.t104.desc) Tr.nil Tr.nil
theorem tabUnd_229_all : ∀ k x, tabUnd_229.get k = some x → (fun n x => Try.prog.underlying n = some x) (64 * k + 104) x := Tr.node_all (P := fun n x => Try.prog.underlying n = some x) (a := 64) (b := 104) (fun _ h => by cases h; exact Try.underlying104) (fun k x h => by rw [Tr.get_nil] at h; cases h) (fun k x h => by rw [Tr.get_nil] at h; cases h)
noncomputable def tabUnd_226 : Tr (TypeDesc) := Tr.node (some Try.t40.desc) tabUnd_227 tabUnd_229
theorem tabUnd_226_all : ∀ k x, tabUnd_226.get k = some x → (fun n x => Try.prog.underlying n = some x) (32 * k + 40) x := Tr.node_all (P := fun n x => Try.prog.underlying n = some x) (a := 32) (b := 40) (fun _ h => by cases h; exact Try.underlying40) tabUnd_227_all tabUnd_229_all
noncomputable def tabUnd_231 : Tr (TypeDesc) := Tr.node (some Try.t87.desc) Tr.nil Tr.nil
theorem tabUnd_231_all : ∀ k x, tabUnd_231.get k = some x → (fun n x => Try.prog.underlying n = some x) (64 * k + 88) x := Tr.node_all (P := fun n x => Try.prog.underlying n = some x) (a := 64) (b := 88) (fun _ h => by cases h; exact Try.underlying88) (fun k x h => by rw [Tr.get_nil] at h; cases h) (fun k x h => by rw [Tr.get_nil] at h; cases h)
noncomputable def tabUnd_232 : Tr (TypeDesc) := Tr.node (some Try.t120.desc) Tr.nil Tr.nil
theorem tabUnd_232_all : ∀ k x, tabUnd_232.get k = some x → (fun n x => Try.prog.underlying n = some x) (64 * k + 120) x := Tr.node_all (P := fun n x => Try.prog.underlying n = some x) (a := 64) (b := 120) (fun _ h => by cases h; exact Try.underlying120) (fun k x h => by rw [Tr.get_nil] at h; cases h) (fun k x h => by rw [Tr.get_nil] at h; cases h)
noncomputable def tabUnd_230 : Tr (TypeDesc) := Tr.node (some Try.t56.desc) tabUnd_231 tabUnd_232
theorem tabUnd_230_all : ∀ k x, tabUnd_230.get k = some x → (fun n x => Try.prog.underlying n = some x) (32 * k + 56) x := Tr.node_all (P := fun n x => Try.prog.underlying n = some x) (a := 32) (b := 56) (fun _ h => by cases h; exact Try.underlying56) tabUnd_231_all tabUnd_232_all
noncomputable def tabUnd_225 : Tr (TypeDesc) := Tr.node (some Try.t24.desc) tabUnd_226 tabUnd_230
theorem tabUnd_225_all : ∀ k x, tabUnd_225.get k = some x → (fun n x => Try.prog.underlying n = some x) (16 * k + 24) x := Tr.node_all (P := fun n x => Try.prog.underlying n = some x) (a := 16) (b := 24) (fun _ h => by cases h; exact Try.underlying24) tabUnd_226_all tabUnd_230_all
noncomputable def tabUnd_216 : Tr (TypeDesc) := Tr.node (some Try.t7.desc) tabUnd_217 tabUnd_225
theorem tabUnd_216_all : ∀ k x, tabUnd_216.get k = some x → (fun n x => Try.prog.underlying n = some x) (8 * k + 8) x := Tr.node_all (P := fun n x => Try.prog.underlying n = some x) (a := 8) (b := 8) (fun _ h => by cases h; exact Try.underlying8) tabUnd_217_all tabUnd_225_all
noncomputable def tabUnd_237 : Tr (TypeDesc) := Tr.node (some Try.t132.desc) Tr.nil Tr.nil
theorem tabUnd_237_all : ∀ k x, tabUnd_237.get k = some x → (fun n x => Try.prog.underlying n = some x) (128 * k + 132) x := Tr.node_all (P := fun n x => Try.prog.underlying n = some x) (a := 128) (b := 132) (fun _ h => by cases h; exact Try.underlying132) (fun k x h => by rw [Tr.get_nil] at h; cases h) (fun k x h => by rw [Tr.get_nil] at h; cases h)
noncomputable def tabUnd_236 : Tr (TypeDesc) := Tr.node (some Try.t68.desc) tabUnd_237 Tr.nil
theorem tabUnd_236_all : ∀ k x, tabUnd_236.get k = some x → (fun n x => Try.prog.underlying n = some x) (64 * k + 68) x := Tr.node_all (P := fun n x => Try.prog.underlying n = some x) (a := 64) (b := 68) (fun _ h => by cases h; exact Try.underlying68) tabUnd_237_all (fun k x h => by rw [Tr.get_nil] at h; cases h)
noncomputable def tabUnd_238 : Tr (TypeDesc) := Tr.node (some Try.t100.desc) Tr.nil Tr.nil
theorem tabUnd_238_all : ∀ k x, tabUnd_238.get k = some x → (fun n x => Try.prog.underlying n = some x) (64 * k + 100) x := Tr.node_all (P := fun n x => Try.prog.underlying n = some x) (a := 64) (b := 100) (fun _ h => by cases h; exact Try.underlying100) (fun k x h => by rw [Tr.get_nil] at h; cases h) (fun k x h => by rw [Tr.get_nil] at h; cases h)
noncomputable def tabUnd_235 : Tr (TypeDesc) := Tr.node (some Try.t36.desc) tabUnd_236 tabUnd_238
theorem tabUnd_235_all : ∀ k x, tabUnd_235.get k = some x → (fun n x => Try.prog.underlying n = some x) (32 * k + 36) x := Tr.node_all (P := fun n x => Try.prog.underlying n = some x) (a := 32) (b := 36) (fun _ h => by cases h; exact Try.underlying36) tabUnd_236_all tabUnd_238_all
noncomputable def tabUnd_240 : Tr (TypeDesc) := Tr.node (some Try.t84.desc) Tr.nil Tr.nil
theorem tabUnd_240_all : ∀ k x, tabUnd_240.get k = some x → (fun n x => Try.prog.underlying n = some x) (64 * k + 84) x := Tr.node_all (P := fun n x => Try.prog.underlying n = some x) (a := 64) (b := 84) (fun _ h => by cases h; exact Try.underlying84) (fun k x h => by rw [Tr.get_nil] at h; cases h) (fun k x h => by rw [Tr.get_nil] at h; cases h)
noncomputable def tabUnd_241 : Tr (TypeDesc) := Tr.node (some Try.t116.desc) Tr.nil Tr.nil
theorem tabUnd_241_all : ∀ k x, tabUnd_241.get k = some x → (fun n x => Try.prog.underlying n = some x) (64 * k + 116) x := Tr.node_all (P := fun n x => Try.prog.underlying n = some x) (a := 64) (b := 116) (fun _ h => by cases h; exact Try.underlying116) (fun k x h => by rw [Tr.get_nil] at h; cases h) (fun k x h => by rw [Tr.get_nil] at h; cases h)
noncomputable def tabUnd_239 : Tr (TypeDesc) := Tr.node (some Try.t52.desc) tabUnd_240 tabUnd_241
theorem tabUnd_239_all : ∀ k x, tabUnd_239.get k = some x → (fun n x => Try.prog.underlying n = some x) (32 * k + 52) x := Tr.node_all (P := fun n x => Try.prog.underlying n = some x) (a := 32) (b := 52) (fun _ h => by cases h; exact Try.underlying52) tabUnd_240_all tabUnd_241_all
noncomputable def tabUnd_234 : Tr (TypeDesc) := Tr.node (some Try.t20.desc) tabUnd_235 tabUnd_239
theorem tabUnd_234_all : ∀ k x, tabUnd_234.get k = some x → (fun n x => Try.prog.underlying n = some x) (16 * k + 20) x := Tr.node_all (P := fun n x => Try.prog.underlying n = some x) (a := 16) (b := 20) (fun _ h => by cases h; exact Try.underlying20) tabUnd_235_all tabUnd_239_all
noncomputable def tabUnd_245 : Tr (TypeDesc) := Tr.node (some Try.t139.desc) Tr.nil Tr.nil
theorem tabUnd_245_all : ∀ k x, tabUnd_245.get k = some x → (fun n x => Try.prog.underlying n = some x) (128 * k + 140) x := Tr.node_all (P := fun n x => Try.prog.underlying n = some x) (a := 128) (b := 140) (fun _ h => by cases h; exact Try.underlying140) (fun k x h => by rw [Tr.get_nil] at h; cases h) (fun k x h => by rw [Tr.get_nil] at h; cases h)
noncomputable def tabUnd_244 : Tr (TypeDesc) := Tr.node (some Try.t75.desc) tabUnd_245 Tr.nil
theorem tabUnd_244_all : ∀ k x, tabUnd_244.get k = some x → (fun n x => Try.prog.underlying n = some x) (64 * k + 76) x := Tr.node_all (P := fun n x => Try.prog.underlying n = some x) (a := 64) (b := 76) (fun _ h => by cases h; exact Try.underlying76) tabUnd_245_all (fun k x h => by rw [Tr.get_nil] at h; cases h)
noncomputable def tabUnd_246 : Tr (TypeDesc) := Tr.node (some Try.t108.desc) Tr.nil Tr.nil
theorem tabUnd_246_all : ∀ k x, tabUnd_246.get k = some x → (fun n x => Try.prog.underlying n = some x) (64 * k + 108) x := Tr.node_all (P := fun n x => Try.prog.underlying n = some x) (a := 64) (b := 108) (fun _ h => by cases h; exact Try.underlying108) (fun k x h => by rw [Tr.get_nil] at h; cases h) (fun k x h => by rw [Tr.get_nil] at h; cases h)
noncomputable def tabUnd_243 : Tr (TypeDesc) := Tr.node (some Try.t44.desc) tabUnd_244 tabUnd_246
theorem tabUnd_243_all : ∀ k x, tabUnd_243.get k = some x → (fun n x => Try.prog.underlying n = some x) (32 * k + 44) x := Tr.node_all (P := fun n x => Try.prog.underlying n = some x) (a := 32) (b := 44) (fun _ h => by cases h; exact Try.underlying44) tabUnd_244_all tabUnd_246_all
noncomputable def tabUnd_248 : Tr (TypeDesc) := Tr.node (some Try.t92.desc) Tr.nil Tr.nil
theorem tabUnd_248_all : ∀ k x, tabUnd_248.get k = some x → (fun n x => Try.prog.underlying n = some x) (64 * k + 92) x := Tr.node_all (P := fun n x => Try.prog.underlying n = some x) (a := 64) (b := 92) (fun _ h => by cases h; exact Try.underlying92) (fun k x h => by rw [Tr.get_nil] at h; cases h) (fun k x h => by rw [Tr.get_nil] at h; cases h)
noncomputable def tabUnd_249 : Tr (TypeDesc) := Tr.node (some Try.t124.desc) Tr.nil Tr.nil
theorem tabUnd_249_all : ∀ k x, tabUnd_249.get k = some x → (fun n x => Try.prog.underlying n = some x) (64 * k + 124) x := Tr.node_all (P := fun n x => Try.prog.underlying n = some x) (a := 64) (b := 124) (fun _ h => by cases h; exact Try.underlying124) (fun k x h => by rw [Tr.get_nil] at h; cases h) (fun k x h => by rw [Tr.get_nil] at h; cases h)
noncomputable def tabUnd_247 : Tr (TypeDesc) := Tr.node (some Try.t60.desc) tabUnd_248 tabUnd_249
theorem tabUnd_247_all : ∀ k x, tabUnd_247.get k = some x → (fun n x => Try.prog.underlying n = some x) (32 * k + 60) x := Tr.node_all (P := fun n x => Try.prog.underlying n = some x) (a := 32) (b := 60) (fun _ h => by cases h; exact Try.underlying60) tabUnd_248_all tabUnd_249_all
noncomputable def tabUnd_242 : Tr (TypeDesc) := Tr.node (some Try.t3.desc) tabUnd_243 tabUnd_247
theorem tabUnd_242_all : ∀ k x, tabUnd_242.get k = some x → (fun n x => Try.prog.underlying n = some x) (16 * k + 28) x := Tr.node_all (P := fun n x => Try.prog.underlying n = some x) (a := 16) (b := 28) (fun _ h => by cases h; exact Try.underlying28) tabUnd_243_all tabUnd_247_all
noncomputable def tabUnd_233 : Tr (TypeDesc) := Tr.node (some Try.t12.desc) tabUnd_234 tabUnd_242
theorem tabUnd_233_all : ∀ k x, tabUnd_233.get k = some x → (fun n x => Try.prog.underlying n = some x) (8 * k + 12) x := Tr.node_all (P := fun n x => Try.prog.underlying n = some x) (a := 8) (b := 12) (fun _ h => by cases h; exact Try.underlying12) tabUnd_234_all tabUnd_242_all
noncomputable def tabUnd_215 : Tr (TypeDesc) := Tr.node (some Try.t4.desc) tabUnd_216 tabUnd_233
theorem tabUnd_215_all : ∀ k x, tabUnd_215.get k = some x → (fun n x => Try.prog.underlying n = some x) (4 * k + 4) x := Tr.node_all (P := fun n x => Try.prog.underlying n = some x) (a := 4) (b := 4) (fun _ h => by cases h; exact Try.underlying4) tabUnd_216_all tabUnd_233_all
noncomputable def tabUnd_255 : Tr (TypeDesc) := Tr.node (some Try.t129.desc) Tr.nil Tr.nil
theorem tabUnd_255_all : ∀ k x, tabUnd_255.get k = some x → (fun n x => Try.prog.underlying n = some x) (128 * k + 130) x := Tr.node_all (P := fun n x => Try.prog.underlying n = some x) (a := 128) (b := 130) (fun _ h => by cases h; exact Try.underlying130) (fun k x h => by rw [Tr.get_nil] at h; cases h) (fun k x h => by rw [Tr.get_nil] at h; cases h)
noncomputable def tabUnd_254 : Tr (TypeDesc) := Tr.node (some Try.t66.desc) tabUnd_255 Tr.nil
theorem tabUnd_254_all : ∀ k x, tabUnd_254.get k = some x → (fun n x => Try.prog.underlying n = some x) (64 * k + 66) x := Tr.node_all (P := fun n x => Try.prog.underlying n = some x) (a := 64) (b := 66) (fun _ h => by cases h; exact Try.underlying66) tabUnd_255_all (fun k x h => by rw [Tr.get_nil] at h; cases h)
noncomputable def tabUnd_256 : Tr (TypeDesc) := Tr.node (some Try.t98.desc) Tr.nil Tr.nil
theorem tabUnd_256_all : ∀ k x, tabUnd_256.get k = some x → (fun n x => Try.prog.underlying n = some x) (64 * k + 98) x := Tr.node_all (P := fun n x => Try.prog.underlying n = some x) (a := 64) (b := 98) (fun _ h => by cases h; exact Try.underlying98) (fun k x h => by rw [Tr.get_nil] at h; cases h) (fun k x h => by rw [Tr.get_nil] at h; cases h)
noncomputable def tabUnd_253 : Tr (TypeDesc) := Tr.node (some Try.t34.desc) tabUnd_254 tabUnd_256
theorem tabUnd_253_all : ∀ k x, tabUnd_253.get k = some x → (fun n x => Try.prog.underlying n = some x) (32 * k + 34) x := Tr.node_all (P := fun n x => Try.prog.underlying n = some x) (a := 32) (b := 34) (fun _ h => by cases h; exact Try.underlying34) tabUnd_254_all tabUnd_256_all
noncomputable def tabUnd_258 : Tr (TypeDesc) := Tr.node (some Try.t82.desc) Tr.nil Tr.nil
theorem tabUnd_258_all : ∀ k x, tabUnd_258.get k = some x → (fun n x => Try.prog.underlying n = some x) (64 * k + 82) x := Tr.node_all (P := fun n x => Try.prog.underlying n = some x) (a := 64) (b := 82) (fun _ h => by cases h; exact Try.underlying82) (fun k x h => by rw [Tr.get_nil] at h; cases h) (fun k x h => by rw [Tr.get_nil] at h; cases h)
noncomputable def tabUnd_259 : Tr (TypeDesc) := Tr.node (some Try.t114.desc) Tr.nil Tr.nil
theorem tabUnd_259_all : ∀ k x, tabUnd_259.get k = some x → (fun n x => Try.prog.underlying n = some x) (64 * k + 114) x := Tr.node_all (P := fun n x => Try.prog.underlying n = some x) (a := 64) (b := 114) (fun _ h => by cases h; exact Try.underlying114) (fun k x h => by rw [Tr.get_nil] at h; cases h) (fun k x h => by rw [Tr.get_nil] at h; cases h)
noncomputable def tabUnd_257 : Tr (TypeDesc) := Tr.node (some Try.t50.desc) tabUnd_258 tabUnd_259
theorem tabUnd_257_all : ∀ k x, tabUnd_257.get k = some x → (fun n x => Try.prog.underlying n = some x) (32 * k + 50) x := Tr.node_all (P := fun n x => Try.prog.underlying n = some x) (a := 32) (b := 50) (fun _ h => by cases h; exact Try.underlying50) tabUnd_258_all tabUnd_259_all
noncomputable def tabUnd_252 : Tr (TypeDesc) := Tr.node (some Try.t18.desc) tabUnd_253 tabUnd_257
theorem tabUnd_252_all : ∀ k x, tabUnd_252.get k = some x → (fun n x => Try.prog.underlying n = some x) (16 * k + 18) x := Tr.node_all (P := fun n x => Try.prog.underlying n = some x) (a := 16) (b := 18) (fun _ h => by cases h; exact Try.underlying18) tabUnd_253_all tabUnd_257_all
noncomputable def tabUnd_263 : Tr (TypeDesc) := Tr.node (some Try.t21.desc) Tr.nil Tr.nil
theorem tabUnd_263_all : ∀ k x, tabUnd_263.get k = some x → (fun n x => Try.prog.underlying n = some x) (128 * k + 138) x := Tr.node_all (P := fun n x => Try.prog.underlying n = some x) (a := 128) (b := 138) (fun _ h => by cases h; exact Try.underlying138) (fun k x h => by rw [Tr.get_nil] at h; cases h) (fun k x h => by rw [Tr.get_nil] at h; cases h)
noncomputable def tabUnd_262 : Tr (TypeDesc) := Tr.node (some Try.t74.desc) tabUnd_263 Tr.nil
theorem tabUnd_262_all : ∀ k x, tabUnd_262.get k = some x → (fun n x => Try.prog.underlying n = some x) (64 * k + 74) x := Tr.node_all (P := fun n x => Try.prog.underlying n = some x) (a := 64) (b := 74) (fun _ h => by cases h; exact Try.underlying74) tabUnd_263_all (fun k x h => by rw [Tr.get_nil] at h; cases h)
noncomputable def tabUnd_264 : Tr (TypeDesc) := Tr.node (some Try.t106.desc) Tr.nil Tr.nil
theorem tabUnd_264_all : ∀ k x, tabUnd_264.get k = some x → (fun n x => Try.prog.underlying n = some x) (64 * k + 106) x := Tr.node_all (P := fun n x => Try.prog.underlying n = some x) (a := 64) (b := 106) (fun _ h => by cases h; exact Try.underlying106) (fun k x h => by rw [Tr.get_nil] at h; cases h) (fun k x h => by rw [Tr.get_nil] at h; cases h)
noncomputable def tabUnd_261 : Tr (TypeDesc) := Tr.node (some Try.t42.desc) tabUnd_262 tabUnd_264
theorem tabUnd_261_all : ∀ k x, tabUnd_261.get k = some x → (fun n x => Try.prog.underlying n = some x) (32 * k + 42) x := Tr.node_all (P := fun n x => Try.prog.underlying n = some x) (a := 32) (b := 42) (fun _ h => by cases h; exact Try.underlying42) tabUnd_262_all tabUnd_264_all
noncomputable def tabUnd_266 : Tr (TypeDesc) := Tr.node (some Try.t90.desc) Tr.nil Tr.nil
theorem tabUnd_266_all : ∀ k x, tabUnd_266.get k = some x → (fun n x => Try.prog.underlying n = some x) (64 * k + 90) x := Tr.node_all (P := fun n x => Try.prog.underlying n = some x) (a := 64) (b := 90) (fun _ h => by cases h; exact Try.underlying90) (fun k x h => by rw [Tr.get_nil] at h; cases h) (fun k x h => by rw [Tr.get_nil] at h; cases h)
noncomputable def tabUnd_267 : Tr (TypeDesc) := Tr.node (some Try.t122.desc) Tr.nil Tr.nil
theorem tabUnd_267_all : ∀ k x, tabUnd_267.get k = some x → (fun n x => Try.prog.underlying n = some x) (64 * k + 122) x := Tr.node_all (P := fun n x => Try.prog.underlying n = some x) (a := 64) (b := 122) (fun _ h => by cases h; exact Try.underlying122) (fun k x h => by rw [Tr.get_nil] at h; cases h) (fun k x h => by rw [Tr.get_nil] at h; cases h)
noncomputable def tabUnd_265 : Tr (TypeDesc) := Tr.node (some Try.t58.desc) tabUnd_266 tabUnd_267
theorem tabUnd_265_all : ∀ k x, tabUnd_265.get k = some x → (fun n x => Try.prog.underlying n = some x) (32 * k + 58) x := Tr.node_all (P := fun n x => Try.prog.underlying n = some x) (a := 32) (b := 58) (fun _ h => by cases h; exact Try.underlying58) tabUnd_266_all tabUnd_267_all
noncomputable def tabUnd_260 : Tr (TypeDesc) := Tr.node (some Try.t26.desc) tabUnd_261 tabUnd_265
theorem tabUnd_260_all : ∀ k x, tabUnd_260.get k = some x → (fun n x => Try.prog.underlying n = some x) (16 * k + 26) x := Tr.node_all (P := fun n x => Try.prog.underlying n = some x) (a := 16) (b := 26) (fun _ h => by cases h; exact Try.underlying26) tabUnd_261_all tabUnd_265_all
noncomputable def tabUnd_251 : Tr (TypeDesc) := Tr.node (some Try.t9.desc) tabUnd_252 tabUnd_260
theorem tabUnd_251_all : ∀ k x, tabUnd_251.get k = some x → (fun n x => Try.prog.underlying n = some x) (8 * k + 10) x := Tr.node_all (P := fun n x => Try.prog.underlying n = some x) (a := 8) (b := 10) (fun _ h => by cases h; exact Try.underlying10) tabUnd_252_all tabUnd_260_all
noncomputable def tabUnd_272 : Tr (TypeDesc) := Tr.node (some Try.t5.desc) Tr.nil Tr.nil
theorem tabUnd_272_all : ∀ k x, tabUnd_272.get k = some x → (fun n x => Try.prog.underlying n = some x) (128 * k + 134) x := Tr.node_all (P := fun n x => Try.prog.underlying n = some x) (a := 128) (b := 134) (fun _ h => by cases h; exact Try.underlying134) (fun k x h => by rw [Tr.get_nil] at h; cases h) (fun k x h => by rw [Tr.get_nil] at h; cases h)
noncomputable def tabUnd_271 : Tr (TypeDesc) := Tr.node (some Try.t70.desc) tabUnd_272 Tr.nil
theorem tabUnd_271_all : ∀ k x, tabUnd_271.get k = some x → (fun n x => Try.prog.underlying n = some x) (64 * k + 70) x := Tr.node_all (P := fun n x => Try.prog.underlying n = some x) (a := 64) (b := 70) (fun _ h => by cases h; exact Try.underlying70) tabUnd_272_all (fun k x h => by rw [Tr.get_nil] at h; cases h)
noncomputable def tabUnd_273 : Tr (TypeDesc) := Tr.node (some Try.t102.desc) Tr.nil Tr.nil
theorem tabUnd_273_all : ∀ k x, tabUnd_273.get k = some x → (fun n x => Try.prog.underlying n = some x) (64 * k + 102) x := Tr.node_all (P := fun n x => Try.prog.underlying n = some x) (a := 64) (b := 102) (fun _ h => by cases h; exact Try.underlying102) (fun k x h => by rw [Tr.get_nil] at h; cases h) (fun k x h => by rw [Tr.get_nil] at h; cases h)
noncomputable def tabUnd_270 : Tr (TypeDesc) := Tr.node (some Try.t38.desc) tabUnd_271 tabUnd_273
theorem tabUnd_270_all : ∀ k x, tabUnd_270.get k = some x → (fun n x => Try.prog.underlying n = some x) (32 * k + 38) x := Tr.node_all (P := fun n x => Try.prog.underlying n = some x) (a := 32) (b := 38) (fun _ h => by cases h; exact Try.underlying38) tabUnd_271_all tabUnd_273_all
noncomputable def tabUnd_275 : Tr (TypeDesc) := Tr.node (some Try.t86.desc) Tr.nil Tr.nil
theorem tabUnd_275_all : ∀ k x, tabUnd_275.get k = some x → (fun n x => Try.prog.underlying n = some x) (64 * k + 86) x := Tr.node_all (P := fun n x => Try.prog.underlying n = some x) (a := 64) (b := 86) (fun _ h => by cases h; exact Try.underlying86) (fun k x h => by rw [Tr.get_nil] at h; cases h) (fun k x h => by rw [Tr.get_nil] at h; cases h)
noncomputable def tabUnd_276 : Tr (TypeDesc) := Tr.node (some Try.t118.desc) Tr.nil Tr.nil
theorem tabUnd_276_all : ∀ k x, tabUnd_276.get k = some x → (fun n x => Try.prog.underlying n = some x) (64 * k + 118) x := Tr.node_all (P := fun n x => Try.prog.underlying n = some x) (a := 64) (b := 118) (fun _ h => by cases h; exact Try.underlying118) (fun k x h => by rw [Tr.get_nil] at h; cases h) (fun k x h => by rw [Tr.get_nil] at h; cases h)
noncomputable def tabUnd_274 : Tr (TypeDesc) := Tr.node (some Try.t54.desc) tabUnd_275 tabUnd_276
theorem tabUnd_274_all : ∀ k x, tabUnd_274.get k = some x → (fun n x => Try.prog.underlying n = some x) (32 * k + 54) x := Tr.node_all (P := fun n x => Try.prog.underlying n = some x) (a := 32) (b := 54) (fun _ h => by cases h; exact Try.underlying54) tabUnd_275_all tabUnd_276_all
noncomputable def tabUnd_269 : Tr (TypeDesc) := Tr.node (some Try.t22.desc) tabUnd_270 tabUnd_274
theorem tabUnd_269_all : ∀ k x, tabUnd_269.get k = some x → (fun n x => Try.prog.underlying n = some x) (16 * k + 22) x := Tr.node_all (P := fun n x => Try.prog.underlying n = some x) (a := 16) (b := 22) (fun _ h => by cases h; exact Try.underlying22) tabUnd_270_all tabUnd_274_all
noncomputable def tabUnd_279 : Tr (TypeDesc) := Tr.node (some Try.t78.desc) Tr.nil Tr.nil
theorem tabUnd_279_all : ∀ k x, tabUnd_279.get k = some x → (fun n x => Try.prog.underlying n = some x) (64 * k + 78) x := Tr.node_all (P := fun n x => Try.prog.underlying n = some x) (a := 64) (b := 78) (fun _ h => by cases h; exact Try.underlying78) (fun k x h => by rw [Tr.get_nil] at h; cases h) (fun k x h => by rw [Tr.get_nil] at h; cases h)
noncomputable def tabUnd_280 : Tr (TypeDesc) := Tr.node (some Try.t110.desc) Tr.nil Tr.nil
theorem tabUnd_280_all : ∀ k x, tabUnd_280.get k = some x → (fun n x => Try.prog.underlying n = some x) (64 * k + 110) x := Tr.node_all (P := fun n x => Try.prog.underlying n = some x) (a := 64) (b := 110) (fun _ h => by cases h; exact Try.underlying110) (fun k x h => by rw [Tr.get_nil] at h; cases h) (fun k x h => by rw [Tr.get_nil] at h; cases h)
noncomputable def tabUnd_278 : Tr (TypeDesc) := Tr.node (some Try.t46.desc) tabUnd_279 tabUnd_280
theorem tabUnd_278_all : ∀ k x, tabUnd_278.get k = some x → (fun n x => Try.prog.underlying n = some x) (32 * k + 46) x := Tr.node_all (P := fun n x => Try.prog.underlying n = some x) (a := 32) (b := 46) (fun _ h => by cases h; exact Try.underlying46) tabUnd_279_all tabUnd_280_all
noncomputable def tabUnd_282 : Tr (TypeDesc) := Tr.node (some Try.t94.desc) Tr.nil Tr.nil
theorem tabUnd_282_all : ∀ k x, tabUnd_282.get k = some x → (fun n x => Try.prog.underlying n = some x) (64 * k + 94) x := Tr.node_all (P := fun n x => Try.prog.underlying n = some x) (a := 64) (b := 94) (fun _ h => by cases h; exact Try.underlying94) (fun k x h => by rw [Tr.get_nil] at h; cases h) (fun k x h => by rw [Tr.get_nil] at h; cases h)
noncomputable def tabUnd_283 : Tr (TypeDesc) := Tr.node (some Try.t126.desc) Tr.nil Tr.nil
theorem tabUnd_283_all : ∀ k x, tabUnd_283.get k = some x → (fun n x => Try.prog.underlying n = some x) (64 * k + 126) x := Tr.node_all (P := fun n x => Try.prog.underlying n = some x) (a := 64) (b := 126) (fun _ h => by cases h; exact Try.underlying126) (fun k x h => by rw [Tr.get_nil] at h; cases h) (fun k x h => by rw [Tr.get_nil] at h; cases h)
noncomputable def tabUnd_281 : Tr (TypeDesc) := Tr.node (some Try.t62.desc) tabUnd_282 tabUnd_283
theorem tabUnd_281_all : ∀ k x, tabUnd_281.get k = some x → (fun n x => Try.prog.underlying n = some x) (32 * k + 62) x := Tr.node_all (P := fun n x => Try.prog.underlying n = some x) (a := 32) (b := 62) (fun _ h => by cases h; exact Try.underlying62) tabUnd_282_all tabUnd_283_all
noncomputable def tabUnd_277 : Tr (TypeDesc) := Tr.node (some Try.t30.desc) tabUnd_278 tabUnd_281
theorem tabUnd_277_all : ∀ k x, tabUnd_277.get k = some x → (fun n x => Try.prog.underlying n = some x) (16 * k + 30) x := Tr.node_all (P := fun n x => Try.prog.underlying n = some x) (a := 16) (b := 30) (fun _ h => by cases h; exact Try.underlying30) tabUnd_278_all tabUnd_281_all
noncomputable def tabUnd_268 : Tr (TypeDesc) := Tr.node (some Try.t13.desc) tabUnd_269 tabUnd_277
theorem tabUnd_268_all : ∀ k x, tabUnd_268.get k = some x → (fun n x => Try.prog.underlying n = some x) (8 * k + 14) x := Tr.node_all (P := fun n x => Try.prog.underlying n = some x) (a := 8) (b := 14) (fun _ h => by cases h; exact Try.underlying14) tabUnd_269_all tabUnd_277_all
noncomputable def tabUnd_250 : Tr (TypeDesc) := Tr.node (some Try.t5.desc) tabUnd_251 tabUnd_268
theorem tabUnd_250_all : ∀ k x, tabUnd_250.get k = some x → (fun n x => Try.prog.underlying n = some x) (4 * k + 6) x := Tr.node_all (P := fun n x => Try.prog.underlying n = some x) (a := 4) (b := 6) (fun _ h => by cases h; exact Try.underlying6) tabUnd_251_all tabUnd_268_all
noncomputable def tabUnd_214 : Tr (TypeDesc) := Tr.node (some Try.t2.desc) tabUnd_215 tabUnd_250
theorem tabUnd_214_all : ∀ k x, tabUnd_214.get k = some x → (fun n x => Try.prog.underlying n = some x) (2 * k + 2) x := Tr.node_all (P := fun n x => Try.prog.underlying n = some x) (a := 2) (b := 2) (fun _ h => by cases h; exact Try.underlying2) tabUnd_215_all tabUnd_250_all
noncomputable def tabUnd_142 : Tr (TypeDesc) := Tr.node (some Try.t0.desc) tabUnd_143 tabUnd_214
theorem tabUnd_142_all : ∀ k x, tabUnd_142.get k = some x → (fun n x => Try.prog.underlying n = some x) (1 * k + 0) x := Tr.node_all (P := fun n x => Try.prog.underlying n = some x) (a := 1) (b := 0) (fun _ h => by cases h; exact Try.underlying0) tabUnd_143_all tabUnd_214_all
noncomputable def tabUnd : Tr (TypeDesc) := tabUnd_142
theorem tabUnd_all : ∀ k x, tabUnd.get k = some x → (fun n x => Try.prog.underlying n = some x) k x := fun k x h => by have := tabUnd_142_all k x h; rwa [Nat.one_mul, Nat.add_zero] at this
noncomputable def tabFuncs_289 : Tr (Func) := Tr.node (some Try.f31) Tr.nil Tr.nil
theorem tabFuncs_289_all : ∀ k x, tabFuncs_289.get k = some x → (fun n x => Try.prog.funcs[n]? = some x ∧ ∀ args w, (callFunc n args).run Try.prog w = .ok (.enter n args) w) (32 * k + 31) x := Tr.node_all (P := fun n x => Try.prog.funcs[n]? = some x ∧ ∀ args w, (callFunc n args).run Try.prog w = .ok (.enter n args) w) (a := 32) (b := 31) (fun _ h => by cases h; exact ⟨Try.func31, Try.call31⟩) (fun k x h => by rw [Tr.get_nil] at h; cases h) (fun k x h => by rw [Tr.get_nil] at h; cases h)
noncomputable def tabFuncs_290 : Tr (Func) := Tr.node (some Try.f47) Tr.nil Tr.nil
theorem tabFuncs_290_all : ∀ k x, tabFuncs_290.get k = some x → (fun n x => Try.prog.funcs[n]? = some x ∧ ∀ args w, (callFunc n args).run Try.prog w = .ok (.enter n args) w) (32 * k + 47) x := Tr.node_all (P := fun n x => Try.prog.funcs[n]? = some x ∧ ∀ args w, (callFunc n args).run Try.prog w = .ok (.enter n args) w) (a := 32) (b := 47) (fun _ h => by cases h; exact ⟨Try.func47, Try.call47⟩) (fun k x h => by rw [Tr.get_nil] at h; cases h) (fun k x h => by rw [Tr.get_nil] at h; cases h)
noncomputable def tabFuncs_288 : Tr (Func) := Tr.node (some Try.f15) tabFuncs_289 tabFuncs_290
theorem tabFuncs_288_all : ∀ k x, tabFuncs_288.get k = some x → (fun n x => Try.prog.funcs[n]? = some x ∧ ∀ args w, (callFunc n args).run Try.prog w = .ok (.enter n args) w) (16 * k + 15) x := Tr.node_all (P := fun n x => Try.prog.funcs[n]? = some x ∧ ∀ args w, (callFunc n args).run Try.prog w = .ok (.enter n args) w) (a := 16) (b := 15) (fun _ h => by cases h; exact ⟨Try.func15, Try.call15⟩) tabFuncs_289_all tabFuncs_290_all
noncomputable def tabFuncs_292 : Tr (Func) := Tr.node (some Try.f39) Tr.nil Tr.nil
theorem tabFuncs_292_all : ∀ k x, tabFuncs_292.get k = some x → (fun n x => Try.prog.funcs[n]? = some x ∧ ∀ args w, (callFunc n args).run Try.prog w = .ok (.enter n args) w) (32 * k + 39) x := Tr.node_all (P := fun n x => Try.prog.funcs[n]? = some x ∧ ∀ args w, (callFunc n args).run Try.prog w = .ok (.enter n args) w) (a := 32) (b := 39) (fun _ h => by cases h; exact ⟨Try.func39, Try.call39⟩) (fun k x h => by rw [Tr.get_nil] at h; cases h) (fun k x h => by rw [Tr.get_nil] at h; cases h)
noncomputable def tabFuncs_293 : Tr (Func) := Tr.node (some Try.f55) Tr.nil Tr.nil
theorem tabFuncs_293_all : ∀ k x, tabFuncs_293.get k = some x → (fun n x => Try.prog.funcs[n]? = some x ∧ ∀ args w, (callFunc n args).run Try.prog w = .ok (.enter n args) w) (32 * k + 55) x := Tr.node_all (P := fun n x => Try.prog.funcs[n]? = some x ∧ ∀ args w, (callFunc n args).run Try.prog w = .ok (.enter n args) w) (a := 32) (b := 55) (fun _ h => by cases h; exact ⟨Try.func55, Try.call55⟩) (fun k x h => by rw [Tr.get_nil] at h; cases h) (fun k x h => by rw [Tr.get_nil] at h; cases h)
noncomputable def tabFuncs_291 : Tr (Func) := Tr.node (some Try.f23) tabFuncs_292 tabFuncs_293
theorem tabFuncs_291_all : ∀ k x, tabFuncs_291.get k = some x → (fun n x => Try.prog.funcs[n]? = some x ∧ ∀ args w, (callFunc n args).run Try.prog w = .ok (.enter n args) w) (16 * k + 23) x := Tr.node_all (P := fun n x => Try.prog.funcs[n]? = some x ∧ ∀ args w, (callFunc n args).run Try.prog w = .ok (.enter n args) w) (a := 16) (b := 23) (fun _ h => by cases h; exact ⟨Try.func23, Try.call23⟩) tabFuncs_292_all tabFuncs_293_all
noncomputable def tabFuncs_287 : Tr (Func) := Tr.node (some Try.f7) tabFuncs_288 tabFuncs_291
theorem tabFuncs_287_all : ∀ k x, tabFuncs_287.get k = some x → (fun n x => Try.prog.funcs[n]? = some x ∧ ∀ args w, (callFunc n args).run Try.prog w = .ok (.enter n args) w) (8 * k + 7) x := Tr.node_all (P := fun n x => Try.prog.funcs[n]? = some x ∧ ∀ args w, (callFunc n args).run Try.prog w = .ok (.enter n args) w) (a := 8) (b := 7) (fun _ h => by cases h; exact ⟨Try.func7, Try.call7⟩) tabFuncs_288_all tabFuncs_291_all
noncomputable def tabFuncs_296 : Tr (Func) := Tr.node (some Try.f35) Tr.nil Tr.nil
theorem tabFuncs_296_all : ∀ k x, tabFuncs_296.get k = some x → (fun n x => Try.prog.funcs[n]? = some x ∧ ∀ args w, (callFunc n args).run Try.prog w = .ok (.enter n args) w) (32 * k + 35) x := Tr.node_all (P := fun n x => Try.prog.funcs[n]? = some x ∧ ∀ args w, (callFunc n args).run Try.prog w = .ok (.enter n args) w) (a := 32) (b := 35) (fun _ h => by cases h; exact ⟨Try.func35, Try.call35⟩) (fun k x h => by rw [Tr.get_nil] at h; cases h) (fun k x h => by rw [Tr.get_nil] at h; cases h)
noncomputable def tabFuncs_297 : Tr (Func) := Tr.node (some Try.f51) Tr.nil Tr.nil
theorem tabFuncs_297_all : ∀ k x, tabFuncs_297.get k = some x → (fun n x => Try.prog.funcs[n]? = some x ∧ ∀ args w, (callFunc n args).run Try.prog w = .ok (.enter n args) w) (32 * k + 51) x := Tr.node_all (P := fun n x => Try.prog.funcs[n]? = some x ∧ ∀ args w, (callFunc n args).run Try.prog w = .ok (.enter n args) w) (a := 32) (b := 51) (fun _ h => by cases h; exact ⟨Try.func51, Try.call51⟩) (fun k x h => by rw [Tr.get_nil] at h; cases h) (fun k x h => by rw [Tr.get_nil] at h; cases h)
noncomputable def tabFuncs_295 : Tr (Func) := Tr.node (some Try.f19) tabFuncs_296 tabFuncs_297
theorem tabFuncs_295_all : ∀ k x, tabFuncs_295.get k = some x → (fun n x => Try.prog.funcs[n]? = some x ∧ ∀ args w, (callFunc n args).run Try.prog w = .ok (.enter n args) w) (16 * k + 19) x := Tr.node_all (P := fun n x => Try.prog.funcs[n]? = some x ∧ ∀ args w, (callFunc n args).run Try.prog w = .ok (.enter n args) w) (a := 16) (b := 19) (fun _ h => by cases h; exact ⟨Try.func19, Try.call19⟩) tabFuncs_296_all tabFuncs_297_all
noncomputable def tabFuncs_299 : Tr (Func) := Tr.node (some Try.f43) Tr.nil Tr.nil
theorem tabFuncs_299_all : ∀ k x, tabFuncs_299.get k = some x → (fun n x => Try.prog.funcs[n]? = some x ∧ ∀ args w, (callFunc n args).run Try.prog w = .ok (.enter n args) w) (32 * k + 43) x := Tr.node_all (P := fun n x => Try.prog.funcs[n]? = some x ∧ ∀ args w, (callFunc n args).run Try.prog w = .ok (.enter n args) w) (a := 32) (b := 43) (fun _ h => by cases h; exact ⟨Try.func43, Try.call43⟩) (fun k x h => by rw [Tr.get_nil] at h; cases h) (fun k x h => by rw [Tr.get_nil] at h; cases h)
noncomputable def tabFuncs_298 : Tr (Func) := Tr.node (some Try.f27) tabFuncs_299 Tr.nil
theorem tabFuncs_298_all : ∀ k x, tabFuncs_298.get k = some x → (fun n x => Try.prog.funcs[n]? = some x ∧ ∀ args w, (callFunc n args).run Try.prog w = .ok (.enter n args) w) (16 * k + 27) x := Tr.node_all (P := fun n x => Try.prog.funcs[n]? = some x ∧ ∀ args w, (callFunc n args).run Try.prog w = .ok (.enter n args) w) (a := 16) (b := 27) (fun _ h => by cases h; exact ⟨Try.func27, Try.call27⟩) tabFuncs_299_all (fun k x h => by rw [Tr.get_nil] at h; cases h)
noncomputable def tabFuncs_294 : Tr (Func) := Tr.node (some Try.f11) tabFuncs_295 tabFuncs_298
theorem tabFuncs_294_all : ∀ k x, tabFuncs_294.get k = some x → (fun n x => Try.prog.funcs[n]? = some x ∧ ∀ args w, (callFunc n args).run Try.prog w = .ok (.enter n args) w) (8 * k + 11) x := Tr.node_all (P := fun n x => Try.prog.funcs[n]? = some x ∧ ∀ args w, (callFunc n args).run Try.prog w = .ok (.enter n args) w) (a := 8) (b := 11) (fun _ h => by cases h; exact ⟨Try.func11, Try.call11⟩) tabFuncs_295_all tabFuncs_298_all
noncomputable def tabFuncs_286 : Tr (Func) := Tr.node (some Try.f3) tabFuncs_287 tabFuncs_294
theorem tabFuncs_286_all : ∀ k x, tabFuncs_286.get k = some x → (fun n x => Try.prog.funcs[n]? = some x ∧ ∀ args w, (callFunc n args).run Try.prog w = .ok (.enter n args) w) (4 * k + 3) x := Tr.node_all (P := fun n x => Try.prog.funcs[n]? = some x ∧ ∀ args w, (callFunc n args).run Try.prog w = .ok (.enter n args) w) (a := 4) (b := 3) (fun _ h => by cases h; exact ⟨Try.func3, Try.call3⟩) tabFuncs_287_all tabFuncs_294_all
noncomputable def tabFuncs_303 : Tr (Func) := Tr.node (some Try.f33) Tr.nil Tr.nil
theorem tabFuncs_303_all : ∀ k x, tabFuncs_303.get k = some x → (fun n x => Try.prog.funcs[n]? = some x ∧ ∀ args w, (callFunc n args).run Try.prog w = .ok (.enter n args) w) (32 * k + 33) x := Tr.node_all (P := fun n x => Try.prog.funcs[n]? = some x ∧ ∀ args w, (callFunc n args).run Try.prog w = .ok (.enter n args) w) (a := 32) (b := 33) (fun _ h => by cases h; exact ⟨Try.func33, Try.call33⟩) (fun k x h => by rw [Tr.get_nil] at h; cases h) (fun k x h => by rw [Tr.get_nil] at h; cases h)
noncomputable def tabFuncs_304 : Tr (Func) := Tr.node (some Try.f49) Tr.nil Tr.nil
theorem tabFuncs_304_all : ∀ k x, tabFuncs_304.get k = some x → (fun n x => Try.prog.funcs[n]? = some x ∧ ∀ args w, (callFunc n args).run Try.prog w = .ok (.enter n args) w) (32 * k + 49) x := Tr.node_all (P := fun n x => Try.prog.funcs[n]? = some x ∧ ∀ args w, (callFunc n args).run Try.prog w = .ok (.enter n args) w) (a := 32) (b := 49) (fun _ h => by cases h; exact ⟨Try.func49, Try.call49⟩) (fun k x h => by rw [Tr.get_nil] at h; cases h) (fun k x h => by rw [Tr.get_nil] at h; cases h)
noncomputable def tabFuncs_302 : Tr (Func) := Tr.node (some Try.f17) tabFuncs_303 tabFuncs_304
theorem tabFuncs_302_all : ∀ k x, tabFuncs_302.get k = some x → (fun n x => Try.prog.funcs[n]? = some x ∧ ∀ args w, (callFunc n args).run Try.prog w = .ok (.enter n args) w) (16 * k + 17) x := Tr.node_all (P := fun n x => Try.prog.funcs[n]? = some x ∧ ∀ args w, (callFunc n args).run Try.prog w = .ok (.enter n args) w) (a := 16) (b := 17) (fun _ h => by cases h; exact ⟨Try.func17, Try.call17⟩) tabFuncs_303_all tabFuncs_304_all
noncomputable def tabFuncs_306 : Tr (Func) := Tr.node (some Try.f41) Tr.nil Tr.nil
theorem tabFuncs_306_all : ∀ k x, tabFuncs_306.get k = some x → (fun n x => Try.prog.funcs[n]? = some x ∧ ∀ args w, (callFunc n args).run Try.prog w = .ok (.enter n args) w) (32 * k + 41) x := Tr.node_all (P := fun n x => Try.prog.funcs[n]? = some x ∧ ∀ args w, (callFunc n args).run Try.prog w = .ok (.enter n args) w) (a := 32) (b := 41) (fun _ h => by cases h; exact ⟨Try.func41, Try.call41⟩) (fun k x h => by rw [Tr.get_nil] at h; cases h) (fun k x h => by rw [Tr.get_nil] at h; cases h)
noncomputable def tabFuncs_307 : Tr (Func) := Tr.node (some Try.f57) Tr.nil Tr.nil
theorem tabFuncs_307_all : ∀ k x, tabFuncs_307.get k = some x → (fun n x => Try.prog.funcs[n]? = some x ∧ ∀ args w, (callFunc n args).run Try.prog w = .ok (.enter n args) w) (32 * k + 57) x := Tr.node_all (P := fun n x => Try.prog.funcs[n]? = some x ∧ ∀ args w, (callFunc n args).run Try.prog w = .ok (.enter n args) w) (a := 32) (b := 57) (fun _ h => by cases h; exact ⟨Try.func57, Try.call57⟩) (fun k x h => by rw [Tr.get_nil] at h; cases h) (fun k x h => by rw [Tr.get_nil] at h; cases h)
noncomputable def tabFuncs_305 : Tr (Func) := Tr.node (some Try.f25) tabFuncs_306 tabFuncs_307
theorem tabFuncs_305_all : ∀ k x, tabFuncs_305.get k = some x → (fun n x => Try.prog.funcs[n]? = some x ∧ ∀ args w, (callFunc n args).run Try.prog w = .ok (.enter n args) w) (16 * k + 25) x := Tr.node_all (P := fun n x => Try.prog.funcs[n]? = some x ∧ ∀ args w, (callFunc n args).run Try.prog w = .ok (.enter n args) w) (a := 16) (b := 25) (fun _ h => by cases h; exact ⟨Try.func25, Try.call25⟩) tabFuncs_306_all tabFuncs_307_all
noncomputable def tabFuncs_301 : Tr (Func) := Tr.node (some Try.f9) tabFuncs_302 tabFuncs_305
theorem tabFuncs_301_all : ∀ k x, tabFuncs_301.get k = some x → (fun n x => Try.prog.funcs[n]? = some x ∧ ∀ args w, (callFunc n args).run Try.prog w = .ok (.enter n args) w) (8 * k + 9) x := Tr.node_all (P := fun n x => Try.prog.funcs[n]? = some x ∧ ∀ args w, (callFunc n args).run Try.prog w = .ok (.enter n args) w) (a := 8) (b := 9) (fun _ h => by cases h; exact ⟨Try.func9, Try.call9⟩) tabFuncs_302_all tabFuncs_305_all
noncomputable def tabFuncs_310 : Tr (Func) := Tr.node (some Try.f37) Tr.nil Tr.nil
theorem tabFuncs_310_all : ∀ k x, tabFuncs_310.get k = some x → (fun n x => Try.prog.funcs[n]? = some x ∧ ∀ args w, (callFunc n args).run Try.prog w = .ok (.enter n args) w) (32 * k + 37) x := Tr.node_all (P := fun n x => Try.prog.funcs[n]? = some x ∧ ∀ args w, (callFunc n args).run Try.prog w = .ok (.enter n args) w) (a := 32) (b := 37) (fun _ h => by cases h; exact ⟨Try.func37, Try.call37⟩) (fun k x h => by rw [Tr.get_nil] at h; cases h) (fun k x h => by rw [Tr.get_nil] at h; cases h)
noncomputable def tabFuncs_311 : Tr (Func) := Tr.node (some Try.f53) Tr.nil Tr.nil
theorem tabFuncs_311_all : ∀ k x, tabFuncs_311.get k = some x → (fun n x => Try.prog.funcs[n]? = some x ∧ ∀ args w, (callFunc n args).run Try.prog w = .ok (.enter n args) w) (32 * k + 53) x := Tr.node_all (P := fun n x => Try.prog.funcs[n]? = some x ∧ ∀ args w, (callFunc n args).run Try.prog w = .ok (.enter n args) w) (a := 32) (b := 53) (fun _ h => by cases h; exact ⟨Try.func53, Try.call53⟩) (fun k x h => by rw [Tr.get_nil] at h; cases h) (fun k x h => by rw [Tr.get_nil] at h; cases h)
noncomputable def tabFuncs_309 : Tr (Func) := Tr.node (some Try.f21) tabFuncs_310 tabFuncs_311
theorem tabFuncs_309_all : ∀ k x, tabFuncs_309.get k = some x → (fun n x => Try.prog.funcs[n]? = some x ∧ ∀ args w, (callFunc n args).run Try.prog w = .ok (.enter n args) w) (16 * k + 21) x := Tr.node_all (P := fun n x => Try.prog.funcs[n]? = some x ∧ ∀ args w, (callFunc n args).run Try.prog w = .ok (.enter n args) w) (a := 16) (b := 21) (fun _ h => by cases h; exact ⟨Try.func21, Try.call21⟩) tabFuncs_310_all tabFuncs_311_all
noncomputable def tabFuncs_313 : Tr (Func) := Tr.node (some Try.f45) Tr.nil Tr.nil
theorem tabFuncs_313_all : ∀ k x, tabFuncs_313.get k = some x → (fun n x => Try.prog.funcs[n]? = some x ∧ ∀ args w, (callFunc n args).run Try.prog w = .ok (.enter n args) w) (32 * k + 45) x := Tr.node_all (P := fun n x => Try.prog.funcs[n]? = some x ∧ ∀ args w, (callFunc n args).run Try.prog w = .ok (.enter n args) w) (a := 32) (b := 45) (fun _ h => by cases h; exact ⟨Try.func45, Try.call45⟩) (fun k x h => by rw [Tr.get_nil] at h; cases h) (fun k x h => by rw [Tr.get_nil] at h; cases h)
noncomputable def tabFuncs_312 : Tr (Func) := Tr.node (some Try.f29) tabFuncs_313 Tr.nil
theorem tabFuncs_312_all : ∀ k x, tabFuncs_312.get k = some x → (fun n x => Try.prog.funcs[n]? = some x ∧ ∀ args w, (callFunc n args).run Try.prog w = .ok (.enter n args) w) (16 * k + 29) x := Tr.node_all (P := fun n x => Try.prog.funcs[n]? = some x ∧ ∀ args w, (callFunc n args).run Try.prog w = .ok (.enter n args) w) (a := 16) (b := 29) (fun _ h => by cases h; exact ⟨Try.func29, Try.call29⟩) tabFuncs_313_all (fun k x h => by rw [Tr.get_nil] at h; cases h)
noncomputable def tabFuncs_308 : Tr (Func) := Tr.node (some Try.f13) tabFuncs_309 tabFuncs_312
theorem tabFuncs_308_all : ∀ k x, tabFuncs_308.get k = some x → (fun n x => Try.prog.funcs[n]? = some x ∧ ∀ args w, (callFunc n args).run Try.prog w = .ok (.enter n args) w) (8 * k + 13) x := Tr.node_all (P := fun n x => Try.prog.funcs[n]? = some x ∧ ∀ args w, (callFunc n args).run Try.prog w = .ok (.enter n args) w) (a := 8) (b := 13) (fun _ h => by cases h; exact ⟨Try.func13, Try.call13⟩) tabFuncs_309_all tabFuncs_312_all
noncomputable def tabFuncs_300 : Tr (Func) := Tr.node (some Try.f5) tabFuncs_301 tabFuncs_308
theorem tabFuncs_300_all : ∀ k x, tabFuncs_300.get k = some x → (fun n x => Try.prog.funcs[n]? = some x ∧ ∀ args w, (callFunc n args).run Try.prog w = .ok (.enter n args) w) (4 * k + 5) x := Tr.node_all (P := fun n x => Try.prog.funcs[n]? = some x ∧ ∀ args w, (callFunc n args).run Try.prog w = .ok (.enter n args) w) (a := 4) (b := 5) (fun _ h => by cases h; exact ⟨Try.func5, Try.call5⟩) tabFuncs_301_all tabFuncs_308_all
noncomputable def tabFuncs_285 : Tr (Func) := Tr.node none tabFuncs_286 tabFuncs_300
theorem tabFuncs_285_all : ∀ k x, tabFuncs_285.get k = some x → (fun n x => Try.prog.funcs[n]? = some x ∧ ∀ args w, (callFunc n args).run Try.prog w = .ok (.enter n args) w) (2 * k + 1) x := Tr.node_all (P := fun n x => Try.prog.funcs[n]? = some x ∧ ∀ args w, (callFunc n args).run Try.prog w = .ok (.enter n args) w) (a := 2) (b := 1) (fun _ h => by cases h) tabFuncs_286_all tabFuncs_300_all
noncomputable def tabFuncs_318 : Tr (Func) := Tr.node (some Try.f32) Tr.nil Tr.nil
theorem tabFuncs_318_all : ∀ k x, tabFuncs_318.get k = some x → (fun n x => Try.prog.funcs[n]? = some x ∧ ∀ args w, (callFunc n args).run Try.prog w = .ok (.enter n args) w) (32 * k + 32) x := Tr.node_all (P := fun n x => Try.prog.funcs[n]? = some x ∧ ∀ args w, (callFunc n args).run Try.prog w = .ok (.enter n args) w) (a := 32) (b := 32) (fun _ h => by cases h; exact ⟨Try.func32, Try.call32⟩) (fun k x h => by rw [Tr.get_nil] at h; cases h) (fun k x h => by rw [Tr.get_nil] at h; cases h)
noncomputable def tabFuncs_319 : Tr (Func) := Tr.node (some Try.f48) Tr.nil Tr.nil
theorem tabFuncs_319_all : ∀ k x, tabFuncs_319.get k = some x → (fun n x => Try.prog.funcs[n]? = some x ∧ ∀ args w, (callFunc n args).run Try.prog w = .ok (.enter n args) w) (32 * k + 48) x := Tr.node_all (P := fun n x => Try.prog.funcs[n]? = some x ∧ ∀ args w, (callFunc n args).run Try.prog w = .ok (.enter n args) w) (a := 32) (b := 48) (fun _ h => by cases h; exact ⟨Try.func48, Try.call48⟩) (fun k x h => by rw [Tr.get_nil] at h; cases h) (fun k x h => by rw [Tr.get_nil] at h; cases h)
noncomputable def tabFuncs_317 : Tr (Func) := Tr.node (some Try.f16) tabFuncs_318 tabFuncs_319
theorem tabFuncs_317_all : ∀ k x, tabFuncs_317.get k = some x → (fun n x => Try.prog.funcs[n]? = some x ∧ ∀ args w, (callFunc n args).run Try.prog w = .ok (.enter n args) w) (16 * k + 16) x := Tr.node_all (P := fun n x => Try.prog.funcs[n]? = some x ∧ ∀ args w, (callFunc n args).run Try.prog w = .ok (.enter n args) w) (a := 16) (b := 16) (fun _ h => by cases h; exact ⟨Try.func16, Try.call16⟩) tabFuncs_318_all tabFuncs_319_all
noncomputable def tabFuncs_321 : Tr (Func) := Tr.node (some Try.f40) Tr.nil Tr.nil
theorem tabFuncs_321_all : ∀ k x, tabFuncs_321.get k = some x → (fun n x => Try.prog.funcs[n]? = some x ∧ ∀ args w, (callFunc n args).run Try.prog w = .ok (.enter n args) w) (32 * k + 40) x := Tr.node_all (P := fun n x => Try.prog.funcs[n]? = some x ∧ ∀ args w, (callFunc n args).run Try.prog w = .ok (.enter n args) w) (a := 32) (b := 40) (fun _ h => by cases h; exact ⟨Try.func40, Try.call40⟩) (fun k x h => by rw [Tr.get_nil] at h; cases h) (fun k x h => by rw [Tr.get_nil] at h; cases h)
noncomputable def tabFuncs_322 : Tr (Func) := Tr.node (some Try.f56) Tr.nil Tr.nil
theorem tabFuncs_322_all : ∀ k x, tabFuncs_322.get k = some x → (fun n x => Try.prog.funcs[n]? = some x ∧ ∀ args w, (callFunc n args).run Try.prog w = .ok (.enter n args) w) (32 * k + 56) x := Tr.node_all (P := fun n x => Try.prog.funcs[n]? = some x ∧ ∀ args w, (callFunc n args).run Try.prog w = .ok (.enter n args) w) (a := 32) (b := 56) (fun _ h => by cases h; exact ⟨Try.func56, Try.call56⟩) (fun k x h => by rw [Tr.get_nil] at h; cases h) (fun k x h => by rw [Tr.get_nil] at h; cases h)
noncomputable def tabFuncs_320 : Tr (Func) := Tr.node (some Try.f24) tabFuncs_321 tabFuncs_322
theorem tabFuncs_320_all : ∀ k x, tabFuncs_320.get k = some x → (fun n x => Try.prog.funcs[n]? = some x ∧ ∀ args w, (callFunc n args).run Try.prog w = .ok (.enter n args) w) (16 * k + 24) x := Tr.node_all (P := fun n x => Try.prog.funcs[n]? = some x ∧ ∀ args w, (callFunc n args).run Try.prog w = .ok (.enter n args) w) (a := 16) (b := 24) (fun _ h => by cases h; exact ⟨Try.func24, Try.call24⟩) tabFuncs_321_all tabFuncs_322_all
noncomputable def tabFuncs_316 : Tr (Func) := Tr.node (some Try.f8) tabFuncs_317 tabFuncs_320
theorem tabFuncs_316_all : ∀ k x, tabFuncs_316.get k = some x → (fun n x => Try.prog.funcs[n]? = some x ∧ ∀ args w, (callFunc n args).run Try.prog w = .ok (.enter n args) w) (8 * k + 8) x := Tr.node_all (P := fun n x => Try.prog.funcs[n]? = some x ∧ ∀ args w, (callFunc n args).run Try.prog w = .ok (.enter n args) w) (a := 8) (b := 8) (fun _ h => by cases h; exact ⟨Try.func8, Try.call8⟩) tabFuncs_317_all tabFuncs_320_all
noncomputable def tabFuncs_325 : Tr (Func) := Tr.node (some Try.f36) Tr.nil Tr.nil
theorem tabFuncs_325_all : ∀ k x, tabFuncs_325.get k = some x → (fun n x => Try.prog.funcs[n]? = some x ∧ ∀ args w, (callFunc n args).run Try.prog w = .ok (.enter n args) w) (32 * k + 36) x := Tr.node_all (P := fun n x => Try.prog.funcs[n]? = some x ∧ ∀ args w, (callFunc n args).run Try.prog w = .ok (.enter n args) w) (a := 32) (b := 36) (fun _ h => by cases h; exact ⟨Try.func36, Try.call36⟩) (fun k x h => by rw [Tr.get_nil] at h; cases h) (fun k x h => by rw [Tr.get_nil] at h; cases h)
noncomputable def tabFuncs_326 : Tr (Func) := Tr.node (some Try.f52) Tr.nil Tr.nil
theorem tabFuncs_326_all : ∀ k x, tabFuncs_326.get k = some x → (fun n x => Try.prog.funcs[n]? = some x ∧ ∀ args w, (callFunc n args).run Try.prog w = .ok (.enter n args) w) (32 * k + 52) x := Tr.node_all (P := fun n x => Try.prog.funcs[n]? = some x ∧ ∀ args w, (callFunc n args).run Try.prog w = .ok (.enter n args) w) (a := 32) (b := 52) (fun _ h => by cases h; exact ⟨Try.func52, Try.call52⟩) (fun k x h => by rw [Tr.get_nil] at h; cases h) (fun k x h => by rw [Tr.get_nil] at h; cases h)
noncomputable def tabFuncs_324 : Tr (Func) := Tr.node (some Try.f20) tabFuncs_325 tabFuncs_326
theorem tabFuncs_324_all : ∀ k x, tabFuncs_324.get k = some x → (fun n x => Try.prog.funcs[n]? = some x ∧ ∀ args w, (callFunc n args).run Try.prog w = .ok (.enter n args) w) (16 * k + 20) x := Tr.node_all (P := fun n x => Try.prog.funcs[n]? = some x ∧ ∀ args w, (callFunc n args).run Try.prog w = .ok (.enter n args) w) (a := 16) (b := 20) (fun _ h => by cases h; exact ⟨Try.func20, Try.call20⟩) tabFuncs_325_all tabFuncs_326_all
noncomputable def tabFuncs_328 : Tr (Func) := Tr.node (some Try.f44) Tr.nil Tr.nil
theorem tabFuncs_328_all : ∀ k x, tabFuncs_328.get k = some x → (fun n x => Try.prog.funcs[n]? = some x ∧ ∀ args w, (callFunc n args).run Try.prog w = .ok (.enter n args) w) (32 * k + 44) x := Tr.node_all (P := fun n x => Try.prog.funcs[n]? = some x ∧ ∀ args w, (callFunc n args).run Try.prog w = .ok (.enter n args) w) (a := 32) (b := 44) (fun _ h => by cases h; exact ⟨Try.func44, Try.call44⟩) (fun k x h => by rw [Tr.get_nil] at h; cases h) (fun k x h => by rw [Tr.get_nil] at h; cases h)
noncomputable def tabFuncs_327 : Tr (Func) := Tr.node (some Try.f28) tabFuncs_328 Tr.nil
theorem tabFuncs_327_all : ∀ k x, tabFuncs_327.get k = some x → (fun n x => Try.prog.funcs[n]? = some x ∧ ∀ args w, (callFunc n args).run Try.prog w = .ok (.enter n args) w) (16 * k + 28) x := Tr.node_all (P := fun n x => Try.prog.funcs[n]? = some x ∧ ∀ args w, (callFunc n args).run Try.prog w = .ok (.enter n args) w) (a := 16) (b := 28) (fun _ h => by cases h; exact ⟨Try.func28, Try.call28⟩) tabFuncs_328_all (fun k x h => by rw [Tr.get_nil] at h; cases h)
noncomputable def tabFuncs_323 : Tr (Func) := Tr.node (some Try.f12) tabFuncs_324 tabFuncs_327
theorem tabFuncs_323_all : ∀ k x, tabFuncs_323.get k = some x → (fun n x => Try.prog.funcs[n]? = some x ∧ ∀ args w, (callFunc n args).run Try.prog w = .ok (.enter n args) w) (8 * k + 12) x := Tr.node_all (P := fun n x => Try.prog.funcs[n]? = some x ∧ ∀ args w, (callFunc n args).run Try.prog w = .ok (.enter n args) w) (a := 8) (b := 12) (fun _ h => by cases h; exact ⟨Try.func12, Try.call12⟩) tabFuncs_324_all tabFuncs_327_all
noncomputable def tabFuncs_315 : Tr (Func) := Tr.node (some Try.f4) tabFuncs_316 tabFuncs_323
theorem tabFuncs_315_all : ∀ k x, tabFuncs_315.get k = some x → (fun n x => Try.prog.funcs[n]? = some x ∧ ∀ args w, (callFunc n args).run Try.prog w = .ok (.enter n args) w) (4 * k + 4) x := Tr.node_all (P := fun n x => Try.prog.funcs[n]? = some x ∧ ∀ args w, (callFunc n args).run Try.prog w = .ok (.enter n args) w) (a := 4) (b := 4) (fun _ h => by cases h; exact ⟨Try.func4, Try.call4⟩) tabFuncs_316_all tabFuncs_323_all
noncomputable def tabFuncs_332 : Tr (Func) := Tr.node (some Try.f34) Tr.nil Tr.nil
theorem tabFuncs_332_all : ∀ k x, tabFuncs_332.get k = some x → (fun n x => Try.prog.funcs[n]? = some x ∧ ∀ args w, (callFunc n args).run Try.prog w = .ok (.enter n args) w) (32 * k + 34) x := Tr.node_all (P := fun n x => Try.prog.funcs[n]? = some x ∧ ∀ args w, (callFunc n args).run Try.prog w = .ok (.enter n args) w) (a := 32) (b := 34) (fun _ h => by cases h; exact ⟨Try.func34, Try.call34⟩) (fun k x h => by rw [Tr.get_nil] at h; cases h) (fun k x h => by rw [Tr.get_nil] at h; cases h)
noncomputable def tabFuncs_333 : Tr (Func) := Tr.node (some Try.f50) Tr.nil Tr.nil
theorem tabFuncs_333_all : ∀ k x, tabFuncs_333.get k = some x → (fun n x => Try.prog.funcs[n]? = some x ∧ ∀ args w, (callFunc n args).run Try.prog w = .ok (.enter n args) w) (32 * k + 50) x := Tr.node_all (P := fun n x => Try.prog.funcs[n]? = some x ∧ ∀ args w, (callFunc n args).run Try.prog w = .ok (.enter n args) w) (a := 32) (b := 50) (fun _ h => by cases h; exact ⟨Try.func50, Try.call50⟩) (fun k x h => by rw [Tr.get_nil] at h; cases h) (fun k x h => by rw [Tr.get_nil] at h; cases h)
noncomputable def tabFuncs_331 : Tr (Func) := Tr.node (some Try.f18) tabFuncs_332 tabFuncs_333
theorem tabFuncs_331_all : ∀ k x, tabFuncs_331.get k = some x → (fun n x => Try.prog.funcs[n]? = some x ∧ ∀ args w, (callFunc n args).run Try.prog w = .ok (.enter n args) w) (16 * k + 18) x := Tr.node_all (P := fun n x => Try.prog.funcs[n]? = some x ∧ ∀ args w, (callFunc n args).run Try.prog w = .ok (.enter n args) w) (a := 16) (b := 18) (fun _ h => by cases h; exact ⟨Try.func18, Try.call18⟩) tabFuncs_332_all tabFuncs_333_all
noncomputable def tabFuncs_335 : Tr (Func) := Tr.node (some Try.f42) Tr.nil Tr.nil
theorem tabFuncs_335_all : ∀ k x, tabFuncs_335.get k = some x → (fun n x => Try.prog.funcs[n]? = some x ∧ ∀ args w, (callFunc n args).run Try.prog w = .ok (.enter n args) w) (32 * k + 42) x := Tr.node_all (P := fun n x => Try.prog.funcs[n]? = some x ∧ ∀ args w, (callFunc n args).run Try.prog w = .ok (.enter n args) w) (a := 32) (b := 42) (fun _ h => by cases h; exact ⟨Try.func42, Try.call42⟩) (fun k x h => by rw [Tr.get_nil] at h; cases h) (fun k x h => by rw [Tr.get_nil] at h; cases h)
noncomputable def tabFuncs_334 : Tr (Func) := Tr.node (some Try.f26) tabFuncs_335 Tr.nil
theorem tabFuncs_334_all : ∀ k x, tabFuncs_334.get k = some x → (fun n x => Try.prog.funcs[n]? = some x ∧ ∀ args w, (callFunc n args).run Try.prog w = .ok (.enter n args) w) (16 * k + 26) x := Tr.node_all (P := fun n x => Try.prog.funcs[n]? = some x ∧ ∀ args w, (callFunc n args).run Try.prog w = .ok (.enter n args) w) (a := 16) (b := 26) (fun _ h => by cases h; exact ⟨Try.func26, Try.call26⟩) tabFuncs_335_all (fun k x h => by rw [Tr.get_nil] at h; cases h)
noncomputable def tabFuncs_330 : Tr (Func) := Tr.node (some Try.f10) tabFuncs_331 tabFuncs_334
theorem tabFuncs_330_all : ∀ k x, tabFuncs_330.get k = some x → (fun n x => Try.prog.funcs[n]? = some x ∧ ∀ args w, (callFunc n args).run Try.prog w = .ok (.enter n args) w) (8 * k + 10) x := Tr.node_all (P := fun n x => Try.prog.funcs[n]? = some x ∧ ∀ args w, (callFunc n args).run Try.prog w = .ok (.enter n args) w) (a := 8) (b := 10) (fun _ h => by cases h; exact ⟨Try.func10, Try.call10⟩) tabFuncs_331_all tabFuncs_334_all
noncomputable def tabFuncs_338 : Tr (Func) := Tr.node (some Try.f38) Tr.nil Tr.nil
theorem tabFuncs_338_all : ∀ k x, tabFuncs_338.get k = some x → (fun n x => Try.prog.funcs[n]? = some x ∧ ∀ args w, (callFunc n args).run Try.prog w = .ok (.enter n args) w) (32 * k + 38) x := Tr.node_all (P := fun n x => Try.prog.funcs[n]? = some x ∧ ∀ args w, (callFunc n args).run Try.prog w = .ok (.enter n args) w) (a := 32) (b := 38) (fun _ h => by cases h; exact ⟨Try.func38, Try.call38⟩) (fun k x h => by rw [Tr.get_nil] at h; cases h) (fun k x h => by rw [Tr.get_nil] at h; cases h)
noncomputable def tabFuncs_339 : Tr (Func) := Tr.node (some Try.f54) Tr.nil Tr.nil
theorem tabFuncs_339_all : ∀ k x, tabFuncs_339.get k = some x → (fun n x => Try.prog.funcs[n]? = some x ∧ ∀ args w, (callFunc n args).run Try.prog w = .ok (.enter n args) w) (32 * k + 54) x := Tr.node_all (P := fun n x => Try.prog.funcs[n]? = some x ∧ ∀ args w, (callFunc n args).run Try.prog w = .ok (.enter n args) w) (a := 32) (b := 54) (fun _ h => by cases h; exact ⟨Try.func54, Try.call54⟩) (fun k x h => by rw [Tr.get_nil] at h; cases h) (fun k x h => by rw [Tr.get_nil] at h; cases h)
noncomputable def tabFuncs_337 : Tr (Func) := Tr.node (some Try.f22) tabFuncs_338 tabFuncs_339
theorem tabFuncs_337_all : ∀ k x, tabFuncs_337.get k = some x → (fun n x => Try.prog.funcs[n]? = some x ∧ ∀ args w, (callFunc n args).run Try.prog w = .ok (.enter n args) w) (16 * k + 22) x := Tr.node_all (P := fun n x => Try.prog.funcs[n]? = some x ∧ ∀ args w, (callFunc n args).run Try.prog w = .ok (.enter n args) w) (a := 16) (b := 22) (fun _ h => by cases h; exact ⟨Try.func22, Try.call22⟩) tabFuncs_338_all tabFuncs_339_all
noncomputable def tabFuncs_341 : Tr (Func) := Tr.node (some Try.f46) Tr.nil Tr.nil
theorem tabFuncs_341_all : ∀ k x, tabFuncs_341.get k = some x → (fun n x => Try.prog.funcs[n]? = some x ∧ ∀ args w, (callFunc n args).run Try.prog w = .ok (.enter n args) w) (32 * k + 46) x := Tr.node_all (P := fun n x => Try.prog.funcs[n]? = some x ∧ ∀ args w, (callFunc n args).run Try.prog w = .ok (.enter n args) w) (a := 32) (b := 46) (fun _ h => by cases h; exact ⟨Try.func46, Try.call46⟩) (fun k x h => by rw [Tr.get_nil] at h; cases h) (fun k x h => by rw [Tr.get_nil] at h; cases h)
noncomputable def tabFuncs_340 : Tr (Func) := Tr.node (some Try.f30) tabFuncs_341 Tr.nil
theorem tabFuncs_340_all : ∀ k x, tabFuncs_340.get k = some x → (fun n x => Try.prog.funcs[n]? = some x ∧ ∀ args w, (callFunc n args).run Try.prog w = .ok (.enter n args) w) (16 * k + 30) x := Tr.node_all (P := fun n x => Try.prog.funcs[n]? = some x ∧ ∀ args w, (callFunc n args).run Try.prog w = .ok (.enter n args) w) (a := 16) (b := 30) (fun _ h => by cases h; exact ⟨Try.func30, Try.call30⟩) tabFuncs_341_all (fun k x h => by rw [Tr.get_nil] at h; cases h)
noncomputable def tabFuncs_336 : Tr (Func) := Tr.node (some Try.f14) tabFuncs_337 tabFuncs_340
theorem tabFuncs_336_all : ∀ k x, tabFuncs_336.get k = some x → (fun n x => Try.prog.funcs[n]? = some x ∧ ∀ args w, (callFunc n args).run Try.prog w = .ok (.enter n args) w) (8 * k + 14) x := Tr.node_all (P := fun n x => Try.prog.funcs[n]? = some x ∧ ∀ args w, (callFunc n args).run Try.prog w = .ok (.enter n args) w) (a := 8) (b := 14) (fun _ h => by cases h; exact ⟨Try.func14, Try.call14⟩) tabFuncs_337_all tabFuncs_340_all
noncomputable def tabFuncs_329 : Tr (Func) := Tr.node (some Try.f6) tabFuncs_330 tabFuncs_336
theorem tabFuncs_329_all : ∀ k x, tabFuncs_329.get k = some x → (fun n x => Try.prog.funcs[n]? = some x ∧ ∀ args w, (callFunc n args).run Try.prog w = .ok (.enter n args) w) (4 * k + 6) x := Tr.node_all (P := fun n x => Try.prog.funcs[n]? = some x ∧ ∀ args w, (callFunc n args).run Try.prog w = .ok (.enter n args) w) (a := 4) (b := 6) (fun _ h => by cases h; exact ⟨Try.func6, Try.call6⟩) tabFuncs_330_all tabFuncs_336_all
noncomputable def tabFuncs_314 : Tr (Func) := Tr.node none tabFuncs_315 tabFuncs_329
theorem tabFuncs_314_all : ∀ k x, tabFuncs_314.get k = some x → (fun n x => Try.prog.funcs[n]? = some x ∧ ∀ args w, (callFunc n args).run Try.prog w = .ok (.enter n args) w) (2 * k + 2) x := Tr.node_all (P := fun n x => Try.prog.funcs[n]? = some x ∧ ∀ args w, (callFunc n args).run Try.prog w = .ok (.enter n args) w) (a := 2) (b := 2) (fun _ h => by cases h) tabFuncs_315_all tabFuncs_329_all
noncomputable def tabFuncs_284 : Tr (Func) := Tr.node none tabFuncs_285 tabFuncs_314
theorem tabFuncs_284_all : ∀ k x, tabFuncs_284.get k = some x → (fun n x => Try.prog.funcs[n]? = some x ∧ ∀ args w, (callFunc n args).run Try.prog w = .ok (.enter n args) w) (1 * k + 0) x := Tr.node_all (P := fun n x => Try.prog.funcs[n]? = some x ∧ ∀ args w, (callFunc n args).run Try.prog w = .ok (.enter n args) w) (a := 1) (b := 0) (fun _ h => by cases h) tabFuncs_285_all tabFuncs_314_all
noncomputable def tabFuncs : Tr (Func) := tabFuncs_284
theorem tabFuncs_all : ∀ k x, tabFuncs.get k = some x → (fun n x => Try.prog.funcs[n]? = some x ∧ ∀ args w, (callFunc n args).run Try.prog w = .ok (.enter n args) w) k x := fun k x h => by have := tabFuncs_284_all k x h; rwa [Nat.one_mul, Nat.add_zero] at this

noncomputable def Tb : Tabs := ⟨tabInfo, tabUnd, tabFuncs, .nil, .nil, .nil⟩
theorem Tb_ok : Tb.Ok Try.prog where
  info := fun t i h => (tabInfo_all t i h).1
  und := tabUnd_all
  func := fun f fn h => (tabFuncs_all f fn h).1
  call := fun f fn h => (tabFuncs_all f fn h).2
  meth := fun t l h => by rw [show Tb.meths = Tr.nil from rfl, Tr.get_nil] at h; cases h
  ahead := fun t l h => by rw [show Tb.meths = Tr.nil from rfl, Tr.get_nil] at h; cases h
  zero := fun t i z h => (tabInfo_all t i h).2 z
  mixed := by kernel_rfl
  short := fun f s h => by rw [show Tb.short = Tr.nil from rfl, Tr.get_nil] at h; cases h
end Go.Proofs.Ytfpakfidfmjfhaa
