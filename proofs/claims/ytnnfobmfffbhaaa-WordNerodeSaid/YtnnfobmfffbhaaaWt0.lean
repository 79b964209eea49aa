import Derived.Test.YtnnfobmfffbhaaaEngZ
import Derived.Test.YtnnfobmfffbhaaaChecked
import Derived.KernelRfl
set_option linter.unusedSimpArgs false
set_option linter.unusedVariables false
set_option linter.unusedSectionVars false
open Go Go.Eng
namespace Go.Proofs.Ytnnfobmfffbhaaa

theorem Tr.node_all {α : Type} {P : Nat → α → Prop} {v : Option α} {l r : Tr α} {a b : Nat} (h0 : ∀ x, v = some x → P b x) (hl : ∀ k x, l.get k = some x → P ((2 * a) * k + (a + b)) x)
    (hr : ∀ k x, r.get k = some x → P ((2 * a) * k + (2 * a + b)) x) : ∀ k x, (Tr.node v l r).get k = some x → P (a * k + b) x := by
  intro k x h
  cases k with
  | zero => simp only [Nat.mul_zero, Nat.zero_add]; exact h0 x h
  | succ m =>
    simp only [Tr.get] at h
    split at h
    · rename_i hb
      have hb := Nat.eq_of_beq_eq_true hb
      have := hl _ _ h
      rw [natmod] at hb
      rw [natdiv] at this
      have e : 2 * a * (m / 2) + (a + b) = a * (m + 1) + b := by
        have : m = 2 * (m / 2) := by omega
        rw [Nat.mul_add, show a * m = a * (2 * (m / 2)) from by rw [← this]]
        rw [Nat.mul_comm 2 a, Nat.mul_assoc]; omega
      rwa [e] at this
    · rename_i hb
      have hb := Nat.ne_of_beq_eq_false hb
      have := hr _ _ h
      rw [natmod] at hb
      rw [natdiv] at this
      have e : 2 * a * (m / 2) + (2 * a + b) = a * (m + 1) + b := by
        have : m = 2 * (m / 2) + 1 := by omega
        rw [show a * (m + 1) = a * (2 * (m / 2) + 2) from by rw [show m + 1 = 2 * (m / 2) + 2 from by omega]]
        rw [Nat.mul_add, Nat.mul_comm 2 a, Nat.mul_assoc]; omega
      rwa [e] at this

theorem info0 : Try.prog.info? 0 = some Try.t0 := by kernel_rfl
theorem info1 : Try.prog.info? 1 = some Try.t1 := by kernel_rfl
theorem info2 : Try.prog.info? 2 = some Try.t2 := by kernel_rfl
theorem info3 : Try.prog.info? 3 = some Try.t3 := by kernel_rfl
theorem info4 : Try.prog.info? 4 = some Try.t4 := by kernel_rfl
theorem info5 : Try.prog.info? 5 = some Try.t5 := by kernel_rfl
theorem info6 : Try.prog.info? 6 = some Try.t6 := by kernel_rfl
theorem info7 : Try.prog.info? 7 = some Try.t7 := by kernel_rfl
theorem info8 : Try.prog.info? 8 = some Try.t8 := by kernel_rfl
theorem info9 : Try.prog.info? 9 = some Try.t9 := by kernel_rfl
theorem info10 : Try.prog.info? 10 = some Try.t10 := by kernel_rfl
theorem info11 : Try.prog.info? 11 = some Try.t11 := by kernel_rfl
theorem info12 : Try.prog.info? 12 = some Try.t12 := by kernel_rfl
theorem info13 : Try.prog.info? 13 = some Try.t13 := by kernel_rfl
theorem info14 : Try.prog.info? 14 = some Try.t14 := by kernel_rfl
theorem info15 : Try.prog.info? 15 = some Try.t15 := by kernel_rfl
theorem info16 : Try.prog.info? 16 = some Try.t16 := by kernel_rfl
theorem info17 : Try.prog.info? 17 = some Try.t17 := by kernel_rfl
theorem info18 : Try.prog.info? 18 = some Try.t18 := by kernel_rfl
theorem info19 : Try.prog.info? 19 = some Try.t19 := by kernel_rfl
theorem info20 : Try.prog.info? 20 = some Try.t20 := by kernel_rfl
theorem info21 : Try.prog.info? 21 = some Try.t21 := by kernel_rfl
theorem info22 : Try.prog.info? 22 = some Try.t22 := by kernel_rfl
theorem info23 : Try.prog.info? 23 = some Try.t23 := by kernel_rfl
theorem info24 : Try.prog.info? 24 = some Try.t24 := by kernel_rfl
theorem info25 : Try.prog.info? 25 = some Try.t25 := by kernel_rfl
theorem info26 : Try.prog.info? 26 = some Try.t26 := by kernel_rfl
theorem info27 : Try.prog.info? 27 = some Try.t27 := by kernel_rfl
theorem info28 : Try.prog.info? 28 = some Try.t28 := by kernel_rfl
theorem info29 : Try.prog.info? 29 = some Try.t29 := by kernel_rfl
theorem info30 : Try.prog.info? 30 = some Try.t30 := by kernel_rfl
theorem info31 : Try.prog.info? 31 = some Try.t31 := by kernel_rfl
theorem info32 : Try.prog.info? 32 = some Try.t32 := by kernel_rfl
theorem info33 : Try.prog.info? 33 = some Try.t33 := by kernel_rfl
theorem info34 : Try.prog.info? 34 = some Try.t34 := by kernel_rfl
theorem info35 : Try.prog.info? 35 = some Try.t35 := by kernel_rfl
theorem info36 : Try.prog.info? 36 = some Try.t36 := by kernel_rfl
theorem info37 : Try.prog.info? 37 = some Try.t37 := by kernel_rfl
theorem info38 : Try.prog.info? 38 = some Try.t38 := by kernel_rfl
theorem info39 : Try.prog.info? 39 = some Try.t39 := by kernel_rfl
theorem info40 : Try.prog.info? 40 = some Try.t40 := by kernel_rfl
theorem info41 : Try.prog.info? 41 = some Try.t41 := by kernel_rfl
theorem info42 : Try.prog.info? 42 = some Try.t42 := by kernel_rfl
theorem info43 : Try.prog.info? 43 = some Try.t43 := by kernel_rfl
theorem info44 : Try.prog.info? 44 = some Try.t44 := by kernel_rfl
theorem info45 : Try.prog.info? 45 = some Try.t45 := by kernel_rfl
theorem info46 : Try.prog.info? 46 = some Try.t46 := by kernel_rfl
theorem info47 : Try.prog.info? 47 = some Try.t47 := by kernel_rfl
theorem info48 : Try.prog.info? 48 = some Try.t48 := by kernel_rfl
theorem info49 : Try.prog.info? 49 = some Try.t49 := by kernel_rfl
theorem info50 : Try.prog.info? 50 = some Try.t50 := by kernel_rfl
theorem info51 : Try.prog.info? 51 = some Try.t51 := by kernel_rfl
theorem info52 : Try.prog.info? 52 = some Try.t52 := by kernel_rfl
theorem info53 : Try.prog.info? 53 = some Try.t53 := by kernel_rfl
theorem info54 : Try.prog.info? 54 = some Try.t54 := by kernel_rfl
theorem info55 : Try.prog.info? 55 = some Try.t55 := by kernel_rfl
theorem info56 : Try.prog.info? 56 = some Try.t56 := by kernel_rfl
theorem info57 : Try.prog.info? 57 = some Try.t57 := by kernel_rfl
theorem info58 : Try.prog.info? 58 = some Try.t58 := by kernel_rfl
theorem info59 : Try.prog.info? 59 = some Try.t59 := by kernel_rfl
theorem info60 : Try.prog.info? 60 = some Try.t60 := by kernel_rfl
theorem info61 : Try.prog.info? 61 = some Try.t61 := by kernel_rfl
theorem info62 : Try.prog.info? 62 = some Try.t62 := by kernel_rfl
theorem info63 : Try.prog.info? 63 = some Try.t63 := by kernel_rfl
theorem info64 : Try.prog.info? 64 = some Try.t64 := by kernel_rfl
theorem info65 : Try.prog.info? 65 = some Try.t65 := by kernel_rfl
theorem info66 : Try.prog.info? 66 = some Try.t66 := by kernel_rfl
theorem info67 : Try.prog.info? 67 = some Try.t67 := by kernel_rfl
theorem info68 : Try.prog.info? 68 = some Try.t68 := by kernel_rfl
theorem info69 : Try.prog.info? 69 = some Try.t69 := by kernel_rfl
theorem info70 : Try.prog.info? 70 = some Try.t70 := by kernel_rfl
theorem info71 : Try.prog.info? 71 = some Try.t71 := by kernel_rfl
theorem info72 : Try.prog.info? 72 = some Try.t72 := by kernel_rfl
theorem info73 : Try.prog.info? 73 = some Try.t73 := by kernel_rfl
theorem info74 : Try.prog.info? 74 = some Try.t74 := by kernel_rfl
theorem info75 : Try.prog.info? 75 = some Try.t75 := by kernel_rfl
theorem info76 : Try.prog.info? 76 = some Try.t76 := by kernel_rfl
theorem info77 : Try.prog.info? 77 = some Try.t77 := by kernel_rfl
theorem info78 : Try.prog.info? 78 = some Try.t78 := by kernel_rfl
theorem info79 : Try.prog.info? 79 = some Try.t79 := by kernel_rfl
theorem info80 : Try.prog.info? 80 = some Try.t80 := by kernel_rfl
theorem info81 : Try.prog.info? 81 = some Try.t81 := by kernel_rfl
theorem info82 : Try.prog.info? 82 = some Try.t82 := by kernel_rfl
theorem info83 : Try.prog.info? 83 = some Try.t83 := by kernel_rfl
theorem info84 : Try.prog.info? 84 = some Try.t84 := by kernel_rfl
theorem info85 : Try.prog.info? 85 = some Try.t85 := by kernel_rfl
theorem info86 : Try.prog.info? 86 = some Try.t86 := by kernel_rfl
theorem info87 : Try.prog.info? 87 = some Try.t87 := by kernel_rfl
theorem info88 : Try.prog.info? 88 = some Try.t88 := by kernel_rfl
theorem info89 : Try.prog.info? 89 = some Try.t89 := by kernel_rfl
theorem info90 : Try.prog.info? 90 = some Try.t90 := by kernel_rfl
theorem info91 : Try.prog.info? 91 = some Try.t91 := by kernel_rfl
theorem info92 : Try.prog.info? 92 = some Try.t92 := by kernel_rfl
theorem info93 : Try.prog.info? 93 = some Try.t93 := by kernel_rfl
theorem info94 : Try.prog.info? 94 = some Try.t94 := by kernel_rfl
theorem info95 : Try.prog.info? 95 = some Try.t95 := by kernel_rfl
theorem info96 : Try.prog.info? 96 = some Try.t96 := by kernel_rfl
theorem info97 : Try.prog.info? 97 = some Try.t97 := by kernel_rfl
theorem info98 : Try.prog.info? 98 = some Try.t98 := by kernel_rfl
theorem info99 : Try.prog.info? 99 = some Try.t99 := by kernel_rfl
theorem info100 : Try.prog.info? 100 = some Try.t100 := by kernel_rfl
theorem info101 : Try.prog.info? 101 = some Try.t101 := by kernel_rfl
theorem info102 : Try.prog.info? 102 = some Try.t102 := by kernel_rfl
theorem info103 : Try.prog.info? 103 = some Try.t103 := by kernel_rfl
theorem info104 : Try.prog.info? 104 = some Try.t104 := by kernel_rfl
theorem info105 : Try.prog.info? 105 = some Try.t105 := by kernel_rfl
theorem info106 : Try.prog.info? 106 = some Try.t106 := by kernel_rfl
theorem info107 : Try.prog.info? 107 = some Try.t107 := by kernel_rfl
theorem info108 : Try.prog.info? 108 = some Try.t108 := by kernel_rfl
theorem info109 : Try.prog.info? 109 = some Try.t109 := by kernel_rfl
theorem info110 : Try.prog.info? 110 = some Try.t110 := by kernel_rfl
theorem info111 : Try.prog.info? 111 = some Try.t111 := by kernel_rfl
theorem info112 : Try.prog.info? 112 = some Try.t112 := by kernel_rfl
theorem info113 : Try.prog.info? 113 = some Try.t113 := by kernel_rfl
theorem info114 : Try.prog.info? 114 = some Try.t114 := by kernel_rfl
theorem info115 : Try.prog.info? 115 = some Try.t115 := by kernel_rfl
theorem info116 : Try.prog.info? 116 = some Try.t116 := by kernel_rfl
theorem info117 : Try.prog.info? 117 = some Try.t117 := by kernel_rfl
theorem info118 : Try.prog.info? 118 = some Try.t118 := by kernel_rfl
theorem info119 : Try.prog.info? 119 = some Try.t119 := by kernel_rfl
theorem info120 : Try.prog.info? 120 = some Try.t120 := by kernel_rfl
theorem info121 : Try.prog.info? 121 = some Try.t121 := by kernel_rfl
theorem info122 : Try.prog.info? 122 = some Try.t122 := by kernel_rfl
theorem info123 : Try.prog.info? 123 = some Try.t123 := by kernel_rfl
theorem info124 : Try.prog.info? 124 = some Try.t124 := by kernel_rfl
theorem info125 : Try.prog.info? 125 = some Try.t125 := by kernel_rfl
theorem info126 : Try.prog.info? 126 = some Try.t126 := by kernel_rfl
theorem info127 : Try.prog.info? 127 = some Try.t127 := by kernel_rfl
theorem info128 : Try.prog.info? 128 = some Try.t128 := by kernel_rfl
theorem info129 : Try.prog.info? 129 = some Try.t129 := by kernel_rfl
theorem info130 : Try.prog.info? 130 = some Try.t130 := by kernel_rfl
theorem info131 : Try.prog.info? 131 = some Try.t131 := by kernel_rfl
theorem info132 : Try.prog.info? 132 = some Try.t132 := by kernel_rfl
theorem info133 : Try.prog.info? 133 = some Try.t133 := by kernel_rfl
theorem info134 : Try.prog.info? 134 = some Try.t134 := by kernel_rfl
theorem info135 : Try.prog.info? 135 = some Try.t135 := by kernel_rfl
theorem info136 : Try.prog.info? 136 = some Try.t136 := by kernel_rfl
theorem info137 : Try.prog.info? 137 = some Try.t137 := by kernel_rfl
theorem info138 : Try.prog.info? 138 = some Try.t138 := by kernel_rfl
theorem info139 : Try.prog.info? 139 = some Try.t139 := by kernel_rfl
theorem info140 : Try.prog.info? 140 = some Try.t140 := by kernel_rfl
theorem info141 : Try.prog.info? 141 = some Try.t141 := by kernel_rfl
theorem info142 : Try.prog.info? 142 = some Try.t142 := by kernel_rfl
theorem info143 : Try.prog.info? 143 = some Try.t143 := by kernel_rfl
theorem info144 : Try.prog.info? 144 = some Try.t144 := by kernel_rfl
theorem info145 : Try.prog.info? 145 = some Try.t145 := by kernel_rfl
theorem info146 : Try.prog.info? 146 = some Try.t146 := by kernel_rfl
theorem info147 : Try.prog.info? 147 = some Try.t147 := by kernel_rfl
theorem info148 : Try.prog.info? 148 = some Try.t148 := by kernel_rfl
theorem info149 : Try.prog.info? 149 = some Try.t149 := by kernel_rfl
theorem info150 : Try.prog.info? 150 = some Try.t150 := by kernel_rfl
theorem info151 : Try.prog.info? 151 = some Try.t151 := by kernel_rfl
theorem info152 : Try.prog.info? 152 = some Try.t152 := by kernel_rfl
theorem info153 : Try.prog.info? 153 = some Try.t153 := by kernel_rfl
theorem info154 : Try.prog.info? 154 = some Try.t154 := by kernel_rfl
theorem info155 : Try.prog.info? 155 = some Try.t155 := by kernel_rfl
theorem info156 : Try.prog.info? 156 = some Try.t156 := by kernel_rfl
theorem info157 : Try.prog.info? 157 = some Try.t157 := by kernel_rfl
theorem info158 : Try.prog.info? 158 = some Try.t158 := by kernel_rfl
theorem info159 : Try.prog.info? 159 = some Try.t159 := by kernel_rfl
theorem info160 : Try.prog.info? 160 = some Try.t160 := by kernel_rfl
theorem info161 : Try.prog.info? 161 = some Try.t161 := by kernel_rfl
theorem info162 : Try.prog.info? 162 = some Try.t162 := by kernel_rfl
theorem info163 : Try.prog.info? 163 = some Try.t163 := by kernel_rfl
theorem info164 : Try.prog.info? 164 = some Try.t164 := by kernel_rfl
noncomputable def tabInfo_8 : Tr (TypeInfo) := Tr.node (some Try.t127) Tr.nil Tr.nil
theorem tabInfo_8_all : ∀ k x, tabInfo_8.get k = some x → (fun n x => Try.prog.info? n = some x ∧ ∀ z, x.zero = some z → flat z = true) (128 * k + 127) x := Tr.node_all (P := fun n x => Try.prog.info? n = some x ∧ ∀ z, x.zero = some z → flat z = true) (a := 128) (b := 127) (fun _ h => by cases h; exact ⟨info127, fun z h => by cases h <;> rfl⟩) (fun k x h => by rw [Tr.get_nil] at h; cases h) (fun k x h => by rw [Tr.get_nil] at h; cases h)
noncomputable def tabInfo_7 : Tr (TypeInfo) := Tr.node (some Try.t63) tabInfo_8 Tr.nil
theorem tabInfo_7_all : ∀ k x, tabInfo_7.get k = some x → (fun n x => Try.prog.info? n = some x ∧ ∀ z, x.zero = some z → flat z = true) (64 * k + 63) x := Tr.node_all (P := fun n x => Try.prog.info? n = some x ∧ ∀ z, x.zero = some z → flat z = true) (a := 64) (b := 63) (fun _ h => by cases h; exact ⟨info63, fun z h => by cases h <;> rfl⟩) tabInfo_8_all (fun k x h => by rw [Tr.get_nil] at h; cases h)
noncomputable def tabInfo_10 : Tr (TypeInfo) := Tr.node (some Try.t159) Tr.nil Tr.nil
theorem tabInfo_10_all : ∀ k x, tabInfo_10.get k = some x → (fun n x => Try.prog.info? n = some x ∧ ∀ z, x.zero = some z → flat z = true) (128 * k + 159) x := Tr.node_all (P := fun n x => Try.prog.info? n = some x ∧ ∀ z, x.zero = some z → flat z = true) (a := 128) (b := 159) (fun _ h => by cases h; exact ⟨info159, fun z h => by cases h <;> rfl⟩) (fun k x h => by rw [Tr.get_nil] at h; cases h) (fun k x h => by rw [Tr.get_nil] at h; cases h)
noncomputable def tabInfo_9 : Tr (TypeInfo) := Tr.node (some Try.t95) tabInfo_10 Tr.nil
theorem tabInfo_9_all : ∀ k x, tabInfo_9.get k = some x → (fun n x => Try.prog.info? n = some x ∧ ∀ z, x.zero = some z → flat z = true) (64 * k + 95) x := Tr.node_all (P := fun n x => Try.prog.info? n = some x ∧ ∀ z, x.zero = some z → flat z = true) (a := 64) (b := 95) (fun _ h => by cases h; exact ⟨info95, fun z h => by cases h <;> rfl⟩) tabInfo_10_all (fun k x h => by rw [Tr.get_nil] at h; cases h)
noncomputable def tabInfo_6 : Tr (TypeInfo) := Tr.node none tabInfo_7 tabInfo_9
theorem tabInfo_6_all : ∀ k x, tabInfo_6.get k = some x → (fun n x => Try.prog.info? n = some x ∧ ∀ z, x.zero = some z → flat z = true) (32 * k + 31) x := Tr.node_all (P := fun n x => Try.prog.info? n = some x ∧ ∀ z, x.zero = some z → flat z = true) (a := 32) (b := 31) (fun _ h => by cases h) tabInfo_7_all tabInfo_9_all
noncomputable def tabInfo_13 : Tr (TypeInfo) := Tr.node (some Try.t143) Tr.nil Tr.nil
theorem tabInfo_13_all : ∀ k x, tabInfo_13.get k = some x → (fun n x => Try.prog.info? n = some x ∧ ∀ z, x.zero = some z → flat z = true) (128 * k + 143) x := Tr.node_all (P := fun n x => Try.prog.info? n = some x ∧ ∀ z, x.zero = some z → flat z = true) (a := 128) (b := 143) (fun _ h => by cases h; exact ⟨info143, fun z h => by cases h <;> rfl⟩) (fun k x h => by rw [Tr.get_nil] at h; cases h) (fun k x h => by rw [Tr.get_nil] at h; cases h)
noncomputable def tabInfo_12 : Tr (TypeInfo) := Tr.node (some Try.t79) tabInfo_13 Tr.nil
theorem tabInfo_12_all : ∀ k x, tabInfo_12.get k = some x → (fun n x => Try.prog.info? n = some x ∧ ∀ z, x.zero = some z → flat z = true) (64 * k + 79) x := Tr.node_all (P := fun n x => Try.prog.info? n = some x ∧ ∀ z, x.zero = some z → flat z = true) (a := 64) (b := 79) (fun _ h => by cases h; exact ⟨info79, fun z h => by cases h <;> rfl⟩) tabInfo_13_all (fun k x h => by rw [Tr.get_nil] at h; cases h)
noncomputable def tabInfo_14 : Tr (TypeInfo) := Tr.node (some Try.t111) Tr.nil Tr.nil
theorem tabInfo_14_all : ∀ k x, tabInfo_14.get k = some x → (fun n x => Try.prog.info? n = some x ∧ ∀ z, x.zero = some z → flat z = true) (64 * k + 111) x := Tr.node_all (P := fun n x => Try.prog.info? n = some x ∧ ∀ z, x.zero = some z → flat z = true) (a := 64) (b := 111) (fun _ h => by cases h; exact ⟨info111, fun z h => by cases h <;> rfl⟩) (fun k x h => by rw [Tr.get_nil] at h; cases h) (fun k x h => by rw [Tr.get_nil] at h; cases h)
noncomputable def tabInfo_11 : Tr (TypeInfo) := Tr.node (some Try.t47) tabInfo_12 tabInfo_14
theorem tabInfo_11_all : ∀ k x, tabInfo_11.get k = some x → (fun n x => Try.prog.info? n = some x ∧ ∀ z, x.zero = some z → flat z = true) (32 * k + 47) x := Tr.node_all (P := fun n x => Try.prog.info? n = some x ∧ ∀ z, x.zero = some z → flat z = true) (a := 32) (b := 47) (fun _ h => by cases h; exact ⟨info47, fun z h => by cases h <;> rfl⟩) tabInfo_12_all tabInfo_14_all
noncomputable def tabInfo_5 : Tr (TypeInfo) := Tr.node (some Try.t15) tabInfo_6 tabInfo_11
theorem tabInfo_5_all : ∀ k x, tabInfo_5.get k = some x → (fun n x => Try.prog.info? n = some x ∧ ∀ z, x.zero = some z → flat z = true) (16 * k + 15) x := Tr.node_all (P := fun n x => Try.prog.info? n = some x ∧ ∀ z, x.zero = some z → flat z = true) (a := 16) (b := 15) (fun _ h => by cases h; exact ⟨info15, fun z h => by cases h <;> rfl⟩) tabInfo_6_all tabInfo_11_all
noncomputable def tabInfo_18 : Tr (TypeInfo) := Tr.node (some Try.t135) Tr.nil Tr.nil
theorem tabInfo_18_all : ∀ k x, tabInfo_18.get k = some x → (fun n x => Try.prog.info? n = some x ∧ ∀ z, x.zero = some z → flat z = true) (128 * k + 135) x := Tr.node_all (P := fun n x => Try.prog.info? n = some x ∧ ∀ z, x.zero = some z → flat z = true) (a := 128) (b := 135) (fun _ h => by cases h; exact ⟨info135, fun z h => by cases h <;> rfl⟩) (fun k x h => by rw [Tr.get_nil] at h; cases h) (fun k x h => by rw [Tr.get_nil] at h; cases h)
noncomputable def tabInfo_17 : Tr (TypeInfo) := Tr.node (some Try.t71) tabInfo_18 Tr.nil
theorem tabInfo_17_all : ∀ k x, tabInfo_17.get k = some x → (fun n x => Try.prog.info? n = some x ∧ ∀ z, x.zero = some z → flat z = true) (64 * k + 71) x := Tr.node_all (P := fun n x => Try.prog.info? n = some x ∧ ∀ z, x.zero = some z → flat z = true) (a := 64) (b := 71) (fun _ h => by cases h; exact ⟨info71, fun z h => by cases h <;> rfl⟩) tabInfo_18_all (fun k x h => by rw [Tr.get_nil] at h; cases h)
noncomputable def tabInfo_19 : Tr (TypeInfo) := Tr.node (some Try.t103) Tr.nil Tr.nil
theorem tabInfo_19_all : ∀ k x, tabInfo_19.get k = some x → (fun n x => Try.prog.info? n = some x ∧ ∀ z, x.zero = some z → flat z = true) (64 * k + 103) x := Tr.node_all (P := fun n x => Try.prog.info? n = some x ∧ ∀ z, x.zero = some z → flat z = true) (a := 64) (b := 103) (fun _ h => by cases h; exact ⟨info103, fun z h => by cases h <;> rfl⟩) (fun k x h => by rw [Tr.get_nil] at h; cases h) (fun k x h => by rw [Tr.get_nil] at h; cases h)
noncomputable def tabInfo_16 : Tr (TypeInfo) := Tr.node (some Try.t39) tabInfo_17 tabInfo_19
theorem tabInfo_16_all : ∀ k x, tabInfo_16.get k = some x → (fun n x => Try.prog.info? n = some x ∧ ∀ z, x.zero = some z → flat z = true) (32 * k + 39) x := Tr.node_all (P := fun n x => Try.prog.info? n = some x ∧ ∀ z, x.zero = some z → flat z = true) (a := 32) (b := 39) (fun _ h => by cases h; exact ⟨info39, fun z h => by cases h <;> rfl⟩) tabInfo_17_all tabInfo_19_all
noncomputable def tabInfo_22 : Tr (TypeInfo) := Tr.node (some Try.t151) Tr.nil Tr.nil
theorem tabInfo_22_all : ∀ k x, tabInfo_22.get k = some x → (fun n x => Try.prog.info? n = some x ∧ ∀ z, x.zero = some z → flat z = true) (128 * k + 151) x := Tr.node_all (P := fun n x => Try.prog.info? n = some x ∧ ∀ z, x.zero = some z → flat z = true) (a := 128) (b := 151) (fun _ h => by cases h; exact ⟨info151, fun z h => by cases h <;> rfl⟩) (fun k x h => by rw [Tr.get_nil] at h; cases h) (fun k x h => by rw [Tr.get_nil] at h; cases h)
noncomputable def tabInfo_21 : Tr (TypeInfo) := Tr.node (some Try.t87) tabInfo_22 Tr.nil
theorem tabInfo_21_all : ∀ k x, tabInfo_21.get k = some x → (fun n x => Try.prog.info? n = some x ∧ ∀ z, x.zero = some z → flat z = true) (64 * k + 87) x := Tr.node_all (P := fun n x => Try.prog.info? n = some x ∧ ∀ z, x.zero = some z → flat z = true) (a := 64) (b := 87) (fun _ h => by cases h; exact ⟨info87, fun z h => by cases h <;> rfl⟩) tabInfo_22_all (fun k x h => by rw [Tr.get_nil] at h; cases h)
noncomputable def tabInfo_23 : Tr (TypeInfo) := Tr.node (some Try.t119) Tr.nil Tr.nil
theorem tabInfo_23_all : ∀ k x, tabInfo_23.get k = some x → (fun n x => Try.prog.info? n = some x ∧ ∀ z, x.zero = some z → flat z = true) (64 * k + 119) x := Tr.node_all (P := fun n x => Try.prog.info? n = some x ∧ ∀ z, x.zero = some z → flat z = true) (a := 64) (b := 119) (fun _ h => by cases h; exact ⟨info119, fun z h => by cases h <;> rfl⟩) (fun k x h => by rw [Tr.get_nil] at h; cases h) (fun k x h => by rw [Tr.get_nil] at h; cases h)
noncomputable def tabInfo_20 : Tr (TypeInfo) := Tr.node (some Try.t55) tabInfo_21 tabInfo_23
theorem tabInfo_20_all : ∀ k x, tabInfo_20.get k = some x → (fun n x => Try.prog.info? n = some x ∧ ∀ z, x.zero = some z → flat z = true) (32 * k + 55) x := Tr.node_all (P := fun n x => Try.prog.info? n = some x ∧ ∀ z, x.zero = some z → flat z = true) (a := 32) (b := 55) (fun _ h => by cases h; exact ⟨info55, fun z h => by cases h <;> rfl⟩) tabInfo_21_all tabInfo_23_all
noncomputable def tabInfo_15 : Tr (TypeInfo) := Tr.node (some Try.t23) tabInfo_16 tabInfo_20
theorem tabInfo_15_all : ∀ k x, tabInfo_15.get k = some x → (fun n x => Try.prog.info? n = some x ∧ ∀ z, x.zero = some z → flat z = true) (16 * k + 23) x := Tr.node_all (P := fun n x => Try.prog.info? n = some x ∧ ∀ z, x.zero = some z → flat z = true) (a := 16) (b := 23) (fun _ h => by cases h; exact ⟨info23, fun z h => by cases h <;> rfl⟩) tabInfo_16_all tabInfo_20_all
noncomputable def tabInfo_4 : Tr (TypeInfo) := Tr.node (some Try.t7) tabInfo_5 tabInfo_15
theorem tabInfo_4_all : ∀ k x, tabInfo_4.get k = some x → (fun n x => Try.prog.info? n = some x ∧ ∀ z, x.zero = some z → flat z = true) (8 * k + 7) x := Tr.node_all (P := fun n x => Try.prog.info? n = some x ∧ ∀ z, x.zero = some z → flat z = true) (a := 8) (b := 7) (fun _ h => by cases h; exact ⟨info7, fun z h => by cases h <;> rfl⟩) tabInfo_5_all tabInfo_15_all
noncomputable def tabInfo_28 : Tr (TypeInfo) := Tr.node (some Try.t131) Tr.nil Tr.nil
theorem tabInfo_28_all : ∀ k x, tabInfo_28.get k = some x → (fun n x => Try.prog.info? n = some x ∧ ∀ z, x.zero = some z → flat z = true) (128 * k + 131) x := Tr.node_all (P := fun n x => Try.prog.info? n = some x ∧ ∀ z, x.zero = some z → flat z = true) (a := 128) (b := 131) (fun _ h => by cases h; exact ⟨info131, fun z h => by cases h <;> rfl⟩) (fun k x h => by rw [Tr.get_nil] at h; cases h) (fun k x h => by rw [Tr.get_nil] at h; cases h)
noncomputable def tabInfo_27 : Tr (TypeInfo) := Tr.node (some Try.t67) tabInfo_28 Tr.nil
theorem tabInfo_27_all : ∀ k x, tabInfo_27.get k = some x → (fun n x => Try.prog.info? n = some x ∧ ∀ z, x.zero = some z → flat z = true) (64 * k + 67) x := Tr.node_all (P := fun n x => Try.prog.info? n = some x ∧ ∀ z, x.zero = some z → flat z = true) (a := 64) (b := 67) (fun _ h => by cases h; exact ⟨info67, fun z h => by cases h <;> rfl⟩) tabInfo_28_all (fun k x h => by rw [Tr.get_nil] at h; cases h)
noncomputable def tabInfo_30 : Tr (TypeInfo) := Tr.node (some Try.t163) Tr.nil Tr.nil
theorem tabInfo_30_all : ∀ k x, tabInfo_30.get k = some x → (fun n x => Try.prog.info? n = some x ∧ ∀ z, x.zero = some z → flat z = true) (128 * k + 163) x := Tr.node_all (P := fun n x => Try.prog.info? n = some x ∧ ∀ z, x.zero = some z → flat z = true) (a := 128) (b := 163) (fun _ h => by cases h; exact ⟨info163, fun z h => by cases h <;> rfl⟩) (fun k x h => by rw [Tr.get_nil] at h; cases h) (fun k x h => by rw [Tr.get_nil] at h; cases h)
noncomputable def tabInfo_29 : Tr (TypeInfo) := Tr.node (some Try.t99) tabInfo_30 Tr.nil
theorem tabInfo_29_all : ∀ k x, tabInfo_29.get k = some x → (fun n x => Try.prog.info? n = some x ∧ ∀ z, x.zero = some z → flat z = true) (64 * k + 99) x := Tr.node_all (P := fun n x => Try.prog.info? n = some x ∧ ∀ z, x.zero = some z → flat z = true) (a := 64) (b := 99) (fun _ h => by cases h; exact ⟨info99, fun z h => by cases h <;> rfl⟩) tabInfo_30_all (fun k x h => by rw [Tr.get_nil] at h; cases h)
noncomputable def tabInfo_26 : Tr (TypeInfo) := Tr.node (some Try.t35) tabInfo_27 tabInfo_29
theorem tabInfo_26_all : ∀ k x, tabInfo_26.get k = some x → (fun n x => Try.prog.info? n = some x ∧ ∀ z, x.zero = some z → flat z = true) (32 * k + 35) x := Tr.node_all (P := fun n x => Try.prog.info? n = some x ∧ ∀ z, x.zero = some z → flat z = true) (a := 32) (b := 35) (fun _ h => by cases h; exact ⟨info35, fun z h => by cases h <;> rfl⟩) tabInfo_27_all tabInfo_29_all
noncomputable def tabInfo_33 : Tr (TypeInfo) := Tr.node (some Try.t147) Tr.nil Tr.nil
theorem tabInfo_33_all : ∀ k x, tabInfo_33.get k = some x → (fun n x => Try.prog.info? n = some x ∧ ∀ z, x.zero = some z → flat z = true) (128 * k + 147) x := Tr.node_all (P := fun n x => Try.prog.info? n = some x ∧ ∀ z, x.zero = some z → flat z = true) (a := 128) (b := 147) (fun _ h => by cases h; exact ⟨info147, fun z h => by cases h <;> rfl⟩) (fun k x h => by rw [Tr.get_nil] at h; cases h) (fun k x h => by rw [Tr.get_nil] at h; cases h)
noncomputable def tabInfo_32 : Tr (TypeInfo) := Tr.node (some Try.t83) tabInfo_33 Tr.nil
theorem tabInfo_32_all : ∀ k x, tabInfo_32.get k = some x → (fun n x => Try.prog.info? n = some x ∧ ∀ z, x.zero = some z → flat z = true) (64 * k + 83) x := Tr.node_all (P := fun n x => Try.prog.info? n = some x ∧ ∀ z, x.zero = some z → flat z = true) (a := 64) (b := 83) (fun _ h => by cases h; exact ⟨info83, fun z h => by cases h <;> rfl⟩) tabInfo_33_all (fun k x h => by rw [Tr.get_nil] at h; cases h)
noncomputable def tabInfo_34 : Tr (TypeInfo) := Tr.node (some Try.t115) Tr.nil Tr.nil
theorem tabInfo_34_all : ∀ k x, tabInfo_34.get k = some x → (fun n x => Try.prog.info? n = some x ∧ ∀ z, x.zero = some z → flat z = true) (64 * k + 115) x := Tr.node_all (P := fun n x => Try.prog.info? n = some x ∧ ∀ z, x.zero = some z → flat z = true) (a := 64) (b := 115) (fun _ h => by cases h; exact ⟨info115, fun z h => by cases h <;> rfl⟩) (fun k x h => by rw [Tr.get_nil] at h; cases h) (fun k x h => by rw [Tr.get_nil] at h; cases h)
noncomputable def tabInfo_31 : Tr (TypeInfo) := Tr.node (some Try.t51) tabInfo_32 tabInfo_34
theorem tabInfo_31_all : ∀ k x, tabInfo_31.get k = some x → (fun n x => Try.prog.info? n = some x ∧ ∀ z, x.zero = some z → flat z = true) (32 * k + 51) x := Tr.node_all (P := fun n x => Try.prog.info? n = some x ∧ ∀ z, x.zero = some z → flat z = true) (a := 32) (b := 51) (fun _ h => by cases h; exact ⟨info51, fun z h => by cases h <;> rfl⟩) tabInfo_32_all tabInfo_34_all
noncomputable def tabInfo_25 : Tr (TypeInfo) := Tr.node (some Try.t19) tabInfo_26 tabInfo_31
theorem tabInfo_25_all : ∀ k x, tabInfo_25.get k = some x → (fun n x => Try.prog.info? n = some x ∧ ∀ z, x.zero = some z → flat z = true) (16 * k + 19) x := Tr.node_all (P := fun n x => Try.prog.info? n = some x ∧ ∀ z, x.zero = some z → flat z = true) (a := 16) (b := 19) (fun _ h => by cases h; exact ⟨info19, fun z h => by cases h <;> rfl⟩) tabInfo_26_all tabInfo_31_all
noncomputable def tabInfo_38 : Tr (TypeInfo) := Tr.node (some Try.t139) Tr.nil Tr.nil
theorem tabInfo_38_all : ∀ k x, tabInfo_38.get k = some x → (fun n x => Try.prog.info? n = some x ∧ ∀ z, x.zero = some z → flat z = true) (128 * k + 139) x := Tr.node_all (P := fun n x => Try.prog.info? n = some x ∧ ∀ z, x.zero = some z → flat z = true) (a := 128) (b := 139) (fun _ h => by cases h; exact ⟨info139, fun z h => by cases h <;> rfl⟩) (fun k x h => by rw [Tr.get_nil] at h; cases h) (fun k x h => by rw [Tr.get_nil] at h; cases h)
noncomputable def tabInfo_37 : Tr (TypeInfo) := Tr.node (some Try.t75) tabInfo_38 Tr.nil
theorem tabInfo_37_all : ∀ k x, tabInfo_37.get k = some x → (fun n x => Try.prog.info? n = some x ∧ ∀ z, x.zero = some z → flat z = true) (64 * k + 75) x := Tr.node_all (P := fun n x => Try.prog.info? n = some x ∧ ∀ z, x.zero = some z → flat z = true) (a := 64) (b := 75) (fun _ h => by cases h; exact ⟨info75, fun z h => by cases h <;> rfl⟩) tabInfo_38_all (fun k x h => by rw [Tr.get_nil] at h; cases h)
noncomputable def tabInfo_39 : Tr (TypeInfo) := Tr.node (some Try.t107) Tr.nil Tr.nil
theorem tabInfo_39_all : ∀ k x, tabInfo_39.get k = some x → (fun n x => Try.prog.info? n = some x ∧ ∀ z, x.zero = some z → flat z = true) (64 * k + 107) x := Tr.node_all (P := fun n x => Try.prog.info? n = some x ∧ ∀ z, x.zero = some z → flat z = true) (a := 64) (b := 107) (fun _ h => by cases h; exact ⟨info107, fun z h => by cases h <;> rfl⟩) (fun k x h => by rw [Tr.get_nil] at h; cases h) (fun k x h => by rw [Tr.get_nil] at h; cases h)
noncomputable def tabInfo_36 : Tr (TypeInfo) := Tr.node (some Try.t43) tabInfo_37 tabInfo_39
theorem tabInfo_36_all : ∀ k x, tabInfo_36.get k = some x → (fun n x => Try.prog.info? n = some x ∧ ∀ z, x.zero = some z → flat z = true) (32 * k + 43) x := Tr.node_all (P := fun n x => Try.prog.info? n = some x ∧ ∀ z, x.zero = some z → flat z = true) (a := 32) (b := 43) (fun _ h => by cases h; exact ⟨info43, fun z h => by cases h <;> rfl⟩) tabInfo_37_all tabInfo_39_all
noncomputable def tabInfo_42 : Tr (TypeInfo) := Tr.node (some Try.t155) Tr.nil Tr.nil
theorem tabInfo_42_all : ∀ k x, tabInfo_42.get k = some x → (fun n x => Try.prog.info? n = some x ∧ ∀ z, x.zero = some z → flat z = true) (128 * k + 155) x := Tr.node_all (P := fun n x => Try.prog.info? n = some x ∧ ∀ z, x.zero = some z → flat z = true) (a := 128) (b := 155) (fun _ h => by cases h; exact ⟨info155, fun z h => by cases h <;> rfl⟩) (fun k x h => by rw [Tr.get_nil] at h; cases h) (fun k x h => by rw [Tr.get_nil] at h; cases h)
noncomputable def tabInfo_41 : Tr (TypeInfo) := Tr.node (some Try.t91) tabInfo_42 Tr.nil
theorem tabInfo_41_all : ∀ k x, tabInfo_41.get k = some x → (fun n x => Try.prog.info? n = some x ∧ ∀ z, x.zero = some z → flat z = true) (64 * k + 91) x := Tr.node_all (P := fun n x => Try.prog.info? n = some x ∧ ∀ z, x.zero = some z → flat z = true) (a := 64) (b := 91) (fun _ h => by cases h; exact ⟨info91, fun z h => by cases h <;> rfl⟩) tabInfo_42_all (fun k x h => by rw [Tr.get_nil] at h; cases h)
noncomputable def tabInfo_43 : Tr (TypeInfo) := Tr.node (some Try.t123) Tr.nil Tr.nil
theorem tabInfo_43_all : ∀ k x, tabInfo_43.get k = some x → (fun n x => Try.prog.info? n = some x ∧ ∀ z, x.zero = some z → flat z = true) (64 * k + 123) x := Tr.node_all (P := fun n x => Try.prog.info? n = some x ∧ ∀ z, x.zero = some z → flat z = true) (a := 64) (b := 123) (fun _ h => by cases h; exact ⟨info123, fun z h => by cases h <;> rfl⟩) (fun k x h => by rw [Tr.get_nil] at h; cases h) (fun k x h => by rw [Tr.get_nil] at h; cases h)
noncomputable def tabInfo_40 : Tr (TypeInfo) := Tr.node (some Try.t59) tabInfo_41 tabInfo_43
theorem tabInfo_40_all : ∀ k x, tabInfo_40.get k = some x → (fun n x => Try.prog.info? n = some x ∧ ∀ z, x.zero = some z → flat z = true) (32 * k + 59) x := Tr.node_all (P := fun n x => Try.prog.info? n = some x ∧ ∀ z, x.zero = some z → flat z = true) (a := 32) (b := 59) (fun _ h => by cases h; exact ⟨info59, fun z h => by cases h <;> rfl⟩) tabInfo_41_all tabInfo_43_all
noncomputable def tabInfo_35 : Tr (TypeInfo) := Tr.node (some Try.t27) tabInfo_36 tabInfo_40
theorem tabInfo_35_all : ∀ k x, tabInfo_35.get k = some x → (fun n x => Try.prog.info? n = some x ∧ ∀ z, x.zero = some z → flat z = true) (16 * k + 27) x := Tr.node_all (P := fun n x => Try.prog.info? n = some x ∧ ∀ z, x.zero = some z → flat z = true) (a := 16) (b := 27) (fun _ h => by cases h; exact ⟨info27, fun z h => by cases h <;> rfl⟩) tabInfo_36_all tabInfo_40_all
noncomputable def tabInfo_24 : Tr (TypeInfo) := Tr.node (some Try.t11) tabInfo_25 tabInfo_35
theorem tabInfo_24_all : ∀ k x, tabInfo_24.get k = some x → (fun n x => Try.prog.info? n = some x ∧ ∀ z, x.zero = some z → flat z = true) (8 * k + 11) x := Tr.node_all (P := fun n x => Try.prog.info? n = some x ∧ ∀ z, x.zero = some z → flat z = true) (a := 8) (b := 11) (fun _ h => by cases h; exact ⟨info11, fun z h => by cases h <;> rfl⟩) tabInfo_25_all tabInfo_35_all
noncomputable def tabInfo_3 : Tr (TypeInfo) := Tr.node (some Try.t3) tabInfo_4 tabInfo_24
theorem tabInfo_3_all : ∀ k x, tabInfo_3.get k = some x → (fun n x => Try.prog.info? n = some x ∧ ∀ z, x.zero = some z → flat z = true) (4 * k + 3) x := Tr.node_all (P := fun n x => Try.prog.info? n = some x ∧ ∀ z, x.zero = some z → flat z = true) (a := 4) (b := 3) (fun _ h => by cases h; exact ⟨info3, fun z h => by cases h <;> rfl⟩) tabInfo_4_all tabInfo_24_all
noncomputable def tabInfo_49 : Tr (TypeInfo) := Tr.node (some Try.t129) Tr.nil Tr.nil
theorem tabInfo_49_all : ∀ k x, tabInfo_49.get k = some x → (fun n x => Try.prog.info? n = some x ∧ ∀ z, x.zero = some z → flat z = true) (128 * k + 129) x := Tr.node_all (P := fun n x => Try.prog.info? n = some x ∧ ∀ z, x.zero = some z → flat z = true) (a := 128) (b := 129) (fun _ h => by cases h; exact ⟨info129, fun z h => by cases h <;> rfl⟩) (fun k x h => by rw [Tr.get_nil] at h; cases h) (fun k x h => by rw [Tr.get_nil] at h; cases h)
noncomputable def tabInfo_48 : Tr (TypeInfo) := Tr.node (some Try.t65) tabInfo_49 Tr.nil
theorem tabInfo_48_all : ∀ k x, tabInfo_48.get k = some x → (fun n x => Try.prog.info? n = some x ∧ ∀ z, x.zero = some z → flat z = true) (64 * k + 65) x := Tr.node_all (P := fun n x => Try.prog.info? n = some x ∧ ∀ z, x.zero = some z → flat z = true) (a := 64) (b := 65) (fun _ h => by cases h; exact ⟨info65, fun z h => by cases h <;> rfl⟩) tabInfo_49_all (fun k x h => by rw [Tr.get_nil] at h; cases h)
noncomputable def tabInfo_51 : Tr (TypeInfo) := Tr.node (some Try.t161) Tr.nil Tr.nil
theorem tabInfo_51_all : ∀ k x, tabInfo_51.get k = some x → (fun n x => Try.prog.info? n = some x ∧ ∀ z, x.zero = some z → flat z = true) (128 * k + 161) x := Tr.node_all (P := fun n x => Try.prog.info? n = some x ∧ ∀ z, x.zero = some z → flat z = true) (a := 128) (b := 161) (fun _ h => by cases h; exact ⟨info161, fun z h => by cases h <;> rfl⟩) (fun k x h => by rw [Tr.get_nil] at h; cases h) (fun k x h => by rw [Tr.get_nil] at h; cases h)
noncomputable def tabInfo_50 : Tr (TypeInfo) := Tr.node (some Try.t97) tabInfo_51 Tr.nil
theorem tabInfo_50_all : ∀ k x, tabInfo_50.get k = some x → (fun n x => Try.prog.info? n = some x ∧ ∀ z, x.zero = some z → flat z = true) (64 * k + 97) x := Tr.node_all (P := fun n x => Try.prog.info? n = some x ∧ ∀ z, x.zero = some z → flat z = true) (a := 64) (b := 97) (fun _ h => by cases h; exact ⟨info97, fun z h => by cases h <;> rfl⟩) tabInfo_51_all (fun k x h => by rw [Tr.get_nil] at h; cases h)
noncomputable def tabInfo_47 : Tr (TypeInfo) := Tr.node (some Try.t33) tabInfo_48 tabInfo_50
theorem tabInfo_47_all : ∀ k x, tabInfo_47.get k = some x → (fun n x => Try.prog.info? n = some x ∧ ∀ z, x.zero = some z → flat z = true) (32 * k + 33) x := Tr.node_all (P := fun n x => Try.prog.info? n = some x ∧ ∀ z, x.zero = some z → flat z = true) (a := 32) (b := 33) (fun _ h => by cases h; exact ⟨info33, fun z h => by cases h <;> rfl⟩) tabInfo_48_all tabInfo_50_all
noncomputable def tabInfo_54 : Tr (TypeInfo) := Tr.node (some Try.t145) Tr.nil Tr.nil
theorem tabInfo_54_all : ∀ k x, tabInfo_54.get k = some x → (fun n x => Try.prog.info? n = some x ∧ ∀ z, x.zero = some z → flat z = true) (128 * k + 145) x := Tr.node_all (P := fun n x => Try.prog.info? n = some x ∧ ∀ z, x.zero = some z → flat z = true) (a := 128) (b := 145) (fun _ h => by cases h; exact ⟨info145, fun z h => by cases h <;> rfl⟩) (fun k x h => by rw [Tr.get_nil] at h; cases h) (fun k x h => by rw [Tr.get_nil] at h; cases h)
noncomputable def tabInfo_53 : Tr (TypeInfo) := Tr.node (some Try.t81) tabInfo_54 Tr.nil
theorem tabInfo_53_all : ∀ k x, tabInfo_53.get k = some x → (fun n x => Try.prog.info? n = some x ∧ ∀ z, x.zero = some z → flat z = true) (64 * k + 81) x := Tr.node_all (P := fun n x => Try.prog.info? n = some x ∧ ∀ z, x.zero = some z → flat z = true) (a := 64) (b := 81) (fun _ h => by cases h; exact ⟨info81, fun z h => by cases h <;> rfl⟩) tabInfo_54_all (fun k x h => by rw [Tr.get_nil] at h; cases h)
noncomputable def tabInfo_55 : Tr (TypeInfo) := Tr.node (some Try.t113) Tr.nil Tr.nil
theorem tabInfo_55_all : ∀ k x, tabInfo_55.get k = some x → (fun n x => Try.prog.info? n = some x ∧ ∀ z, x.zero = some z → flat z = true) (64 * k + 113) x := Tr.node_all (P := fun n x => Try.prog.info? n = some x ∧ ∀ z, x.zero = some z → flat z = true) (a := 64) (b := 113) (fun _ h => by cases h; exact ⟨info113, fun z h => by cases h <;> rfl⟩) (fun k x h => by rw [Tr.get_nil] at h; cases h) (fun k x h => by rw [Tr.get_nil] at h; cases h)
noncomputable def tabInfo_52 : Tr (TypeInfo) := Tr.node (some Try.t49) tabInfo_53 tabInfo_55
theorem tabInfo_52_all : ∀ k x, tabInfo_52.get k = some x → (fun n x => Try.prog.info? n = some x ∧ ∀ z, x.zero = some z → flat z = true) (32 * k + 49) x := Tr.node_all (P := fun n x => Try.prog.info? n = some x ∧ ∀ z, x.zero = some z → flat z = true) (a := 32) (b := 49) (fun _ h => by cases h; exact ⟨info49, fun z h => by cases h <;> rfl⟩) tabInfo_53_all tabInfo_55_all
noncomputable def tabInfo_46 : Tr (TypeInfo) := Tr.node (some Try.t17) tabInfo_47 tabInfo_52
theorem tabInfo_46_all : ∀ k x, tabInfo_46.get k = some x → (fun n x => Try.prog.info? n = some x ∧ ∀ z, x.zero = some z → flat z = true) (16 * k + 17) x := Tr.node_all (P := fun n x => Try.prog.info? n = some x ∧ ∀ z, x.zero = some z → flat z = true) (a := 16) (b := 17) (fun _ h => by cases h; exact ⟨info17, fun z h => by cases h <;> rfl⟩) tabInfo_47_all tabInfo_52_all
noncomputable def tabInfo_59 : Tr (TypeInfo) := Tr.node (some Try.t137) Tr.nil Tr.nil
theorem tabInfo_59_all : ∀ k x, tabInfo_59.get k = some x → (fun n x => Try.prog.info? n = some x ∧ ∀ z, x.zero = some z → flat z = true) (128 * k + 137) x := Tr.node_all (P := fun n x => Try.prog.info? n = some x ∧ ∀ z, x.zero = some z → flat z = true) (a := 128) (b := 137) (fun _ h => by cases h; exact ⟨info137, fun z h => by cases h <;> rfl⟩) (fun k x h => by rw [Tr.get_nil] at h; cases h) (fun k x h => by rw [Tr.get_nil] at h; cases h)
noncomputable def tabInfo_58 : Tr (TypeInfo) := Tr.node (some Try.t73) tabInfo_59 Tr.nil
theorem tabInfo_58_all : ∀ k x, tabInfo_58.get k = some x → (fun n x => Try.prog.info? n = some x ∧ ∀ z, x.zero = some z → flat z = true) (64 * k + 73) x := Tr.node_all (P := fun n x => Try.prog.info? n = some x ∧ ∀ z, x.zero = some z → flat z = true) (a := 64) (b := 73) (fun _ h => by cases h; exact ⟨info73, fun z h => by cases h <;> rfl⟩) tabInfo_59_all (fun k x h => by rw [Tr.get_nil] at h; cases h)
noncomputable def tabInfo_60 : Tr (TypeInfo) := Tr.node (some Try.t105) Tr.nil Tr.nil
theorem tabInfo_60_all : ∀ k x, tabInfo_60.get k = some x → (fun n x => Try.prog.info? n = some x ∧ ∀ z, x.zero = some z → flat z = true) (64 * k + 105) x := Tr.node_all (P := fun n x => Try.prog.info? n = some x ∧ ∀ z, x.zero = some z → flat z = true) (a := 64) (b := 105) (fun _ h => by cases h; exact ⟨info105, fun z h => by cases h <;> rfl⟩) (fun k x h => by rw [Tr.get_nil] at h; cases h) (fun k x h => by rw [Tr.get_nil] at h; cases h)
noncomputable def tabInfo_57 : Tr (TypeInfo) := Tr.node (some Try.t41) tabInfo_58 tabInfo_60
theorem tabInfo_57_all : ∀ k x, tabInfo_57.get k = some x → (fun n x => Try.prog.info? n = some x ∧ ∀ z, x.zero = some z → flat z = true) (32 * k + 41) x := Tr.node_all (P := fun n x => Try.prog.info? n = some x ∧ ∀ z, x.zero = some z → flat z = true) (a := 32) (b := 41) (fun _ h => by cases h; exact ⟨info41, fun z h => by cases h <;> rfl⟩) tabInfo_58_all tabInfo_60_all
noncomputable def tabInfo_63 : Tr (TypeInfo) := Tr.node (some Try.t153) Tr.nil Tr.nil
theorem tabInfo_63_all : ∀ k x, tabInfo_63.get k = some x → (fun n x => Try.prog.info? n = some x ∧ ∀ z, x.zero = some z → flat z = true) (128 * k + 153) x := Tr.node_all (P := fun n x => Try.prog.info? n = some x ∧ ∀ z, x.zero = some z → flat z = true) (a := 128) (b := 153) (fun _ h => by cases h; exact ⟨info153, fun z h => by cases h <;> rfl⟩) (fun k x h => by rw [Tr.get_nil] at h; cases h) (fun k x h => by rw [Tr.get_nil] at h; cases h)
noncomputable def tabInfo_62 : Tr (TypeInfo) := Tr.node (some Try.t89) tabInfo_63 Tr.nil
theorem tabInfo_62_all : ∀ k x, tabInfo_62.get k = some x → (fun n x => Try.prog.info? n = some x ∧ ∀ z, x.zero = some z → flat z = true) (64 * k + 89) x := Tr.node_all (P := fun n x => Try.prog.info? n = some x ∧ ∀ z, x.zero = some z → flat z = true) (a := 64) (b := 89) (fun _ h => by cases h; exact ⟨info89, fun z h => by cases h <;> rfl⟩) tabInfo_63_all (fun k x h => by rw [Tr.get_nil] at h; cases h)
noncomputable def tabInfo_64 : Tr (TypeInfo) := Tr.node (some Try.t121) Tr.nil Tr.nil
theorem tabInfo_64_all : ∀ k x, tabInfo_64.get k = some x → (fun n x => Try.prog.info? n = some x ∧ ∀ z, x.zero = some z → flat z = true) (64 * k + 121) x := Tr.node_all (P := fun n x => Try.prog.info? n = some x ∧ ∀ z, x.zero = some z → flat z = true) (a := 64) (b := 121) (fun _ h => by cases h; exact ⟨info121, fun z h => by cases h <;> rfl⟩) (fun k x h => by rw [Tr.get_nil] at h; cases h) (fun k x h => by rw [Tr.get_nil] at h; cases h)
noncomputable def tabInfo_61 : Tr (TypeInfo) := Tr.node (some Try.t57) tabInfo_62 tabInfo_64
theorem tabInfo_61_all : ∀ k x, tabInfo_61.get k = some x → (fun n x => Try.prog.info? n = some x ∧ ∀ z, x.zero = some z → flat z = true) (32 * k + 57) x := Tr.node_all (P := fun n x => Try.prog.info? n = some x ∧ ∀ z, x.zero = some z → flat z = true) (a := 32) (b := 57) (fun _ h => by cases h; exact ⟨info57, fun z h => by cases h <;> rfl⟩) tabInfo_62_all tabInfo_64_all
noncomputable def tabInfo_56 : Tr (TypeInfo) := Tr.node (some Try.t25) tabInfo_57 tabInfo_61
theorem tabInfo_56_all : ∀ k x, tabInfo_56.get k = some x → (fun n x => Try.prog.info? n = some x ∧ ∀ z, x.zero = some z → flat z = true) (16 * k + 25) x := Tr.node_all (P := fun n x => Try.prog.info? n = some x ∧ ∀ z, x.zero = some z → flat z = true) (a := 16) (b := 25) (fun _ h => by cases h; exact ⟨info25, fun z h => by cases h <;> rfl⟩) tabInfo_57_all tabInfo_61_all
noncomputable def tabInfo_45 : Tr (TypeInfo) := Tr.node (some Try.t9) tabInfo_46 tabInfo_56
theorem tabInfo_45_all : ∀ k x, tabInfo_45.get k = some x → (fun n x => Try.prog.info? n = some x ∧ ∀ z, x.zero = some z → flat z = true) (8 * k + 9) x := Tr.node_all (P := fun n x => Try.prog.info? n = some x ∧ ∀ z, x.zero = some z → flat z = true) (a := 8) (b := 9) (fun _ h => by cases h; exact ⟨info9, fun z h => by cases h <;> rfl⟩) tabInfo_46_all tabInfo_56_all
noncomputable def tabInfo_69 : Tr (TypeInfo) := Tr.node (some Try.t133) Tr.nil Tr.nil
theorem tabInfo_69_all : ∀ k x, tabInfo_69.get k = some x → (fun n x => Try.prog.info? n = some x ∧ ∀ z, x.zero = some z → flat z = true) (128 * k + 133) x := Tr.node_all (P := fun n x => Try.prog.info? n = some x ∧ ∀ z, x.zero = some z → flat z = true) (a := 128) (b := 133) (fun _ h => by cases h; exact ⟨info133, fun z h => by cases h <;> rfl⟩) (fun k x h => by rw [Tr.get_nil] at h; cases h) (fun k x h => by rw [Tr.get_nil] at h; cases h)
noncomputable def tabInfo_68 : Tr (TypeInfo) := Tr.node (some Try.t69) tabInfo_69 Tr.nil
theorem tabInfo_68_all : ∀ k x, tabInfo_68.get k = some x → (fun n x => Try.prog.info? n = some x ∧ ∀ z, x.zero = some z → flat z = true) (64 * k + 69) x := Tr.node_all (P := fun n x => Try.prog.info? n = some x ∧ ∀ z, x.zero = some z → flat z = true) (a := 64) (b := 69) (fun _ h => by cases h; exact ⟨info69, fun z h => by cases h <;> rfl⟩) tabInfo_69_all (fun k x h => by rw [Tr.get_nil] at h; cases h)
noncomputable def tabInfo_70 : Tr (TypeInfo) := Tr.node (some Try.t101) Tr.nil Tr.nil
theorem tabInfo_70_all : ∀ k x, tabInfo_70.get k = some x → (fun n x => Try.prog.info? n = some x ∧ ∀ z, x.zero = some z → flat z = true) (64 * k + 101) x := Tr.node_all (P := fun n x => Try.prog.info? n = some x ∧ ∀ z, x.zero = some z → flat z = true) (a := 64) (b := 101) (fun _ h => by cases h; exact ⟨info101, fun z h => by cases h <;> rfl⟩) (fun k x h => by rw [Tr.get_nil] at h; cases h) (fun k x h => by rw [Tr.get_nil] at h; cases h)
noncomputable def tabInfo_67 : Tr (TypeInfo) := Tr.node (some Try.t37) tabInfo_68 tabInfo_70
theorem tabInfo_67_all : ∀ k x, tabInfo_67.get k = some x → (fun n x => Try.prog.info? n = some x ∧ ∀ z, x.zero = some z → flat z = true) (32 * k + 37) x := Tr.node_all (P := fun n x => Try.prog.info? n = some x ∧ ∀ z, x.zero = some z → flat z = true) (a := 32) (b := 37) (fun _ h => by cases h; exact ⟨info37, fun z h => by cases h <;> rfl⟩) tabInfo_68_all tabInfo_70_all
noncomputable def tabInfo_73 : Tr (TypeInfo) := Tr.node (some Try.t149) Tr.nil Tr.nil
theorem tabInfo_73_all : ∀ k x, tabInfo_73.get k = some x → (fun n x => Try.prog.info? n = some x ∧ ∀ z, x.zero = some z → flat z = true) (128 * k + 149) x := Tr.node_all (P := fun n x => Try.prog.info? n = some x ∧ ∀ z, x.zero = some z → flat z = true) (a := 128) (b := 149) (fun _ h => by cases h; exact ⟨info149, fun z h => by cases h <;> rfl⟩) (fun k x h => by rw [Tr.get_nil] at h; cases h) (fun k x h => by rw [Tr.get_nil] at h; cases h)
noncomputable def tabInfo_72 : Tr (TypeInfo) := Tr.node (some Try.t85) tabInfo_73 Tr.nil
theorem tabInfo_72_all : ∀ k x, tabInfo_72.get k = some x → (fun n x => Try.prog.info? n = some x ∧ ∀ z, x.zero = some z → flat z = true) (64 * k + 85) x := Tr.node_all (P := fun n x => Try.prog.info? n = some x ∧ ∀ z, x.zero = some z → flat z = true) (a := 64) (b := 85) (fun _ h => by cases h; exact ⟨info85, fun z h => by cases h <;> rfl⟩) tabInfo_73_all (fun k x h => by rw [Tr.get_nil] at h; cases h)
noncomputable def tabInfo_74 : Tr (TypeInfo) := Tr.node (some Try.t117) Tr.nil Tr.nil
theorem tabInfo_74_all : ∀ k x, tabInfo_74.get k = some x → (fun n x => Try.prog.info? n = some x ∧ ∀ z, x.zero = some z → flat z = true) (64 * k + 117) x := Tr.node_all (P := fun n x => Try.prog.info? n = some x ∧ ∀ z, x.zero = some z → flat z = true) (a := 64) (b := 117) (fun _ h => by cases h; exact ⟨info117, fun z h => by cases h <;> rfl⟩) (fun k x h => by rw [Tr.get_nil] at h; cases h) (fun k x h => by rw [Tr.get_nil] at h; cases h)
noncomputable def tabInfo_71 : Tr (TypeInfo) := Tr.node (some Try.t53) tabInfo_72 tabInfo_74
theorem tabInfo_71_all : ∀ k x, tabInfo_71.get k = some x → (fun n x => Try.prog.info? n = some x ∧ ∀ z, x.zero = some z → flat z = true) (32 * k + 53) x := Tr.node_all (P := fun n x => Try.prog.info? n = some x ∧ ∀ z, x.zero = some z → flat z = true) (a := 32) (b := 53) (fun _ h => by cases h; exact ⟨info53, fun z h => by cases h <;> rfl⟩) tabInfo_72_all tabInfo_74_all
noncomputable def tabInfo_66 : Tr (TypeInfo) := Tr.node (some Try.t21) tabInfo_67 tabInfo_71
theorem tabInfo_66_all : ∀ k x, tabInfo_66.get k = some x → (fun n x => Try.prog.info? n = some x ∧ ∀ z, x.zero = some z → flat z = true) (16 * k + 21) x := Tr.node_all (P := fun n x => Try.prog.info? n = some x ∧ ∀ z, x.zero = some z → flat z = true) (a := 16) (b := 21) (fun _ h => by cases h; exact ⟨info21, fun z h => by cases h <;> rfl⟩) tabInfo_67_all tabInfo_71_all
noncomputable def tabInfo_78 : Tr (TypeInfo) := Tr.node (some Try.t141) Tr.nil Tr.nil
theorem tabInfo_78_all : ∀ k x, tabInfo_78.get k = some x → (fun n x => Try.prog.info? n = some x ∧ ∀ z, x.zero = some z → flat z = true) (128 * k + 141) x := Tr.node_all (P := fun n x => Try.prog.info? n = some x ∧ ∀ z, x.zero = some z → flat z = true) (a := 128) (b := 141) (fun _ h => by cases h; exact ⟨info141, fun z h => by cases h <;> rfl⟩) (fun k x h => by rw [Tr.get_nil] at h; cases h) (fun k x h => by rw [Tr.get_nil] at h; cases h)
noncomputable def tabInfo_77 : Tr (TypeInfo) := Tr.node (some Try.t77) tabInfo_78 Tr.nil
theorem tabInfo_77_all : ∀ k x, tabInfo_77.get k = some x → (fun n x => Try.prog.info? n = some x ∧ ∀ z, x.zero = some z → flat z = true) (64 * k + 77) x := Tr.node_all (P := fun n x => Try.prog.info? n = some x ∧ ∀ z, x.zero = some z → flat z = true) (a := 64) (b := 77) (fun _ h => by cases h; exact ⟨info77, fun z h => by cases h <;> rfl⟩) tabInfo_78_all (fun k x h => by rw [Tr.get_nil] at h; cases h)
noncomputable def tabInfo_79 : Tr (TypeInfo) := Tr.node (some Try.t109) Tr.nil Tr.nil
theorem tabInfo_79_all : ∀ k x, tabInfo_79.get k = some x → (fun n x => Try.prog.info? n = some x ∧ ∀ z, x.zero = some z → flat z = true) (64 * k + 109) x := Tr.node_all (P := fun n x => Try.prog.info? n = some x ∧ ∀ z, x.zero = some z → flat z = true) (a := 64) (b := 109) (fun _ h => by cases h; exact ⟨info109, fun z h => by cases h <;> rfl⟩) (fun k x h => by rw [Tr.get_nil] at h; cases h) (fun k x h => by rw [Tr.get_nil] at h; cases h)
noncomputable def tabInfo_76 : Tr (TypeInfo) := Tr.node (some Try.t45) tabInfo_77 tabInfo_79
theorem tabInfo_76_all : ∀ k x, tabInfo_76.get k = some x → (fun n x => Try.prog.info? n = some x ∧ ∀ z, x.zero = some z → flat z = true) (32 * k + 45) x := Tr.node_all (P := fun n x => Try.prog.info? n = some x ∧ ∀ z, x.zero = some z → flat z = true) (a := 32) (b := 45) (fun _ h => by cases h; exact ⟨info45, fun z h => by cases h <;> rfl⟩) tabInfo_77_all tabInfo_79_all
noncomputable def tabInfo_82 : Tr (TypeInfo) := Tr.node (some Try.t157) Tr.nil Tr.nil
theorem tabInfo_82_all : ∀ k x, tabInfo_82.get k = some x → (fun n x => Try.prog.info? n = some x ∧ ∀ z, x.zero = some z → flat z = true) (128 * k + 157) x := Tr.node_all (P := fun n x => Try.prog.info? n = some x ∧ ∀ z, x.zero = some z → flat z = true) (a := 128) (b := 157) (fun _ h => by cases h; exact ⟨info157, fun z h => by cases h <;> rfl⟩) (fun k x h => by rw [Tr.get_nil] at h; cases h) (fun k x h => by rw [Tr.get_nil] at h; cases h)
noncomputable def tabInfo_81 : Tr (TypeInfo) := Tr.node (some Try.t93) tabInfo_82 Tr.nil
theorem tabInfo_81_all : ∀ k x, tabInfo_81.get k = some x → (fun n x => Try.prog.info? n = some x ∧ ∀ z, x.zero = some z → flat z = true) (64 * k + 93) x := Tr.node_all (P := fun n x => Try.prog.info? n = some x ∧ ∀ z, x.zero = some z → flat z = true) (a := 64) (b := 93) (fun _ h => by cases h; exact ⟨info93, fun z h => by cases h <;> rfl⟩) tabInfo_82_all (fun k x h => by rw [Tr.get_nil] at h; cases h)
noncomputable def tabInfo_83 : Tr (TypeInfo) := Tr.node (some Try.t125) Tr.nil Tr.nil
theorem tabInfo_83_all : ∀ k x, tabInfo_83.get k = some x → (fun n x => Try.prog.info? n = some x ∧ ∀ z, x.zero = some z → flat z = true) (64 * k + 125) x := Tr.node_all (P := fun n x => Try.prog.info? n = some x ∧ ∀ z, x.zero = some z → flat z = true) (a := 64) (b := 125) (fun _ h => by cases h; exact ⟨info125, fun z h => by cases h <;> rfl⟩) (fun k x h => by rw [Tr.get_nil] at h; cases h) (fun k x h => by rw [Tr.get_nil] at h; cases h)
noncomputable def tabInfo_80 : Tr (TypeInfo) := Tr.node (some Try.t61) tabInfo_81 tabInfo_83
theorem tabInfo_80_all : ∀ k x, tabInfo_80.get k = some x → (fun n x => Try.prog.info? n = some x ∧ ∀ z, x.zero = some z → flat z = true) (32 * k + 61) x := Tr.node_all (P := fun n x => Try.prog.info? n = some x ∧ ∀ z, x.zero = some z → flat z = true) (a := 32) (b := 61) (fun _ h => by cases h; exact ⟨info61, fun z h => by cases h <;> rfl⟩) tabInfo_81_all tabInfo_83_all
noncomputable def tabInfo_75 : Tr (TypeInfo) := Tr.node (some Try.t29) tabInfo_76 tabInfo_80
theorem tabInfo_75_all : ∀ k x, tabInfo_75.get k = some x → (fun n x => Try.prog.info? n = some x ∧ ∀ z, x.zero = some z → flat z = true) (16 * k + 29) x := Tr.node_all (P := fun n x => Try.prog.info? n = some x ∧ ∀ z, x.zero = some z → flat z = true) (a := 16) (b := 29) (fun _ h => by cases h; exact ⟨info29, fun z h => by cases h <;> rfl⟩) tabInfo_76_all tabInfo_80_all
noncomputable def tabInfo_65 : Tr (TypeInfo) := Tr.node (some Try.t13) tabInfo_66 tabInfo_75
theorem tabInfo_65_all : ∀ k x, tabInfo_65.get k = some x → (fun n x => Try.prog.info? n = some x ∧ ∀ z, x.zero = some z → flat z = true) (8 * k + 13) x := Tr.node_all (P := fun n x => Try.prog.info? n = some x ∧ ∀ z, x.zero = some z → flat z = true) (a := 8) (b := 13) (fun _ h => by cases h; exact ⟨info13, fun z h => by cases h <;> rfl⟩) tabInfo_66_all tabInfo_75_all
noncomputable def tabInfo_44 : Tr (TypeInfo) := Tr.node (some Try.t5) tabInfo_45 tabInfo_65
theorem tabInfo_44_all : ∀ k x, tabInfo_44.get k = some x → (fun n x => Try.prog.info? n = some x ∧ ∀ z, x.zero = some z → flat z = true) (4 * k + 5) x := Tr.node_all (P := fun n x => Try.prog.info? n = some x ∧ ∀ z, x.zero = some z → flat z = true) (a := 4) (b := 5) (fun _ h => by cases h; exact ⟨info5, fun z h => by cases h <;> rfl⟩) tabInfo_45_all tabInfo_65_all
noncomputable def tabInfo_2 : Tr (TypeInfo) := Tr.node (some Try.t1) tabInfo_3 tabInfo_44
theorem tabInfo_2_all : ∀ k x, tabInfo_2.get k = some x → (fun n x => Try.prog.info? n = some x ∧ ∀ z, x.zero = some z → flat z = true) (2 * k + 1) x := Tr.node_all (P := fun n x => Try.prog.info? n = some x ∧ ∀ z, x.zero = some z → flat z = true) (a := 2) (b := 1) (fun _ h => by cases h; exact ⟨info1, fun z h => by cases h <;> rfl⟩) tabInfo_3_all tabInfo_44_all
noncomputable def tabInfo_90 : Tr (TypeInfo) := Tr.node (some Try.t128) Tr.nil Tr.nil
theorem tabInfo_90_all : ∀ k x, tabInfo_90.get k = some x → (fun n x => Try.prog.info? n = some x ∧ ∀ z, x.zero = some z → flat z = true) (128 * k + 128) x := Tr.node_all (P := fun n x => Try.prog.info? n = some x ∧ ∀ z, x.zero = some z → flat z = true) (a := 128) (b := 128) (fun _ h => by cases h; exact ⟨info128, fun z h => by cases h <;> rfl⟩) (fun k x h => by rw [Tr.get_nil] at h; cases h) (fun k x h => by rw [Tr.get_nil] at h; cases h)
noncomputable def tabInfo_89 : Tr (TypeInfo) := Tr.node (some Try.t64) tabInfo_90 Tr.nil
theorem tabInfo_89_all : ∀ k x, tabInfo_89.get k = some x → (fun n x => Try.prog.info? n = some x ∧ ∀ z, x.zero = some z → flat z = true) (64 * k + 64) x := Tr.node_all (P := fun n x => Try.prog.info? n = some x ∧ ∀ z, x.zero = some z → flat z = true) (a := 64) (b := 64) (fun _ h => by cases h; exact ⟨info64, fun z h => by cases h <;> rfl⟩) tabInfo_90_all (fun k x h => by rw [Tr.get_nil] at h; cases h)
noncomputable def tabInfo_92 : Tr (TypeInfo) := Tr.node (some Try.t160) Tr.nil Tr.nil
theorem tabInfo_92_all : ∀ k x, tabInfo_92.get k = some x → (fun n x => Try.prog.info? n = some x ∧ ∀ z, x.zero = some z → flat z = true) (128 * k + 160) x := Tr.node_all (P := fun n x => Try.prog.info? n = some x ∧ ∀ z, x.zero = some z → flat z = true) (a := 128) (b := 160) (fun _ h => by cases h; exact ⟨info160, fun z h => by cases h <;> rfl⟩) (fun k x h => by rw [Tr.get_nil] at h; cases h) (fun k x h => by rw [Tr.get_nil] at h; cases h)
noncomputable def tabInfo_91 : Tr (TypeInfo) := Tr.node none tabInfo_92 Tr.nil
theorem tabInfo_91_all : ∀ k x, tabInfo_91.get k = some x → (fun n x => Try.prog.info? n = some x ∧ ∀ z, x.zero = some z → flat z = true) (64 * k + 96) x := Tr.node_all (P := fun n x => Try.prog.info? n = some x ∧ ∀ z, x.zero = some z → flat z = true) (a := 64) (b := 96) (fun _ h => by cases h) tabInfo_92_all (fun k x h => by rw [Tr.get_nil] at h; cases h)
noncomputable def tabInfo_88 : Tr (TypeInfo) := Tr.node (some Try.t32) tabInfo_89 tabInfo_91
theorem tabInfo_88_all : ∀ k x, tabInfo_88.get k = some x → (fun n x => Try.prog.info? n = some x ∧ ∀ z, x.zero = some z → flat z = true) (32 * k + 32) x := Tr.node_all (P := fun n x => Try.prog.info? n = some x ∧ ∀ z, x.zero = some z → flat z = true) (a := 32) (b := 32) (fun _ h => by cases h; exact ⟨info32, fun z h => by cases h <;> rfl⟩) tabInfo_89_all tabInfo_91_all
noncomputable def tabInfo_95 : Tr (TypeInfo) := Tr.node (some Try.t144) Tr.nil Tr.nil
theorem tabInfo_95_all : ∀ k x, tabInfo_95.get k = some x → (fun n x => Try.prog.info? n = some x ∧ ∀ z, x.zero = some z → flat z = true) (128 * k + 144) x := Tr.node_all (P := fun n x => Try.prog.info? n = some x ∧ ∀ z, x.zero = some z → flat z = true) (a := 128) (b := 144) (fun _ h => by cases h; exact ⟨info144, fun z h => by cases h <;> rfl⟩) (fun k x h => by rw [Tr.get_nil] at h; cases h) (fun k x h => by rw [Tr.get_nil] at h; cases h)
noncomputable def tabInfo_94 : Tr (TypeInfo) := Tr.node (some Try.t80) tabInfo_95 Tr.nil
theorem tabInfo_94_all : ∀ k x, tabInfo_94.get k = some x → (fun n x => Try.prog.info? n = some x ∧ ∀ z, x.zero = some z → flat z = true) (64 * k + 80) x := Tr.node_all (P := fun n x => Try.prog.info? n = some x ∧ ∀ z, x.zero = some z → flat z = true) (a := 64) (b := 80) (fun _ h => by cases h; exact ⟨info80, fun z h => by cases h <;> rfl⟩) tabInfo_95_all (fun k x h => by rw [Tr.get_nil] at h; cases h)
noncomputable def tabInfo_96 : Tr (TypeInfo) := Tr.node (some Try.t112) Tr.nil Tr.nil
theorem tabInfo_96_all : ∀ k x, tabInfo_96.get k = some x → (fun n x => Try.prog.info? n = some x ∧ ∀ z, x.zero = some z → flat z = true) (64 * k + 112) x := Tr.node_all (P := fun n x => Try.prog.info? n = some x ∧ ∀ z, x.zero = some z → flat z = true) (a := 64) (b := 112) (fun _ h => by cases h; exact ⟨info112, fun z h => by cases h <;> rfl⟩) (fun k x h => by rw [Tr.get_nil] at h; cases h) (fun k x h => by rw [Tr.get_nil] at h; cases h)
noncomputable def tabInfo_93 : Tr (TypeInfo) := Tr.node (some Try.t48) tabInfo_94 tabInfo_96
theorem tabInfo_93_all : ∀ k x, tabInfo_93.get k = some x → (fun n x => Try.prog.info? n = some x ∧ ∀ z, x.zero = some z → flat z = true) (32 * k + 48) x := Tr.node_all (P := fun n x => Try.prog.info? n = some x ∧ ∀ z, x.zero = some z → flat z = true) (a := 32) (b := 48) (fun _ h => by cases h; exact ⟨info48, fun z h => by cases h <;> rfl⟩) tabInfo_94_all tabInfo_96_all
noncomputable def tabInfo_87 : Tr (TypeInfo) := Tr.node (some Try.t16) tabInfo_88 tabInfo_93
theorem tabInfo_87_all : ∀ k x, tabInfo_87.get k = some x → (fun n x => Try.prog.info? n = some x ∧ ∀ z, x.zero = some z → flat z = true) (16 * k + 16) x := Tr.node_all (P := fun n x => Try.prog.info? n = some x ∧ ∀ z, x.zero = some z → flat z = true) (a := 16) (b := 16) (fun _ h => by cases h; exact ⟨info16, fun z h => by cases h <;> rfl⟩) tabInfo_88_all tabInfo_93_all
noncomputable def tabInfo_100 : Tr (TypeInfo) := Tr.node (some Try.t136) Tr.nil Tr.nil
theorem tabInfo_100_all : ∀ k x, tabInfo_100.get k = some x → (fun n x => Try.prog.info? n = some x ∧ ∀ z, x.zero = some z → flat z = true) (128 * k + 136) x := Tr.node_all (P := fun n x => Try.prog.info? n = some x ∧ ∀ z, x.zero = some z → flat z = true) (a := 128) (b := 136) (fun _ h => by cases h; exact ⟨info136, fun z h => by cases h <;> rfl⟩) (fun k x h => by rw [Tr.get_nil] at h; cases h) (fun k x h => by rw [Tr.get_nil] at h; cases h)
noncomputable def tabInfo_99 : Tr (TypeInfo) := Tr.node (some Try.t72) tabInfo_100 Tr.nil
theorem tabInfo_99_all : ∀ k x, tabInfo_99.get k = some x → (fun n x => Try.prog.info? n = some x ∧ ∀ z, x.zero = some z → flat z = true) (64 * k + 72) x := Tr.node_all (P := fun n x => Try.prog.info? n = some x ∧ ∀ z, x.zero = some z → flat z = true) (a := 64) (b := 72) (fun _ h => by cases h; exact ⟨info72, fun z h => by cases h <;> rfl⟩) tabInfo_100_all (fun k x h => by rw [Tr.get_nil] at h; cases h)
noncomputable def tabInfo_101 : Tr (TypeInfo) := Tr.node (some Try.t104) Tr.nil Tr.nil
theorem tabInfo_101_all : ∀ k x, tabInfo_101.get k = some x → (fun n x => Try.prog.info? n = some x ∧ ∀ z, x.zero = some z → flat z = true) (64 * k + 104) x := Tr.node_all (P := fun n x => Try.prog.info? n = some x ∧ ∀ z, x.zero = some z → flat z = true) (a := 64) (b := 104) (fun _ h => by cases h; exact ⟨info104, fun z h => by cases h <;> rfl⟩) (fun k x h => by rw [Tr.get_nil] at h; cases h) (fun k x h => by rw [Tr.get_nil] at h; cases h)
noncomputable def tabInfo_98 : Tr (TypeInfo) := Tr.node (some Try.t40) tabInfo_99 tabInfo_101
theorem tabInfo_98_all : ∀ k x, tabInfo_98.get k = some x → (fun n x => Try.prog.info? n = some x ∧ ∀ z, x.zero = some z → flat z = true) (32 * k + 40) x := Tr.node_all (P := fun n x => Try.prog.info? n = some x ∧ ∀ z, x.zero = some z → flat z = true) (a := 32) (b := 40) (fun _ h => by cases h; exact ⟨info40, fun z h => by cases h <;> rfl⟩) tabInfo_99_all tabInfo_101_all
noncomputable def tabInfo_104 : Tr (TypeInfo) := Tr.node (some Try.t152) Tr.nil Tr.nil
theorem tabInfo_104_all : ∀ k x, tabInfo_104.get k = some x → (fun n x => Try.prog.info? n = some x ∧ ∀ z, x.zero = some z → flat z = true) (128 * k + 152) x := Tr.node_all (P := fun n x => Try.prog.info? n = some x ∧ ∀ z, x.zero = some z → flat z = true) (a := 128) (b := 152) (fun _ h => by cases h; exact ⟨info152, fun z h => by cases h <;> rfl⟩) (fun k x h => by rw [Tr.get_nil] at h; cases h) (fun k x h => by rw [Tr.get_nil] at h; cases h)
noncomputable def tabInfo_103 : Tr (TypeInfo) := Tr.node (some Try.t88) tabInfo_104 Tr.nil
theorem tabInfo_103_all : ∀ k x, tabInfo_103.get k = some x → (fun n x => Try.prog.info? n = some x ∧ ∀ z, x.zero = some z → flat z = true) (64 * k + 88) x := Tr.node_all (P := fun n x => Try.prog.info? n = some x ∧ ∀ z, x.zero = some z → flat z = true) (a := 64) (b := 88) (fun _ h => by cases h; exact ⟨info88, fun z h => by cases h <;> rfl⟩) tabInfo_104_all (fun k x h => by rw [Tr.get_nil] at h; cases h)
noncomputable def tabInfo_105 : Tr (TypeInfo) := Tr.node (some Try.t120) Tr.nil Tr.nil
theorem tabInfo_105_all : ∀ k x, tabInfo_105.get k = some x → (fun n x => Try.prog.info? n = some x ∧ ∀ z, x.zero = some z → flat z = true) (64 * k + 120) x := Tr.node_all (P := fun n x => Try.prog.info? n = some x ∧ ∀ z, x.zero = some z → flat z = true) (a := 64) (b := 120) (fun _ h => by cases h; exact ⟨info120, fun z h => by cases h <;> rfl⟩) (fun k x h => by rw [Tr.get_nil] at h; cases h) (fun k x h => by rw [Tr.get_nil] at h; cases h)
noncomputable def tabInfo_102 : Tr (TypeInfo) := Tr.node (some Try.t56) tabInfo_103 tabInfo_105
theorem tabInfo_102_all : ∀ k x, tabInfo_102.get k = some x → (fun n x => Try.prog.info? n = some x ∧ ∀ z, x.zero = some z → flat z = true) (32 * k + 56) x := Tr.node_all (P := fun n x => Try.prog.info? n = some x ∧ ∀ z, x.zero = some z → flat z = true) (a := 32) (b := 56) (fun _ h => by cases h; exact ⟨info56, fun z h => by cases h <;> rfl⟩) tabInfo_103_all tabInfo_105_all
noncomputable def tabInfo_97 : Tr (TypeInfo) := Tr.node (some Try.t24) tabInfo_98 tabInfo_102
theorem tabInfo_97_all : ∀ k x, tabInfo_97.get k = some x → (fun n x => Try.prog.info? n = some x ∧ ∀ z, x.zero = some z → flat z = true) (16 * k + 24) x := Tr.node_all (P := fun n x => Try.prog.info? n = some x ∧ ∀ z, x.zero = some z → flat z = true) (a := 16) (b := 24) (fun _ h => by cases h; exact ⟨info24, fun z h => by cases h <;> rfl⟩) tabInfo_98_all tabInfo_102_all
noncomputable def tabInfo_86 : Tr (TypeInfo) := Tr.node (some Try.t8) tabInfo_87 tabInfo_97
theorem tabInfo_86_all : ∀ k x, tabInfo_86.get k = some x → (fun n x => Try.prog.info? n = some x ∧ ∀ z, x.zero = some z → flat z = true) (8 * k + 8) x := Tr.node_all (P := fun n x => Try.prog.info? n = some x ∧ ∀ z, x.zero = some z → flat z = true) (a := 8) (b := 8) (fun _ h => by cases h; exact ⟨info8, fun z h => by cases h <;> rfl⟩) tabInfo_87_all tabInfo_97_all
noncomputable def tabInfo_110 : Tr (TypeInfo) := Tr.node (some Try.t132) Tr.nil Tr.nil
theorem tabInfo_110_all : ∀ k x, tabInfo_110.get k = some x → (fun n x => Try.prog.info? n = some x ∧ ∀ z, x.zero = some z → flat z = true) (128 * k + 132) x := Tr.node_all (P := fun n x => Try.prog.info? n = some x ∧ ∀ z, x.zero = some z → flat z = true) (a := 128) (b := 132) (fun _ h => by cases h; exact ⟨info132, fun z h => by cases h <;> rfl⟩) (fun k x h => by rw [Tr.get_nil] at h; cases h) (fun k x h => by rw [Tr.get_nil] at h; cases h)
noncomputable def tabInfo_109 : Tr (TypeInfo) := Tr.node (some Try.t68) tabInfo_110 Tr.nil
theorem tabInfo_109_all : ∀ k x, tabInfo_109.get k = some x → (fun n x => Try.prog.info? n = some x ∧ ∀ z, x.zero = some z → flat z = true) (64 * k + 68) x := Tr.node_all (P := fun n x => Try.prog.info? n = some x ∧ ∀ z, x.zero = some z → flat z = true) (a := 64) (b := 68) (fun _ h => by cases h; exact ⟨info68, fun z h => by cases h <;> rfl⟩) tabInfo_110_all (fun k x h => by rw [Tr.get_nil] at h; cases h)
noncomputable def tabInfo_112 : Tr (TypeInfo) := Tr.node (some Try.t164) Tr.nil Tr.nil
theorem tabInfo_112_all : ∀ k x, tabInfo_112.get k = some x → (fun n x => Try.prog.info? n = some x ∧ ∀ z, x.zero = some z → flat z = true) (128 * k + 164) x := Tr.node_all (P := fun n x => Try.prog.info? n = some x ∧ ∀ z, x.zero = some z → flat z = true) (a := 128) (b := 164) (fun _ h => by cases h; exact ⟨info164, fun z h => by cases h <;> rfl⟩) (fun k x h => by rw [Tr.get_nil] at h; cases h) (fun k x h => by rw [Tr.get_nil] at h; cases h)
noncomputable def tabInfo_111 : Tr (TypeInfo) := Tr.node (some Try.t100) tabInfo_112 Tr.nil
theorem tabInfo_111_all : ∀ k x, tabInfo_111.get k = some x → (fun n x => Try.prog.info? n = some x ∧ ∀ z, x.zero = some z → flat z = true) (64 * k + 100) x := Tr.node_all (P := fun n x => Try.prog.info? n = some x ∧ ∀ z, x.zero = some z → flat z = true) (a := 64) (b := 100) (fun _ h => by cases h; exact ⟨info100, fun z h => by cases h <;> rfl⟩) tabInfo_112_all (fun k x h => by rw [Tr.get_nil] at h; cases h)
noncomputable def tabInfo_108 : Tr (TypeInfo) := Tr.node (some Try.t36) tabInfo_109 tabInfo_111
theorem tabInfo_108_all : ∀ k x, tabInfo_108.get k = some x → (fun n x => Try.prog.info? n = some x ∧ ∀ z, x.zero = some z → flat z = true) (32 * k + 36) x := Tr.node_all (P := fun n x => Try.prog.info? n = some x ∧ ∀ z, x.zero = some z → flat z = true) (a := 32) (b := 36) (fun _ h => by cases h; exact ⟨info36, fun z h => by cases h <;> rfl⟩) tabInfo_109_all tabInfo_111_all
noncomputable def tabInfo_115 : Tr (TypeInfo) := Tr.node (some Try.t148) Tr.nil Tr.nil
theorem tabInfo_115_all : ∀ k x, tabInfo_115.get k = some x → (fun n x => Try.prog.info? n = some x ∧ ∀ z, x.zero = some z → flat z = true) (128 * k + 148) x := Tr.node_all (P := fun n x => Try.prog.info? n = some x ∧ ∀ z, x.zero = some z → flat z = true) (a := 128) (b := 148) (fun _ h => by cases h; exact ⟨info148, fun z h => by cases h <;> rfl⟩) (fun k x h => by rw [Tr.get_nil] at h; cases h) (fun k x h => by rw [Tr.get_nil] at h; cases h)
noncomputable def tabInfo_114 : Tr (TypeInfo) := Tr.node (some Try.t84) tabInfo_115 Tr.nil
theorem tabInfo_114_all : ∀ k x, tabInfo_114.get k = some x → (fun n x => Try.prog.info? n = some x ∧ ∀ z, x.zero = some z → flat z = true) (64 * k + 84) x := Tr.node_all (P := fun n x => Try.prog.info? n = some x ∧ ∀ z, x.zero = some z → flat z = true) (a := 64) (b := 84) (fun _ h => by cases h; exact ⟨info84, fun z h => by cases h <;> rfl⟩) tabInfo_115_all (fun k x h => by rw [Tr.get_nil] at h; cases h)
noncomputable def tabInfo_116 : Tr (TypeInfo) := Tr.node (some Try.t116) Tr.nil Tr.nil
theorem tabInfo_116_all : ∀ k x, tabInfo_116.get k = some x → (fun n x => Try.prog.info? n = some x ∧ ∀ z, x.zero = some z → flat z = true) (64 * k + 116) x := Tr.node_all (P := fun n x => Try.prog.info? n = some x ∧ ∀ z, x.zero = some z → flat z = true) (a := 64) (b := 116) (fun _ h => by cases h; exact ⟨info116, fun z h => by cases h <;> rfl⟩) (fun k x h => by rw [Tr.get_nil] at h; cases h) (fun k x h => by rw [Tr.get_nil] at h; cases h)
noncomputable def tabInfo_113 : Tr (TypeInfo) := Tr.node (some Try.t52) tabInfo_114 tabInfo_116
theorem tabInfo_113_all : ∀ k x, tabInfo_113.get k = some x → (fun n x => Try.prog.info? n = some x ∧ ∀ z, x.zero = some z → flat z = true) (32 * k + 52) x := Tr.node_all (P := fun n x => Try.prog.info? n = some x ∧ ∀ z, x.zero = some z → flat z = true) (a := 32) (b := 52) (fun _ h => by cases h; exact ⟨info52, fun z h => by cases h <;> rfl⟩) tabInfo_114_all tabInfo_116_all
noncomputable def tabInfo_107 : Tr (TypeInfo) := Tr.node (some Try.t20) tabInfo_108 tabInfo_113
theorem tabInfo_107_all : ∀ k x, tabInfo_107.get k = some x → (fun n x => Try.prog.info? n = some x ∧ ∀ z, x.zero = some z → flat z = true) (16 * k + 20) x := Tr.node_all (P := fun n x => Try.prog.info? n = some x ∧ ∀ z, x.zero = some z → flat z = true) (a := 16) (b := 20) (fun _ h => by cases h; exact ⟨info20, fun z h => by cases h <;> rfl⟩) tabInfo_108_all tabInfo_113_all
noncomputable def tabInfo_120 : Tr (TypeInfo) := Tr.node (some Try.t140) Tr.nil Tr.nil
theorem tabInfo_120_all : ∀ k x, tabInfo_120.get k = some x → (fun n x => Try.prog.info? n = some x ∧ ∀ z, x.zero = some z → flat z = true) (128 * k + 140) x := Tr.node_all (P := fun n x => Try.prog.info? n = some x ∧ ∀ z, x.zero = some z → flat z = true) (a := 128) (b := 140) (fun _ h => by cases h; exact ⟨info140, fun z h => by cases h <;> rfl⟩) (fun k x h => by rw [Tr.get_nil] at h; cases h) (fun k x h => by rw [Tr.get_nil] at h; cases h)
noncomputable def tabInfo_119 : Tr (TypeInfo) := Tr.node (some Try.t76) tabInfo_120 Tr.nil
theorem tabInfo_119_all : ∀ k x, tabInfo_119.get k = some x → (fun n x => Try.prog.info? n = some x ∧ ∀ z, x.zero = some z → flat z = true) (64 * k + 76) x := Tr.node_all (P := fun n x => Try.prog.info? n = some x ∧ ∀ z, x.zero = some z → flat z = true) (a := 64) (b := 76) (fun _ h => by cases h; exact ⟨info76, fun z h => by cases h <;> rfl⟩) tabInfo_120_all (fun k x h => by rw [Tr.get_nil] at h; cases h)
noncomputable def tabInfo_121 : Tr (TypeInfo) := Tr.node (some Try.t108) Tr.nil Tr.nil
theorem tabInfo_121_all : ∀ k x, tabInfo_121.get k = some x → (fun n x => Try.prog.info? n = some x ∧ ∀ z, x.zero = some z → flat z = true) (64 * k + 108) x := Tr.node_all (P := fun n x => Try.prog.info? n = some x ∧ ∀ z, x.zero = some z → flat z = true) (a := 64) (b := 108) (fun _ h => by cases h; exact ⟨info108, fun z h => by cases h <;> rfl⟩) (fun k x h => by rw [Tr.get_nil] at h; cases h) (fun k x h => by rw [Tr.get_nil] at h; cases h)
noncomputable def tabInfo_118 : Tr (TypeInfo) := Tr.node (some Try.t44) tabInfo_119 tabInfo_121
theorem tabInfo_118_all : ∀ k x, tabInfo_118.get k = some x → (fun n x => Try.prog.info? n = some x ∧ ∀ z, x.zero = some z → flat z = true) (32 * k + 44) x := Tr.node_all (P := fun n x => Try.prog.info? n = some x ∧ ∀ z, x.zero = some z → flat z = true) (a := 32) (b := 44) (fun _ h => by cases h; exact ⟨info44, fun z h => by cases h <;> rfl⟩) tabInfo_119_all tabInfo_121_all
noncomputable def tabInfo_124 : Tr (TypeInfo) := Tr.node (some Try.t156) Tr.nil Tr.nil
theorem tabInfo_124_all : ∀ k x, tabInfo_124.get k = some x → (fun n x => Try.prog.info? n = some x ∧ ∀ z, x.zero = some z → flat z = true) (128 * k + 156) x := Tr.node_all (P := fun n x => Try.prog.info? n = some x ∧ ∀ z, x.zero = some z → flat z = true) (a := 128) (b := 156) (fun _ h => by cases h; exact ⟨info156, fun z h => by cases h <;> rfl⟩) (fun k x h => by rw [Tr.get_nil] at h; cases h) (fun k x h => by rw [Tr.get_nil] at h; cases h)
noncomputable def tabInfo_123 : Tr (TypeInfo) := Tr.node (some Try.t92) tabInfo_124 Tr.nil
theorem tabInfo_123_all : ∀ k x, tabInfo_123.get k = some x → (fun n x => Try.prog.info? n = some x ∧ ∀ z, x.zero = some z → flat z = true) (64 * k + 92) x := Tr.node_all (P := fun n x => Try.prog.info? n = some x ∧ ∀ z, x.zero = some z → flat z = true) (a := 64) (b := 92) (fun _ h => by cases h; exact ⟨info92, fun z h => by cases h <;> rfl⟩) tabInfo_124_all (fun k x h => by rw [Tr.get_nil] at h; cases h)
noncomputable def tabInfo_125 : Tr (TypeInfo) := Tr.node (some Try.t124) Tr.nil Tr.nil
theorem tabInfo_125_all : ∀ k x, tabInfo_125.get k = some x → (fun n x => Try.prog.info? n = some x ∧ ∀ z, x.zero = some z → flat z = true) (64 * k + 124) x := Tr.node_all (P := fun n x => Try.prog.info? n = some x ∧ ∀ z, x.zero = some z → flat z = true) (a := 64) (b := 124) (fun _ h => by cases h; exact ⟨info124, fun z h => by cases h <;> rfl⟩) (fun k x h => by rw [Tr.get_nil] at h; cases h) (fun k x h => by rw [Tr.get_nil] at h; cases h)
noncomputable def tabInfo_122 : Tr (TypeInfo) := Tr.node (some Try.t60) tabInfo_123 tabInfo_125
theorem tabInfo_122_all : ∀ k x, tabInfo_122.get k = some x → (fun n x => Try.prog.info? n = some x ∧ ∀ z, x.zero = some z → flat z = true) (32 * k + 60) x := Tr.node_all (P := fun n x => Try.prog.info? n = some x ∧ ∀ z, x.zero = some z → flat z = true) (a := 32) (b := 60) (fun _ h => by cases h; exact ⟨info60, fun z h => by cases h <;> rfl⟩) tabInfo_123_all tabInfo_125_all
noncomputable def tabInfo_117 : Tr (TypeInfo) := Tr.node (some Try.t28) tabInfo_118 tabInfo_122
theorem tabInfo_117_all : ∀ k x, tabInfo_117.get k = some x → (fun n x => Try.prog.info? n = some x ∧ ∀ z, x.zero = some z → flat z = true) (16 * k + 28) x := Tr.node_all (P := fun n x => Try.prog.info? n = some x ∧ ∀ z, x.zero = some z → flat z = true) (a := 16) (b := 28) (fun _ h => by cases h; exact ⟨info28, fun z h => by cases h <;> rfl⟩) tabInfo_118_all tabInfo_122_all
noncomputable def tabInfo_106 : Tr (TypeInfo) := Tr.node (some Try.t12) tabInfo_107 tabInfo_117
theorem tabInfo_106_all : ∀ k x, tabInfo_106.get k = some x → (fun n x => Try.prog.info? n = some x ∧ ∀ z, x.zero = some z → flat z = true) (8 * k + 12) x := Tr.node_all (P := fun n x => Try.prog.info? n = some x ∧ ∀ z, x.zero = some z → flat z = true) (a := 8) (b := 12) (fun _ h => by cases h; exact ⟨info12, fun z h => by cases h <;> rfl⟩) tabInfo_107_all tabInfo_117_all
noncomputable def tabInfo_85 : Tr (TypeInfo) := Tr.node (some Try.t4) tabInfo_86 tabInfo_106
theorem tabInfo_85_all : ∀ k x, tabInfo_85.get k = some x → (fun n x => Try.prog.info? n = some x ∧ ∀ z, x.zero = some z → flat z = true) (4 * k + 4) x := Tr.node_all (P := fun n x => Try.prog.info? n = some x ∧ ∀ z, x.zero = some z → flat z = true) (a := 4) (b := 4) (fun _ h => by cases h; exact ⟨info4, fun z h => by cases h <;> rfl⟩) tabInfo_86_all tabInfo_106_all
noncomputable def tabInfo_131 : Tr (TypeInfo) := Tr.node (some Try.t130) Tr.nil Tr.nil
theorem tabInfo_131_all : ∀ k x, tabInfo_131.get k = some x → (fun n x => Try.prog.info? n = some x ∧ ∀ z, x.zero = some z → flat z = true) (128 * k + 130) x := Tr.node_all (P := fun n x => Try.prog.info? n = some x ∧ ∀ z, x.zero = some z → flat z = true) (a := 128) (b := 130) (fun _ h => by cases h; exact ⟨info130, fun z h => by cases h <;> rfl⟩) (fun k x h => by rw [Tr.get_nil] at h; cases h) (fun k x h => by rw [Tr.get_nil] at h; cases h)
noncomputable def tabInfo_130 : Tr (TypeInfo) := Tr.node (some Try.t66) tabInfo_131 Tr.nil
theorem tabInfo_130_all : ∀ k x, tabInfo_130.get k = some x → (fun n x => Try.prog.info? n = some x ∧ ∀ z, x.zero = some z → flat z = true) (64 * k + 66) x := Tr.node_all (P := fun n x => Try.prog.info? n = some x ∧ ∀ z, x.zero = some z → flat z = true) (a := 64) (b := 66) (fun _ h => by cases h; exact ⟨info66, fun z h => by cases h <;> rfl⟩) tabInfo_131_all (fun k x h => by rw [Tr.get_nil] at h; cases h)
noncomputable def tabInfo_133 : Tr (TypeInfo) := Tr.node (some Try.t162) Tr.nil Tr.nil
theorem tabInfo_133_all : ∀ k x, tabInfo_133.get k = some x → (fun n x => Try.prog.info? n = some x ∧ ∀ z, x.zero = some z → flat z = true) (128 * k + 162) x := Tr.node_all (P := fun n x => Try.prog.info? n = some x ∧ ∀ z, x.zero = some z → flat z = true) (a := 128) (b := 162) (fun _ h => by cases h; exact ⟨info162, fun z h => by cases h <;> rfl⟩) (fun k x h => by rw [Tr.get_nil] at h; cases h) (fun k x h => by rw [Tr.get_nil] at h; cases h)
noncomputable def tabInfo_132 : Tr (TypeInfo) := Tr.node (some Try.t98) tabInfo_133 Tr.nil
theorem tabInfo_132_all : ∀ k x, tabInfo_132.get k = some x → (fun n x => Try.prog.info? n = some x ∧ ∀ z, x.zero = some z → flat z = true) (64 * k + 98) x := Tr.node_all (P := fun n x => Try.prog.info? n = some x ∧ ∀ z, x.zero = some z → flat z = true) (a := 64) (b := 98) (fun _ h => by cases h; exact ⟨info98, fun z h => by cases h <;> rfl⟩) tabInfo_133_all (fun k x h => by rw [Tr.get_nil] at h; cases h)
noncomputable def tabInfo_129 : Tr (TypeInfo) := Tr.node (some Try.t34) tabInfo_130 tabInfo_132
theorem tabInfo_129_all : ∀ k x, tabInfo_129.get k = some x → (fun n x => Try.prog.info? n = some x ∧ ∀ z, x.zero = some z → flat z = true) (32 * k + 34) x := Tr.node_all (P := fun n x => Try.prog.info? n = some x ∧ ∀ z, x.zero = some z → flat z = true) (a := 32) (b := 34) (fun _ h => by cases h; exact ⟨info34, fun z h => by cases h <;> rfl⟩) tabInfo_130_all tabInfo_132_all
noncomputable def tabInfo_136 : Tr (TypeInfo) := Tr.node (some Try.t146) Tr.nil Tr.nil
theorem tabInfo_136_all : ∀ k x, tabInfo_136.get k = some x → (fun n x => Try.prog.info? n = some x ∧ ∀ z, x.zero = some z → flat z = true) (128 * k + 146) x := Tr.node_all (P := fun n x => Try.prog.info? n = some x ∧ ∀ z, x.zero = some z → flat z = true) (a := 128) (b := 146) (fun _ h => by cases h; exact ⟨info146, fun z h => by cases h <;> rfl⟩) (fun k x h => by rw [Tr.get_nil] at h; cases h) (fun k x h => by rw [Tr.get_nil] at h; cases h)
noncomputable def tabInfo_135 : Tr (TypeInfo) := Tr.node (some Try.t82) tabInfo_136 Tr.nil
theorem tabInfo_135_all : ∀ k x, tabInfo_135.get k = some x → (fun n x => Try.prog.info? n = some x ∧ ∀ z, x.zero = some z → flat z = true) (64 * k + 82) x := Tr.node_all (P := fun n x => Try.prog.info? n = some x ∧ ∀ z, x.zero = some z → flat z = true) (a := 64) (b := 82) (fun _ h => by cases h; exact ⟨info82, fun z h => by cases h <;> rfl⟩) tabInfo_136_all (fun k x h => by rw [Tr.get_nil] at h; cases h)
noncomputable def tabInfo_137 : Tr (TypeInfo) := Tr.node (some Try.t114) Tr.nil Tr.nil
theorem tabInfo_137_all : ∀ k x, tabInfo_137.get k = some x → (fun n x => Try.prog.info? n = some x ∧ ∀ z, x.zero = some z → flat z = true) (64 * k + 114) x := Tr.node_all (P := fun n x => Try.prog.info? n = some x ∧ ∀ z, x.zero = some z → flat z = true) (a := 64) (b := 114) (fun _ h => by cases h; exact ⟨info114, fun z h => by cases h <;> rfl⟩) (fun k x h => by rw [Tr.get_nil] at h; cases h) (fun k x h => by rw [Tr.get_nil] at h; cases h)
noncomputable def tabInfo_134 : Tr (TypeInfo) := Tr.node (some Try.t50) tabInfo_135 tabInfo_137
theorem tabInfo_134_all : ∀ k x, tabInfo_134.get k = some x → (fun n x => Try.prog.info? n = some x ∧ ∀ z, x.zero = some z → flat z = true) (32 * k + 50) x := Tr.node_all (P := fun n x => Try.prog.info? n = some x ∧ ∀ z, x.zero = some z → flat z = true) (a := 32) (b := 50) (fun _ h => by cases h; exact ⟨info50, fun z h => by cases h <;> rfl⟩) tabInfo_135_all tabInfo_137_all
noncomputable def tabInfo_128 : Tr (TypeInfo) := Tr.node (some Try.t18) tabInfo_129 tabInfo_134
theorem tabInfo_128_all : ∀ k x, tabInfo_128.get k = some x → (fun n x => Try.prog.info? n = some x ∧ ∀ z, x.zero = some z → flat z = true) (16 * k + 18) x := Tr.node_all (P := fun n x => Try.prog.info? n = some x ∧ ∀ z, x.zero = some z → flat z = true) (a := 16) (b := 18) (fun _ h => by cases h; exact ⟨info18, fun z h => by cases h <;> rfl⟩) tabInfo_129_all tabInfo_134_all
noncomputable def tabInfo_141 : Tr (TypeInfo) := Tr.node (some Try.t138) Tr.nil Tr.nil
theorem tabInfo_141_all : ∀ k x, tabInfo_141.get k = some x → (fun n x => Try.prog.info? n = some x ∧ ∀ z, x.zero = some z → flat z = true) (128 * k + 138) x := Tr.node_all (P := fun n x => Try.prog.info? n = some x ∧ ∀ z, x.zero = some z → flat z = true) (a := 128) (b := 138) (fun _ h => by cases h; exact ⟨info138, fun z h => by cases h <;> rfl⟩) (fun k x h => by rw [Tr.get_nil] at h; cases h) (fun k x h => by rw [Tr.get_nil] at h; cases h)
noncomputable def tabInfo_140 : Tr (TypeInfo) := Tr.node (some Try.t74) tabInfo_141 Tr.nil
theorem tabInfo_140_all : ∀ k x, tabInfo_140.get k = some x → (fun n x => Try.prog.info? n = some x ∧ ∀ z, x.zero = some z → flat z = true) (64 * k + 74) x := Tr.node_all (P := fun n x => Try.prog.info? n = some x ∧ ∀ z, x.zero = some z → flat z = true) (a := 64) (b := 74) (fun _ h => by cases h; exact ⟨info74, fun z h => by cases h <;> rfl⟩) tabInfo_141_all (fun k x h => by rw [Tr.get_nil] at h; cases h)
noncomputable def tabInfo_142 : Tr (TypeInfo) := Tr.node (some Try.t106) Tr.nil Tr.nil
theorem tabInfo_142_all : ∀ k x, tabInfo_142.get k = some x → (fun n x => Try.prog.info? n = some x ∧ ∀ z, x.zero = some z → flat z = true) (64 * k + 106) x := Tr.node_all (P := fun n x => Try.prog.info? n = some x ∧ ∀ z, x.zero = some z → flat z = true) (a := 64) (b := 106) (fun _ h => by cases h; exact ⟨info106, fun z h => by cases h <;> rfl⟩) (fun k x h => by rw [Tr.get_nil] at h; cases h) (fun k x h => by rw [Tr.get_nil] at h; cases h)
noncomputable def tabInfo_139 : Tr (TypeInfo) := Tr.node (some Try.t42) tabInfo_140 tabInfo_142
theorem tabInfo_139_all : ∀ k x, tabInfo_139.get k = some x → (fun n x => Try.prog.info? n = some x ∧ ∀ z, x.zero = some z → flat z = true) (32 * k + 42) x := Tr.node_all (P := fun n x => Try.prog.info? n = some x ∧ ∀ z, x.zero = some z → flat z = true) (a := 32) (b := 42) (fun _ h => by cases h; exact ⟨info42, fun z h => by cases h <;> rfl⟩) tabInfo_140_all tabInfo_142_all
noncomputable def tabInfo_145 : Tr (TypeInfo) := Tr.node (some Try.t154) Tr.nil Tr.nil
theorem tabInfo_145_all : ∀ k x, tabInfo_145.get k = some x → (fun n x => Try.prog.info? n = some x ∧ ∀ z, x.zero = some z → flat z = true) (128 * k + 154) x := Tr.node_all (P := fun n x => Try.prog.info? n = some x ∧ ∀ z, x.zero = some z → flat z = true) (a := 128) (b := 154) (fun _ h => by cases h; exact ⟨info154, fun z h => by cases h <;> rfl⟩) (fun k x h => by rw [Tr.get_nil] at h; cases h) (fun k x h => by rw [Tr.get_nil] at h; cases h)
noncomputable def tabInfo_144 : Tr (TypeInfo) := Tr.node (some Try.t90) tabInfo_145 Tr.nil
theorem tabInfo_144_all : ∀ k x, tabInfo_144.get k = some x → (fun n x => Try.prog.info? n = some x ∧ ∀ z, x.zero = some z → flat z = true) (64 * k + 90) x := Tr.node_all (P := fun n x => Try.prog.info? n = some x ∧ ∀ z, x.zero = some z → flat z = true) (a := 64) (b := 90) (fun _ h => by cases h; exact ⟨info90, fun z h => by cases h <;> rfl⟩) tabInfo_145_all (fun k x h => by rw [Tr.get_nil] at h; cases h)
noncomputable def tabInfo_146 : Tr (TypeInfo) := Tr.node (some Try.t122) Tr.nil Tr.nil
theorem tabInfo_146_all : ∀ k x, tabInfo_146.get k = some x → (fun n x => Try.prog.info? n = some x ∧ ∀ z, x.zero = some z → flat z = true) (64 * k + 122) x := Tr.node_all (P := fun n x => Try.prog.info? n = some x ∧ ∀ z, x.zero = some z → flat z = true) (a := 64) (b := 122) (fun _ h => by cases h; exact ⟨info122, fun z h => by cases h <;> rfl⟩) (fun k x h => by rw [Tr.get_nil] at h; cases h) (fun k x h => by rw [Tr.get_nil] at h; cases h)
noncomputable def tabInfo_143 : Tr (TypeInfo) := Tr.node (some Try.t58) tabInfo_144 tabInfo_146
theorem tabInfo_143_all : ∀ k x, tabInfo_143.get k = some x → (fun n x => Try.prog.info? n = some x ∧ ∀ z, x.zero = some z → flat z = true) (32 * k + 58) x := Tr.node_all (P := fun n x => Try.prog.info? n = some x ∧ ∀ z, x.zero = some z → flat z = true) (a := 32) (b := 58) (fun _ h => by cases h; exact ⟨info58, fun z h => by cases h <;> rfl⟩) tabInfo_144_all tabInfo_146_all
noncomputable def tabInfo_138 : Tr (TypeInfo) := Tr.node (some Try.t26) tabInfo_139 tabInfo_143
theorem tabInfo_138_all : ∀ k x, tabInfo_138.get k = some x → (fun n x => Try.prog.info? n = some x ∧ ∀ z, x.zero = some z → flat z = true) (16 * k + 26) x := Tr.node_all (P := fun n x => Try.prog.info? n = some x ∧ ∀ z, x.zero = some z → flat z = true) (a := 16) (b := 26) (fun _ h => by cases h; exact ⟨info26, fun z h => by cases h <;> rfl⟩) tabInfo_139_all tabInfo_143_all
noncomputable def tabInfo_127 : Tr (TypeInfo) := Tr.node (some Try.t10) tabInfo_128 tabInfo_138
theorem tabInfo_127_all : ∀ k x, tabInfo_127.get k = some x → (fun n x => Try.prog.info? n = some x ∧ ∀ z, x.zero = some z → flat z = true) (8 * k + 10) x := Tr.node_all (P := fun n x => Try.prog.info? n = some x ∧ ∀ z, x.zero = some z → flat z = true) (a := 8) (b := 10) (fun _ h => by cases h; exact ⟨info10, fun z h => by cases h <;> rfl⟩) tabInfo_128_all tabInfo_138_all
noncomputable def tabInfo_151 : Tr (TypeInfo) := Tr.node (some Try.t134) Tr.nil Tr.nil
theorem tabInfo_151_all : ∀ k x, tabInfo_151.get k = some x → (fun n x => Try.prog.info? n = some x ∧ ∀ z, x.zero = some z → flat z = true) (128 * k + 134) x := Tr.node_all (P := fun n x => Try.prog.info? n = some x ∧ ∀ z, x.zero = some z → flat z = true) (a := 128) (b := 134) (fun _ h => by cases h; exact ⟨info134, fun z h => by cases h <;> rfl⟩) (fun k x h => by rw [Tr.get_nil] at h; cases h) (fun k x h => by rw [Tr.get_nil] at h; cases h)
noncomputable def tabInfo_150 : Tr (TypeInfo) := Tr.node (some Try.t70) tabInfo_151 Tr.nil
theorem tabInfo_150_all : ∀ k x, tabInfo_150.get k = some x → (fun n x => Try.prog.info? n = some x ∧ ∀ z, x.zero = some z → flat z = true) (64 * k + 70) x := Tr.node_all (P := fun n x => Try.prog.info? n = some x ∧ ∀ z, x.zero = some z → flat z = true) (a := 64) (b := 70) (fun _ h => by cases h; exact ⟨info70, fun z h => by cases h <;> rfl⟩) tabInfo_151_all (fun k x h => by rw [Tr.get_nil] at h; cases h)
noncomputable def tabInfo_152 : Tr (TypeInfo) := Tr.node (some Try.t102) Tr.nil Tr.nil
theorem tabInfo_152_all : ∀ k x, tabInfo_152.get k = some x → (fun n x => Try.prog.info? n = some x ∧ ∀ z, x.zero = some z → flat z = true) (64 * k + 102) x := Tr.node_all (P := fun n x => Try.prog.info? n = some x ∧ ∀ z, x.zero = some z → flat z = true) (a := 64) (b := 102) (fun _ h => by cases h; exact ⟨info102, fun z h => by cases h <;> rfl⟩) (fun k x h => by rw [Tr.get_nil] at h; cases h) (fun k x h => by rw [Tr.get_nil] at h; cases h)
noncomputable def tabInfo_149 : Tr (TypeInfo) := Tr.node (some Try.t38) tabInfo_150 tabInfo_152
theorem tabInfo_149_all : ∀ k x, tabInfo_149.get k = some x → (fun n x => Try.prog.info? n = some x ∧ ∀ z, x.zero = some z → flat z = true) (32 * k + 38) x := Tr.node_all (P := fun n x => Try.prog.info? n = some x ∧ ∀ z, x.zero = some z → flat z = true) (a := 32) (b := 38) (fun _ h => by cases h; exact ⟨info38, fun z h => by cases h <;> rfl⟩) tabInfo_150_all tabInfo_152_all
noncomputable def tabInfo_155 : Tr (TypeInfo) := Tr.node (some Try.t150) Tr.nil Tr.nil
theorem tabInfo_155_all : ∀ k x, tabInfo_155.get k = some x → (fun n x => Try.prog.info? n = some x ∧ ∀ z, x.zero = some z → flat z = true) (128 * k + 150) x := Tr.node_all (P := fun n x => Try.prog.info? n = some x ∧ ∀ z, x.zero = some z → flat z = true) (a := 128) (b := 150) (fun _ h => by cases h; exact ⟨info150, fun z h => by cases h <;> rfl⟩) (fun k x h => by rw [Tr.get_nil] at h; cases h) (fun k x h => by rw [Tr.get_nil] at h; cases h)
noncomputable def tabInfo_154 : Tr (TypeInfo) := Tr.node (some Try.t86) tabInfo_155 Tr.nil
theorem tabInfo_154_all : ∀ k x, tabInfo_154.get k = some x → (fun n x => Try.prog.info? n = some x ∧ ∀ z, x.zero = some z → flat z = true) (64 * k + 86) x := Tr.node_all (P := fun n x => Try.prog.info? n = some x ∧ ∀ z, x.zero = some z → flat z = true) (a := 64) (b := 86) (fun _ h => by cases h; exact ⟨info86, fun z h => by cases h <;> rfl⟩) tabInfo_155_all (fun k x h => by rw [Tr.get_nil] at h; cases h)
noncomputable def tabInfo_156 : Tr (TypeInfo) := Tr.node (some Try.t118) Tr.nil Tr.nil
theorem tabInfo_156_all : ∀ k x, tabInfo_156.get k = some x → (fun n x => Try.prog.info? n = some x ∧ ∀ z, x.zero = some z → flat z = true) (64 * k + 118) x := Tr.node_all (P := fun n x => Try.prog.info? n = some x ∧ ∀ z, x.zero = some z → flat z = true) (a := 64) (b := 118) (fun _ h => by cases h; exact ⟨info118, fun z h => by cases h <;> rfl⟩) (fun k x h => by rw [Tr.get_nil] at h; cases h) (fun k x h => by rw [Tr.get_nil] at h; cases h)
noncomputable def tabInfo_153 : Tr (TypeInfo) := Tr.node (some Try.t54) tabInfo_154 tabInfo_156
theorem tabInfo_153_all : ∀ k x, tabInfo_153.get k = some x → (fun n x => Try.prog.info? n = some x ∧ ∀ z, x.zero = some z → flat z = true) (32 * k + 54) x := Tr.node_all (P := fun n x => Try.prog.info? n = some x ∧ ∀ z, x.zero = some z → flat z = true) (a := 32) (b := 54) (fun _ h => by cases h; exact ⟨info54, fun z h => by cases h <;> rfl⟩) tabInfo_154_all tabInfo_156_all
noncomputable def tabInfo_148 : Tr (TypeInfo) := Tr.node (some Try.t22) tabInfo_149 tabInfo_153
theorem tabInfo_148_all : ∀ k x, tabInfo_148.get k = some x → (fun n x => Try.prog.info? n = some x ∧ ∀ z, x.zero = some z → flat z = true) (16 * k + 22) x := Tr.node_all (P := fun n x => Try.prog.info? n = some x ∧ ∀ z, x.zero = some z → flat z = true) (a := 16) (b := 22) (fun _ h => by cases h; exact ⟨info22, fun z h => by cases h <;> rfl⟩) tabInfo_149_all tabInfo_153_all
noncomputable def tabInfo_160 : Tr (TypeInfo) := Tr.node (some Try.t142) Tr.nil Tr.nil
theorem tabInfo_160_all : ∀ k x, tabInfo_160.get k = some x → (fun n x => Try.prog.info? n = some x ∧ ∀ z, x.zero = some z → flat z = true) (128 * k + 142) x := Tr.node_all (P := fun n x => Try.prog.info? n = some x ∧ ∀ z, x.zero = some z → flat z = true) (a := 128) (b := 142) (fun _ h => by cases h; exact ⟨info142, fun z h => by cases h <;> rfl⟩) (fun k x h => by rw [Tr.get_nil] at h; cases h) (fun k x h => by rw [Tr.get_nil] at h; cases h)
noncomputable def tabInfo_159 : Tr (TypeInfo) := Tr.node (some Try.t78) tabInfo_160 Tr.nil
theorem tabInfo_159_all : ∀ k x, tabInfo_159.get k = some x → (fun n x => Try.prog.info? n = some x ∧ ∀ z, x.zero = some z → flat z = true) (64 * k + 78) x := Tr.node_all (P := fun n x => Try.prog.info? n = some x ∧ ∀ z, x.zero = some z → flat z = true) (a := 64) (b := 78) (fun _ h => by cases h; exact ⟨info78, fun z h => by cases h <;> rfl⟩) tabInfo_160_all (fun k x h => by rw [Tr.get_nil] at h; cases h)
noncomputable def tabInfo_161 : Tr (TypeInfo) := Tr.node (some Try.t110) Tr.nil Tr.nil
theorem tabInfo_161_all : ∀ k x, tabInfo_161.get k = some x → (fun n x => Try.prog.info? n = some x ∧ ∀ z, x.zero = some z → flat z = true) (64 * k + 110) x := Tr.node_all (P := fun n x => Try.prog.info? n = some x ∧ ∀ z, x.zero = some z → flat z = true) (a := 64) (b := 110) (fun _ h => by cases h; exact ⟨info110, fun z h => by cases h <;> rfl⟩) (fun k x h => by rw [Tr.get_nil] at h; cases h) (fun k x h => by rw [Tr.get_nil] at h; cases h)
noncomputable def tabInfo_158 : Tr (TypeInfo) := Tr.node (some Try.t46) tabInfo_159 tabInfo_161
theorem tabInfo_158_all : ∀ k x, tabInfo_158.get k = some x → (fun n x => Try.prog.info? n = some x ∧ ∀ z, x.zero = some z → flat z = true) (32 * k + 46) x := Tr.node_all (P := fun n x => Try.prog.info? n = some x ∧ ∀ z, x.zero = some z → flat z = true) (a := 32) (b := 46) (fun _ h => by cases h; exact ⟨info46, fun z h => by cases h <;> rfl⟩) tabInfo_159_all tabInfo_161_all
noncomputable def tabInfo_164 : Tr (TypeInfo) := Tr.node (some Try.t158) Tr.nil Tr.nil
theorem tabInfo_164_all : ∀ k x, tabInfo_164.get k = some x → (fun n x => Try.prog.info? n = some x ∧ ∀ z, x.zero = some z → flat z = true) (128 * k + 158) x := Tr.node_all (P := fun n x => Try.prog.info? n = some x ∧ ∀ z, x.zero = some z → flat z = true) (a := 128) (b := 158) (fun _ h => by cases h; exact ⟨info158, fun z h => by cases h <;> rfl⟩) (fun k x h => by rw [Tr.get_nil] at h; cases h) (fun k x h => by rw [Tr.get_nil] at h; cases h)
noncomputable def tabInfo_163 : Tr (TypeInfo) := Tr.node (some Try.t94) tabInfo_164 Tr.nil
theorem tabInfo_163_all : ∀ k x, tabInfo_163.get k = some x → (fun n x => Try.prog.info? n = some x ∧ ∀ z, x.zero = some z → flat z = true) (64 * k + 94) x := Tr.node_all (P := fun n x => Try.prog.info? n = some x ∧ ∀ z, x.zero = some z → flat z = true) (a := 64) (b := 94) (fun _ h => by cases h; exact ⟨info94, fun z h => by cases h <;> rfl⟩) tabInfo_164_all (fun k x h => by rw [Tr.get_nil] at h; cases h)
noncomputable def tabInfo_165 : Tr (TypeInfo) := Tr.node (some Try.t126) Tr.nil Tr.nil
theorem tabInfo_165_all : ∀ k x, tabInfo_165.get k = some x → (fun n x => Try.prog.info? n = some x ∧ ∀ z, x.zero = some z → flat z = true) (64 * k + 126) x := Tr.node_all (P := fun n x => Try.prog.info? n = some x ∧ ∀ z, x.zero = some z → flat z = true) (a := 64) (b := 126) (fun _ h => by cases h; exact ⟨info126, fun z h => by cases h <;> rfl⟩) (fun k x h => by rw [Tr.get_nil] at h; cases h) (fun k x h => by rw [Tr.get_nil] at h; cases h)
noncomputable def tabInfo_162 : Tr (TypeInfo) := Tr.node (some Try.t62) tabInfo_163 tabInfo_165
theorem tabInfo_162_all : ∀ k x, tabInfo_162.get k = some x → (fun n x => Try.prog.info? n = some x ∧ ∀ z, x.zero = some z → flat z = true) (32 * k + 62) x := Tr.node_all (P := fun n x => Try.prog.info? n = some x ∧ ∀ z, x.zero = some z → flat z = true) (a := 32) (b := 62) (fun _ h => by cases h; exact ⟨info62, fun z h => by cases h <;> rfl⟩) tabInfo_163_all tabInfo_165_all
noncomputable def tabInfo_157 : Tr (TypeInfo) := Tr.node (some Try.t30) tabInfo_158 tabInfo_162
theorem tabInfo_157_all : ∀ k x, tabInfo_157.get k = some x → (fun n x => Try.prog.info? n = some x ∧ ∀ z, x.zero = some z → flat z = true) (16 * k + 30) x := Tr.node_all (P := fun n x => Try.prog.info? n = some x ∧ ∀ z, x.zero = some z → flat z = true) (a := 16) (b := 30) (fun _ h => by cases h; exact ⟨info30, fun z h => by cases h <;> rfl⟩) tabInfo_158_all tabInfo_162_all
noncomputable def tabInfo_147 : Tr (TypeInfo) := Tr.node (some Try.t14) tabInfo_148 tabInfo_157
theorem tabInfo_147_all : ∀ k x, tabInfo_147.get k = some x → (fun n x => Try.prog.info? n = some x ∧ ∀ z, x.zero = some z → flat z = true) (8 * k + 14) x := Tr.node_all (P := fun n x => Try.prog.info? n = some x ∧ ∀ z, x.zero = some z → flat z = true) (a := 8) (b := 14) (fun _ h => by cases h; exact ⟨info14, fun z h => by cases h <;> rfl⟩) tabInfo_148_all tabInfo_157_all
noncomputable def tabInfo_126 : Tr (TypeInfo) := Tr.node (some Try.t6) tabInfo_127 tabInfo_147
theorem tabInfo_126_all : ∀ k x, tabInfo_126.get k = some x → (fun n x => Try.prog.info? n = some x ∧ ∀ z, x.zero = some z → flat z = true) (4 * k + 6) x := Tr.node_all (P := fun n x => Try.prog.info? n = some x ∧ ∀ z, x.zero = some z → flat z = true) (a := 4) (b := 6) (fun _ h => by cases h; exact ⟨info6, fun z h => by cases h <;> rfl⟩) tabInfo_127_all tabInfo_147_all
noncomputable def tabInfo_84 : Tr (TypeInfo) := Tr.node (some Try.t2) tabInfo_85 tabInfo_126
theorem tabInfo_84_all : ∀ k x, tabInfo_84.get k = some x → (fun n x => Try.prog.info? n = some x ∧ ∀ z, x.zero = some z → flat z = true) (2 * k + 2) x := Tr.node_all (P := fun n x => Try.prog.info? n = some x ∧ ∀ z, x.zero = some z → flat z = true) (a := 2) (b := 2) (fun _ h => by cases h; exact ⟨info2, fun z h => by cases h <;> rfl⟩) tabInfo_85_all tabInfo_126_all
noncomputable def tabInfo_1 : Tr (TypeInfo) := Tr.node (some Try.t0) tabInfo_2 tabInfo_84
theorem tabInfo_1_all : ∀ k x, tabInfo_1.get k = some x → (fun n x => Try.prog.info? n = some x ∧ ∀ z, x.zero = some z → flat z = true) (1 * k + 0) x := Tr.node_all (P := fun n x => Try.prog.info? n = some x ∧ ∀ z, x.zero = some z → flat z = true) (a := 1) (b := 0) (fun _ h => by cases h; exact ⟨info0, fun z h => by cases h <;> rfl⟩) tabInfo_2_all tabInfo_84_all
noncomputable def tabInfo : Tr (TypeInfo) := tabInfo_1
theorem tabInfo_all : ∀ k x, tabInfo.get k = some x → (fun n x => Try.prog.info? n = some x ∧ ∀ z, x.zero = some z → flat z = true) k x := fun k x h => by have := tabInfo_1_all k x h; rwa [Nat.one_mul, Nat.add_zero] at this
noncomputable def tabUnd_173 : Tr (TypeDesc) := Tr.node (some Try.t127.desc) Tr.nil Tr.nil
theorem tabUnd_173_all : ∀ k x, tabUnd_173.get k = some x → (fun n x => Try.prog.underlying n = some x) (128 * k + 127) x := Tr.node_all (P := fun n x => Try.prog.underlying n = some x) (a := 128) (b := 127) (fun _ h => by cases h; exact Try.underlying127) (fun k x h => by rw [Tr.get_nil] at h; cases h) (fun k x h => by rw [Tr.get_nil] at h; cases h)
noncomputable def tabUnd_172 : Tr (TypeDesc) := Tr.node (some Try.t63.desc) tabUnd_173 Tr.nil
theorem tabUnd_172_all : ∀ k x, tabUnd_172.get k = some x → (fun n x => Try.prog.underlying n = some x) (64 * k + 63) x := Tr.node_all (P := fun n x => Try.prog.underlying n = some x) (a := 64) (b := 63) (fun _ h => by cases h; exact Try.underlying63) tabUnd_173_all (fun k x h => by rw [Tr.get_nil] at h; cases h)
noncomputable def tabUnd_175 : Tr (TypeDesc) := Tr.node (some Try.t159.desc) Tr.nil Tr.nil
theorem tabUnd_175_all : ∀ k x, tabUnd_175.get k = some x → (fun n x => Try.prog.underlying n = some x) (128 * k + 159) x := Tr.node_all (P := fun n x => Try.prog.underlying n = some x) (a := 128) (b := 159) (fun _ h => by cases h; exact Try.underlying159) (fun k x h => by rw [Tr.get_nil] at h; cases h) (fun k x h => by rw [Tr.get_nil] at h; cases h)
noncomputable def tabUnd_174 : Tr (TypeDesc) := Tr.node (some Try.t95.desc) tabUnd_175 Tr.nil
theorem tabUnd_174_all : ∀ k x, tabUnd_174.get k = some x → (fun n x => Try.prog.underlying n = some x) (64 * k + 95) x := Tr.node_all (P := fun n x => Try.prog.underlying n = some x) (a := 64) (b := 95) (fun _ h => by cases h; exact Try.underlying95) tabUnd_175_all (fun k x h => by rw [Tr.get_nil] at h; cases h)
noncomputable def tabUnd_171 : Tr (TypeDesc) := Tr.node (some Try.t31.desc) tabUnd_172 tabUnd_174
theorem tabUnd_171_all : ∀ k x, tabUnd_171.get k = some x → (fun n x => Try.prog.underlying n = some x) (32 * k + 31) x := Tr.node_all (P := fun n x => Try.prog.underlying n = some x) (a := 32) (b := 31) (fun _ h => by cases h; exact Try.underlying31) tabUnd_172_all tabUnd_174_all
noncomputable def tabUnd_178 : Tr (TypeDesc) := Tr.node (some Try.t142.desc) Tr.nil Tr.nil
theorem tabUnd_178_all : ∀ k x, tabUnd_178.get k = some x → (fun n x => Try.prog.underlying n = some x) (128 * k + 143) x := Tr.node_all (P := fun n x => Try.prog.underlying n = some x) (a := 128) (b := 143) (fun _ h => by cases h; exact Try.underlying143) (fun k x h => by rw [Tr.get_nil] at h; cases h) (fun k x h => by rw [Tr.get_nil] at h; cases h)
noncomputable def tabUnd_177 : Tr (TypeDesc) := Tr.node (some Try.t79.desc) tabUnd_178 Tr.nil
theorem tabUnd_177_all : ∀ k x, tabUnd_177.get k = some x → (fun n x => Try.prog.underlying n = some x) (64 * k + 79) x := Tr.node_all (P := fun n x => Try.prog.underlying n = some x) (a := 64) (b := 79) (fun _ h => by cases h; exact Try.underlying79) tabUnd_178_all (fun k x h => by rw [Tr.get_nil] at h; cases h)
noncomputable def tabUnd_179 : Tr (TypeDesc) := Tr.node (some Try.t111.desc) Tr.nil Tr.nil
theorem tabUnd_179_all : ∀ k x, tabUnd_179.get k = some x → (fun n x => Try.prog.underlying n = some x) (64 * k + 111) x := Tr.node_all (P := fun n x => Try.prog.underlying n = some x) (a := 64) (b := 111) (fun _ h => by cases h; exact Try.underlying111) (fun k x h => by rw [Tr.get_nil] at h; cases h) (fun k x h => by rw [Tr.get_nil] at h; cases h)
noncomputable def tabUnd_176 : Tr (TypeDesc) := Tr.node (some Try.t47.desc) tabUnd_177 tabUnd_179
theorem tabUnd_176_all : ∀ k x, tabUnd_176.get k = some x → (fun n x => Try.prog.underlying n = some x) (32 * k + 47) x := Tr.node_all (P := fun n x => Try.prog.underlying n = some x) (a := 32) (b := 47) (fun _ h => by cases h; exact Try.underlying47) tabUnd_177_all tabUnd_179_all
noncomputable def tabUnd_170 : Tr (TypeDesc) := Tr.node (some Try.t15.desc) tabUnd_171 tabUnd_176
theorem tabUnd_170_all : ∀ k x, tabUnd_170.get k = some x → (fun n x => Try.prog.underlying n = some x) (16 * k + 15) x := Tr.node_all (P := fun n x => Try.prog.underlying n = some x) (a := 16) (b := 15) (fun _ h => by cases h; exact Try.underlying15) tabUnd_171_all tabUnd_176_all
noncomputable def tabUnd_183 : Tr (TypeDesc) := Tr.node (some Try.t135.desc) Tr.nil Tr.nil
theorem tabUnd_183_all : ∀ k x, tabUnd_183.get k = some x → (fun n x => Try.prog.underlying n = some x) (128 * k + 135) x := Tr.node_all (P := fun n x => Try.prog.underlying n = some x) (a := 128) (b := 135) (fun _ h => by cases h; exact Try.underlying135) (fun k x h => by rw [Tr.get_nil] at h; cases h) (fun k x h => by rw [Tr.get_nil] at h; cases h)
noncomputable def tabUnd_182 : Tr (TypeDesc) := Tr.node (some Try.t71.desc) tabUnd_183 Tr.nil
theorem tabUnd_182_all : ∀ k x, tabUnd_182.get k = some x → (fun n x => Try.prog.underlying n = some x) (64 * k + 71) x := Tr.node_all (P := fun n x => Try.prog.underlying n = some x) (a := 64) (b := 71) (fun _ h => by cases h; exact Try.underlying71) tabUnd_183_all (fun k x h => by rw [Tr.get_nil] at h; cases h)
noncomputable def tabUnd_184 : Tr (TypeDesc) := Tr.node (some Try.t102.desc) Tr.nil Tr.nil
theorem tabUnd_184_all : ∀ k x, tabUnd_184.get k = some x → (fun n x => Try.prog.underlying n = some x) (64 * k + 103) x := Tr.node_all (P := fun n x => Try.prog.underlying n = some x) (a := 64) (b := 103) (fun _ h => by cases h; exact Try.underlying103) (fun k x h => by rw [Tr.get_nil] at h; cases h) (fun k x h => by rw [Tr.get_nil] at h; cases h)
noncomputable def tabUnd_181 : Tr (TypeDesc) := Tr.node (some Try.t39.desc) tabUnd_182 tabUnd_184
theorem tabUnd_181_all : ∀ k x, tabUnd_181.get k = some x → (fun n x => Try.prog.underlying n = some x) (32 * k + 39) x := Tr.node_all (P := fun n x => Try.prog.underlying n = some x) (a := 32) (b := 39) (fun _ h => by cases h; exact Try.underlying39) tabUnd_182_all tabUnd_184_all
noncomputable def tabUnd_187 : Tr (TypeDesc) := Tr.node (some Try.t151.desc) Tr.nil Tr.nil
theorem tabUnd_187_all : ∀ k x, tabUnd_187.get k = some x → (fun n x => Try.prog.underlying n = some x) (128 * k + 151) x := Tr.node_all (P := fun n x => Try.prog.underlying n = some x) (a := 128) (b := 151) (fun _ h => by cases h; exact Try.underlying151) (fun k x h => by rw [Tr.get_nil] at h; cases h) (fun k x h => by rw [Tr.get_nil] at h; cases h)
noncomputable def tabUnd_186 : Tr (TypeDesc) := Tr.node (some Try.t87.desc) tabUnd_187 Tr.nil
theorem tabUnd_186_all : ∀ k x, tabUnd_186.get k = some x → (fun n x => Try.prog.underlying n = some x) (64 * k + 87) x := Tr.node_all (P := fun n x => Try.prog.underlying n = some x) (a := 64) (b := 87) (fun _ h => by cases h; exact Try.underlying87) tabUnd_187_all (fun k x h => by rw [Tr.get_nil] at h; cases h)
noncomputable def tabUnd_188 : Tr (TypeDesc) := Tr.node (some Try.t119.desc) Tr.nil Tr.nil
theorem tabUnd_188_all : ∀ k x, tabUnd_188.get k = some x → (fun n x => Try.prog.underlying n = some x) (64 * k + 119) x := Tr.node_all (P := fun n x => Try.prog.underlying n = some x) (a := 64) (b := 119) (fun _ h => by cases h; exact Try.underlying119) (fun k x h => by rw [Tr.get_nil] at h; cases h) (fun k x h => by rw [Tr.get_nil] at h; cases h)
noncomputable def tabUnd_185 : Tr (TypeDesc) := Tr.node (some Try.t55.desc) tabUnd_186 tabUnd_188
theorem tabUnd_185_all : ∀ k x, tabUnd_185.get k = some x → (fun n x => Try.prog.underlying n = some x) (32 * k + 55) x := Tr.node_all (P := fun n x => Try.prog.underlying n = some x) (a := 32) (b := 55) (fun _ h => by cases h; exact Try.underlying55) tabUnd_186_all tabUnd_188_all
noncomputable def tabUnd_180 : Tr (TypeDesc) := Tr.node (some Try.t23.desc) tabUnd_181 tabUnd_185
theorem tabUnd_180_all : ∀ k x, tabUnd_180.get k = some x → (fun n x => Try.prog.underlying n = some x) (16 * k + 23) x := Tr.node_all (P := fun n x => Try.prog.underlying n = some x) (a := 16) (b := 23) (fun _ h => by cases h; exact Try.underlying23) tabUnd_181_all tabUnd_185_all
noncomputable def tabUnd_169 : Tr (TypeDesc) := Tr.node (some Try.t7.desc) tabUnd_170 tabUnd_180
theorem tabUnd_169_all : ∀ k x, tabUnd_169.get k = some x → (fun n x => Try.prog.underlying n = some x) (8 * k + 7) x := Tr.node_all (P := fun n x => Try.prog.underlying n = some x) (a := 8) (b := 7) (fun _ h => by cases h; exact Try.underlying7) tabUnd_170_all tabUnd_180_all
noncomputable def tabUnd_193 : Tr (TypeDesc) := Tr.node (some Try.t131.desc) Tr.nil Tr.nil
theorem tabUnd_193_all : ∀ k x, tabUnd_193.get k = some x → (fun n x => Try.prog.underlying n = some x) (128 * k + 131) x := Tr.node_all (P := fun n x => Try.prog.underlying n = some x) (a := 128) (b := 131) (fun _ h => by cases h; exact Try.underlying131) (fun k x h => by rw [Tr.get_nil] at h; cases h) (fun k x h => by rw [Tr.get_nil] at h; cases h)
noncomputable def tabUnd_192 : Tr (TypeDesc) := Tr.node (some Try.t67.desc) tabUnd_193 Tr.nil
theorem tabUnd_192_all : ∀ k x, tabUnd_192.get k = some x → (fun n x => Try.prog.underlying n = some x) (64 * k + 67) x := Tr.node_all (P := fun n x => Try.prog.underlying n = some x) (a := 64) (b := 67) (fun _ h => by cases h; exact Try.underlying67) tabUnd_193_all (fun k x h => by rw [Tr.get_nil] at h; cases h)
noncomputable def tabUnd_195 : Tr (TypeDesc) := Tr.node (some Try.t162.desc) Tr.nil Tr.nil
theorem tabUnd_195_all : ∀ k x, tabUnd_195.get k = some x → (fun n x => Try.prog.underlying n = some x) (128 * k + 163) x := Tr.node_all (P := fun n x => Try.prog.underlying n = some x) (a := 128) (b := 163) (fun _ h => by cases h; exact Try.underlying163) (fun k x h => by rw [Tr.get_nil] at h; cases h) (fun k x h => by rw [Tr.get_nil] at h; cases h)
noncomputable def tabUnd_194 : Tr (TypeDesc) := Tr.node (some Try.t99.desc) tabUnd_195 Tr.nil
theorem tabUnd_194_all : ∀ k x, tabUnd_194.get k = some x → (fun n x => Try.prog.underlying n = some x) (64 * k + 99) x := Tr.node_all (P := fun n x => Try.prog.underlying n = some x) (a := 64) (b := 99) (fun _ h => by cases h; exact Try.underlying99) tabUnd_195_all (fun k x h => by rw [Tr.get_nil] at h; cases h)
noncomputable def tabUnd_191 : Tr (TypeDesc) := Tr.node (some Try.t35.desc) tabUnd_192 tabUnd_194
theorem tabUnd_191_all : ∀ k x, tabUnd_191.get k = some x → (fun n x => Try.prog.underlying n = some x) (32 * k + 35) x := Tr.node_all (P := fun n x => Try.prog.underlying n = some x) (a := 32) (b := 35) (fun _ h => by cases h; exact Try.underlying35) tabUnd_192_all tabUnd_194_all
noncomputable def tabUnd_198 : Tr (TypeDesc) := Tr.node (some Try.t147.desc) Tr.nil Tr.nil
theorem tabUnd_198_all : ∀ k x, tabUnd_198.get k = some x → (fun n x => Try.prog.underlying n = some x) (128 * k + 147) x := Tr.node_all (P := fun n x => Try.prog.underlying n = some x) (a := 128) (b := 147) (fun _ h => by cases h; exact Try.underlying147) (fun k x h => by rw [Tr.get_nil] at h; cases h) (fun k x h => by rw [Tr.get_nil] at h; cases h)
noncomputable def tabUnd_197 : Tr (TypeDesc) := Tr.node (some Try.t83.desc) tabUnd_198 Tr.nil
theorem tabUnd_197_all : ∀ k x, tabUnd_197.get k = some x → (fun n x => Try.prog.underlying n = some x) (64 * k + 83) x := Tr.node_all (P := fun n x => Try.prog.underlying n = some x) (a := 64) (b := 83) (fun _ h => by cases h; exact Try.underlying83) tabUnd_198_all (fun k x h => by rw [Tr.get_nil] at h; cases h)
noncomputable def tabUnd_199 : Tr (TypeDesc) := Tr.node (some Try.t115.desc) Tr.nil Tr.nil
theorem tabUnd_199_all : ∀ k x, tabUnd_199.get k = some x → (fun n x => Try.prog.underlying n = some x) (64 * k + 115) x := Tr.node_all (P := fun n x => Try.prog.underlying n = some x) (a := 64) (b := 115) (fun _ h => by cases h; exact Try.underlying115) (fun k x h => by rw [Tr.get_nil] at h; cases h) (fun k x h => by rw [Tr.get_nil] at h; cases h)
noncomputable def tabUnd_196 : Tr (TypeDesc) := Tr.node (some Try.t51.desc) tabUnd_197 tabUnd_199
theorem tabUnd_196_all : ∀ k x, tabUnd_196.get k = some x → (fun n x => Try.prog.underlying n = some x) (32 * k + 51) x := Tr.node_all (P := fun n x => Try.prog.underlying n = some x) (a := 32) (b := 51) (fun _ h => by cases h; exact Try.underlying51) tabUnd_197_all tabUnd_199_all
noncomputable def tabUnd_190 : Tr (TypeDesc) := Tr.node (some Try.t18.desc) tabUnd_191 tabUnd_196
theorem tabUnd_190_all : ∀ k x, tabUnd_190.get k = some x → (fun n x => Try.prog.underlying n = some x) (16 * k + 19) x := Tr.node_all (P := fun n x => Try.prog.underlying n = some x) (a := 16) (b := 19) (fun _ h => by cases h; exact Try.underlying19) tabUnd_191_all tabUnd_196_all
noncomputable def tabUnd_203 : Tr (TypeDesc) := Tr.node (some Try.t139.desc) Tr.nil Tr.nil
theorem tabUnd_203_all : ∀ k x, tabUnd_203.get k = some x → (fun n x => Try.prog.underlying n = some x) (128 * k + 139) x := Tr.node_all (P := fun n x => Try.prog.underlying n = some x) (a := 128) (b := 139) (fun _ h => by cases h; exact Try.underlying139) (fun k x h => by rw [Tr.get_nil] at h; cases h) (fun k x h => by rw [Tr.get_nil] at h; cases h)
noncomputable def tabUnd_202 : Tr (TypeDesc) := Tr.node (some Try.t74.desc) tabUnd_203 Tr.nil
theorem tabUnd_202_all : ∀ k x, tabUnd_202.get k = some x → (fun n x => Try.prog.underlying n = some x) (64 * k + 75) x := Tr.node_all (P := fun n x => Try.prog.underlying n = some x) (a := 64) (b := 75) (fun _ h => by cases h; exact Try.underlying75) tabUnd_203_all (fun k x h => by rw [Tr.get_nil] at h; cases h)
noncomputable def tabUnd_204 : Tr (TypeDesc) := Tr.node (some Try.t107.desc) Tr.nil Tr.nil
theorem tabUnd_204_all : ∀ k x, tabUnd_204.get k = some x → (fun n x => Try.prog.underlying n = some x) (64 * k + 107) x := Tr.node_all (P := fun n x => Try.prog.underlying n = some x) (a := 64) (b := 107) (fun _ h => by cases h; exact Try.underlying107) (fun k x h => by rw [Tr.get_nil] at h; cases h) (fun k x h => by rw [Tr.get_nil] at h; cases h)
noncomputable def tabUnd_201 : Tr (TypeDesc) := Tr.node (some Try.t43.desc) tabUnd_202 tabUnd_204
theorem tabUnd_201_all : ∀ k x, tabUnd_201.get k = some x → (fun n x => Try.prog.underlying n = some x) (32 * k + 43) x := Tr.node_all (P := fun n x => Try.prog.underlying n = some x) (a := 32) (b := 43) (fun _ h => by cases h; exact Try.underlying43) tabUnd_202_all tabUnd_204_all
noncomputable def tabUnd_207 : Tr (TypeDesc) := Tr.node (some Try.t155.desc) Tr.nil Tr.nil
theorem tabUnd_207_all : ∀ k x, tabUnd_207.get k = some x → (fun n x => Try.prog.underlying n = some x) (128 * k + 155) x := Tr.node_all (P := fun n x => Try.prog.underlying n = some x) (a := 128) (b := 155) (fun _ h => by cases h; exact Try.underlying155) (fun k x h => by rw [Tr.get_nil] at h; cases h) (fun k x h => by rw [Tr.get_nil] at h; cases h)
noncomputable def tabUnd_206 : Tr (TypeDesc) := Tr.node (some Try.t91.desc) tabUnd_207 Tr.nil
theorem tabUnd_206_all : ∀ k x, tabUnd_206.get k = some x → (fun n x => Try.prog.underlying n = some x) (64 * k + 91) x := Tr.node_all (P := fun n x => Try.prog.underlying n = some x) (a := 64) (b := 91) (fun _ h => by cases h; exact Try.underlying91) tabUnd_207_all (fun k x h => by rw [Tr.get_nil] at h; cases h)
noncomputable def tabUnd_208 : Tr (TypeDesc) := Tr.node (some Try.t123.desc) Tr.nil Tr.nil
theorem tabUnd_208_all : ∀ k x, tabUnd_208.get k = some x → (fun n x => Try.prog.underlying n = some x) (64 * k + 123) x := Tr.node_all (P := fun n x => Try.prog.underlying n = some x) (a := 64) (b := 123) (fun _ h => by cases h; exact Try.underlying123) (fun k x h => by rw [Tr.get_nil] at h; cases h) (fun k x h => by rw [Tr.get_nil] at h; cases h)
noncomputable def tabUnd_205 : Tr (TypeDesc) := Tr.node (some Try.t59.desc) tabUnd_206 tabUnd_208
theorem tabUnd_205_all : ∀ k x, tabUnd_205.get k = some x → (fun n x => Try.prog.underlying n = some x) (32 * k + 59) x := Tr.node_all (P := fun n x => Try.prog.underlying n = some x) (a := 32) (b := 59) (fun _ h => by cases h; exact Try.underlying59) tabUnd_206_all tabUnd_208_all
noncomputable def tabUnd_200 : Tr (TypeDesc) := Tr.node (some Try.t27.desc) tabUnd_201 tabUnd_205
theorem tabUnd_200_all : ∀ k x, tabUnd_200.get k = some x → (fun n x => Try.prog.underlying n = some x) (16 * k + 27) x := Tr.node_all (P := fun n x => Try.prog.underlying n = some x) (a := 16) (b := 27) (fun _ h => by cases h; exact Try.underlying27) tabUnd_201_all tabUnd_205_all
noncomputable def tabUnd_189 : Tr (TypeDesc) := Tr.node (some Try.t9.desc) tabUnd_190 tabUnd_200
theorem tabUnd_189_all : ∀ k x, tabUnd_189.get k = some x → (fun n x => Try.prog.underlying n = some x) (8 * k + 11) x := Tr.node_all (P := fun n x => Try.prog.underlying n = some x) (a := 8) (b := 11) (fun _ h => by cases h; exact Try.underlying11) tabUnd_190_all tabUnd_200_all
noncomputable def tabUnd_168 : Tr (TypeDesc) := Tr.node (some Try.t3.desc) tabUnd_169 tabUnd_189
theorem tabUnd_168_all : ∀ k x, tabUnd_168.get k = some x → (fun n x => Try.prog.underlying n = some x) (4 * k + 3) x := Tr.node_all (P := fun n x => Try.prog.underlying n = some x) (a := 4) (b := 3) (fun _ h => by cases h; exact Try.underlying3) tabUnd_169_all tabUnd_189_all
noncomputable def tabUnd_214 : Tr (TypeDesc) := Tr.node (some Try.t129.desc) Tr.nil Tr.nil
theorem tabUnd_214_all : ∀ k x, tabUnd_214.get k = some x → (fun n x => Try.prog.underlying n = some x) (128 * k + 129) x := Tr.node_all (P := fun n x => Try.prog.underlying n = some x) (a := 128) (b := 129) (fun _ h => by cases h; exact Try.underlying129) (fun k x h => by rw [Tr.get_nil] at h; cases h) (fun k x h => by rw [Tr.get_nil] at h; cases h)
noncomputable def tabUnd_213 : Tr (TypeDesc) := Tr.node (some Try.t65.desc) tabUnd_214 Tr.nil
theorem tabUnd_213_all : ∀ k x, tabUnd_213.get k = some x → (fun n x => Try.prog.underlying n = some x) (64 * k + 65) x := Tr.node_all (P := fun n x => Try.prog.underlying n = some x) (a := 64) (b := 65) (fun _ h => by cases h; exact Try.underlying65) tabUnd_214_all (fun k x h => by rw [Tr.get_nil] at h; cases h)
noncomputable def tabUnd_216 : Tr (TypeDesc) := Tr.node (some Try.t21.desc) Tr.nil Tr.nil
theorem tabUnd_216_all : ∀ k x, tabUnd_216.get k = some x → (fun n x => Try.prog.underlying n = some x) (128 * k + 161) x := Tr.node_all (P := fun n x => Try.prog.underlying n = some x) (a := 128) (b := 161) (fun _ h => by cases h; exact Try.underlying161) (fun k x h => by rw [Tr.get_nil] at h; cases h) (fun k x h => by rw [Tr.get_nil] at h; cases h)
noncomputable def tabUnd_215 : Tr (TypeDesc) := Tr.node (some Try.t97.desc) tabUnd_216 Tr.nil
theorem tabUnd_215_all : ∀ k x, tabUnd_215.get k = some x → (fun n x => Try.prog.underlying n = some x) (64 * k + 97) x := Tr.node_all (P := fun n x => Try.prog.underlying n = some x) (a := 64) (b := 97) (fun _ h => by cases h; exact Try.underlying97) tabUnd_216_all (fun k x h => by rw [Tr.get_nil] at h; cases h)
noncomputable def tabUnd_212 : Tr (TypeDesc) := Tr.node (some Try.t33.desc) tabUnd_213 tabUnd_215
theorem tabUnd_212_all : ∀ k x, tabUnd_212.get k = some x → (fun n x => Try.prog.underlying n = some x) (32 * k + 33) x := Tr.node_all (P := fun n x => Try.prog.underlying n = some x) (a := 32) (b := 33) (fun _ h => by cases h; exact Try.underlying33) tabUnd_213_all tabUnd_215_all
noncomputable def tabUnd_219 : Tr (TypeDesc) := Tr.node (some Try.t145.desc) Tr.nil Tr.nil
theorem tabUnd_219_all : ∀ k x, tabUnd_219.get k = some x → (fun n x => Try.prog.underlying n = some x) (128 * k + 145) x := Tr.node_all (P := fun n x => Try.prog.underlying n = some x) (a := 128) (b := 145) (fun _ h => by cases h; exact Try.underlying145) (fun k x h => by rw [Tr.get_nil] at h; cases h) (fun k x h => by rw [Tr.get_nil] at h; cases h)
noncomputable def tabUnd_218 : Tr (TypeDesc) := Tr.node (some Try.t80.desc) tabUnd_219 Tr.nil
theorem tabUnd_218_all : ∀ k x, tabUnd_218.get k = some x → (fun n x => Try.prog.underlying n = some x) (64 * k + 81) x := Tr.node_all (P := fun n x => Try.prog.underlying n = some x) (a := 64) (b := 81) (fun _ h => by cases h; exact Try.underlying81) tabUnd_219_all (fun k x h => by rw [Tr.get_nil] at h; cases h)
noncomputable def tabUnd_220 : Tr (TypeDesc) := Tr.node (some Try.t113.desc) Tr.nil Tr.nil
theorem tabUnd_220_all : ∀ k x, tabUnd_220.get k = some x → (fun n x => Try.prog.underlying n = some x) (64 * k + 113) x := Tr.node_all (P := fun n x => Try.prog.underlying n = some x) (a := 64) (b := 113) (fun _ h => by cases h; exact Try.underlying113) (fun k x h => by rw [Tr.get_nil] at h; cases h) (fun k x h => by rw [Tr.get_nil] at h; cases h)
noncomputable def tabUnd_217 : Tr (TypeDesc) := Tr.node (some Try.t49.desc) tabUnd_218 tabUnd_220
theorem tabUnd_217_all : ∀ k x, tabUnd_217.get k = some x → (fun n x => Try.prog.underlying n = some x) (32 * k + 49) x := Tr.node_all (P := fun n x => Try.prog.underlying n = some x) (a := 32) (b := 49) (fun _ h => by cases h; exact Try.underlying49) tabUnd_218_all tabUnd_220_all
noncomputable def tabUnd_211 : Tr (TypeDesc) := Tr.node (some Try.t17.desc) tabUnd_212 tabUnd_217
theorem tabUnd_211_all : ∀ k x, tabUnd_211.get k = some x → (fun n x => Try.prog.underlying n = some x) (16 * k + 17) x := Tr.node_all (P := fun n x => Try.prog.underlying n = some x) (a := 16) (b := 17) (fun _ h => by cases h; exact Try.underlying17) tabUnd_212_all tabUnd_217_all
noncomputable def tabUnd_224 : Tr (TypeDesc) := Tr.node (some Try.t137.desc) Tr.nil Tr.nil
theorem tabUnd_224_all : ∀ k x, tabUnd_224.get k = some x → (fun n x => Try.prog.underlying n = some x) (128 * k + 137) x := Tr.node_all (P := fun n x => Try.prog.underlying n = some x) (a := 128) (b := 137) (fun _ h => by cases h; exact Try.underlying137) (fun k x h => by rw [Tr.get_nil] at h; cases h) (fun k x h => by rw [Tr.get_nil] at h; cases h)
noncomputable def tabUnd_223 : Tr (TypeDesc) := Tr.node (some Try.t73.desc) tabUnd_224 Tr.nil
theorem tabUnd_223_all : ∀ k x, tabUnd_223.get k = some x → (fun n x => Try.prog.underlying n = some x) (64 * k + 73) x := Tr.node_all (P := fun n x => Try.prog.underlying n = some x) (a := 64) (b := 73) (fun _ h => by cases h; exact Try.underlying73) tabUnd_224_all (fun k x h => by rw [Tr.get_nil] at h; cases h)
noncomputable def tabUnd_225 : Tr (TypeDesc) := Tr.node (some Try.t105.desc) Tr.nil Tr.nil
theorem tabUnd_225_all : ∀ k x, tabUnd_225.get k = some x → (fun n x => Try.prog.underlying n = some x) (64 * k + 105) x := Tr.node_all (P := fun n x => Try.prog.underlying n = some x) (a := 64) (b := 105) (fun _ h => by cases h; exact Try.underlying105) (fun k x h => by rw [Tr.get_nil] at h; cases h) (fun k x h => by rw [Tr.get_nil] at h; cases h)
noncomputable def tabUnd_222 : Tr (TypeDesc) := Tr.node (some Try.t41.desc) tabUnd_223 tabUnd_225
theorem tabUnd_222_all : ∀ k x, tabUnd_222.get k = some x → (fun n x => Try.prog.underlying n = some x) (32 * k + 41) x := Tr.node_all (P := fun n x => Try.prog.underlying n = some x) (a := 32) (b := 41) (fun _ h => by cases h; exact Try.underlying41) tabUnd_223_all tabUnd_225_all
noncomputable def tabUnd_228 : Tr (TypeDesc) := Tr.node (some Try.t152.desc) Tr.nil Tr.nil
theorem tabUnd_228_all : ∀ k x, tabUnd_228.get k = some x → (fun n x => Try.prog.underlying n = some x) (128 * k + 153) x := Tr.node_all (P := fun n x => Try.prog.underlying n = some x) (a := 128) (b := 153) (fun _ h => by cases h; exact Try.underlying153) (fun k x h => by rw [Tr.get_nil] at h; cases h) (fun k x h => by rw [Tr.get_nil] at h; cases h)
noncomputable def tabUnd_227 : Tr (TypeDesc) := Tr.node (some Try.t89.desc) tabUnd_228 Tr.nil
theorem tabUnd_227_all : ∀ k x, tabUnd_227.get k = some x → (fun n x => Try.prog.underlying n = some x) (64 * k + 89) x := Tr.node_all (P := fun n x => Try.prog.underlying n = some x) (a := 64) (b := 89) (fun _ h => by cases h; exact Try.underlying89) tabUnd_228_all (fun k x h => by rw [Tr.get_nil] at h; cases h)
noncomputable def tabUnd_229 : Tr (TypeDesc) := Tr.node (some Try.t121.desc) Tr.nil Tr.nil
theorem tabUnd_229_all : ∀ k x, tabUnd_229.get k = some x → (fun n x => Try.prog.underlying n = some x) (64 * k + 121) x := Tr.node_all (P := fun n x => Try.prog.underlying n = some x) (a := 64) (b := 121) (fun _ h => by cases h; exact Try.underlying121) (fun k x h => by rw [Tr.get_nil] at h; cases h) (fun k x h => by rw [Tr.get_nil] at h; cases h)
noncomputable def tabUnd_226 : Tr (TypeDesc) := Tr.node (some Try.t57.desc) tabUnd_227 tabUnd_229
theorem tabUnd_226_all : ∀ k x, tabUnd_226.get k = some x → (fun n x => Try.prog.underlying n = some x) (32 * k + 57) x := Tr.node_all (P := fun n x => Try.prog.underlying n = some x) (a := 32) (b := 57) (fun _ h => by cases h; exact Try.underlying57) tabUnd_227_all tabUnd_229_all
noncomputable def tabUnd_221 : Tr (TypeDesc) := Tr.node (some Try.t24.desc) tabUnd_222 tabUnd_226
theorem tabUnd_221_all : ∀ k x, tabUnd_221.get k = some x → (fun n x => Try.prog.underlying n = some x) (16 * k + 25) x := Tr.node_all (P := fun n x => Try.prog.underlying n = some x) (a := 16) (b := 25) (fun _ h => by cases h; exact Try.underlying25) tabUnd_222_all tabUnd_226_all
noncomputable def tabUnd_210 : Tr (TypeDesc) := Tr.node (some Try.t9.desc) tabUnd_211 tabUnd_221
theorem tabUnd_210_all : ∀ k x, tabUnd_210.get k = some x → (fun n x => Try.prog.underlying n = some x) (8 * k + 9) x := Tr.node_all (P := fun n x => Try.prog.underlying n = some x) (a := 8) (b := 9) (fun _ h => by cases h; exact Try.underlying9) tabUnd_211_all tabUnd_221_all
noncomputable def tabUnd_234 : Tr (TypeDesc) := Tr.node (some Try.t133.desc) Tr.nil Tr.nil
theorem tabUnd_234_all : ∀ k x, tabUnd_234.get k = some x → (fun n x => Try.prog.underlying n = some x) (128 * k + 133) x := Tr.node_all (P := fun n x => Try.prog.underlying n = some x) (a := 128) (b := 133) (fun _ h => by cases h; exact Try.underlying133) (fun k x h => by rw [Tr.get_nil] at h; cases h) (fun k x h => by rw [Tr.get_nil] at h; cases h)
noncomputable def tabUnd_233 : Tr (TypeDesc) := Tr.node (some Try.t68.desc) tabUnd_234 Tr.nil
theorem tabUnd_233_all : ∀ k x, tabUnd_233.get k = some x → (fun n x => Try.prog.underlying n = some x) (64 * k + 69) x := Tr.node_all (P := fun n x => Try.prog.underlying n = some x) (a := 64) (b := 69) (fun _ h => by cases h; exact Try.underlying69) tabUnd_234_all (fun k x h => by rw [Tr.get_nil] at h; cases h)
noncomputable def tabUnd_235 : Tr (TypeDesc) := Tr.node (some Try.t101.desc) Tr.nil Tr.nil
theorem tabUnd_235_all : ∀ k x, tabUnd_235.get k = some x → (fun n x => Try.prog.underlying n = some x) (64 * k + 101) x := Tr.node_all (P := fun n x => Try.prog.underlying n = some x) (a := 64) (b := 101) (fun _ h => by cases h; exact Try.underlying101) (fun k x h => by rw [Tr.get_nil] at h; cases h) (fun k x h => by rw [Tr.get_nil] at h; cases h)
noncomputable def tabUnd_232 : Tr (TypeDesc) := Tr.node (some Try.t37.desc) tabUnd_233 tabUnd_235
theorem tabUnd_232_all : ∀ k x, tabUnd_232.get k = some x → (fun n x => Try.prog.underlying n = some x) (32 * k + 37) x := Tr.node_all (P := fun n x => Try.prog.underlying n = some x) (a := 32) (b := 37) (fun _ h => by cases h; exact Try.underlying37) tabUnd_233_all tabUnd_235_all
noncomputable def tabUnd_238 : Tr (TypeDesc) := Tr.node (some Try.t149.desc) Tr.nil Tr.nil
theorem tabUnd_238_all : ∀ k x, tabUnd_238.get k = some x → (fun n x => Try.prog.underlying n = some x) (128 * k + 149) x := Tr.node_all (P := fun n x => Try.prog.underlying n = some x) (a := 128) (b := 149) (fun _ h => by cases h; exact Try.underlying149) (fun k x h => by rw [Tr.get_nil] at h; cases h) (fun k x h => by rw [Tr.get_nil] at h; cases h)
noncomputable def tabUnd_237 : Tr (TypeDesc) := Tr.node (some Try.t85.desc) tabUnd_238 Tr.nil
theorem tabUnd_237_all : ∀ k x, tabUnd_237.get k = some x → (fun n x => Try.prog.underlying n = some x) (64 * k + 85) x := Tr.node_all (P := fun n x => Try.prog.underlying n = some x) (a := 64) (b := 85) (fun _ h => by cases h; exact Try.underlying85) tabUnd_238_all (fun k x h => by rw [Tr.get_nil] at h; cases h)
noncomputable def tabUnd_239 : Tr (TypeDesc) := Tr.node (some Try.t117.desc) Tr.nil Tr.nil
theorem tabUnd_239_all : ∀ k x, tabUnd_239.get k = some x → (fun n x => Try.prog.underlying n = some x) (64 * k + 117) x := Tr.node_all (P := fun n x => Try.prog.underlying n = some x) (a := 64) (b := 117) (fun _ h => by cases h; exact Try.underlying117) (fun k x h => by rw [Tr.get_nil] at h; cases h) (fun k x h => by rw [Tr.get_nil] at h; cases h)
noncomputable def tabUnd_236 : Tr (TypeDesc) := Tr.node (some Try.t53.desc) tabUnd_237 tabUnd_239
theorem tabUnd_236_all : ∀ k x, tabUnd_236.get k = some x → (fun n x => Try.prog.underlying n = some x) (32 * k + 53) x := Tr.node_all (P := fun n x => Try.prog.underlying n = some x) (a := 32) (b := 53) (fun _ h => by cases h; exact Try.underlying53) tabUnd_237_all tabUnd_239_all
noncomputable def tabUnd_231 : Tr (TypeDesc) := Tr.node (some Try.t21.desc) tabUnd_232 tabUnd_236
theorem tabUnd_231_all : ∀ k x, tabUnd_231.get k = some x → (fun n x => Try.prog.underlying n = some x) (16 * k + 21) x := Tr.node_all (P := fun n x => Try.prog.underlying n = some x) (a := 16) (b := 21) (fun _ h => by cases h; exact Try.underlying21) tabUnd_232_all tabUnd_236_all
noncomputable def tabUnd_243 : Tr (TypeDesc) := Tr.node (some Try.t141.desc) Tr.nil Tr.nil
theorem tabUnd_243_all : ∀ k x, tabUnd_243.get k = some x → (fun n x => Try.prog.underlying n = some x) (128 * k + 141) x := Tr.node_all (P := fun n x => Try.prog.underlying n = some x) (a := 128) (b := 141) (fun _ h => by cases h; exact Try.underlying141) (fun k x h => by rw [Tr.get_nil] at h; cases h) (fun k x h => by rw [Tr.get_nil] at h; cases h)
noncomputable def tabUnd_242 : Tr (TypeDesc) := Tr.node (some Try.t77.desc) tabUnd_243 Tr.nil
theorem tabUnd_242_all : ∀ k x, tabUnd_242.get k = some x → (fun n x => Try.prog.underlying n = some x) (64 * k + 77) x := Tr.node_all (P := fun n x => Try.prog.underlying n = some x) (a := 64) (b := 77) (fun _ h => by cases h; exact Try.underlying77) tabUnd_243_all (fun k x h => by rw [Tr.get_nil] at h; cases h)
noncomputable def tabUnd_244 : Tr (TypeDesc) := Tr.node (some Try.t109.desc) Tr.nil Tr.nil
theorem tabUnd_244_all : ∀ k x, tabUnd_244.get k = some x → (fun n x => Try.prog.underlying n = some x) (64 * k + 109) x := Tr.node_all (P := fun n x => Try.prog.underlying n = some x) (a := 64) (b := 109) (fun _ h => by cases h; exact Try.underlying109) (fun k x h => by rw [Tr.get_nil] at h; cases h) (fun k x h => by rw [Tr.get_nil] at h; cases h)
noncomputable def tabUnd_241 : Tr (TypeDesc) := Tr.node (some Try.t45.desc) tabUnd_242 tabUnd_244
theorem tabUnd_241_all : ∀ k x, tabUnd_241.get k = some x → (fun n x => Try.prog.underlying n = some x) (32 * k + 45) x := Tr.node_all (P := fun n x => Try.prog.underlying n = some x) (a := 32) (b := 45) (fun _ h => by cases h; exact Try.underlying45) tabUnd_242_all tabUnd_244_all
noncomputable def tabUnd_247 : Tr (TypeDesc) := Tr.node (some Try.t5.desc) Tr.nil Tr.nil
theorem tabUnd_247_all : ∀ k x, tabUnd_247.get k = some x → (fun n x => Try.prog.underlying n = some x) (128 * k + 157) x := Tr.node_all (P := fun n x => Try.prog.underlying n = some x) (a := 128) (b := 157) (fun _ h => by cases h; exact Try.underlying157) (fun k x h => by rw [Tr.get_nil] at h; cases h) (fun k x h => by rw [Tr.get_nil] at h; cases h)
noncomputable def tabUnd_246 : Tr (TypeDesc) := Tr.node (some Try.t93.desc) tabUnd_247 Tr.nil
theorem tabUnd_246_all : ∀ k x, tabUnd_246.get k = some x → (fun n x => Try.prog.underlying n = some x) (64 * k + 93) x := Tr.node_all (P := fun n x => Try.prog.underlying n = some x) (a := 64) (b := 93) (fun _ h => by cases h; exact Try.underlying93) tabUnd_247_all (fun k x h => by rw [Tr.get_nil] at h; cases h)
noncomputable def tabUnd_248 : Tr (TypeDesc) := Tr.node (some Try.t125.desc) Tr.nil Tr.nil
theorem tabUnd_248_all : ∀ k x, tabUnd_248.get k = some x → (fun n x => Try.prog.underlying n = some x) (64 * k + 125) x := Tr.node_all (P := fun n x => Try.prog.underlying n = some x) (a := 64) (b := 125) (fun _ h => by cases h; exact Try.underlying125) (fun k x h => by rw [Tr.get_nil] at h; cases h) (fun k x h => by rw [Tr.get_nil] at h; cases h)
noncomputable def tabUnd_245 : Tr (TypeDesc) := Tr.node (some Try.t61.desc) tabUnd_246 tabUnd_248
theorem tabUnd_245_all : ∀ k x, tabUnd_245.get k = some x → (fun n x => Try.prog.underlying n = some x) (32 * k + 61) x := Tr.node_all (P := fun n x => Try.prog.underlying n = some x) (a := 32) (b := 61) (fun _ h => by cases h; exact Try.underlying61) tabUnd_246_all tabUnd_248_all
noncomputable def tabUnd_240 : Tr (TypeDesc) := Tr.node (some Try.t29.desc) tabUnd_241 tabUnd_245
theorem tabUnd_240_all : ∀ k x, tabUnd_240.get k = some x → (fun n x => Try.prog.underlying n = some x) (16 * k + 29) x := Tr.node_all (P := fun n x => Try.prog.underlying n = some x) (a := 16) (b := 29) (fun _ h => by cases h; exact Try.underlying29) tabUnd_241_all tabUnd_245_all
noncomputable def tabUnd_230 : Tr (TypeDesc) := Tr.node (some Try.t13.desc) tabUnd_231 tabUnd_240
theorem tabUnd_230_all : ∀ k x, tabUnd_230.get k = some x → (fun n x => Try.prog.underlying n = some x) (8 * k + 13) x := Tr.node_all (P := fun n x => Try.prog.underlying n = some x) (a := 8) (b := 13) (fun _ h => by cases h; exact Try.underlying13) tabUnd_231_all tabUnd_240_all
noncomputable def tabUnd_209 : Tr (TypeDesc) := Tr.node (some Try.t5.desc) tabUnd_210 tabUnd_230
theorem tabUnd_209_all : ∀ k x, tabUnd_209.get k = some x → (fun n x => Try.prog.underlying n = some x) (4 * k + 5) x := Tr.node_all (P := fun n x => Try.prog.underlying n = some x) (a := 4) (b := 5) (fun _ h => by cases h; exact Try.underlying5) tabUnd_210_all tabUnd_230_all
noncomputable def tabUnd_167 : Tr (TypeDesc) := Tr.node (some Try.t1.desc) tabUnd_168 tabUnd_209
theorem tabUnd_167_all : ∀ k x, tabUnd_167.get k = some x → (fun n x => Try.prog.underlying n = some x) (2 * k + 1) x := Tr.node_all (P := fun n x => Try.prog.underlying n = some x) (a := 2) (b := 1) (fun _ h => by cases h; exact Try.underlying1) tabUnd_168_all tabUnd_209_all
noncomputable def tabUnd_255 : Tr (TypeDesc) := Tr.node (some Try.t128.desc) Tr.nil Tr.nil
theorem tabUnd_255_all : ∀ k x, tabUnd_255.get k = some x → (fun n x => Try.prog.underlying n = some x) (128 * k + 128) x := Tr.node_all (P := fun n x => Try.prog.underlying n = some x) (a := 128) (b := 128) (fun _ h => by cases h; exact Try.underlying128) (fun k x h => by rw [Tr.get_nil] at h; cases h) (fun k x h => by rw [Tr.get_nil] at h; cases h)
noncomputable def tabUnd_254 : Tr (TypeDesc) := Tr.node (some Try.t64.desc) tabUnd_255 Tr.nil
theorem tabUnd_254_all : ∀ k x, tabUnd_254.get k = some x → (fun n x => Try.prog.underlying n = some x) (64 * k + 64) x := Tr.node_all (P := fun n x => Try.prog.underlying n = some x) (a := 64) (b := 64) (fun _ h => by cases h; exact Try.underlying64) tabUnd_255_all (fun k x h => by rw [Tr.get_nil] at h; cases h)
noncomputable def tabUnd_257 : Tr (TypeDesc) := Tr.node (some Try.t21.desc) Tr.nil Tr.nil
theorem tabUnd_257_all : ∀ k x, tabUnd_257.get k = some x → (fun n x => Try.prog.underlying n = some x) (128 * k + 160) x := Tr.node_all (P := fun n x => Try.prog.underlying n = some x) (a := 128) (b := 160) (fun _ h => by cases h; exact Try.underlying160) (fun k x h => by rw [Tr.get_nil] at h; cases h) (fun k x h => by rw [Tr.get_nil] at h; cases h)
noncomputable def tabUnd_256 : Tr (TypeDesc) := Tr.node (some Try.t96.desc) tabUnd_257 Tr.nil
theorem tabUnd_256_all : ∀ k x, tabUnd_256.get k = some x → (fun n x => Try.prog.underlying n = some x) (64 * k + 96) x := Tr.node_all (P := fun n x => Try.prog.underlying n = some x) (a := 64) (b := 96) (fun _ h => by cases h; exact Try.underlying96) tabUnd_257_all (fun k x h => by rw [Tr.get_nil] at h; cases h)
noncomputable def tabUnd_253 : Tr (TypeDesc) := Tr.node (some Try.t32.desc) tabUnd_254 tabUnd_256
theorem tabUnd_253_all : ∀ k x, tabUnd_253.get k = some x → (fun n x => Try.prog.underlying n = some x) (32 * k + 32) x := Tr.node_all (P := fun n x => Try.prog.underlying n = some x) (a := 32) (b := 32) (fun _ h => by cases h; exact Try.underlying32) tabUnd_254_all tabUnd_256_all
noncomputable def tabUnd_260 : Tr (TypeDesc) := Tr.node (some Try.t144.desc) Tr.nil Tr.nil
theorem tabUnd_260_all : ∀ k x, tabUnd_260.get k = some x → (fun n x => Try.prog.underlying n = some x) (128 * k + 144) x := Tr.node_all (P := fun n x => Try.prog.underlying n = some x) (a := 128) (b := 144) (fun _ h => by cases h; exact Try.underlying144) (fun k x h => by rw [Tr.get_nil] at h; cases h) (fun k x h => by rw [Tr.get_nil] at h; cases h)
noncomputable def tabUnd_259 : Tr (TypeDesc) := Tr.node (some Try.t80.desc) tabUnd_260 Tr.nil
theorem tabUnd_259_all : ∀ k x, tabUnd_259.get k = some x → (fun n x => Try.prog.underlying n = some x) (64 * k + 80) x := Tr.node_all (P := fun n x => Try.prog.underlying n = some x) (a := 64) (b := 80) (fun _ h => by cases h; exact Try.underlying80) tabUnd_260_all (fun k x h => by rw [Tr.get_nil] at h; cases h)
noncomputable def tabUnd_261 : Tr (TypeDesc) := Tr.node (some Try.t112.desc) Tr.nil Tr.nil
theorem tabUnd_261_all : ∀ k x, tabUnd_261.get k = some x → (fun n x => Try.prog.underlying n = some x) (64 * k + 112) x := Tr.node_all (P := fun n x => Try.prog.underlying n = some x) (a := 64) (b := 112) (fun _ h => by cases h; exact Try.underlying112) (fun k x h => by rw [Tr.get_nil] at h; cases h) (fun k x h => by rw [Tr.get_nil] at h; cases h)
noncomputable def tabUnd_258 : Tr (TypeDesc) := Tr.node (some Try.t48.desc) tabUnd_259 tabUnd_261
theorem tabUnd_258_all : ∀ k x, tabUnd_258.get k = some x → (fun n x => Try.prog.underlying n = some x) (32 * k + 48) x := Tr.node_all (P := fun n x => Try.prog.underlying n = some x) (a := 32) (b := 48) (fun _ h => by cases h; exact Try.underlying48) tabUnd_259_all tabUnd_261_all
noncomputable def tabUnd_252 : Tr (TypeDesc) := Tr.node (some Try.t16.desc) tabUnd_253 tabUnd_258
theorem tabUnd_252_all : ∀ k x, tabUnd_252.get k = some x → (fun n x => Try.prog.underlying n = some x) (16 * k + 16) x := Tr.node_all (P := fun n x => Try.prog.underlying n = some x) (a := 16) (b := 16) (fun _ h => by cases h; exact Try.underlying16) tabUnd_253_all tabUnd_258_all
noncomputable def tabUnd_265 : Tr (TypeDesc) := Tr.node (some Try.t136.desc) Tr.nil Tr.nil
theorem tabUnd_265_all : ∀ k x, tabUnd_265.get k = some x → (fun n x => Try.prog.underlying n = some x) (128 * k + 136) x := Tr.node_all (P := fun n x => Try.prog.underlying n = some x) (a := 128) (b := 136) (fun _ h => by cases h; exact Try.underlying136) (fun k x h => by rw [Tr.get_nil] at h; cases h) (fun k x h => by rw [Tr.get_nil] at h; cases h)
noncomputable def tabUnd_264 : Tr (TypeDesc) := Tr.node (some Try.t72.desc) tabUnd_265 Tr.nil
theorem tabUnd_264_all : ∀ k x, tabUnd_264.get k = some x → (fun n x => Try.prog.underlying n = some x) (64 * k + 72) x := Tr.node_all (P := fun n x => Try.prog.underlying n = some x) (a := 64) (b := 72) (fun _ h => by cases h; exact Try.underlying72) tabUnd_265_all (fun k x h => by rw [Tr.get_nil] at h; cases h)
noncomputable def tabUnd_266 : Tr (TypeDesc) := Tr.node (some Try.t104.desc) Tr.nil Tr.nil
theorem tabUnd_266_all : ∀ k x, tabUnd_266.get k = some x → (fun n x => Try.prog.underlying n = some x) (64 * k + 104) x := Tr.node_all (P := fun n x => Try.prog.underlying n = some x) (a := 64) (b := 104) (fun _ h => by cases h; exact Try.underlying104) (fun k x h => by rw [Tr.get_nil] at h; cases h) (fun k x h => by rw [Tr.get_nil] at h; cases h)
noncomputable def tabUnd_263 : Tr (TypeDesc) := Tr.node (some Try.t40.desc) tabUnd_264 tabUnd_266
theorem tabUnd_263_all : ∀ k x, tabUnd_263.get k = some x → (fun n x => Try.prog.underlying n = some x) (32 * k + 40) x := Tr.node_all (P := fun n x => Try.prog.underlying n = some x) (a := 32) (b := 40) (fun _ h => by cases h; exact Try.underlying40) tabUnd_264_all tabUnd_266_all
noncomputable def tabUnd_269 : Tr (TypeDesc) := Tr.node (some Try.t152.desc) Tr.nil Tr.nil
theorem tabUnd_269_all : ∀ k x, tabUnd_269.get k = some x → (fun n x => Try.prog.underlying n = some x) (128 * k + 152) x := Tr.node_all (P := fun n x => Try.prog.underlying n = some x) (a := 128) (b := 152) (fun _ h => by cases h; exact Try.underlying152) (fun k x h => by rw [Tr.get_nil] at h; cases h) (fun k x h => by rw [Tr.get_nil] at h; cases h)
noncomputable def tabUnd_268 : Tr (TypeDesc) := Tr.node (some Try.t88.desc) tabUnd_269 Tr.nil
theorem tabUnd_268_all : ∀ k x, tabUnd_268.get k = some x → (fun n x => Try.prog.underlying n = some x) (64 * k + 88) x := Tr.node_all (P := fun n x => Try.prog.underlying n = some x) (a := 64) (b := 88) (fun _ h => by cases h; exact Try.underlying88) tabUnd_269_all (fun k x h => by rw [Tr.get_nil] at h; cases h)
noncomputable def tabUnd_270 : Tr (TypeDesc) := Tr.node (some Try.t120.desc) Tr.nil Tr.nil
theorem tabUnd_270_all : ∀ k x, tabUnd_270.get k = some x → (fun n x => Try.prog.underlying n = some x) (64 * k + 120) x := Tr.node_all (P := fun n x => Try.prog.underlying n = some x) (a := 64) (b := 120) (fun _ h => by cases h; exact Try.underlying120) (fun k x h => by rw [Tr.get_nil] at h; cases h) (fun k x h => by rw [Tr.get_nil] at h; cases h)
noncomputable def tabUnd_267 : Tr (TypeDesc) := Tr.node (some Try.t56.desc) tabUnd_268 tabUnd_270
theorem tabUnd_267_all : ∀ k x, tabUnd_267.get k = some x → (fun n x => Try.prog.underlying n = some x) (32 * k + 56) x := Tr.node_all (P := fun n x => Try.prog.underlying n = some x) (a := 32) (b := 56) (fun _ h => by cases h; exact Try.underlying56) tabUnd_268_all tabUnd_270_all
noncomputable def tabUnd_262 : Tr (TypeDesc) := Tr.node (some Try.t24.desc) tabUnd_263 tabUnd_267
theorem tabUnd_262_all : ∀ k x, tabUnd_262.get k = some x → (fun n x => Try.prog.underlying n = some x) (16 * k + 24) x := Tr.node_all (P := fun n x => Try.prog.underlying n = some x) (a := 16) (b := 24) (fun _ h => by cases h; exact Try.underlying24) tabUnd_263_all tabUnd_267_all
noncomputable def tabUnd_251 : Tr (TypeDesc) := Tr.node (some Try.t7.desc) tabUnd_252 tabUnd_262
theorem tabUnd_251_all : ∀ k x, tabUnd_251.get k = some x → (fun n x => Try.prog.underlying n = some x) (8 * k + 8) x := Tr.node_all (P := fun n x => Try.prog.underlying n = some x) (a := 8) (b := 8) (fun _ h => by cases h; exact Try.underlying8) tabUnd_252_all tabUnd_262_all
noncomputable def tabUnd_275 : Tr (TypeDesc) := Tr.node (some Try.t132.desc) Tr.nil Tr.nil
theorem tabUnd_275_all : ∀ k x, tabUnd_275.get k = some x → (fun n x => Try.prog.underlying n = some x) (128 * k + 132) x := Tr.node_all (P := fun n x => Try.prog.underlying n = some x) (a := 128) (b := 132) (fun _ h => by cases h; exact Try.underlying132) (fun k x h => by rw [Tr.get_nil] at h; cases h) (fun k x h => by rw [Tr.get_nil] at h; cases h)
noncomputable def tabUnd_274 : Tr (TypeDesc) := Tr.node (some Try.t68.desc) tabUnd_275 Tr.nil
theorem tabUnd_274_all : ∀ k x, tabUnd_274.get k = some x → (fun n x => Try.prog.underlying n = some x) (64 * k + 68) x := Tr.node_all (P := fun n x => Try.prog.underlying n = some x) (a := 64) (b := 68) (fun _ h => by cases h; exact Try.underlying68) tabUnd_275_all (fun k x h => by rw [Tr.get_nil] at h; cases h)
noncomputable def tabUnd_277 : Tr (TypeDesc) := Tr.node (some Try.t164.desc) Tr.nil Tr.nil
theorem tabUnd_277_all : ∀ k x, tabUnd_277.get k = some x → (fun n x => Try.prog.underlying n = some x) (128 * k + 164) x := Tr.node_all (P := fun n x => Try.prog.underlying n = some x) (a := 128) (b := 164) (fun _ h => by cases h; exact Try.underlying164) (fun k x h => by rw [Tr.get_nil] at h; cases h) (fun k x h => by rw [Tr.get_nil] at h; cases h)
noncomputable def tabUnd_276 : Tr (TypeDesc) := Tr.node (some Try.t100.desc) tabUnd_277 Tr.nil
theorem tabUnd_276_all : ∀ k x, tabUnd_276.get k = some x → (fun n x => Try.prog.underlying n = some x) (64 * k + 100) x := Tr.node_all (P := fun n x => Try.prog.underlying n = some x) (a := 64) (b := 100) (fun _ h => by cases h; exact Try.underlying100) tabUnd_277_all (fun k x h => by rw [Tr.get_nil] at h; cases h)
noncomputable def tabUnd_273 : Tr (TypeDesc) := Tr.node (some Try.t36.desc) tabUnd_274 tabUnd_276
theorem tabUnd_273_all : ∀ k x, tabUnd_273.get k = some x → (fun n x => Try.prog.underlying n = some x) (32 * k + 36) x := Tr.node_all (P := fun n x => Try.prog.underlying n = some x) (a := 32) (b := 36) (fun _ h => by cases h; exact Try.underlying36) tabUnd_274_all tabUnd_276_all
noncomputable def tabUnd_280 : Tr (TypeDesc) := Tr.node (some Try.t148.desc) Tr.nil Tr.nil
theorem tabUnd_280_all : ∀ k x, tabUnd_280.get k = some x → (fun n x => Try.prog.underlying n = some x) (128 * k + 148) x := Tr.node_all (P := fun n x => Try.prog.underlying n = some x) (a := 128) (b := 148) (fun _ h => by cases h; exact Try.underlying148) (fun k x h => by rw [Tr.get_nil] at h; cases h) (fun k x h => by rw [Tr.get_nil] at h; cases h)
noncomputable def tabUnd_279 : Tr (TypeDesc) := Tr.node (some Try.t84.desc) tabUnd_280 Tr.nil
theorem tabUnd_279_all : ∀ k x, tabUnd_279.get k = some x → (fun n x => Try.prog.underlying n = some x) (64 * k + 84) x := Tr.node_all (P := fun n x => Try.prog.underlying n = some x) (a := 64) (b := 84) (fun _ h => by cases h; exact Try.underlying84) tabUnd_280_all (fun k x h => by rw [Tr.get_nil] at h; cases h)
noncomputable def tabUnd_281 : Tr (TypeDesc) := Tr.node (some Try.t115.desc) Tr.nil Tr.nil
theorem tabUnd_281_all : ∀ k x, tabUnd_281.get k = some x → (fun n x => Try.prog.underlying n = some x) (64 * k + 116) x := Tr.node_all (P := fun n x => Try.prog.underlying n = some x) (a := 64) (b := 116) (fun _ h => by cases h; exact Try.underlying116) (fun k x h => by rw [Tr.get_nil] at h; cases h) (fun k x h => by rw [Tr.get_nil] at h; cases h)
noncomputable def tabUnd_278 : Tr (TypeDesc) := Tr.node (some Try.t52.desc) tabUnd_279 tabUnd_281
theorem tabUnd_278_all : ∀ k x, tabUnd_278.get k = some x → (fun n x => Try.prog.underlying n = some x) (32 * k + 52) x := Tr.node_all (P := fun n x => Try.prog.underlying n = some x) (a := 32) (b := 52) (fun _ h => by cases h; exact Try.underlying52) tabUnd_279_all tabUnd_281_all
noncomputable def tabUnd_272 : Tr (TypeDesc) := Tr.node (some Try.t20.desc) tabUnd_273 tabUnd_278
theorem tabUnd_272_all : ∀ k x, tabUnd_272.get k = some x → (fun n x => Try.prog.underlying n = some x) (16 * k + 20) x := Tr.node_all (P := fun n x => Try.prog.underlying n = some x) (a := 16) (b := 20) (fun _ h => by cases h; exact Try.underlying20) tabUnd_273_all tabUnd_278_all
noncomputable def tabUnd_285 : Tr (TypeDesc) := Tr.node (some Try.t140.desc) Tr.nil Tr.nil
theorem tabUnd_285_all : ∀ k x, tabUnd_285.get k = some x → (fun n x => Try.prog.underlying n = some x) (128 * k + 140) x := Tr.node_all (P := fun n x => Try.prog.underlying n = some x) (a := 128) (b := 140) (fun _ h => by cases h; exact Try.underlying140) (fun k x h => by rw [Tr.get_nil] at h; cases h) (fun k x h => by rw [Tr.get_nil] at h; cases h)
noncomputable def tabUnd_284 : Tr (TypeDesc) := Tr.node (some Try.t76.desc) tabUnd_285 Tr.nil
theorem tabUnd_284_all : ∀ k x, tabUnd_284.get k = some x → (fun n x => Try.prog.underlying n = some x) (64 * k + 76) x := Tr.node_all (P := fun n x => Try.prog.underlying n = some x) (a := 64) (b := 76) (fun _ h => by cases h; exact Try.underlying76) tabUnd_285_all (fun k x h => by rw [Tr.get_nil] at h; cases h)
noncomputable def tabUnd_286 : Tr (TypeDesc) := Tr.node (some Try.t108.desc) Tr.nil Tr.nil
theorem tabUnd_286_all : ∀ k x, tabUnd_286.get k = some x → (fun n x => Try.prog.underlying n = some x) (64 * k + 108) x := Tr.node_all (P := fun n x => Try.prog.underlying n = some x) (a := 64) (b := 108) (fun _ h => by cases h; exact Try.underlying108) (fun k x h => by rw [Tr.get_nil] at h; cases h) (fun k x h => by rw [Tr.get_nil] at h; cases h)
noncomputable def tabUnd_283 : Tr (TypeDesc) := Tr.node (some Try.t44.desc) tabUnd_284 tabUnd_286
theorem tabUnd_283_all : ∀ k x, tabUnd_283.get k = some x → (fun n x => Try.prog.underlying n = some x) (32 * k + 44) x := Tr.node_all (P := fun n x => Try.prog.underlying n = some x) (a := 32) (b := 44) (fun _ h => by cases h; exact Try.underlying44) tabUnd_284_all tabUnd_286_all
noncomputable def tabUnd_289 : Tr (TypeDesc) := Tr.node (some Try.t5.desc) Tr.nil Tr.nil
theorem tabUnd_289_all : ∀ k x, tabUnd_289.get k = some x → (fun n x => Try.prog.underlying n = some x) (128 * k + 156) x := Tr.node_all (P := fun n x => Try.prog.underlying n = some x) (a := 128) (b := 156) (fun _ h => by cases h; exact Try.underlying156) (fun k x h => by rw [Tr.get_nil] at h; cases h) (fun k x h => by rw [Tr.get_nil] at h; cases h)
noncomputable def tabUnd_288 : Tr (TypeDesc) := Tr.node (some Try.t92.desc) tabUnd_289 Tr.nil
theorem tabUnd_288_all : ∀ k x, tabUnd_288.get k = some x → (fun n x => Try.prog.underlying n = some x) (64 * k + 92) x := Tr.node_all (P := fun n x => Try.prog.underlying n = some x) (a := 64) (b := 92) (fun _ h => by cases h; exact Try.underlying92) tabUnd_289_all (fun k x h => by rw [Tr.get_nil] at h; cases h)
noncomputable def tabUnd_290 : Tr (TypeDesc) := Tr.node (some Try.t124.desc) Tr.nil Tr.nil
theorem tabUnd_290_all : ∀ k x, tabUnd_290.get k = some x → (fun n x => Try.prog.underlying n = some x) (64 * k + 124) x := Tr.node_all (P := fun n x => Try.prog.underlying n = some x) (a := 64) (b := 124) (fun _ h => by cases h; exact Try.underlying124) (fun k x h => by rw [Tr.get_nil] at h; cases h) (fun k x h => by rw [Tr.get_nil] at h; cases h)
noncomputable def tabUnd_287 : Tr (TypeDesc) := Tr.node (some Try.t60.desc) tabUnd_288 tabUnd_290
theorem tabUnd_287_all : ∀ k x, tabUnd_287.get k = some x → (fun n x => Try.prog.underlying n = some x) (32 * k + 60) x := Tr.node_all (P := fun n x => Try.prog.underlying n = some x) (a := 32) (b := 60) (fun _ h => by cases h; exact Try.underlying60) tabUnd_288_all tabUnd_290_all
noncomputable def tabUnd_282 : Tr (TypeDesc) := Tr.node (some Try.t24.desc) tabUnd_283 tabUnd_287
theorem tabUnd_282_all : ∀ k x, tabUnd_282.get k = some x → (fun n x => Try.prog.underlying n = some x) (16 * k + 28) x := Tr.node_all (P := fun n x => Try.prog.underlying n = some x) (a := 16) (b := 28) (fun _ h => by cases h; exact Try.underlying28) tabUnd_283_all tabUnd_287_all
noncomputable def tabUnd_271 : Tr (TypeDesc) := Tr.node (some Try.t12.desc) tabUnd_272 tabUnd_282
theorem tabUnd_271_all : ∀ k x, tabUnd_271.get k = some x → (fun n x => Try.prog.underlying n = some x) (8 * k + 12) x := Tr.node_all (P := fun n x => Try.prog.underlying n = some x) (a := 8) (b := 12) (fun _ h => by cases h; exact Try.underlying12) tabUnd_272_all tabUnd_282_all
noncomputable def tabUnd_250 : Tr (TypeDesc) := Tr.node (some Try.t4.desc) tabUnd_251 tabUnd_271
theorem tabUnd_250_all : ∀ k x, tabUnd_250.get k = some x → (fun n x => Try.prog.underlying n = some x) (4 * k + 4) x := Tr.node_all (P := fun n x => Try.prog.underlying n = some x) (a := 4) (b := 4) (fun _ h => by cases h; exact Try.underlying4) tabUnd_251_all tabUnd_271_all
noncomputable def tabUnd_296 : Tr (TypeDesc) := Tr.node (some Try.t130.desc) Tr.nil Tr.nil
theorem tabUnd_296_all : ∀ k x, tabUnd_296.get k = some x → (fun n x => Try.prog.underlying n = some x) (128 * k + 130) x := Tr.node_all (P := fun n x => Try.prog.underlying n = some x) (a := 128) (b := 130) (fun _ h => by cases h; exact Try.underlying130) (fun k x h => by rw [Tr.get_nil] at h; cases h) (fun k x h => by rw [Tr.get_nil] at h; cases h)
noncomputable def tabUnd_295 : Tr (TypeDesc) := Tr.node (some Try.t66.desc) tabUnd_296 Tr.nil
theorem tabUnd_295_all : ∀ k x, tabUnd_295.get k = some x → (fun n x => Try.prog.underlying n = some x) (64 * k + 66) x := Tr.node_all (P := fun n x => Try.prog.underlying n = some x) (a := 64) (b := 66) (fun _ h => by cases h; exact Try.underlying66) tabUnd_296_all (fun k x h => by rw [Tr.get_nil] at h; cases h)
noncomputable def tabUnd_298 : Tr (TypeDesc) := Tr.node (some Try.t162.desc) Tr.nil Tr.nil
theorem tabUnd_298_all : ∀ k x, tabUnd_298.get k = some x → (fun n x => Try.prog.underlying n = some x) (128 * k + 162) x := Tr.node_all (P := fun n x => Try.prog.underlying n = some x) (a := 128) (b := 162) (fun _ h => by cases h; exact Try.underlying162) (fun k x h => by rw [Tr.get_nil] at h; cases h) (fun k x h => by rw [Tr.get_nil] at h; cases h)
noncomputable def tabUnd_297 : Tr (TypeDesc) := Tr.node (some Try.t98.desc) tabUnd_298 Tr.nil
theorem tabUnd_297_all : ∀ k x, tabUnd_297.get k = some x → (fun n x => Try.prog.underlying n = some x) (64 * k + 98) x := Tr.node_all (P := fun n x => Try.prog.underlying n = some x) (a := 64) (b := 98) (fun _ h => by cases h; exact Try.underlying98) tabUnd_298_all (fun k x h => by rw [Tr.get_nil] at h; cases h)
noncomputable def tabUnd_294 : Tr (TypeDesc) := Tr.node (some Try.t34.desc) tabUnd_295 tabUnd_297
theorem tabUnd_294_all : ∀ k x, tabUnd_294.get k = some x → (fun n x => Try.prog.underlying n = some x) (32 * k + 34) x := Tr.node_all (P := fun n x => Try.prog.underlying n = some x) (a := 32) (b := 34) (fun _ h => by cases h; exact Try.underlying34) tabUnd_295_all tabUnd_297_all
noncomputable def tabUnd_301 : Tr (TypeDesc) := Tr.node (some Try.t146.desc) Tr.nil Tr.nil
theorem tabUnd_301_all : ∀ k x, tabUnd_301.get k = some x → (fun n x => Try.prog.underlying n = some x) (128 * k + 146) x := Tr.node_all (P := fun n x => Try.prog.underlying n = some x) (a := 128) (b := 146) (fun _ h => by cases h; exact Try.underlying146) (fun k x h => by rw [Tr.get_nil] at h; cases h) (fun k x h => by rw [Tr.get_nil] at h; cases h)
noncomputable def tabUnd_300 : Tr (TypeDesc) := Tr.node (some Try.t82.desc) tabUnd_301 Tr.nil
theorem tabUnd_300_all : ∀ k x, tabUnd_300.get k = some x → (fun n x => Try.prog.underlying n = some x) (64 * k + 82) x := Tr.node_all (P := fun n x => Try.prog.underlying n = some x) (a := 64) (b := 82) (fun _ h => by cases h; exact Try.underlying82) tabUnd_301_all (fun k x h => by rw [Tr.get_nil] at h; cases h)
noncomputable def tabUnd_302 : Tr (TypeDesc) := Tr.node (some Try.t114.desc) Tr.nil Tr.nil
theorem tabUnd_302_all : ∀ k x, tabUnd_302.get k = some x → (fun n x => Try.prog.underlying n = some x) (64 * k + 114) x := Tr.node_all (P := fun n x => Try.prog.underlying n = some x) (a := 64) (b := 114) (fun _ h => by cases h; exact Try.underlying114) (fun k x h => by rw [Tr.get_nil] at h; cases h) (fun k x h => by rw [Tr.get_nil] at h; cases h)
noncomputable def tabUnd_299 : Tr (TypeDesc) := Tr.node (some Try.t50.desc) tabUnd_300 tabUnd_302
theorem tabUnd_299_all : ∀ k x, tabUnd_299.get k = some x → (fun n x => Try.prog.underlying n = some x) (32 * k + 50) x := Tr.node_all (P := fun n x => Try.prog.underlying n = some x) (a := 32) (b := 50) (fun _ h => by cases h; exact Try.underlying50) tabUnd_300_all tabUnd_302_all
noncomputable def tabUnd_293 : Tr (TypeDesc) := Tr.node (some Try.t18.desc) tabUnd_294 tabUnd_299
theorem tabUnd_293_all : ∀ k x, tabUnd_293.get k = some x → (fun n x => Try.prog.underlying n = some x) (16 * k + 18) x := Tr.node_all (P := fun n x => Try.prog.underlying n = some x) (a := 16) (b := 18) (fun _ h => by cases h; exact Try.underlying18) tabUnd_294_all tabUnd_299_all
noncomputable def tabUnd_306 : Tr (TypeDesc) := Tr.node (some Try.t138.desc) Tr.nil Tr.nil
theorem tabUnd_306_all : ∀ k x, tabUnd_306.get k = some x → (fun n x => Try.prog.underlying n = some x) (128 * k + 138) x := Tr.node_all (P := fun n x => Try.prog.underlying n = some x) (a := 128) (b := 138) (fun _ h => by cases h; exact Try.underlying138) (fun k x h => by rw [Tr.get_nil] at h; cases h) (fun k x h => by rw [Tr.get_nil] at h; cases h)
noncomputable def tabUnd_305 : Tr (TypeDesc) := Tr.node (some Try.t74.desc) tabUnd_306 Tr.nil
theorem tabUnd_305_all : ∀ k x, tabUnd_305.get k = some x → (fun n x => Try.prog.underlying n = some x) (64 * k + 74) x := Tr.node_all (P := fun n x => Try.prog.underlying n = some x) (a := 64) (b := 74) (fun _ h => by cases h; exact Try.underlying74) tabUnd_306_all (fun k x h => by rw [Tr.get_nil] at h; cases h)
noncomputable def tabUnd_307 : Tr (TypeDesc) := Tr.node (some Try.t106.desc) Tr.nil Tr.nil
theorem tabUnd_307_all : ∀ k x, tabUnd_307.get k = some x → (fun n x => Try.prog.underlying n = some x) (64 * k + 106) x := Tr.node_all (P := fun n x => Try.prog.underlying n = some x) (a := 64) (b := 106) (fun _ h => by cases h; exact Try.underlying106) (fun k x h => by rw [Tr.get_nil] at h; cases h) (fun k x h => by rw [Tr.get_nil] at h; cases h)
noncomputable def tabUnd_304 : Tr (TypeDesc) := Tr.node (some Try.t42.desc) tabUnd_305 tabUnd_307
theorem tabUnd_304_all : ∀ k x, tabUnd_304.get k = some x → (fun n x => Try.prog.underlying n = some x) (32 * k + 42) x := Tr.node_all (P := fun n x => Try.prog.underlying n = some x) (a := 32) (b := 42) (fun _ h => by cases h; exact Try.underlying42) tabUnd_305_all tabUnd_307_all
noncomputable def tabUnd_310 : Tr (TypeDesc) := Tr.node (some Try.t154.desc) Tr.nil Tr.nil
theorem tabUnd_310_all : ∀ k x, tabUnd_310.get k = some x → (fun n x => Try.prog.underlying n = some x) (128 * k + 154) x := Tr.node_all (P := fun n x => Try.prog.underlying n = some x) (a := 128) (b := 154) (fun _ h => by cases h; exact Try.underlying154) (fun k x h => by rw [Tr.get_nil] at h; cases h) (fun k x h => by rw [Tr.get_nil] at h; cases h)
noncomputable def tabUnd_309 : Tr (TypeDesc) := Tr.node (some Try.t89.desc) tabUnd_310 Tr.nil
theorem tabUnd_309_all : ∀ k x, tabUnd_309.get k = some x → (fun n x => Try.prog.underlying n = some x) (64 * k + 90) x := Tr.node_all (P := fun n x => Try.prog.underlying n = some x) (a := 64) (b := 90) (fun _ h => by cases h; exact Try.underlying90) tabUnd_310_all (fun k x h => by rw [Tr.get_nil] at h; cases h)
noncomputable def tabUnd_311 : Tr (TypeDesc) := Tr.node (some Try.t121.desc) Tr.nil Tr.nil
theorem tabUnd_311_all : ∀ k x, tabUnd_311.get k = some x → (fun n x => Try.prog.underlying n = some x) (64 * k + 122) x := Tr.node_all (P := fun n x => Try.prog.underlying n = some x) (a := 64) (b := 122) (fun _ h => by cases h; exact Try.underlying122) (fun k x h => by rw [Tr.get_nil] at h; cases h) (fun k x h => by rw [Tr.get_nil] at h; cases h)
noncomputable def tabUnd_308 : Tr (TypeDesc) := Tr.node (some Try.t58.desc) tabUnd_309 tabUnd_311
theorem tabUnd_308_all : ∀ k x, tabUnd_308.get k = some x → (fun n x => Try.prog.underlying n = some x) (32 * k + 58) x := Tr.node_all (P := fun n x => Try.prog.underlying n = some x) (a := 32) (b := 58) (fun _ h => by cases h; exact Try.underlying58) tabUnd_309_all tabUnd_311_all
noncomputable def tabUnd_303 : Tr (TypeDesc) := Tr.node (some Try.t26.desc) tabUnd_304 tabUnd_308
theorem tabUnd_303_all : ∀ k x, tabUnd_303.get k = some x → (fun n x => Try.prog.underlying n = some x) (16 * k + 26) x := Tr.node_all (P := fun n x => Try.prog.underlying n = some x) (a := 16) (b := 26) (fun _ h => by cases h; exact Try.underlying26) tabUnd_304_all tabUnd_308_all
noncomputable def tabUnd_292 : Tr (TypeDesc) := Tr.node (some Try.t9.desc) tabUnd_293 tabUnd_303
theorem tabUnd_292_all : ∀ k x, tabUnd_292.get k = some x → (fun n x => Try.prog.underlying n = some x) (8 * k + 10) x := Tr.node_all (P := fun n x => Try.prog.underlying n = some x) (a := 8) (b := 10) (fun _ h => by cases h; exact Try.underlying10) tabUnd_293_all tabUnd_303_all
noncomputable def tabUnd_316 : Tr (TypeDesc) := Tr.node (some Try.t133.desc) Tr.nil Tr.nil
theorem tabUnd_316_all : ∀ k x, tabUnd_316.get k = some x → (fun n x => Try.prog.underlying n = some x) (128 * k + 134) x := Tr.node_all (P := fun n x => Try.prog.underlying n = some x) (a := 128) (b := 134) (fun _ h => by cases h; exact Try.underlying134) (fun k x h => by rw [Tr.get_nil] at h; cases h) (fun k x h => by rw [Tr.get_nil] at h; cases h)
noncomputable def tabUnd_315 : Tr (TypeDesc) := Tr.node (some Try.t70.desc) tabUnd_316 Tr.nil
theorem tabUnd_315_all : ∀ k x, tabUnd_315.get k = some x → (fun n x => Try.prog.underlying n = some x) (64 * k + 70) x := Tr.node_all (P := fun n x => Try.prog.underlying n = some x) (a := 64) (b := 70) (fun _ h => by cases h; exact Try.underlying70) tabUnd_316_all (fun k x h => by rw [Tr.get_nil] at h; cases h)
noncomputable def tabUnd_317 : Tr (TypeDesc) := Tr.node (some Try.t102.desc) Tr.nil Tr.nil
theorem tabUnd_317_all : ∀ k x, tabUnd_317.get k = some x → (fun n x => Try.prog.underlying n = some x) (64 * k + 102) x := Tr.node_all (P := fun n x => Try.prog.underlying n = some x) (a := 64) (b := 102) (fun _ h => by cases h; exact Try.underlying102) (fun k x h => by rw [Tr.get_nil] at h; cases h) (fun k x h => by rw [Tr.get_nil] at h; cases h)
noncomputable def tabUnd_314 : Tr (TypeDesc) := Tr.node (some Try.t38.desc) tabUnd_315 tabUnd_317
theorem tabUnd_314_all : ∀ k x, tabUnd_314.get k = some x → (fun n x => Try.prog.underlying n = some x) (32 * k + 38) x := Tr.node_all (P := fun n x => Try.prog.underlying n = some x) (a := 32) (b := 38) (fun _ h => by cases h; exact Try.underlying38) tabUnd_315_all tabUnd_317_all
noncomputable def tabUnd_320 : Tr (TypeDesc) := Tr.node (some Try.t149.desc) Tr.nil Tr.nil
theorem tabUnd_320_all : ∀ k x, tabUnd_320.get k = some x → (fun n x => Try.prog.underlying n = some x) (128 * k + 150) x := Tr.node_all (P := fun n x => Try.prog.underlying n = some x) (a := 128) (b := 150) (fun _ h => by cases h; exact Try.underlying150) (fun k x h => by rw [Tr.get_nil] at h; cases h) (fun k x h => by rw [Tr.get_nil] at h; cases h)
noncomputable def tabUnd_319 : Tr (TypeDesc) := Tr.node (some Try.t86.desc) tabUnd_320 Tr.nil
theorem tabUnd_319_all : ∀ k x, tabUnd_319.get k = some x → (fun n x => Try.prog.underlying n = some x) (64 * k + 86) x := Tr.node_all (P := fun n x => Try.prog.underlying n = some x) (a := 64) (b := 86) (fun _ h => by cases h; exact Try.underlying86) tabUnd_320_all (fun k x h => by rw [Tr.get_nil] at h; cases h)
noncomputable def tabUnd_321 : Tr (TypeDesc) := Tr.node (some Try.t118.desc) Tr.nil Tr.nil
theorem tabUnd_321_all : ∀ k x, tabUnd_321.get k = some x → (fun n x => Try.prog.underlying n = some x) (64 * k + 118) x := Tr.node_all (P := fun n x => Try.prog.underlying n = some x) (a := 64) (b := 118) (fun _ h => by cases h; exact Try.underlying118) (fun k x h => by rw [Tr.get_nil] at h; cases h) (fun k x h => by rw [Tr.get_nil] at h; cases h)
noncomputable def tabUnd_318 : Tr (TypeDesc) := Tr.node (some Try.t54.desc) tabUnd_319 tabUnd_321
theorem tabUnd_318_all : ∀ k x, tabUnd_318.get k = some x → (fun n x => Try.prog.underlying n = some x) (32 * k + 54) x := Tr.node_all (P := fun n x => Try.prog.underlying n = some x) (a := 32) (b := 54) (fun _ h => by cases h; exact Try.underlying54) tabUnd_319_all tabUnd_321_all
noncomputable def tabUnd_313 : Tr (TypeDesc) := Tr.node (some Try.t22.desc) tabUnd_314 tabUnd_318
theorem tabUnd_313_all : ∀ k x, tabUnd_313.get k = some x → (fun n x => Try.prog.underlying n = some x) (16 * k + 22) x := Tr.node_all (P := fun n x => Try.prog.underlying n = some x) (a := 16) (b := 22) (fun _ h => by cases h; exact Try.underlying22) tabUnd_314_all tabUnd_318_all
noncomputable def tabUnd_325 : Tr (TypeDesc) := Tr.node (some Try.t142.desc) Tr.nil Tr.nil
theorem tabUnd_325_all : ∀ k x, tabUnd_325.get k = some x → (fun n x => Try.prog.underlying n = some x) (128 * k + 142) x := Tr.node_all (P := fun n x => Try.prog.underlying n = some x) (a := 128) (b := 142) (fun _ h => by cases h; exact Try.underlying142) (fun k x h => by rw [Tr.get_nil] at h; cases h) (fun k x h => by rw [Tr.get_nil] at h; cases h)
noncomputable def tabUnd_324 : Tr (TypeDesc) := Tr.node (some Try.t78.desc) tabUnd_325 Tr.nil
theorem tabUnd_324_all : ∀ k x, tabUnd_324.get k = some x → (fun n x => Try.prog.underlying n = some x) (64 * k + 78) x := Tr.node_all (P := fun n x => Try.prog.underlying n = some x) (a := 64) (b := 78) (fun _ h => by cases h; exact Try.underlying78) tabUnd_325_all (fun k x h => by rw [Tr.get_nil] at h; cases h)
noncomputable def tabUnd_326 : Tr (TypeDesc) := Tr.node (some Try.t110.desc) Tr.nil Tr.nil
theorem tabUnd_326_all : ∀ k x, tabUnd_326.get k = some x → (fun n x => Try.prog.underlying n = some x) (64 * k + 110) x := Tr.node_all (P := fun n x => Try.prog.underlying n = some x) (a := 64) (b := 110) (fun _ h => by cases h; exact Try.underlying110) (fun k x h => by rw [Tr.get_nil] at h; cases h) (fun k x h => by rw [Tr.get_nil] at h; cases h)
noncomputable def tabUnd_323 : Tr (TypeDesc) := Tr.node (some Try.t46.desc) tabUnd_324 tabUnd_326
theorem tabUnd_323_all : ∀ k x, tabUnd_323.get k = some x → (fun n x => Try.prog.underlying n = some x) (32 * k + 46) x := Tr.node_all (P := fun n x => Try.prog.underlying n = some x) (a := 32) (b := 46) (fun _ h => by cases h; exact Try.underlying46) tabUnd_324_all tabUnd_326_all
noncomputable def tabUnd_329 : Tr (TypeDesc) := Tr.node (some Try.t158.desc) Tr.nil Tr.nil
theorem tabUnd_329_all : ∀ k x, tabUnd_329.get k = some x → (fun n x => Try.prog.underlying n = some x) (128 * k + 158) x := Tr.node_all (P := fun n x => Try.prog.underlying n = some x) (a := 128) (b := 158) (fun _ h => by cases h; exact Try.underlying158) (fun k x h => by rw [Tr.get_nil] at h; cases h) (fun k x h => by rw [Tr.get_nil] at h; cases h)
noncomputable def tabUnd_328 : Tr (TypeDesc) := Tr.node (some Try.t94.desc) tabUnd_329 Tr.nil
theorem tabUnd_328_all : ∀ k x, tabUnd_328.get k = some x → (fun n x => Try.prog.underlying n = some x) (64 * k + 94) x := Tr.node_all (P := fun n x => Try.prog.underlying n = some x) (a := 64) (b := 94) (fun _ h => by cases h; exact Try.underlying94) tabUnd_329_all (fun k x h => by rw [Tr.get_nil] at h; cases h)
noncomputable def tabUnd_330 : Tr (TypeDesc) := Tr.node (some Try.t126.desc) Tr.nil Tr.nil
theorem tabUnd_330_all : ∀ k x, tabUnd_330.get k = some x → (fun n x => Try.prog.underlying n = some x) (64 * k + 126) x := Tr.node_all (P := fun n x => Try.prog.underlying n = some x) (a := 64) (b := 126) (fun _ h => by cases h; exact Try.underlying126) (fun k x h => by rw [Tr.get_nil] at h; cases h) (fun k x h => by rw [Tr.get_nil] at h; cases h)
noncomputable def tabUnd_327 : Tr (TypeDesc) := Tr.node (some Try.t62.desc) tabUnd_328 tabUnd_330
theorem tabUnd_327_all : ∀ k x, tabUnd_327.get k = some x → (fun n x => Try.prog.underlying n = some x) (32 * k + 62) x := Tr.node_all (P := fun n x => Try.prog.underlying n = some x) (a := 32) (b := 62) (fun _ h => by cases h; exact Try.underlying62) tabUnd_328_all tabUnd_330_all
noncomputable def tabUnd_322 : Tr (TypeDesc) := Tr.node (some Try.t3.desc) tabUnd_323 tabUnd_327
theorem tabUnd_322_all : ∀ k x, tabUnd_322.get k = some x → (fun n x => Try.prog.underlying n = some x) (16 * k + 30) x := Tr.node_all (P := fun n x => Try.prog.underlying n = some x) (a := 16) (b := 30) (fun _ h => by cases h; exact Try.underlying30) tabUnd_323_all tabUnd_327_all
noncomputable def tabUnd_312 : Tr (TypeDesc) := Tr.node (some Try.t13.desc) tabUnd_313 tabUnd_322
theorem tabUnd_312_all : ∀ k x, tabUnd_312.get k = some x → (fun n x => Try.prog.underlying n = some x) (8 * k + 14) x := Tr.node_all (P := fun n x => Try.prog.underlying n = some x) (a := 8) (b := 14) (fun _ h => by cases h; exact Try.underlying14) tabUnd_313_all tabUnd_322_all
noncomputable def tabUnd_291 : Tr (TypeDesc) := Tr.node (some Try.t5.desc) tabUnd_292 tabUnd_312
theorem tabUnd_291_all : ∀ k x, tabUnd_291.get k = some x → (fun n x => Try.prog.underlying n = some x) (4 * k + 6) x := Tr.node_all (P := fun n x => Try.prog.underlying n = some x) (a := 4) (b := 6) (fun _ h => by cases h; exact Try.underlying6) tabUnd_292_all tabUnd_312_all
noncomputable def tabUnd_249 : Tr (TypeDesc) := Tr.node (some Try.t2.desc) tabUnd_250 tabUnd_291
theorem tabUnd_249_all : ∀ k x, tabUnd_249.get k = some x → (fun n x => Try.prog.underlying n = some x) (2 * k + 2) x := Tr.node_all (P := fun n x => Try.prog.underlying n = some x) (a := 2) (b := 2) (fun _ h => by cases h; exact Try.underlying2) tabUnd_250_all tabUnd_291_all
noncomputable def tabUnd_166 : Tr (TypeDesc) := Tr.node (some Try.t0.desc) tabUnd_167 tabUnd_249
theorem tabUnd_166_all : ∀ k x, tabUnd_166.get k = some x → (fun n x => Try.prog.underlying n = some x) (1 * k + 0) x := Tr.node_all (P := fun n x => Try.prog.underlying n = some x) (a := 1) (b := 0) (fun _ h => by cases h; exact Try.underlying0) tabUnd_167_all tabUnd_249_all
noncomputable def tabUnd : Tr (TypeDesc) := tabUnd_166
theorem tabUnd_all : ∀ k x, tabUnd.get k = some x → (fun n x => Try.prog.underlying n = some x) k x := fun k x h => by have := tabUnd_166_all k x h; rwa [Nat.one_mul, Nat.add_zero] at this
noncomputable def tabFuncs_337 : Tr (Func) := Tr.node (some Try.f63) Tr.nil Tr.nil
theorem tabFuncs_337_all : ∀ k x, tabFuncs_337.get k = some x → (fun n x => Try.prog.funcs[n]? = some x ∧ ∀ args w, (callFunc n args).run Try.prog w = .ok (.enter n args) w) (64 * k + 63) x := Tr.node_all (P := fun n x => Try.prog.funcs[n]? = some x ∧ ∀ args w, (callFunc n args).run Try.prog w = .ok (.enter n args) w) (a := 64) (b := 63) (fun _ h => by cases h; exact ⟨Try.func63, Try.call63⟩) (fun k x h => by rw [Tr.get_nil] at h; cases h) (fun k x h => by rw [Tr.get_nil] at h; cases h)
noncomputable def tabFuncs_336 : Tr (Func) := Tr.node (some Try.f31) tabFuncs_337 Tr.nil
theorem tabFuncs_336_all : ∀ k x, tabFuncs_336.get k = some x → (fun n x => Try.prog.funcs[n]? = some x ∧ ∀ args w, (callFunc n args).run Try.prog w = .ok (.enter n args) w) (32 * k + 31) x := Tr.node_all (P := fun n x => Try.prog.funcs[n]? = some x ∧ ∀ args w, (callFunc n args).run Try.prog w = .ok (.enter n args) w) (a := 32) (b := 31) (fun _ h => by cases h; exact ⟨Try.func31, Try.call31⟩) tabFuncs_337_all (fun k x h => by rw [Tr.get_nil] at h; cases h)
noncomputable def tabFuncs_338 : Tr (Func) := Tr.node (some Try.f47) Tr.nil Tr.nil
theorem tabFuncs_338_all : ∀ k x, tabFuncs_338.get k = some x → (fun n x => Try.prog.funcs[n]? = some x ∧ ∀ args w, (callFunc n args).run Try.prog w = .ok (.enter n args) w) (32 * k + 47) x := Tr.node_all (P := fun n x => Try.prog.funcs[n]? = some x ∧ ∀ args w, (callFunc n args).run Try.prog w = .ok (.enter n args) w) (a := 32) (b := 47) (fun _ h => by cases h; exact ⟨Try.func47, Try.call47⟩) (fun k x h => by rw [Tr.get_nil] at h; cases h) (fun k x h => by rw [Tr.get_nil] at h; cases h)
noncomputable def tabFuncs_335 : Tr (Func) := Tr.node (some Try.f15) tabFuncs_336 tabFuncs_338
theorem tabFuncs_335_all : ∀ k x, tabFuncs_335.get k = some x → (fun n x => Try.prog.funcs[n]? = some x ∧ ∀ args w, (callFunc n args).run Try.prog w = .ok (.enter n args) w) (16 * k + 15) x := Tr.node_all (P := fun n x => Try.prog.funcs[n]? = some x ∧ ∀ args w, (callFunc n args).run Try.prog w = .ok (.enter n args) w) (a := 16) (b := 15) (fun _ h => by cases h; exact ⟨Try.func15, Try.call15⟩) tabFuncs_336_all tabFuncs_338_all
noncomputable def tabFuncs_341 : Tr (Func) := Tr.node (some Try.f71) Tr.nil Tr.nil
theorem tabFuncs_341_all : ∀ k x, tabFuncs_341.get k = some x → (fun n x => Try.prog.funcs[n]? = some x ∧ ∀ args w, (callFunc n args).run Try.prog w = .ok (.enter n args) w) (64 * k + 71) x := Tr.node_all (P := fun n x => Try.prog.funcs[n]? = some x ∧ ∀ args w, (callFunc n args).run Try.prog w = .ok (.enter n args) w) (a := 64) (b := 71) (fun _ h => by cases h; exact ⟨Try.func71, Try.call71⟩) (fun k x h => by rw [Tr.get_nil] at h; cases h) (fun k x h => by rw [Tr.get_nil] at h; cases h)
noncomputable def tabFuncs_340 : Tr (Func) := Tr.node (some Try.f39) tabFuncs_341 Tr.nil
theorem tabFuncs_340_all : ∀ k x, tabFuncs_340.get k = some x → (fun n x => Try.prog.funcs[n]? = some x ∧ ∀ args w, (callFunc n args).run Try.prog w = .ok (.enter n args) w) (32 * k + 39) x := Tr.node_all (P := fun n x => Try.prog.funcs[n]? = some x ∧ ∀ args w, (callFunc n args).run Try.prog w = .ok (.enter n args) w) (a := 32) (b := 39) (fun _ h => by cases h; exact ⟨Try.func39, Try.call39⟩) tabFuncs_341_all (fun k x h => by rw [Tr.get_nil] at h; cases h)
noncomputable def tabFuncs_342 : Tr (Func) := Tr.node (some Try.f55) Tr.nil Tr.nil
theorem tabFuncs_342_all : ∀ k x, tabFuncs_342.get k = some x → (fun n x => Try.prog.funcs[n]? = some x ∧ ∀ args w, (callFunc n args).run Try.prog w = .ok (.enter n args) w) (32 * k + 55) x := Tr.node_all (P := fun n x => Try.prog.funcs[n]? = some x ∧ ∀ args w, (callFunc n args).run Try.prog w = .ok (.enter n args) w) (a := 32) (b := 55) (fun _ h => by cases h; exact ⟨Try.func55, Try.call55⟩) (fun k x h => by rw [Tr.get_nil] at h; cases h) (fun k x h => by rw [Tr.get_nil] at h; cases h)
noncomputable def tabFuncs_339 : Tr (Func) := Tr.node (some Try.f23) tabFuncs_340 tabFuncs_342
theorem tabFuncs_339_all : ∀ k x, tabFuncs_339.get k = some x → (fun n x => Try.prog.funcs[n]? = some x ∧ ∀ args w, (callFunc n args).run Try.prog w = .ok (.enter n args) w) (16 * k + 23) x := Tr.node_all (P := fun n x => Try.prog.funcs[n]? = some x ∧ ∀ args w, (callFunc n args).run Try.prog w = .ok (.enter n args) w) (a := 16) (b := 23) (fun _ h => by cases h; exact ⟨Try.func23, Try.call23⟩) tabFuncs_340_all tabFuncs_342_all
noncomputable def tabFuncs_334 : Tr (Func) := Tr.node (some Try.f7) tabFuncs_335 tabFuncs_339
theorem tabFuncs_334_all : ∀ k x, tabFuncs_334.get k = some x → (fun n x => Try.prog.funcs[n]? = some x ∧ ∀ args w, (callFunc n args).run Try.prog w = .ok (.enter n args) w) (8 * k + 7) x := Tr.node_all (P := fun n x => Try.prog.funcs[n]? = some x ∧ ∀ args w, (callFunc n args).run Try.prog w = .ok (.enter n args) w) (a := 8) (b := 7) (fun _ h => by cases h; exact ⟨Try.func7, Try.call7⟩) tabFuncs_335_all tabFuncs_339_all
noncomputable def tabFuncs_346 : Tr (Func) := Tr.node (some Try.f67) Tr.nil Tr.nil
theorem tabFuncs_346_all : ∀ k x, tabFuncs_346.get k = some x → (fun n x => Try.prog.funcs[n]? = some x ∧ ∀ args w, (callFunc n args).run Try.prog w = .ok (.enter n args) w) (64 * k + 67) x := Tr.node_all (P := fun n x => Try.prog.funcs[n]? = some x ∧ ∀ args w, (callFunc n args).run Try.prog w = .ok (.enter n args) w) (a := 64) (b := 67) (fun _ h => by cases h; exact ⟨Try.func67, Try.call67⟩) (fun k x h => by rw [Tr.get_nil] at h; cases h) (fun k x h => by rw [Tr.get_nil] at h; cases h)
noncomputable def tabFuncs_345 : Tr (Func) := Tr.node (some Try.f35) tabFuncs_346 Tr.nil
theorem tabFuncs_345_all : ∀ k x, tabFuncs_345.get k = some x → (fun n x => Try.prog.funcs[n]? = some x ∧ ∀ args w, (callFunc n args).run Try.prog w = .ok (.enter n args) w) (32 * k + 35) x := Tr.node_all (P := fun n x => Try.prog.funcs[n]? = some x ∧ ∀ args w, (callFunc n args).run Try.prog w = .ok (.enter n args) w) (a := 32) (b := 35) (fun _ h => by cases h; exact ⟨Try.func35, Try.call35⟩) tabFuncs_346_all (fun k x h => by rw [Tr.get_nil] at h; cases h)
noncomputable def tabFuncs_347 : Tr (Func) := Tr.node (some Try.f51) Tr.nil Tr.nil
theorem tabFuncs_347_all : ∀ k x, tabFuncs_347.get k = some x → (fun n x => Try.prog.funcs[n]? = some x ∧ ∀ args w, (callFunc n args).run Try.prog w = .ok (.enter n args) w) (32 * k + 51) x := Tr.node_all (P := fun n x => Try.prog.funcs[n]? = some x ∧ ∀ args w, (callFunc n args).run Try.prog w = .ok (.enter n args) w) (a := 32) (b := 51) (fun _ h => by cases h; exact ⟨Try.func51, Try.call51⟩) (fun k x h => by rw [Tr.get_nil] at h; cases h) (fun k x h => by rw [Tr.get_nil] at h; cases h)
noncomputable def tabFuncs_344 : Tr (Func) := Tr.node (some Try.f19) tabFuncs_345 tabFuncs_347
theorem tabFuncs_344_all : ∀ k x, tabFuncs_344.get k = some x → (fun n x => Try.prog.funcs[n]? = some x ∧ ∀ args w, (callFunc n args).run Try.prog w = .ok (.enter n args) w) (16 * k + 19) x := Tr.node_all (P := fun n x => Try.prog.funcs[n]? = some x ∧ ∀ args w, (callFunc n args).run Try.prog w = .ok (.enter n args) w) (a := 16) (b := 19) (fun _ h => by cases h; exact ⟨Try.func19, Try.call19⟩) tabFuncs_345_all tabFuncs_347_all
noncomputable def tabFuncs_350 : Tr (Func) := Tr.node (some Try.f75) Tr.nil Tr.nil
theorem tabFuncs_350_all : ∀ k x, tabFuncs_350.get k = some x → (fun n x => Try.prog.funcs[n]? = some x ∧ ∀ args w, (callFunc n args).run Try.prog w = .ok (.enter n args) w) (64 * k + 75) x := Tr.node_all (P := fun n x => Try.prog.funcs[n]? = some x ∧ ∀ args w, (callFunc n args).run Try.prog w = .ok (.enter n args) w) (a := 64) (b := 75) (fun _ h => by cases h; exact ⟨Try.func75, Try.call75⟩) (fun k x h => by rw [Tr.get_nil] at h; cases h) (fun k x h => by rw [Tr.get_nil] at h; cases h)
noncomputable def tabFuncs_349 : Tr (Func) := Tr.node (some Try.f43) tabFuncs_350 Tr.nil
theorem tabFuncs_349_all : ∀ k x, tabFuncs_349.get k = some x → (fun n x => Try.prog.funcs[n]? = some x ∧ ∀ args w, (callFunc n args).run Try.prog w = .ok (.enter n args) w) (32 * k + 43) x := Tr.node_all (P := fun n x => Try.prog.funcs[n]? = some x ∧ ∀ args w, (callFunc n args).run Try.prog w = .ok (.enter n args) w) (a := 32) (b := 43) (fun _ h => by cases h; exact ⟨Try.func43, Try.call43⟩) tabFuncs_350_all (fun k x h => by rw [Tr.get_nil] at h; cases h)
noncomputable def tabFuncs_351 : Tr (Func) := Tr.node (some Try.f59) Tr.nil Tr.nil
theorem tabFuncs_351_all : ∀ k x, tabFuncs_351.get k = some x → (fun n x => Try.prog.funcs[n]? = some x ∧ ∀ args w, (callFunc n args).run Try.prog w = .ok (.enter n args) w) (32 * k + 59) x := Tr.node_all (P := fun n x => Try.prog.funcs[n]? = some x ∧ ∀ args w, (callFunc n args).run Try.prog w = .ok (.enter n args) w) (a := 32) (b := 59) (fun _ h => by cases h; exact ⟨Try.func59, Try.call59⟩) (fun k x h => by rw [Tr.get_nil] at h; cases h) (fun k x h => by rw [Tr.get_nil] at h; cases h)
noncomputable def tabFuncs_348 : Tr (Func) := Tr.node (some Try.f27) tabFuncs_349 tabFuncs_351
theorem tabFuncs_348_all : ∀ k x, tabFuncs_348.get k = some x → (fun n x => Try.prog.funcs[n]? = some x ∧ ∀ args w, (callFunc n args).run Try.prog w = .ok (.enter n args) w) (16 * k + 27) x := Tr.node_all (P := fun n x => Try.prog.funcs[n]? = some x ∧ ∀ args w, (callFunc n args).run Try.prog w = .ok (.enter n args) w) (a := 16) (b := 27) (fun _ h => by cases h; exact ⟨Try.func27, Try.call27⟩) tabFuncs_349_all tabFuncs_351_all
noncomputable def tabFuncs_343 : Tr (Func) := Tr.node (some Try.f11) tabFuncs_344 tabFuncs_348
theorem tabFuncs_343_all : ∀ k x, tabFuncs_343.get k = some x → (fun n x => Try.prog.funcs[n]? = some x ∧ ∀ args w, (callFunc n args).run Try.prog w = .ok (.enter n args) w) (8 * k + 11) x := Tr.node_all (P := fun n x => Try.prog.funcs[n]? = some x ∧ ∀ args w, (callFunc n args).run Try.prog w = .ok (.enter n args) w) (a := 8) (b := 11) (fun _ h => by cases h; exact ⟨Try.func11, Try.call11⟩) tabFuncs_344_all tabFuncs_348_all
noncomputable def tabFuncs_333 : Tr (Func) := Tr.node (some Try.f3) tabFuncs_334 tabFuncs_343
theorem tabFuncs_333_all : ∀ k x, tabFuncs_333.get k = some x → (fun n x => Try.prog.funcs[n]? = some x ∧ ∀ args w, (callFunc n args).run Try.prog w = .ok (.enter n args) w) (4 * k + 3) x := Tr.node_all (P := fun n x => Try.prog.funcs[n]? = some x ∧ ∀ args w, (callFunc n args).run Try.prog w = .ok (.enter n args) w) (a := 4) (b := 3) (fun _ h => by cases h; exact ⟨Try.func3, Try.call3⟩) tabFuncs_334_all tabFuncs_343_all
noncomputable def tabFuncs_356 : Tr (Func) := Tr.node (some Try.f65) Tr.nil Tr.nil
theorem tabFuncs_356_all : ∀ k x, tabFuncs_356.get k = some x → (fun n x => Try.prog.funcs[n]? = some x ∧ ∀ args w, (callFunc n args).run Try.prog w = .ok (.enter n args) w) (64 * k + 65) x := Tr.node_all (P := fun n x => Try.prog.funcs[n]? = some x ∧ ∀ args w, (callFunc n args).run Try.prog w = .ok (.enter n args) w) (a := 64) (b := 65) (fun _ h => by cases h; exact ⟨Try.func65, Try.call65⟩) (fun k x h => by rw [Tr.get_nil] at h; cases h) (fun k x h => by rw [Tr.get_nil] at h; cases h)
noncomputable def tabFuncs_355 : Tr (Func) := Tr.node (some Try.f33) tabFuncs_356 Tr.nil
theorem tabFuncs_355_all : ∀ k x, tabFuncs_355.get k = some x → (fun n x => Try.prog.funcs[n]? = some x ∧ ∀ args w, (callFunc n args).run Try.prog w = .ok (.enter n args) w) (32 * k + 33) x := Tr.node_all (P := fun n x => Try.prog.funcs[n]? = some x ∧ ∀ args w, (callFunc n args).run Try.prog w = .ok (.enter n args) w) (a := 32) (b := 33) (fun _ h => by cases h; exact ⟨Try.func33, Try.call33⟩) tabFuncs_356_all (fun k x h => by rw [Tr.get_nil] at h; cases h)
noncomputable def tabFuncs_357 : Tr (Func) := Tr.node (some Try.f49) Tr.nil Tr.nil
theorem tabFuncs_357_all : ∀ k x, tabFuncs_357.get k = some x → (fun n x => Try.prog.funcs[n]? = some x ∧ ∀ args w, (callFunc n args).run Try.prog w = .ok (.enter n args) w) (32 * k + 49) x := Tr.node_all (P := fun n x => Try.prog.funcs[n]? = some x ∧ ∀ args w, (callFunc n args).run Try.prog w = .ok (.enter n args) w) (a := 32) (b := 49) (fun _ h => by cases h; exact ⟨Try.func49, Try.call49⟩) (fun k x h => by rw [Tr.get_nil] at h; cases h) (fun k x h => by rw [Tr.get_nil] at h; cases h)
noncomputable def tabFuncs_354 : Tr (Func) := Tr.node (some Try.f17) tabFuncs_355 tabFuncs_357
theorem tabFuncs_354_all : ∀ k x, tabFuncs_354.get k = some x → (fun n x => Try.prog.funcs[n]? = some x ∧ ∀ args w, (callFunc n args).run Try.prog w = .ok (.enter n args) w) (16 * k + 17) x := Tr.node_all (P := fun n x => Try.prog.funcs[n]? = some x ∧ ∀ args w, (callFunc n args).run Try.prog w = .ok (.enter n args) w) (a := 16) (b := 17) (fun _ h => by cases h; exact ⟨Try.func17, Try.call17⟩) tabFuncs_355_all tabFuncs_357_all
noncomputable def tabFuncs_360 : Tr (Func) := Tr.node (some Try.f73) Tr.nil Tr.nil
theorem tabFuncs_360_all : ∀ k x, tabFuncs_360.get k = some x → (fun n x => Try.prog.funcs[n]? = some x ∧ ∀ args w, (callFunc n args).run Try.prog w = .ok (.enter n args) w) (64 * k + 73) x := Tr.node_all (P := fun n x => Try.prog.funcs[n]? = some x ∧ ∀ args w, (callFunc n args).run Try.prog w = .ok (.enter n args) w) (a := 64) (b := 73) (fun _ h => by cases h; exact ⟨Try.func73, Try.call73⟩) (fun k x h => by rw [Tr.get_nil] at h; cases h) (fun k x h => by rw [Tr.get_nil] at h; cases h)
noncomputable def tabFuncs_359 : Tr (Func) := Tr.node (some Try.f41) tabFuncs_360 Tr.nil
theorem tabFuncs_359_all : ∀ k x, tabFuncs_359.get k = some x → (fun n x => Try.prog.funcs[n]? = some x ∧ ∀ args w, (callFunc n args).run Try.prog w = .ok (.enter n args) w) (32 * k + 41) x := Tr.node_all (P := fun n x => Try.prog.funcs[n]? = some x ∧ ∀ args w, (callFunc n args).run Try.prog w = .ok (.enter n args) w) (a := 32) (b := 41) (fun _ h => by cases h; exact ⟨Try.func41, Try.call41⟩) tabFuncs_360_all (fun k x h => by rw [Tr.get_nil] at h; cases h)
noncomputable def tabFuncs_361 : Tr (Func) := Tr.node (some Try.f57) Tr.nil Tr.nil
theorem tabFuncs_361_all : ∀ k x, tabFuncs_361.get k = some x → (fun n x => Try.prog.funcs[n]? = some x ∧ ∀ args w, (callFunc n args).run Try.prog w = .ok (.enter n args) w) (32 * k + 57) x := Tr.node_all (P := fun n x => Try.prog.funcs[n]? = some x ∧ ∀ args w, (callFunc n args).run Try.prog w = .ok (.enter n args) w) (a := 32) (b := 57) (fun _ h => by cases h; exact ⟨Try.func57, Try.call57⟩) (fun k x h => by rw [Tr.get_nil] at h; cases h) (fun k x h => by rw [Tr.get_nil] at h; cases h)
noncomputable def tabFuncs_358 : Tr (Func) := Tr.node (some Try.f25) tabFuncs_359 tabFuncs_361
theorem tabFuncs_358_all : ∀ k x, tabFuncs_358.get k = some x → (fun n x => Try.prog.funcs[n]? = some x ∧ ∀ args w, (callFunc n args).run Try.prog w = .ok (.enter n args) w) (16 * k + 25) x := Tr.node_all (P := fun n x => Try.prog.funcs[n]? = some x ∧ ∀ args w, (callFunc n args).run Try.prog w = .ok (.enter n args) w) (a := 16) (b := 25) (fun _ h => by cases h; exact ⟨Try.func25, Try.call25⟩) tabFuncs_359_all tabFuncs_361_all
noncomputable def tabFuncs_353 : Tr (Func) := Tr.node (some Try.f9) tabFuncs_354 tabFuncs_358
theorem tabFuncs_353_all : ∀ k x, tabFuncs_353.get k = some x → (fun n x => Try.prog.funcs[n]? = some x ∧ ∀ args w, (callFunc n args).run Try.prog w = .ok (.enter n args) w) (8 * k + 9) x := Tr.node_all (P := fun n x => Try.prog.funcs[n]? = some x ∧ ∀ args w, (callFunc n args).run Try.prog w = .ok (.enter n args) w) (a := 8) (b := 9) (fun _ h => by cases h; exact ⟨Try.func9, Try.call9⟩) tabFuncs_354_all tabFuncs_358_all
noncomputable def tabFuncs_365 : Tr (Func) := Tr.node (some Try.f69) Tr.nil Tr.nil
theorem tabFuncs_365_all : ∀ k x, tabFuncs_365.get k = some x → (fun n x => Try.prog.funcs[n]? = some x ∧ ∀ args w, (callFunc n args).run Try.prog w = .ok (.enter n args) w) (64 * k + 69) x := Tr.node_all (P := fun n x => Try.prog.funcs[n]? = some x ∧ ∀ args w, (callFunc n args).run Try.prog w = .ok (.enter n args) w) (a := 64) (b := 69) (fun _ h => by cases h; exact ⟨Try.func69, Try.call69⟩) (fun k x h => by rw [Tr.get_nil] at h; cases h) (fun k x h => by rw [Tr.get_nil] at h; cases h)
noncomputable def tabFuncs_364 : Tr (Func) := Tr.node (some Try.f37) tabFuncs_365 Tr.nil
theorem tabFuncs_364_all : ∀ k x, tabFuncs_364.get k = some x → (fun n x => Try.prog.funcs[n]? = some x ∧ ∀ args w, (callFunc n args).run Try.prog w = .ok (.enter n args) w) (32 * k + 37) x := Tr.node_all (P := fun n x => Try.prog.funcs[n]? = some x ∧ ∀ args w, (callFunc n args).run Try.prog w = .ok (.enter n args) w) (a := 32) (b := 37) (fun _ h => by cases h; exact ⟨Try.func37, Try.call37⟩) tabFuncs_365_all (fun k x h => by rw [Tr.get_nil] at h; cases h)
noncomputable def tabFuncs_366 : Tr (Func) := Tr.node (some Try.f53) Tr.nil Tr.nil
theorem tabFuncs_366_all : ∀ k x, tabFuncs_366.get k = some x → (fun n x => Try.prog.funcs[n]? = some x ∧ ∀ args w, (callFunc n args).run Try.prog w = .ok (.enter n args) w) (32 * k + 53) x := Tr.node_all (P := fun n x => Try.prog.funcs[n]? = some x ∧ ∀ args w, (callFunc n args).run Try.prog w = .ok (.enter n args) w) (a := 32) (b := 53) (fun _ h => by cases h; exact ⟨Try.func53, Try.call53⟩) (fun k x h => by rw [Tr.get_nil] at h; cases h) (fun k x h => by rw [Tr.get_nil] at h; cases h)
noncomputable def tabFuncs_363 : Tr (Func) := Tr.node (some Try.f21) tabFuncs_364 tabFuncs_366
theorem tabFuncs_363_all : ∀ k x, tabFuncs_363.get k = some x → (fun n x => Try.prog.funcs[n]? = some x ∧ ∀ args w, (callFunc n args).run Try.prog w = .ok (.enter n args) w) (16 * k + 21) x := Tr.node_all (P := fun n x => Try.prog.funcs[n]? = some x ∧ ∀ args w, (callFunc n args).run Try.prog w = .ok (.enter n args) w) (a := 16) (b := 21) (fun _ h => by cases h; exact ⟨Try.func21, Try.call21⟩) tabFuncs_364_all tabFuncs_366_all
noncomputable def tabFuncs_368 : Tr (Func) := Tr.node (some Try.f45) Tr.nil Tr.nil
theorem tabFuncs_368_all : ∀ k x, tabFuncs_368.get k = some x → (fun n x => Try.prog.funcs[n]? = some x ∧ ∀ args w, (callFunc n args).run Try.prog w = .ok (.enter n args) w) (32 * k + 45) x := Tr.node_all (P := fun n x => Try.prog.funcs[n]? = some x ∧ ∀ args w, (callFunc n args).run Try.prog w = .ok (.enter n args) w) (a := 32) (b := 45) (fun _ h => by cases h; exact ⟨Try.func45, Try.call45⟩) (fun k x h => by rw [Tr.get_nil] at h; cases h) (fun k x h => by rw [Tr.get_nil] at h; cases h)
noncomputable def tabFuncs_369 : Tr (Func) := Tr.node (some Try.f61) Tr.nil Tr.nil
theorem tabFuncs_369_all : ∀ k x, tabFuncs_369.get k = some x → (fun n x => Try.prog.funcs[n]? = some x ∧ ∀ args w, (callFunc n args).run Try.prog w = .ok (.enter n args) w) (32 * k + 61) x := Tr.node_all (P := fun n x => Try.prog.funcs[n]? = some x ∧ ∀ args w, (callFunc n args).run Try.prog w = .ok (.enter n args) w) (a := 32) (b := 61) (fun _ h => by cases h; exact ⟨Try.func61, Try.call61⟩) (fun k x h => by rw [Tr.get_nil] at h; cases h) (fun k x h => by rw [Tr.get_nil] at h; cases h)
noncomputable def tabFuncs_367 : Tr (Func) := Tr.node (some Try.f29) tabFuncs_368 tabFuncs_369
theorem tabFuncs_367_all : ∀ k x, tabFuncs_367.get k = some x → (fun n x => Try.prog.funcs[n]? = some x ∧ ∀ args w, (callFunc n args).run Try.prog w = .ok (.enter n args) w) (16 * k + 29) x := Tr.node_all (P := fun n x => Try.prog.funcs[n]? = some x ∧ ∀ args w, (callFunc n args).run Try.prog w = .ok (.enter n args) w) (a := 16) (b := 29) (fun _ h => by cases h; exact ⟨Try.func29, Try.call29⟩) tabFuncs_368_all tabFuncs_369_all
noncomputable def tabFuncs_362 : Tr (Func) := Tr.node (some Try.f13) tabFuncs_363 tabFuncs_367
theorem tabFuncs_362_all : ∀ k x, tabFuncs_362.get k = some x → (fun n x => Try.prog.funcs[n]? = some x ∧ ∀ args w, (callFunc n args).run Try.prog w = .ok (.enter n args) w) (8 * k + 13) x := Tr.node_all (P := fun n x => Try.prog.funcs[n]? = some x ∧ ∀ args w, (callFunc n args).run Try.prog w = .ok (.enter n args) w) (a := 8) (b := 13) (fun _ h => by cases h; exact ⟨Try.func13, Try.call13⟩) tabFuncs_363_all tabFuncs_367_all
noncomputable def tabFuncs_352 : Tr (Func) := Tr.node (some Try.f5) tabFuncs_353 tabFuncs_362
theorem tabFuncs_352_all : ∀ k x, tabFuncs_352.get k = some x → (fun n x => Try.prog.funcs[n]? = some x ∧ ∀ args w, (callFunc n args).run Try.prog w = .ok (.enter n args) w) (4 * k + 5) x := Tr.node_all (P := fun n x => Try.prog.funcs[n]? = some x ∧ ∀ args w, (callFunc n args).run Try.prog w = .ok (.enter n args) w) (a := 4) (b := 5) (fun _ h => by cases h; exact ⟨Try.func5, Try.call5⟩) tabFuncs_353_all tabFuncs_362_all
noncomputable def tabFuncs_332 : Tr (Func) := Tr.node none tabFuncs_333 tabFuncs_352
theorem tabFuncs_332_all : ∀ k x, tabFuncs_332.get k = some x → (fun n x => Try.prog.funcs[n]? = some x ∧ ∀ args w, (callFunc n args).run Try.prog w = .ok (.enter n args) w) (2 * k + 1) x := Tr.node_all (P := fun n x => Try.prog.funcs[n]? = some x ∧ ∀ args w, (callFunc n args).run Try.prog w = .ok (.enter n args) w) (a := 2) (b := 1) (fun _ h => by cases h) tabFuncs_333_all tabFuncs_352_all
noncomputable def tabFuncs_375 : Tr (Func) := Tr.node (some Try.f64) Tr.nil Tr.nil
theorem tabFuncs_375_all : ∀ k x, tabFuncs_375.get k = some x → (fun n x => Try.prog.funcs[n]? = some x ∧ ∀ args w, (callFunc n args).run Try.prog w = .ok (.enter n args) w) (64 * k + 64) x := Tr.node_all (P := fun n x => Try.prog.funcs[n]? = some x ∧ ∀ args w, (callFunc n args).run Try.prog w = .ok (.enter n args) w) (a := 64) (b := 64) (fun _ h => by cases h; exact ⟨Try.func64, Try.call64⟩) (fun k x h => by rw [Tr.get_nil] at h; cases h) (fun k x h => by rw [Tr.get_nil] at h; cases h)
noncomputable def tabFuncs_374 : Tr (Func) := Tr.node (some Try.f32) tabFuncs_375 Tr.nil
theorem tabFuncs_374_all : ∀ k x, tabFuncs_374.get k = some x → (fun n x => Try.prog.funcs[n]? = some x ∧ ∀ args w, (callFunc n args).run Try.prog w = .ok (.enter n args) w) (32 * k + 32) x := Tr.node_all (P := fun n x => Try.prog.funcs[n]? = some x ∧ ∀ args w, (callFunc n args).run Try.prog w = .ok (.enter n args) w) (a := 32) (b := 32) (fun _ h => by cases h; exact ⟨Try.func32, Try.call32⟩) tabFuncs_375_all (fun k x h => by rw [Tr.get_nil] at h; cases h)
noncomputable def tabFuncs_376 : Tr (Func) := Tr.node (some Try.f48) Tr.nil Tr.nil
theorem tabFuncs_376_all : ∀ k x, tabFuncs_376.get k = some x → (fun n x => Try.prog.funcs[n]? = some x ∧ ∀ args w, (callFunc n args).run Try.prog w = .ok (.enter n args) w) (32 * k + 48) x := Tr.node_all (P := fun n x => Try.prog.funcs[n]? = some x ∧ ∀ args w, (callFunc n args).run Try.prog w = .ok (.enter n args) w) (a := 32) (b := 48) (fun _ h => by cases h; exact ⟨Try.func48, Try.call48⟩) (fun k x h => by rw [Tr.get_nil] at h; cases h) (fun k x h => by rw [Tr.get_nil] at h; cases h)
noncomputable def tabFuncs_373 : Tr (Func) := Tr.node (some Try.f16) tabFuncs_374 tabFuncs_376
theorem tabFuncs_373_all : ∀ k x, tabFuncs_373.get k = some x → (fun n x => Try.prog.funcs[n]? = some x ∧ ∀ args w, (callFunc n args).run Try.prog w = .ok (.enter n args) w) (16 * k + 16) x := Tr.node_all (P := fun n x => Try.prog.funcs[n]? = some x ∧ ∀ args w, (callFunc n args).run Try.prog w = .ok (.enter n args) w) (a := 16) (b := 16) (fun _ h => by cases h; exact ⟨Try.func16, Try.call16⟩) tabFuncs_374_all tabFuncs_376_all
noncomputable def tabFuncs_379 : Tr (Func) := Tr.node (some Try.f72) Tr.nil Tr.nil
theorem tabFuncs_379_all : ∀ k x, tabFuncs_379.get k = some x → (fun n x => Try.prog.funcs[n]? = some x ∧ ∀ args w, (callFunc n args).run Try.prog w = .ok (.enter n args) w) (64 * k + 72) x := Tr.node_all (P := fun n x => Try.prog.funcs[n]? = some x ∧ ∀ args w, (callFunc n args).run Try.prog w = .ok (.enter n args) w) (a := 64) (b := 72) (fun _ h => by cases h; exact ⟨Try.func72, Try.call72⟩) (fun k x h => by rw [Tr.get_nil] at h; cases h) (fun k x h => by rw [Tr.get_nil] at h; cases h)
noncomputable def tabFuncs_378 : Tr (Func) := Tr.node (some Try.f40) tabFuncs_379 Tr.nil
theorem tabFuncs_378_all : ∀ k x, tabFuncs_378.get k = some x → (fun n x => Try.prog.funcs[n]? = some x ∧ ∀ args w, (callFunc n args).run Try.prog w = .ok (.enter n args) w) (32 * k + 40) x := Tr.node_all (P := fun n x => Try.prog.funcs[n]? = some x ∧ ∀ args w, (callFunc n args).run Try.prog w = .ok (.enter n args) w) (a := 32) (b := 40) (fun _ h => by cases h; exact ⟨Try.func40, Try.call40⟩) tabFuncs_379_all (fun k x h => by rw [Tr.get_nil] at h; cases h)
noncomputable def tabFuncs_380 : Tr (Func) := Tr.node (some Try.f56) Tr.nil Tr.nil
theorem tabFuncs_380_all : ∀ k x, tabFuncs_380.get k = some x → (fun n x => Try.prog.funcs[n]? = some x ∧ ∀ args w, (callFunc n args).run Try.prog w = .ok (.enter n args) w) (32 * k + 56) x := Tr.node_all (P := fun n x => Try.prog.funcs[n]? = some x ∧ ∀ args w, (callFunc n args).run Try.prog w = .ok (.enter n args) w) (a := 32) (b := 56) (fun _ h => by cases h; exact ⟨Try.func56, Try.call56⟩) (fun k x h => by rw [Tr.get_nil] at h; cases h) (fun k x h => by rw [Tr.get_nil] at h; cases h)
noncomputable def tabFuncs_377 : Tr (Func) := Tr.node (some Try.f24) tabFuncs_378 tabFuncs_380
theorem tabFuncs_377_all : ∀ k x, tabFuncs_377.get k = some x → (fun n x => Try.prog.funcs[n]? = some x ∧ ∀ args w, (callFunc n args).run Try.prog w = .ok (.enter n args) w) (16 * k + 24) x := Tr.node_all (P := fun n x => Try.prog.funcs[n]? = some x ∧ ∀ args w, (callFunc n args).run Try.prog w = .ok (.enter n args) w) (a := 16) (b := 24) (fun _ h => by cases h; exact ⟨Try.func24, Try.call24⟩) tabFuncs_378_all tabFuncs_380_all
noncomputable def tabFuncs_372 : Tr (Func) := Tr.node (some Try.f8) tabFuncs_373 tabFuncs_377
theorem tabFuncs_372_all : ∀ k x, tabFuncs_372.get k = some x → (fun n x => Try.prog.funcs[n]? = some x ∧ ∀ args w, (callFunc n args).run Try.prog w = .ok (.enter n args) w) (8 * k + 8) x := Tr.node_all (P := fun n x => Try.prog.funcs[n]? = some x ∧ ∀ args w, (callFunc n args).run Try.prog w = .ok (.enter n args) w) (a := 8) (b := 8) (fun _ h => by cases h; exact ⟨Try.func8, Try.call8⟩) tabFuncs_373_all tabFuncs_377_all
noncomputable def tabFuncs_384 : Tr (Func) := Tr.node (some Try.f68) Tr.nil Tr.nil
theorem tabFuncs_384_all : ∀ k x, tabFuncs_384.get k = some x → (fun n x => Try.prog.funcs[n]? = some x ∧ ∀ args w, (callFunc n args).run Try.prog w = .ok (.enter n args) w) (64 * k + 68) x := Tr.node_all (P := fun n x => Try.prog.funcs[n]? = some x ∧ ∀ args w, (callFunc n args).run Try.prog w = .ok (.enter n args) w) (a := 64) (b := 68) (fun _ h => by cases h; exact ⟨Try.func68, Try.call68⟩) (fun k x h => by rw [Tr.get_nil] at h; cases h) (fun k x h => by rw [Tr.get_nil] at h; cases h)
noncomputable def tabFuncs_383 : Tr (Func) := Tr.node (some Try.f36) tabFuncs_384 Tr.nil
theorem tabFuncs_383_all : ∀ k x, tabFuncs_383.get k = some x → (fun n x => Try.prog.funcs[n]? = some x ∧ ∀ args w, (callFunc n args).run Try.prog w = .ok (.enter n args) w) (32 * k + 36) x := Tr.node_all (P := fun n x => Try.prog.funcs[n]? = some x ∧ ∀ args w, (callFunc n args).run Try.prog w = .ok (.enter n args) w) (a := 32) (b := 36) (fun _ h => by cases h; exact ⟨Try.func36, Try.call36⟩) tabFuncs_384_all (fun k x h => by rw [Tr.get_nil] at h; cases h)
noncomputable def tabFuncs_385 : Tr (Func) := Tr.node (some Try.f52) Tr.nil Tr.nil
theorem tabFuncs_385_all : ∀ k x, tabFuncs_385.get k = some x → (fun n x => Try.prog.funcs[n]? = some x ∧ ∀ args w, (callFunc n args).run Try.prog w = .ok (.enter n args) w) (32 * k + 52) x := Tr.node_all (P := fun n x => Try.prog.funcs[n]? = some x ∧ ∀ args w, (callFunc n args).run Try.prog w = .ok (.enter n args) w) (a := 32) (b := 52) (fun _ h => by cases h; exact ⟨Try.func52, Try.call52⟩) (fun k x h => by rw [Tr.get_nil] at h; cases h) (fun k x h => by rw [Tr.get_nil] at h; cases h)
noncomputable def tabFuncs_382 : Tr (Func) := Tr.node (some Try.f20) tabFuncs_383 tabFuncs_385
theorem tabFuncs_382_all : ∀ k x, tabFuncs_382.get k = some x → (fun n x => Try.prog.funcs[n]? = some x ∧ ∀ args w, (callFunc n args).run Try.prog w = .ok (.enter n args) w) (16 * k + 20) x := Tr.node_all (P := fun n x => Try.prog.funcs[n]? = some x ∧ ∀ args w, (callFunc n args).run Try.prog w = .ok (.enter n args) w) (a := 16) (b := 20) (fun _ h => by cases h; exact ⟨Try.func20, Try.call20⟩) tabFuncs_383_all tabFuncs_385_all
noncomputable def tabFuncs_387 : Tr (Func) := Tr.node (some Try.f44) Tr.nil Tr.nil
theorem tabFuncs_387_all : ∀ k x, tabFuncs_387.get k = some x → (fun n x => Try.prog.funcs[n]? = some x ∧ ∀ args w, (callFunc n args).run Try.prog w = .ok (.enter n args) w) (32 * k + 44) x := Tr.node_all (P := fun n x => Try.prog.funcs[n]? = some x ∧ ∀ args w, (callFunc n args).run Try.prog w = .ok (.enter n args) w) (a := 32) (b := 44) (fun _ h => by cases h; exact ⟨Try.func44, Try.call44⟩) (fun k x h => by rw [Tr.get_nil] at h; cases h) (fun k x h => by rw [Tr.get_nil] at h; cases h)
noncomputable def tabFuncs_388 : Tr (Func) := Tr.node (some Try.f60) Tr.nil Tr.nil
theorem tabFuncs_388_all : ∀ k x, tabFuncs_388.get k = some x → (fun n x => Try.prog.funcs[n]? = some x ∧ ∀ args w, (callFunc n args).run Try.prog w = .ok (.enter n args) w) (32 * k + 60) x := Tr.node_all (P := fun n x => Try.prog.funcs[n]? = some x ∧ ∀ args w, (callFunc n args).run Try.prog w = .ok (.enter n args) w) (a := 32) (b := 60) (fun _ h => by cases h; exact ⟨Try.func60, Try.call60⟩) (fun k x h => by rw [Tr.get_nil] at h; cases h) (fun k x h => by rw [Tr.get_nil] at h; cases h)
noncomputable def tabFuncs_386 : Tr (Func) := Tr.node (some Try.f28) tabFuncs_387 tabFuncs_388
theorem tabFuncs_386_all : ∀ k x, tabFuncs_386.get k = some x → (fun n x => Try.prog.funcs[n]? = some x ∧ ∀ args w, (callFunc n args).run Try.prog w = .ok (.enter n args) w) (16 * k + 28) x := Tr.node_all (P := fun n x => Try.prog.funcs[n]? = some x ∧ ∀ args w, (callFunc n args).run Try.prog w = .ok (.enter n args) w) (a := 16) (b := 28) (fun _ h => by cases h; exact ⟨Try.func28, Try.call28⟩) tabFuncs_387_all tabFuncs_388_all
noncomputable def tabFuncs_381 : Tr (Func) := Tr.node (some Try.f12) tabFuncs_382 tabFuncs_386
theorem tabFuncs_381_all : ∀ k x, tabFuncs_381.get k = some x → (fun n x => Try.prog.funcs[n]? = some x ∧ ∀ args w, (callFunc n args).run Try.prog w = .ok (.enter n args) w) (8 * k + 12) x := Tr.node_all (P := fun n x => Try.prog.funcs[n]? = some x ∧ ∀ args w, (callFunc n args).run Try.prog w = .ok (.enter n args) w) (a := 8) (b := 12) (fun _ h => by cases h; exact ⟨Try.func12, Try.call12⟩) tabFuncs_382_all tabFuncs_386_all
noncomputable def tabFuncs_371 : Tr (Func) := Tr.node (some Try.f4) tabFuncs_372 tabFuncs_381
theorem tabFuncs_371_all : ∀ k x, tabFuncs_371.get k = some x → (fun n x => Try.prog.funcs[n]? = some x ∧ ∀ args w, (callFunc n args).run Try.prog w = .ok (.enter n args) w) (4 * k + 4) x := Tr.node_all (P := fun n x => Try.prog.funcs[n]? = some x ∧ ∀ args w, (callFunc n args).run Try.prog w = .ok (.enter n args) w) (a := 4) (b := 4) (fun _ h => by cases h; exact ⟨Try.func4, Try.call4⟩) tabFuncs_372_all tabFuncs_381_all
noncomputable def tabFuncs_393 : Tr (Func) := Tr.node (some Try.f66) Tr.nil Tr.nil
theorem tabFuncs_393_all : ∀ k x, tabFuncs_393.get k = some x → (fun n x => Try.prog.funcs[n]? = some x ∧ ∀ args w, (callFunc n args).run Try.prog w = .ok (.enter n args) w) (64 * k + 66) x := Tr.node_all (P := fun n x => Try.prog.funcs[n]? = some x ∧ ∀ args w, (callFunc n args).run Try.prog w = .ok (.enter n args) w) (a := 64) (b := 66) (fun _ h => by cases h; exact ⟨Try.func66, Try.call66⟩) (fun k x h => by rw [Tr.get_nil] at h; cases h) (fun k x h => by rw [Tr.get_nil] at h; cases h)
noncomputable def tabFuncs_392 : Tr (Func) := Tr.node (some Try.f34) tabFuncs_393 Tr.nil
theorem tabFuncs_392_all : ∀ k x, tabFuncs_392.get k = some x → (fun n x => Try.prog.funcs[n]? = some x ∧ ∀ args w, (callFunc n args).run Try.prog w = .ok (.enter n args) w) (32 * k + 34) x := Tr.node_all (P := fun n x => Try.prog.funcs[n]? = some x ∧ ∀ args w, (callFunc n args).run Try.prog w = .ok (.enter n args) w) (a := 32) (b := 34) (fun _ h => by cases h; exact ⟨Try.func34, Try.call34⟩) tabFuncs_393_all (fun k x h => by rw [Tr.get_nil] at h; cases h)
noncomputable def tabFuncs_394 : Tr (Func) := Tr.node (some Try.f50) Tr.nil Tr.nil
theorem tabFuncs_394_all : ∀ k x, tabFuncs_394.get k = some x → (fun n x => Try.prog.funcs[n]? = some x ∧ ∀ args w, (callFunc n args).run Try.prog w = .ok (.enter n args) w) (32 * k + 50) x := Tr.node_all (P := fun n x => Try.prog.funcs[n]? = some x ∧ ∀ args w, (callFunc n args).run Try.prog w = .ok (.enter n args) w) (a := 32) (b := 50) (fun _ h => by cases h; exact ⟨Try.func50, Try.call50⟩) (fun k x h => by rw [Tr.get_nil] at h; cases h) (fun k x h => by rw [Tr.get_nil] at h; cases h)
noncomputable def tabFuncs_391 : Tr (Func) := Tr.node (some Try.f18) tabFuncs_392 tabFuncs_394
theorem tabFuncs_391_all : ∀ k x, tabFuncs_391.get k = some x → (fun n x => Try.prog.funcs[n]? = some x ∧ ∀ args w, (callFunc n args).run Try.prog w = .ok (.enter n args) w) (16 * k + 18) x := Tr.node_all (P := fun n x => Try.prog.funcs[n]? = some x ∧ ∀ args w, (callFunc n args).run Try.prog w = .ok (.enter n args) w) (a := 16) (b := 18) (fun _ h => by cases h; exact ⟨Try.func18, Try.call18⟩) tabFuncs_392_all tabFuncs_394_all
noncomputable def tabFuncs_397 : Tr (Func) := Tr.node (some Try.f74) Tr.nil Tr.nil
theorem tabFuncs_397_all : ∀ k x, tabFuncs_397.get k = some x → (fun n x => Try.prog.funcs[n]? = some x ∧ ∀ args w, (callFunc n args).run Try.prog w = .ok (.enter n args) w) (64 * k + 74) x := Tr.node_all (P := fun n x => Try.prog.funcs[n]? = some x ∧ ∀ args w, (callFunc n args).run Try.prog w = .ok (.enter n args) w) (a := 64) (b := 74) (fun _ h => by cases h; exact ⟨Try.func74, Try.call74⟩) (fun k x h => by rw [Tr.get_nil] at h; cases h) (fun k x h => by rw [Tr.get_nil] at h; cases h)
noncomputable def tabFuncs_396 : Tr (Func) := Tr.node (some Try.f42) tabFuncs_397 Tr.nil
theorem tabFuncs_396_all : ∀ k x, tabFuncs_396.get k = some x → (fun n x => Try.prog.funcs[n]? = some x ∧ ∀ args w, (callFunc n args).run Try.prog w = .ok (.enter n args) w) (32 * k + 42) x := Tr.node_all (P := fun n x => Try.prog.funcs[n]? = some x ∧ ∀ args w, (callFunc n args).run Try.prog w = .ok (.enter n args) w) (a := 32) (b := 42) (fun _ h => by cases h; exact ⟨Try.func42, Try.call42⟩) tabFuncs_397_all (fun k x h => by rw [Tr.get_nil] at h; cases h)
noncomputable def tabFuncs_398 : Tr (Func) := Tr.node (some Try.f58) Tr.nil Tr.nil
theorem tabFuncs_398_all : ∀ k x, tabFuncs_398.get k = some x → (fun n x => Try.prog.funcs[n]? = some x ∧ ∀ args w, (callFunc n args).run Try.prog w = .ok (.enter n args) w) (32 * k + 58) x := Tr.node_all (P := fun n x => Try.prog.funcs[n]? = some x ∧ ∀ args w, (callFunc n args).run Try.prog w = .ok (.enter n args) w) (a := 32) (b := 58) (fun _ h => by cases h; exact ⟨Try.func58, Try.call58⟩) (fun k x h => by rw [Tr.get_nil] at h; cases h) (fun k x h => by rw [Tr.get_nil] at h; cases h)
noncomputable def tabFuncs_395 : Tr (Func) := Tr.node (some Try.f26) tabFuncs_396 tabFuncs_398
theorem tabFuncs_395_all : ∀ k x, tabFuncs_395.get k = some x → (fun n x => Try.prog.funcs[n]? = some x ∧ ∀ args w, (callFunc n args).run Try.prog w = .ok (.enter n args) w) (16 * k + 26) x := Tr.node_all (P := fun n x => Try.prog.funcs[n]? = some x ∧ ∀ args w, (callFunc n args).run Try.prog w = .ok (.enter n args) w) (a := 16) (b := 26) (fun _ h => by cases h; exact ⟨Try.func26, Try.call26⟩) tabFuncs_396_all tabFuncs_398_all
noncomputable def tabFuncs_390 : Tr (Func) := Tr.node (some Try.f10) tabFuncs_391 tabFuncs_395
theorem tabFuncs_390_all : ∀ k x, tabFuncs_390.get k = some x → (fun n x => Try.prog.funcs[n]? = some x ∧ ∀ args w, (callFunc n args).run Try.prog w = .ok (.enter n args) w) (8 * k + 10) x := Tr.node_all (P := fun n x => Try.prog.funcs[n]? = some x ∧ ∀ args w, (callFunc n args).run Try.prog w = .ok (.enter n args) w) (a := 8) (b := 10) (fun _ h => by cases h; exact ⟨Try.func10, Try.call10⟩) tabFuncs_391_all tabFuncs_395_all
noncomputable def tabFuncs_402 : Tr (Func) := Tr.node (some Try.f70) Tr.nil Tr.nil
theorem tabFuncs_402_all : ∀ k x, tabFuncs_402.get k = some x → (fun n x => Try.prog.funcs[n]? = some x ∧ ∀ args w, (callFunc n args).run Try.prog w = .ok (.enter n args) w) (64 * k + 70) x := Tr.node_all (P := fun n x => Try.prog.funcs[n]? = some x ∧ ∀ args w, (callFunc n args).run Try.prog w = .ok (.enter n args) w) (a := 64) (b := 70) (fun _ h => by cases h; exact ⟨Try.func70, Try.call70⟩) (fun k x h => by rw [Tr.get_nil] at h; cases h) (fun k x h => by rw [Tr.get_nil] at h; cases h)
noncomputable def tabFuncs_401 : Tr (Func) := Tr.node (some Try.f38) tabFuncs_402 Tr.nil
theorem tabFuncs_401_all : ∀ k x, tabFuncs_401.get k = some x → (fun n x => Try.prog.funcs[n]? = some x ∧ ∀ args w, (callFunc n args).run Try.prog w = .ok (.enter n args) w) (32 * k + 38) x := Tr.node_all (P := fun n x => Try.prog.funcs[n]? = some x ∧ ∀ args w, (callFunc n args).run Try.prog w = .ok (.enter n args) w) (a := 32) (b := 38) (fun _ h => by cases h; exact ⟨Try.func38, Try.call38⟩) tabFuncs_402_all (fun k x h => by rw [Tr.get_nil] at h; cases h)
noncomputable def tabFuncs_403 : Tr (Func) := Tr.node (some Try.f54) Tr.nil Tr.nil
theorem tabFuncs_403_all : ∀ k x, tabFuncs_403.get k = some x → (fun n x => Try.prog.funcs[n]? = some x ∧ ∀ args w, (callFunc n args).run Try.prog w = .ok (.enter n args) w) (32 * k + 54) x := Tr.node_all (P := fun n x => Try.prog.funcs[n]? = some x ∧ ∀ args w, (callFunc n args).run Try.prog w = .ok (.enter n args) w) (a := 32) (b := 54) (fun _ h => by cases h; exact ⟨Try.func54, Try.call54⟩) (fun k x h => by rw [Tr.get_nil] at h; cases h) (fun k x h => by rw [Tr.get_nil] at h; cases h)
noncomputable def tabFuncs_400 : Tr (Func) := Tr.node (some Try.f22) tabFuncs_401 tabFuncs_403
theorem tabFuncs_400_all : ∀ k x, tabFuncs_400.get k = some x → (fun n x => Try.prog.funcs[n]? = some x ∧ ∀ args w, (callFunc n args).run Try.prog w = .ok (.enter n args) w) (16 * k + 22) x := Tr.node_all (P := fun n x => Try.prog.funcs[n]? = some x ∧ ∀ args w, (callFunc n args).run Try.prog w = .ok (.enter n args) w) (a := 16) (b := 22) (fun _ h => by cases h; exact ⟨Try.func22, Try.call22⟩) tabFuncs_401_all tabFuncs_403_all
noncomputable def tabFuncs_405 : Tr (Func) := Tr.node (some Try.f46) Tr.nil Tr.nil
theorem tabFuncs_405_all : ∀ k x, tabFuncs_405.get k = some x → (fun n x => Try.prog.funcs[n]? = some x ∧ ∀ args w, (callFunc n args).run Try.prog w = .ok (.enter n args) w) (32 * k + 46) x := Tr.node_all (P := fun n x => Try.prog.funcs[n]? = some x ∧ ∀ args w, (callFunc n args).run Try.prog w = .ok (.enter n args) w) (a := 32) (b := 46) (fun _ h => by cases h; exact ⟨Try.func46, Try.call46⟩) (fun k x h => by rw [Tr.get_nil] at h; cases h) (fun k x h => by rw [Tr.get_nil] at h; cases h)
noncomputable def tabFuncs_406 : Tr (Func) := Tr.node (some Try.f62) Tr.nil Tr.nil
theorem tabFuncs_406_all : ∀ k x, tabFuncs_406.get k = some x → (fun n x => Try.prog.funcs[n]? = some x ∧ ∀ args w, (callFunc n args).run Try.prog w = .ok (.enter n args) w) (32 * k + 62) x := Tr.node_all (P := fun n x => Try.prog.funcs[n]? = some x ∧ ∀ args w, (callFunc n args).run Try.prog w = .ok (.enter n args) w) (a := 32) (b := 62) (fun _ h => by cases h; exact ⟨Try.func62, Try.call62⟩) (fun k x h => by rw [Tr.get_nil] at h; cases h) (fun k x h => by rw [Tr.get_nil] at h; cases h)
noncomputable def tabFuncs_404 : Tr (Func) := Tr.node (some Try.f30) tabFuncs_405 tabFuncs_406
theorem tabFuncs_404_all : ∀ k x, tabFuncs_404.get k = some x → (fun n x => Try.prog.funcs[n]? = some x ∧ ∀ args w, (callFunc n args).run Try.prog w = .ok (.enter n args) w) (16 * k + 30) x := Tr.node_all (P := fun n x => Try.prog.funcs[n]? = some x ∧ ∀ args w, (callFunc n args).run Try.prog w = .ok (.enter n args) w) (a := 16) (b := 30) (fun _ h => by cases h; exact ⟨Try.func30, Try.call30⟩) tabFuncs_405_all tabFuncs_406_all
noncomputable def tabFuncs_399 : Tr (Func) := Tr.node (some Try.f14) tabFuncs_400 tabFuncs_404
theorem tabFuncs_399_all : ∀ k x, tabFuncs_399.get k = some x → (fun n x => Try.prog.funcs[n]? = some x ∧ ∀ args w, (callFunc n args).run Try.prog w = .ok (.enter n args) w) (8 * k + 14) x := Tr.node_all (P := fun n x => Try.prog.funcs[n]? = some x ∧ ∀ args w, (callFunc n args).run Try.prog w = .ok (.enter n args) w) (a := 8) (b := 14) (fun _ h => by cases h; exact ⟨Try.func14, Try.call14⟩) tabFuncs_400_all tabFuncs_404_all
noncomputable def tabFuncs_389 : Tr (Func) := Tr.node (some Try.f6) tabFuncs_390 tabFuncs_399
theorem tabFuncs_389_all : ∀ k x, tabFuncs_389.get k = some x → (fun n x => Try.prog.funcs[n]? = some x ∧ ∀ args w, (callFunc n args).run Try.prog w = .ok (.enter n args) w) (4 * k + 6) x := Tr.node_all (P := fun n x => Try.prog.funcs[n]? = some x ∧ ∀ args w, (callFunc n args).run Try.prog w = .ok (.enter n args) w) (a := 4) (b := 6) (fun _ h => by cases h; exact ⟨Try.func6, Try.call6⟩) tabFuncs_390_all tabFuncs_399_all
noncomputable def tabFuncs_370 : Tr (Func) := Tr.node none tabFuncs_371 tabFuncs_389
theorem tabFuncs_370_all : ∀ k x, tabFuncs_370.get k = some x → (fun n x => Try.prog.funcs[n]? = some x ∧ ∀ args w, (callFunc n args).run Try.prog w = .ok (.enter n args) w) (2 * k + 2) x := Tr.node_all (P := fun n x => Try.prog.funcs[n]? = some x ∧ ∀ args w, (callFunc n args).run Try.prog w = .ok (.enter n args) w) (a := 2) (b := 2) (fun _ h => by cases h) tabFuncs_371_all tabFuncs_389_all
noncomputable def tabFuncs_331 : Tr (Func) := Tr.node none tabFuncs_332 tabFuncs_370
theorem tabFuncs_331_all : ∀ k x, tabFuncs_331.get k = some x → (fun n x => Try.prog.funcs[n]? = some x ∧ ∀ args w, (callFunc n args).run Try.prog w = .ok (.enter n args) w) (1 * k + 0) x := Tr.node_all (P := fun n x => Try.prog.funcs[n]? = some x ∧ ∀ args w, (callFunc n args).run Try.prog w = .ok (.enter n args) w) (a := 1) (b := 0) (fun _ h => by cases h) tabFuncs_332_all tabFuncs_370_all
noncomputable def tabFuncs : Tr (Func) := tabFuncs_331
theorem tabFuncs_all : ∀ k x, tabFuncs.get k = some x → (fun n x => Try.prog.funcs[n]? = some x ∧ ∀ args w, (callFunc n args).run Try.prog w = .ok (.enter n args) w) k x := fun k x h => by have := tabFuncs_331_all k x h; rwa [Nat.one_mul, Nat.add_zero] at this

noncomputable def Tb : Tabs := ⟨tabInfo, tabUnd, tabFuncs, .nil, .nil, .nil⟩
theorem Tb_ok : Tb.Ok Try.prog where
  info := fun t i h => (tabInfo_all t i h).1
  und := tabUnd_all
  func := fun f fn h => (tabFuncs_all f fn h).1
  call := fun f fn h => (tabFuncs_all f fn h).2
  meth := fun t l h => by rw [show Tb.meths = Tr.nil from rfl, Tr.get_nil] at h; cases h
  ahead := fun t l h => by rw [show Tb.meths = Tr.nil from rfl, Tr.get_nil] at h; cases h
  zero := fun t i z h => (tabInfo_all t i h).2 z
  mixed := by kernel_rfl
  short := fun f s h => by rw [show Tb.short = Tr.nil from rfl, Tr.get_nil] at h; cases h
end Go.Proofs.Ytnnfobmfffbhaaa
