import Derived.Test.YtfnigiojgbeklaaDoorEngMt
import Derived.Test.YtfnigiojgbeklaaDoorProg
import Derived.KernelRfl
set_option linter.unusedSimpArgs false
set_option linter.unusedVariables false
set_option linter.unusedSectionVars false
open Go Go.Eng
namespace Go.Proofs.YtfnigiojgbeklaaDoor
set_option maxRecDepth 100000

theorem Tr.node_all {α : Type} {P : Nat → α → Prop} {v : Option α} {l r : Tr α} {a b : Nat} (h0 : ∀ x, v = some x → P b x) (hl : ∀ k x, l.get k = some x → P ((2 * a) * k + (a + b)) x)
    (hr : ∀ k x, r.get k = some x → P ((2 * a) * k + (2 * a + b)) x) : ∀ k x, (Tr.node v l r).get k = some x → P (a * k + b) x := by
  intro k x h
  cases k with
  | zero => simp only [Nat.mul_zero, Nat.zero_add]; exact h0 x h
  | succ m =>
    simp only [Tr.get] at h
    split at h
    · rename_i hb
      have hb := Nat.eq_of_beq_eq_true hb
      have := hl _ _ h
      rw [natmod] at hb
      rw [natdiv] at this
      have e : 2 * a * (m / 2) + (a + b) = a * (m + 1) + b := by
        have : m = 2 * (m / 2) := by omega
        rw [Nat.mul_add, show a * m = a * (2 * (m / 2)) from by rw [← this]]
        rw [Nat.mul_comm 2 a, Nat.mul_assoc]; omega
      rwa [e] at this
    · rename_i hb
      have hb := Nat.ne_of_beq_eq_false hb
      have := hr _ _ h
      rw [natmod] at hb
      rw [natdiv] at this
      have e : 2 * a * (m / 2) + (2 * a + b) = a * (m + 1) + b := by
        have : m = 2 * (m / 2) + 1 := by omega
        rw [show a * (m + 1) = a * (2 * (m / 2) + 2) from by rw [show m + 1 = 2 * (m / 2) + 2 from by omega]]
        rw [Nat.mul_add, Nat.mul_comm 2 a, Nat.mul_assoc]; omega
      rwa [e] at this

theorem Tr.nilAll {α : Type} {Q : Nat → α → Prop} : ∀ k x, (Tr.nil : Tr α).get k = some x → Q k x := fun k x h => by rw [Tr.get_nil] at h; cases h
abbrev PT0 : Nat → TypeInfo → Prop := fun n x => Tryd.prog.info? n = some x ∧ ∀ z, x.zero = some z → flat z = true
abbrev PT1 : Nat → TypeDesc → Prop := fun n x => Tryd.prog.underlying n = some x
abbrev PT2 : Nat → Func → Prop := fun n x => Tryd.prog.funcs[n]? = some x ∧ ∀ args w, (callFunc n args).run Tryd.prog w = .ok (.enter n args) w
abbrev PT3 : Nat → List (String × FuncId) → Prop := fun n x => MethOk Tryd.prog n x
theorem info0 : Tryd.prog.info? 0 = some Tryd.t0 := by kernel_rfl
theorem info1 : Tryd.prog.info? 1 = some Tryd.t1 := by kernel_rfl
theorem info2 : Tryd.prog.info? 2 = some Tryd.t2 := by kernel_rfl
theorem info3 : Tryd.prog.info? 3 = some Tryd.t3 := by kernel_rfl
theorem info4 : Tryd.prog.info? 4 = some Tryd.t4 := by kernel_rfl
theorem info5 : Tryd.prog.info? 5 = some Tryd.t5 := by kernel_rfl
theorem info6 : Tryd.prog.info? 6 = some Tryd.t6 := by kernel_rfl
theorem info7 : Tryd.prog.info? 7 = some Tryd.t7 := by kernel_rfl
theorem info8 : Tryd.prog.info? 8 = some Tryd.t8 := by kernel_rfl
theorem info9 : Tryd.prog.info? 9 = some Tryd.t9 := by kernel_rfl
theorem info10 : Tryd.prog.info? 10 = some Tryd.t10 := by kernel_rfl
theorem info11 : Tryd.prog.info? 11 = some Tryd.t11 := by kernel_rfl
theorem info12 : Tryd.prog.info? 12 = some Tryd.t12 := by kernel_rfl
theorem info13 : Tryd.prog.info? 13 = some Tryd.t13 := by kernel_rfl
theorem info14 : Tryd.prog.info? 14 = some Tryd.t14 := by kernel_rfl
theorem info15 : Tryd.prog.info? 15 = some Tryd.t15 := by kernel_rfl
theorem info16 : Tryd.prog.info? 16 = some Tryd.t16 := by kernel_rfl
theorem info17 : Tryd.prog.info? 17 = some Tryd.t17 := by kernel_rfl
theorem info18 : Tryd.prog.info? 18 = some Tryd.t18 := by kernel_rfl
theorem info19 : Tryd.prog.info? 19 = some Tryd.t19 := by kernel_rfl
theorem info20 : Tryd.prog.info? 20 = some Tryd.t20 := by kernel_rfl
theorem info21 : Tryd.prog.info? 21 = some Tryd.t21 := by kernel_rfl
theorem info22 : Tryd.prog.info? 22 = some Tryd.t22 := by kernel_rfl
theorem info23 : Tryd.prog.info? 23 = some Tryd.t23 := by kernel_rfl
theorem info24 : Tryd.prog.info? 24 = some Tryd.t24 := by kernel_rfl
theorem info25 : Tryd.prog.info? 25 = some Tryd.t25 := by kernel_rfl
theorem info26 : Tryd.prog.info? 26 = some Tryd.t26 := by kernel_rfl
theorem info27 : Tryd.prog.info? 27 = some Tryd.t27 := by kernel_rfl
theorem info28 : Tryd.prog.info? 28 = some Tryd.t28 := by kernel_rfl
theorem info29 : Tryd.prog.info? 29 = some Tryd.t29 := by kernel_rfl
theorem info30 : Tryd.prog.info? 30 = some Tryd.t30 := by kernel_rfl
theorem info31 : Tryd.prog.info? 31 = some Tryd.t31 := by kernel_rfl
theorem info32 : Tryd.prog.info? 32 = some Tryd.t32 := by kernel_rfl
theorem info33 : Tryd.prog.info? 33 = some Tryd.t33 := by kernel_rfl
theorem info34 : Tryd.prog.info? 34 = some Tryd.t34 := by kernel_rfl
theorem info35 : Tryd.prog.info? 35 = some Tryd.t35 := by kernel_rfl
theorem info36 : Tryd.prog.info? 36 = some Tryd.t36 := by kernel_rfl
theorem info37 : Tryd.prog.info? 37 = some Tryd.t37 := by kernel_rfl
theorem info38 : Tryd.prog.info? 38 = some Tryd.t38 := by kernel_rfl
theorem info39 : Tryd.prog.info? 39 = some Tryd.t39 := by kernel_rfl
theorem info40 : Tryd.prog.info? 40 = some Tryd.t40 := by kernel_rfl
theorem info41 : Tryd.prog.info? 41 = some Tryd.t41 := by kernel_rfl
theorem info42 : Tryd.prog.info? 42 = some Tryd.t42 := by kernel_rfl
theorem info43 : Tryd.prog.info? 43 = some Tryd.t43 := by kernel_rfl
theorem info44 : Tryd.prog.info? 44 = some Tryd.t44 := by kernel_rfl
theorem info45 : Tryd.prog.info? 45 = some Tryd.t45 := by kernel_rfl
theorem info46 : Tryd.prog.info? 46 = some Tryd.t46 := by kernel_rfl
theorem info47 : Tryd.prog.info? 47 = some Tryd.t47 := by kernel_rfl
theorem info48 : Tryd.prog.info? 48 = some Tryd.t48 := by kernel_rfl
theorem info49 : Tryd.prog.info? 49 = some Tryd.t49 := by kernel_rfl
theorem info50 : Tryd.prog.info? 50 = some Tryd.t50 := by kernel_rfl
theorem info51 : Tryd.prog.info? 51 = some Tryd.t51 := by kernel_rfl
theorem info52 : Tryd.prog.info? 52 = some Tryd.t52 := by kernel_rfl
theorem info53 : Tryd.prog.info? 53 = some Tryd.t53 := by kernel_rfl
theorem info54 : Tryd.prog.info? 54 = some Tryd.t54 := by kernel_rfl
theorem info55 : Tryd.prog.info? 55 = some Tryd.t55 := by kernel_rfl
theorem info56 : Tryd.prog.info? 56 = some Tryd.t56 := by kernel_rfl
theorem info57 : Tryd.prog.info? 57 = some Tryd.t57 := by kernel_rfl
theorem info58 : Tryd.prog.info? 58 = some Tryd.t58 := by kernel_rfl
theorem info59 : Tryd.prog.info? 59 = some Tryd.t59 := by kernel_rfl
theorem info60 : Tryd.prog.info? 60 = some Tryd.t60 := by kernel_rfl
theorem info61 : Tryd.prog.info? 61 = some Tryd.t61 := by kernel_rfl
theorem info62 : Tryd.prog.info? 62 = some Tryd.t62 := by kernel_rfl
theorem info63 : Tryd.prog.info? 63 = some Tryd.t63 := by kernel_rfl
theorem info64 : Tryd.prog.info? 64 = some Tryd.t64 := by kernel_rfl
theorem info65 : Tryd.prog.info? 65 = some Tryd.t65 := by kernel_rfl
theorem info66 : Tryd.prog.info? 66 = some Tryd.t66 := by kernel_rfl
theorem info67 : Tryd.prog.info? 67 = some Tryd.t67 := by kernel_rfl
theorem info68 : Tryd.prog.info? 68 = some Tryd.t68 := by kernel_rfl
theorem info69 : Tryd.prog.info? 69 = some Tryd.t69 := by kernel_rfl
theorem info70 : Tryd.prog.info? 70 = some Tryd.t70 := by kernel_rfl
theorem info71 : Tryd.prog.info? 71 = some Tryd.t71 := by kernel_rfl
theorem info72 : Tryd.prog.info? 72 = some Tryd.t72 := by kernel_rfl
theorem info73 : Tryd.prog.info? 73 = some Tryd.t73 := by kernel_rfl
theorem info74 : Tryd.prog.info? 74 = some Tryd.t74 := by kernel_rfl
theorem info75 : Tryd.prog.info? 75 = some Tryd.t75 := by kernel_rfl
theorem info76 : Tryd.prog.info? 76 = some Tryd.t76 := by kernel_rfl
theorem info77 : Tryd.prog.info? 77 = some Tryd.t77 := by kernel_rfl
theorem info78 : Tryd.prog.info? 78 = some Tryd.t78 := by kernel_rfl
theorem info79 : Tryd.prog.info? 79 = some Tryd.t79 := by kernel_rfl
theorem info80 : Tryd.prog.info? 80 = some Tryd.t80 := by kernel_rfl
theorem info81 : Tryd.prog.info? 81 = some Tryd.t81 := by kernel_rfl
theorem info82 : Tryd.prog.info? 82 = some Tryd.t82 := by kernel_rfl
theorem info83 : Tryd.prog.info? 83 = some Tryd.t83 := by kernel_rfl
theorem info84 : Tryd.prog.info? 84 = some Tryd.t84 := by kernel_rfl
theorem info85 : Tryd.prog.info? 85 = some Tryd.t85 := by kernel_rfl
theorem info86 : Tryd.prog.info? 86 = some Tryd.t86 := by kernel_rfl
theorem info87 : Tryd.prog.info? 87 = some Tryd.t87 := by kernel_rfl
theorem info88 : Tryd.prog.info? 88 = some Tryd.t88 := by kernel_rfl
theorem info89 : Tryd.prog.info? 89 = some Tryd.t89 := by kernel_rfl
theorem info90 : Tryd.prog.info? 90 = some Tryd.t90 := by kernel_rfl
theorem info91 : Tryd.prog.info? 91 = some Tryd.t91 := by kernel_rfl
theorem info92 : Tryd.prog.info? 92 = some Tryd.t92 := by kernel_rfl
theorem info93 : Tryd.prog.info? 93 = some Tryd.t93 := by kernel_rfl
theorem info94 : Tryd.prog.info? 94 = some Tryd.t94 := by kernel_rfl
theorem info95 : Tryd.prog.info? 95 = some Tryd.t95 := by kernel_rfl
theorem info96 : Tryd.prog.info? 96 = some Tryd.t96 := by kernel_rfl
theorem info97 : Tryd.prog.info? 97 = some Tryd.t97 := by kernel_rfl
theorem info98 : Tryd.prog.info? 98 = some Tryd.t98 := by kernel_rfl
theorem info99 : Tryd.prog.info? 99 = some Tryd.t99 := by kernel_rfl
theorem info100 : Tryd.prog.info? 100 = some Tryd.t100 := by kernel_rfl
theorem info101 : Tryd.prog.info? 101 = some Tryd.t101 := by kernel_rfl
theorem info102 : Tryd.prog.info? 102 = some Tryd.t102 := by kernel_rfl
theorem info103 : Tryd.prog.info? 103 = some Tryd.t103 := by kernel_rfl
theorem info104 : Tryd.prog.info? 104 = some Tryd.t104 := by kernel_rfl
theorem info105 : Tryd.prog.info? 105 = some Tryd.t105 := by kernel_rfl
theorem info106 : Tryd.prog.info? 106 = some Tryd.t106 := by kernel_rfl
theorem info107 : Tryd.prog.info? 107 = some Tryd.t107 := by kernel_rfl
theorem info108 : Tryd.prog.info? 108 = some Tryd.t108 := by kernel_rfl
theorem info109 : Tryd.prog.info? 109 = some Tryd.t109 := by kernel_rfl
theorem info110 : Tryd.prog.info? 110 = some Tryd.t110 := by kernel_rfl
theorem info111 : Tryd.prog.info? 111 = some Tryd.t111 := by kernel_rfl
theorem info112 : Tryd.prog.info? 112 = some Tryd.t112 := by kernel_rfl
theorem info113 : Tryd.prog.info? 113 = some Tryd.t113 := by kernel_rfl
theorem info114 : Tryd.prog.info? 114 = some Tryd.t114 := by kernel_rfl
theorem info115 : Tryd.prog.info? 115 = some Tryd.t115 := by kernel_rfl
theorem info116 : Tryd.prog.info? 116 = some Tryd.t116 := by kernel_rfl
theorem info117 : Tryd.prog.info? 117 = some Tryd.t117 := by kernel_rfl
theorem info118 : Tryd.prog.info? 118 = some Tryd.t118 := by kernel_rfl
theorem info119 : Tryd.prog.info? 119 = some Tryd.t119 := by kernel_rfl
theorem info120 : Tryd.prog.info? 120 = some Tryd.t120 := by kernel_rfl
theorem info121 : Tryd.prog.info? 121 = some Tryd.t121 := by kernel_rfl
theorem info122 : Tryd.prog.info? 122 = some Tryd.t122 := by kernel_rfl
theorem info123 : Tryd.prog.info? 123 = some Tryd.t123 := by kernel_rfl
theorem info124 : Tryd.prog.info? 124 = some Tryd.t124 := by kernel_rfl
theorem info125 : Tryd.prog.info? 125 = some Tryd.t125 := by kernel_rfl
theorem info126 : Tryd.prog.info? 126 = some Tryd.t126 := by kernel_rfl
theorem info127 : Tryd.prog.info? 127 = some Tryd.t127 := by kernel_rfl
theorem info128 : Tryd.prog.info? 128 = some Tryd.t128 := by kernel_rfl
theorem info129 : Tryd.prog.info? 129 = some Tryd.t129 := by kernel_rfl
theorem info130 : Tryd.prog.info? 130 = some Tryd.t130 := by kernel_rfl
theorem info131 : Tryd.prog.info? 131 = some Tryd.t131 := by kernel_rfl
theorem info132 : Tryd.prog.info? 132 = some Tryd.t132 := by kernel_rfl
theorem info133 : Tryd.prog.info? 133 = some Tryd.t133 := by kernel_rfl
theorem info134 : Tryd.prog.info? 134 = some Tryd.t134 := by kernel_rfl
theorem info135 : Tryd.prog.info? 135 = some Tryd.t135 := by kernel_rfl
theorem info136 : Tryd.prog.info? 136 = some Tryd.t136 := by kernel_rfl
theorem info137 : Tryd.prog.info? 137 = some Tryd.t137 := by kernel_rfl
theorem info138 : Tryd.prog.info? 138 = some Tryd.t138 := by kernel_rfl
theorem info139 : Tryd.prog.info? 139 = some Tryd.t139 := by kernel_rfl
theorem info140 : Tryd.prog.info? 140 = some Tryd.t140 := by kernel_rfl
theorem info141 : Tryd.prog.info? 141 = some Tryd.t141 := by kernel_rfl
theorem info142 : Tryd.prog.info? 142 = some Tryd.t142 := by kernel_rfl
theorem info143 : Tryd.prog.info? 143 = some Tryd.t143 := by kernel_rfl
theorem info144 : Tryd.prog.info? 144 = some Tryd.t144 := by kernel_rfl
theorem info145 : Tryd.prog.info? 145 = some Tryd.t145 := by kernel_rfl
theorem info146 : Tryd.prog.info? 146 = some Tryd.t146 := by kernel_rfl
theorem info147 : Tryd.prog.info? 147 = some Tryd.t147 := by kernel_rfl
theorem info148 : Tryd.prog.info? 148 = some Tryd.t148 := by kernel_rfl
theorem info149 : Tryd.prog.info? 149 = some Tryd.t149 := by kernel_rfl
theorem info150 : Tryd.prog.info? 150 = some Tryd.t150 := by kernel_rfl
theorem info151 : Tryd.prog.info? 151 = some Tryd.t151 := by kernel_rfl
theorem info152 : Tryd.prog.info? 152 = some Tryd.t152 := by kernel_rfl
theorem info153 : Tryd.prog.info? 153 = some Tryd.t153 := by kernel_rfl
theorem info154 : Tryd.prog.info? 154 = some Tryd.t154 := by kernel_rfl
theorem info155 : Tryd.prog.info? 155 = some Tryd.t155 := by kernel_rfl
theorem info156 : Tryd.prog.info? 156 = some Tryd.t156 := by kernel_rfl
theorem info157 : Tryd.prog.info? 157 = some Tryd.t157 := by kernel_rfl
theorem info158 : Tryd.prog.info? 158 = some Tryd.t158 := by kernel_rfl
theorem info159 : Tryd.prog.info? 159 = some Tryd.t159 := by kernel_rfl
theorem info160 : Tryd.prog.info? 160 = some Tryd.t160 := by kernel_rfl
theorem info161 : Tryd.prog.info? 161 = some Tryd.t161 := by kernel_rfl
theorem info162 : Tryd.prog.info? 162 = some Tryd.t162 := by kernel_rfl
theorem info163 : Tryd.prog.info? 163 = some Tryd.t163 := by kernel_rfl
theorem info164 : Tryd.prog.info? 164 = some Tryd.t164 := by kernel_rfl
theorem info165 : Tryd.prog.info? 165 = some Tryd.t165 := by kernel_rfl
theorem info166 : Tryd.prog.info? 166 = some Tryd.t166 := by kernel_rfl
theorem info167 : Tryd.prog.info? 167 = some Tryd.t167 := by kernel_rfl
theorem info168 : Tryd.prog.info? 168 = some Tryd.t168 := by kernel_rfl
theorem info169 : Tryd.prog.info? 169 = some Tryd.t169 := by kernel_rfl
theorem info170 : Tryd.prog.info? 170 = some Tryd.t170 := by kernel_rfl
theorem info171 : Tryd.prog.info? 171 = some Tryd.t171 := by kernel_rfl
theorem info172 : Tryd.prog.info? 172 = some Tryd.t172 := by kernel_rfl
theorem info173 : Tryd.prog.info? 173 = some Tryd.t173 := by kernel_rfl
theorem info174 : Tryd.prog.info? 174 = some Tryd.t174 := by kernel_rfl
theorem info175 : Tryd.prog.info? 175 = some Tryd.t175 := by kernel_rfl
theorem info176 : Tryd.prog.info? 176 = some Tryd.t176 := by kernel_rfl
theorem info177 : Tryd.prog.info? 177 = some Tryd.t177 := by kernel_rfl
theorem info178 : Tryd.prog.info? 178 = some Tryd.t178 := by kernel_rfl
theorem info179 : Tryd.prog.info? 179 = some Tryd.t179 := by kernel_rfl
theorem info180 : Tryd.prog.info? 180 = some Tryd.t180 := by kernel_rfl
theorem info181 : Tryd.prog.info? 181 = some Tryd.t181 := by kernel_rfl
theorem info182 : Tryd.prog.info? 182 = some Tryd.t182 := by kernel_rfl
theorem info183 : Tryd.prog.info? 183 = some Tryd.t183 := by kernel_rfl
theorem info184 : Tryd.prog.info? 184 = some Tryd.t184 := by kernel_rfl
theorem info185 : Tryd.prog.info? 185 = some Tryd.t185 := by kernel_rfl
theorem info186 : Tryd.prog.info? 186 = some Tryd.t186 := by kernel_rfl
theorem info187 : Tryd.prog.info? 187 = some Tryd.t187 := by kernel_rfl
theorem info188 : Tryd.prog.info? 188 = some Tryd.t188 := by kernel_rfl
theorem info189 : Tryd.prog.info? 189 = some Tryd.t189 := by kernel_rfl
theorem info190 : Tryd.prog.info? 190 = some Tryd.t190 := by kernel_rfl
theorem info191 : Tryd.prog.info? 191 = some Tryd.t191 := by kernel_rfl
theorem info192 : Tryd.prog.info? 192 = some Tryd.t192 := by kernel_rfl
theorem info193 : Tryd.prog.info? 193 = some Tryd.t193 := by kernel_rfl
theorem info194 : Tryd.prog.info? 194 = some Tryd.t194 := by kernel_rfl
theorem info195 : Tryd.prog.info? 195 = some Tryd.t195 := by kernel_rfl
theorem info196 : Tryd.prog.info? 196 = some Tryd.t196 := by kernel_rfl
theorem info197 : Tryd.prog.info? 197 = some Tryd.t197 := by kernel_rfl
theorem info198 : Tryd.prog.info? 198 = some Tryd.t198 := by kernel_rfl
theorem info199 : Tryd.prog.info? 199 = some Tryd.t199 := by kernel_rfl
theorem info200 : Tryd.prog.info? 200 = some Tryd.t200 := by kernel_rfl
theorem info201 : Tryd.prog.info? 201 = some Tryd.t201 := by kernel_rfl
theorem info202 : Tryd.prog.info? 202 = some Tryd.t202 := by kernel_rfl
theorem info203 : Tryd.prog.info? 203 = some Tryd.t203 := by kernel_rfl
theorem info204 : Tryd.prog.info? 204 = some Tryd.t204 := by kernel_rfl
theorem info205 : Tryd.prog.info? 205 = some Tryd.t205 := by kernel_rfl
theorem info206 : Tryd.prog.info? 206 = some Tryd.t206 := by kernel_rfl
theorem info207 : Tryd.prog.info? 207 = some Tryd.t207 := by kernel_rfl
theorem info208 : Tryd.prog.info? 208 = some Tryd.t208 := by kernel_rfl
theorem info209 : Tryd.prog.info? 209 = some Tryd.t209 := by kernel_rfl
theorem info210 : Tryd.prog.info? 210 = some Tryd.t210 := by kernel_rfl
theorem info211 : Tryd.prog.info? 211 = some Tryd.t211 := by kernel_rfl
theorem info212 : Tryd.prog.info? 212 = some Tryd.t212 := by kernel_rfl
theorem info213 : Tryd.prog.info? 213 = some Tryd.t213 := by kernel_rfl
theorem info214 : Tryd.prog.info? 214 = some Tryd.t214 := by kernel_rfl
theorem info215 : Tryd.prog.info? 215 = some Tryd.t215 := by kernel_rfl
theorem info216 : Tryd.prog.info? 216 = some Tryd.t216 := by kernel_rfl
theorem info217 : Tryd.prog.info? 217 = some Tryd.t217 := by kernel_rfl
theorem info218 : Tryd.prog.info? 218 = some Tryd.t218 := by kernel_rfl
theorem info219 : Tryd.prog.info? 219 = some Tryd.t219 := by kernel_rfl
theorem info220 : Tryd.prog.info? 220 = some Tryd.t220 := by kernel_rfl
theorem info221 : Tryd.prog.info? 221 = some Tryd.t221 := by kernel_rfl
theorem info222 : Tryd.prog.info? 222 = some Tryd.t222 := by kernel_rfl
theorem info223 : Tryd.prog.info? 223 = some Tryd.t223 := by kernel_rfl
noncomputable def tabInfo_8 : Tr (TypeInfo) := Tr.node (some Tryd.t127) Tr.nil Tr.nil
theorem tabInfo_8_all : ∀ k x, tabInfo_8.get k = some x → PT0 (128 * k + 127) x := Tr.node_all (P := PT0) (a := 128) (b := 127) (fun _ h => by cases h; exact ⟨info127, zeroB_spec (by kernel_rfl)⟩) Tr.nilAll Tr.nilAll
noncomputable def tabInfo_9 : Tr (TypeInfo) := Tr.node (some Tryd.t191) Tr.nil Tr.nil
theorem tabInfo_9_all : ∀ k x, tabInfo_9.get k = some x → PT0 (128 * k + 191) x := Tr.node_all (P := PT0) (a := 128) (b := 191) (fun _ h => by cases h; exact ⟨info191, zeroB_spec (by kernel_rfl)⟩) Tr.nilAll Tr.nilAll
noncomputable def tabInfo_7 : Tr (TypeInfo) := Tr.node (some Tryd.t63) tabInfo_8 tabInfo_9
theorem tabInfo_7_all : ∀ k x, tabInfo_7.get k = some x → PT0 (64 * k + 63) x := Tr.node_all (P := PT0) (a := 64) (b := 63) (fun _ h => by cases h; exact ⟨info63, zeroB_spec (by kernel_rfl)⟩) tabInfo_8_all tabInfo_9_all
noncomputable def tabInfo_11 : Tr (TypeInfo) := Tr.node (some Tryd.t159) Tr.nil Tr.nil
theorem tabInfo_11_all : ∀ k x, tabInfo_11.get k = some x → PT0 (128 * k + 159) x := Tr.node_all (P := PT0) (a := 128) (b := 159) (fun _ h => by cases h; exact ⟨info159, zeroB_spec (by kernel_rfl)⟩) Tr.nilAll Tr.nilAll
noncomputable def tabInfo_12 : Tr (TypeInfo) := Tr.node (some Tryd.t223) Tr.nil Tr.nil
theorem tabInfo_12_all : ∀ k x, tabInfo_12.get k = some x → PT0 (128 * k + 223) x := Tr.node_all (P := PT0) (a := 128) (b := 223) (fun _ h => by cases h; exact ⟨info223, zeroB_spec (by kernel_rfl)⟩) Tr.nilAll Tr.nilAll
noncomputable def tabInfo_10 : Tr (TypeInfo) := Tr.node (some Tryd.t95) tabInfo_11 tabInfo_12
theorem tabInfo_10_all : ∀ k x, tabInfo_10.get k = some x → PT0 (64 * k + 95) x := Tr.node_all (P := PT0) (a := 64) (b := 95) (fun _ h => by cases h; exact ⟨info95, zeroB_spec (by kernel_rfl)⟩) tabInfo_11_all tabInfo_12_all
noncomputable def tabInfo_6 : Tr (TypeInfo) := Tr.node (some Tryd.t31) tabInfo_7 tabInfo_10
theorem tabInfo_6_all : ∀ k x, tabInfo_6.get k = some x → PT0 (32 * k + 31) x := Tr.node_all (P := PT0) (a := 32) (b := 31) (fun _ h => by cases h; exact ⟨info31, zeroB_spec (by kernel_rfl)⟩) tabInfo_7_all tabInfo_10_all
noncomputable def tabInfo_15 : Tr (TypeInfo) := Tr.node (some Tryd.t143) Tr.nil Tr.nil
theorem tabInfo_15_all : ∀ k x, tabInfo_15.get k = some x → PT0 (128 * k + 143) x := Tr.node_all (P := PT0) (a := 128) (b := 143) (fun _ h => by cases h; exact ⟨info143, zeroB_spec (by kernel_rfl)⟩) Tr.nilAll Tr.nilAll
noncomputable def tabInfo_16 : Tr (TypeInfo) := Tr.node (some Tryd.t207) Tr.nil Tr.nil
theorem tabInfo_16_all : ∀ k x, tabInfo_16.get k = some x → PT0 (128 * k + 207) x := Tr.node_all (P := PT0) (a := 128) (b := 207) (fun _ h => by cases h; exact ⟨info207, zeroB_spec (by kernel_rfl)⟩) Tr.nilAll Tr.nilAll
noncomputable def tabInfo_14 : Tr (TypeInfo) := Tr.node (some Tryd.t79) tabInfo_15 tabInfo_16
theorem tabInfo_14_all : ∀ k x, tabInfo_14.get k = some x → PT0 (64 * k + 79) x := Tr.node_all (P := PT0) (a := 64) (b := 79) (fun _ h => by cases h; exact ⟨info79, zeroB_spec (by kernel_rfl)⟩) tabInfo_15_all tabInfo_16_all
noncomputable def tabInfo_18 : Tr (TypeInfo) := Tr.node (some Tryd.t175) Tr.nil Tr.nil
theorem tabInfo_18_all : ∀ k x, tabInfo_18.get k = some x → PT0 (128 * k + 175) x := Tr.node_all (P := PT0) (a := 128) (b := 175) (fun _ h => by cases h; exact ⟨info175, zeroB_spec (by kernel_rfl)⟩) Tr.nilAll Tr.nilAll
noncomputable def tabInfo_17 : Tr (TypeInfo) := Tr.node (some Tryd.t111) tabInfo_18 Tr.nil
theorem tabInfo_17_all : ∀ k x, tabInfo_17.get k = some x → PT0 (64 * k + 111) x := Tr.node_all (P := PT0) (a := 64) (b := 111) (fun _ h => by cases h; exact ⟨info111, zeroB_spec (by kernel_rfl)⟩) tabInfo_18_all Tr.nilAll
noncomputable def tabInfo_13 : Tr (TypeInfo) := Tr.node (some Tryd.t47) tabInfo_14 tabInfo_17
theorem tabInfo_13_all : ∀ k x, tabInfo_13.get k = some x → PT0 (32 * k + 47) x := Tr.node_all (P := PT0) (a := 32) (b := 47) (fun _ h => by cases h; exact ⟨info47, zeroB_spec (by kernel_rfl)⟩) tabInfo_14_all tabInfo_17_all
noncomputable def tabInfo_5 : Tr (TypeInfo) := Tr.node (some Tryd.t15) tabInfo_6 tabInfo_13
theorem tabInfo_5_all : ∀ k x, tabInfo_5.get k = some x → PT0 (16 * k + 15) x := Tr.node_all (P := PT0) (a := 16) (b := 15) (fun _ h => by cases h; exact ⟨info15, zeroB_spec (by kernel_rfl)⟩) tabInfo_6_all tabInfo_13_all
noncomputable def tabInfo_22 : Tr (TypeInfo) := Tr.node (some Tryd.t135) Tr.nil Tr.nil
theorem tabInfo_22_all : ∀ k x, tabInfo_22.get k = some x → PT0 (128 * k + 135) x := Tr.node_all (P := PT0) (a := 128) (b := 135) (fun _ h => by cases h; exact ⟨info135, zeroB_spec (by kernel_rfl)⟩) Tr.nilAll Tr.nilAll
noncomputable def tabInfo_23 : Tr (TypeInfo) := Tr.node (some Tryd.t199) Tr.nil Tr.nil
theorem tabInfo_23_all : ∀ k x, tabInfo_23.get k = some x → PT0 (128 * k + 199) x := Tr.node_all (P := PT0) (a := 128) (b := 199) (fun _ h => by cases h; exact ⟨info199, zeroB_spec (by kernel_rfl)⟩) Tr.nilAll Tr.nilAll
noncomputable def tabInfo_21 : Tr (TypeInfo) := Tr.node (some Tryd.t71) tabInfo_22 tabInfo_23
theorem tabInfo_21_all : ∀ k x, tabInfo_21.get k = some x → PT0 (64 * k + 71) x := Tr.node_all (P := PT0) (a := 64) (b := 71) (fun _ h => by cases h; exact ⟨info71, zeroB_spec (by kernel_rfl)⟩) tabInfo_22_all tabInfo_23_all
noncomputable def tabInfo_25 : Tr (TypeInfo) := Tr.node (some Tryd.t167) Tr.nil Tr.nil
theorem tabInfo_25_all : ∀ k x, tabInfo_25.get k = some x → PT0 (128 * k + 167) x := Tr.node_all (P := PT0) (a := 128) (b := 167) (fun _ h => by cases h; exact ⟨info167, zeroB_spec (by kernel_rfl)⟩) Tr.nilAll Tr.nilAll
noncomputable def tabInfo_24 : Tr (TypeInfo) := Tr.node (some Tryd.t103) tabInfo_25 Tr.nil
theorem tabInfo_24_all : ∀ k x, tabInfo_24.get k = some x → PT0 (64 * k + 103) x := Tr.node_all (P := PT0) (a := 64) (b := 103) (fun _ h => by cases h; exact ⟨info103, zeroB_spec (by kernel_rfl)⟩) tabInfo_25_all Tr.nilAll
noncomputable def tabInfo_20 : Tr (TypeInfo) := Tr.node (some Tryd.t39) tabInfo_21 tabInfo_24
theorem tabInfo_20_all : ∀ k x, tabInfo_20.get k = some x → PT0 (32 * k + 39) x := Tr.node_all (P := PT0) (a := 32) (b := 39) (fun _ h => by cases h; exact ⟨info39, zeroB_spec (by kernel_rfl)⟩) tabInfo_21_all tabInfo_24_all
noncomputable def tabInfo_28 : Tr (TypeInfo) := Tr.node (some Tryd.t151) Tr.nil Tr.nil
theorem tabInfo_28_all : ∀ k x, tabInfo_28.get k = some x → PT0 (128 * k + 151) x := Tr.node_all (P := PT0) (a := 128) (b := 151) (fun _ h => by cases h; exact ⟨info151, zeroB_spec (by kernel_rfl)⟩) Tr.nilAll Tr.nilAll
noncomputable def tabInfo_29 : Tr (TypeInfo) := Tr.node (some Tryd.t215) Tr.nil Tr.nil
theorem tabInfo_29_all : ∀ k x, tabInfo_29.get k = some x → PT0 (128 * k + 215) x := Tr.node_all (P := PT0) (a := 128) (b := 215) (fun _ h => by cases h; exact ⟨info215, zeroB_spec (by kernel_rfl)⟩) Tr.nilAll Tr.nilAll
noncomputable def tabInfo_27 : Tr (TypeInfo) := Tr.node (some Tryd.t87) tabInfo_28 tabInfo_29
theorem tabInfo_27_all : ∀ k x, tabInfo_27.get k = some x → PT0 (64 * k + 87) x := Tr.node_all (P := PT0) (a := 64) (b := 87) (fun _ h => by cases h; exact ⟨info87, zeroB_spec (by kernel_rfl)⟩) tabInfo_28_all tabInfo_29_all
noncomputable def tabInfo_31 : Tr (TypeInfo) := Tr.node (some Tryd.t183) Tr.nil Tr.nil
theorem tabInfo_31_all : ∀ k x, tabInfo_31.get k = some x → PT0 (128 * k + 183) x := Tr.node_all (P := PT0) (a := 128) (b := 183) (fun _ h => by cases h; exact ⟨info183, zeroB_spec (by kernel_rfl)⟩) Tr.nilAll Tr.nilAll
noncomputable def tabInfo_30 : Tr (TypeInfo) := Tr.node (some Tryd.t119) tabInfo_31 Tr.nil
theorem tabInfo_30_all : ∀ k x, tabInfo_30.get k = some x → PT0 (64 * k + 119) x := Tr.node_all (P := PT0) (a := 64) (b := 119) (fun _ h => by cases h; exact ⟨info119, zeroB_spec (by kernel_rfl)⟩) tabInfo_31_all Tr.nilAll
noncomputable def tabInfo_26 : Tr (TypeInfo) := Tr.node (some Tryd.t55) tabInfo_27 tabInfo_30
theorem tabInfo_26_all : ∀ k x, tabInfo_26.get k = some x → PT0 (32 * k + 55) x := Tr.node_all (P := PT0) (a := 32) (b := 55) (fun _ h => by cases h; exact ⟨info55, zeroB_spec (by kernel_rfl)⟩) tabInfo_27_all tabInfo_30_all
noncomputable def tabInfo_19 : Tr (TypeInfo) := Tr.node (some Tryd.t23) tabInfo_20 tabInfo_26
theorem tabInfo_19_all : ∀ k x, tabInfo_19.get k = some x → PT0 (16 * k + 23) x := Tr.node_all (P := PT0) (a := 16) (b := 23) (fun _ h => by cases h; exact ⟨info23, zeroB_spec (by kernel_rfl)⟩) tabInfo_20_all tabInfo_26_all
noncomputable def tabInfo_4 : Tr (TypeInfo) := Tr.node (some Tryd.t7) tabInfo_5 tabInfo_19
theorem tabInfo_4_all : ∀ k x, tabInfo_4.get k = some x → PT0 (8 * k + 7) x := Tr.node_all (P := PT0) (a := 8) (b := 7) (fun _ h => by cases h; exact ⟨info7, zeroB_spec (by kernel_rfl)⟩) tabInfo_5_all tabInfo_19_all
noncomputable def tabInfo_36 : Tr (TypeInfo) := Tr.node (some Tryd.t131) Tr.nil Tr.nil
theorem tabInfo_36_all : ∀ k x, tabInfo_36.get k = some x → PT0 (128 * k + 131) x := Tr.node_all (P := PT0) (a := 128) (b := 131) (fun _ h => by cases h; exact ⟨info131, zeroB_spec (by kernel_rfl)⟩) Tr.nilAll Tr.nilAll
noncomputable def tabInfo_37 : Tr (TypeInfo) := Tr.node (some Tryd.t195) Tr.nil Tr.nil
theorem tabInfo_37_all : ∀ k x, tabInfo_37.get k = some x → PT0 (128 * k + 195) x := Tr.node_all (P := PT0) (a := 128) (b := 195) (fun _ h => by cases h; exact ⟨info195, zeroB_spec (by kernel_rfl)⟩) Tr.nilAll Tr.nilAll
noncomputable def tabInfo_35 : Tr (TypeInfo) := Tr.node (some Tryd.t67) tabInfo_36 tabInfo_37
theorem tabInfo_35_all : ∀ k x, tabInfo_35.get k = some x → PT0 (64 * k + 67) x := Tr.node_all (P := PT0) (a := 64) (b := 67) (fun _ h => by cases h; exact ⟨info67, zeroB_spec (by kernel_rfl)⟩) tabInfo_36_all tabInfo_37_all
noncomputable def tabInfo_39 : Tr (TypeInfo) := Tr.node (some Tryd.t163) Tr.nil Tr.nil
theorem tabInfo_39_all : ∀ k x, tabInfo_39.get k = some x → PT0 (128 * k + 163) x := Tr.node_all (P := PT0) (a := 128) (b := 163) (fun _ h => by cases h; exact ⟨info163, zeroB_spec (by kernel_rfl)⟩) Tr.nilAll Tr.nilAll
noncomputable def tabInfo_38 : Tr (TypeInfo) := Tr.node (some Tryd.t99) tabInfo_39 Tr.nil
theorem tabInfo_38_all : ∀ k x, tabInfo_38.get k = some x → PT0 (64 * k + 99) x := Tr.node_all (P := PT0) (a := 64) (b := 99) (fun _ h => by cases h; exact ⟨info99, zeroB_spec (by kernel_rfl)⟩) tabInfo_39_all Tr.nilAll
noncomputable def tabInfo_34 : Tr (TypeInfo) := Tr.node (some Tryd.t35) tabInfo_35 tabInfo_38
theorem tabInfo_34_all : ∀ k x, tabInfo_34.get k = some x → PT0 (32 * k + 35) x := Tr.node_all (P := PT0) (a := 32) (b := 35) (fun _ h => by cases h; exact ⟨info35, zeroB_spec (by kernel_rfl)⟩) tabInfo_35_all tabInfo_38_all
noncomputable def tabInfo_42 : Tr (TypeInfo) := Tr.node (some Tryd.t211) Tr.nil Tr.nil
theorem tabInfo_42_all : ∀ k x, tabInfo_42.get k = some x → PT0 (128 * k + 211) x := Tr.node_all (P := PT0) (a := 128) (b := 211) (fun _ h => by cases h; exact ⟨info211, zeroB_spec (by kernel_rfl)⟩) Tr.nilAll Tr.nilAll
noncomputable def tabInfo_41 : Tr (TypeInfo) := Tr.node (some Tryd.t83) Tr.nil tabInfo_42
theorem tabInfo_41_all : ∀ k x, tabInfo_41.get k = some x → PT0 (64 * k + 83) x := Tr.node_all (P := PT0) (a := 64) (b := 83) (fun _ h => by cases h; exact ⟨info83, zeroB_spec (by kernel_rfl)⟩) Tr.nilAll tabInfo_42_all
noncomputable def tabInfo_44 : Tr (TypeInfo) := Tr.node (some Tryd.t179) Tr.nil Tr.nil
theorem tabInfo_44_all : ∀ k x, tabInfo_44.get k = some x → PT0 (128 * k + 179) x := Tr.node_all (P := PT0) (a := 128) (b := 179) (fun _ h => by cases h; exact ⟨info179, zeroB_spec (by kernel_rfl)⟩) Tr.nilAll Tr.nilAll
noncomputable def tabInfo_43 : Tr (TypeInfo) := Tr.node (some Tryd.t115) tabInfo_44 Tr.nil
theorem tabInfo_43_all : ∀ k x, tabInfo_43.get k = some x → PT0 (64 * k + 115) x := Tr.node_all (P := PT0) (a := 64) (b := 115) (fun _ h => by cases h; exact ⟨info115, zeroB_spec (by kernel_rfl)⟩) tabInfo_44_all Tr.nilAll
noncomputable def tabInfo_40 : Tr (TypeInfo) := Tr.node none tabInfo_41 tabInfo_43
theorem tabInfo_40_all : ∀ k x, tabInfo_40.get k = some x → PT0 (32 * k + 51) x := Tr.node_all (P := PT0) (a := 32) (b := 51) (fun _ h => by cases h) tabInfo_41_all tabInfo_43_all
noncomputable def tabInfo_33 : Tr (TypeInfo) := Tr.node (some Tryd.t19) tabInfo_34 tabInfo_40
theorem tabInfo_33_all : ∀ k x, tabInfo_33.get k = some x → PT0 (16 * k + 19) x := Tr.node_all (P := PT0) (a := 16) (b := 19) (fun _ h => by cases h; exact ⟨info19, zeroB_spec (by kernel_rfl)⟩) tabInfo_34_all tabInfo_40_all
noncomputable def tabInfo_48 : Tr (TypeInfo) := Tr.node (some Tryd.t139) Tr.nil Tr.nil
theorem tabInfo_48_all : ∀ k x, tabInfo_48.get k = some x → PT0 (128 * k + 139) x := Tr.node_all (P := PT0) (a := 128) (b := 139) (fun _ h => by cases h; exact ⟨info139, zeroB_spec (by kernel_rfl)⟩) Tr.nilAll Tr.nilAll
noncomputable def tabInfo_49 : Tr (TypeInfo) := Tr.node (some Tryd.t203) Tr.nil Tr.nil
theorem tabInfo_49_all : ∀ k x, tabInfo_49.get k = some x → PT0 (128 * k + 203) x := Tr.node_all (P := PT0) (a := 128) (b := 203) (fun _ h => by cases h; exact ⟨info203, zeroB_spec (by kernel_rfl)⟩) Tr.nilAll Tr.nilAll
noncomputable def tabInfo_47 : Tr (TypeInfo) := Tr.node (some Tryd.t75) tabInfo_48 tabInfo_49
theorem tabInfo_47_all : ∀ k x, tabInfo_47.get k = some x → PT0 (64 * k + 75) x := Tr.node_all (P := PT0) (a := 64) (b := 75) (fun _ h => by cases h; exact ⟨info75, zeroB_spec (by kernel_rfl)⟩) tabInfo_48_all tabInfo_49_all
noncomputable def tabInfo_51 : Tr (TypeInfo) := Tr.node (some Tryd.t171) Tr.nil Tr.nil
theorem tabInfo_51_all : ∀ k x, tabInfo_51.get k = some x → PT0 (128 * k + 171) x := Tr.node_all (P := PT0) (a := 128) (b := 171) (fun _ h => by cases h; exact ⟨info171, zeroB_spec (by kernel_rfl)⟩) Tr.nilAll Tr.nilAll
noncomputable def tabInfo_50 : Tr (TypeInfo) := Tr.node (some Tryd.t107) tabInfo_51 Tr.nil
theorem tabInfo_50_all : ∀ k x, tabInfo_50.get k = some x → PT0 (64 * k + 107) x := Tr.node_all (P := PT0) (a := 64) (b := 107) (fun _ h => by cases h; exact ⟨info107, zeroB_spec (by kernel_rfl)⟩) tabInfo_51_all Tr.nilAll
noncomputable def tabInfo_46 : Tr (TypeInfo) := Tr.node (some Tryd.t43) tabInfo_47 tabInfo_50
theorem tabInfo_46_all : ∀ k x, tabInfo_46.get k = some x → PT0 (32 * k + 43) x := Tr.node_all (P := PT0) (a := 32) (b := 43) (fun _ h => by cases h; exact ⟨info43, zeroB_spec (by kernel_rfl)⟩) tabInfo_47_all tabInfo_50_all
noncomputable def tabInfo_54 : Tr (TypeInfo) := Tr.node (some Tryd.t155) Tr.nil Tr.nil
theorem tabInfo_54_all : ∀ k x, tabInfo_54.get k = some x → PT0 (128 * k + 155) x := Tr.node_all (P := PT0) (a := 128) (b := 155) (fun _ h => by cases h; exact ⟨info155, zeroB_spec (by kernel_rfl)⟩) Tr.nilAll Tr.nilAll
noncomputable def tabInfo_55 : Tr (TypeInfo) := Tr.node (some Tryd.t219) Tr.nil Tr.nil
theorem tabInfo_55_all : ∀ k x, tabInfo_55.get k = some x → PT0 (128 * k + 219) x := Tr.node_all (P := PT0) (a := 128) (b := 219) (fun _ h => by cases h; exact ⟨info219, zeroB_spec (by kernel_rfl)⟩) Tr.nilAll Tr.nilAll
noncomputable def tabInfo_53 : Tr (TypeInfo) := Tr.node (some Tryd.t91) tabInfo_54 tabInfo_55
theorem tabInfo_53_all : ∀ k x, tabInfo_53.get k = some x → PT0 (64 * k + 91) x := Tr.node_all (P := PT0) (a := 64) (b := 91) (fun _ h => by cases h; exact ⟨info91, zeroB_spec (by kernel_rfl)⟩) tabInfo_54_all tabInfo_55_all
noncomputable def tabInfo_57 : Tr (TypeInfo) := Tr.node (some Tryd.t187) Tr.nil Tr.nil
theorem tabInfo_57_all : ∀ k x, tabInfo_57.get k = some x → PT0 (128 * k + 187) x := Tr.node_all (P := PT0) (a := 128) (b := 187) (fun _ h => by cases h; exact ⟨info187, zeroB_spec (by kernel_rfl)⟩) Tr.nilAll Tr.nilAll
noncomputable def tabInfo_56 : Tr (TypeInfo) := Tr.node (some Tryd.t123) tabInfo_57 Tr.nil
theorem tabInfo_56_all : ∀ k x, tabInfo_56.get k = some x → PT0 (64 * k + 123) x := Tr.node_all (P := PT0) (a := 64) (b := 123) (fun _ h => by cases h; exact ⟨info123, zeroB_spec (by kernel_rfl)⟩) tabInfo_57_all Tr.nilAll
noncomputable def tabInfo_52 : Tr (TypeInfo) := Tr.node (some Tryd.t59) tabInfo_53 tabInfo_56
theorem tabInfo_52_all : ∀ k x, tabInfo_52.get k = some x → PT0 (32 * k + 59) x := Tr.node_all (P := PT0) (a := 32) (b := 59) (fun _ h => by cases h; exact ⟨info59, zeroB_spec (by kernel_rfl)⟩) tabInfo_53_all tabInfo_56_all
noncomputable def tabInfo_45 : Tr (TypeInfo) := Tr.node (some Tryd.t27) tabInfo_46 tabInfo_52
theorem tabInfo_45_all : ∀ k x, tabInfo_45.get k = some x → PT0 (16 * k + 27) x := Tr.node_all (P := PT0) (a := 16) (b := 27) (fun _ h => by cases h; exact ⟨info27, zeroB_spec (by kernel_rfl)⟩) tabInfo_46_all tabInfo_52_all
noncomputable def tabInfo_32 : Tr (TypeInfo) := Tr.node (some Tryd.t11) tabInfo_33 tabInfo_45
theorem tabInfo_32_all : ∀ k x, tabInfo_32.get k = some x → PT0 (8 * k + 11) x := Tr.node_all (P := PT0) (a := 8) (b := 11) (fun _ h => by cases h; exact ⟨info11, zeroB_spec (by kernel_rfl)⟩) tabInfo_33_all tabInfo_45_all
noncomputable def tabInfo_3 : Tr (TypeInfo) := Tr.node (some Tryd.t3) tabInfo_4 tabInfo_32
theorem tabInfo_3_all : ∀ k x, tabInfo_3.get k = some x → PT0 (4 * k + 3) x := Tr.node_all (P := PT0) (a := 4) (b := 3) (fun _ h => by cases h; exact ⟨info3, zeroB_spec (by kernel_rfl)⟩) tabInfo_4_all tabInfo_32_all
noncomputable def tabInfo_63 : Tr (TypeInfo) := Tr.node (some Tryd.t129) Tr.nil Tr.nil
theorem tabInfo_63_all : ∀ k x, tabInfo_63.get k = some x → PT0 (128 * k + 129) x := Tr.node_all (P := PT0) (a := 128) (b := 129) (fun _ h => by cases h; exact ⟨info129, zeroB_spec (by kernel_rfl)⟩) Tr.nilAll Tr.nilAll
noncomputable def tabInfo_64 : Tr (TypeInfo) := Tr.node (some Tryd.t193) Tr.nil Tr.nil
theorem tabInfo_64_all : ∀ k x, tabInfo_64.get k = some x → PT0 (128 * k + 193) x := Tr.node_all (P := PT0) (a := 128) (b := 193) (fun _ h => by cases h; exact ⟨info193, zeroB_spec (by kernel_rfl)⟩) Tr.nilAll Tr.nilAll
noncomputable def tabInfo_62 : Tr (TypeInfo) := Tr.node (some Tryd.t65) tabInfo_63 tabInfo_64
theorem tabInfo_62_all : ∀ k x, tabInfo_62.get k = some x → PT0 (64 * k + 65) x := Tr.node_all (P := PT0) (a := 64) (b := 65) (fun _ h => by cases h; exact ⟨info65, zeroB_spec (by kernel_rfl)⟩) tabInfo_63_all tabInfo_64_all
noncomputable def tabInfo_66 : Tr (TypeInfo) := Tr.node (some Tryd.t161) Tr.nil Tr.nil
theorem tabInfo_66_all : ∀ k x, tabInfo_66.get k = some x → PT0 (128 * k + 161) x := Tr.node_all (P := PT0) (a := 128) (b := 161) (fun _ h => by cases h; exact ⟨info161, zeroB_spec (by kernel_rfl)⟩) Tr.nilAll Tr.nilAll
noncomputable def tabInfo_65 : Tr (TypeInfo) := Tr.node (some Tryd.t97) tabInfo_66 Tr.nil
theorem tabInfo_65_all : ∀ k x, tabInfo_65.get k = some x → PT0 (64 * k + 97) x := Tr.node_all (P := PT0) (a := 64) (b := 97) (fun _ h => by cases h; exact ⟨info97, zeroB_spec (by kernel_rfl)⟩) tabInfo_66_all Tr.nilAll
noncomputable def tabInfo_61 : Tr (TypeInfo) := Tr.node (some Tryd.t33) tabInfo_62 tabInfo_65
theorem tabInfo_61_all : ∀ k x, tabInfo_61.get k = some x → PT0 (32 * k + 33) x := Tr.node_all (P := PT0) (a := 32) (b := 33) (fun _ h => by cases h; exact ⟨info33, zeroB_spec (by kernel_rfl)⟩) tabInfo_62_all tabInfo_65_all
noncomputable def tabInfo_69 : Tr (TypeInfo) := Tr.node (some Tryd.t145) Tr.nil Tr.nil
theorem tabInfo_69_all : ∀ k x, tabInfo_69.get k = some x → PT0 (128 * k + 145) x := Tr.node_all (P := PT0) (a := 128) (b := 145) (fun _ h => by cases h; exact ⟨info145, zeroB_spec (by kernel_rfl)⟩) Tr.nilAll Tr.nilAll
noncomputable def tabInfo_70 : Tr (TypeInfo) := Tr.node (some Tryd.t209) Tr.nil Tr.nil
theorem tabInfo_70_all : ∀ k x, tabInfo_70.get k = some x → PT0 (128 * k + 209) x := Tr.node_all (P := PT0) (a := 128) (b := 209) (fun _ h => by cases h; exact ⟨info209, zeroB_spec (by kernel_rfl)⟩) Tr.nilAll Tr.nilAll
noncomputable def tabInfo_68 : Tr (TypeInfo) := Tr.node (some Tryd.t81) tabInfo_69 tabInfo_70
theorem tabInfo_68_all : ∀ k x, tabInfo_68.get k = some x → PT0 (64 * k + 81) x := Tr.node_all (P := PT0) (a := 64) (b := 81) (fun _ h => by cases h; exact ⟨info81, zeroB_spec (by kernel_rfl)⟩) tabInfo_69_all tabInfo_70_all
noncomputable def tabInfo_72 : Tr (TypeInfo) := Tr.node (some Tryd.t177) Tr.nil Tr.nil
theorem tabInfo_72_all : ∀ k x, tabInfo_72.get k = some x → PT0 (128 * k + 177) x := Tr.node_all (P := PT0) (a := 128) (b := 177) (fun _ h => by cases h; exact ⟨info177, zeroB_spec (by kernel_rfl)⟩) Tr.nilAll Tr.nilAll
noncomputable def tabInfo_71 : Tr (TypeInfo) := Tr.node (some Tryd.t113) tabInfo_72 Tr.nil
theorem tabInfo_71_all : ∀ k x, tabInfo_71.get k = some x → PT0 (64 * k + 113) x := Tr.node_all (P := PT0) (a := 64) (b := 113) (fun _ h => by cases h; exact ⟨info113, zeroB_spec (by kernel_rfl)⟩) tabInfo_72_all Tr.nilAll
noncomputable def tabInfo_67 : Tr (TypeInfo) := Tr.node (some Tryd.t49) tabInfo_68 tabInfo_71
theorem tabInfo_67_all : ∀ k x, tabInfo_67.get k = some x → PT0 (32 * k + 49) x := Tr.node_all (P := PT0) (a := 32) (b := 49) (fun _ h => by cases h; exact ⟨info49, zeroB_spec (by kernel_rfl)⟩) tabInfo_68_all tabInfo_71_all
noncomputable def tabInfo_60 : Tr (TypeInfo) := Tr.node (some Tryd.t17) tabInfo_61 tabInfo_67
theorem tabInfo_60_all : ∀ k x, tabInfo_60.get k = some x → PT0 (16 * k + 17) x := Tr.node_all (P := PT0) (a := 16) (b := 17) (fun _ h => by cases h; exact ⟨info17, zeroB_spec (by kernel_rfl)⟩) tabInfo_61_all tabInfo_67_all
noncomputable def tabInfo_76 : Tr (TypeInfo) := Tr.node (some Tryd.t137) Tr.nil Tr.nil
theorem tabInfo_76_all : ∀ k x, tabInfo_76.get k = some x → PT0 (128 * k + 137) x := Tr.node_all (P := PT0) (a := 128) (b := 137) (fun _ h => by cases h; exact ⟨info137, zeroB_spec (by kernel_rfl)⟩) Tr.nilAll Tr.nilAll
noncomputable def tabInfo_77 : Tr (TypeInfo) := Tr.node (some Tryd.t201) Tr.nil Tr.nil
theorem tabInfo_77_all : ∀ k x, tabInfo_77.get k = some x → PT0 (128 * k + 201) x := Tr.node_all (P := PT0) (a := 128) (b := 201) (fun _ h => by cases h; exact ⟨info201, zeroB_spec (by kernel_rfl)⟩) Tr.nilAll Tr.nilAll
noncomputable def tabInfo_75 : Tr (TypeInfo) := Tr.node (some Tryd.t73) tabInfo_76 tabInfo_77
theorem tabInfo_75_all : ∀ k x, tabInfo_75.get k = some x → PT0 (64 * k + 73) x := Tr.node_all (P := PT0) (a := 64) (b := 73) (fun _ h => by cases h; exact ⟨info73, zeroB_spec (by kernel_rfl)⟩) tabInfo_76_all tabInfo_77_all
noncomputable def tabInfo_79 : Tr (TypeInfo) := Tr.node (some Tryd.t169) Tr.nil Tr.nil
theorem tabInfo_79_all : ∀ k x, tabInfo_79.get k = some x → PT0 (128 * k + 169) x := Tr.node_all (P := PT0) (a := 128) (b := 169) (fun _ h => by cases h; exact ⟨info169, zeroB_spec (by kernel_rfl)⟩) Tr.nilAll Tr.nilAll
noncomputable def tabInfo_78 : Tr (TypeInfo) := Tr.node (some Tryd.t105) tabInfo_79 Tr.nil
theorem tabInfo_78_all : ∀ k x, tabInfo_78.get k = some x → PT0 (64 * k + 105) x := Tr.node_all (P := PT0) (a := 64) (b := 105) (fun _ h => by cases h; exact ⟨info105, zeroB_spec (by kernel_rfl)⟩) tabInfo_79_all Tr.nilAll
noncomputable def tabInfo_74 : Tr (TypeInfo) := Tr.node (some Tryd.t41) tabInfo_75 tabInfo_78
theorem tabInfo_74_all : ∀ k x, tabInfo_74.get k = some x → PT0 (32 * k + 41) x := Tr.node_all (P := PT0) (a := 32) (b := 41) (fun _ h => by cases h; exact ⟨info41, zeroB_spec (by kernel_rfl)⟩) tabInfo_75_all tabInfo_78_all
noncomputable def tabInfo_82 : Tr (TypeInfo) := Tr.node (some Tryd.t153) Tr.nil Tr.nil
theorem tabInfo_82_all : ∀ k x, tabInfo_82.get k = some x → PT0 (128 * k + 153) x := Tr.node_all (P := PT0) (a := 128) (b := 153) (fun _ h => by cases h; exact ⟨info153, zeroB_spec (by kernel_rfl)⟩) Tr.nilAll Tr.nilAll
noncomputable def tabInfo_83 : Tr (TypeInfo) := Tr.node (some Tryd.t217) Tr.nil Tr.nil
theorem tabInfo_83_all : ∀ k x, tabInfo_83.get k = some x → PT0 (128 * k + 217) x := Tr.node_all (P := PT0) (a := 128) (b := 217) (fun _ h => by cases h; exact ⟨info217, zeroB_spec (by kernel_rfl)⟩) Tr.nilAll Tr.nilAll
noncomputable def tabInfo_81 : Tr (TypeInfo) := Tr.node (some Tryd.t89) tabInfo_82 tabInfo_83
theorem tabInfo_81_all : ∀ k x, tabInfo_81.get k = some x → PT0 (64 * k + 89) x := Tr.node_all (P := PT0) (a := 64) (b := 89) (fun _ h => by cases h; exact ⟨info89, zeroB_spec (by kernel_rfl)⟩) tabInfo_82_all tabInfo_83_all
noncomputable def tabInfo_85 : Tr (TypeInfo) := Tr.node (some Tryd.t185) Tr.nil Tr.nil
theorem tabInfo_85_all : ∀ k x, tabInfo_85.get k = some x → PT0 (128 * k + 185) x := Tr.node_all (P := PT0) (a := 128) (b := 185) (fun _ h => by cases h; exact ⟨info185, zeroB_spec (by kernel_rfl)⟩) Tr.nilAll Tr.nilAll
noncomputable def tabInfo_84 : Tr (TypeInfo) := Tr.node (some Tryd.t121) tabInfo_85 Tr.nil
theorem tabInfo_84_all : ∀ k x, tabInfo_84.get k = some x → PT0 (64 * k + 121) x := Tr.node_all (P := PT0) (a := 64) (b := 121) (fun _ h => by cases h; exact ⟨info121, zeroB_spec (by kernel_rfl)⟩) tabInfo_85_all Tr.nilAll
noncomputable def tabInfo_80 : Tr (TypeInfo) := Tr.node (some Tryd.t57) tabInfo_81 tabInfo_84
theorem tabInfo_80_all : ∀ k x, tabInfo_80.get k = some x → PT0 (32 * k + 57) x := Tr.node_all (P := PT0) (a := 32) (b := 57) (fun _ h => by cases h; exact ⟨info57, zeroB_spec (by kernel_rfl)⟩) tabInfo_81_all tabInfo_84_all
noncomputable def tabInfo_73 : Tr (TypeInfo) := Tr.node (some Tryd.t25) tabInfo_74 tabInfo_80
theorem tabInfo_73_all : ∀ k x, tabInfo_73.get k = some x → PT0 (16 * k + 25) x := Tr.node_all (P := PT0) (a := 16) (b := 25) (fun _ h => by cases h; exact ⟨info25, zeroB_spec (by kernel_rfl)⟩) tabInfo_74_all tabInfo_80_all
noncomputable def tabInfo_59 : Tr (TypeInfo) := Tr.node (some Tryd.t9) tabInfo_60 tabInfo_73
theorem tabInfo_59_all : ∀ k x, tabInfo_59.get k = some x → PT0 (8 * k + 9) x := Tr.node_all (P := PT0) (a := 8) (b := 9) (fun _ h => by cases h; exact ⟨info9, zeroB_spec (by kernel_rfl)⟩) tabInfo_60_all tabInfo_73_all
noncomputable def tabInfo_90 : Tr (TypeInfo) := Tr.node (some Tryd.t133) Tr.nil Tr.nil
theorem tabInfo_90_all : ∀ k x, tabInfo_90.get k = some x → PT0 (128 * k + 133) x := Tr.node_all (P := PT0) (a := 128) (b := 133) (fun _ h => by cases h; exact ⟨info133, zeroB_spec (by kernel_rfl)⟩) Tr.nilAll Tr.nilAll
noncomputable def tabInfo_91 : Tr (TypeInfo) := Tr.node (some Tryd.t197) Tr.nil Tr.nil
theorem tabInfo_91_all : ∀ k x, tabInfo_91.get k = some x → PT0 (128 * k + 197) x := Tr.node_all (P := PT0) (a := 128) (b := 197) (fun _ h => by cases h; exact ⟨info197, zeroB_spec (by kernel_rfl)⟩) Tr.nilAll Tr.nilAll
noncomputable def tabInfo_89 : Tr (TypeInfo) := Tr.node (some Tryd.t69) tabInfo_90 tabInfo_91
theorem tabInfo_89_all : ∀ k x, tabInfo_89.get k = some x → PT0 (64 * k + 69) x := Tr.node_all (P := PT0) (a := 64) (b := 69) (fun _ h => by cases h; exact ⟨info69, zeroB_spec (by kernel_rfl)⟩) tabInfo_90_all tabInfo_91_all
noncomputable def tabInfo_93 : Tr (TypeInfo) := Tr.node (some Tryd.t165) Tr.nil Tr.nil
theorem tabInfo_93_all : ∀ k x, tabInfo_93.get k = some x → PT0 (128 * k + 165) x := Tr.node_all (P := PT0) (a := 128) (b := 165) (fun _ h => by cases h; exact ⟨info165, zeroB_spec (by kernel_rfl)⟩) Tr.nilAll Tr.nilAll
noncomputable def tabInfo_92 : Tr (TypeInfo) := Tr.node (some Tryd.t101) tabInfo_93 Tr.nil
theorem tabInfo_92_all : ∀ k x, tabInfo_92.get k = some x → PT0 (64 * k + 101) x := Tr.node_all (P := PT0) (a := 64) (b := 101) (fun _ h => by cases h; exact ⟨info101, zeroB_spec (by kernel_rfl)⟩) tabInfo_93_all Tr.nilAll
noncomputable def tabInfo_88 : Tr (TypeInfo) := Tr.node (some Tryd.t37) tabInfo_89 tabInfo_92
theorem tabInfo_88_all : ∀ k x, tabInfo_88.get k = some x → PT0 (32 * k + 37) x := Tr.node_all (P := PT0) (a := 32) (b := 37) (fun _ h => by cases h; exact ⟨info37, zeroB_spec (by kernel_rfl)⟩) tabInfo_89_all tabInfo_92_all
noncomputable def tabInfo_96 : Tr (TypeInfo) := Tr.node (some Tryd.t149) Tr.nil Tr.nil
theorem tabInfo_96_all : ∀ k x, tabInfo_96.get k = some x → PT0 (128 * k + 149) x := Tr.node_all (P := PT0) (a := 128) (b := 149) (fun _ h => by cases h; exact ⟨info149, zeroB_spec (by kernel_rfl)⟩) Tr.nilAll Tr.nilAll
noncomputable def tabInfo_97 : Tr (TypeInfo) := Tr.node (some Tryd.t213) Tr.nil Tr.nil
theorem tabInfo_97_all : ∀ k x, tabInfo_97.get k = some x → PT0 (128 * k + 213) x := Tr.node_all (P := PT0) (a := 128) (b := 213) (fun _ h => by cases h; exact ⟨info213, zeroB_spec (by kernel_rfl)⟩) Tr.nilAll Tr.nilAll
noncomputable def tabInfo_95 : Tr (TypeInfo) := Tr.node (some Tryd.t85) tabInfo_96 tabInfo_97
theorem tabInfo_95_all : ∀ k x, tabInfo_95.get k = some x → PT0 (64 * k + 85) x := Tr.node_all (P := PT0) (a := 64) (b := 85) (fun _ h => by cases h; exact ⟨info85, zeroB_spec (by kernel_rfl)⟩) tabInfo_96_all tabInfo_97_all
noncomputable def tabInfo_99 : Tr (TypeInfo) := Tr.node (some Tryd.t181) Tr.nil Tr.nil
theorem tabInfo_99_all : ∀ k x, tabInfo_99.get k = some x → PT0 (128 * k + 181) x := Tr.node_all (P := PT0) (a := 128) (b := 181) (fun _ h => by cases h; exact ⟨info181, zeroB_spec (by kernel_rfl)⟩) Tr.nilAll Tr.nilAll
noncomputable def tabInfo_98 : Tr (TypeInfo) := Tr.node (some Tryd.t117) tabInfo_99 Tr.nil
theorem tabInfo_98_all : ∀ k x, tabInfo_98.get k = some x → PT0 (64 * k + 117) x := Tr.node_all (P := PT0) (a := 64) (b := 117) (fun _ h => by cases h; exact ⟨info117, zeroB_spec (by kernel_rfl)⟩) tabInfo_99_all Tr.nilAll
noncomputable def tabInfo_94 : Tr (TypeInfo) := Tr.node (some Tryd.t53) tabInfo_95 tabInfo_98
theorem tabInfo_94_all : ∀ k x, tabInfo_94.get k = some x → PT0 (32 * k + 53) x := Tr.node_all (P := PT0) (a := 32) (b := 53) (fun _ h => by cases h; exact ⟨info53, zeroB_spec (by kernel_rfl)⟩) tabInfo_95_all tabInfo_98_all
noncomputable def tabInfo_87 : Tr (TypeInfo) := Tr.node (some Tryd.t21) tabInfo_88 tabInfo_94
theorem tabInfo_87_all : ∀ k x, tabInfo_87.get k = some x → PT0 (16 * k + 21) x := Tr.node_all (P := PT0) (a := 16) (b := 21) (fun _ h => by cases h; exact ⟨info21, zeroB_spec (by kernel_rfl)⟩) tabInfo_88_all tabInfo_94_all
noncomputable def tabInfo_103 : Tr (TypeInfo) := Tr.node (some Tryd.t141) Tr.nil Tr.nil
theorem tabInfo_103_all : ∀ k x, tabInfo_103.get k = some x → PT0 (128 * k + 141) x := Tr.node_all (P := PT0) (a := 128) (b := 141) (fun _ h => by cases h; exact ⟨info141, zeroB_spec (by kernel_rfl)⟩) Tr.nilAll Tr.nilAll
noncomputable def tabInfo_104 : Tr (TypeInfo) := Tr.node (some Tryd.t205) Tr.nil Tr.nil
theorem tabInfo_104_all : ∀ k x, tabInfo_104.get k = some x → PT0 (128 * k + 205) x := Tr.node_all (P := PT0) (a := 128) (b := 205) (fun _ h => by cases h; exact ⟨info205, zeroB_spec (by kernel_rfl)⟩) Tr.nilAll Tr.nilAll
noncomputable def tabInfo_102 : Tr (TypeInfo) := Tr.node (some Tryd.t77) tabInfo_103 tabInfo_104
theorem tabInfo_102_all : ∀ k x, tabInfo_102.get k = some x → PT0 (64 * k + 77) x := Tr.node_all (P := PT0) (a := 64) (b := 77) (fun _ h => by cases h; exact ⟨info77, zeroB_spec (by kernel_rfl)⟩) tabInfo_103_all tabInfo_104_all
noncomputable def tabInfo_106 : Tr (TypeInfo) := Tr.node (some Tryd.t173) Tr.nil Tr.nil
theorem tabInfo_106_all : ∀ k x, tabInfo_106.get k = some x → PT0 (128 * k + 173) x := Tr.node_all (P := PT0) (a := 128) (b := 173) (fun _ h => by cases h; exact ⟨info173, zeroB_spec (by kernel_rfl)⟩) Tr.nilAll Tr.nilAll
noncomputable def tabInfo_105 : Tr (TypeInfo) := Tr.node (some Tryd.t109) tabInfo_106 Tr.nil
theorem tabInfo_105_all : ∀ k x, tabInfo_105.get k = some x → PT0 (64 * k + 109) x := Tr.node_all (P := PT0) (a := 64) (b := 109) (fun _ h => by cases h; exact ⟨info109, zeroB_spec (by kernel_rfl)⟩) tabInfo_106_all Tr.nilAll
noncomputable def tabInfo_101 : Tr (TypeInfo) := Tr.node (some Tryd.t45) tabInfo_102 tabInfo_105
theorem tabInfo_101_all : ∀ k x, tabInfo_101.get k = some x → PT0 (32 * k + 45) x := Tr.node_all (P := PT0) (a := 32) (b := 45) (fun _ h => by cases h; exact ⟨info45, zeroB_spec (by kernel_rfl)⟩) tabInfo_102_all tabInfo_105_all
noncomputable def tabInfo_109 : Tr (TypeInfo) := Tr.node (some Tryd.t157) Tr.nil Tr.nil
theorem tabInfo_109_all : ∀ k x, tabInfo_109.get k = some x → PT0 (128 * k + 157) x := Tr.node_all (P := PT0) (a := 128) (b := 157) (fun _ h => by cases h; exact ⟨info157, zeroB_spec (by kernel_rfl)⟩) Tr.nilAll Tr.nilAll
noncomputable def tabInfo_110 : Tr (TypeInfo) := Tr.node (some Tryd.t221) Tr.nil Tr.nil
theorem tabInfo_110_all : ∀ k x, tabInfo_110.get k = some x → PT0 (128 * k + 221) x := Tr.node_all (P := PT0) (a := 128) (b := 221) (fun _ h => by cases h; exact ⟨info221, zeroB_spec (by kernel_rfl)⟩) Tr.nilAll Tr.nilAll
noncomputable def tabInfo_108 : Tr (TypeInfo) := Tr.node (some Tryd.t93) tabInfo_109 tabInfo_110
theorem tabInfo_108_all : ∀ k x, tabInfo_108.get k = some x → PT0 (64 * k + 93) x := Tr.node_all (P := PT0) (a := 64) (b := 93) (fun _ h => by cases h; exact ⟨info93, zeroB_spec (by kernel_rfl)⟩) tabInfo_109_all tabInfo_110_all
noncomputable def tabInfo_112 : Tr (TypeInfo) := Tr.node (some Tryd.t189) Tr.nil Tr.nil
theorem tabInfo_112_all : ∀ k x, tabInfo_112.get k = some x → PT0 (128 * k + 189) x := Tr.node_all (P := PT0) (a := 128) (b := 189) (fun _ h => by cases h; exact ⟨info189, zeroB_spec (by kernel_rfl)⟩) Tr.nilAll Tr.nilAll
noncomputable def tabInfo_111 : Tr (TypeInfo) := Tr.node (some Tryd.t125) tabInfo_112 Tr.nil
theorem tabInfo_111_all : ∀ k x, tabInfo_111.get k = some x → PT0 (64 * k + 125) x := Tr.node_all (P := PT0) (a := 64) (b := 125) (fun _ h => by cases h; exact ⟨info125, zeroB_spec (by kernel_rfl)⟩) tabInfo_112_all Tr.nilAll
noncomputable def tabInfo_107 : Tr (TypeInfo) := Tr.node (some Tryd.t61) tabInfo_108 tabInfo_111
theorem tabInfo_107_all : ∀ k x, tabInfo_107.get k = some x → PT0 (32 * k + 61) x := Tr.node_all (P := PT0) (a := 32) (b := 61) (fun _ h => by cases h; exact ⟨info61, zeroB_spec (by kernel_rfl)⟩) tabInfo_108_all tabInfo_111_all
noncomputable def tabInfo_100 : Tr (TypeInfo) := Tr.node (some Tryd.t29) tabInfo_101 tabInfo_107
theorem tabInfo_100_all : ∀ k x, tabInfo_100.get k = some x → PT0 (16 * k + 29) x := Tr.node_all (P := PT0) (a := 16) (b := 29) (fun _ h => by cases h; exact ⟨info29, zeroB_spec (by kernel_rfl)⟩) tabInfo_101_all tabInfo_107_all
noncomputable def tabInfo_86 : Tr (TypeInfo) := Tr.node (some Tryd.t13) tabInfo_87 tabInfo_100
theorem tabInfo_86_all : ∀ k x, tabInfo_86.get k = some x → PT0 (8 * k + 13) x := Tr.node_all (P := PT0) (a := 8) (b := 13) (fun _ h => by cases h; exact ⟨info13, zeroB_spec (by kernel_rfl)⟩) tabInfo_87_all tabInfo_100_all
noncomputable def tabInfo_58 : Tr (TypeInfo) := Tr.node (some Tryd.t5) tabInfo_59 tabInfo_86
theorem tabInfo_58_all : ∀ k x, tabInfo_58.get k = some x → PT0 (4 * k + 5) x := Tr.node_all (P := PT0) (a := 4) (b := 5) (fun _ h => by cases h; exact ⟨info5, zeroB_spec (by kernel_rfl)⟩) tabInfo_59_all tabInfo_86_all
noncomputable def tabInfo_2 : Tr (TypeInfo) := Tr.node (some Tryd.t1) tabInfo_3 tabInfo_58
theorem tabInfo_2_all : ∀ k x, tabInfo_2.get k = some x → PT0 (2 * k + 1) x := Tr.node_all (P := PT0) (a := 2) (b := 1) (fun _ h => by cases h; exact ⟨info1, zeroB_spec (by kernel_rfl)⟩) tabInfo_3_all tabInfo_58_all
noncomputable def tabInfo_119 : Tr (TypeInfo) := Tr.node (some Tryd.t128) Tr.nil Tr.nil
theorem tabInfo_119_all : ∀ k x, tabInfo_119.get k = some x → PT0 (128 * k + 128) x := Tr.node_all (P := PT0) (a := 128) (b := 128) (fun _ h => by cases h; exact ⟨info128, zeroB_spec (by kernel_rfl)⟩) Tr.nilAll Tr.nilAll
noncomputable def tabInfo_120 : Tr (TypeInfo) := Tr.node (some Tryd.t192) Tr.nil Tr.nil
theorem tabInfo_120_all : ∀ k x, tabInfo_120.get k = some x → PT0 (128 * k + 192) x := Tr.node_all (P := PT0) (a := 128) (b := 192) (fun _ h => by cases h; exact ⟨info192, zeroB_spec (by kernel_rfl)⟩) Tr.nilAll Tr.nilAll
noncomputable def tabInfo_118 : Tr (TypeInfo) := Tr.node (some Tryd.t64) tabInfo_119 tabInfo_120
theorem tabInfo_118_all : ∀ k x, tabInfo_118.get k = some x → PT0 (64 * k + 64) x := Tr.node_all (P := PT0) (a := 64) (b := 64) (fun _ h => by cases h; exact ⟨info64, zeroB_spec (by kernel_rfl)⟩) tabInfo_119_all tabInfo_120_all
noncomputable def tabInfo_122 : Tr (TypeInfo) := Tr.node (some Tryd.t160) Tr.nil Tr.nil
theorem tabInfo_122_all : ∀ k x, tabInfo_122.get k = some x → PT0 (128 * k + 160) x := Tr.node_all (P := PT0) (a := 128) (b := 160) (fun _ h => by cases h; exact ⟨info160, zeroB_spec (by kernel_rfl)⟩) Tr.nilAll Tr.nilAll
noncomputable def tabInfo_121 : Tr (TypeInfo) := Tr.node (some Tryd.t96) tabInfo_122 Tr.nil
theorem tabInfo_121_all : ∀ k x, tabInfo_121.get k = some x → PT0 (64 * k + 96) x := Tr.node_all (P := PT0) (a := 64) (b := 96) (fun _ h => by cases h; exact ⟨info96, zeroB_spec (by kernel_rfl)⟩) tabInfo_122_all Tr.nilAll
noncomputable def tabInfo_117 : Tr (TypeInfo) := Tr.node (some Tryd.t32) tabInfo_118 tabInfo_121
theorem tabInfo_117_all : ∀ k x, tabInfo_117.get k = some x → PT0 (32 * k + 32) x := Tr.node_all (P := PT0) (a := 32) (b := 32) (fun _ h => by cases h; exact ⟨info32, zeroB_spec (by kernel_rfl)⟩) tabInfo_118_all tabInfo_121_all
noncomputable def tabInfo_125 : Tr (TypeInfo) := Tr.node (some Tryd.t144) Tr.nil Tr.nil
theorem tabInfo_125_all : ∀ k x, tabInfo_125.get k = some x → PT0 (128 * k + 144) x := Tr.node_all (P := PT0) (a := 128) (b := 144) (fun _ h => by cases h; exact ⟨info144, zeroB_spec (by kernel_rfl)⟩) Tr.nilAll Tr.nilAll
noncomputable def tabInfo_126 : Tr (TypeInfo) := Tr.node (some Tryd.t208) Tr.nil Tr.nil
theorem tabInfo_126_all : ∀ k x, tabInfo_126.get k = some x → PT0 (128 * k + 208) x := Tr.node_all (P := PT0) (a := 128) (b := 208) (fun _ h => by cases h; exact ⟨info208, zeroB_spec (by kernel_rfl)⟩) Tr.nilAll Tr.nilAll
noncomputable def tabInfo_124 : Tr (TypeInfo) := Tr.node (some Tryd.t80) tabInfo_125 tabInfo_126
theorem tabInfo_124_all : ∀ k x, tabInfo_124.get k = some x → PT0 (64 * k + 80) x := Tr.node_all (P := PT0) (a := 64) (b := 80) (fun _ h => by cases h; exact ⟨info80, zeroB_spec (by kernel_rfl)⟩) tabInfo_125_all tabInfo_126_all
noncomputable def tabInfo_128 : Tr (TypeInfo) := Tr.node (some Tryd.t176) Tr.nil Tr.nil
theorem tabInfo_128_all : ∀ k x, tabInfo_128.get k = some x → PT0 (128 * k + 176) x := Tr.node_all (P := PT0) (a := 128) (b := 176) (fun _ h => by cases h; exact ⟨info176, zeroB_spec (by kernel_rfl)⟩) Tr.nilAll Tr.nilAll
noncomputable def tabInfo_127 : Tr (TypeInfo) := Tr.node none tabInfo_128 Tr.nil
theorem tabInfo_127_all : ∀ k x, tabInfo_127.get k = some x → PT0 (64 * k + 112) x := Tr.node_all (P := PT0) (a := 64) (b := 112) (fun _ h => by cases h) tabInfo_128_all Tr.nilAll
noncomputable def tabInfo_123 : Tr (TypeInfo) := Tr.node (some Tryd.t48) tabInfo_124 tabInfo_127
theorem tabInfo_123_all : ∀ k x, tabInfo_123.get k = some x → PT0 (32 * k + 48) x := Tr.node_all (P := PT0) (a := 32) (b := 48) (fun _ h => by cases h; exact ⟨info48, zeroB_spec (by kernel_rfl)⟩) tabInfo_124_all tabInfo_127_all
noncomputable def tabInfo_116 : Tr (TypeInfo) := Tr.node (some Tryd.t16) tabInfo_117 tabInfo_123
theorem tabInfo_116_all : ∀ k x, tabInfo_116.get k = some x → PT0 (16 * k + 16) x := Tr.node_all (P := PT0) (a := 16) (b := 16) (fun _ h => by cases h; exact ⟨info16, zeroB_spec (by kernel_rfl)⟩) tabInfo_117_all tabInfo_123_all
noncomputable def tabInfo_132 : Tr (TypeInfo) := Tr.node (some Tryd.t136) Tr.nil Tr.nil
theorem tabInfo_132_all : ∀ k x, tabInfo_132.get k = some x → PT0 (128 * k + 136) x := Tr.node_all (P := PT0) (a := 128) (b := 136) (fun _ h => by cases h; exact ⟨info136, zeroB_spec (by kernel_rfl)⟩) Tr.nilAll Tr.nilAll
noncomputable def tabInfo_133 : Tr (TypeInfo) := Tr.node (some Tryd.t200) Tr.nil Tr.nil
theorem tabInfo_133_all : ∀ k x, tabInfo_133.get k = some x → PT0 (128 * k + 200) x := Tr.node_all (P := PT0) (a := 128) (b := 200) (fun _ h => by cases h; exact ⟨info200, zeroB_spec (by kernel_rfl)⟩) Tr.nilAll Tr.nilAll
noncomputable def tabInfo_131 : Tr (TypeInfo) := Tr.node (some Tryd.t72) tabInfo_132 tabInfo_133
theorem tabInfo_131_all : ∀ k x, tabInfo_131.get k = some x → PT0 (64 * k + 72) x := Tr.node_all (P := PT0) (a := 64) (b := 72) (fun _ h => by cases h; exact ⟨info72, zeroB_spec (by kernel_rfl)⟩) tabInfo_132_all tabInfo_133_all
noncomputable def tabInfo_135 : Tr (TypeInfo) := Tr.node (some Tryd.t168) Tr.nil Tr.nil
theorem tabInfo_135_all : ∀ k x, tabInfo_135.get k = some x → PT0 (128 * k + 168) x := Tr.node_all (P := PT0) (a := 128) (b := 168) (fun _ h => by cases h; exact ⟨info168, zeroB_spec (by kernel_rfl)⟩) Tr.nilAll Tr.nilAll
noncomputable def tabInfo_134 : Tr (TypeInfo) := Tr.node (some Tryd.t104) tabInfo_135 Tr.nil
theorem tabInfo_134_all : ∀ k x, tabInfo_134.get k = some x → PT0 (64 * k + 104) x := Tr.node_all (P := PT0) (a := 64) (b := 104) (fun _ h => by cases h; exact ⟨info104, zeroB_spec (by kernel_rfl)⟩) tabInfo_135_all Tr.nilAll
noncomputable def tabInfo_130 : Tr (TypeInfo) := Tr.node (some Tryd.t40) tabInfo_131 tabInfo_134
theorem tabInfo_130_all : ∀ k x, tabInfo_130.get k = some x → PT0 (32 * k + 40) x := Tr.node_all (P := PT0) (a := 32) (b := 40) (fun _ h => by cases h; exact ⟨info40, zeroB_spec (by kernel_rfl)⟩) tabInfo_131_all tabInfo_134_all
noncomputable def tabInfo_138 : Tr (TypeInfo) := Tr.node (some Tryd.t152) Tr.nil Tr.nil
theorem tabInfo_138_all : ∀ k x, tabInfo_138.get k = some x → PT0 (128 * k + 152) x := Tr.node_all (P := PT0) (a := 128) (b := 152) (fun _ h => by cases h; exact ⟨info152, zeroB_spec (by kernel_rfl)⟩) Tr.nilAll Tr.nilAll
noncomputable def tabInfo_139 : Tr (TypeInfo) := Tr.node (some Tryd.t216) Tr.nil Tr.nil
theorem tabInfo_139_all : ∀ k x, tabInfo_139.get k = some x → PT0 (128 * k + 216) x := Tr.node_all (P := PT0) (a := 128) (b := 216) (fun _ h => by cases h; exact ⟨info216, zeroB_spec (by kernel_rfl)⟩) Tr.nilAll Tr.nilAll
noncomputable def tabInfo_137 : Tr (TypeInfo) := Tr.node (some Tryd.t88) tabInfo_138 tabInfo_139
theorem tabInfo_137_all : ∀ k x, tabInfo_137.get k = some x → PT0 (64 * k + 88) x := Tr.node_all (P := PT0) (a := 64) (b := 88) (fun _ h => by cases h; exact ⟨info88, zeroB_spec (by kernel_rfl)⟩) tabInfo_138_all tabInfo_139_all
noncomputable def tabInfo_141 : Tr (TypeInfo) := Tr.node (some Tryd.t184) Tr.nil Tr.nil
theorem tabInfo_141_all : ∀ k x, tabInfo_141.get k = some x → PT0 (128 * k + 184) x := Tr.node_all (P := PT0) (a := 128) (b := 184) (fun _ h => by cases h; exact ⟨info184, zeroB_spec (by kernel_rfl)⟩) Tr.nilAll Tr.nilAll
noncomputable def tabInfo_140 : Tr (TypeInfo) := Tr.node (some Tryd.t120) tabInfo_141 Tr.nil
theorem tabInfo_140_all : ∀ k x, tabInfo_140.get k = some x → PT0 (64 * k + 120) x := Tr.node_all (P := PT0) (a := 64) (b := 120) (fun _ h => by cases h; exact ⟨info120, zeroB_spec (by kernel_rfl)⟩) tabInfo_141_all Tr.nilAll
noncomputable def tabInfo_136 : Tr (TypeInfo) := Tr.node (some Tryd.t56) tabInfo_137 tabInfo_140
theorem tabInfo_136_all : ∀ k x, tabInfo_136.get k = some x → PT0 (32 * k + 56) x := Tr.node_all (P := PT0) (a := 32) (b := 56) (fun _ h => by cases h; exact ⟨info56, zeroB_spec (by kernel_rfl)⟩) tabInfo_137_all tabInfo_140_all
noncomputable def tabInfo_129 : Tr (TypeInfo) := Tr.node (some Tryd.t24) tabInfo_130 tabInfo_136
theorem tabInfo_129_all : ∀ k x, tabInfo_129.get k = some x → PT0 (16 * k + 24) x := Tr.node_all (P := PT0) (a := 16) (b := 24) (fun _ h => by cases h; exact ⟨info24, zeroB_spec (by kernel_rfl)⟩) tabInfo_130_all tabInfo_136_all
noncomputable def tabInfo_115 : Tr (TypeInfo) := Tr.node (some Tryd.t8) tabInfo_116 tabInfo_129
theorem tabInfo_115_all : ∀ k x, tabInfo_115.get k = some x → PT0 (8 * k + 8) x := Tr.node_all (P := PT0) (a := 8) (b := 8) (fun _ h => by cases h; exact ⟨info8, zeroB_spec (by kernel_rfl)⟩) tabInfo_116_all tabInfo_129_all
noncomputable def tabInfo_146 : Tr (TypeInfo) := Tr.node (some Tryd.t132) Tr.nil Tr.nil
theorem tabInfo_146_all : ∀ k x, tabInfo_146.get k = some x → PT0 (128 * k + 132) x := Tr.node_all (P := PT0) (a := 128) (b := 132) (fun _ h => by cases h; exact ⟨info132, zeroB_spec (by kernel_rfl)⟩) Tr.nilAll Tr.nilAll
noncomputable def tabInfo_147 : Tr (TypeInfo) := Tr.node (some Tryd.t196) Tr.nil Tr.nil
theorem tabInfo_147_all : ∀ k x, tabInfo_147.get k = some x → PT0 (128 * k + 196) x := Tr.node_all (P := PT0) (a := 128) (b := 196) (fun _ h => by cases h; exact ⟨info196, zeroB_spec (by kernel_rfl)⟩) Tr.nilAll Tr.nilAll
noncomputable def tabInfo_145 : Tr (TypeInfo) := Tr.node (some Tryd.t68) tabInfo_146 tabInfo_147
theorem tabInfo_145_all : ∀ k x, tabInfo_145.get k = some x → PT0 (64 * k + 68) x := Tr.node_all (P := PT0) (a := 64) (b := 68) (fun _ h => by cases h; exact ⟨info68, zeroB_spec (by kernel_rfl)⟩) tabInfo_146_all tabInfo_147_all
noncomputable def tabInfo_149 : Tr (TypeInfo) := Tr.node (some Tryd.t164) Tr.nil Tr.nil
theorem tabInfo_149_all : ∀ k x, tabInfo_149.get k = some x → PT0 (128 * k + 164) x := Tr.node_all (P := PT0) (a := 128) (b := 164) (fun _ h => by cases h; exact ⟨info164, zeroB_spec (by kernel_rfl)⟩) Tr.nilAll Tr.nilAll
noncomputable def tabInfo_148 : Tr (TypeInfo) := Tr.node (some Tryd.t100) tabInfo_149 Tr.nil
theorem tabInfo_148_all : ∀ k x, tabInfo_148.get k = some x → PT0 (64 * k + 100) x := Tr.node_all (P := PT0) (a := 64) (b := 100) (fun _ h => by cases h; exact ⟨info100, zeroB_spec (by kernel_rfl)⟩) tabInfo_149_all Tr.nilAll
noncomputable def tabInfo_144 : Tr (TypeInfo) := Tr.node (some Tryd.t36) tabInfo_145 tabInfo_148
theorem tabInfo_144_all : ∀ k x, tabInfo_144.get k = some x → PT0 (32 * k + 36) x := Tr.node_all (P := PT0) (a := 32) (b := 36) (fun _ h => by cases h; exact ⟨info36, zeroB_spec (by kernel_rfl)⟩) tabInfo_145_all tabInfo_148_all
noncomputable def tabInfo_152 : Tr (TypeInfo) := Tr.node (some Tryd.t148) Tr.nil Tr.nil
theorem tabInfo_152_all : ∀ k x, tabInfo_152.get k = some x → PT0 (128 * k + 148) x := Tr.node_all (P := PT0) (a := 128) (b := 148) (fun _ h => by cases h; exact ⟨info148, zeroB_spec (by kernel_rfl)⟩) Tr.nilAll Tr.nilAll
noncomputable def tabInfo_153 : Tr (TypeInfo) := Tr.node (some Tryd.t212) Tr.nil Tr.nil
theorem tabInfo_153_all : ∀ k x, tabInfo_153.get k = some x → PT0 (128 * k + 212) x := Tr.node_all (P := PT0) (a := 128) (b := 212) (fun _ h => by cases h; exact ⟨info212, zeroB_spec (by kernel_rfl)⟩) Tr.nilAll Tr.nilAll
noncomputable def tabInfo_151 : Tr (TypeInfo) := Tr.node (some Tryd.t84) tabInfo_152 tabInfo_153
theorem tabInfo_151_all : ∀ k x, tabInfo_151.get k = some x → PT0 (64 * k + 84) x := Tr.node_all (P := PT0) (a := 64) (b := 84) (fun _ h => by cases h; exact ⟨info84, zeroB_spec (by kernel_rfl)⟩) tabInfo_152_all tabInfo_153_all
noncomputable def tabInfo_155 : Tr (TypeInfo) := Tr.node (some Tryd.t180) Tr.nil Tr.nil
theorem tabInfo_155_all : ∀ k x, tabInfo_155.get k = some x → PT0 (128 * k + 180) x := Tr.node_all (P := PT0) (a := 128) (b := 180) (fun _ h => by cases h; exact ⟨info180, zeroB_spec (by kernel_rfl)⟩) Tr.nilAll Tr.nilAll
noncomputable def tabInfo_154 : Tr (TypeInfo) := Tr.node (some Tryd.t116) tabInfo_155 Tr.nil
theorem tabInfo_154_all : ∀ k x, tabInfo_154.get k = some x → PT0 (64 * k + 116) x := Tr.node_all (P := PT0) (a := 64) (b := 116) (fun _ h => by cases h; exact ⟨info116, zeroB_spec (by kernel_rfl)⟩) tabInfo_155_all Tr.nilAll
noncomputable def tabInfo_150 : Tr (TypeInfo) := Tr.node (some Tryd.t52) tabInfo_151 tabInfo_154
theorem tabInfo_150_all : ∀ k x, tabInfo_150.get k = some x → PT0 (32 * k + 52) x := Tr.node_all (P := PT0) (a := 32) (b := 52) (fun _ h => by cases h; exact ⟨info52, zeroB_spec (by kernel_rfl)⟩) tabInfo_151_all tabInfo_154_all
noncomputable def tabInfo_143 : Tr (TypeInfo) := Tr.node (some Tryd.t20) tabInfo_144 tabInfo_150
theorem tabInfo_143_all : ∀ k x, tabInfo_143.get k = some x → PT0 (16 * k + 20) x := Tr.node_all (P := PT0) (a := 16) (b := 20) (fun _ h => by cases h; exact ⟨info20, zeroB_spec (by kernel_rfl)⟩) tabInfo_144_all tabInfo_150_all
noncomputable def tabInfo_159 : Tr (TypeInfo) := Tr.node (some Tryd.t140) Tr.nil Tr.nil
theorem tabInfo_159_all : ∀ k x, tabInfo_159.get k = some x → PT0 (128 * k + 140) x := Tr.node_all (P := PT0) (a := 128) (b := 140) (fun _ h => by cases h; exact ⟨info140, zeroB_spec (by kernel_rfl)⟩) Tr.nilAll Tr.nilAll
noncomputable def tabInfo_160 : Tr (TypeInfo) := Tr.node (some Tryd.t204) Tr.nil Tr.nil
theorem tabInfo_160_all : ∀ k x, tabInfo_160.get k = some x → PT0 (128 * k + 204) x := Tr.node_all (P := PT0) (a := 128) (b := 204) (fun _ h => by cases h; exact ⟨info204, zeroB_spec (by kernel_rfl)⟩) Tr.nilAll Tr.nilAll
noncomputable def tabInfo_158 : Tr (TypeInfo) := Tr.node (some Tryd.t76) tabInfo_159 tabInfo_160
theorem tabInfo_158_all : ∀ k x, tabInfo_158.get k = some x → PT0 (64 * k + 76) x := Tr.node_all (P := PT0) (a := 64) (b := 76) (fun _ h => by cases h; exact ⟨info76, zeroB_spec (by kernel_rfl)⟩) tabInfo_159_all tabInfo_160_all
noncomputable def tabInfo_162 : Tr (TypeInfo) := Tr.node (some Tryd.t172) Tr.nil Tr.nil
theorem tabInfo_162_all : ∀ k x, tabInfo_162.get k = some x → PT0 (128 * k + 172) x := Tr.node_all (P := PT0) (a := 128) (b := 172) (fun _ h => by cases h; exact ⟨info172, zeroB_spec (by kernel_rfl)⟩) Tr.nilAll Tr.nilAll
noncomputable def tabInfo_161 : Tr (TypeInfo) := Tr.node (some Tryd.t108) tabInfo_162 Tr.nil
theorem tabInfo_161_all : ∀ k x, tabInfo_161.get k = some x → PT0 (64 * k + 108) x := Tr.node_all (P := PT0) (a := 64) (b := 108) (fun _ h => by cases h; exact ⟨info108, zeroB_spec (by kernel_rfl)⟩) tabInfo_162_all Tr.nilAll
noncomputable def tabInfo_157 : Tr (TypeInfo) := Tr.node (some Tryd.t44) tabInfo_158 tabInfo_161
theorem tabInfo_157_all : ∀ k x, tabInfo_157.get k = some x → PT0 (32 * k + 44) x := Tr.node_all (P := PT0) (a := 32) (b := 44) (fun _ h => by cases h; exact ⟨info44, zeroB_spec (by kernel_rfl)⟩) tabInfo_158_all tabInfo_161_all
noncomputable def tabInfo_165 : Tr (TypeInfo) := Tr.node (some Tryd.t156) Tr.nil Tr.nil
theorem tabInfo_165_all : ∀ k x, tabInfo_165.get k = some x → PT0 (128 * k + 156) x := Tr.node_all (P := PT0) (a := 128) (b := 156) (fun _ h => by cases h; exact ⟨info156, zeroB_spec (by kernel_rfl)⟩) Tr.nilAll Tr.nilAll
noncomputable def tabInfo_166 : Tr (TypeInfo) := Tr.node (some Tryd.t220) Tr.nil Tr.nil
theorem tabInfo_166_all : ∀ k x, tabInfo_166.get k = some x → PT0 (128 * k + 220) x := Tr.node_all (P := PT0) (a := 128) (b := 220) (fun _ h => by cases h; exact ⟨info220, zeroB_spec (by kernel_rfl)⟩) Tr.nilAll Tr.nilAll
noncomputable def tabInfo_164 : Tr (TypeInfo) := Tr.node (some Tryd.t92) tabInfo_165 tabInfo_166
theorem tabInfo_164_all : ∀ k x, tabInfo_164.get k = some x → PT0 (64 * k + 92) x := Tr.node_all (P := PT0) (a := 64) (b := 92) (fun _ h => by cases h; exact ⟨info92, zeroB_spec (by kernel_rfl)⟩) tabInfo_165_all tabInfo_166_all
noncomputable def tabInfo_168 : Tr (TypeInfo) := Tr.node (some Tryd.t188) Tr.nil Tr.nil
theorem tabInfo_168_all : ∀ k x, tabInfo_168.get k = some x → PT0 (128 * k + 188) x := Tr.node_all (P := PT0) (a := 128) (b := 188) (fun _ h => by cases h; exact ⟨info188, zeroB_spec (by kernel_rfl)⟩) Tr.nilAll Tr.nilAll
noncomputable def tabInfo_167 : Tr (TypeInfo) := Tr.node (some Tryd.t124) tabInfo_168 Tr.nil
theorem tabInfo_167_all : ∀ k x, tabInfo_167.get k = some x → PT0 (64 * k + 124) x := Tr.node_all (P := PT0) (a := 64) (b := 124) (fun _ h => by cases h; exact ⟨info124, zeroB_spec (by kernel_rfl)⟩) tabInfo_168_all Tr.nilAll
noncomputable def tabInfo_163 : Tr (TypeInfo) := Tr.node (some Tryd.t60) tabInfo_164 tabInfo_167
theorem tabInfo_163_all : ∀ k x, tabInfo_163.get k = some x → PT0 (32 * k + 60) x := Tr.node_all (P := PT0) (a := 32) (b := 60) (fun _ h => by cases h; exact ⟨info60, zeroB_spec (by kernel_rfl)⟩) tabInfo_164_all tabInfo_167_all
noncomputable def tabInfo_156 : Tr (TypeInfo) := Tr.node (some Tryd.t28) tabInfo_157 tabInfo_163
theorem tabInfo_156_all : ∀ k x, tabInfo_156.get k = some x → PT0 (16 * k + 28) x := Tr.node_all (P := PT0) (a := 16) (b := 28) (fun _ h => by cases h; exact ⟨info28, zeroB_spec (by kernel_rfl)⟩) tabInfo_157_all tabInfo_163_all
noncomputable def tabInfo_142 : Tr (TypeInfo) := Tr.node (some Tryd.t12) tabInfo_143 tabInfo_156
theorem tabInfo_142_all : ∀ k x, tabInfo_142.get k = some x → PT0 (8 * k + 12) x := Tr.node_all (P := PT0) (a := 8) (b := 12) (fun _ h => by cases h; exact ⟨info12, zeroB_spec (by kernel_rfl)⟩) tabInfo_143_all tabInfo_156_all
noncomputable def tabInfo_114 : Tr (TypeInfo) := Tr.node (some Tryd.t4) tabInfo_115 tabInfo_142
theorem tabInfo_114_all : ∀ k x, tabInfo_114.get k = some x → PT0 (4 * k + 4) x := Tr.node_all (P := PT0) (a := 4) (b := 4) (fun _ h => by cases h; exact ⟨info4, zeroB_spec (by kernel_rfl)⟩) tabInfo_115_all tabInfo_142_all
noncomputable def tabInfo_174 : Tr (TypeInfo) := Tr.node (some Tryd.t130) Tr.nil Tr.nil
theorem tabInfo_174_all : ∀ k x, tabInfo_174.get k = some x → PT0 (128 * k + 130) x := Tr.node_all (P := PT0) (a := 128) (b := 130) (fun _ h => by cases h; exact ⟨info130, zeroB_spec (by kernel_rfl)⟩) Tr.nilAll Tr.nilAll
noncomputable def tabInfo_175 : Tr (TypeInfo) := Tr.node (some Tryd.t194) Tr.nil Tr.nil
theorem tabInfo_175_all : ∀ k x, tabInfo_175.get k = some x → PT0 (128 * k + 194) x := Tr.node_all (P := PT0) (a := 128) (b := 194) (fun _ h => by cases h; exact ⟨info194, zeroB_spec (by kernel_rfl)⟩) Tr.nilAll Tr.nilAll
noncomputable def tabInfo_173 : Tr (TypeInfo) := Tr.node (some Tryd.t66) tabInfo_174 tabInfo_175
theorem tabInfo_173_all : ∀ k x, tabInfo_173.get k = some x → PT0 (64 * k + 66) x := Tr.node_all (P := PT0) (a := 64) (b := 66) (fun _ h => by cases h; exact ⟨info66, zeroB_spec (by kernel_rfl)⟩) tabInfo_174_all tabInfo_175_all
noncomputable def tabInfo_177 : Tr (TypeInfo) := Tr.node (some Tryd.t162) Tr.nil Tr.nil
theorem tabInfo_177_all : ∀ k x, tabInfo_177.get k = some x → PT0 (128 * k + 162) x := Tr.node_all (P := PT0) (a := 128) (b := 162) (fun _ h => by cases h; exact ⟨info162, zeroB_spec (by kernel_rfl)⟩) Tr.nilAll Tr.nilAll
noncomputable def tabInfo_176 : Tr (TypeInfo) := Tr.node (some Tryd.t98) tabInfo_177 Tr.nil
theorem tabInfo_176_all : ∀ k x, tabInfo_176.get k = some x → PT0 (64 * k + 98) x := Tr.node_all (P := PT0) (a := 64) (b := 98) (fun _ h => by cases h; exact ⟨info98, zeroB_spec (by kernel_rfl)⟩) tabInfo_177_all Tr.nilAll
noncomputable def tabInfo_172 : Tr (TypeInfo) := Tr.node (some Tryd.t34) tabInfo_173 tabInfo_176
theorem tabInfo_172_all : ∀ k x, tabInfo_172.get k = some x → PT0 (32 * k + 34) x := Tr.node_all (P := PT0) (a := 32) (b := 34) (fun _ h => by cases h; exact ⟨info34, zeroB_spec (by kernel_rfl)⟩) tabInfo_173_all tabInfo_176_all
noncomputable def tabInfo_180 : Tr (TypeInfo) := Tr.node (some Tryd.t146) Tr.nil Tr.nil
theorem tabInfo_180_all : ∀ k x, tabInfo_180.get k = some x → PT0 (128 * k + 146) x := Tr.node_all (P := PT0) (a := 128) (b := 146) (fun _ h => by cases h; exact ⟨info146, zeroB_spec (by kernel_rfl)⟩) Tr.nilAll Tr.nilAll
noncomputable def tabInfo_181 : Tr (TypeInfo) := Tr.node (some Tryd.t210) Tr.nil Tr.nil
theorem tabInfo_181_all : ∀ k x, tabInfo_181.get k = some x → PT0 (128 * k + 210) x := Tr.node_all (P := PT0) (a := 128) (b := 210) (fun _ h => by cases h; exact ⟨info210, zeroB_spec (by kernel_rfl)⟩) Tr.nilAll Tr.nilAll
noncomputable def tabInfo_179 : Tr (TypeInfo) := Tr.node (some Tryd.t82) tabInfo_180 tabInfo_181
theorem tabInfo_179_all : ∀ k x, tabInfo_179.get k = some x → PT0 (64 * k + 82) x := Tr.node_all (P := PT0) (a := 64) (b := 82) (fun _ h => by cases h; exact ⟨info82, zeroB_spec (by kernel_rfl)⟩) tabInfo_180_all tabInfo_181_all
noncomputable def tabInfo_183 : Tr (TypeInfo) := Tr.node (some Tryd.t178) Tr.nil Tr.nil
theorem tabInfo_183_all : ∀ k x, tabInfo_183.get k = some x → PT0 (128 * k + 178) x := Tr.node_all (P := PT0) (a := 128) (b := 178) (fun _ h => by cases h; exact ⟨info178, zeroB_spec (by kernel_rfl)⟩) Tr.nilAll Tr.nilAll
noncomputable def tabInfo_182 : Tr (TypeInfo) := Tr.node (some Tryd.t114) tabInfo_183 Tr.nil
theorem tabInfo_182_all : ∀ k x, tabInfo_182.get k = some x → PT0 (64 * k + 114) x := Tr.node_all (P := PT0) (a := 64) (b := 114) (fun _ h => by cases h; exact ⟨info114, zeroB_spec (by kernel_rfl)⟩) tabInfo_183_all Tr.nilAll
noncomputable def tabInfo_178 : Tr (TypeInfo) := Tr.node (some Tryd.t50) tabInfo_179 tabInfo_182
theorem tabInfo_178_all : ∀ k x, tabInfo_178.get k = some x → PT0 (32 * k + 50) x := Tr.node_all (P := PT0) (a := 32) (b := 50) (fun _ h => by cases h; exact ⟨info50, zeroB_spec (by kernel_rfl)⟩) tabInfo_179_all tabInfo_182_all
noncomputable def tabInfo_171 : Tr (TypeInfo) := Tr.node (some Tryd.t18) tabInfo_172 tabInfo_178
theorem tabInfo_171_all : ∀ k x, tabInfo_171.get k = some x → PT0 (16 * k + 18) x := Tr.node_all (P := PT0) (a := 16) (b := 18) (fun _ h => by cases h; exact ⟨info18, zeroB_spec (by kernel_rfl)⟩) tabInfo_172_all tabInfo_178_all
noncomputable def tabInfo_187 : Tr (TypeInfo) := Tr.node (some Tryd.t138) Tr.nil Tr.nil
theorem tabInfo_187_all : ∀ k x, tabInfo_187.get k = some x → PT0 (128 * k + 138) x := Tr.node_all (P := PT0) (a := 128) (b := 138) (fun _ h => by cases h; exact ⟨info138, zeroB_spec (by kernel_rfl)⟩) Tr.nilAll Tr.nilAll
noncomputable def tabInfo_188 : Tr (TypeInfo) := Tr.node (some Tryd.t202) Tr.nil Tr.nil
theorem tabInfo_188_all : ∀ k x, tabInfo_188.get k = some x → PT0 (128 * k + 202) x := Tr.node_all (P := PT0) (a := 128) (b := 202) (fun _ h => by cases h; exact ⟨info202, zeroB_spec (by kernel_rfl)⟩) Tr.nilAll Tr.nilAll
noncomputable def tabInfo_186 : Tr (TypeInfo) := Tr.node (some Tryd.t74) tabInfo_187 tabInfo_188
theorem tabInfo_186_all : ∀ k x, tabInfo_186.get k = some x → PT0 (64 * k + 74) x := Tr.node_all (P := PT0) (a := 64) (b := 74) (fun _ h => by cases h; exact ⟨info74, zeroB_spec (by kernel_rfl)⟩) tabInfo_187_all tabInfo_188_all
noncomputable def tabInfo_190 : Tr (TypeInfo) := Tr.node (some Tryd.t170) Tr.nil Tr.nil
theorem tabInfo_190_all : ∀ k x, tabInfo_190.get k = some x → PT0 (128 * k + 170) x := Tr.node_all (P := PT0) (a := 128) (b := 170) (fun _ h => by cases h; exact ⟨info170, zeroB_spec (by kernel_rfl)⟩) Tr.nilAll Tr.nilAll
noncomputable def tabInfo_189 : Tr (TypeInfo) := Tr.node (some Tryd.t106) tabInfo_190 Tr.nil
theorem tabInfo_189_all : ∀ k x, tabInfo_189.get k = some x → PT0 (64 * k + 106) x := Tr.node_all (P := PT0) (a := 64) (b := 106) (fun _ h => by cases h; exact ⟨info106, zeroB_spec (by kernel_rfl)⟩) tabInfo_190_all Tr.nilAll
noncomputable def tabInfo_185 : Tr (TypeInfo) := Tr.node (some Tryd.t42) tabInfo_186 tabInfo_189
theorem tabInfo_185_all : ∀ k x, tabInfo_185.get k = some x → PT0 (32 * k + 42) x := Tr.node_all (P := PT0) (a := 32) (b := 42) (fun _ h => by cases h; exact ⟨info42, zeroB_spec (by kernel_rfl)⟩) tabInfo_186_all tabInfo_189_all
noncomputable def tabInfo_193 : Tr (TypeInfo) := Tr.node (some Tryd.t154) Tr.nil Tr.nil
theorem tabInfo_193_all : ∀ k x, tabInfo_193.get k = some x → PT0 (128 * k + 154) x := Tr.node_all (P := PT0) (a := 128) (b := 154) (fun _ h => by cases h; exact ⟨info154, zeroB_spec (by kernel_rfl)⟩) Tr.nilAll Tr.nilAll
noncomputable def tabInfo_194 : Tr (TypeInfo) := Tr.node (some Tryd.t218) Tr.nil Tr.nil
theorem tabInfo_194_all : ∀ k x, tabInfo_194.get k = some x → PT0 (128 * k + 218) x := Tr.node_all (P := PT0) (a := 128) (b := 218) (fun _ h => by cases h; exact ⟨info218, zeroB_spec (by kernel_rfl)⟩) Tr.nilAll Tr.nilAll
noncomputable def tabInfo_192 : Tr (TypeInfo) := Tr.node (some Tryd.t90) tabInfo_193 tabInfo_194
theorem tabInfo_192_all : ∀ k x, tabInfo_192.get k = some x → PT0 (64 * k + 90) x := Tr.node_all (P := PT0) (a := 64) (b := 90) (fun _ h => by cases h; exact ⟨info90, zeroB_spec (by kernel_rfl)⟩) tabInfo_193_all tabInfo_194_all
noncomputable def tabInfo_196 : Tr (TypeInfo) := Tr.node (some Tryd.t186) Tr.nil Tr.nil
theorem tabInfo_196_all : ∀ k x, tabInfo_196.get k = some x → PT0 (128 * k + 186) x := Tr.node_all (P := PT0) (a := 128) (b := 186) (fun _ h => by cases h; exact ⟨info186, zeroB_spec (by kernel_rfl)⟩) Tr.nilAll Tr.nilAll
noncomputable def tabInfo_195 : Tr (TypeInfo) := Tr.node (some Tryd.t122) tabInfo_196 Tr.nil
theorem tabInfo_195_all : ∀ k x, tabInfo_195.get k = some x → PT0 (64 * k + 122) x := Tr.node_all (P := PT0) (a := 64) (b := 122) (fun _ h => by cases h; exact ⟨info122, zeroB_spec (by kernel_rfl)⟩) tabInfo_196_all Tr.nilAll
noncomputable def tabInfo_191 : Tr (TypeInfo) := Tr.node (some Tryd.t58) tabInfo_192 tabInfo_195
theorem tabInfo_191_all : ∀ k x, tabInfo_191.get k = some x → PT0 (32 * k + 58) x := Tr.node_all (P := PT0) (a := 32) (b := 58) (fun _ h => by cases h; exact ⟨info58, zeroB_spec (by kernel_rfl)⟩) tabInfo_192_all tabInfo_195_all
noncomputable def tabInfo_184 : Tr (TypeInfo) := Tr.node (some Tryd.t26) tabInfo_185 tabInfo_191
theorem tabInfo_184_all : ∀ k x, tabInfo_184.get k = some x → PT0 (16 * k + 26) x := Tr.node_all (P := PT0) (a := 16) (b := 26) (fun _ h => by cases h; exact ⟨info26, zeroB_spec (by kernel_rfl)⟩) tabInfo_185_all tabInfo_191_all
noncomputable def tabInfo_170 : Tr (TypeInfo) := Tr.node (some Tryd.t10) tabInfo_171 tabInfo_184
theorem tabInfo_170_all : ∀ k x, tabInfo_170.get k = some x → PT0 (8 * k + 10) x := Tr.node_all (P := PT0) (a := 8) (b := 10) (fun _ h => by cases h; exact ⟨info10, zeroB_spec (by kernel_rfl)⟩) tabInfo_171_all tabInfo_184_all
noncomputable def tabInfo_201 : Tr (TypeInfo) := Tr.node (some Tryd.t134) Tr.nil Tr.nil
theorem tabInfo_201_all : ∀ k x, tabInfo_201.get k = some x → PT0 (128 * k + 134) x := Tr.node_all (P := PT0) (a := 128) (b := 134) (fun _ h => by cases h; exact ⟨info134, zeroB_spec (by kernel_rfl)⟩) Tr.nilAll Tr.nilAll
noncomputable def tabInfo_202 : Tr (TypeInfo) := Tr.node (some Tryd.t198) Tr.nil Tr.nil
theorem tabInfo_202_all : ∀ k x, tabInfo_202.get k = some x → PT0 (128 * k + 198) x := Tr.node_all (P := PT0) (a := 128) (b := 198) (fun _ h => by cases h; exact ⟨info198, zeroB_spec (by kernel_rfl)⟩) Tr.nilAll Tr.nilAll
noncomputable def tabInfo_200 : Tr (TypeInfo) := Tr.node (some Tryd.t70) tabInfo_201 tabInfo_202
theorem tabInfo_200_all : ∀ k x, tabInfo_200.get k = some x → PT0 (64 * k + 70) x := Tr.node_all (P := PT0) (a := 64) (b := 70) (fun _ h => by cases h; exact ⟨info70, zeroB_spec (by kernel_rfl)⟩) tabInfo_201_all tabInfo_202_all
noncomputable def tabInfo_204 : Tr (TypeInfo) := Tr.node (some Tryd.t166) Tr.nil Tr.nil
theorem tabInfo_204_all : ∀ k x, tabInfo_204.get k = some x → PT0 (128 * k + 166) x := Tr.node_all (P := PT0) (a := 128) (b := 166) (fun _ h => by cases h; exact ⟨info166, zeroB_spec (by kernel_rfl)⟩) Tr.nilAll Tr.nilAll
noncomputable def tabInfo_203 : Tr (TypeInfo) := Tr.node (some Tryd.t102) tabInfo_204 Tr.nil
theorem tabInfo_203_all : ∀ k x, tabInfo_203.get k = some x → PT0 (64 * k + 102) x := Tr.node_all (P := PT0) (a := 64) (b := 102) (fun _ h => by cases h; exact ⟨info102, zeroB_spec (by kernel_rfl)⟩) tabInfo_204_all Tr.nilAll
noncomputable def tabInfo_199 : Tr (TypeInfo) := Tr.node (some Tryd.t38) tabInfo_200 tabInfo_203
theorem tabInfo_199_all : ∀ k x, tabInfo_199.get k = some x → PT0 (32 * k + 38) x := Tr.node_all (P := PT0) (a := 32) (b := 38) (fun _ h => by cases h; exact ⟨info38, zeroB_spec (by kernel_rfl)⟩) tabInfo_200_all tabInfo_203_all
noncomputable def tabInfo_207 : Tr (TypeInfo) := Tr.node (some Tryd.t150) Tr.nil Tr.nil
theorem tabInfo_207_all : ∀ k x, tabInfo_207.get k = some x → PT0 (128 * k + 150) x := Tr.node_all (P := PT0) (a := 128) (b := 150) (fun _ h => by cases h; exact ⟨info150, zeroB_spec (by kernel_rfl)⟩) Tr.nilAll Tr.nilAll
noncomputable def tabInfo_208 : Tr (TypeInfo) := Tr.node (some Tryd.t214) Tr.nil Tr.nil
theorem tabInfo_208_all : ∀ k x, tabInfo_208.get k = some x → PT0 (128 * k + 214) x := Tr.node_all (P := PT0) (a := 128) (b := 214) (fun _ h => by cases h; exact ⟨info214, zeroB_spec (by kernel_rfl)⟩) Tr.nilAll Tr.nilAll
noncomputable def tabInfo_206 : Tr (TypeInfo) := Tr.node (some Tryd.t86) tabInfo_207 tabInfo_208
theorem tabInfo_206_all : ∀ k x, tabInfo_206.get k = some x → PT0 (64 * k + 86) x := Tr.node_all (P := PT0) (a := 64) (b := 86) (fun _ h => by cases h; exact ⟨info86, zeroB_spec (by kernel_rfl)⟩) tabInfo_207_all tabInfo_208_all
noncomputable def tabInfo_210 : Tr (TypeInfo) := Tr.node (some Tryd.t182) Tr.nil Tr.nil
theorem tabInfo_210_all : ∀ k x, tabInfo_210.get k = some x → PT0 (128 * k + 182) x := Tr.node_all (P := PT0) (a := 128) (b := 182) (fun _ h => by cases h; exact ⟨info182, zeroB_spec (by kernel_rfl)⟩) Tr.nilAll Tr.nilAll
noncomputable def tabInfo_209 : Tr (TypeInfo) := Tr.node (some Tryd.t118) tabInfo_210 Tr.nil
theorem tabInfo_209_all : ∀ k x, tabInfo_209.get k = some x → PT0 (64 * k + 118) x := Tr.node_all (P := PT0) (a := 64) (b := 118) (fun _ h => by cases h; exact ⟨info118, zeroB_spec (by kernel_rfl)⟩) tabInfo_210_all Tr.nilAll
noncomputable def tabInfo_205 : Tr (TypeInfo) := Tr.node (some Tryd.t54) tabInfo_206 tabInfo_209
theorem tabInfo_205_all : ∀ k x, tabInfo_205.get k = some x → PT0 (32 * k + 54) x := Tr.node_all (P := PT0) (a := 32) (b := 54) (fun _ h => by cases h; exact ⟨info54, zeroB_spec (by kernel_rfl)⟩) tabInfo_206_all tabInfo_209_all
noncomputable def tabInfo_198 : Tr (TypeInfo) := Tr.node (some Tryd.t22) tabInfo_199 tabInfo_205
theorem tabInfo_198_all : ∀ k x, tabInfo_198.get k = some x → PT0 (16 * k + 22) x := Tr.node_all (P := PT0) (a := 16) (b := 22) (fun _ h => by cases h; exact ⟨info22, zeroB_spec (by kernel_rfl)⟩) tabInfo_199_all tabInfo_205_all
noncomputable def tabInfo_214 : Tr (TypeInfo) := Tr.node (some Tryd.t142) Tr.nil Tr.nil
theorem tabInfo_214_all : ∀ k x, tabInfo_214.get k = some x → PT0 (128 * k + 142) x := Tr.node_all (P := PT0) (a := 128) (b := 142) (fun _ h => by cases h; exact ⟨info142, zeroB_spec (by kernel_rfl)⟩) Tr.nilAll Tr.nilAll
noncomputable def tabInfo_215 : Tr (TypeInfo) := Tr.node (some Tryd.t206) Tr.nil Tr.nil
theorem tabInfo_215_all : ∀ k x, tabInfo_215.get k = some x → PT0 (128 * k + 206) x := Tr.node_all (P := PT0) (a := 128) (b := 206) (fun _ h => by cases h; exact ⟨info206, zeroB_spec (by kernel_rfl)⟩) Tr.nilAll Tr.nilAll
noncomputable def tabInfo_213 : Tr (TypeInfo) := Tr.node (some Tryd.t78) tabInfo_214 tabInfo_215
theorem tabInfo_213_all : ∀ k x, tabInfo_213.get k = some x → PT0 (64 * k + 78) x := Tr.node_all (P := PT0) (a := 64) (b := 78) (fun _ h => by cases h; exact ⟨info78, zeroB_spec (by kernel_rfl)⟩) tabInfo_214_all tabInfo_215_all
noncomputable def tabInfo_217 : Tr (TypeInfo) := Tr.node (some Tryd.t174) Tr.nil Tr.nil
theorem tabInfo_217_all : ∀ k x, tabInfo_217.get k = some x → PT0 (128 * k + 174) x := Tr.node_all (P := PT0) (a := 128) (b := 174) (fun _ h => by cases h; exact ⟨info174, zeroB_spec (by kernel_rfl)⟩) Tr.nilAll Tr.nilAll
noncomputable def tabInfo_216 : Tr (TypeInfo) := Tr.node (some Tryd.t110) tabInfo_217 Tr.nil
theorem tabInfo_216_all : ∀ k x, tabInfo_216.get k = some x → PT0 (64 * k + 110) x := Tr.node_all (P := PT0) (a := 64) (b := 110) (fun _ h => by cases h; exact ⟨info110, zeroB_spec (by kernel_rfl)⟩) tabInfo_217_all Tr.nilAll
noncomputable def tabInfo_212 : Tr (TypeInfo) := Tr.node (some Tryd.t46) tabInfo_213 tabInfo_216
theorem tabInfo_212_all : ∀ k x, tabInfo_212.get k = some x → PT0 (32 * k + 46) x := Tr.node_all (P := PT0) (a := 32) (b := 46) (fun _ h => by cases h; exact ⟨info46, zeroB_spec (by kernel_rfl)⟩) tabInfo_213_all tabInfo_216_all
noncomputable def tabInfo_220 : Tr (TypeInfo) := Tr.node (some Tryd.t158) Tr.nil Tr.nil
theorem tabInfo_220_all : ∀ k x, tabInfo_220.get k = some x → PT0 (128 * k + 158) x := Tr.node_all (P := PT0) (a := 128) (b := 158) (fun _ h => by cases h; exact ⟨info158, zeroB_spec (by kernel_rfl)⟩) Tr.nilAll Tr.nilAll
noncomputable def tabInfo_221 : Tr (TypeInfo) := Tr.node (some Tryd.t222) Tr.nil Tr.nil
theorem tabInfo_221_all : ∀ k x, tabInfo_221.get k = some x → PT0 (128 * k + 222) x := Tr.node_all (P := PT0) (a := 128) (b := 222) (fun _ h => by cases h; exact ⟨info222, zeroB_spec (by kernel_rfl)⟩) Tr.nilAll Tr.nilAll
noncomputable def tabInfo_219 : Tr (TypeInfo) := Tr.node (some Tryd.t94) tabInfo_220 tabInfo_221
theorem tabInfo_219_all : ∀ k x, tabInfo_219.get k = some x → PT0 (64 * k + 94) x := Tr.node_all (P := PT0) (a := 64) (b := 94) (fun _ h => by cases h; exact ⟨info94, zeroB_spec (by kernel_rfl)⟩) tabInfo_220_all tabInfo_221_all
noncomputable def tabInfo_223 : Tr (TypeInfo) := Tr.node (some Tryd.t190) Tr.nil Tr.nil
theorem tabInfo_223_all : ∀ k x, tabInfo_223.get k = some x → PT0 (128 * k + 190) x := Tr.node_all (P := PT0) (a := 128) (b := 190) (fun _ h => by cases h; exact ⟨info190, zeroB_spec (by kernel_rfl)⟩) Tr.nilAll Tr.nilAll
noncomputable def tabInfo_222 : Tr (TypeInfo) := Tr.node (some Tryd.t126) tabInfo_223 Tr.nil
theorem tabInfo_222_all : ∀ k x, tabInfo_222.get k = some x → PT0 (64 * k + 126) x := Tr.node_all (P := PT0) (a := 64) (b := 126) (fun _ h => by cases h; exact ⟨info126, zeroB_spec (by kernel_rfl)⟩) tabInfo_223_all Tr.nilAll
noncomputable def tabInfo_218 : Tr (TypeInfo) := Tr.node (some Tryd.t62) tabInfo_219 tabInfo_222
theorem tabInfo_218_all : ∀ k x, tabInfo_218.get k = some x → PT0 (32 * k + 62) x := Tr.node_all (P := PT0) (a := 32) (b := 62) (fun _ h => by cases h; exact ⟨info62, zeroB_spec (by kernel_rfl)⟩) tabInfo_219_all tabInfo_222_all
noncomputable def tabInfo_211 : Tr (TypeInfo) := Tr.node (some Tryd.t30) tabInfo_212 tabInfo_218
theorem tabInfo_211_all : ∀ k x, tabInfo_211.get k = some x → PT0 (16 * k + 30) x := Tr.node_all (P := PT0) (a := 16) (b := 30) (fun _ h => by cases h; exact ⟨info30, zeroB_spec (by kernel_rfl)⟩) tabInfo_212_all tabInfo_218_all
noncomputable def tabInfo_197 : Tr (TypeInfo) := Tr.node (some Tryd.t14) tabInfo_198 tabInfo_211
theorem tabInfo_197_all : ∀ k x, tabInfo_197.get k = some x → PT0 (8 * k + 14) x := Tr.node_all (P := PT0) (a := 8) (b := 14) (fun _ h => by cases h; exact ⟨info14, zeroB_spec (by kernel_rfl)⟩) tabInfo_198_all tabInfo_211_all
noncomputable def tabInfo_169 : Tr (TypeInfo) := Tr.node (some Tryd.t6) tabInfo_170 tabInfo_197
theorem tabInfo_169_all : ∀ k x, tabInfo_169.get k = some x → PT0 (4 * k + 6) x := Tr.node_all (P := PT0) (a := 4) (b := 6) (fun _ h => by cases h; exact ⟨info6, zeroB_spec (by kernel_rfl)⟩) tabInfo_170_all tabInfo_197_all
noncomputable def tabInfo_113 : Tr (TypeInfo) := Tr.node (some Tryd.t2) tabInfo_114 tabInfo_169
theorem tabInfo_113_all : ∀ k x, tabInfo_113.get k = some x → PT0 (2 * k + 2) x := Tr.node_all (P := PT0) (a := 2) (b := 2) (fun _ h => by cases h; exact ⟨info2, zeroB_spec (by kernel_rfl)⟩) tabInfo_114_all tabInfo_169_all
noncomputable def tabInfo_1 : Tr (TypeInfo) := Tr.node (some Tryd.t0) tabInfo_2 tabInfo_113
theorem tabInfo_1_all : ∀ k x, tabInfo_1.get k = some x → PT0 (1 * k + 0) x := Tr.node_all (P := PT0) (a := 1) (b := 0) (fun _ h => by cases h; exact ⟨info0, zeroB_spec (by kernel_rfl)⟩) tabInfo_2_all tabInfo_113_all
noncomputable def tabInfo : Tr (TypeInfo) := tabInfo_1
theorem tabInfo_all : ∀ k x, tabInfo.get k = some x → (fun n x => Tryd.prog.info? n = some x ∧ ∀ z, x.zero = some z → flat z = true) k x := fun k x h => by have := tabInfo_1_all k x h; rwa [Nat.one_mul, Nat.add_zero] at this
noncomputable def tabUnd_231 : Tr (TypeDesc) := Tr.node (some Tryd.t127.desc) Tr.nil Tr.nil
theorem tabUnd_231_all : ∀ k x, tabUnd_231.get k = some x → PT1 (128 * k + 127) x := Tr.node_all (P := PT1) (a := 128) (b := 127) (fun _ h => by cases h; exact Tryd.underlying127) Tr.nilAll Tr.nilAll
noncomputable def tabUnd_232 : Tr (TypeDesc) := Tr.node (some Tryd.t191.desc) Tr.nil Tr.nil
theorem tabUnd_232_all : ∀ k x, tabUnd_232.get k = some x → PT1 (128 * k + 191) x := Tr.node_all (P := PT1) (a := 128) (b := 191) (fun _ h => by cases h; exact Tryd.underlying191) Tr.nilAll Tr.nilAll
noncomputable def tabUnd_230 : Tr (TypeDesc) := Tr.node (some Tryd.t63.desc) tabUnd_231 tabUnd_232
theorem tabUnd_230_all : ∀ k x, tabUnd_230.get k = some x → PT1 (64 * k + 63) x := Tr.node_all (P := PT1) (a := 64) (b := 63) (fun _ h => by cases h; exact Tryd.underlying63) tabUnd_231_all tabUnd_232_all
noncomputable def tabUnd_234 : Tr (TypeDesc) := Tr.node (some Tryd.t158.desc) Tr.nil Tr.nil
theorem tabUnd_234_all : ∀ k x, tabUnd_234.get k = some x → PT1 (128 * k + 159) x := Tr.node_all (P := PT1) (a := 128) (b := 159) (fun _ h => by cases h; exact Tryd.underlying159) Tr.nilAll Tr.nilAll
noncomputable def tabUnd_235 : Tr (TypeDesc) := Tr.node (some Tryd.t223.desc) Tr.nil Tr.nil
theorem tabUnd_235_all : ∀ k x, tabUnd_235.get k = some x → PT1 (128 * k + 223) x := Tr.node_all (P := PT1) (a := 128) (b := 223) (fun _ h => by cases h; exact Tryd.underlying223) Tr.nilAll Tr.nilAll
noncomputable def tabUnd_233 : Tr (TypeDesc) := Tr.node (some Tryd.t95.desc) tabUnd_234 tabUnd_235
theorem tabUnd_233_all : ∀ k x, tabUnd_233.get k = some x → PT1 (64 * k + 95) x := Tr.node_all (P := PT1) (a := 64) (b := 95) (fun _ h => by cases h; exact Tryd.underlying95) tabUnd_234_all tabUnd_235_all
noncomputable def tabUnd_229 : Tr (TypeDesc) := Tr.node (some Tryd.t3.desc) tabUnd_230 tabUnd_233
theorem tabUnd_229_all : ∀ k x, tabUnd_229.get k = some x → PT1 (32 * k + 31) x := Tr.node_all (P := PT1) (a := 32) (b := 31) (fun _ h => by cases h; exact Tryd.underlying31) tabUnd_230_all tabUnd_233_all
noncomputable def tabUnd_238 : Tr (TypeDesc) := Tr.node (some Tryd.t143.desc) Tr.nil Tr.nil
theorem tabUnd_238_all : ∀ k x, tabUnd_238.get k = some x → PT1 (128 * k + 143) x := Tr.node_all (P := PT1) (a := 128) (b := 143) (fun _ h => by cases h; exact Tryd.underlying143) Tr.nilAll Tr.nilAll
noncomputable def tabUnd_239 : Tr (TypeDesc) := Tr.node (some Tryd.t207.desc) Tr.nil Tr.nil
theorem tabUnd_239_all : ∀ k x, tabUnd_239.get k = some x → PT1 (128 * k + 207) x := Tr.node_all (P := PT1) (a := 128) (b := 207) (fun _ h => by cases h; exact Tryd.underlying207) Tr.nilAll Tr.nilAll
noncomputable def tabUnd_237 : Tr (TypeDesc) := Tr.node (some Tryd.t79.desc) tabUnd_238 tabUnd_239
theorem tabUnd_237_all : ∀ k x, tabUnd_237.get k = some x → PT1 (64 * k + 79) x := Tr.node_all (P := PT1) (a := 64) (b := 79) (fun _ h => by cases h; exact Tryd.underlying79) tabUnd_238_all tabUnd_239_all
noncomputable def tabUnd_241 : Tr (TypeDesc) := Tr.node (some Tryd.t175.desc) Tr.nil Tr.nil
theorem tabUnd_241_all : ∀ k x, tabUnd_241.get k = some x → PT1 (128 * k + 175) x := Tr.node_all (P := PT1) (a := 128) (b := 175) (fun _ h => by cases h; exact Tryd.underlying175) Tr.nilAll Tr.nilAll
noncomputable def tabUnd_240 : Tr (TypeDesc) := Tr.node (some Tryd.t111.desc) tabUnd_241 Tr.nil
theorem tabUnd_240_all : ∀ k x, tabUnd_240.get k = some x → PT1 (64 * k + 111) x := Tr.node_all (P := PT1) (a := 64) (b := 111) (fun _ h => by cases h; exact Tryd.underlying111) tabUnd_241_all Tr.nilAll
noncomputable def tabUnd_236 : Tr (TypeDesc) := Tr.node (some Tryd.t47.desc) tabUnd_237 tabUnd_240
theorem tabUnd_236_all : ∀ k x, tabUnd_236.get k = some x → PT1 (32 * k + 47) x := Tr.node_all (P := PT1) (a := 32) (b := 47) (fun _ h => by cases h; exact Tryd.underlying47) tabUnd_237_all tabUnd_240_all
noncomputable def tabUnd_228 : Tr (TypeDesc) := Tr.node (some Tryd.t15.desc) tabUnd_229 tabUnd_236
theorem tabUnd_228_all : ∀ k x, tabUnd_228.get k = some x → PT1 (16 * k + 15) x := Tr.node_all (P := PT1) (a := 16) (b := 15) (fun _ h => by cases h; exact Tryd.underlying15) tabUnd_229_all tabUnd_236_all
noncomputable def tabUnd_245 : Tr (TypeDesc) := Tr.node (some Tryd.t135.desc) Tr.nil Tr.nil
theorem tabUnd_245_all : ∀ k x, tabUnd_245.get k = some x → PT1 (128 * k + 135) x := Tr.node_all (P := PT1) (a := 128) (b := 135) (fun _ h => by cases h; exact Tryd.underlying135) Tr.nilAll Tr.nilAll
noncomputable def tabUnd_246 : Tr (TypeDesc) := Tr.node (some Tryd.t199.desc) Tr.nil Tr.nil
theorem tabUnd_246_all : ∀ k x, tabUnd_246.get k = some x → PT1 (128 * k + 199) x := Tr.node_all (P := PT1) (a := 128) (b := 199) (fun _ h => by cases h; exact Tryd.underlying199) Tr.nilAll Tr.nilAll
noncomputable def tabUnd_244 : Tr (TypeDesc) := Tr.node (some Tryd.t70.desc) tabUnd_245 tabUnd_246
theorem tabUnd_244_all : ∀ k x, tabUnd_244.get k = some x → PT1 (64 * k + 71) x := Tr.node_all (P := PT1) (a := 64) (b := 71) (fun _ h => by cases h; exact Tryd.underlying71) tabUnd_245_all tabUnd_246_all
noncomputable def tabUnd_248 : Tr (TypeDesc) := Tr.node (some Tryd.t167.desc) Tr.nil Tr.nil
theorem tabUnd_248_all : ∀ k x, tabUnd_248.get k = some x → PT1 (128 * k + 167) x := Tr.node_all (P := PT1) (a := 128) (b := 167) (fun _ h => by cases h; exact Tryd.underlying167) Tr.nilAll Tr.nilAll
noncomputable def tabUnd_247 : Tr (TypeDesc) := Tr.node (some Tryd.t102.desc) tabUnd_248 Tr.nil
theorem tabUnd_247_all : ∀ k x, tabUnd_247.get k = some x → PT1 (64 * k + 103) x := Tr.node_all (P := PT1) (a := 64) (b := 103) (fun _ h => by cases h; exact Tryd.underlying103) tabUnd_248_all Tr.nilAll
noncomputable def tabUnd_243 : Tr (TypeDesc) := Tr.node (some Tryd.t39.desc) tabUnd_244 tabUnd_247
theorem tabUnd_243_all : ∀ k x, tabUnd_243.get k = some x → PT1 (32 * k + 39) x := Tr.node_all (P := PT1) (a := 32) (b := 39) (fun _ h => by cases h; exact Tryd.underlying39) tabUnd_244_all tabUnd_247_all
noncomputable def tabUnd_251 : Tr (TypeDesc) := Tr.node (some Tryd.t151.desc) Tr.nil Tr.nil
theorem tabUnd_251_all : ∀ k x, tabUnd_251.get k = some x → PT1 (128 * k + 151) x := Tr.node_all (P := PT1) (a := 128) (b := 151) (fun _ h => by cases h; exact Tryd.underlying151) Tr.nilAll Tr.nilAll
noncomputable def tabUnd_252 : Tr (TypeDesc) := Tr.node (some Tryd.t5.desc) Tr.nil Tr.nil
theorem tabUnd_252_all : ∀ k x, tabUnd_252.get k = some x → PT1 (128 * k + 215) x := Tr.node_all (P := PT1) (a := 128) (b := 215) (fun _ h => by cases h; exact Tryd.underlying215) Tr.nilAll Tr.nilAll
noncomputable def tabUnd_250 : Tr (TypeDesc) := Tr.node (some Tryd.t87.desc) tabUnd_251 tabUnd_252
theorem tabUnd_250_all : ∀ k x, tabUnd_250.get k = some x → PT1 (64 * k + 87) x := Tr.node_all (P := PT1) (a := 64) (b := 87) (fun _ h => by cases h; exact Tryd.underlying87) tabUnd_251_all tabUnd_252_all
noncomputable def tabUnd_254 : Tr (TypeDesc) := Tr.node (some Tryd.t183.desc) Tr.nil Tr.nil
theorem tabUnd_254_all : ∀ k x, tabUnd_254.get k = some x → PT1 (128 * k + 183) x := Tr.node_all (P := PT1) (a := 128) (b := 183) (fun _ h => by cases h; exact Tryd.underlying183) Tr.nilAll Tr.nilAll
noncomputable def tabUnd_253 : Tr (TypeDesc) := Tr.node (some Tryd.t119.desc) tabUnd_254 Tr.nil
theorem tabUnd_253_all : ∀ k x, tabUnd_253.get k = some x → PT1 (64 * k + 119) x := Tr.node_all (P := PT1) (a := 64) (b := 119) (fun _ h => by cases h; exact Tryd.underlying119) tabUnd_254_all Tr.nilAll
noncomputable def tabUnd_249 : Tr (TypeDesc) := Tr.node (some Tryd.t55.desc) tabUnd_250 tabUnd_253
theorem tabUnd_249_all : ∀ k x, tabUnd_249.get k = some x → PT1 (32 * k + 55) x := Tr.node_all (P := PT1) (a := 32) (b := 55) (fun _ h => by cases h; exact Tryd.underlying55) tabUnd_250_all tabUnd_253_all
noncomputable def tabUnd_242 : Tr (TypeDesc) := Tr.node (some Tryd.t23.desc) tabUnd_243 tabUnd_249
theorem tabUnd_242_all : ∀ k x, tabUnd_242.get k = some x → PT1 (16 * k + 23) x := Tr.node_all (P := PT1) (a := 16) (b := 23) (fun _ h => by cases h; exact Tryd.underlying23) tabUnd_243_all tabUnd_249_all
noncomputable def tabUnd_227 : Tr (TypeDesc) := Tr.node (some Tryd.t7.desc) tabUnd_228 tabUnd_242
theorem tabUnd_227_all : ∀ k x, tabUnd_227.get k = some x → PT1 (8 * k + 7) x := Tr.node_all (P := PT1) (a := 8) (b := 7) (fun _ h => by cases h; exact Tryd.underlying7) tabUnd_228_all tabUnd_242_all
noncomputable def tabUnd_259 : Tr (TypeDesc) := Tr.node (some Tryd.t131.desc) Tr.nil Tr.nil
theorem tabUnd_259_all : ∀ k x, tabUnd_259.get k = some x → PT1 (128 * k + 131) x := Tr.node_all (P := PT1) (a := 128) (b := 131) (fun _ h => by cases h; exact Tryd.underlying131) Tr.nilAll Tr.nilAll
noncomputable def tabUnd_260 : Tr (TypeDesc) := Tr.node (some Tryd.t195.desc) Tr.nil Tr.nil
theorem tabUnd_260_all : ∀ k x, tabUnd_260.get k = some x → PT1 (128 * k + 195) x := Tr.node_all (P := PT1) (a := 128) (b := 195) (fun _ h => by cases h; exact Tryd.underlying195) Tr.nilAll Tr.nilAll
noncomputable def tabUnd_258 : Tr (TypeDesc) := Tr.node (some Tryd.t67.desc) tabUnd_259 tabUnd_260
theorem tabUnd_258_all : ∀ k x, tabUnd_258.get k = some x → PT1 (64 * k + 67) x := Tr.node_all (P := PT1) (a := 64) (b := 67) (fun _ h => by cases h; exact Tryd.underlying67) tabUnd_259_all tabUnd_260_all
noncomputable def tabUnd_262 : Tr (TypeDesc) := Tr.node (some Tryd.t162.desc) Tr.nil Tr.nil
theorem tabUnd_262_all : ∀ k x, tabUnd_262.get k = some x → PT1 (128 * k + 163) x := Tr.node_all (P := PT1) (a := 128) (b := 163) (fun _ h => by cases h; exact Tryd.underlying163) Tr.nilAll Tr.nilAll
noncomputable def tabUnd_261 : Tr (TypeDesc) := Tr.node (some Tryd.t99.desc) tabUnd_262 Tr.nil
theorem tabUnd_261_all : ∀ k x, tabUnd_261.get k = some x → PT1 (64 * k + 99) x := Tr.node_all (P := PT1) (a := 64) (b := 99) (fun _ h => by cases h; exact Tryd.underlying99) tabUnd_262_all Tr.nilAll
noncomputable def tabUnd_257 : Tr (TypeDesc) := Tr.node (some Tryd.t35.desc) tabUnd_258 tabUnd_261
theorem tabUnd_257_all : ∀ k x, tabUnd_257.get k = some x → PT1 (32 * k + 35) x := Tr.node_all (P := PT1) (a := 32) (b := 35) (fun _ h => by cases h; exact Tryd.underlying35) tabUnd_258_all tabUnd_261_all
noncomputable def tabUnd_265 : Tr (TypeDesc) := Tr.node (some Tryd.t147.desc) Tr.nil Tr.nil
theorem tabUnd_265_all : ∀ k x, tabUnd_265.get k = some x → PT1 (128 * k + 147) x := Tr.node_all (P := PT1) (a := 128) (b := 147) (fun _ h => by cases h; exact Tryd.underlying147) Tr.nilAll Tr.nilAll
noncomputable def tabUnd_266 : Tr (TypeDesc) := Tr.node (some Tryd.t211.desc) Tr.nil Tr.nil
theorem tabUnd_266_all : ∀ k x, tabUnd_266.get k = some x → PT1 (128 * k + 211) x := Tr.node_all (P := PT1) (a := 128) (b := 211) (fun _ h => by cases h; exact Tryd.underlying211) Tr.nilAll Tr.nilAll
noncomputable def tabUnd_264 : Tr (TypeDesc) := Tr.node (some Tryd.t83.desc) tabUnd_265 tabUnd_266
theorem tabUnd_264_all : ∀ k x, tabUnd_264.get k = some x → PT1 (64 * k + 83) x := Tr.node_all (P := PT1) (a := 64) (b := 83) (fun _ h => by cases h; exact Tryd.underlying83) tabUnd_265_all tabUnd_266_all
noncomputable def tabUnd_268 : Tr (TypeDesc) := Tr.node (some Tryd.t178.desc) Tr.nil Tr.nil
theorem tabUnd_268_all : ∀ k x, tabUnd_268.get k = some x → PT1 (128 * k + 179) x := Tr.node_all (P := PT1) (a := 128) (b := 179) (fun _ h => by cases h; exact Tryd.underlying179) Tr.nilAll Tr.nilAll
noncomputable def tabUnd_267 : Tr (TypeDesc) := Tr.node (some Tryd.t115.desc) tabUnd_268 Tr.nil
theorem tabUnd_267_all : ∀ k x, tabUnd_267.get k = some x → PT1 (64 * k + 115) x := Tr.node_all (P := PT1) (a := 64) (b := 115) (fun _ h => by cases h; exact Tryd.underlying115) tabUnd_268_all Tr.nilAll
noncomputable def tabUnd_263 : Tr (TypeDesc) := Tr.node (some Tryd.t51.desc) tabUnd_264 tabUnd_267
theorem tabUnd_263_all : ∀ k x, tabUnd_263.get k = some x → PT1 (32 * k + 51) x := Tr.node_all (P := PT1) (a := 32) (b := 51) (fun _ h => by cases h; exact Tryd.underlying51) tabUnd_264_all tabUnd_267_all
noncomputable def tabUnd_256 : Tr (TypeDesc) := Tr.node (some Tryd.t18.desc) tabUnd_257 tabUnd_263
theorem tabUnd_256_all : ∀ k x, tabUnd_256.get k = some x → PT1 (16 * k + 19) x := Tr.node_all (P := PT1) (a := 16) (b := 19) (fun _ h => by cases h; exact Tryd.underlying19) tabUnd_257_all tabUnd_263_all
noncomputable def tabUnd_272 : Tr (TypeDesc) := Tr.node (some Tryd.t139.desc) Tr.nil Tr.nil
theorem tabUnd_272_all : ∀ k x, tabUnd_272.get k = some x → PT1 (128 * k + 139) x := Tr.node_all (P := PT1) (a := 128) (b := 139) (fun _ h => by cases h; exact Tryd.underlying139) Tr.nilAll Tr.nilAll
noncomputable def tabUnd_273 : Tr (TypeDesc) := Tr.node (some Tryd.t203.desc) Tr.nil Tr.nil
theorem tabUnd_273_all : ∀ k x, tabUnd_273.get k = some x → PT1 (128 * k + 203) x := Tr.node_all (P := PT1) (a := 128) (b := 203) (fun _ h => by cases h; exact Tryd.underlying203) Tr.nilAll Tr.nilAll
noncomputable def tabUnd_271 : Tr (TypeDesc) := Tr.node (some Tryd.t75.desc) tabUnd_272 tabUnd_273
theorem tabUnd_271_all : ∀ k x, tabUnd_271.get k = some x → PT1 (64 * k + 75) x := Tr.node_all (P := PT1) (a := 64) (b := 75) (fun _ h => by cases h; exact Tryd.underlying75) tabUnd_272_all tabUnd_273_all
noncomputable def tabUnd_275 : Tr (TypeDesc) := Tr.node (some Tryd.t171.desc) Tr.nil Tr.nil
theorem tabUnd_275_all : ∀ k x, tabUnd_275.get k = some x → PT1 (128 * k + 171) x := Tr.node_all (P := PT1) (a := 128) (b := 171) (fun _ h => by cases h; exact Tryd.underlying171) Tr.nilAll Tr.nilAll
noncomputable def tabUnd_274 : Tr (TypeDesc) := Tr.node (some Tryd.t107.desc) tabUnd_275 Tr.nil
theorem tabUnd_274_all : ∀ k x, tabUnd_274.get k = some x → PT1 (64 * k + 107) x := Tr.node_all (P := PT1) (a := 64) (b := 107) (fun _ h => by cases h; exact Tryd.underlying107) tabUnd_275_all Tr.nilAll
noncomputable def tabUnd_270 : Tr (TypeDesc) := Tr.node (some Tryd.t43.desc) tabUnd_271 tabUnd_274
theorem tabUnd_270_all : ∀ k x, tabUnd_270.get k = some x → PT1 (32 * k + 43) x := Tr.node_all (P := PT1) (a := 32) (b := 43) (fun _ h => by cases h; exact Tryd.underlying43) tabUnd_271_all tabUnd_274_all
noncomputable def tabUnd_278 : Tr (TypeDesc) := Tr.node (some Tryd.t154.desc) Tr.nil Tr.nil
theorem tabUnd_278_all : ∀ k x, tabUnd_278.get k = some x → PT1 (128 * k + 155) x := Tr.node_all (P := PT1) (a := 128) (b := 155) (fun _ h => by cases h; exact Tryd.underlying155) Tr.nilAll Tr.nilAll
noncomputable def tabUnd_279 : Tr (TypeDesc) := Tr.node (some Tryd.t21.desc) Tr.nil Tr.nil
theorem tabUnd_279_all : ∀ k x, tabUnd_279.get k = some x → PT1 (128 * k + 219) x := Tr.node_all (P := PT1) (a := 128) (b := 219) (fun _ h => by cases h; exact Tryd.underlying219) Tr.nilAll Tr.nilAll
noncomputable def tabUnd_277 : Tr (TypeDesc) := Tr.node (some Tryd.t90.desc) tabUnd_278 tabUnd_279
theorem tabUnd_277_all : ∀ k x, tabUnd_277.get k = some x → PT1 (64 * k + 91) x := Tr.node_all (P := PT1) (a := 64) (b := 91) (fun _ h => by cases h; exact Tryd.underlying91) tabUnd_278_all tabUnd_279_all
noncomputable def tabUnd_281 : Tr (TypeDesc) := Tr.node (some Tryd.t187.desc) Tr.nil Tr.nil
theorem tabUnd_281_all : ∀ k x, tabUnd_281.get k = some x → PT1 (128 * k + 187) x := Tr.node_all (P := PT1) (a := 128) (b := 187) (fun _ h => by cases h; exact Tryd.underlying187) Tr.nilAll Tr.nilAll
noncomputable def tabUnd_280 : Tr (TypeDesc) := Tr.node (some Tryd.t123.desc) tabUnd_281 Tr.nil
theorem tabUnd_280_all : ∀ k x, tabUnd_280.get k = some x → PT1 (64 * k + 123) x := Tr.node_all (P := PT1) (a := 64) (b := 123) (fun _ h => by cases h; exact Tryd.underlying123) tabUnd_281_all Tr.nilAll
noncomputable def tabUnd_276 : Tr (TypeDesc) := Tr.node (some Tryd.t59.desc) tabUnd_277 tabUnd_280
theorem tabUnd_276_all : ∀ k x, tabUnd_276.get k = some x → PT1 (32 * k + 59) x := Tr.node_all (P := PT1) (a := 32) (b := 59) (fun _ h => by cases h; exact Tryd.underlying59) tabUnd_277_all tabUnd_280_all
noncomputable def tabUnd_269 : Tr (TypeDesc) := Tr.node (some Tryd.t27.desc) tabUnd_270 tabUnd_276
theorem tabUnd_269_all : ∀ k x, tabUnd_269.get k = some x → PT1 (16 * k + 27) x := Tr.node_all (P := PT1) (a := 16) (b := 27) (fun _ h => by cases h; exact Tryd.underlying27) tabUnd_270_all tabUnd_276_all
noncomputable def tabUnd_255 : Tr (TypeDesc) := Tr.node (some Tryd.t9.desc) tabUnd_256 tabUnd_269
theorem tabUnd_255_all : ∀ k x, tabUnd_255.get k = some x → PT1 (8 * k + 11) x := Tr.node_all (P := PT1) (a := 8) (b := 11) (fun _ h => by cases h; exact Tryd.underlying11) tabUnd_256_all tabUnd_269_all
noncomputable def tabUnd_226 : Tr (TypeDesc) := Tr.node (some Tryd.t3.desc) tabUnd_227 tabUnd_255
theorem tabUnd_226_all : ∀ k x, tabUnd_226.get k = some x → PT1 (4 * k + 3) x := Tr.node_all (P := PT1) (a := 4) (b := 3) (fun _ h => by cases h; exact Tryd.underlying3) tabUnd_227_all tabUnd_255_all
noncomputable def tabUnd_287 : Tr (TypeDesc) := Tr.node (some Tryd.t128.desc) Tr.nil Tr.nil
theorem tabUnd_287_all : ∀ k x, tabUnd_287.get k = some x → PT1 (128 * k + 129) x := Tr.node_all (P := PT1) (a := 128) (b := 129) (fun _ h => by cases h; exact Tryd.underlying129) Tr.nilAll Tr.nilAll
noncomputable def tabUnd_288 : Tr (TypeDesc) := Tr.node (some Tryd.t193.desc) Tr.nil Tr.nil
theorem tabUnd_288_all : ∀ k x, tabUnd_288.get k = some x → PT1 (128 * k + 193) x := Tr.node_all (P := PT1) (a := 128) (b := 193) (fun _ h => by cases h; exact Tryd.underlying193) Tr.nilAll Tr.nilAll
noncomputable def tabUnd_286 : Tr (TypeDesc) := Tr.node (some Tryd.t65.desc) tabUnd_287 tabUnd_288
theorem tabUnd_286_all : ∀ k x, tabUnd_286.get k = some x → PT1 (64 * k + 65) x := Tr.node_all (P := PT1) (a := 64) (b := 65) (fun _ h => by cases h; exact Tryd.underlying65) tabUnd_287_all tabUnd_288_all
noncomputable def tabUnd_290 : Tr (TypeDesc) := Tr.node (some Tryd.t160.desc) Tr.nil Tr.nil
theorem tabUnd_290_all : ∀ k x, tabUnd_290.get k = some x → PT1 (128 * k + 161) x := Tr.node_all (P := PT1) (a := 128) (b := 161) (fun _ h => by cases h; exact Tryd.underlying161) Tr.nilAll Tr.nilAll
noncomputable def tabUnd_289 : Tr (TypeDesc) := Tr.node (some Tryd.t97.desc) tabUnd_290 Tr.nil
theorem tabUnd_289_all : ∀ k x, tabUnd_289.get k = some x → PT1 (64 * k + 97) x := Tr.node_all (P := PT1) (a := 64) (b := 97) (fun _ h => by cases h; exact Tryd.underlying97) tabUnd_290_all Tr.nilAll
noncomputable def tabUnd_285 : Tr (TypeDesc) := Tr.node (some Tryd.t33.desc) tabUnd_286 tabUnd_289
theorem tabUnd_285_all : ∀ k x, tabUnd_285.get k = some x → PT1 (32 * k + 33) x := Tr.node_all (P := PT1) (a := 32) (b := 33) (fun _ h => by cases h; exact Tryd.underlying33) tabUnd_286_all tabUnd_289_all
noncomputable def tabUnd_293 : Tr (TypeDesc) := Tr.node (some Tryd.t145.desc) Tr.nil Tr.nil
theorem tabUnd_293_all : ∀ k x, tabUnd_293.get k = some x → PT1 (128 * k + 145) x := Tr.node_all (P := PT1) (a := 128) (b := 145) (fun _ h => by cases h; exact Tryd.underlying145) Tr.nilAll Tr.nilAll
noncomputable def tabUnd_294 : Tr (TypeDesc) := Tr.node (some Tryd.t209.desc) Tr.nil Tr.nil
theorem tabUnd_294_all : ∀ k x, tabUnd_294.get k = some x → PT1 (128 * k + 209) x := Tr.node_all (P := PT1) (a := 128) (b := 209) (fun _ h => by cases h; exact Tryd.underlying209) Tr.nilAll Tr.nilAll
noncomputable def tabUnd_292 : Tr (TypeDesc) := Tr.node (some Tryd.t81.desc) tabUnd_293 tabUnd_294
theorem tabUnd_292_all : ∀ k x, tabUnd_292.get k = some x → PT1 (64 * k + 81) x := Tr.node_all (P := PT1) (a := 64) (b := 81) (fun _ h => by cases h; exact Tryd.underlying81) tabUnd_293_all tabUnd_294_all
noncomputable def tabUnd_296 : Tr (TypeDesc) := Tr.node (some Tryd.t177.desc) Tr.nil Tr.nil
theorem tabUnd_296_all : ∀ k x, tabUnd_296.get k = some x → PT1 (128 * k + 177) x := Tr.node_all (P := PT1) (a := 128) (b := 177) (fun _ h => by cases h; exact Tryd.underlying177) Tr.nilAll Tr.nilAll
noncomputable def tabUnd_295 : Tr (TypeDesc) := Tr.node (some Tryd.t113.desc) tabUnd_296 Tr.nil
theorem tabUnd_295_all : ∀ k x, tabUnd_295.get k = some x → PT1 (64 * k + 113) x := Tr.node_all (P := PT1) (a := 64) (b := 113) (fun _ h => by cases h; exact Tryd.underlying113) tabUnd_296_all Tr.nilAll
noncomputable def tabUnd_291 : Tr (TypeDesc) := Tr.node (some Tryd.t49.desc) tabUnd_292 tabUnd_295
theorem tabUnd_291_all : ∀ k x, tabUnd_291.get k = some x → PT1 (32 * k + 49) x := Tr.node_all (P := PT1) (a := 32) (b := 49) (fun _ h => by cases h; exact Tryd.underlying49) tabUnd_292_all tabUnd_295_all
noncomputable def tabUnd_284 : Tr (TypeDesc) := Tr.node (some Tryd.t17.desc) tabUnd_285 tabUnd_291
theorem tabUnd_284_all : ∀ k x, tabUnd_284.get k = some x → PT1 (16 * k + 17) x := Tr.node_all (P := PT1) (a := 16) (b := 17) (fun _ h => by cases h; exact Tryd.underlying17) tabUnd_285_all tabUnd_291_all
noncomputable def tabUnd_300 : Tr (TypeDesc) := Tr.node (some Tryd.t137.desc) Tr.nil Tr.nil
theorem tabUnd_300_all : ∀ k x, tabUnd_300.get k = some x → PT1 (128 * k + 137) x := Tr.node_all (P := PT1) (a := 128) (b := 137) (fun _ h => by cases h; exact Tryd.underlying137) Tr.nilAll Tr.nilAll
noncomputable def tabUnd_301 : Tr (TypeDesc) := Tr.node (some Tryd.t201.desc) Tr.nil Tr.nil
theorem tabUnd_301_all : ∀ k x, tabUnd_301.get k = some x → PT1 (128 * k + 201) x := Tr.node_all (P := PT1) (a := 128) (b := 201) (fun _ h => by cases h; exact Tryd.underlying201) Tr.nilAll Tr.nilAll
noncomputable def tabUnd_299 : Tr (TypeDesc) := Tr.node (some Tryd.t73.desc) tabUnd_300 tabUnd_301
theorem tabUnd_299_all : ∀ k x, tabUnd_299.get k = some x → PT1 (64 * k + 73) x := Tr.node_all (P := PT1) (a := 64) (b := 73) (fun _ h => by cases h; exact Tryd.underlying73) tabUnd_300_all tabUnd_301_all
noncomputable def tabUnd_303 : Tr (TypeDesc) := Tr.node (some Tryd.t169.desc) Tr.nil Tr.nil
theorem tabUnd_303_all : ∀ k x, tabUnd_303.get k = some x → PT1 (128 * k + 169) x := Tr.node_all (P := PT1) (a := 128) (b := 169) (fun _ h => by cases h; exact Tryd.underlying169) Tr.nilAll Tr.nilAll
noncomputable def tabUnd_302 : Tr (TypeDesc) := Tr.node (some Tryd.t104.desc) tabUnd_303 Tr.nil
theorem tabUnd_302_all : ∀ k x, tabUnd_302.get k = some x → PT1 (64 * k + 105) x := Tr.node_all (P := PT1) (a := 64) (b := 105) (fun _ h => by cases h; exact Tryd.underlying105) tabUnd_303_all Tr.nilAll
noncomputable def tabUnd_298 : Tr (TypeDesc) := Tr.node (some Tryd.t41.desc) tabUnd_299 tabUnd_302
theorem tabUnd_298_all : ∀ k x, tabUnd_298.get k = some x → PT1 (32 * k + 41) x := Tr.node_all (P := PT1) (a := 32) (b := 41) (fun _ h => by cases h; exact Tryd.underlying41) tabUnd_299_all tabUnd_302_all
noncomputable def tabUnd_306 : Tr (TypeDesc) := Tr.node (some Tryd.t153.desc) Tr.nil Tr.nil
theorem tabUnd_306_all : ∀ k x, tabUnd_306.get k = some x → PT1 (128 * k + 153) x := Tr.node_all (P := PT1) (a := 128) (b := 153) (fun _ h => by cases h; exact Tryd.underlying153) Tr.nilAll Tr.nilAll
noncomputable def tabUnd_307 : Tr (TypeDesc) := Tr.node (some Tryd.t217.desc) Tr.nil Tr.nil
theorem tabUnd_307_all : ∀ k x, tabUnd_307.get k = some x → PT1 (128 * k + 217) x := Tr.node_all (P := PT1) (a := 128) (b := 217) (fun _ h => by cases h; exact Tryd.underlying217) Tr.nilAll Tr.nilAll
noncomputable def tabUnd_305 : Tr (TypeDesc) := Tr.node (some Tryd.t88.desc) tabUnd_306 tabUnd_307
theorem tabUnd_305_all : ∀ k x, tabUnd_305.get k = some x → PT1 (64 * k + 89) x := Tr.node_all (P := PT1) (a := 64) (b := 89) (fun _ h => by cases h; exact Tryd.underlying89) tabUnd_306_all tabUnd_307_all
noncomputable def tabUnd_309 : Tr (TypeDesc) := Tr.node (some Tryd.t185.desc) Tr.nil Tr.nil
theorem tabUnd_309_all : ∀ k x, tabUnd_309.get k = some x → PT1 (128 * k + 185) x := Tr.node_all (P := PT1) (a := 128) (b := 185) (fun _ h => by cases h; exact Tryd.underlying185) Tr.nilAll Tr.nilAll
noncomputable def tabUnd_308 : Tr (TypeDesc) := Tr.node (some Tryd.t120.desc) tabUnd_309 Tr.nil
theorem tabUnd_308_all : ∀ k x, tabUnd_308.get k = some x → PT1 (64 * k + 121) x := Tr.node_all (P := PT1) (a := 64) (b := 121) (fun _ h => by cases h; exact Tryd.underlying121) tabUnd_309_all Tr.nilAll
noncomputable def tabUnd_304 : Tr (TypeDesc) := Tr.node (some Tryd.t57.desc) tabUnd_305 tabUnd_308
theorem tabUnd_304_all : ∀ k x, tabUnd_304.get k = some x → PT1 (32 * k + 57) x := Tr.node_all (P := PT1) (a := 32) (b := 57) (fun _ h => by cases h; exact Tryd.underlying57) tabUnd_305_all tabUnd_308_all
noncomputable def tabUnd_297 : Tr (TypeDesc) := Tr.node (some Tryd.t25.desc) tabUnd_298 tabUnd_304
theorem tabUnd_297_all : ∀ k x, tabUnd_297.get k = some x → PT1 (16 * k + 25) x := Tr.node_all (P := PT1) (a := 16) (b := 25) (fun _ h => by cases h; exact Tryd.underlying25) tabUnd_298_all tabUnd_304_all
noncomputable def tabUnd_283 : Tr (TypeDesc) := Tr.node (some Tryd.t9.desc) tabUnd_284 tabUnd_297
theorem tabUnd_283_all : ∀ k x, tabUnd_283.get k = some x → PT1 (8 * k + 9) x := Tr.node_all (P := PT1) (a := 8) (b := 9) (fun _ h => by cases h; exact Tryd.underlying9) tabUnd_284_all tabUnd_297_all
noncomputable def tabUnd_314 : Tr (TypeDesc) := Tr.node (some Tryd.t133.desc) Tr.nil Tr.nil
theorem tabUnd_314_all : ∀ k x, tabUnd_314.get k = some x → PT1 (128 * k + 133) x := Tr.node_all (P := PT1) (a := 128) (b := 133) (fun _ h => by cases h; exact Tryd.underlying133) Tr.nilAll Tr.nilAll
noncomputable def tabUnd_315 : Tr (TypeDesc) := Tr.node (some Tryd.t197.desc) Tr.nil Tr.nil
theorem tabUnd_315_all : ∀ k x, tabUnd_315.get k = some x → PT1 (128 * k + 197) x := Tr.node_all (P := PT1) (a := 128) (b := 197) (fun _ h => by cases h; exact Tryd.underlying197) Tr.nilAll Tr.nilAll
noncomputable def tabUnd_313 : Tr (TypeDesc) := Tr.node (some Tryd.t69.desc) tabUnd_314 tabUnd_315
theorem tabUnd_313_all : ∀ k x, tabUnd_313.get k = some x → PT1 (64 * k + 69) x := Tr.node_all (P := PT1) (a := 64) (b := 69) (fun _ h => by cases h; exact Tryd.underlying69) tabUnd_314_all tabUnd_315_all
noncomputable def tabUnd_317 : Tr (TypeDesc) := Tr.node (some Tryd.t165.desc) Tr.nil Tr.nil
theorem tabUnd_317_all : ∀ k x, tabUnd_317.get k = some x → PT1 (128 * k + 165) x := Tr.node_all (P := PT1) (a := 128) (b := 165) (fun _ h => by cases h; exact Tryd.underlying165) Tr.nilAll Tr.nilAll
noncomputable def tabUnd_316 : Tr (TypeDesc) := Tr.node (some Tryd.t101.desc) tabUnd_317 Tr.nil
theorem tabUnd_316_all : ∀ k x, tabUnd_316.get k = some x → PT1 (64 * k + 101) x := Tr.node_all (P := PT1) (a := 64) (b := 101) (fun _ h => by cases h; exact Tryd.underlying101) tabUnd_317_all Tr.nilAll
noncomputable def tabUnd_312 : Tr (TypeDesc) := Tr.node (some Tryd.t37.desc) tabUnd_313 tabUnd_316
theorem tabUnd_312_all : ∀ k x, tabUnd_312.get k = some x → PT1 (32 * k + 37) x := Tr.node_all (P := PT1) (a := 32) (b := 37) (fun _ h => by cases h; exact Tryd.underlying37) tabUnd_313_all tabUnd_316_all
noncomputable def tabUnd_320 : Tr (TypeDesc) := Tr.node (some Tryd.t148.desc) Tr.nil Tr.nil
theorem tabUnd_320_all : ∀ k x, tabUnd_320.get k = some x → PT1 (128 * k + 149) x := Tr.node_all (P := PT1) (a := 128) (b := 149) (fun _ h => by cases h; exact Tryd.underlying149) Tr.nilAll Tr.nilAll
noncomputable def tabUnd_321 : Tr (TypeDesc) := Tr.node (some Tryd.t212.desc) Tr.nil Tr.nil
theorem tabUnd_321_all : ∀ k x, tabUnd_321.get k = some x → PT1 (128 * k + 213) x := Tr.node_all (P := PT1) (a := 128) (b := 213) (fun _ h => by cases h; exact Tryd.underlying213) Tr.nilAll Tr.nilAll
noncomputable def tabUnd_319 : Tr (TypeDesc) := Tr.node (some Tryd.t85.desc) tabUnd_320 tabUnd_321
theorem tabUnd_319_all : ∀ k x, tabUnd_319.get k = some x → PT1 (64 * k + 85) x := Tr.node_all (P := PT1) (a := 64) (b := 85) (fun _ h => by cases h; exact Tryd.underlying85) tabUnd_320_all tabUnd_321_all
noncomputable def tabUnd_323 : Tr (TypeDesc) := Tr.node (some Tryd.t181.desc) Tr.nil Tr.nil
theorem tabUnd_323_all : ∀ k x, tabUnd_323.get k = some x → PT1 (128 * k + 181) x := Tr.node_all (P := PT1) (a := 128) (b := 181) (fun _ h => by cases h; exact Tryd.underlying181) Tr.nilAll Tr.nilAll
noncomputable def tabUnd_322 : Tr (TypeDesc) := Tr.node (some Tryd.t117.desc) tabUnd_323 Tr.nil
theorem tabUnd_322_all : ∀ k x, tabUnd_322.get k = some x → PT1 (64 * k + 117) x := Tr.node_all (P := PT1) (a := 64) (b := 117) (fun _ h => by cases h; exact Tryd.underlying117) tabUnd_323_all Tr.nilAll
noncomputable def tabUnd_318 : Tr (TypeDesc) := Tr.node (some Tryd.t53.desc) tabUnd_319 tabUnd_322
theorem tabUnd_318_all : ∀ k x, tabUnd_318.get k = some x → PT1 (32 * k + 53) x := Tr.node_all (P := PT1) (a := 32) (b := 53) (fun _ h => by cases h; exact Tryd.underlying53) tabUnd_319_all tabUnd_322_all
noncomputable def tabUnd_311 : Tr (TypeDesc) := Tr.node (some Tryd.t21.desc) tabUnd_312 tabUnd_318
theorem tabUnd_311_all : ∀ k x, tabUnd_311.get k = some x → PT1 (16 * k + 21) x := Tr.node_all (P := PT1) (a := 16) (b := 21) (fun _ h => by cases h; exact Tryd.underlying21) tabUnd_312_all tabUnd_318_all
noncomputable def tabUnd_327 : Tr (TypeDesc) := Tr.node (some Tryd.t141.desc) Tr.nil Tr.nil
theorem tabUnd_327_all : ∀ k x, tabUnd_327.get k = some x → PT1 (128 * k + 141) x := Tr.node_all (P := PT1) (a := 128) (b := 141) (fun _ h => by cases h; exact Tryd.underlying141) Tr.nilAll Tr.nilAll
noncomputable def tabUnd_328 : Tr (TypeDesc) := Tr.node (some Tryd.t205.desc) Tr.nil Tr.nil
theorem tabUnd_328_all : ∀ k x, tabUnd_328.get k = some x → PT1 (128 * k + 205) x := Tr.node_all (P := PT1) (a := 128) (b := 205) (fun _ h => by cases h; exact Tryd.underlying205) Tr.nilAll Tr.nilAll
noncomputable def tabUnd_326 : Tr (TypeDesc) := Tr.node (some Tryd.t77.desc) tabUnd_327 tabUnd_328
theorem tabUnd_326_all : ∀ k x, tabUnd_326.get k = some x → PT1 (64 * k + 77) x := Tr.node_all (P := PT1) (a := 64) (b := 77) (fun _ h => by cases h; exact Tryd.underlying77) tabUnd_327_all tabUnd_328_all
noncomputable def tabUnd_330 : Tr (TypeDesc) := Tr.node (some Tryd.t173.desc) Tr.nil Tr.nil
theorem tabUnd_330_all : ∀ k x, tabUnd_330.get k = some x → PT1 (128 * k + 173) x := Tr.node_all (P := PT1) (a := 128) (b := 173) (fun _ h => by cases h; exact Tryd.underlying173) Tr.nilAll Tr.nilAll
noncomputable def tabUnd_329 : Tr (TypeDesc) := Tr.node (some Tryd.t108.desc) tabUnd_330 Tr.nil
theorem tabUnd_329_all : ∀ k x, tabUnd_329.get k = some x → PT1 (64 * k + 109) x := Tr.node_all (P := PT1) (a := 64) (b := 109) (fun _ h => by cases h; exact Tryd.underlying109) tabUnd_330_all Tr.nilAll
noncomputable def tabUnd_325 : Tr (TypeDesc) := Tr.node (some Tryd.t45.desc) tabUnd_326 tabUnd_329
theorem tabUnd_325_all : ∀ k x, tabUnd_325.get k = some x → PT1 (32 * k + 45) x := Tr.node_all (P := PT1) (a := 32) (b := 45) (fun _ h => by cases h; exact Tryd.underlying45) tabUnd_326_all tabUnd_329_all
noncomputable def tabUnd_333 : Tr (TypeDesc) := Tr.node (some Tryd.t148.desc) Tr.nil Tr.nil
theorem tabUnd_333_all : ∀ k x, tabUnd_333.get k = some x → PT1 (128 * k + 157) x := Tr.node_all (P := PT1) (a := 128) (b := 157) (fun _ h => by cases h; exact Tryd.underlying157) Tr.nilAll Tr.nilAll
noncomputable def tabUnd_334 : Tr (TypeDesc) := Tr.node (some Tryd.t221.desc) Tr.nil Tr.nil
theorem tabUnd_334_all : ∀ k x, tabUnd_334.get k = some x → PT1 (128 * k + 221) x := Tr.node_all (P := PT1) (a := 128) (b := 221) (fun _ h => by cases h; exact Tryd.underlying221) Tr.nilAll Tr.nilAll
noncomputable def tabUnd_332 : Tr (TypeDesc) := Tr.node (some Tryd.t93.desc) tabUnd_333 tabUnd_334
theorem tabUnd_332_all : ∀ k x, tabUnd_332.get k = some x → PT1 (64 * k + 93) x := Tr.node_all (P := PT1) (a := 64) (b := 93) (fun _ h => by cases h; exact Tryd.underlying93) tabUnd_333_all tabUnd_334_all
noncomputable def tabUnd_336 : Tr (TypeDesc) := Tr.node (some Tryd.t188.desc) Tr.nil Tr.nil
theorem tabUnd_336_all : ∀ k x, tabUnd_336.get k = some x → PT1 (128 * k + 189) x := Tr.node_all (P := PT1) (a := 128) (b := 189) (fun _ h => by cases h; exact Tryd.underlying189) Tr.nilAll Tr.nilAll
noncomputable def tabUnd_335 : Tr (TypeDesc) := Tr.node (some Tryd.t125.desc) tabUnd_336 Tr.nil
theorem tabUnd_335_all : ∀ k x, tabUnd_335.get k = some x → PT1 (64 * k + 125) x := Tr.node_all (P := PT1) (a := 64) (b := 125) (fun _ h => by cases h; exact Tryd.underlying125) tabUnd_336_all Tr.nilAll
noncomputable def tabUnd_331 : Tr (TypeDesc) := Tr.node (some Tryd.t61.desc) tabUnd_332 tabUnd_335
theorem tabUnd_331_all : ∀ k x, tabUnd_331.get k = some x → PT1 (32 * k + 61) x := Tr.node_all (P := PT1) (a := 32) (b := 61) (fun _ h => by cases h; exact Tryd.underlying61) tabUnd_332_all tabUnd_335_all
noncomputable def tabUnd_324 : Tr (TypeDesc) := Tr.node (some Tryd.t29.desc) tabUnd_325 tabUnd_331
theorem tabUnd_324_all : ∀ k x, tabUnd_324.get k = some x → PT1 (16 * k + 29) x := Tr.node_all (P := PT1) (a := 16) (b := 29) (fun _ h => by cases h; exact Tryd.underlying29) tabUnd_325_all tabUnd_331_all
noncomputable def tabUnd_310 : Tr (TypeDesc) := Tr.node (some Tryd.t13.desc) tabUnd_311 tabUnd_324
theorem tabUnd_310_all : ∀ k x, tabUnd_310.get k = some x → PT1 (8 * k + 13) x := Tr.node_all (P := PT1) (a := 8) (b := 13) (fun _ h => by cases h; exact Tryd.underlying13) tabUnd_311_all tabUnd_324_all
noncomputable def tabUnd_282 : Tr (TypeDesc) := Tr.node (some Tryd.t5.desc) tabUnd_283 tabUnd_310
theorem tabUnd_282_all : ∀ k x, tabUnd_282.get k = some x → PT1 (4 * k + 5) x := Tr.node_all (P := PT1) (a := 4) (b := 5) (fun _ h => by cases h; exact Tryd.underlying5) tabUnd_283_all tabUnd_310_all
noncomputable def tabUnd_225 : Tr (TypeDesc) := Tr.node (some Tryd.t1.desc) tabUnd_226 tabUnd_282
theorem tabUnd_225_all : ∀ k x, tabUnd_225.get k = some x → PT1 (2 * k + 1) x := Tr.node_all (P := PT1) (a := 2) (b := 1) (fun _ h => by cases h; exact Tryd.underlying1) tabUnd_226_all tabUnd_282_all
noncomputable def tabUnd_343 : Tr (TypeDesc) := Tr.node (some Tryd.t128.desc) Tr.nil Tr.nil
theorem tabUnd_343_all : ∀ k x, tabUnd_343.get k = some x → PT1 (128 * k + 128) x := Tr.node_all (P := PT1) (a := 128) (b := 128) (fun _ h => by cases h; exact Tryd.underlying128) Tr.nilAll Tr.nilAll
noncomputable def tabUnd_344 : Tr (TypeDesc) := Tr.node (some Tryd.t191.desc) Tr.nil Tr.nil
theorem tabUnd_344_all : ∀ k x, tabUnd_344.get k = some x → PT1 (128 * k + 192) x := Tr.node_all (P := PT1) (a := 128) (b := 192) (fun _ h => by cases h; exact Tryd.underlying192) Tr.nilAll Tr.nilAll
noncomputable def tabUnd_342 : Tr (TypeDesc) := Tr.node (some Tryd.t64.desc) tabUnd_343 tabUnd_344
theorem tabUnd_342_all : ∀ k x, tabUnd_342.get k = some x → PT1 (64 * k + 64) x := Tr.node_all (P := PT1) (a := 64) (b := 64) (fun _ h => by cases h; exact Tryd.underlying64) tabUnd_343_all tabUnd_344_all
noncomputable def tabUnd_346 : Tr (TypeDesc) := Tr.node (some Tryd.t160.desc) Tr.nil Tr.nil
theorem tabUnd_346_all : ∀ k x, tabUnd_346.get k = some x → PT1 (128 * k + 160) x := Tr.node_all (P := PT1) (a := 128) (b := 160) (fun _ h => by cases h; exact Tryd.underlying160) Tr.nilAll Tr.nilAll
noncomputable def tabUnd_345 : Tr (TypeDesc) := Tr.node (some Tryd.t96.desc) tabUnd_346 Tr.nil
theorem tabUnd_345_all : ∀ k x, tabUnd_345.get k = some x → PT1 (64 * k + 96) x := Tr.node_all (P := PT1) (a := 64) (b := 96) (fun _ h => by cases h; exact Tryd.underlying96) tabUnd_346_all Tr.nilAll
noncomputable def tabUnd_341 : Tr (TypeDesc) := Tr.node (some Tryd.t32.desc) tabUnd_342 tabUnd_345
theorem tabUnd_341_all : ∀ k x, tabUnd_341.get k = some x → PT1 (32 * k + 32) x := Tr.node_all (P := PT1) (a := 32) (b := 32) (fun _ h => by cases h; exact Tryd.underlying32) tabUnd_342_all tabUnd_345_all
noncomputable def tabUnd_349 : Tr (TypeDesc) := Tr.node (some Tryd.t144.desc) Tr.nil Tr.nil
theorem tabUnd_349_all : ∀ k x, tabUnd_349.get k = some x → PT1 (128 * k + 144) x := Tr.node_all (P := PT1) (a := 128) (b := 144) (fun _ h => by cases h; exact Tryd.underlying144) Tr.nilAll Tr.nilAll
noncomputable def tabUnd_350 : Tr (TypeDesc) := Tr.node (some Tryd.t208.desc) Tr.nil Tr.nil
theorem tabUnd_350_all : ∀ k x, tabUnd_350.get k = some x → PT1 (128 * k + 208) x := Tr.node_all (P := PT1) (a := 128) (b := 208) (fun _ h => by cases h; exact Tryd.underlying208) Tr.nilAll Tr.nilAll
noncomputable def tabUnd_348 : Tr (TypeDesc) := Tr.node (some Tryd.t80.desc) tabUnd_349 tabUnd_350
theorem tabUnd_348_all : ∀ k x, tabUnd_348.get k = some x → PT1 (64 * k + 80) x := Tr.node_all (P := PT1) (a := 64) (b := 80) (fun _ h => by cases h; exact Tryd.underlying80) tabUnd_349_all tabUnd_350_all
noncomputable def tabUnd_352 : Tr (TypeDesc) := Tr.node (some Tryd.t176.desc) Tr.nil Tr.nil
theorem tabUnd_352_all : ∀ k x, tabUnd_352.get k = some x → PT1 (128 * k + 176) x := Tr.node_all (P := PT1) (a := 128) (b := 176) (fun _ h => by cases h; exact Tryd.underlying176) Tr.nilAll Tr.nilAll
noncomputable def tabUnd_351 : Tr (TypeDesc) := Tr.node (some Tryd.t112.desc) tabUnd_352 Tr.nil
theorem tabUnd_351_all : ∀ k x, tabUnd_351.get k = some x → PT1 (64 * k + 112) x := Tr.node_all (P := PT1) (a := 64) (b := 112) (fun _ h => by cases h; exact Tryd.underlying112) tabUnd_352_all Tr.nilAll
noncomputable def tabUnd_347 : Tr (TypeDesc) := Tr.node (some Tryd.t48.desc) tabUnd_348 tabUnd_351
theorem tabUnd_347_all : ∀ k x, tabUnd_347.get k = some x → PT1 (32 * k + 48) x := Tr.node_all (P := PT1) (a := 32) (b := 48) (fun _ h => by cases h; exact Tryd.underlying48) tabUnd_348_all tabUnd_351_all
noncomputable def tabUnd_340 : Tr (TypeDesc) := Tr.node (some Tryd.t16.desc) tabUnd_341 tabUnd_347
theorem tabUnd_340_all : ∀ k x, tabUnd_340.get k = some x → PT1 (16 * k + 16) x := Tr.node_all (P := PT1) (a := 16) (b := 16) (fun _ h => by cases h; exact Tryd.underlying16) tabUnd_341_all tabUnd_347_all
noncomputable def tabUnd_356 : Tr (TypeDesc) := Tr.node (some Tryd.t136.desc) Tr.nil Tr.nil
theorem tabUnd_356_all : ∀ k x, tabUnd_356.get k = some x → PT1 (128 * k + 136) x := Tr.node_all (P := PT1) (a := 128) (b := 136) (fun _ h => by cases h; exact Tryd.underlying136) Tr.nilAll Tr.nilAll
noncomputable def tabUnd_357 : Tr (TypeDesc) := Tr.node (some Tryd.t200.desc) Tr.nil Tr.nil
theorem tabUnd_357_all : ∀ k x, tabUnd_357.get k = some x → PT1 (128 * k + 200) x := Tr.node_all (P := PT1) (a := 128) (b := 200) (fun _ h => by cases h; exact Tryd.underlying200) Tr.nilAll Tr.nilAll
noncomputable def tabUnd_355 : Tr (TypeDesc) := Tr.node (some Tryd.t70.desc) tabUnd_356 tabUnd_357
theorem tabUnd_355_all : ∀ k x, tabUnd_355.get k = some x → PT1 (64 * k + 72) x := Tr.node_all (P := PT1) (a := 64) (b := 72) (fun _ h => by cases h; exact Tryd.underlying72) tabUnd_356_all tabUnd_357_all
noncomputable def tabUnd_359 : Tr (TypeDesc) := Tr.node (some Tryd.t167.desc) Tr.nil Tr.nil
theorem tabUnd_359_all : ∀ k x, tabUnd_359.get k = some x → PT1 (128 * k + 168) x := Tr.node_all (P := PT1) (a := 128) (b := 168) (fun _ h => by cases h; exact Tryd.underlying168) Tr.nilAll Tr.nilAll
noncomputable def tabUnd_358 : Tr (TypeDesc) := Tr.node (some Tryd.t104.desc) tabUnd_359 Tr.nil
theorem tabUnd_358_all : ∀ k x, tabUnd_358.get k = some x → PT1 (64 * k + 104) x := Tr.node_all (P := PT1) (a := 64) (b := 104) (fun _ h => by cases h; exact Tryd.underlying104) tabUnd_359_all Tr.nilAll
noncomputable def tabUnd_354 : Tr (TypeDesc) := Tr.node (some Tryd.t40.desc) tabUnd_355 tabUnd_358
theorem tabUnd_354_all : ∀ k x, tabUnd_354.get k = some x → PT1 (32 * k + 40) x := Tr.node_all (P := PT1) (a := 32) (b := 40) (fun _ h => by cases h; exact Tryd.underlying40) tabUnd_355_all tabUnd_358_all
noncomputable def tabUnd_362 : Tr (TypeDesc) := Tr.node (some Tryd.t152.desc) Tr.nil Tr.nil
theorem tabUnd_362_all : ∀ k x, tabUnd_362.get k = some x → PT1 (128 * k + 152) x := Tr.node_all (P := PT1) (a := 128) (b := 152) (fun _ h => by cases h; exact Tryd.underlying152) Tr.nilAll Tr.nilAll
noncomputable def tabUnd_363 : Tr (TypeDesc) := Tr.node (some Tryd.t5.desc) Tr.nil Tr.nil
theorem tabUnd_363_all : ∀ k x, tabUnd_363.get k = some x → PT1 (128 * k + 216) x := Tr.node_all (P := PT1) (a := 128) (b := 216) (fun _ h => by cases h; exact Tryd.underlying216) Tr.nilAll Tr.nilAll
noncomputable def tabUnd_361 : Tr (TypeDesc) := Tr.node (some Tryd.t88.desc) tabUnd_362 tabUnd_363
theorem tabUnd_361_all : ∀ k x, tabUnd_361.get k = some x → PT1 (64 * k + 88) x := Tr.node_all (P := PT1) (a := 64) (b := 88) (fun _ h => by cases h; exact Tryd.underlying88) tabUnd_362_all tabUnd_363_all
noncomputable def tabUnd_365 : Tr (TypeDesc) := Tr.node (some Tryd.t184.desc) Tr.nil Tr.nil
theorem tabUnd_365_all : ∀ k x, tabUnd_365.get k = some x → PT1 (128 * k + 184) x := Tr.node_all (P := PT1) (a := 128) (b := 184) (fun _ h => by cases h; exact Tryd.underlying184) Tr.nilAll Tr.nilAll
noncomputable def tabUnd_364 : Tr (TypeDesc) := Tr.node (some Tryd.t120.desc) tabUnd_365 Tr.nil
theorem tabUnd_364_all : ∀ k x, tabUnd_364.get k = some x → PT1 (64 * k + 120) x := Tr.node_all (P := PT1) (a := 64) (b := 120) (fun _ h => by cases h; exact Tryd.underlying120) tabUnd_365_all Tr.nilAll
noncomputable def tabUnd_360 : Tr (TypeDesc) := Tr.node (some Tryd.t56.desc) tabUnd_361 tabUnd_364
theorem tabUnd_360_all : ∀ k x, tabUnd_360.get k = some x → PT1 (32 * k + 56) x := Tr.node_all (P := PT1) (a := 32) (b := 56) (fun _ h => by cases h; exact Tryd.underlying56) tabUnd_361_all tabUnd_364_all
noncomputable def tabUnd_353 : Tr (TypeDesc) := Tr.node (some Tryd.t23.desc) tabUnd_354 tabUnd_360
theorem tabUnd_353_all : ∀ k x, tabUnd_353.get k = some x → PT1 (16 * k + 24) x := Tr.node_all (P := PT1) (a := 16) (b := 24) (fun _ h => by cases h; exact Tryd.underlying24) tabUnd_354_all tabUnd_360_all
noncomputable def tabUnd_339 : Tr (TypeDesc) := Tr.node (some Tryd.t7.desc) tabUnd_340 tabUnd_353
theorem tabUnd_339_all : ∀ k x, tabUnd_339.get k = some x → PT1 (8 * k + 8) x := Tr.node_all (P := PT1) (a := 8) (b := 8) (fun _ h => by cases h; exact Tryd.underlying8) tabUnd_340_all tabUnd_353_all
noncomputable def tabUnd_370 : Tr (TypeDesc) := Tr.node (some Tryd.t132.desc) Tr.nil Tr.nil
theorem tabUnd_370_all : ∀ k x, tabUnd_370.get k = some x → PT1 (128 * k + 132) x := Tr.node_all (P := PT1) (a := 128) (b := 132) (fun _ h => by cases h; exact Tryd.underlying132) Tr.nilAll Tr.nilAll
noncomputable def tabUnd_371 : Tr (TypeDesc) := Tr.node (some Tryd.t196.desc) Tr.nil Tr.nil
theorem tabUnd_371_all : ∀ k x, tabUnd_371.get k = some x → PT1 (128 * k + 196) x := Tr.node_all (P := PT1) (a := 128) (b := 196) (fun _ h => by cases h; exact Tryd.underlying196) Tr.nilAll Tr.nilAll
noncomputable def tabUnd_369 : Tr (TypeDesc) := Tr.node (some Tryd.t68.desc) tabUnd_370 tabUnd_371
theorem tabUnd_369_all : ∀ k x, tabUnd_369.get k = some x → PT1 (64 * k + 68) x := Tr.node_all (P := PT1) (a := 64) (b := 68) (fun _ h => by cases h; exact Tryd.underlying68) tabUnd_370_all tabUnd_371_all
noncomputable def tabUnd_373 : Tr (TypeDesc) := Tr.node (some Tryd.t164.desc) Tr.nil Tr.nil
theorem tabUnd_373_all : ∀ k x, tabUnd_373.get k = some x → PT1 (128 * k + 164) x := Tr.node_all (P := PT1) (a := 128) (b := 164) (fun _ h => by cases h; exact Tryd.underlying164) Tr.nilAll Tr.nilAll
noncomputable def tabUnd_372 : Tr (TypeDesc) := Tr.node (some Tryd.t100.desc) tabUnd_373 Tr.nil
theorem tabUnd_372_all : ∀ k x, tabUnd_372.get k = some x → PT1 (64 * k + 100) x := Tr.node_all (P := PT1) (a := 64) (b := 100) (fun _ h => by cases h; exact Tryd.underlying100) tabUnd_373_all Tr.nilAll
noncomputable def tabUnd_368 : Tr (TypeDesc) := Tr.node (some Tryd.t36.desc) tabUnd_369 tabUnd_372
theorem tabUnd_368_all : ∀ k x, tabUnd_368.get k = some x → PT1 (32 * k + 36) x := Tr.node_all (P := PT1) (a := 32) (b := 36) (fun _ h => by cases h; exact Tryd.underlying36) tabUnd_369_all tabUnd_372_all
noncomputable def tabUnd_376 : Tr (TypeDesc) := Tr.node (some Tryd.t148.desc) Tr.nil Tr.nil
theorem tabUnd_376_all : ∀ k x, tabUnd_376.get k = some x → PT1 (128 * k + 148) x := Tr.node_all (P := PT1) (a := 128) (b := 148) (fun _ h => by cases h; exact Tryd.underlying148) Tr.nilAll Tr.nilAll
noncomputable def tabUnd_377 : Tr (TypeDesc) := Tr.node (some Tryd.t212.desc) Tr.nil Tr.nil
theorem tabUnd_377_all : ∀ k x, tabUnd_377.get k = some x → PT1 (128 * k + 212) x := Tr.node_all (P := PT1) (a := 128) (b := 212) (fun _ h => by cases h; exact Tryd.underlying212) Tr.nilAll Tr.nilAll
noncomputable def tabUnd_375 : Tr (TypeDesc) := Tr.node (some Tryd.t84.desc) tabUnd_376 tabUnd_377
theorem tabUnd_375_all : ∀ k x, tabUnd_375.get k = some x → PT1 (64 * k + 84) x := Tr.node_all (P := PT1) (a := 64) (b := 84) (fun _ h => by cases h; exact Tryd.underlying84) tabUnd_376_all tabUnd_377_all
noncomputable def tabUnd_379 : Tr (TypeDesc) := Tr.node (some Tryd.t180.desc) Tr.nil Tr.nil
theorem tabUnd_379_all : ∀ k x, tabUnd_379.get k = some x → PT1 (128 * k + 180) x := Tr.node_all (P := PT1) (a := 128) (b := 180) (fun _ h => by cases h; exact Tryd.underlying180) Tr.nilAll Tr.nilAll
noncomputable def tabUnd_378 : Tr (TypeDesc) := Tr.node (some Tryd.t116.desc) tabUnd_379 Tr.nil
theorem tabUnd_378_all : ∀ k x, tabUnd_378.get k = some x → PT1 (64 * k + 116) x := Tr.node_all (P := PT1) (a := 64) (b := 116) (fun _ h => by cases h; exact Tryd.underlying116) tabUnd_379_all Tr.nilAll
noncomputable def tabUnd_374 : Tr (TypeDesc) := Tr.node (some Tryd.t52.desc) tabUnd_375 tabUnd_378
theorem tabUnd_374_all : ∀ k x, tabUnd_374.get k = some x → PT1 (32 * k + 52) x := Tr.node_all (P := PT1) (a := 32) (b := 52) (fun _ h => by cases h; exact Tryd.underlying52) tabUnd_375_all tabUnd_378_all
noncomputable def tabUnd_367 : Tr (TypeDesc) := Tr.node (some Tryd.t20.desc) tabUnd_368 tabUnd_374
theorem tabUnd_367_all : ∀ k x, tabUnd_367.get k = some x → PT1 (16 * k + 20) x := Tr.node_all (P := PT1) (a := 16) (b := 20) (fun _ h => by cases h; exact Tryd.underlying20) tabUnd_368_all tabUnd_374_all
noncomputable def tabUnd_383 : Tr (TypeDesc) := Tr.node (some Tryd.t139.desc) Tr.nil Tr.nil
theorem tabUnd_383_all : ∀ k x, tabUnd_383.get k = some x → PT1 (128 * k + 140) x := Tr.node_all (P := PT1) (a := 128) (b := 140) (fun _ h => by cases h; exact Tryd.underlying140) Tr.nilAll Tr.nilAll
noncomputable def tabUnd_384 : Tr (TypeDesc) := Tr.node (some Tryd.t204.desc) Tr.nil Tr.nil
theorem tabUnd_384_all : ∀ k x, tabUnd_384.get k = some x → PT1 (128 * k + 204) x := Tr.node_all (P := PT1) (a := 128) (b := 204) (fun _ h => by cases h; exact Tryd.underlying204) Tr.nilAll Tr.nilAll
noncomputable def tabUnd_382 : Tr (TypeDesc) := Tr.node (some Tryd.t76.desc) tabUnd_383 tabUnd_384
theorem tabUnd_382_all : ∀ k x, tabUnd_382.get k = some x → PT1 (64 * k + 76) x := Tr.node_all (P := PT1) (a := 64) (b := 76) (fun _ h => by cases h; exact Tryd.underlying76) tabUnd_383_all tabUnd_384_all
noncomputable def tabUnd_386 : Tr (TypeDesc) := Tr.node (some Tryd.t172.desc) Tr.nil Tr.nil
theorem tabUnd_386_all : ∀ k x, tabUnd_386.get k = some x → PT1 (128 * k + 172) x := Tr.node_all (P := PT1) (a := 128) (b := 172) (fun _ h => by cases h; exact Tryd.underlying172) Tr.nilAll Tr.nilAll
noncomputable def tabUnd_385 : Tr (TypeDesc) := Tr.node (some Tryd.t108.desc) tabUnd_386 Tr.nil
theorem tabUnd_385_all : ∀ k x, tabUnd_385.get k = some x → PT1 (64 * k + 108) x := Tr.node_all (P := PT1) (a := 64) (b := 108) (fun _ h => by cases h; exact Tryd.underlying108) tabUnd_386_all Tr.nilAll
noncomputable def tabUnd_381 : Tr (TypeDesc) := Tr.node (some Tryd.t44.desc) tabUnd_382 tabUnd_385
theorem tabUnd_381_all : ∀ k x, tabUnd_381.get k = some x → PT1 (32 * k + 44) x := Tr.node_all (P := PT1) (a := 32) (b := 44) (fun _ h => by cases h; exact Tryd.underlying44) tabUnd_382_all tabUnd_385_all
noncomputable def tabUnd_389 : Tr (TypeDesc) := Tr.node (some Tryd.t156.desc) Tr.nil Tr.nil
theorem tabUnd_389_all : ∀ k x, tabUnd_389.get k = some x → PT1 (128 * k + 156) x := Tr.node_all (P := PT1) (a := 128) (b := 156) (fun _ h => by cases h; exact Tryd.underlying156) Tr.nilAll Tr.nilAll
noncomputable def tabUnd_390 : Tr (TypeDesc) := Tr.node (some Tryd.t21.desc) Tr.nil Tr.nil
theorem tabUnd_390_all : ∀ k x, tabUnd_390.get k = some x → PT1 (128 * k + 220) x := Tr.node_all (P := PT1) (a := 128) (b := 220) (fun _ h => by cases h; exact Tryd.underlying220) Tr.nilAll Tr.nilAll
noncomputable def tabUnd_388 : Tr (TypeDesc) := Tr.node (some Tryd.t92.desc) tabUnd_389 tabUnd_390
theorem tabUnd_388_all : ∀ k x, tabUnd_388.get k = some x → PT1 (64 * k + 92) x := Tr.node_all (P := PT1) (a := 64) (b := 92) (fun _ h => by cases h; exact Tryd.underlying92) tabUnd_389_all tabUnd_390_all
noncomputable def tabUnd_392 : Tr (TypeDesc) := Tr.node (some Tryd.t188.desc) Tr.nil Tr.nil
theorem tabUnd_392_all : ∀ k x, tabUnd_392.get k = some x → PT1 (128 * k + 188) x := Tr.node_all (P := PT1) (a := 128) (b := 188) (fun _ h => by cases h; exact Tryd.underlying188) Tr.nilAll Tr.nilAll
noncomputable def tabUnd_391 : Tr (TypeDesc) := Tr.node (some Tryd.t124.desc) tabUnd_392 Tr.nil
theorem tabUnd_391_all : ∀ k x, tabUnd_391.get k = some x → PT1 (64 * k + 124) x := Tr.node_all (P := PT1) (a := 64) (b := 124) (fun _ h => by cases h; exact Tryd.underlying124) tabUnd_392_all Tr.nilAll
noncomputable def tabUnd_387 : Tr (TypeDesc) := Tr.node (some Tryd.t60.desc) tabUnd_388 tabUnd_391
theorem tabUnd_387_all : ∀ k x, tabUnd_387.get k = some x → PT1 (32 * k + 60) x := Tr.node_all (P := PT1) (a := 32) (b := 60) (fun _ h => by cases h; exact Tryd.underlying60) tabUnd_388_all tabUnd_391_all
noncomputable def tabUnd_380 : Tr (TypeDesc) := Tr.node (some Tryd.t27.desc) tabUnd_381 tabUnd_387
theorem tabUnd_380_all : ∀ k x, tabUnd_380.get k = some x → PT1 (16 * k + 28) x := Tr.node_all (P := PT1) (a := 16) (b := 28) (fun _ h => by cases h; exact Tryd.underlying28) tabUnd_381_all tabUnd_387_all
noncomputable def tabUnd_366 : Tr (TypeDesc) := Tr.node (some Tryd.t12.desc) tabUnd_367 tabUnd_380
theorem tabUnd_366_all : ∀ k x, tabUnd_366.get k = some x → PT1 (8 * k + 12) x := Tr.node_all (P := PT1) (a := 8) (b := 12) (fun _ h => by cases h; exact Tryd.underlying12) tabUnd_367_all tabUnd_380_all
noncomputable def tabUnd_338 : Tr (TypeDesc) := Tr.node (some Tryd.t4.desc) tabUnd_339 tabUnd_366
theorem tabUnd_338_all : ∀ k x, tabUnd_338.get k = some x → PT1 (4 * k + 4) x := Tr.node_all (P := PT1) (a := 4) (b := 4) (fun _ h => by cases h; exact Tryd.underlying4) tabUnd_339_all tabUnd_366_all
noncomputable def tabUnd_398 : Tr (TypeDesc) := Tr.node (some Tryd.t130.desc) Tr.nil Tr.nil
theorem tabUnd_398_all : ∀ k x, tabUnd_398.get k = some x → PT1 (128 * k + 130) x := Tr.node_all (P := PT1) (a := 128) (b := 130) (fun _ h => by cases h; exact Tryd.underlying130) Tr.nilAll Tr.nilAll
noncomputable def tabUnd_399 : Tr (TypeDesc) := Tr.node (some Tryd.t194.desc) Tr.nil Tr.nil
theorem tabUnd_399_all : ∀ k x, tabUnd_399.get k = some x → PT1 (128 * k + 194) x := Tr.node_all (P := PT1) (a := 128) (b := 194) (fun _ h => by cases h; exact Tryd.underlying194) Tr.nilAll Tr.nilAll
noncomputable def tabUnd_397 : Tr (TypeDesc) := Tr.node (some Tryd.t66.desc) tabUnd_398 tabUnd_399
theorem tabUnd_397_all : ∀ k x, tabUnd_397.get k = some x → PT1 (64 * k + 66) x := Tr.node_all (P := PT1) (a := 64) (b := 66) (fun _ h => by cases h; exact Tryd.underlying66) tabUnd_398_all tabUnd_399_all
noncomputable def tabUnd_401 : Tr (TypeDesc) := Tr.node (some Tryd.t162.desc) Tr.nil Tr.nil
theorem tabUnd_401_all : ∀ k x, tabUnd_401.get k = some x → PT1 (128 * k + 162) x := Tr.node_all (P := PT1) (a := 128) (b := 162) (fun _ h => by cases h; exact Tryd.underlying162) Tr.nilAll Tr.nilAll
noncomputable def tabUnd_400 : Tr (TypeDesc) := Tr.node (some Tryd.t98.desc) tabUnd_401 Tr.nil
theorem tabUnd_400_all : ∀ k x, tabUnd_400.get k = some x → PT1 (64 * k + 98) x := Tr.node_all (P := PT1) (a := 64) (b := 98) (fun _ h => by cases h; exact Tryd.underlying98) tabUnd_401_all Tr.nilAll
noncomputable def tabUnd_396 : Tr (TypeDesc) := Tr.node (some Tryd.t34.desc) tabUnd_397 tabUnd_400
theorem tabUnd_396_all : ∀ k x, tabUnd_396.get k = some x → PT1 (32 * k + 34) x := Tr.node_all (P := PT1) (a := 32) (b := 34) (fun _ h => by cases h; exact Tryd.underlying34) tabUnd_397_all tabUnd_400_all
noncomputable def tabUnd_404 : Tr (TypeDesc) := Tr.node (some Tryd.t145.desc) Tr.nil Tr.nil
theorem tabUnd_404_all : ∀ k x, tabUnd_404.get k = some x → PT1 (128 * k + 146) x := Tr.node_all (P := PT1) (a := 128) (b := 146) (fun _ h => by cases h; exact Tryd.underlying146) Tr.nilAll Tr.nilAll
noncomputable def tabUnd_405 : Tr (TypeDesc) := Tr.node (some Tryd.t209.desc) Tr.nil Tr.nil
theorem tabUnd_405_all : ∀ k x, tabUnd_405.get k = some x → PT1 (128 * k + 210) x := Tr.node_all (P := PT1) (a := 128) (b := 210) (fun _ h => by cases h; exact Tryd.underlying210) Tr.nilAll Tr.nilAll
noncomputable def tabUnd_403 : Tr (TypeDesc) := Tr.node (some Tryd.t82.desc) tabUnd_404 tabUnd_405
theorem tabUnd_403_all : ∀ k x, tabUnd_403.get k = some x → PT1 (64 * k + 82) x := Tr.node_all (P := PT1) (a := 64) (b := 82) (fun _ h => by cases h; exact Tryd.underlying82) tabUnd_404_all tabUnd_405_all
noncomputable def tabUnd_407 : Tr (TypeDesc) := Tr.node (some Tryd.t178.desc) Tr.nil Tr.nil
theorem tabUnd_407_all : ∀ k x, tabUnd_407.get k = some x → PT1 (128 * k + 178) x := Tr.node_all (P := PT1) (a := 128) (b := 178) (fun _ h => by cases h; exact Tryd.underlying178) Tr.nilAll Tr.nilAll
noncomputable def tabUnd_406 : Tr (TypeDesc) := Tr.node (some Tryd.t114.desc) tabUnd_407 Tr.nil
theorem tabUnd_406_all : ∀ k x, tabUnd_406.get k = some x → PT1 (64 * k + 114) x := Tr.node_all (P := PT1) (a := 64) (b := 114) (fun _ h => by cases h; exact Tryd.underlying114) tabUnd_407_all Tr.nilAll
noncomputable def tabUnd_402 : Tr (TypeDesc) := Tr.node (some Tryd.t49.desc) tabUnd_403 tabUnd_406
theorem tabUnd_402_all : ∀ k x, tabUnd_402.get k = some x → PT1 (32 * k + 50) x := Tr.node_all (P := PT1) (a := 32) (b := 50) (fun _ h => by cases h; exact Tryd.underlying50) tabUnd_403_all tabUnd_406_all
noncomputable def tabUnd_395 : Tr (TypeDesc) := Tr.node (some Tryd.t18.desc) tabUnd_396 tabUnd_402
theorem tabUnd_395_all : ∀ k x, tabUnd_395.get k = some x → PT1 (16 * k + 18) x := Tr.node_all (P := PT1) (a := 16) (b := 18) (fun _ h => by cases h; exact Tryd.underlying18) tabUnd_396_all tabUnd_402_all
noncomputable def tabUnd_411 : Tr (TypeDesc) := Tr.node (some Tryd.t138.desc) Tr.nil Tr.nil
theorem tabUnd_411_all : ∀ k x, tabUnd_411.get k = some x → PT1 (128 * k + 138) x := Tr.node_all (P := PT1) (a := 128) (b := 138) (fun _ h => by cases h; exact Tryd.underlying138) Tr.nilAll Tr.nilAll
noncomputable def tabUnd_412 : Tr (TypeDesc) := Tr.node (some Tryd.t202.desc) Tr.nil Tr.nil
theorem tabUnd_412_all : ∀ k x, tabUnd_412.get k = some x → PT1 (128 * k + 202) x := Tr.node_all (P := PT1) (a := 128) (b := 202) (fun _ h => by cases h; exact Tryd.underlying202) Tr.nilAll Tr.nilAll
noncomputable def tabUnd_410 : Tr (TypeDesc) := Tr.node (some Tryd.t74.desc) tabUnd_411 tabUnd_412
theorem tabUnd_410_all : ∀ k x, tabUnd_410.get k = some x → PT1 (64 * k + 74) x := Tr.node_all (P := PT1) (a := 64) (b := 74) (fun _ h => by cases h; exact Tryd.underlying74) tabUnd_411_all tabUnd_412_all
noncomputable def tabUnd_414 : Tr (TypeDesc) := Tr.node (some Tryd.t170.desc) Tr.nil Tr.nil
theorem tabUnd_414_all : ∀ k x, tabUnd_414.get k = some x → PT1 (128 * k + 170) x := Tr.node_all (P := PT1) (a := 128) (b := 170) (fun _ h => by cases h; exact Tryd.underlying170) Tr.nilAll Tr.nilAll
noncomputable def tabUnd_413 : Tr (TypeDesc) := Tr.node (some Tryd.t106.desc) tabUnd_414 Tr.nil
theorem tabUnd_413_all : ∀ k x, tabUnd_413.get k = some x → PT1 (64 * k + 106) x := Tr.node_all (P := PT1) (a := 64) (b := 106) (fun _ h => by cases h; exact Tryd.underlying106) tabUnd_414_all Tr.nilAll
noncomputable def tabUnd_409 : Tr (TypeDesc) := Tr.node (some Tryd.t42.desc) tabUnd_410 tabUnd_413
theorem tabUnd_409_all : ∀ k x, tabUnd_409.get k = some x → PT1 (32 * k + 42) x := Tr.node_all (P := PT1) (a := 32) (b := 42) (fun _ h => by cases h; exact Tryd.underlying42) tabUnd_410_all tabUnd_413_all
noncomputable def tabUnd_417 : Tr (TypeDesc) := Tr.node (some Tryd.t154.desc) Tr.nil Tr.nil
theorem tabUnd_417_all : ∀ k x, tabUnd_417.get k = some x → PT1 (128 * k + 154) x := Tr.node_all (P := PT1) (a := 128) (b := 154) (fun _ h => by cases h; exact Tryd.underlying154) Tr.nilAll Tr.nilAll
noncomputable def tabUnd_418 : Tr (TypeDesc) := Tr.node (some Tryd.t218.desc) Tr.nil Tr.nil
theorem tabUnd_418_all : ∀ k x, tabUnd_418.get k = some x → PT1 (128 * k + 218) x := Tr.node_all (P := PT1) (a := 128) (b := 218) (fun _ h => by cases h; exact Tryd.underlying218) Tr.nilAll Tr.nilAll
noncomputable def tabUnd_416 : Tr (TypeDesc) := Tr.node (some Tryd.t90.desc) tabUnd_417 tabUnd_418
theorem tabUnd_416_all : ∀ k x, tabUnd_416.get k = some x → PT1 (64 * k + 90) x := Tr.node_all (P := PT1) (a := 64) (b := 90) (fun _ h => by cases h; exact Tryd.underlying90) tabUnd_417_all tabUnd_418_all
noncomputable def tabUnd_420 : Tr (TypeDesc) := Tr.node (some Tryd.t186.desc) Tr.nil Tr.nil
theorem tabUnd_420_all : ∀ k x, tabUnd_420.get k = some x → PT1 (128 * k + 186) x := Tr.node_all (P := PT1) (a := 128) (b := 186) (fun _ h => by cases h; exact Tryd.underlying186) Tr.nilAll Tr.nilAll
noncomputable def tabUnd_419 : Tr (TypeDesc) := Tr.node (some Tryd.t122.desc) tabUnd_420 Tr.nil
theorem tabUnd_419_all : ∀ k x, tabUnd_419.get k = some x → PT1 (64 * k + 122) x := Tr.node_all (P := PT1) (a := 64) (b := 122) (fun _ h => by cases h; exact Tryd.underlying122) tabUnd_420_all Tr.nilAll
noncomputable def tabUnd_415 : Tr (TypeDesc) := Tr.node (some Tryd.t58.desc) tabUnd_416 tabUnd_419
theorem tabUnd_415_all : ∀ k x, tabUnd_415.get k = some x → PT1 (32 * k + 58) x := Tr.node_all (P := PT1) (a := 32) (b := 58) (fun _ h => by cases h; exact Tryd.underlying58) tabUnd_416_all tabUnd_419_all
noncomputable def tabUnd_408 : Tr (TypeDesc) := Tr.node (some Tryd.t26.desc) tabUnd_409 tabUnd_415
theorem tabUnd_408_all : ∀ k x, tabUnd_408.get k = some x → PT1 (16 * k + 26) x := Tr.node_all (P := PT1) (a := 16) (b := 26) (fun _ h => by cases h; exact Tryd.underlying26) tabUnd_409_all tabUnd_415_all
noncomputable def tabUnd_394 : Tr (TypeDesc) := Tr.node (some Tryd.t9.desc) tabUnd_395 tabUnd_408
theorem tabUnd_394_all : ∀ k x, tabUnd_394.get k = some x → PT1 (8 * k + 10) x := Tr.node_all (P := PT1) (a := 8) (b := 10) (fun _ h => by cases h; exact Tryd.underlying10) tabUnd_395_all tabUnd_408_all
noncomputable def tabUnd_425 : Tr (TypeDesc) := Tr.node (some Tryd.t134.desc) Tr.nil Tr.nil
theorem tabUnd_425_all : ∀ k x, tabUnd_425.get k = some x → PT1 (128 * k + 134) x := Tr.node_all (P := PT1) (a := 128) (b := 134) (fun _ h => by cases h; exact Tryd.underlying134) Tr.nilAll Tr.nilAll
noncomputable def tabUnd_426 : Tr (TypeDesc) := Tr.node (some Tryd.t198.desc) Tr.nil Tr.nil
theorem tabUnd_426_all : ∀ k x, tabUnd_426.get k = some x → PT1 (128 * k + 198) x := Tr.node_all (P := PT1) (a := 128) (b := 198) (fun _ h => by cases h; exact Tryd.underlying198) Tr.nilAll Tr.nilAll
noncomputable def tabUnd_424 : Tr (TypeDesc) := Tr.node (some Tryd.t70.desc) tabUnd_425 tabUnd_426
theorem tabUnd_424_all : ∀ k x, tabUnd_424.get k = some x → PT1 (64 * k + 70) x := Tr.node_all (P := PT1) (a := 64) (b := 70) (fun _ h => by cases h; exact Tryd.underlying70) tabUnd_425_all tabUnd_426_all
noncomputable def tabUnd_428 : Tr (TypeDesc) := Tr.node (some Tryd.t166.desc) Tr.nil Tr.nil
theorem tabUnd_428_all : ∀ k x, tabUnd_428.get k = some x → PT1 (128 * k + 166) x := Tr.node_all (P := PT1) (a := 128) (b := 166) (fun _ h => by cases h; exact Tryd.underlying166) Tr.nilAll Tr.nilAll
noncomputable def tabUnd_427 : Tr (TypeDesc) := Tr.node (some Tryd.t102.desc) tabUnd_428 Tr.nil
theorem tabUnd_427_all : ∀ k x, tabUnd_427.get k = some x → PT1 (64 * k + 102) x := Tr.node_all (P := PT1) (a := 64) (b := 102) (fun _ h => by cases h; exact Tryd.underlying102) tabUnd_428_all Tr.nilAll
noncomputable def tabUnd_423 : Tr (TypeDesc) := Tr.node (some Tryd.t38.desc) tabUnd_424 tabUnd_427
theorem tabUnd_423_all : ∀ k x, tabUnd_423.get k = some x → PT1 (32 * k + 38) x := Tr.node_all (P := PT1) (a := 32) (b := 38) (fun _ h => by cases h; exact Tryd.underlying38) tabUnd_424_all tabUnd_427_all
noncomputable def tabUnd_431 : Tr (TypeDesc) := Tr.node (some Tryd.t150.desc) Tr.nil Tr.nil
theorem tabUnd_431_all : ∀ k x, tabUnd_431.get k = some x → PT1 (128 * k + 150) x := Tr.node_all (P := PT1) (a := 128) (b := 150) (fun _ h => by cases h; exact Tryd.underlying150) Tr.nilAll Tr.nilAll
noncomputable def tabUnd_432 : Tr (TypeDesc) := Tr.node (some Tryd.t214.desc) Tr.nil Tr.nil
theorem tabUnd_432_all : ∀ k x, tabUnd_432.get k = some x → PT1 (128 * k + 214) x := Tr.node_all (P := PT1) (a := 128) (b := 214) (fun _ h => by cases h; exact Tryd.underlying214) Tr.nilAll Tr.nilAll
noncomputable def tabUnd_430 : Tr (TypeDesc) := Tr.node (some Tryd.t86.desc) tabUnd_431 tabUnd_432
theorem tabUnd_430_all : ∀ k x, tabUnd_430.get k = some x → PT1 (64 * k + 86) x := Tr.node_all (P := PT1) (a := 64) (b := 86) (fun _ h => by cases h; exact Tryd.underlying86) tabUnd_431_all tabUnd_432_all
noncomputable def tabUnd_434 : Tr (TypeDesc) := Tr.node (some Tryd.t181.desc) Tr.nil Tr.nil
theorem tabUnd_434_all : ∀ k x, tabUnd_434.get k = some x → PT1 (128 * k + 182) x := Tr.node_all (P := PT1) (a := 128) (b := 182) (fun _ h => by cases h; exact Tryd.underlying182) Tr.nilAll Tr.nilAll
noncomputable def tabUnd_433 : Tr (TypeDesc) := Tr.node (some Tryd.t118.desc) tabUnd_434 Tr.nil
theorem tabUnd_433_all : ∀ k x, tabUnd_433.get k = some x → PT1 (64 * k + 118) x := Tr.node_all (P := PT1) (a := 64) (b := 118) (fun _ h => by cases h; exact Tryd.underlying118) tabUnd_434_all Tr.nilAll
noncomputable def tabUnd_429 : Tr (TypeDesc) := Tr.node (some Tryd.t54.desc) tabUnd_430 tabUnd_433
theorem tabUnd_429_all : ∀ k x, tabUnd_429.get k = some x → PT1 (32 * k + 54) x := Tr.node_all (P := PT1) (a := 32) (b := 54) (fun _ h => by cases h; exact Tryd.underlying54) tabUnd_430_all tabUnd_433_all
noncomputable def tabUnd_422 : Tr (TypeDesc) := Tr.node (some Tryd.t22.desc) tabUnd_423 tabUnd_429
theorem tabUnd_422_all : ∀ k x, tabUnd_422.get k = some x → PT1 (16 * k + 22) x := Tr.node_all (P := PT1) (a := 16) (b := 22) (fun _ h => by cases h; exact Tryd.underlying22) tabUnd_423_all tabUnd_429_all
noncomputable def tabUnd_438 : Tr (TypeDesc) := Tr.node (some Tryd.t142.desc) Tr.nil Tr.nil
theorem tabUnd_438_all : ∀ k x, tabUnd_438.get k = some x → PT1 (128 * k + 142) x := Tr.node_all (P := PT1) (a := 128) (b := 142) (fun _ h => by cases h; exact Tryd.underlying142) Tr.nilAll Tr.nilAll
noncomputable def tabUnd_439 : Tr (TypeDesc) := Tr.node (some Tryd.t206.desc) Tr.nil Tr.nil
theorem tabUnd_439_all : ∀ k x, tabUnd_439.get k = some x → PT1 (128 * k + 206) x := Tr.node_all (P := PT1) (a := 128) (b := 206) (fun _ h => by cases h; exact Tryd.underlying206) Tr.nilAll Tr.nilAll
noncomputable def tabUnd_437 : Tr (TypeDesc) := Tr.node (some Tryd.t78.desc) tabUnd_438 tabUnd_439
theorem tabUnd_437_all : ∀ k x, tabUnd_437.get k = some x → PT1 (64 * k + 78) x := Tr.node_all (P := PT1) (a := 64) (b := 78) (fun _ h => by cases h; exact Tryd.underlying78) tabUnd_438_all tabUnd_439_all
noncomputable def tabUnd_441 : Tr (TypeDesc) := Tr.node (some Tryd.t174.desc) Tr.nil Tr.nil
theorem tabUnd_441_all : ∀ k x, tabUnd_441.get k = some x → PT1 (128 * k + 174) x := Tr.node_all (P := PT1) (a := 128) (b := 174) (fun _ h => by cases h; exact Tryd.underlying174) Tr.nilAll Tr.nilAll
noncomputable def tabUnd_440 : Tr (TypeDesc) := Tr.node (some Tryd.t110.desc) tabUnd_441 Tr.nil
theorem tabUnd_440_all : ∀ k x, tabUnd_440.get k = some x → PT1 (64 * k + 110) x := Tr.node_all (P := PT1) (a := 64) (b := 110) (fun _ h => by cases h; exact Tryd.underlying110) tabUnd_441_all Tr.nilAll
noncomputable def tabUnd_436 : Tr (TypeDesc) := Tr.node (some Tryd.t46.desc) tabUnd_437 tabUnd_440
theorem tabUnd_436_all : ∀ k x, tabUnd_436.get k = some x → PT1 (32 * k + 46) x := Tr.node_all (P := PT1) (a := 32) (b := 46) (fun _ h => by cases h; exact Tryd.underlying46) tabUnd_437_all tabUnd_440_all
noncomputable def tabUnd_444 : Tr (TypeDesc) := Tr.node (some Tryd.t158.desc) Tr.nil Tr.nil
theorem tabUnd_444_all : ∀ k x, tabUnd_444.get k = some x → PT1 (128 * k + 158) x := Tr.node_all (P := PT1) (a := 128) (b := 158) (fun _ h => by cases h; exact Tryd.underlying158) Tr.nilAll Tr.nilAll
noncomputable def tabUnd_445 : Tr (TypeDesc) := Tr.node (some Tryd.t221.desc) Tr.nil Tr.nil
theorem tabUnd_445_all : ∀ k x, tabUnd_445.get k = some x → PT1 (128 * k + 222) x := Tr.node_all (P := PT1) (a := 128) (b := 222) (fun _ h => by cases h; exact Tryd.underlying222) Tr.nilAll Tr.nilAll
noncomputable def tabUnd_443 : Tr (TypeDesc) := Tr.node (some Tryd.t94.desc) tabUnd_444 tabUnd_445
theorem tabUnd_443_all : ∀ k x, tabUnd_443.get k = some x → PT1 (64 * k + 94) x := Tr.node_all (P := PT1) (a := 64) (b := 94) (fun _ h => by cases h; exact Tryd.underlying94) tabUnd_444_all tabUnd_445_all
noncomputable def tabUnd_447 : Tr (TypeDesc) := Tr.node (some Tryd.t190.desc) Tr.nil Tr.nil
theorem tabUnd_447_all : ∀ k x, tabUnd_447.get k = some x → PT1 (128 * k + 190) x := Tr.node_all (P := PT1) (a := 128) (b := 190) (fun _ h => by cases h; exact Tryd.underlying190) Tr.nilAll Tr.nilAll
noncomputable def tabUnd_446 : Tr (TypeDesc) := Tr.node (some Tryd.t126.desc) tabUnd_447 Tr.nil
theorem tabUnd_446_all : ∀ k x, tabUnd_446.get k = some x → PT1 (64 * k + 126) x := Tr.node_all (P := PT1) (a := 64) (b := 126) (fun _ h => by cases h; exact Tryd.underlying126) tabUnd_447_all Tr.nilAll
noncomputable def tabUnd_442 : Tr (TypeDesc) := Tr.node (some Tryd.t62.desc) tabUnd_443 tabUnd_446
theorem tabUnd_442_all : ∀ k x, tabUnd_442.get k = some x → PT1 (32 * k + 62) x := Tr.node_all (P := PT1) (a := 32) (b := 62) (fun _ h => by cases h; exact Tryd.underlying62) tabUnd_443_all tabUnd_446_all
noncomputable def tabUnd_435 : Tr (TypeDesc) := Tr.node (some Tryd.t30.desc) tabUnd_436 tabUnd_442
theorem tabUnd_435_all : ∀ k x, tabUnd_435.get k = some x → PT1 (16 * k + 30) x := Tr.node_all (P := PT1) (a := 16) (b := 30) (fun _ h => by cases h; exact Tryd.underlying30) tabUnd_436_all tabUnd_442_all
noncomputable def tabUnd_421 : Tr (TypeDesc) := Tr.node (some Tryd.t13.desc) tabUnd_422 tabUnd_435
theorem tabUnd_421_all : ∀ k x, tabUnd_421.get k = some x → PT1 (8 * k + 14) x := Tr.node_all (P := PT1) (a := 8) (b := 14) (fun _ h => by cases h; exact Tryd.underlying14) tabUnd_422_all tabUnd_435_all
noncomputable def tabUnd_393 : Tr (TypeDesc) := Tr.node (some Tryd.t5.desc) tabUnd_394 tabUnd_421
theorem tabUnd_393_all : ∀ k x, tabUnd_393.get k = some x → PT1 (4 * k + 6) x := Tr.node_all (P := PT1) (a := 4) (b := 6) (fun _ h => by cases h; exact Tryd.underlying6) tabUnd_394_all tabUnd_421_all
noncomputable def tabUnd_337 : Tr (TypeDesc) := Tr.node (some Tryd.t2.desc) tabUnd_338 tabUnd_393
theorem tabUnd_337_all : ∀ k x, tabUnd_337.get k = some x → PT1 (2 * k + 2) x := Tr.node_all (P := PT1) (a := 2) (b := 2) (fun _ h => by cases h; exact Tryd.underlying2) tabUnd_338_all tabUnd_393_all
noncomputable def tabUnd_224 : Tr (TypeDesc) := Tr.node (some Tryd.t0.desc) tabUnd_225 tabUnd_337
theorem tabUnd_224_all : ∀ k x, tabUnd_224.get k = some x → PT1 (1 * k + 0) x := Tr.node_all (P := PT1) (a := 1) (b := 0) (fun _ h => by cases h; exact Tryd.underlying0) tabUnd_225_all tabUnd_337_all
noncomputable def tabUnd : Tr (TypeDesc) := tabUnd_224
theorem tabUnd_all : ∀ k x, tabUnd.get k = some x → (fun n x => Tryd.prog.underlying n = some x) k x := fun k x h => by have := tabUnd_224_all k x h; rwa [Nat.one_mul, Nat.add_zero] at this
noncomputable def tabFuncs_454 : Tr (Func) := Tr.node (some Tryd.f63) Tr.nil Tr.nil
theorem tabFuncs_454_all : ∀ k x, tabFuncs_454.get k = some x → PT2 (64 * k + 63) x := Tr.node_all (P := PT2) (a := 64) (b := 63) (fun _ h => by cases h; exact ⟨Tryd.func63, Tryd.call63⟩) Tr.nilAll Tr.nilAll
noncomputable def tabFuncs_455 : Tr (Func) := Tr.node (some Tryd.f95) Tr.nil Tr.nil
theorem tabFuncs_455_all : ∀ k x, tabFuncs_455.get k = some x → PT2 (64 * k + 95) x := Tr.node_all (P := PT2) (a := 64) (b := 95) (fun _ h => by cases h; exact ⟨Tryd.func95, Tryd.call95⟩) Tr.nilAll Tr.nilAll
noncomputable def tabFuncs_453 : Tr (Func) := Tr.node (some Tryd.f31) tabFuncs_454 tabFuncs_455
theorem tabFuncs_453_all : ∀ k x, tabFuncs_453.get k = some x → PT2 (32 * k + 31) x := Tr.node_all (P := PT2) (a := 32) (b := 31) (fun _ h => by cases h; exact ⟨Tryd.func31, Tryd.call31⟩) tabFuncs_454_all tabFuncs_455_all
noncomputable def tabFuncs_457 : Tr (Func) := Tr.node (some Tryd.f79) Tr.nil Tr.nil
theorem tabFuncs_457_all : ∀ k x, tabFuncs_457.get k = some x → PT2 (64 * k + 79) x := Tr.node_all (P := PT2) (a := 64) (b := 79) (fun _ h => by cases h; exact ⟨Tryd.func79, Tryd.call79⟩) Tr.nilAll Tr.nilAll
noncomputable def tabFuncs_458 : Tr (Func) := Tr.node (some Tryd.f111) Tr.nil Tr.nil
theorem tabFuncs_458_all : ∀ k x, tabFuncs_458.get k = some x → PT2 (64 * k + 111) x := Tr.node_all (P := PT2) (a := 64) (b := 111) (fun _ h => by cases h; exact ⟨Tryd.func111, Tryd.call111⟩) Tr.nilAll Tr.nilAll
noncomputable def tabFuncs_456 : Tr (Func) := Tr.node (some Tryd.f47) tabFuncs_457 tabFuncs_458
theorem tabFuncs_456_all : ∀ k x, tabFuncs_456.get k = some x → PT2 (32 * k + 47) x := Tr.node_all (P := PT2) (a := 32) (b := 47) (fun _ h => by cases h; exact ⟨Tryd.func47, Tryd.call47⟩) tabFuncs_457_all tabFuncs_458_all
noncomputable def tabFuncs_452 : Tr (Func) := Tr.node (some Tryd.f15) tabFuncs_453 tabFuncs_456
theorem tabFuncs_452_all : ∀ k x, tabFuncs_452.get k = some x → PT2 (16 * k + 15) x := Tr.node_all (P := PT2) (a := 16) (b := 15) (fun _ h => by cases h; exact ⟨Tryd.func15, Tryd.call15⟩) tabFuncs_453_all tabFuncs_456_all
noncomputable def tabFuncs_462 : Tr (Func) := Tr.node (some Tryd.f135) Tr.nil Tr.nil
theorem tabFuncs_462_all : ∀ k x, tabFuncs_462.get k = some x → PT2 (128 * k + 135) x := Tr.node_all (P := PT2) (a := 128) (b := 135) (fun _ h => by cases h; exact ⟨Tryd.func135, Tryd.call135⟩) Tr.nilAll Tr.nilAll
noncomputable def tabFuncs_461 : Tr (Func) := Tr.node (some Tryd.f71) tabFuncs_462 Tr.nil
theorem tabFuncs_461_all : ∀ k x, tabFuncs_461.get k = some x → PT2 (64 * k + 71) x := Tr.node_all (P := PT2) (a := 64) (b := 71) (fun _ h => by cases h; exact ⟨Tryd.func71, Tryd.call71⟩) tabFuncs_462_all Tr.nilAll
noncomputable def tabFuncs_463 : Tr (Func) := Tr.node (some Tryd.f103) Tr.nil Tr.nil
theorem tabFuncs_463_all : ∀ k x, tabFuncs_463.get k = some x → PT2 (64 * k + 103) x := Tr.node_all (P := PT2) (a := 64) (b := 103) (fun _ h => by cases h; exact ⟨Tryd.func103, Tryd.call103⟩) Tr.nilAll Tr.nilAll
noncomputable def tabFuncs_460 : Tr (Func) := Tr.node (some Tryd.f39) tabFuncs_461 tabFuncs_463
theorem tabFuncs_460_all : ∀ k x, tabFuncs_460.get k = some x → PT2 (32 * k + 39) x := Tr.node_all (P := PT2) (a := 32) (b := 39) (fun _ h => by cases h; exact ⟨Tryd.func39, Tryd.call39⟩) tabFuncs_461_all tabFuncs_463_all
noncomputable def tabFuncs_465 : Tr (Func) := Tr.node (some Tryd.f87) Tr.nil Tr.nil
theorem tabFuncs_465_all : ∀ k x, tabFuncs_465.get k = some x → PT2 (64 * k + 87) x := Tr.node_all (P := PT2) (a := 64) (b := 87) (fun _ h => by cases h; exact ⟨Tryd.func87, Tryd.call87⟩) Tr.nilAll Tr.nilAll
noncomputable def tabFuncs_464 : Tr (Func) := Tr.node (some Tryd.f55) tabFuncs_465 Tr.nil
theorem tabFuncs_464_all : ∀ k x, tabFuncs_464.get k = some x → PT2 (32 * k + 55) x := Tr.node_all (P := PT2) (a := 32) (b := 55) (fun _ h => by cases h; exact ⟨Tryd.func55, Tryd.call55⟩) tabFuncs_465_all Tr.nilAll
noncomputable def tabFuncs_459 : Tr (Func) := Tr.node (some Tryd.f23) tabFuncs_460 tabFuncs_464
theorem tabFuncs_459_all : ∀ k x, tabFuncs_459.get k = some x → PT2 (16 * k + 23) x := Tr.node_all (P := PT2) (a := 16) (b := 23) (fun _ h => by cases h; exact ⟨Tryd.func23, Tryd.call23⟩) tabFuncs_460_all tabFuncs_464_all
noncomputable def tabFuncs_451 : Tr (Func) := Tr.node (some Tryd.f7) tabFuncs_452 tabFuncs_459
theorem tabFuncs_451_all : ∀ k x, tabFuncs_451.get k = some x → PT2 (8 * k + 7) x := Tr.node_all (P := PT2) (a := 8) (b := 7) (fun _ h => by cases h; exact ⟨Tryd.func7, Tryd.call7⟩) tabFuncs_452_all tabFuncs_459_all
noncomputable def tabFuncs_469 : Tr (Func) := Tr.node (some Tryd.f67) Tr.nil Tr.nil
theorem tabFuncs_469_all : ∀ k x, tabFuncs_469.get k = some x → PT2 (64 * k + 67) x := Tr.node_all (P := PT2) (a := 64) (b := 67) (fun _ h => by cases h; exact ⟨Tryd.func67, Tryd.call67⟩) Tr.nilAll Tr.nilAll
noncomputable def tabFuncs_470 : Tr (Func) := Tr.node (some Tryd.f99) Tr.nil Tr.nil
theorem tabFuncs_470_all : ∀ k x, tabFuncs_470.get k = some x → PT2 (64 * k + 99) x := Tr.node_all (P := PT2) (a := 64) (b := 99) (fun _ h => by cases h; exact ⟨Tryd.func99, Tryd.call99⟩) Tr.nilAll Tr.nilAll
noncomputable def tabFuncs_468 : Tr (Func) := Tr.node (some Tryd.f35) tabFuncs_469 tabFuncs_470
theorem tabFuncs_468_all : ∀ k x, tabFuncs_468.get k = some x → PT2 (32 * k + 35) x := Tr.node_all (P := PT2) (a := 32) (b := 35) (fun _ h => by cases h; exact ⟨Tryd.func35, Tryd.call35⟩) tabFuncs_469_all tabFuncs_470_all
noncomputable def tabFuncs_472 : Tr (Func) := Tr.node (some Tryd.f83) Tr.nil Tr.nil
theorem tabFuncs_472_all : ∀ k x, tabFuncs_472.get k = some x → PT2 (64 * k + 83) x := Tr.node_all (P := PT2) (a := 64) (b := 83) (fun _ h => by cases h; exact ⟨Tryd.func83, Tryd.call83⟩) Tr.nilAll Tr.nilAll
noncomputable def tabFuncs_473 : Tr (Func) := Tr.node (some Tryd.f115) Tr.nil Tr.nil
theorem tabFuncs_473_all : ∀ k x, tabFuncs_473.get k = some x → PT2 (64 * k + 115) x := Tr.node_all (P := PT2) (a := 64) (b := 115) (fun _ h => by cases h; exact ⟨Tryd.func115, Tryd.call115⟩) Tr.nilAll Tr.nilAll
noncomputable def tabFuncs_471 : Tr (Func) := Tr.node (some Tryd.f51) tabFuncs_472 tabFuncs_473
theorem tabFuncs_471_all : ∀ k x, tabFuncs_471.get k = some x → PT2 (32 * k + 51) x := Tr.node_all (P := PT2) (a := 32) (b := 51) (fun _ h => by cases h; exact ⟨Tryd.func51, Tryd.call51⟩) tabFuncs_472_all tabFuncs_473_all
noncomputable def tabFuncs_467 : Tr (Func) := Tr.node (some Tryd.f19) tabFuncs_468 tabFuncs_471
theorem tabFuncs_467_all : ∀ k x, tabFuncs_467.get k = some x → PT2 (16 * k + 19) x := Tr.node_all (P := PT2) (a := 16) (b := 19) (fun _ h => by cases h; exact ⟨Tryd.func19, Tryd.call19⟩) tabFuncs_468_all tabFuncs_471_all
noncomputable def tabFuncs_476 : Tr (Func) := Tr.node (some Tryd.f75) Tr.nil Tr.nil
theorem tabFuncs_476_all : ∀ k x, tabFuncs_476.get k = some x → PT2 (64 * k + 75) x := Tr.node_all (P := PT2) (a := 64) (b := 75) (fun _ h => by cases h; exact ⟨Tryd.func75, Tryd.call75⟩) Tr.nilAll Tr.nilAll
noncomputable def tabFuncs_477 : Tr (Func) := Tr.node (some Tryd.f107) Tr.nil Tr.nil
theorem tabFuncs_477_all : ∀ k x, tabFuncs_477.get k = some x → PT2 (64 * k + 107) x := Tr.node_all (P := PT2) (a := 64) (b := 107) (fun _ h => by cases h; exact ⟨Tryd.func107, Tryd.call107⟩) Tr.nilAll Tr.nilAll
noncomputable def tabFuncs_475 : Tr (Func) := Tr.node (some Tryd.f43) tabFuncs_476 tabFuncs_477
theorem tabFuncs_475_all : ∀ k x, tabFuncs_475.get k = some x → PT2 (32 * k + 43) x := Tr.node_all (P := PT2) (a := 32) (b := 43) (fun _ h => by cases h; exact ⟨Tryd.func43, Tryd.call43⟩) tabFuncs_476_all tabFuncs_477_all
noncomputable def tabFuncs_479 : Tr (Func) := Tr.node (some Tryd.f91) Tr.nil Tr.nil
theorem tabFuncs_479_all : ∀ k x, tabFuncs_479.get k = some x → PT2 (64 * k + 91) x := Tr.node_all (P := PT2) (a := 64) (b := 91) (fun _ h => by cases h; exact ⟨Tryd.func91, Tryd.call91⟩) Tr.nilAll Tr.nilAll
noncomputable def tabFuncs_478 : Tr (Func) := Tr.node (some Tryd.f59) tabFuncs_479 Tr.nil
theorem tabFuncs_478_all : ∀ k x, tabFuncs_478.get k = some x → PT2 (32 * k + 59) x := Tr.node_all (P := PT2) (a := 32) (b := 59) (fun _ h => by cases h; exact ⟨Tryd.func59, Tryd.call59⟩) tabFuncs_479_all Tr.nilAll
noncomputable def tabFuncs_474 : Tr (Func) := Tr.node (some Tryd.f27) tabFuncs_475 tabFuncs_478
theorem tabFuncs_474_all : ∀ k x, tabFuncs_474.get k = some x → PT2 (16 * k + 27) x := Tr.node_all (P := PT2) (a := 16) (b := 27) (fun _ h => by cases h; exact ⟨Tryd.func27, Tryd.call27⟩) tabFuncs_475_all tabFuncs_478_all
noncomputable def tabFuncs_466 : Tr (Func) := Tr.node (some Tryd.f11) tabFuncs_467 tabFuncs_474
theorem tabFuncs_466_all : ∀ k x, tabFuncs_466.get k = some x → PT2 (8 * k + 11) x := Tr.node_all (P := PT2) (a := 8) (b := 11) (fun _ h => by cases h; exact ⟨Tryd.func11, Tryd.call11⟩) tabFuncs_467_all tabFuncs_474_all
noncomputable def tabFuncs_450 : Tr (Func) := Tr.node (some Tryd.f3) tabFuncs_451 tabFuncs_466
theorem tabFuncs_450_all : ∀ k x, tabFuncs_450.get k = some x → PT2 (4 * k + 3) x := Tr.node_all (P := PT2) (a := 4) (b := 3) (fun _ h => by cases h; exact ⟨Tryd.func3, Tryd.call3⟩) tabFuncs_451_all tabFuncs_466_all
noncomputable def tabFuncs_484 : Tr (Func) := Tr.node (some Tryd.f65) Tr.nil Tr.nil
theorem tabFuncs_484_all : ∀ k x, tabFuncs_484.get k = some x → PT2 (64 * k + 65) x := Tr.node_all (P := PT2) (a := 64) (b := 65) (fun _ h => by cases h; exact ⟨Tryd.func65, Tryd.call65⟩) Tr.nilAll Tr.nilAll
noncomputable def tabFuncs_485 : Tr (Func) := Tr.node (some Tryd.f97) Tr.nil Tr.nil
theorem tabFuncs_485_all : ∀ k x, tabFuncs_485.get k = some x → PT2 (64 * k + 97) x := Tr.node_all (P := PT2) (a := 64) (b := 97) (fun _ h => by cases h; exact ⟨Tryd.func97, Tryd.call97⟩) Tr.nilAll Tr.nilAll
noncomputable def tabFuncs_483 : Tr (Func) := Tr.node (some Tryd.f33) tabFuncs_484 tabFuncs_485
theorem tabFuncs_483_all : ∀ k x, tabFuncs_483.get k = some x → PT2 (32 * k + 33) x := Tr.node_all (P := PT2) (a := 32) (b := 33) (fun _ h => by cases h; exact ⟨Tryd.func33, Tryd.call33⟩) tabFuncs_484_all tabFuncs_485_all
noncomputable def tabFuncs_487 : Tr (Func) := Tr.node (some Tryd.f81) Tr.nil Tr.nil
theorem tabFuncs_487_all : ∀ k x, tabFuncs_487.get k = some x → PT2 (64 * k + 81) x := Tr.node_all (P := PT2) (a := 64) (b := 81) (fun _ h => by cases h; exact ⟨Tryd.func81, Tryd.call81⟩) Tr.nilAll Tr.nilAll
noncomputable def tabFuncs_488 : Tr (Func) := Tr.node (some Tryd.f113) Tr.nil Tr.nil
theorem tabFuncs_488_all : ∀ k x, tabFuncs_488.get k = some x → PT2 (64 * k + 113) x := Tr.node_all (P := PT2) (a := 64) (b := 113) (fun _ h => by cases h; exact ⟨Tryd.func113, Tryd.call113⟩) Tr.nilAll Tr.nilAll
noncomputable def tabFuncs_486 : Tr (Func) := Tr.node (some Tryd.f49) tabFuncs_487 tabFuncs_488
theorem tabFuncs_486_all : ∀ k x, tabFuncs_486.get k = some x → PT2 (32 * k + 49) x := Tr.node_all (P := PT2) (a := 32) (b := 49) (fun _ h => by cases h; exact ⟨Tryd.func49, Tryd.call49⟩) tabFuncs_487_all tabFuncs_488_all
noncomputable def tabFuncs_482 : Tr (Func) := Tr.node (some Tryd.f17) tabFuncs_483 tabFuncs_486
theorem tabFuncs_482_all : ∀ k x, tabFuncs_482.get k = some x → PT2 (16 * k + 17) x := Tr.node_all (P := PT2) (a := 16) (b := 17) (fun _ h => by cases h; exact ⟨Tryd.func17, Tryd.call17⟩) tabFuncs_483_all tabFuncs_486_all
noncomputable def tabFuncs_491 : Tr (Func) := Tr.node (some Tryd.f73) Tr.nil Tr.nil
theorem tabFuncs_491_all : ∀ k x, tabFuncs_491.get k = some x → PT2 (64 * k + 73) x := Tr.node_all (P := PT2) (a := 64) (b := 73) (fun _ h => by cases h; exact ⟨Tryd.func73, Tryd.call73⟩) Tr.nilAll Tr.nilAll
noncomputable def tabFuncs_492 : Tr (Func) := Tr.node (some Tryd.f105) Tr.nil Tr.nil
theorem tabFuncs_492_all : ∀ k x, tabFuncs_492.get k = some x → PT2 (64 * k + 105) x := Tr.node_all (P := PT2) (a := 64) (b := 105) (fun _ h => by cases h; exact ⟨Tryd.func105, Tryd.call105⟩) Tr.nilAll Tr.nilAll
noncomputable def tabFuncs_490 : Tr (Func) := Tr.node (some Tryd.f41) tabFuncs_491 tabFuncs_492
theorem tabFuncs_490_all : ∀ k x, tabFuncs_490.get k = some x → PT2 (32 * k + 41) x := Tr.node_all (P := PT2) (a := 32) (b := 41) (fun _ h => by cases h; exact ⟨Tryd.func41, Tryd.call41⟩) tabFuncs_491_all tabFuncs_492_all
noncomputable def tabFuncs_494 : Tr (Func) := Tr.node (some Tryd.f89) Tr.nil Tr.nil
theorem tabFuncs_494_all : ∀ k x, tabFuncs_494.get k = some x → PT2 (64 * k + 89) x := Tr.node_all (P := PT2) (a := 64) (b := 89) (fun _ h => by cases h; exact ⟨Tryd.func89, Tryd.call89⟩) Tr.nilAll Tr.nilAll
noncomputable def tabFuncs_493 : Tr (Func) := Tr.node (some Tryd.f57) tabFuncs_494 Tr.nil
theorem tabFuncs_493_all : ∀ k x, tabFuncs_493.get k = some x → PT2 (32 * k + 57) x := Tr.node_all (P := PT2) (a := 32) (b := 57) (fun _ h => by cases h; exact ⟨Tryd.func57, Tryd.call57⟩) tabFuncs_494_all Tr.nilAll
noncomputable def tabFuncs_489 : Tr (Func) := Tr.node (some Tryd.f25) tabFuncs_490 tabFuncs_493
theorem tabFuncs_489_all : ∀ k x, tabFuncs_489.get k = some x → PT2 (16 * k + 25) x := Tr.node_all (P := PT2) (a := 16) (b := 25) (fun _ h => by cases h; exact ⟨Tryd.func25, Tryd.call25⟩) tabFuncs_490_all tabFuncs_493_all
noncomputable def tabFuncs_481 : Tr (Func) := Tr.node (some Tryd.f9) tabFuncs_482 tabFuncs_489
theorem tabFuncs_481_all : ∀ k x, tabFuncs_481.get k = some x → PT2 (8 * k + 9) x := Tr.node_all (P := PT2) (a := 8) (b := 9) (fun _ h => by cases h; exact ⟨Tryd.func9, Tryd.call9⟩) tabFuncs_482_all tabFuncs_489_all
noncomputable def tabFuncs_499 : Tr (Func) := Tr.node (some Tryd.f133) Tr.nil Tr.nil
theorem tabFuncs_499_all : ∀ k x, tabFuncs_499.get k = some x → PT2 (128 * k + 133) x := Tr.node_all (P := PT2) (a := 128) (b := 133) (fun _ h => by cases h; exact ⟨Tryd.func133, Tryd.call133⟩) Tr.nilAll Tr.nilAll
noncomputable def tabFuncs_498 : Tr (Func) := Tr.node (some Tryd.f69) tabFuncs_499 Tr.nil
theorem tabFuncs_498_all : ∀ k x, tabFuncs_498.get k = some x → PT2 (64 * k + 69) x := Tr.node_all (P := PT2) (a := 64) (b := 69) (fun _ h => by cases h; exact ⟨Tryd.func69, Tryd.call69⟩) tabFuncs_499_all Tr.nilAll
noncomputable def tabFuncs_500 : Tr (Func) := Tr.node (some Tryd.f101) Tr.nil Tr.nil
theorem tabFuncs_500_all : ∀ k x, tabFuncs_500.get k = some x → PT2 (64 * k + 101) x := Tr.node_all (P := PT2) (a := 64) (b := 101) (fun _ h => by cases h; exact ⟨Tryd.func101, Tryd.call101⟩) Tr.nilAll Tr.nilAll
noncomputable def tabFuncs_497 : Tr (Func) := Tr.node (some Tryd.f37) tabFuncs_498 tabFuncs_500
theorem tabFuncs_497_all : ∀ k x, tabFuncs_497.get k = some x → PT2 (32 * k + 37) x := Tr.node_all (P := PT2) (a := 32) (b := 37) (fun _ h => by cases h; exact ⟨Tryd.func37, Tryd.call37⟩) tabFuncs_498_all tabFuncs_500_all
noncomputable def tabFuncs_502 : Tr (Func) := Tr.node (some Tryd.f85) Tr.nil Tr.nil
theorem tabFuncs_502_all : ∀ k x, tabFuncs_502.get k = some x → PT2 (64 * k + 85) x := Tr.node_all (P := PT2) (a := 64) (b := 85) (fun _ h => by cases h; exact ⟨Tryd.func85, Tryd.call85⟩) Tr.nilAll Tr.nilAll
noncomputable def tabFuncs_503 : Tr (Func) := Tr.node (some Tryd.f117) Tr.nil Tr.nil
theorem tabFuncs_503_all : ∀ k x, tabFuncs_503.get k = some x → PT2 (64 * k + 117) x := Tr.node_all (P := PT2) (a := 64) (b := 117) (fun _ h => by cases h; exact ⟨Tryd.func117, Tryd.call117⟩) Tr.nilAll Tr.nilAll
noncomputable def tabFuncs_501 : Tr (Func) := Tr.node (some Tryd.f53) tabFuncs_502 tabFuncs_503
theorem tabFuncs_501_all : ∀ k x, tabFuncs_501.get k = some x → PT2 (32 * k + 53) x := Tr.node_all (P := PT2) (a := 32) (b := 53) (fun _ h => by cases h; exact ⟨Tryd.func53, Tryd.call53⟩) tabFuncs_502_all tabFuncs_503_all
noncomputable def tabFuncs_496 : Tr (Func) := Tr.node (some Tryd.f21) tabFuncs_497 tabFuncs_501
theorem tabFuncs_496_all : ∀ k x, tabFuncs_496.get k = some x → PT2 (16 * k + 21) x := Tr.node_all (P := PT2) (a := 16) (b := 21) (fun _ h => by cases h; exact ⟨Tryd.func21, Tryd.call21⟩) tabFuncs_497_all tabFuncs_501_all
noncomputable def tabFuncs_506 : Tr (Func) := Tr.node (some Tryd.f77) Tr.nil Tr.nil
theorem tabFuncs_506_all : ∀ k x, tabFuncs_506.get k = some x → PT2 (64 * k + 77) x := Tr.node_all (P := PT2) (a := 64) (b := 77) (fun _ h => by cases h; exact ⟨Tryd.func77, Tryd.call77⟩) Tr.nilAll Tr.nilAll
noncomputable def tabFuncs_507 : Tr (Func) := Tr.node (some Tryd.f109) Tr.nil Tr.nil
theorem tabFuncs_507_all : ∀ k x, tabFuncs_507.get k = some x → PT2 (64 * k + 109) x := Tr.node_all (P := PT2) (a := 64) (b := 109) (fun _ h => by cases h; exact ⟨Tryd.func109, Tryd.call109⟩) Tr.nilAll Tr.nilAll
noncomputable def tabFuncs_505 : Tr (Func) := Tr.node (some Tryd.f45) tabFuncs_506 tabFuncs_507
theorem tabFuncs_505_all : ∀ k x, tabFuncs_505.get k = some x → PT2 (32 * k + 45) x := Tr.node_all (P := PT2) (a := 32) (b := 45) (fun _ h => by cases h; exact ⟨Tryd.func45, Tryd.call45⟩) tabFuncs_506_all tabFuncs_507_all
noncomputable def tabFuncs_509 : Tr (Func) := Tr.node (some Tryd.f93) Tr.nil Tr.nil
theorem tabFuncs_509_all : ∀ k x, tabFuncs_509.get k = some x → PT2 (64 * k + 93) x := Tr.node_all (P := PT2) (a := 64) (b := 93) (fun _ h => by cases h; exact ⟨Tryd.func93, Tryd.call93⟩) Tr.nilAll Tr.nilAll
noncomputable def tabFuncs_508 : Tr (Func) := Tr.node (some Tryd.f61) tabFuncs_509 Tr.nil
theorem tabFuncs_508_all : ∀ k x, tabFuncs_508.get k = some x → PT2 (32 * k + 61) x := Tr.node_all (P := PT2) (a := 32) (b := 61) (fun _ h => by cases h; exact ⟨Tryd.func61, Tryd.call61⟩) tabFuncs_509_all Tr.nilAll
noncomputable def tabFuncs_504 : Tr (Func) := Tr.node (some Tryd.f29) tabFuncs_505 tabFuncs_508
theorem tabFuncs_504_all : ∀ k x, tabFuncs_504.get k = some x → PT2 (16 * k + 29) x := Tr.node_all (P := PT2) (a := 16) (b := 29) (fun _ h => by cases h; exact ⟨Tryd.func29, Tryd.call29⟩) tabFuncs_505_all tabFuncs_508_all
noncomputable def tabFuncs_495 : Tr (Func) := Tr.node (some Tryd.f13) tabFuncs_496 tabFuncs_504
theorem tabFuncs_495_all : ∀ k x, tabFuncs_495.get k = some x → PT2 (8 * k + 13) x := Tr.node_all (P := PT2) (a := 8) (b := 13) (fun _ h => by cases h; exact ⟨Tryd.func13, Tryd.call13⟩) tabFuncs_496_all tabFuncs_504_all
noncomputable def tabFuncs_480 : Tr (Func) := Tr.node (some Tryd.f5) tabFuncs_481 tabFuncs_495
theorem tabFuncs_480_all : ∀ k x, tabFuncs_480.get k = some x → PT2 (4 * k + 5) x := Tr.node_all (P := PT2) (a := 4) (b := 5) (fun _ h => by cases h; exact ⟨Tryd.func5, Tryd.call5⟩) tabFuncs_481_all tabFuncs_495_all
noncomputable def tabFuncs_449 : Tr (Func) := Tr.node none tabFuncs_450 tabFuncs_480
theorem tabFuncs_449_all : ∀ k x, tabFuncs_449.get k = some x → PT2 (2 * k + 1) x := Tr.node_all (P := PT2) (a := 2) (b := 1) (fun _ h => by cases h) tabFuncs_450_all tabFuncs_480_all
noncomputable def tabFuncs_515 : Tr (Func) := Tr.node (some Tryd.f64) Tr.nil Tr.nil
theorem tabFuncs_515_all : ∀ k x, tabFuncs_515.get k = some x → PT2 (64 * k + 64) x := Tr.node_all (P := PT2) (a := 64) (b := 64) (fun _ h => by cases h; exact ⟨Tryd.func64, Tryd.call64⟩) Tr.nilAll Tr.nilAll
noncomputable def tabFuncs_516 : Tr (Func) := Tr.node (some Tryd.f96) Tr.nil Tr.nil
theorem tabFuncs_516_all : ∀ k x, tabFuncs_516.get k = some x → PT2 (64 * k + 96) x := Tr.node_all (P := PT2) (a := 64) (b := 96) (fun _ h => by cases h; exact ⟨Tryd.func96, Tryd.call96⟩) Tr.nilAll Tr.nilAll
noncomputable def tabFuncs_514 : Tr (Func) := Tr.node (some Tryd.f32) tabFuncs_515 tabFuncs_516
theorem tabFuncs_514_all : ∀ k x, tabFuncs_514.get k = some x → PT2 (32 * k + 32) x := Tr.node_all (P := PT2) (a := 32) (b := 32) (fun _ h => by cases h; exact ⟨Tryd.func32, Tryd.call32⟩) tabFuncs_515_all tabFuncs_516_all
noncomputable def tabFuncs_518 : Tr (Func) := Tr.node (some Tryd.f80) Tr.nil Tr.nil
theorem tabFuncs_518_all : ∀ k x, tabFuncs_518.get k = some x → PT2 (64 * k + 80) x := Tr.node_all (P := PT2) (a := 64) (b := 80) (fun _ h => by cases h; exact ⟨Tryd.func80, Tryd.call80⟩) Tr.nilAll Tr.nilAll
noncomputable def tabFuncs_519 : Tr (Func) := Tr.node (some Tryd.f112) Tr.nil Tr.nil
theorem tabFuncs_519_all : ∀ k x, tabFuncs_519.get k = some x → PT2 (64 * k + 112) x := Tr.node_all (P := PT2) (a := 64) (b := 112) (fun _ h => by cases h; exact ⟨Tryd.func112, Tryd.call112⟩) Tr.nilAll Tr.nilAll
noncomputable def tabFuncs_517 : Tr (Func) := Tr.node (some Tryd.f48) tabFuncs_518 tabFuncs_519
theorem tabFuncs_517_all : ∀ k x, tabFuncs_517.get k = some x → PT2 (32 * k + 48) x := Tr.node_all (P := PT2) (a := 32) (b := 48) (fun _ h => by cases h; exact ⟨Tryd.func48, Tryd.call48⟩) tabFuncs_518_all tabFuncs_519_all
noncomputable def tabFuncs_513 : Tr (Func) := Tr.node (some Tryd.f16) tabFuncs_514 tabFuncs_517
theorem tabFuncs_513_all : ∀ k x, tabFuncs_513.get k = some x → PT2 (16 * k + 16) x := Tr.node_all (P := PT2) (a := 16) (b := 16) (fun _ h => by cases h; exact ⟨Tryd.func16, Tryd.call16⟩) tabFuncs_514_all tabFuncs_517_all
noncomputable def tabFuncs_523 : Tr (Func) := Tr.node (some Tryd.f136) Tr.nil Tr.nil
theorem tabFuncs_523_all : ∀ k x, tabFuncs_523.get k = some x → PT2 (128 * k + 136) x := Tr.node_all (P := PT2) (a := 128) (b := 136) (fun _ h => by cases h; exact ⟨Tryd.func136, Tryd.call136⟩) Tr.nilAll Tr.nilAll
noncomputable def tabFuncs_522 : Tr (Func) := Tr.node (some Tryd.f72) tabFuncs_523 Tr.nil
theorem tabFuncs_522_all : ∀ k x, tabFuncs_522.get k = some x → PT2 (64 * k + 72) x := Tr.node_all (P := PT2) (a := 64) (b := 72) (fun _ h => by cases h; exact ⟨Tryd.func72, Tryd.call72⟩) tabFuncs_523_all Tr.nilAll
noncomputable def tabFuncs_524 : Tr (Func) := Tr.node (some Tryd.f104) Tr.nil Tr.nil
theorem tabFuncs_524_all : ∀ k x, tabFuncs_524.get k = some x → PT2 (64 * k + 104) x := Tr.node_all (P := PT2) (a := 64) (b := 104) (fun _ h => by cases h; exact ⟨Tryd.func104, Tryd.call104⟩) Tr.nilAll Tr.nilAll
noncomputable def tabFuncs_521 : Tr (Func) := Tr.node (some Tryd.f40) tabFuncs_522 tabFuncs_524
theorem tabFuncs_521_all : ∀ k x, tabFuncs_521.get k = some x → PT2 (32 * k + 40) x := Tr.node_all (P := PT2) (a := 32) (b := 40) (fun _ h => by cases h; exact ⟨Tryd.func40, Tryd.call40⟩) tabFuncs_522_all tabFuncs_524_all
noncomputable def tabFuncs_526 : Tr (Func) := Tr.node (some Tryd.f88) Tr.nil Tr.nil
theorem tabFuncs_526_all : ∀ k x, tabFuncs_526.get k = some x → PT2 (64 * k + 88) x := Tr.node_all (P := PT2) (a := 64) (b := 88) (fun _ h => by cases h; exact ⟨Tryd.func88, Tryd.call88⟩) Tr.nilAll Tr.nilAll
noncomputable def tabFuncs_525 : Tr (Func) := Tr.node (some Tryd.f56) tabFuncs_526 Tr.nil
theorem tabFuncs_525_all : ∀ k x, tabFuncs_525.get k = some x → PT2 (32 * k + 56) x := Tr.node_all (P := PT2) (a := 32) (b := 56) (fun _ h => by cases h; exact ⟨Tryd.func56, Tryd.call56⟩) tabFuncs_526_all Tr.nilAll
noncomputable def tabFuncs_520 : Tr (Func) := Tr.node (some Tryd.f24) tabFuncs_521 tabFuncs_525
theorem tabFuncs_520_all : ∀ k x, tabFuncs_520.get k = some x → PT2 (16 * k + 24) x := Tr.node_all (P := PT2) (a := 16) (b := 24) (fun _ h => by cases h; exact ⟨Tryd.func24, Tryd.call24⟩) tabFuncs_521_all tabFuncs_525_all
noncomputable def tabFuncs_512 : Tr (Func) := Tr.node (some Tryd.f8) tabFuncs_513 tabFuncs_520
theorem tabFuncs_512_all : ∀ k x, tabFuncs_512.get k = some x → PT2 (8 * k + 8) x := Tr.node_all (P := PT2) (a := 8) (b := 8) (fun _ h => by cases h; exact ⟨Tryd.func8, Tryd.call8⟩) tabFuncs_513_all tabFuncs_520_all
noncomputable def tabFuncs_530 : Tr (Func) := Tr.node (some Tryd.f68) Tr.nil Tr.nil
theorem tabFuncs_530_all : ∀ k x, tabFuncs_530.get k = some x → PT2 (64 * k + 68) x := Tr.node_all (P := PT2) (a := 64) (b := 68) (fun _ h => by cases h; exact ⟨Tryd.func68, Tryd.call68⟩) Tr.nilAll Tr.nilAll
noncomputable def tabFuncs_531 : Tr (Func) := Tr.node (some Tryd.f100) Tr.nil Tr.nil
theorem tabFuncs_531_all : ∀ k x, tabFuncs_531.get k = some x → PT2 (64 * k + 100) x := Tr.node_all (P := PT2) (a := 64) (b := 100) (fun _ h => by cases h; exact ⟨Tryd.func100, Tryd.call100⟩) Tr.nilAll Tr.nilAll
noncomputable def tabFuncs_529 : Tr (Func) := Tr.node (some Tryd.f36) tabFuncs_530 tabFuncs_531
theorem tabFuncs_529_all : ∀ k x, tabFuncs_529.get k = some x → PT2 (32 * k + 36) x := Tr.node_all (P := PT2) (a := 32) (b := 36) (fun _ h => by cases h; exact ⟨Tryd.func36, Tryd.call36⟩) tabFuncs_530_all tabFuncs_531_all
noncomputable def tabFuncs_533 : Tr (Func) := Tr.node (some Tryd.f84) Tr.nil Tr.nil
theorem tabFuncs_533_all : ∀ k x, tabFuncs_533.get k = some x → PT2 (64 * k + 84) x := Tr.node_all (P := PT2) (a := 64) (b := 84) (fun _ h => by cases h; exact ⟨Tryd.func84, Tryd.call84⟩) Tr.nilAll Tr.nilAll
noncomputable def tabFuncs_534 : Tr (Func) := Tr.node (some Tryd.f116) Tr.nil Tr.nil
theorem tabFuncs_534_all : ∀ k x, tabFuncs_534.get k = some x → PT2 (64 * k + 116) x := Tr.node_all (P := PT2) (a := 64) (b := 116) (fun _ h => by cases h; exact ⟨Tryd.func116, Tryd.call116⟩) Tr.nilAll Tr.nilAll
noncomputable def tabFuncs_532 : Tr (Func) := Tr.node (some Tryd.f52) tabFuncs_533 tabFuncs_534
theorem tabFuncs_532_all : ∀ k x, tabFuncs_532.get k = some x → PT2 (32 * k + 52) x := Tr.node_all (P := PT2) (a := 32) (b := 52) (fun _ h => by cases h; exact ⟨Tryd.func52, Tryd.call52⟩) tabFuncs_533_all tabFuncs_534_all
noncomputable def tabFuncs_528 : Tr (Func) := Tr.node (some Tryd.f20) tabFuncs_529 tabFuncs_532
theorem tabFuncs_528_all : ∀ k x, tabFuncs_528.get k = some x → PT2 (16 * k + 20) x := Tr.node_all (P := PT2) (a := 16) (b := 20) (fun _ h => by cases h; exact ⟨Tryd.func20, Tryd.call20⟩) tabFuncs_529_all tabFuncs_532_all
noncomputable def tabFuncs_537 : Tr (Func) := Tr.node (some Tryd.f76) Tr.nil Tr.nil
theorem tabFuncs_537_all : ∀ k x, tabFuncs_537.get k = some x → PT2 (64 * k + 76) x := Tr.node_all (P := PT2) (a := 64) (b := 76) (fun _ h => by cases h; exact ⟨Tryd.func76, Tryd.call76⟩) Tr.nilAll Tr.nilAll
noncomputable def tabFuncs_538 : Tr (Func) := Tr.node (some Tryd.f108) Tr.nil Tr.nil
theorem tabFuncs_538_all : ∀ k x, tabFuncs_538.get k = some x → PT2 (64 * k + 108) x := Tr.node_all (P := PT2) (a := 64) (b := 108) (fun _ h => by cases h; exact ⟨Tryd.func108, Tryd.call108⟩) Tr.nilAll Tr.nilAll
noncomputable def tabFuncs_536 : Tr (Func) := Tr.node (some Tryd.f44) tabFuncs_537 tabFuncs_538
theorem tabFuncs_536_all : ∀ k x, tabFuncs_536.get k = some x → PT2 (32 * k + 44) x := Tr.node_all (P := PT2) (a := 32) (b := 44) (fun _ h => by cases h; exact ⟨Tryd.func44, Tryd.call44⟩) tabFuncs_537_all tabFuncs_538_all
noncomputable def tabFuncs_540 : Tr (Func) := Tr.node (some Tryd.f92) Tr.nil Tr.nil
theorem tabFuncs_540_all : ∀ k x, tabFuncs_540.get k = some x → PT2 (64 * k + 92) x := Tr.node_all (P := PT2) (a := 64) (b := 92) (fun _ h => by cases h; exact ⟨Tryd.func92, Tryd.call92⟩) Tr.nilAll Tr.nilAll
noncomputable def tabFuncs_539 : Tr (Func) := Tr.node (some Tryd.f60) tabFuncs_540 Tr.nil
theorem tabFuncs_539_all : ∀ k x, tabFuncs_539.get k = some x → PT2 (32 * k + 60) x := Tr.node_all (P := PT2) (a := 32) (b := 60) (fun _ h => by cases h; exact ⟨Tryd.func60, Tryd.call60⟩) tabFuncs_540_all Tr.nilAll
noncomputable def tabFuncs_535 : Tr (Func) := Tr.node (some Tryd.f28) tabFuncs_536 tabFuncs_539
theorem tabFuncs_535_all : ∀ k x, tabFuncs_535.get k = some x → PT2 (16 * k + 28) x := Tr.node_all (P := PT2) (a := 16) (b := 28) (fun _ h => by cases h; exact ⟨Tryd.func28, Tryd.call28⟩) tabFuncs_536_all tabFuncs_539_all
noncomputable def tabFuncs_527 : Tr (Func) := Tr.node (some Tryd.f12) tabFuncs_528 tabFuncs_535
theorem tabFuncs_527_all : ∀ k x, tabFuncs_527.get k = some x → PT2 (8 * k + 12) x := Tr.node_all (P := PT2) (a := 8) (b := 12) (fun _ h => by cases h; exact ⟨Tryd.func12, Tryd.call12⟩) tabFuncs_528_all tabFuncs_535_all
noncomputable def tabFuncs_511 : Tr (Func) := Tr.node (some Tryd.f4) tabFuncs_512 tabFuncs_527
theorem tabFuncs_511_all : ∀ k x, tabFuncs_511.get k = some x → PT2 (4 * k + 4) x := Tr.node_all (P := PT2) (a := 4) (b := 4) (fun _ h => by cases h; exact ⟨Tryd.func4, Tryd.call4⟩) tabFuncs_512_all tabFuncs_527_all
noncomputable def tabFuncs_545 : Tr (Func) := Tr.node (some Tryd.f66) Tr.nil Tr.nil
theorem tabFuncs_545_all : ∀ k x, tabFuncs_545.get k = some x → PT2 (64 * k + 66) x := Tr.node_all (P := PT2) (a := 64) (b := 66) (fun _ h => by cases h; exact ⟨Tryd.func66, Tryd.call66⟩) Tr.nilAll Tr.nilAll
noncomputable def tabFuncs_546 : Tr (Func) := Tr.node (some Tryd.f98) Tr.nil Tr.nil
theorem tabFuncs_546_all : ∀ k x, tabFuncs_546.get k = some x → PT2 (64 * k + 98) x := Tr.node_all (P := PT2) (a := 64) (b := 98) (fun _ h => by cases h; exact ⟨Tryd.func98, Tryd.call98⟩) Tr.nilAll Tr.nilAll
noncomputable def tabFuncs_544 : Tr (Func) := Tr.node (some Tryd.f34) tabFuncs_545 tabFuncs_546
theorem tabFuncs_544_all : ∀ k x, tabFuncs_544.get k = some x → PT2 (32 * k + 34) x := Tr.node_all (P := PT2) (a := 32) (b := 34) (fun _ h => by cases h; exact ⟨Tryd.func34, Tryd.call34⟩) tabFuncs_545_all tabFuncs_546_all
noncomputable def tabFuncs_548 : Tr (Func) := Tr.node (some Tryd.f82) Tr.nil Tr.nil
theorem tabFuncs_548_all : ∀ k x, tabFuncs_548.get k = some x → PT2 (64 * k + 82) x := Tr.node_all (P := PT2) (a := 64) (b := 82) (fun _ h => by cases h; exact ⟨Tryd.func82, Tryd.call82⟩) Tr.nilAll Tr.nilAll
noncomputable def tabFuncs_549 : Tr (Func) := Tr.node (some Tryd.f114) Tr.nil Tr.nil
theorem tabFuncs_549_all : ∀ k x, tabFuncs_549.get k = some x → PT2 (64 * k + 114) x := Tr.node_all (P := PT2) (a := 64) (b := 114) (fun _ h => by cases h; exact ⟨Tryd.func114, Tryd.call114⟩) Tr.nilAll Tr.nilAll
noncomputable def tabFuncs_547 : Tr (Func) := Tr.node (some Tryd.f50) tabFuncs_548 tabFuncs_549
theorem tabFuncs_547_all : ∀ k x, tabFuncs_547.get k = some x → PT2 (32 * k + 50) x := Tr.node_all (P := PT2) (a := 32) (b := 50) (fun _ h => by cases h; exact ⟨Tryd.func50, Tryd.call50⟩) tabFuncs_548_all tabFuncs_549_all
noncomputable def tabFuncs_543 : Tr (Func) := Tr.node (some Tryd.f18) tabFuncs_544 tabFuncs_547
theorem tabFuncs_543_all : ∀ k x, tabFuncs_543.get k = some x → PT2 (16 * k + 18) x := Tr.node_all (P := PT2) (a := 16) (b := 18) (fun _ h => by cases h; exact ⟨Tryd.func18, Tryd.call18⟩) tabFuncs_544_all tabFuncs_547_all
noncomputable def tabFuncs_552 : Tr (Func) := Tr.node (some Tryd.f74) Tr.nil Tr.nil
theorem tabFuncs_552_all : ∀ k x, tabFuncs_552.get k = some x → PT2 (64 * k + 74) x := Tr.node_all (P := PT2) (a := 64) (b := 74) (fun _ h => by cases h; exact ⟨Tryd.func74, Tryd.call74⟩) Tr.nilAll Tr.nilAll
noncomputable def tabFuncs_553 : Tr (Func) := Tr.node (some Tryd.f106) Tr.nil Tr.nil
theorem tabFuncs_553_all : ∀ k x, tabFuncs_553.get k = some x → PT2 (64 * k + 106) x := Tr.node_all (P := PT2) (a := 64) (b := 106) (fun _ h => by cases h; exact ⟨Tryd.func106, Tryd.call106⟩) Tr.nilAll Tr.nilAll
noncomputable def tabFuncs_551 : Tr (Func) := Tr.node (some Tryd.f42) tabFuncs_552 tabFuncs_553
theorem tabFuncs_551_all : ∀ k x, tabFuncs_551.get k = some x → PT2 (32 * k + 42) x := Tr.node_all (P := PT2) (a := 32) (b := 42) (fun _ h => by cases h; exact ⟨Tryd.func42, Tryd.call42⟩) tabFuncs_552_all tabFuncs_553_all
noncomputable def tabFuncs_555 : Tr (Func) := Tr.node (some Tryd.f90) Tr.nil Tr.nil
theorem tabFuncs_555_all : ∀ k x, tabFuncs_555.get k = some x → PT2 (64 * k + 90) x := Tr.node_all (P := PT2) (a := 64) (b := 90) (fun _ h => by cases h; exact ⟨Tryd.func90, Tryd.call90⟩) Tr.nilAll Tr.nilAll
noncomputable def tabFuncs_554 : Tr (Func) := Tr.node (some Tryd.f58) tabFuncs_555 Tr.nil
theorem tabFuncs_554_all : ∀ k x, tabFuncs_554.get k = some x → PT2 (32 * k + 58) x := Tr.node_all (P := PT2) (a := 32) (b := 58) (fun _ h => by cases h; exact ⟨Tryd.func58, Tryd.call58⟩) tabFuncs_555_all Tr.nilAll
noncomputable def tabFuncs_550 : Tr (Func) := Tr.node (some Tryd.f26) tabFuncs_551 tabFuncs_554
theorem tabFuncs_550_all : ∀ k x, tabFuncs_550.get k = some x → PT2 (16 * k + 26) x := Tr.node_all (P := PT2) (a := 16) (b := 26) (fun _ h => by cases h; exact ⟨Tryd.func26, Tryd.call26⟩) tabFuncs_551_all tabFuncs_554_all
noncomputable def tabFuncs_542 : Tr (Func) := Tr.node (some Tryd.f10) tabFuncs_543 tabFuncs_550
theorem tabFuncs_542_all : ∀ k x, tabFuncs_542.get k = some x → PT2 (8 * k + 10) x := Tr.node_all (P := PT2) (a := 8) (b := 10) (fun _ h => by cases h; exact ⟨Tryd.func10, Tryd.call10⟩) tabFuncs_543_all tabFuncs_550_all
noncomputable def tabFuncs_560 : Tr (Func) := Tr.node (some Tryd.f134) Tr.nil Tr.nil
theorem tabFuncs_560_all : ∀ k x, tabFuncs_560.get k = some x → PT2 (128 * k + 134) x := Tr.node_all (P := PT2) (a := 128) (b := 134) (fun _ h => by cases h; exact ⟨Tryd.func134, Tryd.call134⟩) Tr.nilAll Tr.nilAll
noncomputable def tabFuncs_559 : Tr (Func) := Tr.node (some Tryd.f70) tabFuncs_560 Tr.nil
theorem tabFuncs_559_all : ∀ k x, tabFuncs_559.get k = some x → PT2 (64 * k + 70) x := Tr.node_all (P := PT2) (a := 64) (b := 70) (fun _ h => by cases h; exact ⟨Tryd.func70, Tryd.call70⟩) tabFuncs_560_all Tr.nilAll
noncomputable def tabFuncs_561 : Tr (Func) := Tr.node (some Tryd.f102) Tr.nil Tr.nil
theorem tabFuncs_561_all : ∀ k x, tabFuncs_561.get k = some x → PT2 (64 * k + 102) x := Tr.node_all (P := PT2) (a := 64) (b := 102) (fun _ h => by cases h; exact ⟨Tryd.func102, Tryd.call102⟩) Tr.nilAll Tr.nilAll
noncomputable def tabFuncs_558 : Tr (Func) := Tr.node (some Tryd.f38) tabFuncs_559 tabFuncs_561
theorem tabFuncs_558_all : ∀ k x, tabFuncs_558.get k = some x → PT2 (32 * k + 38) x := Tr.node_all (P := PT2) (a := 32) (b := 38) (fun _ h => by cases h; exact ⟨Tryd.func38, Tryd.call38⟩) tabFuncs_559_all tabFuncs_561_all
noncomputable def tabFuncs_563 : Tr (Func) := Tr.node (some Tryd.f86) Tr.nil Tr.nil
theorem tabFuncs_563_all : ∀ k x, tabFuncs_563.get k = some x → PT2 (64 * k + 86) x := Tr.node_all (P := PT2) (a := 64) (b := 86) (fun _ h => by cases h; exact ⟨Tryd.func86, Tryd.call86⟩) Tr.nilAll Tr.nilAll
noncomputable def tabFuncs_562 : Tr (Func) := Tr.node (some Tryd.f54) tabFuncs_563 Tr.nil
theorem tabFuncs_562_all : ∀ k x, tabFuncs_562.get k = some x → PT2 (32 * k + 54) x := Tr.node_all (P := PT2) (a := 32) (b := 54) (fun _ h => by cases h; exact ⟨Tryd.func54, Tryd.call54⟩) tabFuncs_563_all Tr.nilAll
noncomputable def tabFuncs_557 : Tr (Func) := Tr.node (some Tryd.f22) tabFuncs_558 tabFuncs_562
theorem tabFuncs_557_all : ∀ k x, tabFuncs_557.get k = some x → PT2 (16 * k + 22) x := Tr.node_all (P := PT2) (a := 16) (b := 22) (fun _ h => by cases h; exact ⟨Tryd.func22, Tryd.call22⟩) tabFuncs_558_all tabFuncs_562_all
noncomputable def tabFuncs_566 : Tr (Func) := Tr.node (some Tryd.f78) Tr.nil Tr.nil
theorem tabFuncs_566_all : ∀ k x, tabFuncs_566.get k = some x → PT2 (64 * k + 78) x := Tr.node_all (P := PT2) (a := 64) (b := 78) (fun _ h => by cases h; exact ⟨Tryd.func78, Tryd.call78⟩) Tr.nilAll Tr.nilAll
noncomputable def tabFuncs_567 : Tr (Func) := Tr.node (some Tryd.f110) Tr.nil Tr.nil
theorem tabFuncs_567_all : ∀ k x, tabFuncs_567.get k = some x → PT2 (64 * k + 110) x := Tr.node_all (P := PT2) (a := 64) (b := 110) (fun _ h => by cases h; exact ⟨Tryd.func110, Tryd.call110⟩) Tr.nilAll Tr.nilAll
noncomputable def tabFuncs_565 : Tr (Func) := Tr.node (some Tryd.f46) tabFuncs_566 tabFuncs_567
theorem tabFuncs_565_all : ∀ k x, tabFuncs_565.get k = some x → PT2 (32 * k + 46) x := Tr.node_all (P := PT2) (a := 32) (b := 46) (fun _ h => by cases h; exact ⟨Tryd.func46, Tryd.call46⟩) tabFuncs_566_all tabFuncs_567_all
noncomputable def tabFuncs_569 : Tr (Func) := Tr.node (some Tryd.f94) Tr.nil Tr.nil
theorem tabFuncs_569_all : ∀ k x, tabFuncs_569.get k = some x → PT2 (64 * k + 94) x := Tr.node_all (P := PT2) (a := 64) (b := 94) (fun _ h => by cases h; exact ⟨Tryd.func94, Tryd.call94⟩) Tr.nilAll Tr.nilAll
noncomputable def tabFuncs_568 : Tr (Func) := Tr.node (some Tryd.f62) tabFuncs_569 Tr.nil
theorem tabFuncs_568_all : ∀ k x, tabFuncs_568.get k = some x → PT2 (32 * k + 62) x := Tr.node_all (P := PT2) (a := 32) (b := 62) (fun _ h => by cases h; exact ⟨Tryd.func62, Tryd.call62⟩) tabFuncs_569_all Tr.nilAll
noncomputable def tabFuncs_564 : Tr (Func) := Tr.node (some Tryd.f30) tabFuncs_565 tabFuncs_568
theorem tabFuncs_564_all : ∀ k x, tabFuncs_564.get k = some x → PT2 (16 * k + 30) x := Tr.node_all (P := PT2) (a := 16) (b := 30) (fun _ h => by cases h; exact ⟨Tryd.func30, Tryd.call30⟩) tabFuncs_565_all tabFuncs_568_all
noncomputable def tabFuncs_556 : Tr (Func) := Tr.node (some Tryd.f14) tabFuncs_557 tabFuncs_564
theorem tabFuncs_556_all : ∀ k x, tabFuncs_556.get k = some x → PT2 (8 * k + 14) x := Tr.node_all (P := PT2) (a := 8) (b := 14) (fun _ h => by cases h; exact ⟨Tryd.func14, Tryd.call14⟩) tabFuncs_557_all tabFuncs_564_all
noncomputable def tabFuncs_541 : Tr (Func) := Tr.node (some Tryd.f6) tabFuncs_542 tabFuncs_556
theorem tabFuncs_541_all : ∀ k x, tabFuncs_541.get k = some x → PT2 (4 * k + 6) x := Tr.node_all (P := PT2) (a := 4) (b := 6) (fun _ h => by cases h; exact ⟨Tryd.func6, Tryd.call6⟩) tabFuncs_542_all tabFuncs_556_all
noncomputable def tabFuncs_510 : Tr (Func) := Tr.node none tabFuncs_511 tabFuncs_541
theorem tabFuncs_510_all : ∀ k x, tabFuncs_510.get k = some x → PT2 (2 * k + 2) x := Tr.node_all (P := PT2) (a := 2) (b := 2) (fun _ h => by cases h) tabFuncs_511_all tabFuncs_541_all
noncomputable def tabFuncs_448 : Tr (Func) := Tr.node none tabFuncs_449 tabFuncs_510
theorem tabFuncs_448_all : ∀ k x, tabFuncs_448.get k = some x → PT2 (1 * k + 0) x := Tr.node_all (P := PT2) (a := 1) (b := 0) (fun _ h => by cases h) tabFuncs_449_all tabFuncs_510_all
noncomputable def tabFuncs : Tr (Func) := tabFuncs_448
theorem tabFuncs_all : ∀ k x, tabFuncs.get k = some x → (fun n x => Tryd.prog.funcs[n]? = some x ∧ ∀ args w, (callFunc n args).run Tryd.prog w = .ok (.enter n args) w) k x := fun k x h => by have := tabFuncs_448_all k x h; rwa [Nat.one_mul, Nat.add_zero] at this
theorem meths149 : MethOk Tryd.prog 149 [("minikin/task.put", 133)] := methOk_of (by kernel_rfl)
theorem meths159 : MethOk Tryd.prog 159 [("minikin/task.put", 134)] := methOk_of (by kernel_rfl)
theorem meths161 : MethOk Tryd.prog 161 [("minikin/task.put", 135)] := methOk_of (by kernel_rfl)
theorem meths163 : MethOk Tryd.prog 163 [("minikin/task.put", 136)] := methOk_of (by kernel_rfl)
noncomputable def tabMeths_577 : Tr (List (String × FuncId)) := Tr.node (some [("minikin/task.put", 134)]) Tr.nil Tr.nil
theorem tabMeths_577_all : ∀ k x, tabMeths_577.get k = some x → PT3 (128 * k + 159) x := Tr.node_all (P := PT3) (a := 128) (b := 159) (fun _ h => by cases h; exact meths159) Tr.nilAll Tr.nilAll
noncomputable def tabMeths_576 : Tr (List (String × FuncId)) := Tr.node none tabMeths_577 Tr.nil
theorem tabMeths_576_all : ∀ k x, tabMeths_576.get k = some x → PT3 (64 * k + 95) x := Tr.node_all (P := PT3) (a := 64) (b := 95) (fun _ h => by cases h) tabMeths_577_all Tr.nilAll
noncomputable def tabMeths_575 : Tr (List (String × FuncId)) := Tr.node none Tr.nil tabMeths_576
theorem tabMeths_575_all : ∀ k x, tabMeths_575.get k = some x → PT3 (32 * k + 31) x := Tr.node_all (P := PT3) (a := 32) (b := 31) (fun _ h => by cases h) Tr.nilAll tabMeths_576_all
noncomputable def tabMeths_574 : Tr (List (String × FuncId)) := Tr.node none tabMeths_575 Tr.nil
theorem tabMeths_574_all : ∀ k x, tabMeths_574.get k = some x → PT3 (16 * k + 15) x := Tr.node_all (P := PT3) (a := 16) (b := 15) (fun _ h => by cases h) tabMeths_575_all Tr.nilAll
noncomputable def tabMeths_573 : Tr (List (String × FuncId)) := Tr.node none tabMeths_574 Tr.nil
theorem tabMeths_573_all : ∀ k x, tabMeths_573.get k = some x → PT3 (8 * k + 7) x := Tr.node_all (P := PT3) (a := 8) (b := 7) (fun _ h => by cases h) tabMeths_574_all Tr.nilAll
noncomputable def tabMeths_582 : Tr (List (String × FuncId)) := Tr.node (some [("minikin/task.put", 136)]) Tr.nil Tr.nil
theorem tabMeths_582_all : ∀ k x, tabMeths_582.get k = some x → PT3 (128 * k + 163) x := Tr.node_all (P := PT3) (a := 128) (b := 163) (fun _ h => by cases h; exact meths163) Tr.nilAll Tr.nilAll
noncomputable def tabMeths_581 : Tr (List (String × FuncId)) := Tr.node none tabMeths_582 Tr.nil
theorem tabMeths_581_all : ∀ k x, tabMeths_581.get k = some x → PT3 (64 * k + 99) x := Tr.node_all (P := PT3) (a := 64) (b := 99) (fun _ h => by cases h) tabMeths_582_all Tr.nilAll
noncomputable def tabMeths_580 : Tr (List (String × FuncId)) := Tr.node none Tr.nil tabMeths_581
theorem tabMeths_580_all : ∀ k x, tabMeths_580.get k = some x → PT3 (32 * k + 35) x := Tr.node_all (P := PT3) (a := 32) (b := 35) (fun _ h => by cases h) Tr.nilAll tabMeths_581_all
noncomputable def tabMeths_579 : Tr (List (String × FuncId)) := Tr.node none tabMeths_580 Tr.nil
theorem tabMeths_579_all : ∀ k x, tabMeths_579.get k = some x → PT3 (16 * k + 19) x := Tr.node_all (P := PT3) (a := 16) (b := 19) (fun _ h => by cases h) tabMeths_580_all Tr.nilAll
noncomputable def tabMeths_578 : Tr (List (String × FuncId)) := Tr.node none tabMeths_579 Tr.nil
theorem tabMeths_578_all : ∀ k x, tabMeths_578.get k = some x → PT3 (8 * k + 11) x := Tr.node_all (P := PT3) (a := 8) (b := 11) (fun _ h => by cases h) tabMeths_579_all Tr.nilAll
noncomputable def tabMeths_572 : Tr (List (String × FuncId)) := Tr.node none tabMeths_573 tabMeths_578
theorem tabMeths_572_all : ∀ k x, tabMeths_572.get k = some x → PT3 (4 * k + 3) x := Tr.node_all (P := PT3) (a := 4) (b := 3) (fun _ h => by cases h) tabMeths_573_all tabMeths_578_all
noncomputable def tabMeths_588 : Tr (List (String × FuncId)) := Tr.node (some [("minikin/task.put", 135)]) Tr.nil Tr.nil
theorem tabMeths_588_all : ∀ k x, tabMeths_588.get k = some x → PT3 (128 * k + 161) x := Tr.node_all (P := PT3) (a := 128) (b := 161) (fun _ h => by cases h; exact meths161) Tr.nilAll Tr.nilAll
noncomputable def tabMeths_587 : Tr (List (String × FuncId)) := Tr.node none tabMeths_588 Tr.nil
theorem tabMeths_587_all : ∀ k x, tabMeths_587.get k = some x → PT3 (64 * k + 97) x := Tr.node_all (P := PT3) (a := 64) (b := 97) (fun _ h => by cases h) tabMeths_588_all Tr.nilAll
noncomputable def tabMeths_586 : Tr (List (String × FuncId)) := Tr.node none Tr.nil tabMeths_587
theorem tabMeths_586_all : ∀ k x, tabMeths_586.get k = some x → PT3 (32 * k + 33) x := Tr.node_all (P := PT3) (a := 32) (b := 33) (fun _ h => by cases h) Tr.nilAll tabMeths_587_all
noncomputable def tabMeths_585 : Tr (List (String × FuncId)) := Tr.node none tabMeths_586 Tr.nil
theorem tabMeths_585_all : ∀ k x, tabMeths_585.get k = some x → PT3 (16 * k + 17) x := Tr.node_all (P := PT3) (a := 16) (b := 17) (fun _ h => by cases h) tabMeths_586_all Tr.nilAll
noncomputable def tabMeths_584 : Tr (List (String × FuncId)) := Tr.node none tabMeths_585 Tr.nil
theorem tabMeths_584_all : ∀ k x, tabMeths_584.get k = some x → PT3 (8 * k + 9) x := Tr.node_all (P := PT3) (a := 8) (b := 9) (fun _ h => by cases h) tabMeths_585_all Tr.nilAll
noncomputable def tabMeths_593 : Tr (List (String × FuncId)) := Tr.node (some [("minikin/task.put", 133)]) Tr.nil Tr.nil
theorem tabMeths_593_all : ∀ k x, tabMeths_593.get k = some x → PT3 (128 * k + 149) x := Tr.node_all (P := PT3) (a := 128) (b := 149) (fun _ h => by cases h; exact meths149) Tr.nilAll Tr.nilAll
noncomputable def tabMeths_592 : Tr (List (String × FuncId)) := Tr.node none tabMeths_593 Tr.nil
theorem tabMeths_592_all : ∀ k x, tabMeths_592.get k = some x → PT3 (64 * k + 85) x := Tr.node_all (P := PT3) (a := 64) (b := 85) (fun _ h => by cases h) tabMeths_593_all Tr.nilAll
noncomputable def tabMeths_591 : Tr (List (String × FuncId)) := Tr.node none tabMeths_592 Tr.nil
theorem tabMeths_591_all : ∀ k x, tabMeths_591.get k = some x → PT3 (32 * k + 53) x := Tr.node_all (P := PT3) (a := 32) (b := 53) (fun _ h => by cases h) tabMeths_592_all Tr.nilAll
noncomputable def tabMeths_590 : Tr (List (String × FuncId)) := Tr.node none Tr.nil tabMeths_591
theorem tabMeths_590_all : ∀ k x, tabMeths_590.get k = some x → PT3 (16 * k + 21) x := Tr.node_all (P := PT3) (a := 16) (b := 21) (fun _ h => by cases h) Tr.nilAll tabMeths_591_all
noncomputable def tabMeths_589 : Tr (List (String × FuncId)) := Tr.node none tabMeths_590 Tr.nil
theorem tabMeths_589_all : ∀ k x, tabMeths_589.get k = some x → PT3 (8 * k + 13) x := Tr.node_all (P := PT3) (a := 8) (b := 13) (fun _ h => by cases h) tabMeths_590_all Tr.nilAll
noncomputable def tabMeths_583 : Tr (List (String × FuncId)) := Tr.node none tabMeths_584 tabMeths_589
theorem tabMeths_583_all : ∀ k x, tabMeths_583.get k = some x → PT3 (4 * k + 5) x := Tr.node_all (P := PT3) (a := 4) (b := 5) (fun _ h => by cases h) tabMeths_584_all tabMeths_589_all
noncomputable def tabMeths_571 : Tr (List (String × FuncId)) := Tr.node none tabMeths_572 tabMeths_583
theorem tabMeths_571_all : ∀ k x, tabMeths_571.get k = some x → PT3 (2 * k + 1) x := Tr.node_all (P := PT3) (a := 2) (b := 1) (fun _ h => by cases h) tabMeths_572_all tabMeths_583_all
noncomputable def tabMeths_570 : Tr (List (String × FuncId)) := Tr.node none tabMeths_571 Tr.nil
theorem tabMeths_570_all : ∀ k x, tabMeths_570.get k = some x → PT3 (1 * k + 0) x := Tr.node_all (P := PT3) (a := 1) (b := 0) (fun _ h => by cases h) tabMeths_571_all Tr.nilAll
noncomputable def tabMeths : Tr (List (String × FuncId)) := tabMeths_570
theorem tabMeths_all : ∀ k x, tabMeths.get k = some x → (fun n x => MethOk Tryd.prog n x) k x := fun k x h => by have := tabMeths_570_all k x h; rwa [Nat.one_mul, Nat.add_zero] at this
theorem plain71 : Tryd.prog.stoodInHeld 71 = false := by kernel_rfl
theorem plain72 : Tryd.prog.stoodInHeld 72 = false := by kernel_rfl
theorem plain109 : Tryd.prog.stoodInHeld 109 = false := by kernel_rfl

noncomputable def tabGlobs : Tr Unit := (Tr.set Tr.nil 0 ())
noncomputable def tabPlain : Tr Unit := (Tr.set (Tr.set (Tr.set Tr.nil 71 ()) 72 ()) 109 ())
noncomputable def Tb : Tabs := ⟨tabInfo, tabUnd, tabFuncs, tabMeths, tabGlobs, .nil, [⟨0, ([0, 1, 56, 2, 57, 49, 28, 3, 61, 58, 42, 50, 38, 29, 17, 4, 62, 47, 59, 36, 45, 43, 51, 22, 53, 39, 33, 30, 24, 18, 12, 5, 63, 55, 48, 27, 60, 41, 37, 16, 46, 35, 44, 21, 52, 32, 23, 11, 54, 26, 40, 15, 34, 20, 31, 10, 25, 14, 19, 9, 13, 8, 7, 6] : List Nat).map fun n : Nat => Value.int .u8 (n : Int)⟩], tabPlain⟩
theorem Tb_ok : Tb.Ok Tryd.prog where
  info := fun t i h => (tabInfo_all t i h).1
  und := tabUnd_all
  func := fun f fn h => (tabFuncs_all f fn h).1
  call := fun f fn h => (tabFuncs_all f fn h).2
  meth := fun t l h x hx => (tabMeths_all t l h x hx).1
  ahead := fun t l h x hx => (tabMeths_all t l h x hx).2
  zero := fun t i z h => (tabInfo_all t i h).2 z
  mixed := by kernel_rfl
  plain := fun t u h => by
    have h : (Tr.set (Tr.set (Tr.set Tr.nil 71 ()) 72 ()) 109 ()).get t = some u := h
    rw [Tr.get_set] at h
    split at h
    · rename_i e; subst e; exact plain109
    rw [Tr.get_set] at h
    split at h
    · rename_i e; subst e; exact plain72
    rw [Tr.get_set] at h
    split at h
    · rename_i e; subst e; exact plain71
    rw [Tr.get_nil] at h; cases h
  short := fun f s h => by rw [show Tb.short = Tr.nil from rfl, Tr.get_nil] at h; cases h
end Go.Proofs.YtfnigiojgbeklaaDoor
