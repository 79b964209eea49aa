import Derived.Test.YtfnigiojgbeklaaDoorTt1
import Derived.Test.YtfnigiojgbeklaaDoorEngVr
import Derived.Test.YtfnigiojgbeklaaDoorEngPm
import Derived.Test.YtfnigiojgbeklaaDoorEngBt
import Derived.KernelRfl
import Derived.Test.YtfnigiojgbeklaaDoorEngRe
set_option linter.unusedSimpArgs false
set_option linter.unusedVariables false
set_option linter.unusedSectionVars false
open Go Go.Eng
namespace Go.Proofs.YtfnigiojgbeklaaDoor
theorem und2 : T0.und.get 2 = some (.int .i64) := by kernel_rfl
theorem z2 : Tryd.t2.zero = some (.int .i64 0) := by kernel_rfl
theorem und3 : T0.und.get 3 = some (.int .i64) := by kernel_rfl
theorem sz3 : aSize T0 3 = some 1 := by kernel_rfl
theorem inf3 : T0.info.get 3 = some Tryd.t3 := by kernel_rfl
theorem is3 : Tryd.t3.size = 1 := by kernel_rfl
theorem by3 : Tryd.t3.bytes = 8 := by kernel_rfl
theorem zero3 : aZero T0 3 = some (.int .i64 0) := by kernel_rfl
theorem z3 : Tryd.t3.zero = some (.int .i64 0) := by kernel_rfl
theorem und4 : T0.und.get 4 = some .bool := by kernel_rfl
theorem sz4 : aSize T0 4 = some 1 := by kernel_rfl
theorem inf4 : T0.info.get 4 = some Tryd.t4 := by kernel_rfl
theorem is4 : Tryd.t4.size = 1 := by kernel_rfl
theorem by4 : Tryd.t4.bytes = 1 := by kernel_rfl
theorem z4 : Tryd.t4.zero = some (.bool false) := by kernel_rfl
theorem und5 : T0.und.get 5 = some (.int .u8) := by kernel_rfl
theorem sz5 : aSize T0 5 = some 1 := by kernel_rfl
theorem z5 : Tryd.t5.zero = some (.int .u8 0) := by kernel_rfl
theorem und9 : T0.und.get 9 = some .string := by kernel_rfl
theorem und12 : T0.und.get 12 = some (.int .u64) := by kernel_rfl
theorem und13 : T0.und.get 13 = some Tryd.t13.desc := by kernel_rfl
theorem field13_0 (b o : Nat) : aField T0 13 (.pointer (some ⟨b, o, none⟩)) 0 = some (.pointer (some ⟨b, o, none⟩)) := by rfl
theorem field13_1 (b o : Nat) : aField T0 13 (.pointer (some ⟨b, o, none⟩)) 1 = some (.pointer (some ⟨b, o + 1, none⟩)) := by rfl
theorem und21 : T0.und.get 21 = some (.int .i32) := by kernel_rfl
theorem und22 : T0.und.get 22 = some (.slice 71) := by kernel_rfl
theorem inf22 : T0.info.get 22 = some Tryd.t22 := by kernel_rfl
theorem is22 : Tryd.t22.size = 1 := by kernel_rfl
theorem und23 : T0.und.get 23 = some Tryd.t23.desc := by kernel_rfl
theorem field23_0 (b o : Nat) : aField T0 23 (.pointer (some ⟨b, o, none⟩)) 0 = some (.pointer (some ⟨b, o, none⟩)) := by rfl
theorem field23_1 (b o : Nat) : aField T0 23 (.pointer (some ⟨b, o, none⟩)) 1 = some (.pointer (some ⟨b, o + 1, none⟩)) := by rfl
theorem und24 : T0.und.get 24 = some Tryd.t23.desc := by kernel_rfl
theorem inf24 : T0.info.get 24 = some Tryd.t24 := by kernel_rfl
theorem is24 : Tryd.t24.size = 2 := by kernel_rfl
theorem zero24 : aZero T0 24 = some (.agg ⟨[.int .i64 0, .slice none 0 0]⟩) := by kernel_rfl
theorem agg24 : isAggD Tryd.t23.desc = true := by kernel_rfl
theorem field24_0 (b o : Nat) : aField T0 24 (.pointer (some ⟨b, o, none⟩)) 0 = some (.pointer (some ⟨b, o, none⟩)) := by rfl
theorem field24_1 (b o : Nat) : aField T0 24 (.pointer (some ⟨b, o, none⟩)) 1 = some (.pointer (some ⟨b, o + 1, none⟩)) := by rfl
theorem und26 : T0.und.get 26 = some (.slice 72) := by kernel_rfl
theorem inf26 : T0.info.get 26 = some Tryd.t26 := by kernel_rfl
theorem is26 : Tryd.t26.size = 1 := by kernel_rfl
theorem und27 : T0.und.get 27 = some Tryd.t27.desc := by kernel_rfl
theorem field27_0 (b o : Nat) : aField T0 27 (.pointer (some ⟨b, o, none⟩)) 0 = some (.pointer (some ⟨b, o, none⟩)) := by rfl
theorem field27_1 (b o : Nat) : aField T0 27 (.pointer (some ⟨b, o, none⟩)) 1 = some (.pointer (some ⟨b, o + 1, none⟩)) := by rfl
theorem und28 : T0.und.get 28 = some Tryd.t27.desc := by kernel_rfl
theorem inf28 : T0.info.get 28 = some Tryd.t28 := by kernel_rfl
theorem is28 : Tryd.t28.size = 2 := by kernel_rfl
theorem zero28 : aZero T0 28 = some (.agg ⟨[.int .i64 0, .slice none 0 0]⟩) := by kernel_rfl
theorem agg28 : isAggD Tryd.t27.desc = true := by kernel_rfl
theorem field28_0 (b o : Nat) : aField T0 28 (.pointer (some ⟨b, o, none⟩)) 0 = some (.pointer (some ⟨b, o, none⟩)) := by rfl
theorem field28_1 (b o : Nat) : aField T0 28 (.pointer (some ⟨b, o, none⟩)) 1 = some (.pointer (some ⟨b, o + 1, none⟩)) := by rfl
theorem und30 : T0.und.get 30 = some (.slice 3) := by kernel_rfl
theorem sz30 : aSize T0 30 = some 1 := by kernel_rfl
theorem inf30 : T0.info.get 30 = some Tryd.t30 := by kernel_rfl
theorem is30 : Tryd.t30.size = 1 := by kernel_rfl
theorem by30 : Tryd.t30.bytes = 24 := by kernel_rfl
theorem z30 : Tryd.t30.zero = some (.slice none 0 0) := by kernel_rfl
theorem und31 : T0.und.get 31 = some (.int .i64) := by kernel_rfl
theorem und34 : T0.und.get 34 = some (.slice 40) := by kernel_rfl
theorem inf34 : T0.info.get 34 = some Tryd.t34 := by kernel_rfl
theorem is34 : Tryd.t34.size = 1 := by kernel_rfl
theorem zero34 : aZero T0 34 = some (.slice none 0 0) := by kernel_rfl
theorem und40 : T0.und.get 40 = some (.array 2 3) := by kernel_rfl
theorem sz40 : aSize T0 40 = some 2 := by kernel_rfl
theorem inf40 : T0.info.get 40 = some Tryd.t40 := by kernel_rfl
theorem is40 : Tryd.t40.size = 2 := by kernel_rfl
theorem by40 : Tryd.t40.bytes = 16 := by kernel_rfl
theorem z40 : Tryd.t40.zero = some (.agg ⟨[.int .i64 0, .int .i64 0]⟩) := by kernel_rfl
theorem und43 : T0.und.get 43 = some (.int .u64) := by kernel_rfl
theorem und48 : T0.und.get 48 = some (.slice 50) := by kernel_rfl
theorem und49 : T0.und.get 49 = some Tryd.t49.desc := by kernel_rfl
theorem field49_0 (b o : Nat) : aField T0 49 (.pointer (some ⟨b, o, none⟩)) 0 = some (.pointer (some ⟨b, o, none⟩)) := by rfl
theorem field49_1 (b o : Nat) : aField T0 49 (.pointer (some ⟨b, o, none⟩)) 1 = some (.pointer (some ⟨b, o + 1, none⟩)) := by rfl
theorem field49_2 (b o : Nat) : aField T0 49 (.pointer (some ⟨b, o, none⟩)) 2 = some (.pointer (some ⟨b, o + 2, none⟩)) := by rfl
theorem und50 : T0.und.get 50 = some Tryd.t49.desc := by kernel_rfl
theorem field50_0 (b o : Nat) : aField T0 50 (.pointer (some ⟨b, o, none⟩)) 0 = some (.pointer (some ⟨b, o, none⟩)) := by rfl
theorem field50_1 (b o : Nat) : aField T0 50 (.pointer (some ⟨b, o, none⟩)) 1 = some (.pointer (some ⟨b, o + 1, none⟩)) := by rfl
theorem field50_2 (b o : Nat) : aField T0 50 (.pointer (some ⟨b, o, none⟩)) 2 = some (.pointer (some ⟨b, o + 2, none⟩)) := by rfl
theorem und54 : T0.und.get 54 = some (.slice 4) := by kernel_rfl
theorem sz54 : aSize T0 54 = some 1 := by kernel_rfl
theorem inf54 : T0.info.get 54 = some Tryd.t54 := by kernel_rfl
theorem is54 : Tryd.t54.size = 1 := by kernel_rfl
theorem by54 : Tryd.t54.bytes = 24 := by kernel_rfl
theorem z54 : Tryd.t54.zero = some (.slice none 0 0) := by kernel_rfl
theorem und70 : T0.und.get 70 = some Tryd.t70.desc := by kernel_rfl
theorem field70_0 (b o : Nat) : aField T0 70 (.pointer (some ⟨b, o, none⟩)) 0 = some (.pointer (some ⟨b, o, none⟩)) := by rfl
theorem field70_1 (b o : Nat) : aField T0 70 (.pointer (some ⟨b, o, none⟩)) 1 = some (.pointer (some ⟨b, o + 1, none⟩)) := by rfl
theorem field70_2 (b o : Nat) : aField T0 70 (.pointer (some ⟨b, o, none⟩)) 2 = some (.pointer (some ⟨b, o + 2, none⟩)) := by rfl
theorem und71 : T0.und.get 71 = some Tryd.t70.desc := by kernel_rfl
theorem sz71 : aSize T0 71 = some 3 := by kernel_rfl
theorem inf71 : T0.info.get 71 = some Tryd.t71 := by kernel_rfl
theorem is71 : Tryd.t71.size = 3 := by kernel_rfl
theorem by71 : Tryd.t71.bytes = 24 := by kernel_rfl
theorem zero71 : aZero T0 71 = some (.agg ⟨[.int .i64 0, .int .i64 0, .int .i64 0]⟩) := by kernel_rfl
theorem z71 : Tryd.t71.zero = some (.agg ⟨[.int .i64 0, .int .i64 0, .int .i64 0]⟩) := by kernel_rfl
theorem agg71 : isAggD Tryd.t70.desc = true := by kernel_rfl
theorem field71_0 (b o : Nat) : aField T0 71 (.pointer (some ⟨b, o, none⟩)) 0 = some (.pointer (some ⟨b, o, none⟩)) := by rfl
theorem field71_1 (b o : Nat) : aField T0 71 (.pointer (some ⟨b, o, none⟩)) 1 = some (.pointer (some ⟨b, o + 1, none⟩)) := by rfl
theorem field71_2 (b o : Nat) : aField T0 71 (.pointer (some ⟨b, o, none⟩)) 2 = some (.pointer (some ⟨b, o + 2, none⟩)) := by rfl
theorem und72 : T0.und.get 72 = some Tryd.t70.desc := by kernel_rfl
theorem sz72 : aSize T0 72 = some 3 := by kernel_rfl
theorem inf72 : T0.info.get 72 = some Tryd.t72 := by kernel_rfl
theorem is72 : Tryd.t72.size = 3 := by kernel_rfl
theorem by72 : Tryd.t72.bytes = 24 := by kernel_rfl
theorem zero72 : aZero T0 72 = some (.agg ⟨[.int .i64 0, .int .i64 0, .int .i64 0]⟩) := by kernel_rfl
theorem z72 : Tryd.t72.zero = some (.agg ⟨[.int .i64 0, .int .i64 0, .int .i64 0]⟩) := by kernel_rfl
theorem agg72 : isAggD Tryd.t70.desc = true := by kernel_rfl
theorem field72_0 (b o : Nat) : aField T0 72 (.pointer (some ⟨b, o, none⟩)) 0 = some (.pointer (some ⟨b, o, none⟩)) := by rfl
theorem field72_1 (b o : Nat) : aField T0 72 (.pointer (some ⟨b, o, none⟩)) 1 = some (.pointer (some ⟨b, o + 1, none⟩)) := by rfl
theorem field72_2 (b o : Nat) : aField T0 72 (.pointer (some ⟨b, o, none⟩)) 2 = some (.pointer (some ⟨b, o + 2, none⟩)) := by rfl
theorem und79 : T0.und.get 79 = some (.slice 54) := by kernel_rfl
theorem sz79 : aSize T0 79 = some 1 := by kernel_rfl
theorem inf79 : T0.info.get 79 = some Tryd.t79 := by kernel_rfl
theorem is79 : Tryd.t79.size = 1 := by kernel_rfl
theorem by79 : Tryd.t79.bytes = 24 := by kernel_rfl
theorem z79 : Tryd.t79.zero = some (.slice none 0 0) := by kernel_rfl
theorem und81 : T0.und.get 81 = some (.pointer 121) := by kernel_rfl
theorem und86 : T0.und.get 86 = some (.slice 89) := by kernel_rfl
theorem inf86 : T0.info.get 86 = some Tryd.t86 := by kernel_rfl
theorem is86 : Tryd.t86.size = 1 := by kernel_rfl
theorem zero86 : aZero T0 86 = some (.slice none 0 0) := by kernel_rfl
theorem und88 : T0.und.get 88 = some (.int .u64) := by kernel_rfl
theorem und89 : T0.und.get 89 = some (.int .u64) := by kernel_rfl
theorem sz89 : aSize T0 89 = some 1 := by kernel_rfl
theorem inf89 : T0.info.get 89 = some Tryd.t89 := by kernel_rfl
theorem is89 : Tryd.t89.size = 1 := by kernel_rfl
theorem by89 : Tryd.t89.bytes = 8 := by kernel_rfl
theorem zero89 : aZero T0 89 = some (.int .u64 0) := by kernel_rfl
theorem z89 : Tryd.t89.zero = some (.int .u64 0) := by kernel_rfl
theorem und94 : T0.und.get 94 = some (.slice 79) := by kernel_rfl
theorem und99 : T0.und.get 99 = some (.pointer 146) := by kernel_rfl
theorem und108 : T0.und.get 108 = some Tryd.t108.desc := by kernel_rfl
theorem field108_0 (b o : Nat) : aField T0 108 (.pointer (some ⟨b, o, none⟩)) 0 = some (.pointer (some ⟨b, o, none⟩)) := by rfl
theorem field108_1 (b o : Nat) : aField T0 108 (.pointer (some ⟨b, o, none⟩)) 1 = some (.pointer (some ⟨b, o + 1, none⟩)) := by rfl
theorem field108_2 (b o : Nat) : aField T0 108 (.pointer (some ⟨b, o, none⟩)) 2 = some (.pointer (some ⟨b, o + 2, none⟩)) := by rfl
theorem und109 : T0.und.get 109 = some Tryd.t108.desc := by kernel_rfl
theorem field109_0 (b o : Nat) : aField T0 109 (.pointer (some ⟨b, o, none⟩)) 0 = some (.pointer (some ⟨b, o, none⟩)) := by rfl
theorem field109_1 (b o : Nat) : aField T0 109 (.pointer (some ⟨b, o, none⟩)) 1 = some (.pointer (some ⟨b, o + 1, none⟩)) := by rfl
theorem field109_2 (b o : Nat) : aField T0 109 (.pointer (some ⟨b, o, none⟩)) 2 = some (.pointer (some ⟨b, o + 2, none⟩)) := by rfl
theorem und110 : T0.und.get 110 = some (.slice 5) := by kernel_rfl
theorem und118 : T0.und.get 118 = some (.array 64 89) := by kernel_rfl
theorem sz118 : aSize T0 118 = some 64 := by kernel_rfl
theorem und119 : T0.und.get 119 = some (.array 10 118) := by kernel_rfl
theorem und120 : T0.und.get 120 = some Tryd.t120.desc := by kernel_rfl
theorem field120_0 (b o : Nat) : aField T0 120 (.pointer (some ⟨b, o, none⟩)) 0 = some (.pointer (some ⟨b, o, none⟩)) := by rfl
theorem field120_1 (b o : Nat) : aField T0 120 (.pointer (some ⟨b, o, none⟩)) 1 = some (.pointer (some ⟨b, o + 1, none⟩)) := by rfl
theorem und121 : T0.und.get 121 = some Tryd.t120.desc := by kernel_rfl
theorem field121_0 (b o : Nat) : aField T0 121 (.pointer (some ⟨b, o, none⟩)) 0 = some (.pointer (some ⟨b, o, none⟩)) := by rfl
theorem field121_1 (b o : Nat) : aField T0 121 (.pointer (some ⟨b, o, none⟩)) 1 = some (.pointer (some ⟨b, o + 1, none⟩)) := by rfl
theorem und123 : T0.und.get 123 = some (.pointer 118) := by kernel_rfl
theorem und134 : T0.und.get 134 = some (.slice 30) := by kernel_rfl
theorem und143 : T0.und.get 143 = some (.map 109 105) := by kernel_rfl
theorem und144 : T0.und.get 144 = some (.slice 86) := by kernel_rfl
theorem und145 : T0.und.get 145 = some Tryd.t145.desc := by kernel_rfl
theorem field145_0 (b o : Nat) : aField T0 145 (.pointer (some ⟨b, o, none⟩)) 0 = some (.pointer (some ⟨b, o, none⟩)) := by rfl
theorem field145_1 (b o : Nat) : aField T0 145 (.pointer (some ⟨b, o, none⟩)) 1 = some (.pointer (some ⟨b, o + 1, none⟩)) := by rfl
theorem field145_2 (b o : Nat) : aField T0 145 (.pointer (some ⟨b, o, none⟩)) 2 = some (.pointer (some ⟨b, o + 2, none⟩)) := by rfl
theorem und146 : T0.und.get 146 = some Tryd.t145.desc := by kernel_rfl
theorem field146_0 (b o : Nat) : aField T0 146 (.pointer (some ⟨b, o, none⟩)) 0 = some (.pointer (some ⟨b, o, none⟩)) := by rfl
theorem field146_1 (b o : Nat) : aField T0 146 (.pointer (some ⟨b, o, none⟩)) 1 = some (.pointer (some ⟨b, o + 1, none⟩)) := by rfl
theorem field146_2 (b o : Nat) : aField T0 146 (.pointer (some ⟨b, o, none⟩)) 2 = some (.pointer (some ⟨b, o + 2, none⟩)) := by rfl
theorem und148 : T0.und.get 148 = some Tryd.t148.desc := by kernel_rfl
theorem und149 : T0.und.get 149 = some Tryd.t148.desc := by kernel_rfl
theorem und150 : T0.und.get 150 = some (.slice 105) := by kernel_rfl
theorem und153 : T0.und.get 153 = some (.pointer 155) := by kernel_rfl
theorem und154 : T0.und.get 154 = some Tryd.t154.desc := by kernel_rfl
theorem field154_0 (b o : Nat) : aField T0 154 (.pointer (some ⟨b, o, none⟩)) 0 = some (.pointer (some ⟨b, o, none⟩)) := by rfl
theorem field154_1 (b o : Nat) : aField T0 154 (.pointer (some ⟨b, o, none⟩)) 1 = some (.pointer (some ⟨b, o + 1, none⟩)) := by rfl
theorem und155 : T0.und.get 155 = some Tryd.t154.desc := by kernel_rfl
theorem field155_0 (b o : Nat) : aField T0 155 (.pointer (some ⟨b, o, none⟩)) 0 = some (.pointer (some ⟨b, o, none⟩)) := by rfl
theorem field155_1 (b o : Nat) : aField T0 155 (.pointer (some ⟨b, o, none⟩)) 1 = some (.pointer (some ⟨b, o + 1, none⟩)) := by rfl
theorem und157 : T0.und.get 157 = some Tryd.t148.desc := by kernel_rfl
theorem und165 : T0.und.get 165 = some (.array 64 26) := by kernel_rfl
theorem und167 : T0.und.get 167 = some (.map 89 2) := by kernel_rfl
theorem und168 : T0.und.get 168 = some (.map 89 2) := by kernel_rfl
theorem und178 : T0.und.get 178 = some Tryd.t178.desc := by kernel_rfl
theorem field178_0 (b o : Nat) : aField T0 178 (.pointer (some ⟨b, o, none⟩)) 0 = some (.pointer (some ⟨b, o, none⟩)) := by rfl
theorem field178_1 (b o : Nat) : aField T0 178 (.pointer (some ⟨b, o, none⟩)) 1 = some (.pointer (some ⟨b, o + 1, none⟩)) := by rfl
theorem field178_2 (b o : Nat) : aField T0 178 (.pointer (some ⟨b, o, none⟩)) 2 = some (.pointer (some ⟨b, o + 2, none⟩)) := by rfl
theorem field178_3 (b o : Nat) : aField T0 178 (.pointer (some ⟨b, o, none⟩)) 3 = some (.pointer (some ⟨b, o + 3, none⟩)) := by rfl
theorem und179 : T0.und.get 179 = some Tryd.t178.desc := by kernel_rfl
theorem field179_0 (b o : Nat) : aField T0 179 (.pointer (some ⟨b, o, none⟩)) 0 = some (.pointer (some ⟨b, o, none⟩)) := by rfl
theorem field179_1 (b o : Nat) : aField T0 179 (.pointer (some ⟨b, o, none⟩)) 1 = some (.pointer (some ⟨b, o + 1, none⟩)) := by rfl
theorem field179_2 (b o : Nat) : aField T0 179 (.pointer (some ⟨b, o, none⟩)) 2 = some (.pointer (some ⟨b, o + 2, none⟩)) := by rfl
theorem field179_3 (b o : Nat) : aField T0 179 (.pointer (some ⟨b, o, none⟩)) 3 = some (.pointer (some ⟨b, o + 3, none⟩)) := by rfl
theorem und187 : T0.und.get 187 = some (.slice 189) := by kernel_rfl
theorem und188 : T0.und.get 188 = some Tryd.t188.desc := by kernel_rfl
theorem field188_0 (b o : Nat) : aField T0 188 (.pointer (some ⟨b, o, none⟩)) 0 = some (.pointer (some ⟨b, o, none⟩)) := by rfl
theorem field188_1 (b o : Nat) : aField T0 188 (.pointer (some ⟨b, o, none⟩)) 1 = some (.pointer (some ⟨b, o + 1, none⟩)) := by rfl
theorem und189 : T0.und.get 189 = some Tryd.t188.desc := by kernel_rfl
theorem field189_0 (b o : Nat) : aField T0 189 (.pointer (some ⟨b, o, none⟩)) 0 = some (.pointer (some ⟨b, o, none⟩)) := by rfl
theorem field189_1 (b o : Nat) : aField T0 189 (.pointer (some ⟨b, o, none⟩)) 1 = some (.pointer (some ⟨b, o + 1, none⟩)) := by rfl
theorem und190 : T0.und.get 190 = some (.map 192 3) := by kernel_rfl
theorem und191 : T0.und.get 191 = some (.array 10 89) := by kernel_rfl
theorem und192 : T0.und.get 192 = some (.array 10 89) := by kernel_rfl
theorem inf192 : T0.info.get 192 = some Tryd.t192 := by kernel_rfl
theorem is192 : Tryd.t192.size = 10 := by kernel_rfl
theorem zero192 : aZero T0 192 = some (.agg ⟨List.replicate 10 (.int .u64 0)⟩) := by kernel_rfl
theorem und193 : T0.und.get 193 = some (.array 64 5) := by kernel_rfl
theorem und199 : T0.und.get 199 = some (.pointer 179) := by kernel_rfl
theorem und214 : T0.und.get 214 = some (.int .u32) := by kernel_rfl
theorem und218 : T0.und.get 218 = some (.pointer 5) := by kernel_rfl
theorem fun3 : T0.funcs.get 3 = some Tryd.f3 := by kernel_rfl
theorem fun10 : T0.funcs.get 10 = some Tryd.f10 := by kernel_rfl
theorem fun11 : T0.funcs.get 11 = some Tryd.f11 := by kernel_rfl
theorem fun12 : T0.funcs.get 12 = some Tryd.f12 := by kernel_rfl
theorem fun13 : T0.funcs.get 13 = some Tryd.f13 := by kernel_rfl
theorem fun14 : T0.funcs.get 14 = some Tryd.f14 := by kernel_rfl
theorem fun15 : T0.funcs.get 15 = some Tryd.f15 := by kernel_rfl
theorem fun16 : T0.funcs.get 16 = some Tryd.f16 := by kernel_rfl
theorem fun17 : T0.funcs.get 17 = some Tryd.f17 := by kernel_rfl
theorem fun18 : T0.funcs.get 18 = some Tryd.f18 := by kernel_rfl
theorem fun19 : T0.funcs.get 19 = some Tryd.f19 := by kernel_rfl
theorem fun36 : T0.funcs.get 36 = some Tryd.f36 := by kernel_rfl
theorem fun37 : T0.funcs.get 37 = some Tryd.f37 := by kernel_rfl
theorem fun38 : T0.funcs.get 38 = some Tryd.f38 := by kernel_rfl
theorem fun39 : T0.funcs.get 39 = some Tryd.f39 := by kernel_rfl
theorem fun40 : T0.funcs.get 40 = some Tryd.f40 := by kernel_rfl
theorem fun41 : T0.funcs.get 41 = some Tryd.f41 := by kernel_rfl
theorem fun42 : T0.funcs.get 42 = some Tryd.f42 := by kernel_rfl
theorem fun43 : T0.funcs.get 43 = some Tryd.f43 := by kernel_rfl
theorem fun44 : T0.funcs.get 44 = some Tryd.f44 := by kernel_rfl
theorem fun45 : T0.funcs.get 45 = some Tryd.f45 := by kernel_rfl
theorem fun49 : T0.funcs.get 49 = some Tryd.f49 := by kernel_rfl
theorem fun58 : T0.funcs.get 58 = some Tryd.f58 := by kernel_rfl
theorem fun59 : T0.funcs.get 59 = some Tryd.f59 := by kernel_rfl
theorem fun60 : T0.funcs.get 60 = some Tryd.f60 := by kernel_rfl
theorem fun66 : T0.funcs.get 66 = some Tryd.f66 := by kernel_rfl
theorem fun67 : T0.funcs.get 67 = some Tryd.f67 := by kernel_rfl
theorem fun68 : T0.funcs.get 68 = some Tryd.f68 := by kernel_rfl
theorem fun69 : T0.funcs.get 69 = some Tryd.f69 := by kernel_rfl
theorem fun70 : T0.funcs.get 70 = some Tryd.f70 := by kernel_rfl
theorem fun71 : T0.funcs.get 71 = some Tryd.f71 := by kernel_rfl
theorem fun72 : T0.funcs.get 72 = some Tryd.f72 := by kernel_rfl
theorem fun73 : T0.funcs.get 73 = some Tryd.f73 := by kernel_rfl
theorem fun83 : T0.funcs.get 83 = some Tryd.f83 := by kernel_rfl
theorem fun84 : T0.funcs.get 84 = some Tryd.f84 := by kernel_rfl
theorem fun85 : T0.funcs.get 85 = some Tryd.f85 := by kernel_rfl
theorem fun86 : T0.funcs.get 86 = some Tryd.f86 := by kernel_rfl
theorem fun87 : T0.funcs.get 87 = some Tryd.f87 := by kernel_rfl
theorem conv_3_43 (W : AW) (k : IntKind) (n : Int) : aConv T0 W 3 43 (.int k n) = some (.int .u64 (IntKind.u64.wrap n)) := by kernel_rfl
theorem conv_5_3 (W : AW) (k : IntKind) (n : Int) : aConv T0 W 5 3 (.int k n) = some (.int .i64 (IntKind.i64.wrap n)) := by kernel_rfl
theorem conv_43_3 (W : AW) (k : IntKind) (n : Int) : aConv T0 W 43 3 (.int k n) = some (.int .i64 (IntKind.i64.wrap n)) := by kernel_rfl
end Go.Proofs.YtfnigiojgbeklaaDoor

open Go Go.Eng
namespace Go.Proofs.YtfnigiojgbeklaaDoor
attribute [local congr] undef_congr WpK.congr WpS.congr WpL.congr WpC.congr WpF.congr gotS.congr callS.congr nextS.congr wantS.congr condS.congr
attribute [local irreducible] WpK
attribute [local simp] WpDr_nil WpDr_cons atS_some dwantS_true dwantS_false kindS_light kindS_float kindS_heavy lightS_value floatS_some heavyS_value heavyS_skip heavyS_enter dcallS_some doneS_eq
  isLight isFloat isPlain dLook testBit_dec dChain dLights_nil dLights_skip dLights_one dLight_nil dLight_cons dFreshes_nil dFreshes_one oneF_none oneF_some dFresh_nil dFresh_cons oneL_some oneW_true oneW_false sameV_value dPut dMay valEq arrEq listEq List.getElem?_cons Tr.get_nil dEnd
attribute [local simp] WpS_nil WpS_cons isDefer undef_false wantS_true wantS_false nextS_value nextS_skip nextS_enter callS_some gotS_some aWanted aOp aEvalF aEval opMove opAssign opPick aVal flat flat1 AAct.put opBinOp opConvert opIndex Tr.get_set Tr.get_lay aBin aResults tupled
  aCall aVals aCallB blt_dec ble_dec beq_dec aBinI_add aBinI_sub aBinI_lss aBinI_leq aBinI_gtr aBinI_geq aBinI_eql aBinI_neq index_str len_str len_slice Nat.beq_refl Nat.beq_refl
  opBox opLoad opFieldAddr opIndexAddr acells aAddr opExtract aExtract opUnOp opAlloc opStore opMakeInterface opNilCheck opBuild aParts opBuildSlice aValW
attribute [local simp] und2 und3 und4 und5 und9 und12 und13 und21 und22 und23 und24 und26 und27 und28 und30 und31 und34 und40 und43 und48 und49 und50 und54 und70 und71 und72 und79 und81 und86 und88 und89 und94 und99 und108 und109 und110 und118 und119 und120 und121 und123 und134 und143 und144 und145 und146 und148 und149 und150 und153 und154 und155 und157 und165 und167 und168 und178 und179 und187 und188 und189 und190 und191 und192 und193 und199 und214 und218 field13_0 field13_1 field23_0 field23_1 field24_0 field24_1 field27_0 field27_1 field28_0 field28_1 field49_0 field49_1 field49_2 field50_0 field50_1 field50_2 field70_0 field70_1 field70_2 field71_0 field71_1 field71_2 field72_0 field72_1 field72_2 field108_0 field108_1 field108_2 field109_0 field109_1 field109_2 field120_0 field120_1 field121_0 field121_1 field145_0 field145_1 field145_2 field146_0 field146_1 field146_2 field154_0 field154_1 field155_0 field155_1 field178_0 field178_1 field178_2 field178_3 field179_0 field179_1 field179_2 field179_3 field188_0 field188_1 field189_0 field189_1
set_option maxHeartbeats 4000000
set_option linter.unusedSimpArgs false
set_option linter.unusedVariables false
@[simp] theorem nilck (a : Addr) : nilChecked T0 (.pointer (some a)) = true := rfl
@[simp] theorem aUn_not (b : Bool) : aUn .not (.bool b) = some (.bool (!b)) := by cases b <;> rfl
theorem load_of {W : AW} {t : TypeId} {d : TypeDesc} {b o : Nat} {v : Value} (hd : T0.und.get t = some d) (ha : isAggD d = false) (h : W.Has b o v) : aLoadVar T0 W t b o = some v := by
  rw [loadVar_cell hd ha]; exact h.2
theorem tabs_name : ∀ t ∈ T0.tabs, t.name = 0 := fun t h => by
  have h : t ∈ [_] := h
  rw [List.mem_singleton] at h; rw [h]
theorem tabs_ext {W W' : AW} (h : tabsIn T0 T0.tabs W = true) (h0 : 0 < W.next) (he : Ext W W') : tabsIn T0 T0.tabs W' = true := tabsIn_only h (fun t ht => he.2 t.name (by rw [tabs_name t ht]; exact h0) (fun x => x))
theorem tabs_only {W W' : AW} {K : Nat → Prop} (h : tabsIn T0 T0.tabs W = true) (h0 : 0 < W.next) (he : Only K W W') (hk : ¬ K 0) : tabsIn T0 T0.tabs W' = true := tabsIn_only h (fun t ht => he.2 t.name (by rw [tabs_name t ht]; exact h0) (by rw [tabs_name t ht]; exact hk))
theorem freshB_var {W : AW} {p : Nat} {el : TypeId} {l : List Value} (h : Var W p el l) (hl : listEq l l = true) : freshB W p el l = true := by
  obtain ⟨h1, c, h2, h3⟩ := h
  have ht : c.take 0 l.length = some l := take_get c l.length 0 l rfl (fun j hj => by rw [Nat.zero_add]; exact h3 j hj)
  simp only [freshB, h2, Nat.beq_refl, blt_dec, h1, decide_true, ht, hl]
theorem freshB_new (W : AW) (el : TypeId) (l : List Value) (h : listEq l l = true) : freshB (W.newCells el l) W.next el l = true := freshB_var (Var.new W el l) h
def memb (P s : Nat) : List Int := ((List.range P).filter (s.testBit ·)).map Int.ofNat
theorem memb_succ (P s : Nat) : memb (P + 1) s = memb P s ++ (if s.testBit P then [(P : Int)] else []) := by
  simp only [memb, List.range_succ, List.filter_append, List.map_append]
  cases h : s.testBit P <;> simp only [List.filter_cons, h, List.filter_nil] <;> rfl
theorem memb_len (P s : Nat) : (memb P s).length ≤ P := by
  simp only [memb, List.length_map]
  exact Nat.le_trans (List.length_filter_le _ _) (by simp)
theorem one_wp (p : Nat) (hp : p < 64) (W : AW) : WpF T0 49 [.int .i64 p] W (fun v W' => W' = W ∧ v = .int .u64 ((1 <<< p : Nat) : Int)) := by
  refine wpF fun49 rfl ?_
  have h1 : aBinI .shl .u64 1 .i64 (p : Int) = some (.int .u64 ((1 <<< p : Nat) : Int)) := aBinI_shl .u64 .i64 1 p (by show p ≤ 64; omega) (by
    rw [Nat.one_mul]; show 2 ^ p < 2 ^ 64; exact Nat.pow_lt_pow_right (by omega) hp)
  generalize 1 <<< p = r at h1
  try simp only [wpK_assoc]
  refine wpK_reg (fun R hR => by simp []; exact hR) ?_
  try simp only [wpK_assoc]
  refine wpK_reg (fun R hR => by simp [h1]; exact hR) ?_
  exact wpK_ret ⟨.inr rfl, rfl, [.int .u64 (r : Int)], by simp, rfl, rfl⟩
theorem u64_nat {n : Nat} (h : n < 18446744073709551616) : IntKind.u64.wrap (n : Int) = n := wrap_nat .u64 n h
theorem below_wp (p : Nat) (hp : p < 64) (W : AW) : WpF T0 85 [.int .i64 p] W (fun v W' => W' = W ∧ v = .int .u64 ((2 ^ p - 1 : Nat) : Int)) := by
  refine wpF fun85 rfl ?_
  have hlt : 2 ^ p < 2 ^ 64 := Nat.pow_lt_pow_right (by omega) hp
  have h0 := Nat.two_pow_pos p
  have h1 : aBinI .shl .u64 1 .i64 (p : Int) = some (.int .u64 ((2 ^ p : Nat) : Int)) := by
    have := aBinI_shl .u64 .i64 1 p (by show p ≤ 64; omega) (by rw [Nat.one_mul]; exact hlt)
    rw [Nat.shiftLeft_eq, Nat.one_mul] at this
    exact this
  generalize 2 ^ p = r at h1 hlt h0
  have h2 : IntKind.u64.wrap ((r : Int) - 1) = ((r - 1 : Nat) : Int) := by
    rw [show ((r : Int) - 1) = ((r - 1 : Nat) : Int) from by omega]; exact u64_nat (by have : r < 18446744073709551616 := hlt; omega)
  try simp only [wpK_assoc]
  refine wpK_reg (fun R hR => by simp []; exact hR) ?_
  try simp only [wpK_assoc]
  refine wpK_reg (fun R hR => by simp [h1, h2]; exact hR) ?_
  exact wpK_ret ⟨.inr rfl, rfl, [.int .u64 ((r - 1 : Nat) : Int)], by simp, rfl, rfl⟩
def tabN : List Nat := [0, 1, 56, 2, 57, 49, 28, 3, 61, 58, 42, 50, 38, 29, 17, 4, 62, 47, 59, 36, 45, 43, 51, 22, 53, 39, 33, 30, 24, 18, 12, 5, 63, 55, 48, 27, 60, 41, 37, 16, 46, 35, 44, 21, 52, 32, 23, 11, 54, 26, 40, 15, 34, 20, 31, 10, 25, 14, 19, 9, 13, 8, 7, 6]
theorem ix193 (i : Nat) (hi : i < 64) (k : IntKind) : aIndexAddr T0 193 (.pointer (some ⟨0, 0, none⟩)) (.int k (i : Nat)) = some (.pointer (some ⟨0, i, none⟩)) := by
  show aIndexAddr T0 193 (.pointer (some ⟨0, 0, none⟩)) (.int k (Int.ofNat i)) = _
  simp only [aIndexAddr, und193, sz5, blt_dec, hi, decide_true, Nat.mul_one, Nat.zero_add]
theorem glob0 : T0.globs.get 0 = some () := by kernel_rfl
theorem tbl_load {W : AW} (h : tabsIn T0 T0.tabs W = true) (i : Nat) (hi : i < 64) : aLoadVar T0 W 5 0 i = some (.int .u8 ((tabN.getD i 0 : Nat) : Int)) := by
  have h : tabsIn T0 [⟨0, tabN.map fun n : Nat => Value.int .u8 (n : Int)⟩] W = true := h
  simp only [tabsIn, glob0] at h
  split at h
  case h_2 => cases h
  rename_i hu ht
  have hlen : (tabN.map fun n : Nat => Value.int .u8 (n : Int)).length = 64 := by decide
  have := tabIn_cell ht i (by show i < (tabN.map _).length; omega)
  rw [loadVar_cell und5 rfl]
  rw [this]
  simp only [List.getElem_map]
  rw [List.getD_eq_getElem?_getD, List.getElem?_eq_getElem (show i < tabN.length by simpa using (show i < (tabN.map fun n : Nat => Value.int .u8 (n : Int)).length by omega))]
  rfl
theorem low_ex {x : Nat} (h : x ≠ 0) : ∃ k, x.testBit k = true ∧ ∀ j, j < k → x.testBit j = false := by
  have hx : ∃ k, x.testBit k = true := by
    apply Classical.byContradiction
    intro hn
    apply h
    apply Nat.eq_of_testBit_eq
    intro i
    rw [Nat.zero_testBit]
    cases hb : x.testBit i with
    | false => rfl
    | true => exact absurd ⟨i, hb⟩ hn
  obtain ⟨k, hk⟩ := hx
  induction k using Nat.strongRecOn with
  | _ k ih =>
    by_cases hj : ∃ j, j < k ∧ x.testBit j = true
    · obtain ⟨j, h1, h2⟩ := hj
      exact ih j h1 h2
    · refine ⟨k, hk, fun j hjk => ?_⟩
      cases hb : x.testBit j with
      | false => rfl
      | true => exact absurd ⟨j, hjk, hb⟩ hj
theorem low_bits {x k : Nat} (h1 : x.testBit k = true) (h2 : ∀ j, j < k → x.testBit j = false) : x = 2 ^ (k + 1) * (x / 2 ^ (k + 1)) + 2 ^ k := by
  have : x % 2 ^ (k + 1) = 2 ^ k := by
    apply Nat.eq_of_testBit_eq
    intro i
    rw [Nat.testBit_mod_two_pow, Nat.testBit_two_pow]
    by_cases e : i = k
    · subst e; simp [-testBit_dec, h1]
    · by_cases hlt : i < k
      · rw [h2 i hlt, decide_eq_false (show ¬ k = i by omega), Bool.and_false]
      · rw [decide_eq_false (show ¬ i < k + 1 by omega), decide_eq_false (show ¬ k = i by omega), Bool.false_and]
  have := Nat.div_add_mod x (2 ^ (k + 1))
  omega
theorem pred_bits {x k : Nat} (h1 : x.testBit k = true) (h2 : ∀ j, j < k → x.testBit j = false) (i : Nat) : (x - 1).testBit i = if i < k then true else if i = k then false else x.testBit i := by
  have hx := low_bits h1 h2
  have hp : 0 < 2 ^ k := Nat.two_pow_pos k
  have hp1 : 2 ^ (k + 1) = 2 * 2 ^ k := by rw [Nat.pow_succ]; omega
  have e1 : x - 1 = 2 ^ (k + 1) * (x / 2 ^ (k + 1)) + (2 ^ k - 1) := by omega
  rw [e1, Nat.testBit_two_pow_mul_add _ (by omega), Nat.testBit_two_pow_sub_one]
  by_cases hlt : i < k
  · rw [if_pos (by omega), if_pos hlt, decide_eq_true hlt]
  · rw [if_neg hlt]
    by_cases e : i = k
    · rw [if_pos (by omega), if_pos e, decide_eq_false (by omega)]
    · rw [if_neg (by omega), if_neg e]
      have : x.testBit i = (2 ^ (k + 1) * (x / 2 ^ (k + 1)) + 2 ^ k).testBit i := by rw [← hx]
      rw [this, Nat.testBit_two_pow_mul_add _ (by omega), if_neg (by omega)]
theorem bit_lt {x k n : Nat} (hx : x < 2 ^ n) (h1 : x.testBit k = true) : k < n := by
  by_cases hk : k < n
  · exact hk
  · have : x.testBit k = false := Nat.testBit_lt_two_pow (Nat.lt_of_lt_of_le hx (Nat.pow_le_pow_right (by omega) (by omega)))
    rw [this] at h1; cases h1
theorem low_and {x k : Nat} (hx : x < 18446744073709551616) (h1 : x.testBit k = true) (h2 : ∀ j, j < k → x.testBit j = false) : x &&& (18446744073709551616 - x) = 2 ^ k := by
  have hx0 : 0 < x := Nat.pos_of_ne_zero (fun e => by subst e; simp [-testBit_dec] at h1)
  have hk : k < 64 := bit_lt hx h1
  apply Nat.eq_of_testBit_eq
  intro i
  rw [Nat.testBit_and, show 18446744073709551616 - x = 2 ^ 64 - ((x - 1) + 1) from by omega, Nat.testBit_two_pow_sub_succ (by show x - 1 < 18446744073709551616; omega), pred_bits h1 h2, Nat.testBit_two_pow]
  by_cases hlt : i < k
  · rw [if_pos hlt, h2 i hlt, decide_eq_false (show ¬ k = i by omega), Bool.false_and]
  · rw [if_neg hlt]
    by_cases e : i = k
    · rw [if_pos e, e, h1, decide_eq_true hk, decide_eq_true rfl]; rfl
    · rw [if_neg e, decide_eq_false (show ¬ k = i by omega)]
      cases x.testBit i <;> simp
theorem brujin : ∀ k, k < 64 → tabN.getD ((2 ^ k * 285870213051353865 % 18446744073709551616) >>> 58) 0 = k ∧ (2 ^ k * 285870213051353865 % 18446744073709551616) >>> 58 < 64 := by decide +kernel
theorem neg_u64 {x : Nat} (h0 : 0 < x) (hx : x < 18446744073709551616) : aUn .neg (.int .u64 (x : Nat)) = some (.int .u64 ((18446744073709551616 - x : Nat) : Int)) := by
  obtain ⟨n, hn⟩ : ∃ n, n = 18446744073709551616 - x := ⟨_, rfl⟩
  rw [← hn]
  have hw : IntKind.u64.wrap (0 - (x : Int)) = (n : Int) := by rw [IntKind.wrap_u64]; omega
  clear hn
  generalize hz : (0 - (x : Int)) = z at hw
  have hu : Op.unary .neg (.int .u64 (x : Nat)) = Op.intArith .sub .u64 0 (x : Nat) := rfl
  simp only [aUn, hu, Op.intArith, aPure, pure, hz, hw, flat1]
section
attribute [local irreducible] aBinI
theorem tz_wp {W : AW} (hT : tabsIn T0 T0.tabs W = true) {x k : Nat} (hx : x < 18446744073709551616) (h1 : x.testBit k = true) (h2 : ∀ j, j < k → x.testBit j = false) : WpF T0 87 [.int .u64 (x : Nat)] W (fun v W' => W' = W ∧ v = .int .i64 (k : Nat)) := by
  have hx0 : 0 < x := Nat.pos_of_ne_zero (fun e => by subst e; simp [-testBit_dec] at h1)
  have hk : k < 64 := bit_lt hx h1
  have hneg := neg_u64 hx0 hx
  have hand := aBinI_and .u64 x (18446744073709551616 - x) hx (by show 18446744073709551616 - x < 18446744073709551616; omega)
  rw [low_and hx h1 h2] at hand
  obtain ⟨hb1, hb2⟩ := brujin k hk
  have hmul : aBinI .mul .u64 ((2 ^ k : Nat) : Int) .u64 285870213051353865 = some (.int .u64 ((2 ^ k * 285870213051353865 % 18446744073709551616 : Nat) : Int)) := by
    have hw : ∀ q : Nat, IntKind.u64.wrap ((q : Int) * 285870213051353865) = ((q * 285870213051353865 % 18446744073709551616 : Nat) : Int) := fun q => by rw [IntKind.wrap_u64]; omega
    rw [aBinI_mul, hw]
  have hsh : aBinI .shr .u64 ((2 ^ k * 285870213051353865 % 18446744073709551616 : Nat) : Int) .u64 58 = some (.int .u64 (((2 ^ k * 285870213051353865 % 18446744073709551616) >>> 58 : Nat) : Int)) := aBinI_shr .u64 .u64 _ 58 (by decide)
  generalize 2 ^ k = pk at hand hmul hsh hb1 hb2
  generalize pk * 285870213051353865 % 18446744073709551616 = mm at hmul hsh hb1 hb2
  generalize mm >>> 58 = ii at hsh hb1 hb2
  have hld := tbl_load hT ii hb2
  rw [hb1] at hld
  have hixx := ix193 ii hb2 .u64
  generalize hxn : 18446744073709551616 - x = xn at hneg hand
  have hwk : IntKind.i64.wrap (k : Int) = k := IntWalk.i64_in _ (by omega)
  refine wpF fun87 rfl ?_
  try simp only [wpK_assoc]
  refine wpK_reg (fun R hR => by simp []; exact hR) ?_
  try simp only [wpK_assoc]
  refine wpK_reg (fun R hR => by simp []; exact hR) ?_
  refine wpK_onF (by simp; omega) ?_
  have haA : aBin T0 .and 88 (.tmp 5) (.tmp 7) (.int .u64 (x : Nat)) (.int .u64 (xn : Nat)) = some (.int .u64 (pk : Nat)) := hand
  have haM : aBin T0 .mul 88 (.tmp 8) (.const (.int .u64 285870213051353865)) (.int .u64 (pk : Nat)) (.int .u64 285870213051353865) = some (.int .u64 (mm : Nat)) := hmul
  have haS : aBin T0 .shr 88 (.tmp 9) (.const (.int .u64 58)) (.int .u64 (mm : Nat)) (.int .u64 58) = some (.int .u64 (ii : Nat)) := hsh
  clear hand hmul hsh
  try simp only [wpK_assoc]
  refine wpK_regc (J := fun A' W' => W' = W ∧ A'.defers = [] ∧ A'.tmps.get 2 = some (.int .i64 (k : Nat))) (fun R hR => ?_) ?_
  · refine wpS_step (v := .int .u64 (x : Nat)) rfl rfl (by simp) rfl ?_
    refine wpS_step (v := .int .u64 (x : Nat)) rfl rfl (by simp) rfl ?_
    refine wpS_step (v := .int .u64 (xn : Nat)) rfl rfl (by simp [hneg]) rfl ?_
    refine wpS_step (v := .int .u64 (pk : Nat)) rfl rfl (aOp_bin rfl (by simp) (by simp) haA) rfl ?_
    refine wpS_step (v := .int .u64 (mm : Nat)) rfl rfl (aOp_bin rfl (by simp) rfl haM) rfl ?_
    refine wpS_step (v := .int .u64 (ii : Nat)) rfl rfl (aOp_bin rfl (by simp) rfl haS) rfl ?_
    refine wpS_step (v := .pointer (some ⟨0, ii, none⟩)) rfl rfl (aOp_ix rfl (aEvalF_glob glob0) (by simp) hixx) rfl ?_
    clear haA haM haS hixx
    simp [hld, conv_5_3, hwk]
    apply hR
    exact ⟨rfl, rfl, by simp⟩
  rintro ⟨tm, n, ds⟩ W' ⟨rfl, hd, h2⟩
  simp only at hd h2
  subst hd
  exact wpK_ret ⟨.inr rfl, rfl, [.int .i64 (k : Nat)], by simp [h2], rfl, rfl⟩
end
theorem first_wp {W : AW} (hT : tabsIn T0 T0.tabs W = true) {x k : Nat} (hx : x < 18446744073709551616) (h1 : x.testBit k = true) (h2 : ∀ j, j < k → x.testBit j = false) : WpF T0 73 [.int .u64 (x : Nat)] W (fun v W' => W' = W ∧ v = .int .i64 (k : Nat)) := by
  refine wpF fun73 rfl ?_
  try simp only [wpK_assoc]
  refine wpK_reg (fun R hR => by simp []; exact hR) ?_
  try simp only [wpK_assoc]
  refine wpK_reg (fun R hR => by
      simp [aEnter, fun87, short_other, aCallV]; rw [callS_none]
      refine (tz_wp hT hx h1 h2).mono ?_
      rintro _ W9 ⟨e9, rfl⟩; subst W9
      simp []; exact hR) ?_
  exact wpK_ret ⟨.inr rfl, rfl, [.int .i64 (k : Nat)], by simp, rfl, rfl⟩
end Go.Proofs.YtfnigiojgbeklaaDoor

open Go Go.Eng
namespace Go.Proofs.YtfnigiojgbeklaaDoor
attribute [local congr] undef_congr WpK.congr WpS.congr WpL.congr WpC.congr WpF.congr gotS.congr callS.congr nextS.congr wantS.congr condS.congr
attribute [local irreducible] WpK
attribute [local simp] WpDr_nil WpDr_cons atS_some dwantS_true dwantS_false kindS_light kindS_float kindS_heavy lightS_value floatS_some heavyS_value heavyS_skip heavyS_enter dcallS_some doneS_eq
  isLight isFloat isPlain dLook testBit_dec dChain dLights_nil dLights_skip dLights_one dLight_nil dLight_cons dFreshes_nil dFreshes_one oneF_none oneF_some dFresh_nil dFresh_cons oneL_some oneW_true oneW_false sameV_value dPut dMay valEq arrEq listEq List.getElem?_cons Tr.get_nil dEnd
attribute [local simp] WpS_nil WpS_cons isDefer undef_false wantS_true wantS_false nextS_value nextS_skip nextS_enter callS_some gotS_some aWanted aOp aEvalF aEval opMove opAssign opPick aVal flat flat1 AAct.put opBinOp opConvert opIndex Tr.get_set Tr.get_lay aBin aResults tupled
  aCall aVals aCallB blt_dec ble_dec beq_dec aBinI_add aBinI_sub aBinI_lss aBinI_leq aBinI_gtr aBinI_geq aBinI_eql aBinI_neq index_str len_str len_slice Nat.beq_refl Nat.beq_refl
  opBox opLoad opFieldAddr opIndexAddr acells aAddr opExtract aExtract opUnOp opAlloc opStore opMakeInterface opNilCheck opBuild aParts opBuildSlice aValW
attribute [local simp] und2 und3 und4 und5 und9 und12 und13 und21 und22 und23 und24 und26 und27 und28 und30 und31 und34 und40 und43 und48 und49 und50 und54 und70 und71 und72 und79 und81 und86 und88 und89 und94 und99 und108 und109 und110 und118 und119 und120 und121 und123 und134 und143 und144 und145 und146 und148 und149 und150 und153 und154 und155 und157 und165 und167 und168 und178 und179 und187 und188 und189 und190 und191 und192 und193 und199 und214 und218 field13_0 field13_1 field23_0 field23_1 field24_0 field24_1 field27_0 field27_1 field28_0 field28_1 field49_0 field49_1 field49_2 field50_0 field50_1 field50_2 field70_0 field70_1 field70_2 field71_0 field71_1 field71_2 field72_0 field72_1 field72_2 field108_0 field108_1 field108_2 field109_0 field109_1 field109_2 field120_0 field120_1 field121_0 field121_1 field145_0 field145_1 field145_2 field146_0 field146_1 field146_2 field154_0 field154_1 field155_0 field155_1 field178_0 field178_1 field178_2 field178_3 field179_0 field179_1 field179_2 field179_3 field188_0 field188_1 field189_0 field189_1
set_option maxHeartbeats 4000000
set_option linter.unusedSimpArgs false
set_option linter.unusedVariables false
theorem bs30 (W : AW) (n : Int) : aBuildSlice T0 W 30 1 [(0, .int .i64 n)] = some (.slice (some ⟨W.next, 0, none⟩) 1 2, W.newCells 3 [.int .i64 n]) := by kernel_rfl
def intsV (l : List Int) : List Value := l.map (Value.int .i64)
theorem wpK_range2 {T : Tabs} {f₀ : FuncId} {A : AAct} {W : AW} {Q : AExit → AAct → AW → Prop} {id : Nat} {b : Code} {g : Operand} {ps : Array Tmp} {asn bd : Code} {f : FuncId} {first cap : Array Value} {fn : Func}
    (hg : aEval T A.tmps g = some (.func (.func f) first cap)) (hf : T.funcs.get f = some fn)
    (h : ∀ W5 : AW, W5.next = W.next + 2 → (∀ b, b < W.next → W5.blocks.get b = W.blocks.get b) → W5.blocks.get W.next = some ⟨.deferred (some []), []⟩ → W5.blocks.get (W.next + 1) = some ⟨.loop .ready none f₀ A.tmps A.n ps asn bd W.next, []⟩ →
      WpF T f (first.toList ++ .func (.yield (W.next + 1)) #[] #[] :: cap.toList) W5 (fun _ W₂ =>
      ∃ st p fn' t' n' ps' as' bd' df', W₂.blocks.get (W.next + 1) = some ⟨.loop st p fn' t' n' ps' as' bd' df', []⟩ ∧ st ≠ .busy ∧
        goOn (leaves id (behind Q fun A' W' => WpK T ⟨f₀, none⟩ b A' W' Q)) { A with defers := { target := .collected W.next, args := #[] } :: A.defers } (W₂.setObj (W.next + 1) (.loop .exhausted p fn' t' n' ps' as' bd' df')) p)) :
    WpK T ⟨f₀, none⟩ (.seq (.block id (.rangeFunc g ps asn bd)) b) A W Q := by
  try simp only [wpK_assoc]
  refine wpK_range hg hf (h _ rfl (fun b hb => ?_) ?_ ?_)
  · simp only [AW.beforeLoop, AW.new, Tr.get_set]; rw [if_neg (by omega), if_neg (by omega)]
  · simp only [AW.beforeLoop, AW.new, Tr.get_set]; rw [if_neg (by omega), if_true]
  · simp only [AW.beforeLoop, AW.new, Tr.get_set]; rw [if_true]
theorem setObj_get (W : AW) (r : Nat) (o : AObj) (b : Nat) : (W.setObj r o).blocks.get b = if b = r then some ⟨o, []⟩ else W.blocks.get b := by
  simp only [AW.setObj, Tr.get_set]
theorem setObj_next (W : AW) (r : Nat) (o : AObj) : (W.setObj r o).next = W.next := rfl
theorem setObj_only (W : AW) (r : Nat) (o : AObj) : Only (fun b => b = r) W (W.setObj r o) := ⟨Nat.le_refl _, fun b _ hb => by rw [setObj_get, if_neg hb]⟩
def dropLow (x : Nat) : Nat := x &&& (x - 1)
theorem dropLow_bit {x k : Nat} (h1 : x.testBit k = true) (h2 : ∀ j, j < k → x.testBit j = false) (i : Nat) : (dropLow x).testBit i = (x.testBit i && decide (i ≠ k)) := by
  rw [dropLow, Nat.testBit_and, pred_bits h1 h2]
  by_cases hlt : i < k
  · rw [if_pos hlt, h2 i hlt]; rfl
  · rw [if_neg hlt]
    by_cases e : i = k
    · subst e; simp
    · rw [if_neg e]; simp [-testBit_dec, e]
theorem dropLow_lt {x : Nat} (h : x ≠ 0) : dropLow x < x := by
  have := Nat.and_le_right (n := x) (m := x - 1)
  unfold dropLow; omega
theorem memb_empty : ∀ (P s : Nat), (∀ j, j < P → s.testBit j = false) → memb P s = []
  | 0, _, _ => by simp [memb]
  | P + 1, s, h => by rw [memb_succ, memb_empty P s (fun j hj => h j (by omega)), h P (by omega)]; rfl
theorem memb_low {x k : Nat} (h1 : x.testBit k = true) (h2 : ∀ j, j < k → x.testBit j = false) : ∀ P, memb P x = (if k < P then [(k : Int)] else []) ++ memb P (dropLow x)
  | 0 => by simp [memb]
  | P + 1 => by
    rw [memb_succ, memb_succ, memb_low h1 h2 P, dropLow_bit h1 h2]
    by_cases e1 : P < k
    · rw [h2 P e1]
      simp only [Bool.false_and, Bool.false_eq_true, if_false, List.append_nil, if_neg (show ¬ k < P by omega), if_neg (show ¬ k < P + 1 by omega)]
    · by_cases e2 : P = k
      · subst e2
        rw [h1, memb_empty P (dropLow x) (fun j hj => by rw [dropLow_bit h1 h2, h2 j hj]; rfl)]
        simp
      · have : decide (P ≠ k) = true := by simp [e2]
        rw [this, Bool.and_true]
        simp only [if_pos (show k < P by omega), if_pos (show k < P + 1 by omega), List.append_assoc]
theorem places1_wp {l bx x : Nat} (C : Nat → AW → Prop) (hx : x < 18446744073709551616)
    (hC : ∀ left k W, C left W → left < 18446744073709551616 → left.testBit k = true → (∀ j, j < k → left.testBit j = false) → tabsIn T0 T0.tabs W = true ∧ ∃ st pd fn t n ps asn bd df kin t', W.blocks.get l = some ⟨.loop st pd fn t n ps asn bd df, kin⟩ ∧ aSetAll t n ps.toList [.int .i64 (k : Nat)] = some t' ∧
      WpR T0 l fn t' n asn bd W (fun v W' => v = .bool true ∧ C (dropLow left) W'))
    {W : AW} (h0 : C x W) (hb : W.Has bx 0 (.int .u64 (x : Nat))) : WpF T0 72 [.func (.yield l) #[] #[], .pointer (some ⟨bx, 0, none⟩)] W (fun _ W' => C 0 W') := by
  have hl := load_of und89 rfl hb
  refine wpF fun72 rfl ?_
  try simp only [wpK_assoc]
  refine wpK_reg (fun R hR => by simp [hl]; exact hR) ?_
  try simp only [wpK_assoc]
  refine wpK_while1 (I := fun k A W' => A.n = 16 ∧ A.defers = [] ∧ A.tmps.get 0 = some (.func (.yield l) #[] #[]) ∧ A.tmps.get 3 = some (.int .u64 (k : Nat)) ∧ k < 18446744073709551616 ∧ C k W')
    (J := fun A W' => A.defers = [] ∧ C 0 W') (Rt := fun _ _ => False) (k := x) ?_ ?_ ?_ ?_
  · exact ⟨rfl, rfl, by simp, by simp, hx, h0⟩
  · rintro k ⟨tm, n, ds⟩ W3 ⟨hn, hd, h0, h3, hk, hCk⟩ Q' hJ hRt hI
    simp only at hn hd h0
    subst hn; subst hd
    simp only at h3
    by_cases hz : k = 0
    · subst hz
      try simp only [wpK_assoc]
      refine wpK_reg (fun R hR => by simp [h3]; exact hR) ?_
      try simp only [wpK_assoc]
      first | refine wpK_onF (by simp []) ?_ | refine wpK_out (by simp []) ?_ | refine wpK_condF (by simp []) ?_ | refine wpK_endF (by simp []) (wpK_skip ?_) | refine wpK_endF (by simp []) ?_
      exact hJ _ _ ⟨rfl, hCk⟩
    have hz' : ¬ (k : Int) = 0 := by omega
    try simp only [wpK_assoc]
    refine wpK_reg (fun R hR => by simp [h3, hz', hz]; exact hR) ?_
    try simp only [wpK_assoc]
    first | refine wpK_onT (by simp []) ?_ | refine wpK_outT (by simp []) ?_ | refine wpK_condT (by simp []) ?_ | refine wpK_endT (by simp []) ?_
    obtain ⟨q, hq1, hq2⟩ := low_ex hz
    obtain ⟨hT, st, pd, fn, t', n', ps, asn, bd, df, kin, tt, hy1, hy2, hy3⟩ := hC k q W3 hCk hk hq1 hq2
    refine wpK_block ?_
    try simp only [wpK_assoc]
    refine wpK_x0 (fun R hR => by
      simp [h0, h3, aEnter, fun73, short_other, aCallV]; rw [callS_none]
      refine (first_wp hT hk hq1 hq2).mono ?_
      rintro _ W9 ⟨e9, rfl⟩; subst W9
      simp [aEnter, hy1, hy2, aCallV, nextS_round]
      refine hy3.mono ?_
      rintro _ W4 ⟨rfl, hC4⟩
      simp; exact hR W4 hC4) ?_
    rintro W4 hC4
    try simp only [wpK_assoc]
    first | refine wpK_onF (by simp []) ?_ | refine wpK_out (by simp []) ?_ | refine wpK_condF (by simp []) ?_ | refine wpK_endF (by simp []) (wpK_skip ?_) | refine wpK_endF (by simp []) ?_
    have w1 : IntKind.u64.wrap ((k : Int) - 1) = ((k - 1 : Nat) : Int) := by
      have : ((k : Int) - 1) = ((k - 1 : Nat) : Int) := by omega
      rw [this]; exact wrap_nat .u64 _ (by show k - 1 < 18446744073709551616; omega)
    have hand := aBinI_and .u64 k (k - 1) (by show k < 18446744073709551616; omega) (by show k - 1 < 18446744073709551616; omega)
    have hlt := dropLow_lt hz
    try simp only [wpK_assoc]
    refine wpK_reg1 (fun R hR => by simp [h3, w1, hand]; exact hR) ?_
    exact hI (dropLow k) _ _ hlt ⟨rfl, rfl, by simp [h0], by simp; rfl, by omega, hC4⟩
  · rintro A' W' hf; exact hf.elim
  · rintro A' W' ⟨h1, h2⟩
    exact ⟨.inl rfl, h1, [], by rfl, h2⟩
theorem places_wp {W : AW} (x : Nat) : WpF T0 40 [.int .u64 (x : Nat)] W (fun v W' => Ext W W' ∧ v = .func (.func 72) ⟨[]⟩ ⟨[.pointer (some ⟨W.next, 0, none⟩)]⟩ ∧ W'.Has W.next 0 (.int .u64 (x : Nat))) := by
  refine wpF fun40 rfl ?_
  try simp only [wpK_assoc]
  refine wpK_reg (fun R hR => by simp []; exact hR) ?_
  try simp only [wpK_assoc]
  refine wpK_reg (fun R hR => by simp [opMakeFunc]; exact hR) ?_
  exact wpK_ret ⟨.inr rfl, rfl, [.func (.func 72) ⟨[]⟩ ⟨[.pointer (some ⟨W.next, 0, none⟩)]⟩], by simp, .newCells _ _ _, rfl, (Var.new W 89 [.int .u64 (x : Nat)]).has rfl⟩
end Go.Proofs.YtfnigiojgbeklaaDoor

open Go Go.Eng
namespace Go.Proofs.YtfnigiojgbeklaaDoor
attribute [local congr] undef_congr WpK.congr WpS.congr WpL.congr WpC.congr WpF.congr gotS.congr callS.congr nextS.congr wantS.congr condS.congr
attribute [local irreducible] WpK
attribute [local simp] WpDr_nil WpDr_cons atS_some dwantS_true dwantS_false kindS_light kindS_float kindS_heavy lightS_value floatS_some heavyS_value heavyS_skip heavyS_enter dcallS_some doneS_eq
  isLight isFloat isPlain dLook testBit_dec dChain dLights_nil dLights_skip dLights_one dLight_nil dLight_cons dFreshes_nil dFreshes_one oneF_none oneF_some dFresh_nil dFresh_cons oneL_some oneW_true oneW_false sameV_value dPut dMay valEq arrEq listEq List.getElem?_cons Tr.get_nil dEnd
attribute [local simp] WpS_nil WpS_cons isDefer undef_false wantS_true wantS_false nextS_value nextS_skip nextS_enter callS_some gotS_some aWanted aOp aEvalF aEval opMove opAssign opPick aVal flat flat1 AAct.put opBinOp opConvert opIndex Tr.get_set Tr.get_lay aBin aResults tupled
  aCall aVals aCallB blt_dec ble_dec beq_dec aBinI_add aBinI_sub aBinI_lss aBinI_leq aBinI_gtr aBinI_geq aBinI_eql aBinI_neq index_str len_str len_slice Nat.beq_refl Nat.beq_refl
  opBox opLoad opFieldAddr opIndexAddr acells aAddr opExtract aExtract opUnOp opAlloc opStore opMakeInterface opNilCheck opBuild aParts opBuildSlice aValW
attribute [local simp] und2 und3 und4 und5 und9 und12 und13 und21 und22 und23 und24 und26 und27 und28 und30 und31 und34 und40 und43 und48 und49 und50 und54 und70 und71 und72 und79 und81 und86 und88 und89 und94 und99 und108 und109 und110 und118 und119 und120 und121 und123 und134 und143 und144 und145 und146 und148 und149 und150 und153 und154 und155 und157 und165 und167 und168 und178 und179 und187 und188 und189 und190 und191 und192 und193 und199 und214 und218 field13_0 field13_1 field23_0 field23_1 field24_0 field24_1 field27_0 field27_1 field28_0 field28_1 field49_0 field49_1 field49_2 field50_0 field50_1 field50_2 field70_0 field70_1 field70_2 field71_0 field71_1 field71_2 field72_0 field72_1 field72_2 field108_0 field108_1 field108_2 field109_0 field109_1 field109_2 field120_0 field120_1 field121_0 field121_1 field145_0 field145_1 field145_2 field146_0 field146_1 field146_2 field154_0 field154_1 field155_0 field155_1 field178_0 field178_1 field178_2 field178_3 field179_0 field179_1 field179_2 field179_3 field188_0 field188_1 field189_0 field189_1
set_option maxHeartbeats 4000000
set_option linter.unusedSimpArgs false
set_option linter.unusedVariables false
theorem cells3_len (a : Tri) : (cells3 a).length = 3 := rfl
abbrev StepR (W : AW) (v : Value) (l : List Tri) : Prop := RowIn 3 cells3 W v l
def GoodS (n L : Nat) (xs : List Tri) : Prop := ∀ x ∈ xs, 0 ≤ x.1 ∧ x.1 < n ∧ 0 ≤ x.2.1 ∧ x.2.1 < L ∧ 0 ≤ x.2.2 ∧ x.2.2 < n
theorem GoodS.snoc {n L : Nat} {xs : List Tri} (h : GoodS n L xs) {a b c : Nat} (ha : a < n) (hb : b < L) (hc : c < n) : GoodS n L (xs ++ [((a : Int), (b : Int), (c : Int))]) := fun x hx => by
  rcases List.mem_append.1 hx with hx | hx
  · exact h x hx
  · rw [List.mem_singleton] at hx; subst hx
    show (0 : Int) ≤ a ∧ (a : Int) < n ∧ (0 : Int) ≤ b ∧ (b : Int) < L ∧ (0 : Int) ≤ c ∧ (c : Int) < n
    omega
theorem row_eq {α : Type} {sz : Nat} {enc : α → List Value} {W : AW} {v : Value} {l : List α} (h : RowIn sz enc W v l) : valEq v v = true := by
  obtain ⟨A, c, rfl, _⟩ := h
  rcases A with _ | ⟨b, o, _ | x⟩ <;> simp
theorem i64_in {x : Int} (h : -9223372036854775808 ≤ x ∧ x < 9223372036854775808) : IntKind.i64.wrap x = x := IntWalk.i64_in _ (by omega)
theorem ofNat_tmod (a b : Nat) : (a : Int).tmod (b : Int) = ((a % b : Nat) : Int) := rfl
theorem build24_0 (P : Int) : aBuild T0 24 [(0, .int .i64 P)] = some (.agg ⟨[.int .i64 P, .slice none 0 0]⟩) := by kernel_rfl
theorem build28_0 (P : Int) : aBuild T0 28 [(0, .int .i64 P)] = some (.agg ⟨[.int .i64 P, .slice none 0 0]⟩) := by kernel_rfl
theorem build71 (a b c : Int) : aBuild T0 71 [(0, .int .i64 a), (1, .int .i64 b), (2, .int .i64 c)] = some (.agg ⟨[.int .i64 a, .int .i64 b, .int .i64 c]⟩) := by kernel_rfl
theorem bs22 (W : AW) (a b c : Int) : aBuildSlice T0 W 22 1 [(0, .agg ⟨[.int .i64 a, .int .i64 b, .int .i64 c]⟩)] = some (.slice (some ⟨W.next, 0, none⟩) 1 2, W.newCells 71 [.int .i64 a, .int .i64 b, .int .i64 c]) := by kernel_rfl
theorem bs26 (W : AW) (a b c : Int) : aBuildSlice T0 W 26 1 [(0, .agg ⟨[.int .i64 a, .int .i64 b, .int .i64 c]⟩)] = some (.slice (some ⟨W.next, 0, none⟩) 1 2, W.newCells 72 [.int .i64 a, .int .i64 b, .int .i64 c]) := by kernel_rfl
theorem load24 {W : AW} {p : Nat} {x y : Value} (h : Var W p 24 [x, y]) : aLoadVar T0 W 24 p 0 = some (.agg ⟨[x, y]⟩) := h.load (T := T0) und24 agg24 inf24 is24
theorem load28 {W : AW} {p : Nat} {x y : Value} (h : Var W p 28 [x, y]) : aLoadVar T0 W 28 p 0 = some (.agg ⟨[x, y]⟩) := h.load (T := T0) und28 agg28 inf28 is28
theorem step_load {W : AW} {v : Value} {ss : List Tri} (h : StepR W v ss) {i : Nat} {x : Tri} (hi : ss[i]? = some x) : ∃ b o, aIndexAddr T0 22 v (.int .i64 (i : Int)) = some (.pointer (some ⟨b, o, none⟩)) ∧ aLoadVar T0 W 71 b o = some (.agg ⟨cells3 x⟩) := by
  obtain ⟨b, o, h1, h2⟩ := h.at (T := T0) hi und22 sz71 .i64
  exact ⟨b, o, h1, load_cells (T := T0) und71 agg71 inf71 (by rw [is71]; rfl) (by rw [cells3_len]; decide) h2⟩
theorem step_load2 {W : AW} {v : Value} {ss : List Tri} (h : StepR W v ss) {i : Nat} {x : Tri} (hi : ss[i]? = some x) : ∃ b o, aIndexAddr T0 26 v (.int .i64 (i : Int)) = some (.pointer (some ⟨b, o, none⟩)) ∧ aLoadVar T0 W 72 b o = some (.agg ⟨cells3 x⟩) := by
  obtain ⟨b, o, h1, h2⟩ := h.at (T := T0) hi und26 sz72 .i64
  exact ⟨b, o, h1, load_cells (T := T0) und72 agg72 inf72 (by rw [is72]; rfl) (by rw [cells3_len]; decide) h2⟩
theorem fltb22 {ρ : Operand → Option Value} {x : Operand} {a b c : Int} (hx : ρ x = some (.agg ⟨[.int .i64 a, .int .i64 b, .int .i64 c]⟩)) : aFlt T0 ρ (.buildSlice 22 1 #[(0, x)]) = some ⟨71, [.int .i64 a, .int .i64 b, .int .i64 c], false, 1, 1⟩ := by
  have hp : aParts ρ [(0, x)] = some [(0, .agg ⟨[.int .i64 a, .int .i64 b, .int .i64 c]⟩)] := by simp only [aParts, hx]
  simp only [aFlt, hp, und22, inf71, z71, is71]
  rfl
set_option maxRecDepth 4000
theorem tame_wp {W : AW} {v : Value} (P : Int) {es : List Tri} (h : StepR W v es) (hl : es.length < 9223372036854775808) (m k L : Nat) (hm : 0 < m) (hm2 : m < 64) (hL : 0 < L) (hL2 : L < 64) (hk64 : k < 64) :
    WpF T0 10 [.agg ⟨[.int .i64 P, v]⟩, .int .i64 (m : Nat), .int .i64 (k : Nat), .int .i64 (L : Nat)] W (fun u W' => Ext W W' ∧ ∃ (n : Nat) (ov : Value) (xs : List Tri), u = .agg ⟨[.int .i64 (n : Int), ov]⟩ ∧ 1 ≤ n ∧ n ≤ m ∧ GoodS n L xs ∧ xs.length ≤ k ∧ StepR W' ov xs) := by
  refine wpF fun10 rfl ?_
  obtain ⟨Av, cv, hvv⟩ := h.len
  obtain ⟨W1, hW1, hE1, hV, hV6, hn1⟩ : ∃ W1, W1 = (W.newCells 24 [.int .i64 P, v]).newCells 24 [.int .i64 0, .slice none 0 0] ∧ Ext W W1 ∧ Var W1 W.next 24 [.int .i64 P, v] ∧ Var W1 (W.next + 1) 24 [.int .i64 0, .slice none 0 0] ∧ W1.next = W.next + 2 :=
    ⟨_, rfl, (Only.newCells _ _ _).trans (Only.newCells _ _ _), (Var.new _ _ _).ext (.newCells _ _ _), Var.new _ _ _, rfl⟩
  have l0 := hV.load1 (T := T0) und3 rfl (j := 0) (v := .int .i64 P) rfl
  obtain ⟨y0, hy0⟩ : ∃ y0 : Nat, IntKind.u64.wrap (IntKind.i64.wrap (P - 1)) = (y0 : Int) := ⟨(IntKind.u64.wrap (IntKind.i64.wrap (P - 1))).toNat, by rw [IntKind.wrap_u64]; omega⟩
  have h7w : IntKind.u64.wrap (m : Int) = (m : Int) := u64_nat (by omega)
  have r7 := aBinI_rem .u64 (y0 : Int) (m : Nat) (by omega)
  rw [ofNat_tmod] at r7
  have hy7 : y0 % m < m := Nat.mod_lt _ (by omega)
  generalize y0 % m = y at r7 hy7
  obtain ⟨n, hn⟩ : ∃ n, n = y + 1 := ⟨_, rfl⟩
  have a1 : IntKind.i64.wrap (y : Int) = (y : Int) := i64_in (by omega)
  have a2 : IntKind.i64.wrap (1 + (y : Int)) = (n : Int) := by rw [i64_in (by omega)]; omega
  obtain ⟨W3, g1, g2, g3, g4⟩ := storeVar_new (T := T0) (W := W1) (t := 24) (z := [.int .i64 0, .slice none 0 0]) (v := .agg ⟨[.int .i64 (n : Int), .slice none 0 0]⟩) inf24 (by rw [is24]; rfl) (by rw [is24]; rfl) rfl
  have hV7' : Var W3 W1.next 24 [.int .i64 (n : Int), .slice none 0 0] := g4
  have hE13 : Ext W1 W3 := g3
  try simp only [wpK_assoc]
  refine wpK_reg (fun R hR => by simp [zero24, newCells_next, ← hW1]; exact hR) ?_
  try simp only [wpK_assoc]
  refine wpK_reg (fun R hR => by simp [l0, conv_3_43, conv_43_3, hy0, h7w, r7, a1, a2, build24_0, zero24, g1]; exact hR) ?_
  try simp only [wpK_assoc]
  refine wpK_reg (fun R hR => by simp []; exact hR) ?_
  obtain ⟨p9, hp9⟩ : ∃ p, p = W1.next := ⟨_, rfl⟩
  rw [← hp9] at hV7'
  have hV3 := hV.ext hE13
  have hV63 := hV6.ext hE13
  have hE03 := hE1.trans hE13
  have n3 := hE13.1
  refine wpK_keep (fun tm' => tm'.get 2 = some (.int .i64 (k : Nat)) ∧ tm'.get 3 = some (.int .i64 (L : Nat)) ∧ tm'.get 4 = some (.pointer (some ⟨W.next, 0, none⟩)) ∧ tm'.get 8 = some (.pointer (some ⟨W.next + 1, 0, none⟩)) ∧ tm'.get 9 = some (.pointer (some ⟨p9, 0, none⟩)) ∧ tm'.get 10 = some (.int .i64 0)) ⟨by simp [hp9], by simp [hp9], by simp [hp9], by simp [hp9], by simp [hp9], by simp [hp9]⟩ ?_
  rintro tm ⟨h2, h3, h4, h8, h9, h10⟩
  try simp only [wpK_assoc]
  refine wpK_while (I := fun q A' W' => A'.n = 71 ∧ A'.defers = [] ∧ A'.tmps.get 2 = some (.int .i64 (k : Nat)) ∧ A'.tmps.get 3 = some (.int .i64 (L : Nat)) ∧ A'.tmps.get 4 = some (.pointer (some ⟨W.next, 0, none⟩)) ∧ A'.tmps.get 8 = some (.pointer (some ⟨W.next + 1, 0, none⟩)) ∧ A'.tmps.get 9 = some (.pointer (some ⟨p9, 0, none⟩)) ∧ Ext W1 W' ∧ ∃ (i : Nat) (ov : Value) (xs : List Tri) (K : Nat → Prop), A'.tmps.get 10 = some (.int .i64 (i : Int)) ∧ q = es.length - i ∧ Var W' p9 24 [.int .i64 (n : Int), ov] ∧ GrowsN W' ov xs.length (flatE cells3 xs) 71 3 K ∧ (∀ b, K b → W1.next < b) ∧ xs.length = i ∧ xs.length ≤ k ∧ GoodS n L xs)
    (J := fun A' W' => A'.n = 71 ∧ A'.defers = [] ∧ A'.tmps.get 2 = some (.int .i64 (k : Nat)) ∧ A'.tmps.get 3 = some (.int .i64 (L : Nat)) ∧ A'.tmps.get 4 = some (.pointer (some ⟨W.next, 0, none⟩)) ∧ A'.tmps.get 8 = some (.pointer (some ⟨W.next + 1, 0, none⟩)) ∧ A'.tmps.get 9 = some (.pointer (some ⟨p9, 0, none⟩)) ∧ Ext W1 W' ∧ ∃ (ov : Value) (xs : List Tri) (K : Nat → Prop), Var W' p9 24 [.int .i64 (n : Int), ov] ∧ GrowsN W' ov xs.length (flatE cells3 xs) 71 3 K ∧ (∀ b, K b → W1.next < b) ∧ xs.length ≤ k ∧ GoodS n L xs) (Rt := fun _ _ => False) (k := es.length) ?_ ?_ ?_ ?_
  · exact ⟨rfl, rfl, by simp [h2, h3, h4, h8, h9], by simp [h2, h3, h4, h8, h9], by simp [h2, h3, h4, h8, h9], by simp [h2, h3, h4, h8, h9], by simp [h2, h3, h4, h8, h9], hE13, 0, .slice none 0 0, [], fun _ => False, by simp [h10], rfl, hV7', .nil _ _ _ _, fun b hb => hb.elim, rfl, by simp, fun x hx => by simp at hx⟩
  · rintro q ⟨tm, n, ds⟩ Wa ⟨hn, hd, h2, h3, h4, h8, h9, hEa, i, ov, xs, K, h10, hk, hVo, hgr, hK, hxi, hxk, hgood⟩ Q' hJ' hRt hI
    simp only at hn hd h2 h3 h4 h8 h9
    subst hn; subst hd
    simp only at h10
    have hVa := hV.ext hEa
    have na := hEa.1
    have m1 := hVa.load1 (T := T0) und22 rfl (j := 1) (v := v) rfl
    have o0 := hVo.load1 (T := T0) und3 rfl (j := 0) (v := .int .i64 (n : Int)) rfl
    have o1 := hVo.load1 (T := T0) und22 rfl (j := 1) (v := ov) rfl
    have hRo : StepR Wa ov xs := hgr.row cells3_len
    have ll : ∀ W', aLen T0 W' 22 v = some (.int .i64 es.length) := fun W' => by rw [hvv]; exact len_slice und22 _ _ _
    by_cases hlt : i < es.length
    case neg =>
      have hlt' : ¬ (i : Int) < es.length := by omega
      try simp only [wpK_assoc]
      refine wpK_reg (fun R hR => by simp [h2, h4, h10, m1, ll, hlt', undef]; exact hR) ?_
      try simp only [wpK_assoc]
      first | refine wpK_onF (by simp [hlt]) ?_ | refine wpK_out (by simp [hlt]) ?_ | refine wpK_condF (by simp [hlt]) ?_ | refine wpK_endF (by simp [hlt]) (wpK_skip ?_) | refine wpK_endF (by simp [hlt]) ?_
      exact hJ' _ _ ⟨rfl, rfl, by simp [h2, h3, h4, h8, h9], by simp [h2, h3, h4, h8, h9], by simp [h2, h3, h4, h8, h9], by simp [h2, h3, h4, h8, h9], by simp [h2, h3, h4, h8, h9], hEa, ov, xs, K, hVo, hgr, hK, hxk, hgood⟩
    have hlt' : (i : Int) < es.length := by omega
    by_cases h12 : i < k
    case neg =>
      have h12' : ¬ (i : Int) < k := by omega
      try simp only [wpK_assoc]
      refine wpK_reg (fun R hR => by simp [h2, h4, h10, m1, ll, hlt', h12']; exact hR) ?_
      try simp only [wpK_assoc]
      first | refine wpK_onF (by simp [hlt, h12]) ?_ | refine wpK_out (by simp [hlt, h12]) ?_ | refine wpK_condF (by simp [hlt, h12]) ?_ | refine wpK_endF (by simp [hlt, h12]) (wpK_skip ?_) | refine wpK_endF (by simp [hlt, h12]) ?_
      exact hJ' _ _ ⟨rfl, rfl, by simp [h2, h3, h4, h8, h9], by simp [h2, h3, h4, h8, h9], by simp [h2, h3, h4, h8, h9], by simp [h2, h3, h4, h8, h9], by simp [h2, h3, h4, h8, h9], hEa, ov, xs, K, hVo, hgr, hK, hxk, hgood⟩
    have h12' : (i : Int) < k := by omega
    try simp only [wpK_assoc]
    refine wpK_reg (fun R hR => by simp [h2, h4, h10, m1, ll, hlt', h12']; exact hR) ?_
    try simp only [wpK_assoc]
    first | refine wpK_onT (by simp [hlt, h12]) ?_ | refine wpK_outT (by simp [hlt, h12]) ?_ | refine wpK_condT (by simp [hlt, h12]) ?_ | refine wpK_endT (by simp [hlt, h12]) ?_
    obtain ⟨⟨ea, eb, ec⟩, hab⟩ : ∃ e : Tri, es[i] = e := ⟨_, rfl⟩
    have ha : es[i]? = some (ea, eb, ec) := by rw [List.getElem?_eq_getElem hlt, hab]
    have hR := h.ext (hE1.trans hEa)
    obtain ⟨qb, qo, hx, hh⟩ := step_load hR ha
    have hh : aLoadVar T0 Wa 71 qb qo = some (.agg ⟨[.int .i64 ea, .int .i64 eb, .int .i64 ec]⟩) := hh
    obtain ⟨Wb, s1, s2, s3, s4⟩ := storeVar_new (T := T0) (W := Wa) (t := 71) (z := [.int .i64 0, .int .i64 0, .int .i64 0]) (v := .agg ⟨[.int .i64 ea, .int .i64 eb, .int .i64 ec]⟩) inf71 (by rw [is71]; rfl) (by rw [is71]; rfl) rfl
    have s4 : Var Wb Wa.next 71 [.int .i64 ea, .int .i64 eb, .int .i64 ec] := s4
    refine wpK_block ?_
    try simp only [wpK_assoc]
    refine wpK_reg (fun R hR => by simp [h4, h10, m1, hx, hh, zero71, s1]; exact hR) ?_
    have hVb := hVo.ext s3
    have ob0 := hVb.load1 (T := T0) und3 rfl (j := 0) (v := .int .i64 (n : Int)) rfl
    have ob1 := hVb.load1 (T := T0) und22 rfl (j := 1) (v := ov) rfl
    have e0 := s4.load1 (T := T0) und3 rfl (j := 0) (v := .int .i64 ea) rfl
    have e1 := s4.load1 (T := T0) und3 rfl (j := 1) (v := .int .i64 eb) rfl
    have e2 := s4.load1 (T := T0) und3 rfl (j := 2) (v := .int .i64 ec) rfl
    have hgb := hgr.only s3 (fun _ _ _ x => x)
    try simp only [wpK_assoc]
    refine wpK_reg (fun R hR => by simp [h9, ob1]; exact hR) ?_
    obtain ⟨xa, hxa⟩ : ∃ z : Nat, IntKind.u64.wrap ea = (z : Int) := ⟨(IntKind.u64.wrap ea).toNat, by rw [IntKind.wrap_u64]; omega⟩
    obtain ⟨xb, hxb⟩ : ∃ z : Nat, IntKind.u64.wrap eb = (z : Int) := ⟨(IntKind.u64.wrap eb).toNat, by rw [IntKind.wrap_u64]; omega⟩
    obtain ⟨xc, hxc⟩ : ∃ z : Nat, IntKind.u64.wrap ec = (z : Int) := ⟨(IntKind.u64.wrap ec).toNat, by rw [IntKind.wrap_u64]; omega⟩
    have hwn : IntKind.u64.wrap (n : Int) = (n : Int) := u64_nat (by omega)
    have hwL : IntKind.u64.wrap (L : Int) = (L : Int) := u64_nat (by omega)
    have r1 := aBinI_rem .u64 (xa : Int) (n : Int) (by omega)
    have r2 := aBinI_rem .u64 (xb : Int) (L : Int) (by omega)
    have r3 := aBinI_rem .u64 (xc : Int) (n : Int) (by omega)
    rw [ofNat_tmod] at r1 r2 r3
    have ha' : xa % n < n := Nat.mod_lt _ (by omega)
    have hb' : xb % L < L := Nat.mod_lt _ (by omega)
    have hc' : xc % n < n := Nat.mod_lt _ (by omega)
    generalize xa % n = a at r1 ha'
    generalize xb % L = b at r2 hb'
    generalize xc % n = c at r3 hc'
    have wa : IntKind.i64.wrap (a : Int) = (a : Int) := i64_in (by omega)
    have wb : IntKind.i64.wrap (b : Int) = (b : Int) := i64_in (by omega)
    have wc : IntKind.i64.wrap (c : Int) = (c : Int) := i64_in (by omega)
    obtain ⟨v', Wc, Wd, q1, q2, q3, q4, q5, q6, q7⟩ := Var.push (T := T0) (t := 22) (el := 71) (i := Tryd.t71) (it := Tryd.t22) (sz := 3) (by omega) und22 inf71 is71 z71 rfl inf22 is22 hgb hVb (o := 1) (fun hk => by have := hK _ hk; omega) (by simp) (u := [.int .i64 (a : Int), .int .i64 (b : Int), .int .i64 (c : Int)]) rfl rfl (by rw [by71]; omega) (by omega)
    have q1 : aAppend T0 (Wb.newCells 71 [.int .i64 (a : Int), .int .i64 (b : Int), .int .i64 (c : Int)]) [22, 22] [ov, .slice (some ⟨Wb.next, 0, none⟩) 1 2] = some (v', Wc) := q1
    have vo := row_eq hRo
    obtain ⟨W1', hW1', hE1'⟩ : ∃ W1', W1' = Wb.newCells 71 [.int .i64 (a : Int), .int .i64 (b : Int), .int .i64 (c : Int)] ∧ Ext Wb W1' := ⟨_, rfl, .newCells _ _ _⟩
    rw [← hW1'] at q1
    have hn1' : W1'.next = Wb.next + 1 := by rw [hW1']; rfl
    have hf1 : freshB W1' Wb.next 71 [.int .i64 (a : Int), .int .i64 (b : Int), .int .i64 (c : Int)] = true := by
      rw [hW1']; exact freshB_new _ _ _ (by simp [listEq])
    have f0 := hVb.ext hE1' |>.load1 (T := T0) und3 rfl (j := 0) (v := .int .i64 (n : Int)) rfl
    have f1 := s4.ext hE1' |>.load1 (T := T0) und3 rfl (j := 0) (v := .int .i64 ea) rfl
    have f2 := s4.ext hE1' |>.load1 (T := T0) und3 rfl (j := 1) (v := .int .i64 eb) rfl
    have f3 := s4.ext hE1' |>.load1 (T := T0) und3 rfl (j := 2) (v := .int .i64 ec) rfl
    have hfl := fun (ρ : Operand → Option Value) (x : Operand) (hx : ρ x = some (.agg ⟨[.int .i64 (a : Int), .int .i64 (b : Int), .int .i64 (c : Int)]⟩)) => fltb22 (ρ := ρ) hx
    have hnx : p9 < Wa.next := hVo.1
    try simp only [wpK_assoc]
    refine wpK_qn (wr := Tr.nil |>.set 42 0 |>.set 43 1 |>.set 44 2 |>.set 45 3 |>.set 46 4 |>.set 47 5 |>.set 48 6 |>.set 49 7 |>.set 50 8 |>.set 51 9 |>.set 52 10 |>.set 53 11 |>.set 54 12 |>.set 55 13 |>.set 56 14 |>.set 57 15 |>.set 58 16 |>.set 59 17 |>.set 60 18 |>.set 61 19 |>.set 62 20 |>.set 63 21 |>.set 64 22 |>.set 65 23 |>.set 66 24 |>.set 67 25 |>.set 68 26 |>.set 69 27) (bits := Tr.nil.lay 0 [0, 0, 2, 6, 0, 16, 48, 126, 254, 0, 512, 1536, 0, 4096, 15872, 32256, 0, 65536, 196608, 0, 524288, 1572864, 4128768, 8323072, 16777214, 33554430, 67108863, 134217727, 268435455]) (ord := [0, 1, 2, 3, 4, 5, 6, 7, 8, 9, 10, 11, 12, 13, 14, 15, 16, 17, 18, 19, 20, 21, 22, 23, 24, 25, 26, 27, 28]) (by kernel_rfl) (by kernel_rfl) (by kernel_rfl) (fun G hG => by
      simp [h3, h9, ob0, e0, e1, e2, f0, f1, f2, f3, conv_3_43, conv_43_3, hxa, hxb, hxc, hwn, hwL, r1, r2, r3, wa, wb, wc, build71, hfl, AFlt.val, ← hW1', hf1, hn1', q1, q2, q3, q4, vo]
      exact hG) ?_
    simp only [leaves_normal, behind_normal]
    refine wpK_keep (fun tm' => tm'.get 2 = some (.int .i64 (k : Nat)) ∧ tm'.get 3 = some (.int .i64 (L : Nat)) ∧ tm'.get 4 = some (.pointer (some ⟨W.next, 0, none⟩)) ∧ tm'.get 8 = some (.pointer (some ⟨W.next + 1, 0, none⟩)) ∧ tm'.get 9 = some (.pointer (some ⟨p9, 0, none⟩)) ∧ tm'.get 10 = some (.int .i64 (i : Int))) ⟨by simp [h2, h3, h4, h8, h9, h10], by simp [h2, h3, h4, h8, h9, h10], by simp [h2, h3, h4, h8, h9, h10], by simp [h2, h3, h4, h8, h9, h10], by simp [h2, h3, h4, h8, h9, h10], by simp [h2, h3, h4, h8, h9, h10]⟩ ?_
    rintro tm ⟨h2, h3, h4, h8, h9, h10⟩
    try simp only [wpK_assoc]
    refine wpK_reg1 (fun R hR => by simp [h10]; exact hR) ?_
    have hl1 : (xs ++ [((a : Int), (b : Int), (c : Int))]).length = xs.length + 1 := by simp
    have hEab := hEa.trans s3
    have hnb := hEab.1
    refine hI (es.length - (i + 1)) _ _ (by omega) ⟨rfl, rfl, by simp [h2, h3, h4, h8, h9], by simp [h2, h3, h4, h8, h9], by simp [h2, h3, h4, h8, h9], by simp [h2, h3, h4, h8, h9], by simp [h2, h3, h4, h8, h9], ⟨by omega, fun d hd hk => ?_⟩, i + 1, v', xs ++ [((a : Int), (b : Int), (c : Int))], fun d => K d ∨ d = Wb.next + 1, by simp [i64_succ i (by omega)], rfl, by simpa using q5, ?_, fun d hd => ?_, by rw [hl1, hxi], by rw [hl1]; omega, hgood.snoc ha' hb' hc'⟩
    · rw [q7.2 d (by omega) (by rintro (hh | hh); have := hK _ hh; omega; omega)]
      exact hEab.2 d hd hk
    · rw [hl1, flatE_append, flatE_one]; exact q6
    · rcases hd with hd | hd
      · exact hK _ hd
      · omega
  · rintro A' W' hf; exact hf.elim
  · rintro ⟨tm, n, ds⟩ Wz ⟨hn, hd, h2, h3, h4, h8, h9, hEz, ov, xs, K, hVo, hgr, hK, hxk, hgood⟩
    simp only at hn hd h2 h3 h4 h8 h9
    subst hn; subst hd
    have lw := load24 hVo
    have hV6z := hV6.ext hEz
    have hRo : StepR Wz ov xs := hgr.row cells3_len
    obtain ⟨Ao, co, hov⟩ := hRo.len
    obtain ⟨Wf, s1, s2, s3, s4⟩ := hV6z.store (T := T0) (t := 24) (v := .agg ⟨[.int .i64 (n : Int), ov]⟩) (o := 0) inf24 (by rw [is24]; rfl) (by simp) (by rw [hov]; rfl)
    have hl3 := load24 (x := .int .i64 (n : Int)) (y := ov) (by simpa using s4)
    try simp only [wpK_assoc]
    refine wpK_reg (fun R hR => by simp [h8, h9, lw, s1]; exact hR) ?_
    have hnz := hEz.1
    exact wpK_ret ⟨.inr rfl, rfl, [.agg ⟨[.int .i64 (n : Int), ov]⟩], by simp [h8, hl3], ⟨by omega, fun c hc hk => by rw [s3.2 c (by omega) (by omega), hEz.2 c (by omega) (fun x => x), hE1.2 c hc hk]⟩, n, ov, xs, rfl, by omega, by omega, hgood, hxk, (hgr.only s3 (fun c hc hk e => by have := hK _ hk; omega)).row cells3_len⟩
end Go.Proofs.YtfnigiojgbeklaaDoor

open Go Go.Eng
namespace Go.Proofs.YtfnigiojgbeklaaDoor
attribute [local congr] undef_congr WpK.congr WpS.congr WpL.congr WpC.congr WpF.congr gotS.congr callS.congr nextS.congr wantS.congr condS.congr
attribute [local irreducible] WpK
attribute [local simp] WpDr_nil WpDr_cons atS_some dwantS_true dwantS_false kindS_light kindS_float kindS_heavy lightS_value floatS_some heavyS_value heavyS_skip heavyS_enter dcallS_some doneS_eq
  isLight isFloat isPlain dLook testBit_dec dChain dLights_nil dLights_skip dLights_one dLight_nil dLight_cons dFreshes_nil dFreshes_one oneF_none oneF_some dFresh_nil dFresh_cons oneL_some oneW_true oneW_false sameV_value dPut dMay valEq arrEq listEq List.getElem?_cons Tr.get_nil dEnd
attribute [local simp] WpS_nil WpS_cons isDefer undef_false wantS_true wantS_false nextS_value nextS_skip nextS_enter callS_some gotS_some aWanted aOp aEvalF aEval opMove opAssign opPick aVal flat flat1 AAct.put opBinOp opConvert opIndex Tr.get_set Tr.get_lay aBin aResults tupled
  aCall aVals aCallB blt_dec ble_dec beq_dec aBinI_add aBinI_sub aBinI_lss aBinI_leq aBinI_gtr aBinI_geq aBinI_eql aBinI_neq index_str len_str len_slice Nat.beq_refl Nat.beq_refl
  opBox opLoad opFieldAddr opIndexAddr acells aAddr opExtract aExtract opUnOp opAlloc opStore opMakeInterface opNilCheck opBuild aParts opBuildSlice aValW
attribute [local simp] und2 und3 und4 und5 und9 und12 und13 und21 und22 und23 und24 und26 und27 und28 und30 und31 und34 und40 und43 und48 und49 und50 und54 und70 und71 und72 und79 und81 und86 und88 und89 und94 und99 und108 und109 und110 und118 und119 und120 und121 und123 und134 und143 und144 und145 und146 und148 und149 und150 und153 und154 und155 und157 und165 und167 und168 und178 und179 und187 und188 und189 und190 und191 und192 und193 und199 und214 und218 field13_0 field13_1 field23_0 field23_1 field24_0 field24_1 field27_0 field27_1 field28_0 field28_1 field49_0 field49_1 field49_2 field50_0 field50_1 field50_2 field70_0 field70_1 field70_2 field71_0 field71_1 field71_2 field72_0 field72_1 field72_2 field108_0 field108_1 field108_2 field109_0 field109_1 field109_2 field120_0 field120_1 field121_0 field121_1 field145_0 field145_1 field145_2 field146_0 field146_1 field146_2 field154_0 field154_1 field155_0 field155_1 field178_0 field178_1 field178_2 field178_3 field179_0 field179_1 field179_2 field179_3 field188_0 field188_1 field189_0 field189_1
set_option maxHeartbeats 4000000
set_option linter.unusedSimpArgs false
set_option linter.unusedVariables false
theorem give_wp {W : AW} {v : Value} (n : Nat) {es : List Tri} (h : StepR W v es) (hl : es.length < 1099511627776) (hn63 : n < 1000) :
    WpF T0 11 [.agg ⟨[.int .i64 (n : Int), v]⟩] W (fun u W' => Ext W W' ∧ ∃ ov, u = .agg ⟨[.int .i64 (n : Int), ov]⟩ ∧ StepR W' ov es) := by
  refine wpF fun11 rfl ?_
  obtain ⟨Av, cv, hvv⟩ := h.len
  obtain ⟨W1, hW1, hE1, hV, hV6, hn1⟩ : ∃ W1, W1 = (W.newCells 24 [.int .i64 (n : Int), v]).newCells 28 [.int .i64 0, .slice none 0 0] ∧ Ext W W1 ∧ Var W1 W.next 24 [.int .i64 (n : Int), v] ∧ Var W1 (W.next + 1) 28 [.int .i64 0, .slice none 0 0] ∧ W1.next = W.next + 2 :=
    ⟨_, rfl, (Only.newCells _ _ _).trans (Only.newCells _ _ _), (Var.new _ _ _).ext (.newCells _ _ _), Var.new _ _ _, rfl⟩
  have l0 := hV.load1 (T := T0) und3 rfl (j := 0) (v := .int .i64 (n : Int)) rfl
  obtain ⟨W3, g1, g2, g3, g4⟩ := storeVar_new (T := T0) (W := W1) (t := 28) (z := [.int .i64 0, .slice none 0 0]) (v := .agg ⟨[.int .i64 (n : Int), .slice none 0 0]⟩) inf28 (by rw [is28]; rfl) (by rw [is28]; rfl) rfl
  have hV7' : Var W3 W1.next 28 [.int .i64 (n : Int), .slice none 0 0] := g4
  have hE13 : Ext W1 W3 := g3
  try simp only [wpK_assoc]
  refine wpK_reg (fun R hR => by simp [zero28, newCells_next, ← hW1]; exact hR) ?_
  try simp only [wpK_assoc]
  refine wpK_reg (fun R hR => by simp [l0, build28_0, zero28, g1]; exact hR) ?_
  try simp only [wpK_assoc]
  refine wpK_reg (fun R hR => by simp []; exact hR) ?_
  obtain ⟨p9, hp9⟩ : ∃ p, p = W1.next := ⟨_, rfl⟩
  rw [← hp9] at hV7'
  have n3 := hE13.1
  refine wpK_keep (fun tm' => tm'.get 1 = some (.pointer (some ⟨W.next, 0, none⟩)) ∧ tm'.get 2 = some (.pointer (some ⟨W.next + 1, 0, none⟩)) ∧ tm'.get 3 = some (.pointer (some ⟨p9, 0, none⟩)) ∧ tm'.get 4 = some (.int .i64 0)) ⟨by simp [hp9], by simp [hp9], by simp [hp9], by simp [hp9]⟩ ?_
  rintro tm ⟨h1, h2, h3, h4⟩
  try simp only [wpK_assoc]
  refine wpK_while (I := fun q A' W' => A'.n = 28 ∧ A'.defers = [] ∧ A'.tmps.get 1 = some (.pointer (some ⟨W.next, 0, none⟩)) ∧ A'.tmps.get 2 = some (.pointer (some ⟨W.next + 1, 0, none⟩)) ∧ A'.tmps.get 3 = some (.pointer (some ⟨p9, 0, none⟩)) ∧ Ext W1 W' ∧ ∃ (i : Nat) (ov : Value) (K : Nat → Prop), A'.tmps.get 4 = some (.int .i64 (i : Int)) ∧ q = es.length - i ∧ i ≤ es.length ∧ Var W' p9 28 [.int .i64 (n : Int), ov] ∧ GrowsN W' ov (es.take i).length (flatE cells3 (es.take i)) 72 3 K ∧ (∀ b, K b → W1.next < b))
    (J := fun A' W' => A'.n = 28 ∧ A'.defers = [] ∧ A'.tmps.get 1 = some (.pointer (some ⟨W.next, 0, none⟩)) ∧ A'.tmps.get 2 = some (.pointer (some ⟨W.next + 1, 0, none⟩)) ∧ A'.tmps.get 3 = some (.pointer (some ⟨p9, 0, none⟩)) ∧ Ext W1 W' ∧ ∃ (ov : Value) (K : Nat → Prop), Var W' p9 28 [.int .i64 (n : Int), ov] ∧ GrowsN W' ov es.length (flatE cells3 es) 72 3 K ∧ (∀ b, K b → W1.next < b)) (Rt := fun _ _ => False) (k := es.length) ?_ ?_ ?_ ?_
  · exact ⟨rfl, rfl, by simp [h1, h2, h3], by simp [h1, h2, h3], by simp [h1, h2, h3], hE13, 0, .slice none 0 0, fun _ => False, by simp [h4], rfl, by omega, hV7', .nil _ _ _ _, fun b hb => hb.elim⟩
  · rintro q ⟨tm, n, ds⟩ Wa ⟨hn, hd, h1, h2, h3, hEa, i, ov, K, h4, hk, hil, hVo, hgr, hK⟩ Q' hJ' hRt hI
    simp only at hn hd h1 h2 h3
    subst hn; subst hd
    simp only at h4
    have hVa := hV.ext hEa
    have na := hEa.1
    have m1 := hVa.load1 (T := T0) und22 rfl (j := 1) (v := v) rfl
    have o1 := hVo.load1 (T := T0) und26 rfl (j := 1) (v := ov) rfl
    have ll : ∀ W', aLen T0 W' 22 v = some (.int .i64 es.length) := fun W' => by rw [hvv]; exact len_slice und22 _ _ _
    by_cases hlt : i < es.length
    case neg =>
      have hlt' : ¬ (i : Int) < es.length := by omega
      have e : es.take i = es := List.take_of_length_le (by omega)
      rw [e] at hgr
      try simp only [wpK_assoc]
      refine wpK_reg (fun R hR => by simp [h1, h4, m1, ll, hlt']; exact hR) ?_
      try simp only [wpK_assoc]
      first | refine wpK_onF (by simp [hlt]) ?_ | refine wpK_out (by simp [hlt]) ?_ | refine wpK_condF (by simp [hlt]) ?_ | refine wpK_endF (by simp [hlt]) (wpK_skip ?_) | refine wpK_endF (by simp [hlt]) ?_
      exact hJ' _ _ ⟨rfl, rfl, by simp [h1, h2, h3], by simp [h1, h2, h3], by simp [h1, h2, h3], hEa, ov, K, hVo, hgr, hK⟩
    have hlt' : (i : Int) < es.length := by omega
    try simp only [wpK_assoc]
    refine wpK_reg (fun R hR => by simp [h1, h4, m1, ll, hlt']; exact hR) ?_
    try simp only [wpK_assoc]
    first | refine wpK_onT (by simp [hlt]) ?_ | refine wpK_outT (by simp [hlt]) ?_ | refine wpK_condT (by simp [hlt]) ?_ | refine wpK_endT (by simp [hlt]) ?_
    obtain ⟨⟨ea, eb, ec⟩, hab⟩ : ∃ e : Tri, es[i] = e := ⟨_, rfl⟩
    have ha : es[i]? = some (ea, eb, ec) := by rw [List.getElem?_eq_getElem hlt, hab]
    have hR := h.ext (hE1.trans hEa)
    obtain ⟨qb, qo, hx, hh⟩ := step_load hR ha
    have hh : aLoadVar T0 Wa 71 qb qo = some (.agg ⟨[.int .i64 ea, .int .i64 eb, .int .i64 ec]⟩) := hh
    have htl : (es.take i).length = i := by rw [List.length_take]; omega
    obtain ⟨v', Wc, Wd, q1, q2, q3, q4, q5, q6, q7⟩ := Var.push (T := T0) (t := 26) (el := 72) (i := Tryd.t72) (it := Tryd.t26) (sz := 3) (by omega) und26 inf72 is72 z72 rfl inf26 is26 hgr hVo (o := 1) (fun hk => by have := hK _ hk; omega) (by simp) (u := [.int .i64 ea, .int .i64 eb, .int .i64 ec]) rfl rfl (by rw [by72]; omega) (by omega)
    have q1 : aAppend T0 (Wa.newCells 72 [.int .i64 ea, .int .i64 eb, .int .i64 ec]) [26, 26] [ov, .slice (some ⟨Wa.next, 0, none⟩) 1 2] = some (v', Wc) := q1
    refine wpK_block ?_
    try simp only [wpK_assoc]
    refine wpK_reg (fun R hR => by simp [h3, o1]; exact hR) ?_
    try simp only [wpK_assoc]
    refine wpK_reg1 (fun R hR => by simp [h1, h3, h4, m1, hx, hh, bs26, q1, q2]; exact hR) ?_
    simp only [leaves_normal, behind_normal]
    refine wpK_keep (fun tm' => tm'.get 1 = some (.pointer (some ⟨W.next, 0, none⟩)) ∧ tm'.get 2 = some (.pointer (some ⟨W.next + 1, 0, none⟩)) ∧ tm'.get 3 = some (.pointer (some ⟨p9, 0, none⟩)) ∧ tm'.get 4 = some (.int .i64 (i : Int))) ⟨by simp [h1, h2, h3, h4], by simp [h1, h2, h3, h4], by simp [h1, h2, h3, h4], by simp [h1, h2, h3, h4]⟩ ?_
    rintro tm ⟨h1, h2, h3, h4⟩
    try simp only [wpK_assoc]
    refine wpK_reg1 (fun R hR => by simp [h4]; exact hR) ?_
    have ht1 : es.take (i + 1) = es.take i ++ [(ea, eb, ec)] := by rw [List.take_add_one, ha]; rfl
    have hl1 : (es.take (i + 1)).length = (es.take i).length + 1 := by rw [ht1]; simp
    have hnx : p9 < Wa.next := hVo.1
    refine hI (es.length - (i + 1)) _ _ (by omega) ⟨rfl, rfl, by simp [h1, h2, h3], by simp [h1, h2, h3], by simp [h1, h2, h3], ⟨by omega, fun d hd hk => ?_⟩, i + 1, v', fun d => K d ∨ d = Wa.next + 1, by simp [i64_succ i (by omega)], rfl, by omega, by simpa using q5, ?_, fun d hd => ?_⟩
    · rw [q7.2 d (by omega) (by rintro (hh | hh); have := hK _ hh; omega; omega)]
      exact hEa.2 d hd hk
    · rw [hl1, ht1, flatE_append, flatE_one]; exact q6
    · rcases hd with hd | hd
      · exact hK _ hd
      · omega
  · rintro A' W' hf; exact hf.elim
  · rintro ⟨tm, n, ds⟩ Wz ⟨hn, hd, h1, h2, h3, hEz, ov, K, hVo, hgr, hK⟩
    simp only at hn hd h1 h2 h3
    subst hn; subst hd
    have lw := load28 hVo
    have hV6z := hV6.ext hEz
    have hRo : StepR Wz ov es := hgr.row cells3_len
    obtain ⟨Ao, co, hov⟩ := hRo.len
    obtain ⟨Wf, s1, s2, s3, s4⟩ := hV6z.store (T := T0) (t := 28) (v := .agg ⟨[.int .i64 (n : Int), ov]⟩) (o := 0) inf28 (by rw [is28]; rfl) (by simp) (by rw [hov]; rfl)
    have hl3 := load28 (x := .int .i64 (n : Int)) (y := ov) (by simpa using s4)
    try simp only [wpK_assoc]
    refine wpK_reg (fun R hR => by simp [h2, h3, lw, s1]; exact hR) ?_
    have hnz := hEz.1
    exact wpK_ret ⟨.inr rfl, rfl, [.agg ⟨[.int .i64 (n : Int), ov]⟩], by simp [h2, hl3], ⟨by omega, fun c hc hk => by rw [s3.2 c (by omega) (by omega), hEz.2 c (by omega) (fun x => x), hE1.2 c hc hk]⟩, ov, rfl, (hgr.only s3 (fun c hc hk e => by have := hK _ hk; omega)).row cells3_len⟩
end Go.Proofs.YtfnigiojgbeklaaDoor

open Go Go.Eng
namespace Go.Proofs.YtfnigiojgbeklaaDoor
attribute [local congr] undef_congr WpK.congr WpS.congr WpL.congr WpC.congr WpF.congr gotS.congr callS.congr nextS.congr wantS.congr condS.congr
attribute [local irreducible] WpK
attribute [local simp] WpDr_nil WpDr_cons atS_some dwantS_true dwantS_false kindS_light kindS_float kindS_heavy lightS_value floatS_some heavyS_value heavyS_skip heavyS_enter dcallS_some doneS_eq
  isLight isFloat isPlain dLook testBit_dec dChain dLights_nil dLights_skip dLights_one dLight_nil dLight_cons dFreshes_nil dFreshes_one oneF_none oneF_some dFresh_nil dFresh_cons oneL_some oneW_true oneW_false sameV_value dPut dMay valEq arrEq listEq List.getElem?_cons Tr.get_nil dEnd
attribute [local simp] WpS_nil WpS_cons isDefer undef_false wantS_true wantS_false nextS_value nextS_skip nextS_enter callS_some gotS_some aWanted aOp aEvalF aEval opMove opAssign opPick aVal flat flat1 AAct.put opBinOp opConvert opIndex Tr.get_set Tr.get_lay aBin aResults tupled
  aCall aVals aCallB blt_dec ble_dec beq_dec aBinI_add aBinI_sub aBinI_lss aBinI_leq aBinI_gtr aBinI_geq aBinI_eql aBinI_neq index_str len_str len_slice Nat.beq_refl Nat.beq_refl
  opBox opLoad opFieldAddr opIndexAddr acells aAddr opExtract aExtract opUnOp opAlloc opStore opMakeInterface opNilCheck opBuild aParts opBuildSlice aValW
attribute [local simp] und2 und3 und4 und5 und9 und12 und13 und21 und22 und23 und24 und26 und27 und28 und30 und31 und34 und40 und43 und48 und49 und50 und54 und70 und71 und72 und79 und81 und86 und88 und89 und94 und99 und108 und109 und110 und118 und119 und120 und121 und123 und134 und143 und144 und145 und146 und148 und149 und150 und153 und154 und155 und157 und165 und167 und168 und178 und179 und187 und188 und189 und190 und191 und192 und193 und199 und214 und218 field13_0 field13_1 field23_0 field23_1 field24_0 field24_1 field27_0 field27_1 field28_0 field28_1 field49_0 field49_1 field49_2 field50_0 field50_1 field50_2 field70_0 field70_1 field70_2 field71_0 field71_1 field71_2 field72_0 field72_1 field72_2 field108_0 field108_1 field108_2 field109_0 field109_1 field109_2 field120_0 field120_1 field121_0 field121_1 field145_0 field145_1 field145_2 field146_0 field146_1 field146_2 field154_0 field154_1 field155_0 field155_1 field178_0 field178_1 field178_2 field178_3 field179_0 field179_1 field179_2 field179_3 field188_0 field188_1 field189_0 field189_1
set_option maxHeartbeats 4000000
set_option linter.unusedSimpArgs false
set_option linter.unusedVariables false
def chartL (n : Nat) (to : Nat → Nat → Nat) : List Value := .int .i64 (n : Int) :: (List.range 640).map fun j => Value.int .u64 (to (j / 64) (j % 64) : Nat)
theorem chartL_len (n : Nat) (to : Nat → Nat → Nat) : (chartL n to).length = 641 := by simp [chartL]
theorem chartL_0 (n : Nat) (to : Nat → Nat → Nat) : (chartL n to)[0]? = some (.int .i64 (n : Int)) := rfl
theorem chartL_at (n : Nat) (to : Nat → Nat → Nat) {a p : Nat} (ha : a < 10) (hp : p < 64) : (chartL n to)[1 + (a * 64 + p)]? = some (.int .u64 (to a p : Nat)) := by
  rw [Nat.add_comm 1]
  simp only [chartL, List.getElem?_cons_succ, List.getElem?_map]
  rw [List.getElem?_range (by omega)]
  simp only [Option.map_some]
  rw [show (a * 64 + p) / 64 = a from by omega, show (a * 64 + p) % 64 = p from by omega]
def updT (to : Nat → Nat → Nat) (a p x : Nat) : Nat → Nat → Nat := fun b q => if b = a ∧ q = p then x else to b q
theorem chartL_set (n : Nat) (to : Nat → Nat → Nat) {a p : Nat} (ha : a < 10) (hp : p < 64) (x : Nat) : (chartL n to).set (1 + (a * 64 + p)) (.int .u64 (x : Nat)) = chartL n (updT to a p x) := by
  apply List.ext_getElem?
  intro i
  rw [List.getElem?_set]
  cases i with
  | zero => rw [if_neg (by omega), chartL_0, chartL_0]
  | succ j =>
    by_cases hj : j < 640
    · have e1 : (chartL n (updT to a p x))[j + 1]? = some (.int .u64 (updT to a p x (j / 64) (j % 64) : Nat)) := by
        have := chartL_at n (updT to a p x) (a := j / 64) (p := j % 64) (by omega) (by omega)
        rw [show 1 + (j / 64 * 64 + j % 64) = j + 1 from by omega] at this; exact this
      have e2 : (chartL n to)[j + 1]? = some (.int .u64 (to (j / 64) (j % 64) : Nat)) := by
        have := chartL_at n to (a := j / 64) (p := j % 64) (by omega) (by omega)
        rw [show 1 + (j / 64 * 64 + j % 64) = j + 1 from by omega] at this; exact this
      rw [e1, e2, chartL_len]
      by_cases e : 1 + (a * 64 + p) = j + 1
      · rw [if_pos e, if_pos (by omega)]
        have h1 : j / 64 = a := by omega
        have h2 : j % 64 = p := by omega
        simp only [updT, h1, h2, and_self, if_true]
      · rw [if_neg e]
        have : ¬ (j / 64 = a ∧ j % 64 = p) := by omega
        simp only [updT, if_neg this]
    · rw [if_neg (by omega), List.getElem?_eq_none (by rw [chartL_len]; omega), List.getElem?_eq_none (by rw [chartL_len]; omega)]
abbrev ChartAt (W : AW) (c n : Nat) (to : Nat → Nat → Nat) : Prop := Var W c 121 (chartL n to)
theorem chart_n {W : AW} {c n : Nat} {to : Nat → Nat → Nat} (h : ChartAt W c n to) : aLoadVar T0 W 3 c 0 = some (.int .i64 (n : Int)) := h.load1 (T := T0) und3 rfl (j := 0) (chartL_0 n to)
theorem chart_to {W : AW} {c n : Nat} {to : Nat → Nat → Nat} (h : ChartAt W c n to) {a p : Nat} (ha : a < 10) (hp : p < 64) : aLoadVar T0 W 89 c (1 + (a * 64 + p)) = some (.int .u64 (to a p : Nat)) := h.load1 (T := T0) und89 rfl (chartL_at n to ha hp)
theorem ix119 (b o a : Nat) (ha : a < 10) : aIndexAddr T0 119 (.pointer (some ⟨b, o, none⟩)) (.int .i64 (a : Int)) = some (.pointer (some ⟨b, o + a * 64, none⟩)) := by
  show aIndexAddr T0 119 (.pointer (some ⟨b, o, none⟩)) (.int .i64 (Int.ofNat a)) = _
  simp only [aIndexAddr, und119, sz118, blt_dec, ha, decide_true]
theorem ix118 (b o p : Nat) (hp : p < 64) : aIndexAddr T0 118 (.pointer (some ⟨b, o, none⟩)) (.int .i64 (p : Int)) = some (.pointer (some ⟨b, o + p, none⟩)) := by
  show aIndexAddr T0 118 (.pointer (some ⟨b, o, none⟩)) (.int .i64 (Int.ofNat p)) = _
  simp only [aIndexAddr, und118, sz89, blt_dec, hp, decide_true, Nat.mul_one]
theorem build121 (n : Int) : aBuild T0 121 [(0, .int .i64 n)] = some (.agg ⟨.int .i64 n :: (List.range 640).map fun j => Value.int .u64 ((0 : Nat) : Int)⟩) := by kernel_rfl
theorem chartHas_wp {W : AW} {c n : Nat} {to : Nat → Nat → Nat} (h : ChartAt W c n to) (p : Int) : WpF T0 45 [.pointer (some ⟨c, 0, none⟩), .int .i64 p] W (fun u W' => W' = W ∧ u = .bool (decide (0 ≤ p ∧ p < n))) := by
  refine wpF fun45 rfl ?_
  have hn := chart_n h
  by_cases h0 : 0 ≤ p
  · by_cases h1 : p < n
    · rw [decide_eq_true (And.intro h0 h1)]
      try simp only [wpK_assoc]
      refine wpK_reg (fun R hR => by simp []; exact hR) ?_
      try simp only [wpK_assoc]
      refine wpK_reg (fun R hR => by simp [hn, h0, h1]; exact hR) ?_
      exact wpK_ret ⟨.inr rfl, rfl, [.bool true], by simp, rfl, rfl⟩
    · rw [decide_eq_false (fun x => h1 x.2)]
      try simp only [wpK_assoc]
      refine wpK_reg (fun R hR => by simp []; exact hR) ?_
      try simp only [wpK_assoc]
      refine wpK_reg (fun R hR => by simp [hn, h0, h1]; exact hR) ?_
      exact wpK_ret ⟨.inr rfl, rfl, [.bool false], by simp, rfl, rfl⟩
  · rw [decide_eq_false (fun x => h0 x.1)]
    try simp only [wpK_assoc]
    refine wpK_reg (fun R hR => by simp []; exact hR) ?_
    try simp only [wpK_assoc]
    refine wpK_reg (fun R hR => by simp [hn, h0, undef]; exact hR) ?_
    exact wpK_ret ⟨.inr rfl, rfl, [.bool false], by simp, rfl, rfl⟩
end Go.Proofs.YtfnigiojgbeklaaDoor

open Go Go.Eng
namespace Go.Proofs.YtfnigiojgbeklaaDoor
attribute [local congr] undef_congr WpK.congr WpS.congr WpL.congr WpC.congr WpF.congr gotS.congr callS.congr nextS.congr wantS.congr condS.congr
attribute [local irreducible] WpK
attribute [local simp] WpDr_nil WpDr_cons atS_some dwantS_true dwantS_false kindS_light kindS_float kindS_heavy lightS_value floatS_some heavyS_value heavyS_skip heavyS_enter dcallS_some doneS_eq
  isLight isFloat isPlain dLook testBit_dec dChain dLights_nil dLights_skip dLights_one dLight_nil dLight_cons dFreshes_nil dFreshes_one oneF_none oneF_some dFresh_nil dFresh_cons oneL_some oneW_true oneW_false sameV_value dPut dMay valEq arrEq listEq List.getElem?_cons Tr.get_nil dEnd
attribute [local simp] WpS_nil WpS_cons isDefer undef_false wantS_true wantS_false nextS_value nextS_skip nextS_enter callS_some gotS_some aWanted aOp aEvalF aEval opMove opAssign opPick aVal flat flat1 AAct.put opBinOp opConvert opIndex Tr.get_set Tr.get_lay aBin aResults tupled
  aCall aVals aCallB blt_dec ble_dec beq_dec aBinI_add aBinI_sub aBinI_lss aBinI_leq aBinI_gtr aBinI_geq aBinI_eql aBinI_neq index_str len_str len_slice Nat.beq_refl Nat.beq_refl
  opBox opLoad opFieldAddr opIndexAddr acells aAddr opExtract aExtract opUnOp opAlloc opStore opMakeInterface opNilCheck opBuild aParts opBuildSlice aValW
attribute [local simp] und2 und3 und4 und5 und9 und12 und13 und21 und22 und23 und24 und26 und27 und28 und30 und31 und34 und40 und43 und48 und49 und50 und54 und70 und71 und72 und79 und81 und86 und88 und89 und94 und99 und108 und109 und110 und118 und119 und120 und121 und123 und134 und143 und144 und145 und146 und148 und149 und150 und153 und154 und155 und157 und165 und167 und168 und178 und179 und187 und188 und189 und190 und191 und192 und193 und199 und214 und218 field13_0 field13_1 field23_0 field23_1 field24_0 field24_1 field27_0 field27_1 field28_0 field28_1 field49_0 field49_1 field49_2 field50_0 field50_1 field50_2 field70_0 field70_1 field70_2 field71_0 field71_1 field71_2 field72_0 field72_1 field72_2 field108_0 field108_1 field108_2 field109_0 field109_1 field109_2 field120_0 field120_1 field121_0 field121_1 field145_0 field145_1 field145_2 field146_0 field146_1 field146_2 field154_0 field154_1 field155_0 field155_1 field178_0 field178_1 field178_2 field178_3 field179_0 field179_1 field179_2 field179_3 field188_0 field188_1 field189_0 field189_1
set_option maxHeartbeats 4000000
set_option linter.unusedSimpArgs false
set_option linter.unusedVariables false
def addS (to : Nat → Nat → Nat) (x : Tri) : Nat → Nat → Nat := updT to x.2.1.toNat x.1.toNat (to x.2.1.toNat x.1.toNat ||| 1 <<< x.2.2.toNat)
def toS (ss : List Tri) : Nat → Nat → Nat := ss.foldl addS (fun _ _ => 0)
theorem toS_snoc (ss : List Tri) (x : Tri) : toS (ss ++ [x]) = addS (toS ss) x := by simp [toS, List.foldl_append]
theorem toS_bit {n L : Nat} : ∀ (k : Nat) {ss : List Tri}, ss.length = k → GoodS n L ss → ∀ a p q : Nat, (toS ss a p).testBit q = decide (((p : Int), (a : Int), (q : Int)) ∈ ss)
  | 0, ss, hk, _, a, p, q => by
    have : ss = [] := List.eq_nil_of_length_eq_zero hk
    subst this
    simp [toS, -testBit_dec]
  | k + 1, ss, hk, h, a, p, q => by
    have hne : ss ≠ [] := by intro e; subst e; simp at hk
    have hs := List.dropLast_concat_getLast hne
    generalize ss.getLast hne = x at hs
    generalize ss.dropLast = l at hs
    subst hs
    have hl : GoodS n L l := fun y hy => h y (List.mem_append_left _ hy)
    have ih := toS_bit k (ss := l) (by simpa using hk) hl
    obtain ⟨x1, x2, x3⟩ := x
    obtain ⟨g1, _, g3, _, g5, _⟩ := h (x1, x2, x3) (by simp)
    simp only at g1 g3 g5
    rw [toS_snoc]
    simp only [addS, updT]
    by_cases e : a = x2.toNat ∧ p = x1.toNat
    · rw [if_pos e, Nat.testBit_or, ih, bit_one, Bool.eq_iff_iff]
      simp only [Bool.or_eq_true, decide_eq_true_eq, List.mem_append, List.mem_singleton, Prod.mk.injEq]
      rw [← e.1, ← e.2]
      constructor
      · rintro (h | h)
        · exact .inl h
        · exact .inr (by omega)
      · rintro (h | h)
        · exact .inl h
        · exact .inr (by omega)
    · rw [if_neg e, ih, Bool.eq_iff_iff]
      simp only [decide_eq_true_eq, List.mem_append, List.mem_singleton, Prod.mk.injEq]
      constructor
      · exact .inl
      · rintro (h | h)
        · exact h
        · exact absurd (show a = x2.toNat ∧ p = x1.toNat by omega) e
theorem toS_lt {n L : Nat} {ss : List Tri} (h : GoodS n L ss) (a p : Nat) : toS ss a p < 2 ^ n := by
  apply Nat.lt_pow_two_of_testBit
  intro q hq
  rw [toS_bit _ rfl h]
  refine decide_eq_false fun hm => ?_
  have := (h _ hm).2.2.2.2.2
  simp only at this
  omega
theorem take_mem3 {ss : List Tri} {i : Nat} {x : Tri} (hx : ss[i]? = some x) : ss.take (i + 1) = ss.take i ++ [x] := by
  rw [List.take_add_one, hx]; rfl
theorem GoodS.take {n L : Nat} {xs : List Tri} (h : GoodS n L xs) (k : Nat) : GoodS n L (xs.take k) := fun x hx => h x (List.mem_of_mem_take hx)
theorem lay_wp {W : AW} {v : Value} {n L : Nat} {ss : List Tri} (h : StepR W v ss) (hg : GoodS n L ss) (hn1 : 1 ≤ n) (hn : n ≤ 64) (hL : L ≤ 10) (hl : ss.length ≤ 500) :
    WpF T0 36 [.agg ⟨[.int .i64 (n : Int), v]⟩] W (fun u W' => Ext W W' ∧ ∃ c, u = .tuple ⟨[.pointer (some ⟨c, 0, none⟩), .int .i64 0]⟩ ∧ W.next ≤ c ∧ ChartAt W' c n (toS ss)) := by
  refine wpF fun36 rfl ?_
  obtain ⟨Av, cv, hvv⟩ := h.len
  obtain ⟨W1, hW1, hE1, hV, hn1'⟩ : ∃ W1, W1 = W.newCells 28 [.int .i64 (n : Int), v] ∧ Ext W W1 ∧ Var W1 W.next 28 [.int .i64 (n : Int), v] ∧ W1.next = W.next + 1 := ⟨_, rfl, .newCells _ _ _, Var.new _ _ _, rfl⟩
  have l0 := hV.load1 (T := T0) und3 rfl (j := 0) (v := .int .i64 (n : Int)) rfl
  have l1 := hV.load1 (T := T0) und26 rfl (j := 1) (v := v) rfl
  have ll : ∀ W', aLen T0 W' 26 v = some (.int .i64 ss.length) := fun W' => by rw [hvv]; exact len_slice und26 _ _ _
  have c1 : ¬ (n : Int) < 1 := by omega
  have c2 : ¬ (64 : Int) < n := by omega
  have c3 : ¬ (500 : Int) < ss.length := by omega
  try simp only [wpK_assoc]
  refine wpK_reg (fun R hR => by simp [← hW1]; exact hR) ?_
  try simp only [wpK_assoc]
  refine wpK_reg (fun R hR => by simp [l0, l1, ll, c1, c2, c3]; exact hR) ?_
  try simp only [wpK_assoc]
  first | refine wpK_onF (by simp [c1, c2, c3]) ?_ | refine wpK_out (by simp [c1, c2, c3]) ?_ | refine wpK_condF (by simp [c1, c2, c3]) ?_ | refine wpK_endF (by simp [c1, c2, c3]) (wpK_skip ?_) | refine wpK_endF (by simp [c1, c2, c3]) ?_
  obtain ⟨W2, hW2, hE2, hC, hn2⟩ : ∃ W2, W2 = W1.newCells 121 (.int .i64 (n : Int) :: (List.range 640).map fun j => Value.int .u64 ((0 : Nat) : Int)) ∧ Ext W1 W2 ∧ ChartAt W2 W1.next n (toS []) ∧ W2.next = W1.next + 1 := ⟨_, rfl, .newCells _ _ _, Var.new _ _ _, rfl⟩
  have hb := build121 (n : Int)
  generalize (Value.int .i64 (n : Int) :: (List.range 640).map fun j => Value.int .u64 ((0 : Nat) : Int)) = zl at hb hW2
  try simp only [wpK_assoc]
  refine wpK_reg (fun R hR => by simp [l0, hb, ← hW2]; exact hR) ?_
  have l1' := hE2
  have l1b := (hV.ext hE2).load1 (T := T0) und26 rfl (j := 1) (v := v) rfl
  try simp only [wpK_assoc]
  refine wpK_reg (fun R hR => by simp [l1b, ll]; exact hR) ?_
  obtain ⟨pc, hpc⟩ : ∃ p, p = W1.next := ⟨_, rfl⟩
  rw [← hpc] at hC
  try simp only [wpK_assoc]
  refine wpK_while (I := fun q A' W' => A'.n = 74 ∧ A'.defers = [] ∧ A'.tmps.get 4 = some (.pointer (some ⟨pc, 0, none⟩)) ∧ A'.tmps.get 26 = some (v) ∧ A'.tmps.get 27 = some (.int .i64 (ss.length : Int)) ∧ Ext W1 W' ∧ ∃ (i : Nat), A'.tmps.get 28 = some (.int .i64 (i : Int)) ∧ q = ss.length - i ∧ i ≤ ss.length ∧ ChartAt W' pc n (toS (ss.take i)))
    (J := fun A' W' => A'.n = 74 ∧ A'.defers = [] ∧ A'.tmps.get 4 = some (.pointer (some ⟨pc, 0, none⟩)) ∧ A'.tmps.get 26 = some (v) ∧ A'.tmps.get 27 = some (.int .i64 (ss.length : Int)) ∧ Ext W1 W' ∧ ChartAt W' pc n (toS ss)) (Rt := fun _ _ => False) (k := ss.length) ?_ ?_ ?_ ?_
  · exact ⟨rfl, rfl, by simp [hpc], by simp [hpc], by simp [hpc], hE2, 0, by simp, rfl, by omega, hC⟩
  · rintro q ⟨tm, n, ds⟩ Wa ⟨hn, hd, h4, h26, h27, hEa, i, h28, hk, hil, hCa⟩ Q' hJ' hRt hI
    simp only at hn hd h4 h26 h27
    subst hn; subst hd
    simp only at h28
    have na := hEa.1
    by_cases hlt : i < ss.length
    case neg =>
      have hlt' : ¬ (i : Int) < ss.length := by omega
      have e : ss.take i = ss := List.take_of_length_le (by omega)
      rw [e] at hCa
      try simp only [wpK_assoc]
      refine wpK_reg (fun R hR => by simp [h27, h28, hlt']; exact hR) ?_
      try simp only [wpK_assoc]
      first | refine wpK_onF (by simp [hlt]) ?_ | refine wpK_out (by simp [hlt]) ?_ | refine wpK_condF (by simp [hlt]) ?_ | refine wpK_endF (by simp [hlt]) (wpK_skip ?_) | refine wpK_endF (by simp [hlt]) ?_
      exact hJ' _ _ ⟨rfl, rfl, by simp [h4, h26, h27], by simp [h4, h26, h27], by simp [h4, h26, h27], hEa, hCa⟩
    have hlt' : (i : Int) < ss.length := by omega
    try simp only [wpK_assoc]
    refine wpK_reg (fun R hR => by simp [h27, h28, hlt']; exact hR) ?_
    try simp only [wpK_assoc]
    first | refine wpK_onT (by simp [hlt]) ?_ | refine wpK_outT (by simp [hlt]) ?_ | refine wpK_condT (by simp [hlt]) ?_ | refine wpK_endT (by simp [hlt]) ?_
    obtain ⟨⟨ea, eb, ec⟩, hab⟩ : ∃ e : Tri, ss[i] = e := ⟨_, rfl⟩
    have ha : ss[i]? = some (ea, eb, ec) := by rw [List.getElem?_eq_getElem hlt, hab]
    have hgm := hg (ea, eb, ec) (List.mem_of_getElem? ha)
    simp only at hgm
    obtain ⟨f, rfl⟩ : ∃ f : Nat, ea = (f : Int) := ⟨ea.toNat, by omega⟩
    obtain ⟨a, rfl⟩ : ∃ f : Nat, eb = (f : Int) := ⟨eb.toNat, by omega⟩
    obtain ⟨t, rfl⟩ : ∃ f : Nat, ec = (f : Int) := ⟨ec.toNat, by omega⟩
    have hR := h.ext (hE1.trans hEa)
    obtain ⟨qb, qo, hx, hh⟩ := step_load2 hR ha
    have hh : aLoadVar T0 Wa 72 qb qo = some (.agg ⟨[.int .i64 (f : Int), .int .i64 (a : Int), .int .i64 (t : Int)]⟩) := hh
    obtain ⟨Wb, s1, s2, s3, s4⟩ := storeVar_new (T := T0) (W := Wa) (t := 72) (z := [.int .i64 0, .int .i64 0, .int .i64 0]) (v := .agg ⟨[.int .i64 (f : Int), .int .i64 (a : Int), .int .i64 (t : Int)]⟩) inf72 (by rw [is72]; rfl) (by rw [is72]; rfl) rfl
    have s4 : Var Wb Wa.next 72 [.int .i64 (f : Int), .int .i64 (a : Int), .int .i64 (t : Int)] := s4
    refine wpK_block ?_
    try simp only [wpK_assoc]
    refine wpK_reg (fun R hR => by simp [h26, h28, hx, hh, zero72, s1]; exact hR) ?_
    have hCb := hCa.ext s3
    have e0 := s4.load1 (T := T0) und3 rfl (j := 0) (v := .int .i64 (f : Int)) rfl
    have e1 := s4.load1 (T := T0) und3 rfl (j := 1) (v := .int .i64 (a : Int)) rfl
    have e2 := s4.load1 (T := T0) und3 rfl (j := 2) (v := .int .i64 (t : Int)) rfl
    have k1 := chartHas_wp hCb (f : Int)
    rw [decide_eq_true (show (0 : Int) ≤ f ∧ (f : Int) < n by omega)] at k1
    have k2 := chartHas_wp hCb (t : Int)
    rw [decide_eq_true (show (0 : Int) ≤ t ∧ (t : Int) < n by omega)] at k2
    have d1 : ¬ (a : Int) < 0 := by omega
    have d2 : ¬ (10 : Int) ≤ a := by omega
    try simp only [wpK_assoc]
    refine wpK_reg (fun R hR => by
      simp [h4, e0, aEnter, fun45, short_other, aCallV]; rw [callS_none]
      refine k1.mono ?_
      rintro _ W9 ⟨e9, rfl⟩; subst W9
      simp [h4, e0, e2, aEnter, fun45, short_other, aCallV]; rw [callS_none]
      refine k2.mono ?_
      rintro _ W9 ⟨e9, rfl⟩; subst W9
      simp [h4, e0, e1, e2, d1, d2]; exact hR) ?_
    try simp only [wpK_assoc]
    first | refine wpK_onF (by simp [d1, d2]) ?_ | refine wpK_out (by simp [d1, d2]) ?_ | refine wpK_condF (by simp [d1, d2]) ?_ | refine wpK_endF (by simp [d1, d2]) (wpK_skip ?_) | refine wpK_endF (by simp [d1, d2]) ?_
    have ox := one_wp t (by omega) Wb
    have m1 := chart_to hCb (a := a) (p := f) (by omega) (by omega)
    have i1 := fun o => ix119 pc o a (by omega)
    have i2 := fun o => ix118 pc o f (by omega)
    have hadr : 1 + (a * 64 + f) = 1 + a * 64 + f := by omega
    have hlt64 : ∀ a p, toS (ss.take i) a p < 18446744073709551616 := fun a p => Nat.lt_of_lt_of_le (toS_lt (hg.take i) a p) (Nat.pow_le_pow_right (by omega) hn)
    have hor := aBinI_or .u64 (toS (ss.take i) a f) (1 <<< t) (hlt64 a f) (by rw [Nat.one_shiftLeft]; show 2 ^ t < 2 ^ 64; exact Nat.pow_lt_pow_right (by omega) (by omega))
    have hset := chartL_set n (toS (ss.take i)) (a := a) (p := f) (by omega) (by omega) (toS (ss.take i) a f ||| 1 <<< t)
    have hadd : updT (toS (ss.take i)) a f (toS (ss.take i) a f ||| 1 <<< t) = toS (ss.take (i + 1)) := by
      rw [take_mem3 ha, toS_snoc]; rfl
    rw [hadd] at hset
    generalize toS (ss.take i) a f ||| 1 <<< t = nv at hor hset hadd
    generalize toS (ss.take i) a f = ov at m1 hor
    generalize 1 <<< t = one at ox hor
    obtain ⟨Wd, s5, s6, s7, s8⟩ := hCb.store (T := T0) (t := 89) (v := .int .u64 (nv : Nat)) (o := 1 + (a * 64 + f)) inf89 (by rw [is89]; rfl) (by rw [chartL_len]; show 1 + (a * 64 + f) + 1 ≤ 641; omega) rfl
    rw [hadr] at m1 s5
    have s8 : ChartAt Wd pc n (toS (ss.take (i + 1))) := by
      show Var Wd pc 121 (chartL n (toS (ss.take (i + 1))))
      rw [← hset]
      have e : (chartL n (toS (ss.take i))).take (1 + (a * 64 + f)) ++ acells (.int .u64 (nv : Nat)) ++ (chartL n (toS (ss.take i))).drop (1 + (a * 64 + f) + (acells (.int .u64 (nv : Nat))).length) = (chartL n (toS (ss.take i))).set (1 + (a * 64 + f)) (.int .u64 (nv : Nat)) := by
        rw [List.set_eq_take_append_cons_drop, if_pos (by rw [chartL_len]; omega)]
        simp [acells]
      rw [e] at s8; exact s8
    try simp only [wpK_assoc]
    refine wpK_qn (wr := Tr.nil |>.set 54 0 |>.set 55 1 |>.set 56 2 |>.set 57 3 |>.set 58 4 |>.set 59 5 |>.set 60 6 |>.set 61 7 |>.set 62 8 |>.set 63 9 |>.set 64 10 |>.set 65 11 |>.set 66 12 |>.set 67 13 |>.set 68 14 |>.set 69 15 |>.set 70 16 |>.set 71 17) (bits := Tr.nil.lay 0 [0, 0, 2, 0, 8, 1, 33, 103, 255, 511, 0, 1024, 3072, 8191, 1, 16385, 49159, 131071, 262143]) (ord := [0, 1, 2, 3, 4, 5, 6, 7, 8, 9, 10, 11, 12, 13, 14, 15, 16, 17, 18]) (by kernel_rfl) (by kernel_rfl) (by kernel_rfl) (fun G hG => by
      simp [h4, e0, e1, e2, i1, i2, m1, aEnter, fun49, short_other, aCallV]
      rw [dcallS_none]
      refine ox.mono ?_
      rintro _ W9 ⟨e9, rfl⟩; subst W9
      simp [h4, e0, e1, e2, i1, i2, m1, hor, s5, s6]
      exact hG) ?_
    simp only [leaves_normal, behind_normal]
    refine wpK_keep (fun tm' => tm'.get 4 = some (.pointer (some ⟨pc, 0, none⟩)) ∧ tm'.get 26 = some (v) ∧ tm'.get 27 = some (.int .i64 (ss.length : Int)) ∧ tm'.get 28 = some (.int .i64 (i : Int))) ⟨by simp [h4, h26, h27, h28], by simp [h4, h26, h27, h28], by simp [h4, h26, h27, h28], by simp [h4, h26, h27, h28]⟩ ?_
    rintro tm ⟨h4, h26, h27, h28⟩
    try simp only [wpK_assoc]
    refine wpK_reg1 (fun R hR => by simp [h28]; exact hR) ?_
    exact hI (ss.length - (i + 1)) _ _ (by omega) ⟨rfl, rfl, by simp [h4, h26, h27], by simp [h4, h26, h27], by simp [h4, h26, h27], ⟨by omega, fun b hb hk => by rw [s7.2 b (by omega) (by omega)]; exact (hEa.trans s3).2 b hb hk⟩, i + 1, by simp [i64_succ i (by omega)], rfl, by omega, s8⟩
  · rintro A' W' hf; exact hf.elim
  · rintro ⟨tm, n, ds⟩ Wz ⟨hn, hd, h4, h26, h27, hEz, hCz⟩
    simp only at hn hd h4 h26 h27
    subst hn; subst hd
    try simp only [wpK_assoc]
    refine wpK_reg (fun R hR => by simp [h4]; exact hR) ?_
    exact wpK_ret ⟨.inr rfl, rfl, [.pointer (some ⟨pc, 0, none⟩), .int .i64 0], by simp, hE1.trans hEz, pc, rfl, by omega, hCz⟩
end Go.Proofs.YtfnigiojgbeklaaDoor

open Go Go.Eng
namespace Go.Proofs.YtfnigiojgbeklaaDoor
attribute [local congr] undef_congr WpK.congr WpS.congr WpL.congr WpC.congr WpF.congr gotS.congr callS.congr nextS.congr wantS.congr condS.congr
attribute [local irreducible] WpK
attribute [local simp] WpDr_nil WpDr_cons atS_some dwantS_true dwantS_false kindS_light kindS_float kindS_heavy lightS_value floatS_some heavyS_value heavyS_skip heavyS_enter dcallS_some doneS_eq
  isLight isFloat isPlain dLook testBit_dec dChain dLights_nil dLights_skip dLights_one dLight_nil dLight_cons dFreshes_nil dFreshes_one oneF_none oneF_some dFresh_nil dFresh_cons oneL_some oneW_true oneW_false sameV_value dPut dMay valEq arrEq listEq List.getElem?_cons Tr.get_nil dEnd
attribute [local simp] WpS_nil WpS_cons isDefer undef_false wantS_true wantS_false nextS_value nextS_skip nextS_enter callS_some gotS_some aWanted aOp aEvalF aEval opMove opAssign opPick aVal flat flat1 AAct.put opBinOp opConvert opIndex Tr.get_set Tr.get_lay aBin aResults tupled
  aCall aVals aCallB blt_dec ble_dec beq_dec aBinI_add aBinI_sub aBinI_lss aBinI_leq aBinI_gtr aBinI_geq aBinI_eql aBinI_neq index_str len_str len_slice Nat.beq_refl Nat.beq_refl
  opBox opLoad opFieldAddr opIndexAddr acells aAddr opExtract aExtract opUnOp opAlloc opStore opMakeInterface opNilCheck opBuild aParts opBuildSlice aValW
attribute [local simp] und2 und3 und4 und5 und9 und12 und13 und21 und22 und23 und24 und26 und27 und28 und30 und31 und34 und40 und43 und48 und49 und50 und54 und70 und71 und72 und79 und81 und86 und88 und89 und94 und99 und108 und109 und110 und118 und119 und120 und121 und123 und134 und143 und144 und145 und146 und148 und149 und150 und153 und154 und155 und157 und165 und167 und168 und178 und179 und187 und188 und189 und190 und191 und192 und193 und199 und214 und218 field13_0 field13_1 field23_0 field23_1 field24_0 field24_1 field27_0 field27_1 field28_0 field28_1 field49_0 field49_1 field49_2 field50_0 field50_1 field50_2 field70_0 field70_1 field70_2 field71_0 field71_1 field71_2 field72_0 field72_1 field72_2 field108_0 field108_1 field108_2 field109_0 field109_1 field109_2 field120_0 field120_1 field121_0 field121_1 field145_0 field145_1 field145_2 field146_0 field146_1 field146_2 field154_0 field154_1 field155_0 field155_1 field178_0 field178_1 field178_2 field178_3 field179_0 field179_1 field179_2 field179_3 field188_0 field188_1 field189_0 field189_1
set_option maxHeartbeats 4000000
set_option linter.unusedSimpArgs false
set_option linter.unusedVariables false
theorem placesX_wp {l bx x : Nat} (C : Nat → AW → Prop) (D : AW → Prop) (hx : x < 18446744073709551616)
    (hC : ∀ left k W, C left W → left < 18446744073709551616 → left.testBit k = true → (∀ j, j < k → left.testBit j = false) → tabsIn T0 T0.tabs W = true ∧ ∃ st pd fn t n ps asn bd df kin t', W.blocks.get l = some ⟨.loop st pd fn t n ps asn bd df, kin⟩ ∧ aSetAll t n ps.toList [.int .i64 (k : Nat)] = some t' ∧
      WpR T0 l fn t' n asn bd W (fun v W' => ∃ b : Bool, v = .bool b ∧ (b = true → C (dropLow left) W') ∧ (b = false → D W')))
    {W : AW} (h0 : C x W) (hb : W.Has bx 0 (.int .u64 (x : Nat))) : WpF T0 72 [.func (.yield l) #[] #[], .pointer (some ⟨bx, 0, none⟩)] W (fun _ W' => C 0 W' ∨ D W') := by
  have hl := load_of und89 rfl hb
  refine wpF fun72 rfl ?_
  try simp only [wpK_assoc]
  refine wpK_reg (fun R hR => by simp [hl]; exact hR) ?_
  try simp only [wpK_assoc]
  refine wpK_while1 (I := fun k A W' => A.n = 16 ∧ A.defers = [] ∧ A.tmps.get 0 = some (.func (.yield l) #[] #[]) ∧ A.tmps.get 3 = some (.int .u64 (k : Nat)) ∧ k < 18446744073709551616 ∧ C k W')
    (J := fun A W' => A.defers = [] ∧ C 0 W') (Rt := fun A W' => A.defers = [] ∧ D W') (k := x) ?_ ?_ ?_ ?_
  · exact ⟨rfl, rfl, by simp, by simp, hx, h0⟩
  · rintro k ⟨tm, n, ds⟩ W3 ⟨hn, hd, h0, h3, hk, hCk⟩ Q' hJ hRt hI
    simp only at hn hd h0
    subst hn; subst hd
    simp only at h3
    by_cases hz : k = 0
    · subst hz
      try simp only [wpK_assoc]
      refine wpK_reg (fun R hR => by simp [h3]; exact hR) ?_
      try simp only [wpK_assoc]
      first | refine wpK_onF (by simp []) ?_ | refine wpK_out (by simp []) ?_ | refine wpK_condF (by simp []) ?_ | refine wpK_endF (by simp []) (wpK_skip ?_) | refine wpK_endF (by simp []) ?_
      exact hJ _ _ ⟨rfl, hCk⟩
    have hz' : ¬ (k : Int) = 0 := by omega
    try simp only [wpK_assoc]
    refine wpK_reg (fun R hR => by simp [h3, hz', hz]; exact hR) ?_
    try simp only [wpK_assoc]
    first | refine wpK_onT (by simp []) ?_ | refine wpK_outT (by simp []) ?_ | refine wpK_condT (by simp []) ?_ | refine wpK_endT (by simp []) ?_
    obtain ⟨q, hq1, hq2⟩ := low_ex hz
    obtain ⟨hT, st, pd, fn, t', n', ps, asn, bd, df, kin, tt, hy1, hy2, hy3⟩ := hC k q W3 hCk hk hq1 hq2
    refine wpK_block ?_
    try simp only [wpK_assoc]
    refine wpK_x1 (P := fun b W4 => (b = true → C (dropLow k) W4) ∧ (b = false → D W4)) (fun R hR => by
      simp [h0, h3, aEnter, fun73, short_other, aCallV]; rw [callS_none]
      refine (first_wp hT hk hq1 hq2).mono ?_
      rintro _ W9 ⟨e9, rfl⟩; subst W9
      simp [aEnter, hy1, hy2, aCallV, nextS_round]
      refine hy3.mono ?_
      rintro _ W4 ⟨b, rfl, hC4⟩
      simp; exact hR b W4 hC4) ?_
    rintro b W4 ⟨hC4, hD4⟩
    cases b with
    | false =>
      try simp only [wpK_assoc]
      first | refine wpK_onT (by simp []) ?_ | refine wpK_outT (by simp []) ?_ | refine wpK_condT (by simp []) ?_ | refine wpK_endT (by simp []) ?_
      refine wpK_ret ?_
      exact hRt _ _ ⟨rfl, hD4 rfl⟩
    | true =>
    try simp only [wpK_assoc]
    first | refine wpK_onF (by simp []) ?_ | refine wpK_out (by simp []) ?_ | refine wpK_condF (by simp []) ?_ | refine wpK_endF (by simp []) (wpK_skip ?_) | refine wpK_endF (by simp []) ?_
    have w1 : IntKind.u64.wrap ((k : Int) - 1) = ((k - 1 : Nat) : Int) := by
      have : ((k : Int) - 1) = ((k - 1 : Nat) : Int) := by omega
      rw [this]; exact wrap_nat .u64 _ (by show k - 1 < 18446744073709551616; omega)
    have hand := aBinI_and .u64 k (k - 1) (by show k < 18446744073709551616; omega) (by show k - 1 < 18446744073709551616; omega)
    have hlt := dropLow_lt hz
    simp only [leaves_normal, behind_normal]
    try simp only [wpK_assoc]
    refine wpK_reg1 (fun R hR => by simp [h3, w1, hand]; exact hR) ?_
    exact hI (dropLow k) _ _ hlt ⟨rfl, rfl, by simp [h0], by simp; rfl, by omega, hC4 rfl⟩
  · rintro A' W' ⟨h1, h2⟩
    exact ⟨.inr rfl, h1, [], by rfl, .inr h2⟩
  · rintro A' W' ⟨h1, h2⟩
    exact ⟨.inl rfl, h1, [], by rfl, .inl h2⟩
end Go.Proofs.YtfnigiojgbeklaaDoor

open Go Go.Eng
namespace Go.Proofs.YtfnigiojgbeklaaDoor
attribute [local congr] undef_congr WpK.congr WpS.congr WpL.congr WpC.congr WpF.congr gotS.congr callS.congr nextS.congr wantS.congr condS.congr
attribute [local irreducible] WpK
attribute [local simp] WpDr_nil WpDr_cons atS_some dwantS_true dwantS_false kindS_light kindS_float kindS_heavy lightS_value floatS_some heavyS_value heavyS_skip heavyS_enter dcallS_some doneS_eq
  isLight isFloat isPlain dLook testBit_dec dChain dLights_nil dLights_skip dLights_one dLight_nil dLight_cons dFreshes_nil dFreshes_one oneF_none oneF_some dFresh_nil dFresh_cons oneL_some oneW_true oneW_false sameV_value dPut dMay valEq arrEq listEq List.getElem?_cons Tr.get_nil dEnd
attribute [local simp] WpS_nil WpS_cons isDefer undef_false wantS_true wantS_false nextS_value nextS_skip nextS_enter callS_some gotS_some aWanted aOp aEvalF aEval opMove opAssign opPick aVal flat flat1 AAct.put opBinOp opConvert opIndex Tr.get_set Tr.get_lay aBin aResults tupled
  aCall aVals aCallB blt_dec ble_dec beq_dec aBinI_add aBinI_sub aBinI_lss aBinI_leq aBinI_gtr aBinI_geq aBinI_eql aBinI_neq index_str len_str len_slice Nat.beq_refl Nat.beq_refl
  opBox opLoad opFieldAddr opIndexAddr acells aAddr opExtract aExtract opUnOp opAlloc opStore opMakeInterface opNilCheck opBuild aParts opBuildSlice aValW
attribute [local simp] und2 und3 und4 und5 und9 und12 und13 und21 und22 und23 und24 und26 und27 und28 und30 und31 und34 und40 und43 und48 und49 und50 und54 und70 und71 und72 und79 und81 und86 und88 und89 und94 und99 und108 und109 und110 und118 und119 und120 und121 und123 und134 und143 und144 und145 und146 und148 und149 und150 und153 und154 und155 und157 und165 und167 und168 und178 und179 und187 und188 und189 und190 und191 und192 und193 und199 und214 und218 field13_0 field13_1 field23_0 field23_1 field24_0 field24_1 field27_0 field27_1 field28_0 field28_1 field49_0 field49_1 field49_2 field50_0 field50_1 field50_2 field70_0 field70_1 field70_2 field71_0 field71_1 field71_2 field72_0 field72_1 field72_2 field108_0 field108_1 field108_2 field109_0 field109_1 field109_2 field120_0 field120_1 field121_0 field121_1 field145_0 field145_1 field145_2 field146_0 field146_1 field146_2 field154_0 field154_1 field155_0 field155_1 field178_0 field178_1 field178_2 field178_3 field179_0 field179_1 field179_2 field179_3 field188_0 field188_1 field189_0 field189_1
set_option maxHeartbeats 4000000
set_option linter.unusedSimpArgs false
set_option linter.unusedVariables false
def Marks (lo : Nat) : List Deferred → AW → Prop
  | [], _ => True
  | d :: ds, W => ∃ r, d.target = .collected r ∧ lo ≤ r ∧ r < W.next ∧ W.blocks.get r = some ⟨.deferred (some []), []⟩ ∧ (∀ d' ∈ ds, d'.target ≠ .collected r) ∧ Marks lo ds W
theorem Marks.only {lo : Nat} {W W' : AW} {K : Nat → Prop} (he : Only K W W') : ∀ {ds : List Deferred}, Marks lo ds W → (∀ d ∈ ds, ∀ r, d.target = .collected r → lo ≤ r → r < W.next → ¬ K r) → Marks lo ds W'
  | [], _, _ => trivial
  | d :: ds, h, hk => by
    obtain ⟨r, h1, h2, h3, h4, h5, h6⟩ := h
    exact ⟨r, h1, h2, by have := he.1; omega, by rw [he.2 r h3 (hk d (List.mem_cons_self ..) r h1 h2 h3)]; exact h4, h5, h6.only he (fun d' hd => hk d' (List.mem_cons_of_mem _ hd))⟩
theorem Marks.ext {lo : Nat} {W W' : AW} {ds : List Deferred} (h : Marks lo ds W) (he : Ext W W') : Marks lo ds W' := h.only he (fun _ _ _ _ _ _ x => x)
theorem Marks.low {lo : Nat} {W : AW} : ∀ {ds : List Deferred}, Marks lo ds W → ∀ d ∈ ds, ∀ r, d.target = .collected r → r < W.next
  | d :: ds, h, d', hd, r, hr => by
    obtain ⟨r', h1, h2, h3, h4, h5, h6⟩ := h
    cases hd with
    | head => rw [h1] at hr; cases hr; exact h3
    | tail _ hd => exact h6.low d' hd r hr
theorem Marks.collects {lo : Nat} : ∀ {ds : List Deferred} {W : AW}, Marks lo ds W → ∃ W', Collects ds W W' ∧ Only (fun b => lo ≤ b) W W'
  | [], W, _ => ⟨W, rfl, .refl _ _⟩
  | d :: ds, W, h => by
    obtain ⟨r, h1, h2, h3, h4, h5, h6⟩ := h
    have h6' : Marks lo ds (W.setObj r (.deferred none)) := h6.only (setObj_only W r _) (fun d' hd r' hr _ _ e => h5 d' hd (by rw [hr, e]))
    obtain ⟨W', g1, g2⟩ := h6'.collects
    exact ⟨W', ⟨r, h1, h4, g1⟩, Only.trans (Only.mono (setObj_only W r _) (fun b _ e => by omega)) g2⟩
end Go.Proofs.YtfnigiojgbeklaaDoor

open Go Go.Eng
namespace Go.Proofs.YtfnigiojgbeklaaDoor
attribute [local congr] undef_congr WpK.congr WpS.congr WpL.congr WpC.congr WpF.congr gotS.congr callS.congr nextS.congr wantS.congr condS.congr
attribute [local irreducible] WpK
attribute [local simp] WpDr_nil WpDr_cons atS_some dwantS_true dwantS_false kindS_light kindS_float kindS_heavy lightS_value floatS_some heavyS_value heavyS_skip heavyS_enter dcallS_some doneS_eq
  isLight isFloat isPlain dLook testBit_dec dChain dLights_nil dLights_skip dLights_one dLight_nil dLight_cons dFreshes_nil dFreshes_one oneF_none oneF_some dFresh_nil dFresh_cons oneL_some oneW_true oneW_false sameV_value dPut dMay valEq arrEq listEq List.getElem?_cons Tr.get_nil dEnd
attribute [local simp] WpS_nil WpS_cons isDefer undef_false wantS_true wantS_false nextS_value nextS_skip nextS_enter callS_some gotS_some aWanted aOp aEvalF aEval opMove opAssign opPick aVal flat flat1 AAct.put opBinOp opConvert opIndex Tr.get_set Tr.get_lay aBin aResults tupled
  aCall aVals aCallB blt_dec ble_dec beq_dec aBinI_add aBinI_sub aBinI_lss aBinI_leq aBinI_gtr aBinI_geq aBinI_eql aBinI_neq index_str len_str len_slice Nat.beq_refl Nat.beq_refl
  opBox opLoad opFieldAddr opIndexAddr acells aAddr opExtract aExtract opUnOp opAlloc opStore opMakeInterface opNilCheck opBuild aParts opBuildSlice aValW
attribute [local simp] und2 und3 und4 und5 und9 und12 und13 und21 und22 und23 und24 und26 und27 und28 und30 und31 und34 und40 und43 und48 und49 und50 und54 und70 und71 und72 und79 und81 und86 und88 und89 und94 und99 und108 und109 und110 und118 und119 und120 und121 und123 und134 und143 und144 und145 und146 und148 und149 und150 und153 und154 und155 und157 und165 und167 und168 und178 und179 und187 und188 und189 und190 und191 und192 und193 und199 und214 und218 field13_0 field13_1 field23_0 field23_1 field24_0 field24_1 field27_0 field27_1 field28_0 field28_1 field49_0 field49_1 field49_2 field50_0 field50_1 field50_2 field70_0 field70_1 field70_2 field71_0 field71_1 field71_2 field72_0 field72_1 field72_2 field108_0 field108_1 field108_2 field109_0 field109_1 field109_2 field120_0 field120_1 field121_0 field121_1 field145_0 field145_1 field145_2 field146_0 field146_1 field146_2 field154_0 field154_1 field155_0 field155_1 field178_0 field178_1 field178_2 field178_3 field179_0 field179_1 field179_2 field179_3 field188_0 field188_1 field189_0 field189_1
set_option maxHeartbeats 4000000
set_option linter.unusedSimpArgs false
set_option linter.unusedVariables false
theorem und172 : T0.und.get 172 = some Tryd.t172.desc := by kernel_rfl
theorem agg172 : isAggD Tryd.t172.desc = false := by kernel_rfl
theorem build72 (a b c : Int) : aBuild T0 72 [(0, .int .i64 a), (1, .int .i64 b), (2, .int .i64 c)] = some (.agg ⟨[.int .i64 a, .int .i64 b, .int .i64 c]⟩) := by kernel_rfl
theorem Only.wide {W W' : AW} {K : Nat → Prop} (h : Ext W W') : Only K W W' := h.mono (fun _ _ x => x.elim)
structure Walker (l b1 b2 c n p lo : Nat) (to : Nat → Nat → Nat) (C : Nat → Nat → AW → Prop) (D : AW → Prop) (Kx : Nat → Prop) : Prop where
  stay : ∀ a x W W', C a x W → Only (fun b => lo ≤ b) W W' → C a x W'
  stayD : ∀ W W', D W → Only (fun b => lo ≤ b) W W' → D W'
  base : ∀ a x W, C a x W → lo ≤ W.next ∧ 0 < lo ∧ tabsIn T0 T0.tabs W = true ∧ W.Has b1 0 (.pointer (some ⟨c, 0, none⟩)) ∧ W.Has b2 0 (.int .i64 (p : Int)) ∧ ChartAt W c n to ∧ b1 < lo ∧ b2 < lo ∧ c < lo
  next : ∀ a W, a < 10 → C a 0 W → C (a + 1) (to (a + 1) p) W
  low : ∀ b, Kx b → b < lo
  ask : ∀ a left k W, a < 10 → C a left W → left < 18446744073709551616 → left.testBit k = true → (∀ j, j < k → left.testBit j = false) → ∃ st pd fn t n ps asn bd df kin t', W.blocks.get l = some ⟨.loop st pd fn t n ps asn bd df, kin⟩ ∧
    aSetAll t n ps.toList [.agg ⟨[.int .i64 (p : Int), .int .i64 (a : Int), .int .i64 (k : Int)]⟩] = some t' ∧ WpR T0 l fn t' n asn bd W (fun v W' => Only Kx W W' ∧ ∃ b : Bool, v = .bool b ∧ (b = true → C a (dropLow left) W') ∧ (b = false → D W'))
theorem steps1_wp {l b1 b2 c n p : Nat} {to : Nat → Nat → Nat} {C : Nat → Nat → AW → Prop} {D : AW → Prop} {Kx : Nat → Prop} {W0 : AW} (hw : Walker l b1 b2 c n p W0.next to C D Kx) (hp : p < 64) (hto : ∀ a, to a p < 18446744073709551616)
    (h0 : C 0 (to 0 p) W0) : WpF T0 86 [.func (.yield l) #[] #[], .pointer (some ⟨b1, 0, none⟩), .pointer (some ⟨b2, 0, none⟩)] W0 (fun _ W' => C 10 (to 10 p) W' ∨ D W') := by
  refine wpFd fun86 rfl ?_
  obtain ⟨W1, hW1, hE1, hV1, hn1⟩ : ∃ W1, W1 = W0.newCells 172 [.func (.yield l) #[] #[]] ∧ Ext W0 W1 ∧ Var W1 W0.next 172 [.func (.yield l) #[] #[]] ∧ W1.next = W0.next + 1 := ⟨_, rfl, .newCells _ _ _, Var.new _ _ _, rfl⟩
  try simp only [wpK_assoc]
  refine wpK_reg (fun R hR => by simp [← hW1]; exact hR) ?_
  try simp only [wpK_assoc]
  refine wpK_reg (fun R hR => by simp []; exact hR) ?_
  obtain ⟨lo, hlo⟩ : ∃ lo, lo = W0.next := ⟨_, rfl⟩
  rw [← hlo] at hw hV1 hn1
  try simp only [wpK_assoc]
  refine wpK_while1 (I := fun k A' W' => A'.n = 27 ∧ A'.tmps.get 1 = some (.pointer (some ⟨b1, 0, none⟩)) ∧ A'.tmps.get 2 = some (.pointer (some ⟨b2, 0, none⟩)) ∧ A'.tmps.get 3 = some (.pointer (some ⟨lo, 0, none⟩)) ∧
      ∃ (a : Nat), A'.tmps.get 6 = some (.int .i64 (a : Int)) ∧ k = 10 - a ∧ a ≤ 10 ∧ Marks lo A'.defers W' ∧ lo + 1 ≤ W'.next ∧ Var W' lo 172 [.func (.yield l) #[] #[]] ∧ C a (to a p) W')
    (J := fun A' W' => Marks lo A'.defers W' ∧ C 10 (to 10 p) W') (Rt := fun A' W' => Marks lo A'.defers W' ∧ D W') (k := 10) ?_ ?_ ?_ ?_
  · exact ⟨rfl, by simp, by simp, by simp [hlo], 0, by simp, rfl, by omega, trivial, by omega, hV1, hw.stay _ _ _ _ h0 (Only.wide hE1)⟩
  · rintro k ⟨tm, n', ds⟩ Wa ⟨hn', h1, h2, h3, a, h6, hk, ha10, hMk, hna, hVa, hCa⟩ Q' hJ hRt hI
    simp only at hn' h1 h2 h3 h6 hMk
    subst hn'
    by_cases hlt : a < 10
    case neg =>
      have e : a = 10 := by omega
      subst e
      try simp only [wpK_assoc]
      refine wpK_reg (fun R hR => by simp [h6]; exact hR) ?_
      try simp only [wpK_assoc]
      first | refine wpK_onF (by simp []) ?_ | refine wpK_out (by simp []) ?_ | refine wpK_condF (by simp []) ?_ | refine wpK_endF (by simp []) (wpK_skip ?_) | refine wpK_endF (by simp []) ?_
      exact hJ _ _ ⟨hMk, hCa⟩
    have hlt' : (a : Int) < 10 := by omega
    try simp only [wpK_assoc]
    refine wpK_reg (fun R hR => by simp [h6, hlt']; exact hR) ?_
    try simp only [wpK_assoc]
    first | refine wpK_onT (by simp [hlt]) ?_ | refine wpK_outT (by simp [hlt]) ?_ | refine wpK_condT (by simp [hlt]) ?_ | refine wpK_endT (by simp [hlt]) ?_
    obtain ⟨Wb, s1, s2, s3, s4⟩ := storeVar_new (T := T0) (W := Wa) (t := 3) (z := [.int .i64 0]) (v := .int .i64 (a : Int)) inf3 (by rw [is3]; rfl) (by rw [is3]; rfl) rfl
    have s4 : Var Wb Wa.next 3 [.int .i64 (a : Int)] := s4
    refine wpK_block ?_
    try simp only [wpK_assoc]
    refine wpK_reg (fun R hR => by simp [h6, zero3, s1]; exact hR) ?_
    have hCb := hw.stay _ _ _ _ hCa (Only.wide s3)
    obtain ⟨g1, g2, g3, g4, g5, g6, g7, g8, g9⟩ := hw.base _ _ _ hCb
    have l1 := load_of und81 rfl g4
    have l2 := load_of und3 rfl g5
    have l4 := s4.load1 (T := T0) und3 rfl (j := 0) (v := .int .i64 (a : Int)) rfl
    have l5 := chart_to g6 (a := a) (p := p) hlt hp
    have i1 := fun o => ix119 c o a hlt
    have i2 := fun o => ix118 c o p hp
    rw [show 1 + (a * 64 + p) = 1 + a * 64 + p from by omega] at l5
    try simp only [wpK_assoc]
    refine wpK_d0 (wr := Tr.nil |>.set 9 0 |>.set 10 1 |>.set 11 2 |>.set 12 3 |>.set 13 4 |>.set 14 5 |>.set 15 6 |>.set 16 7 |>.set 17 8) (bits := Tr.nil.lay 0 [0, 0, 0, 1, 9, 27, 63, 127, 255]) (ord := [0, 1, 2, 3, 4, 5, 6, 7, 8]) (by kernel_rfl) (by kernel_rfl) (by kernel_rfl) (fun G hG => by
      simp [h1, h2, h3, l1, l2, l4, l5, i1, i2, aEnter, fun40, short_other, aCallV]
      rw [dcallS_none]
      refine (places_wp (to a p)).mono ?_
      rintro _ Wc ⟨hEc, rfl, hBc⟩
      simp [h1, h2, h3, l1, l2, l4, l5, i1, i2, hEc.1]
      exact hG Wc (And.intro hEc hBc)) ?_
    rintro Wc ⟨hEc, hBc⟩
    refine wpK_keep (fun tm' => tm'.get 1 = some (.pointer (some ⟨b1, 0, none⟩)) ∧ tm'.get 2 = some (.pointer (some ⟨b2, 0, none⟩)) ∧ tm'.get 3 = some (.pointer (some ⟨lo, 0, none⟩)) ∧ tm'.get 4 = some (.pointer (some ⟨Wa.next, 0, none⟩)) ∧ tm'.get 6 = some (.int .i64 (a : Int)) ∧ tm'.get 17 = some (.func (.func 72) ⟨[]⟩ ⟨[.pointer (some ⟨Wb.next, 0, none⟩)]⟩)) ⟨by simp [h1], by simp [h2], by simp [h3], by simp, by simp [h6], by simp⟩ ?_
    rintro tm ⟨h1, h2, h3, h4, h6, h17⟩
    have nb := s3.1
    have nc := hEc.1
    refine wpK_range3 (f := 72) (first := ⟨[]⟩) (cap := ⟨[.pointer (some ⟨Wb.next, 0, none⟩)]⟩) (by simp [h17]) fun72 (fun W5 hn5 hW5 hdf hlp => ?_)
    obtain ⟨q, hq⟩ : ∃ q, q = Wc.next := ⟨_, rfl⟩
    rw [← hq] at hn5 hdf hlp
    have hEc5 : Ext Wc W5 := ⟨by omega, fun b hb _ => hW5 b hb⟩
    have hEb5 := hEc.trans hEc5
    have hEa5 := s3.trans hEb5
    -- what stands of this function's own
    have own : ∀ {W W' : AW} {K : Nat → Prop}, (W5.next ≤ W.next ∧ Var W lo 172 [.func (.yield l) #[] #[]] ∧ Var W Wa.next 3 [.int .i64 (a : Int)] ∧ W.blocks.get q = some ⟨.deferred (some []), []⟩ ∧ Marks lo ds W) → Only K W W' → (∀ b, K b → b < lo ∨ b = q + 1) →
        (W5.next ≤ W'.next ∧ Var W' lo 172 [.func (.yield l) #[] #[]] ∧ Var W' Wa.next 3 [.int .i64 (a : Int)] ∧ W'.blocks.get q = some ⟨.deferred (some []), []⟩ ∧ Marks lo ds W') := by
      intro W W' K ⟨o1, o2, o3, o4, o5⟩ he hK
      have hlow := hMk.low
      refine ⟨Nat.le_trans o1 he.1, o2.only he (fun hk => by have := hK _ hk; omega), o3.only he (fun hk => by have := hK _ hk; omega), by rw [he.2 q (by omega) (fun hk => by have := hK _ hk; omega)]; exact o4, o5.only he (fun d hd r hr h1 _ hk => ?_)⟩
      have := hlow d hd r hr
      have := hK _ hk; omega
    have own5 : W5.next ≤ W5.next ∧ Var W5 lo 172 [.func (.yield l) #[] #[]] ∧ Var W5 Wa.next 3 [.int .i64 (a : Int)] ∧ W5.blocks.get q = some ⟨.deferred (some []), []⟩ ∧ Marks lo ds W5 :=
      ⟨Nat.le_refl _, hVa.ext hEa5, s4.ext hEb5, hdf, hMk.ext hEa5⟩
    refine (placesX_wp (l := Wc.next + 1) (bx := Wb.next) (x := to a p)
      (fun left W' => (W5.next ≤ W'.next ∧ Var W' lo 172 [.func (.yield l) #[] #[]] ∧ Var W' Wa.next 3 [.int .i64 (a : Int)] ∧ W'.blocks.get q = some ⟨.deferred (some []), []⟩ ∧ Marks lo ds W') ∧ W'.blocks.get (q + 1) = W5.blocks.get (q + 1) ∧ C a left W')
      (fun W' => (W5.next ≤ W'.next ∧ Var W' lo 172 [.func (.yield l) #[] #[]] ∧ Var W' Wa.next 3 [.int .i64 (a : Int)] ∧ W'.blocks.get q = some ⟨.deferred (some []), []⟩ ∧ Marks lo ds W') ∧ (∃ fn t n ps asn bd df, W'.blocks.get (q + 1) = some ⟨.loop .done (some .ret) fn t n ps asn bd df, []⟩) ∧ D W')
      (hto a) (fun left k W' hC hl hb1 hb2 => ?_) ⟨own5, rfl, hw.stay _ _ _ _ hCb (Only.wide hEb5)⟩ (hBc.ext hEc5)).mono ?_
    · obtain ⟨c1, c2, c3⟩ := hC
      have hl' := c2.trans hlp
      obtain ⟨_, _, t3, _⟩ := hw.base _ _ _ c3
      rw [hq] at hl'
      refine ⟨t3, _, _, _, _, _, _, _, _, _, _, tm.set 18 (.int .i64 (k : Nat)), hl', rfl, ?_⟩
      refine wpR ?_
      try simp only [wpK_assoc]
      refine wpK_reg1 (fun R hR => by simp []; exact hR) ?_
      refine ⟨rfl, _, _, _, _, _, _, _, _, hl', ?_⟩
      rw [← hq] at hl' ⊢
      generalize hbz : (AObj.loop LoopState.busy _ _ _ _ _ _ _ _) = bz
      obtain ⟨Wy, hWy, hOy, hny⟩ : ∃ Wy, Wy = W'.setObj (q + 1) bz ∧ Only (fun b => b = q + 1) W' Wy ∧ Wy.next = W'.next := ⟨_, rfl, setObj_only _ _ _, rfl⟩
      rw [← hWy]
      have hly : Wy.blocks.get (q + 1) = some ⟨bz, []⟩ := by rw [hWy, setObj_get, if_pos rfl]
      have owny := own c1 hOy (fun b hb => .inr hb)
      have hCy := hw.stay _ _ _ _ c3 (hOy.mono (fun b _ hb => by omega))
      obtain ⟨y1, y2, y3, y4, y5, y6, y7, y8, y9⟩ := hw.base _ _ _ hCy
      have e2 := load_of und3 rfl y5
      have e3 := owny.2.1.load1 (T := T0) und172 agg172 (j := 0) (v := .func (.yield l) #[] #[]) rfl
      have e4 := owny.2.2.1.load1 (T := T0) und3 rfl (j := 0) (v := .int .i64 (a : Int)) rfl
      obtain ⟨st, pd, fn, t', n'', ps, asn, bd, df, kin, tt, z1, z2, z3⟩ := hw.ask a left k Wy hlt hCy hl hb1 hb2
      refine wpK_block1 ?_
      try simp only [wpK_assoc]
      refine wpK_x1 (P := fun b W4 => Only Kx Wy W4 ∧ (b = true → C a (dropLow left) W4) ∧ (b = false → D W4)) (fun R hR => by
        simp [h2, h3, h4, e2, e3, e4, build72, aEnter, aCallV, z1, z2, nextS_round]
        refine z3.mono ?_
        rintro _ W4 ⟨hO4, b, rfl, hC4⟩
        simp; exact hR b W4 (And.intro hO4 hC4)) ?_
      rintro b W4 ⟨hO4, hC4, hD4⟩
      have own4 := own owny hO4 (fun b hb => .inl (hw.low b hb))
      have hl4 : W4.blocks.get (q + 1) = some ⟨bz, []⟩ := by rw [hO4.2 (q + 1) (by omega) (fun hk => by have := hw.low _ hk; omega)]; exact hly
      cases b with
      | false =>
        try simp only [wpK_assoc]
        first | refine wpK_onT (by simp []) ?_ | refine wpK_outT (by simp []) ?_ | refine wpK_condT (by simp []) ?_ | refine wpK_endT (by simp []) ?_
        refine wpK_ret ?_
        simp only [leaves_ret]
        subst hbz
        refine ⟨_, _, _, _, _, _, _, _, _, hl4, false, rfl, (fun h => by cases h), fun _ => ⟨own own4 (setObj_only W4 (q + 1) _) (fun b hb => .inr hb), ⟨_, _, _, _, _, _, _, (by rw [setObj_get, if_pos rfl]; rfl)⟩, hw.stayD _ _ (hD4 rfl) ((setObj_only W4 (q + 1) _).mono (fun b _ hb => by omega))⟩⟩
      | true =>
        try simp only [wpK_assoc]
        first | refine wpK_onF (by simp []) ?_ | refine wpK_out (by simp []) ?_ | refine wpK_condF (by simp []) ?_ | refine wpK_endF (by simp []) (wpK_skip ?_) | refine wpK_endF (by simp []) ?_
        simp only [leaves_normal]
        subst hbz
        refine ⟨_, _, _, _, _, _, _, _, _, hl4, true, rfl, fun _ => ⟨own own4 (setObj_only W4 (q + 1) _) (fun b hb => .inr hb), by rw [setObj_get, if_pos rfl]; exact hlp.symm, hw.stay _ _ _ _ (hC4 rfl) ((setObj_only W4 (q + 1) _).mono (fun b _ hb => by omega))⟩, (fun h => by cases h)⟩
    · rintro _ W6 (⟨c1, c2, c3⟩ | ⟨c1, ⟨_, _, _, _, _, _, _, c2⟩, c3⟩)
      · have hl6 := c2.trans hlp
        rw [hq] at hl6
        refine ⟨_, _, _, _, _, _, _, _, _, hl6, (fun h => by cases h), ?_⟩
        rw [← hq]
        generalize hex : (AObj.loop LoopState.exhausted _ _ _ _ _ _ _ _) = ex
        obtain ⟨W7, hW7, hO7⟩ : ∃ W7, W7 = W6.setObj (q + 1) ex ∧ Only (fun b => b = q + 1) W6 W7 := ⟨_, rfl, setObj_only _ _ _⟩
        rw [← hW7]
        have own7 := own c1 hO7 (fun b hb => .inr hb)
        have n7 := hO7.1
        simp only [goOn, leaves_normal, behind_normal]
        try simp only [wpK_assoc]
        refine wpK_reg1 (fun R hR => by simp [h6]; exact hR) ?_
        refine hI (10 - (a + 1)) _ _ (by omega) ⟨rfl, by simp [h1], by simp [h2], by simp [h3], a + 1, by simp [i64_succ a (by omega)], rfl, by omega, ⟨q, rfl, by omega, by omega, own7.2.2.2.1, fun d hd e => ?_, own7.2.2.2.2⟩, by omega, own7.2.1, hw.next a _ hlt (hw.stay _ _ _ _ c3 (hO7.mono (fun b _ hb => by omega)))⟩
        have := hMk.low d hd q e
        omega
      · rw [hq] at c2
        refine ⟨_, _, _, _, _, _, _, _, _, c2, (fun h => by cases h), ?_⟩
        rw [← hq]
        generalize hex : (AObj.loop LoopState.exhausted _ _ _ _ _ _ _ _) = ex
        obtain ⟨W7, hW7, hO7⟩ : ∃ W7, W7 = W6.setObj (q + 1) ex ∧ Only (fun b => b = q + 1) W6 W7 := ⟨_, rfl, setObj_only _ _ _⟩
        rw [← hW7]
        have own7 := own c1 hO7 (fun b hb => .inr hb)
        have n7 := hO7.1
        simp only [goOn, leaves_ret, behind_ret]
        refine hRt _ _ ⟨⟨q, rfl, by omega, by omega, own7.2.2.2.1, fun d hd e => ?_, own7.2.2.2.2⟩, hw.stayD _ _ c3 (hO7.mono (fun b _ hb => by omega))⟩
        have := hMk.low d hd q e
        omega
  · rintro A' W' ⟨h1, h2⟩
    obtain ⟨W'', g1, g2⟩ := h1.collects
    exact ⟨.inr rfl, W'', g1, [], by rfl, .inr (hw.stayD _ _ h2 g2)⟩
  · rintro A' W' ⟨h1, h2⟩
    obtain ⟨W'', g1, g2⟩ := h1.collects
    exact ⟨.inl rfl, W'', g1, [], by rfl, .inl (hw.stay _ _ _ _ h2 g2)⟩
end Go.Proofs.YtfnigiojgbeklaaDoor

open Go Go.Eng
namespace Go.Proofs.YtfnigiojgbeklaaDoor
attribute [local congr] undef_congr WpK.congr WpS.congr WpL.congr WpC.congr WpF.congr gotS.congr callS.congr nextS.congr wantS.congr condS.congr
attribute [local irreducible] WpK
attribute [local simp] WpDr_nil WpDr_cons atS_some dwantS_true dwantS_false kindS_light kindS_float kindS_heavy lightS_value floatS_some heavyS_value heavyS_skip heavyS_enter dcallS_some doneS_eq
  isLight isFloat isPlain dLook testBit_dec dChain dLights_nil dLights_skip dLights_one dLight_nil dLight_cons dFreshes_nil dFreshes_one oneF_none oneF_some dFresh_nil dFresh_cons oneL_some oneW_true oneW_false sameV_value dPut dMay valEq arrEq listEq List.getElem?_cons Tr.get_nil dEnd
attribute [local simp] WpS_nil WpS_cons isDefer undef_false wantS_true wantS_false nextS_value nextS_skip nextS_enter callS_some gotS_some aWanted aOp aEvalF aEval opMove opAssign opPick aVal flat flat1 AAct.put opBinOp opConvert opIndex Tr.get_set Tr.get_lay aBin aResults tupled
  aCall aVals aCallB blt_dec ble_dec beq_dec aBinI_add aBinI_sub aBinI_lss aBinI_leq aBinI_gtr aBinI_geq aBinI_eql aBinI_neq index_str len_str len_slice Nat.beq_refl Nat.beq_refl
  opBox opLoad opFieldAddr opIndexAddr acells aAddr opExtract aExtract opUnOp opAlloc opStore opMakeInterface opNilCheck opBuild aParts opBuildSlice aValW
attribute [local simp] und2 und3 und4 und5 und9 und12 und13 und21 und22 und23 und24 und26 und27 und28 und30 und31 und34 und40 und43 und48 und49 und50 und54 und70 und71 und72 und79 und81 und86 und88 und89 und94 und99 und108 und109 und110 und118 und119 und120 und121 und123 und134 und143 und144 und145 und146 und148 und149 und150 und153 und154 und155 und157 und165 und167 und168 und178 und179 und187 und188 und189 und190 und191 und192 und193 und199 und214 und218 field13_0 field13_1 field23_0 field23_1 field24_0 field24_1 field27_0 field27_1 field28_0 field28_1 field49_0 field49_1 field49_2 field50_0 field50_1 field50_2 field70_0 field70_1 field70_2 field71_0 field71_1 field71_2 field72_0 field72_1 field72_2 field108_0 field108_1 field108_2 field109_0 field109_1 field109_2 field120_0 field120_1 field121_0 field121_1 field145_0 field145_1 field145_2 field146_0 field146_1 field146_2 field154_0 field154_1 field155_0 field155_1 field178_0 field178_1 field178_2 field178_3 field179_0 field179_1 field179_2 field179_3 field188_0 field188_1 field189_0 field189_1
set_option maxHeartbeats 4000000
set_option linter.unusedSimpArgs false
set_option linter.unusedVariables false
theorem stepsF_wp {W : AW} (c p : Nat) : WpF T0 70 [.pointer (some ⟨c, 0, none⟩), .int .i64 (p : Int)] W (fun v W' => Ext W W' ∧ v = .func (.func 86) ⟨[]⟩ ⟨[.pointer (some ⟨W.next, 0, none⟩), .pointer (some ⟨W.next + 1, 0, none⟩)]⟩ ∧ W'.next = W.next + 2 ∧ W'.Has W.next 0 (.pointer (some ⟨c, 0, none⟩)) ∧ W'.Has (W.next + 1) 0 (.int .i64 (p : Int))) := by
  refine wpF fun70 rfl ?_
  obtain ⟨W1, hW1, hE1, hn1, hV1, hV2⟩ : ∃ W1, W1 = (W.newCells 81 [.pointer (some ⟨c, 0, none⟩)]).newCells 3 [.int .i64 (p : Int)] ∧ Ext W W1 ∧ W1.next = W.next + 2 ∧ Var W1 W.next 81 [.pointer (some ⟨c, 0, none⟩)] ∧ Var W1 (W.next + 1) 3 [.int .i64 (p : Int)] :=
    ⟨_, rfl, (Only.newCells _ _ _).trans (Only.newCells _ _ _), rfl, (Var.new _ _ _).ext (.newCells _ _ _), Var.new _ _ _⟩
  try simp only [wpK_assoc]
  refine wpK_reg (fun R hR => by simp [newCells_next, ← hW1]; exact hR) ?_
  try simp only [wpK_assoc]
  refine wpK_reg (fun R hR => by simp [opMakeFunc]; exact hR) ?_
  exact wpK_ret ⟨.inr rfl, rfl, [.func (.func 86) ⟨[]⟩ ⟨[.pointer (some ⟨W.next, 0, none⟩), .pointer (some ⟨W.next + 1, 0, none⟩)]⟩], by simp, hE1, rfl, hn1, hV1.has rfl, hV2.has rfl⟩
def setsL (g : Nat → Nat) : List Value := (List.range 64).map fun j => Value.int .u64 (g j : Nat)
theorem setsL_len (g : Nat → Nat) : (setsL g).length = 64 := by simp [setsL]
theorem setsL_at (g : Nat → Nat) {j : Nat} (h : j < 64) : (setsL g)[j]? = some (.int .u64 (g j : Nat)) := by
  simp only [setsL, List.getElem?_map, List.getElem?_range h]; rfl
theorem setsL_set (g : Nat → Nat) {j : Nat} (x : Nat) : (setsL g).set j (.int .u64 (x : Nat)) = setsL (fun i => if i = j then x else g i) := by
  apply List.ext_getElem?
  intro i
  rw [List.getElem?_set]
  by_cases hi : i < 64
  · rw [setsL_at _ hi, setsL_at _ hi, setsL_len]
    by_cases e : j = i
    · subst e; rw [if_pos rfl, if_pos hi]; simp
    · rw [if_neg e, if_neg (Ne.symm e)]
  · rw [List.getElem?_eq_none (by rw [setsL_len]; omega), List.getElem?_eq_none (by rw [setsL_len]; omega)]
    split
    · rw [setsL_len, if_neg (by omega)]
    · rfl
abbrev SetsAt (W : AW) (b : Nat) (g : Nat → Nat) : Prop := Var W b 118 (setsL g)
theorem sets_load {W : AW} {b : Nat} {g : Nat → Nat} (h : SetsAt W b g) {j : Nat} (hj : j < 64) : aLoadVar T0 W 89 b j = some (.int .u64 (g j : Nat)) := h.load1 (T := T0) und89 rfl (setsL_at g hj)
theorem ix118_0 (b p : Nat) (hp : p < 64) : aIndexAddr T0 118 (.pointer (some ⟨b, 0, none⟩)) (.int .i64 (p : Int)) = some (.pointer (some ⟨b, p, none⟩)) := by
  rw [ix118 b 0 p hp, Nat.zero_add]
def ansP (to : Nat → Nat → Nat) (rel : Nat → Nat) (p q : Nat) : Prop := ∀ a t, a < 10 → (to a p).testBit t = true → to a q &&& rel t ≠ 0
end Go.Proofs.YtfnigiojgbeklaaDoor

open Go Go.Eng
namespace Go.Proofs.YtfnigiojgbeklaaDoor
attribute [local congr] undef_congr WpK.congr WpS.congr WpL.congr WpC.congr WpF.congr gotS.congr callS.congr nextS.congr wantS.congr condS.congr
attribute [local irreducible] WpK
attribute [local simp] WpDr_nil WpDr_cons atS_some dwantS_true dwantS_false kindS_light kindS_float kindS_heavy lightS_value floatS_some heavyS_value heavyS_skip heavyS_enter dcallS_some doneS_eq
  isLight isFloat isPlain dLook testBit_dec dChain dLights_nil dLights_skip dLights_one dLight_nil dLight_cons dFreshes_nil dFreshes_one oneF_none oneF_some dFresh_nil dFresh_cons oneL_some oneW_true oneW_false sameV_value dPut dMay valEq arrEq listEq List.getElem?_cons Tr.get_nil dEnd
attribute [local simp] WpS_nil WpS_cons isDefer undef_false wantS_true wantS_false nextS_value nextS_skip nextS_enter callS_some gotS_some aWanted aOp aEvalF aEval opMove opAssign opPick aVal flat flat1 AAct.put opBinOp opConvert opIndex Tr.get_set Tr.get_lay aBin aResults tupled
  aCall aVals aCallB blt_dec ble_dec beq_dec aBinI_add aBinI_sub aBinI_lss aBinI_leq aBinI_gtr aBinI_geq aBinI_eql aBinI_neq index_str len_str len_slice Nat.beq_refl Nat.beq_refl
  opBox opLoad opFieldAddr opIndexAddr acells aAddr opExtract aExtract opUnOp opAlloc opStore opMakeInterface opNilCheck opBuild aParts opBuildSlice aValW
attribute [local simp] und2 und3 und4 und5 und9 und12 und13 und21 und22 und23 und24 und26 und27 und28 und30 und31 und34 und40 und43 und48 und49 und50 und54 und70 und71 und72 und79 und81 und86 und88 und89 und94 und99 und108 und109 und110 und118 und119 und120 und121 und123 und134 und143 und144 und145 und146 und148 und149 und150 und153 und154 und155 und157 und165 und167 und168 und178 und179 und187 und188 und189 und190 und191 und192 und193 und199 und214 und218 field13_0 field13_1 field23_0 field23_1 field24_0 field24_1 field27_0 field27_1 field28_0 field28_1 field49_0 field49_1 field49_2 field50_0 field50_1 field50_2 field70_0 field70_1 field70_2 field71_0 field71_1 field71_2 field72_0 field72_1 field72_2 field108_0 field108_1 field108_2 field109_0 field109_1 field109_2 field120_0 field120_1 field121_0 field121_1 field145_0 field145_1 field145_2 field146_0 field146_1 field146_2 field154_0 field154_1 field155_0 field155_1 field178_0 field178_1 field178_2 field178_3 field179_0 field179_1 field179_2 field179_3 field188_0 field188_1 field189_0 field189_1
set_option maxHeartbeats 4000000
set_option linter.unusedSimpArgs false
set_option linter.unusedVariables false
def rowV (b n : Nat) : Value := .slice (some ⟨b, 0, none⟩) n (2 * n)
def boolsL (n : Nat) (g : Nat → Bool) : List Value := (List.range n).map fun j => .bool (g j)
theorem boolsL_len (n : Nat) (g : Nat → Bool) : (boolsL n g).length = n := by simp [boolsL]
theorem boolsL_at {n j : Nat} (g : Nat → Bool) (h : j < n) : (boolsL n g)[j]? = some (.bool (g j)) := by
  simp only [boolsL, List.getElem?_map, List.getElem?_range h]; rfl
def updB (g : Nat → Bool) (j : Nat) (b : Bool) : Nat → Bool := fun i => if i = j then b else g i
theorem boolsL_set {n j : Nat} (g : Nat → Bool) (b : Bool) : (boolsL n g).set j (.bool b) = boolsL n (updB g j b) := by
  apply List.ext_getElem?
  intro i
  rw [List.getElem?_set]
  by_cases hi : i < n
  · rw [boolsL_at _ hi, boolsL_at _ hi, boolsL_len]
    by_cases e : j = i
    · subst e; rw [if_pos rfl, if_pos hi]; simp [updB]
    · rw [if_neg e]; simp only [updB, if_neg (Ne.symm e)]
  · rw [List.getElem?_eq_none (by rw [boolsL_len]; omega), List.getElem?_eq_none (by rw [boolsL_len]; omega)]
    split
    · rw [boolsL_len, if_neg (by omega)]
    · rfl
theorem boolsL_congr {n : Nat} {g g' : Nat → Bool} (h : ∀ j, j < n → g j = g' j) : boolsL n g = boolsL n g' := by
  apply List.map_congr_left
  intro j hj
  rw [List.mem_range] at hj
  rw [h j hj]
def outerL (n k : Nat) (f : Nat → Nat) : List Value := (List.range n).map fun i => if i < k then rowV (f i) n else .slice none 0 0
theorem outerL_len (n k : Nat) (f : Nat → Nat) : (outerL n k f).length = n := by simp [outerL]
theorem outerL_at {n k i : Nat} (f : Nat → Nat) (h : i < n) : (outerL n k f)[i]? = some (if i < k then rowV (f i) n else .slice none 0 0) := by
  simp only [outerL, List.getElem?_map, List.getElem?_range h]; rfl
structure PMat (W : AW) (m n k : Nat) (f : Nat → Nat) (r : Nat → Nat → Bool) : Prop where
  outer : Var W m 54 (outerL n k f)
  row : ∀ i, i < k → Var W (f i) 4 (boolsL n (r i))
  ne : ∀ i, i < k → f i ≠ m
  inj : ∀ i j, i < k → j < k → f i = f j → i = j
theorem PMat.only {W W' : AW} {m n k : Nat} {f : Nat → Nat} {r : Nat → Nat → Bool} {K : Nat → Prop} (h : PMat W m n k f r) (he : Only K W W') (hm : ¬ K m) (hf : ∀ i, i < k → ¬ K (f i)) : PMat W' m n k f r :=
  ⟨h.outer.only he hm, fun i hi => (h.row i hi).only he (hf i hi), h.ne, h.inj⟩
theorem PMat.ext {W W' : AW} {m n k : Nat} {f : Nat → Nat} {r : Nat → Nat → Bool} (h : PMat W m n k f r) (he : Ext W W') : PMat W' m n k f r := h.only he (fun x => x) (fun _ _ x => x)
theorem PMat.congr {W : AW} {m n k : Nat} {f : Nat → Nat} {r r' : Nat → Nat → Bool} (h : PMat W m n k f r) (hr : ∀ i j, i < k → j < n → r i j = r' i j) : PMat W m n k f r' :=
  ⟨h.outer, fun i hi => by rw [← boolsL_congr (fun j hj => hr i j hi hj)]; exact h.row i hi, h.ne, h.inj⟩
theorem PMat.at {W : AW} {m n k : Nat} {f : Nat → Nat} {r : Nat → Nat → Bool} (h : PMat W m n k f r) {i : Nat} (hi : i < k) (hk : k ≤ n) : aIndexAddr T0 79 (rowV m n) (.int .i64 (i : Int)) = some (.pointer (some ⟨m, i, none⟩)) ∧ aLoadVar T0 W 54 m i = some (rowV (f i) n) := by
  refine ⟨?_, ?_⟩
  · have := indexAddr_slice (T := T0) (t := 79) (e := 54) (sz := 1) und79 sz54 (b := m) (o := 0) (len := n) (c := 2 * n) (i := i) (k := .i64) (by omega)
    rw [Nat.zero_add, Nat.mul_one] at this; exact this
  · have := h.outer.load1 (T := T0) und54 rfl (outerL_at f (show i < n by omega))
    rw [if_pos hi] at this; exact this
theorem row_ix {b n j : Nat} (hj : j < n) : aIndexAddr T0 54 (rowV b n) (.int .i64 (j : Int)) = some (.pointer (some ⟨b, j, none⟩)) := by
  have := indexAddr_slice (T := T0) (t := 54) (e := 4) (sz := 1) und54 sz4 (b := b) (o := 0) (len := n) (c := 2 * n) (i := j) (k := .i64) hj
  rw [Nat.zero_add, Nat.mul_one] at this; exact this
theorem outer_ix {m n i : Nat} (hi : i < n) : aIndexAddr T0 79 (rowV m n) (.int .i64 (i : Int)) = some (.pointer (some ⟨m, i, none⟩)) := by
  have := indexAddr_slice (T := T0) (t := 79) (e := 54) (sz := 1) und79 sz54 (b := m) (o := 0) (len := n) (c := 2 * n) (i := i) (k := .i64) hi
  rw [Nat.zero_add, Nat.mul_one] at this; exact this
theorem PMat.cell {W : AW} {m n k : Nat} {f : Nat → Nat} {r : Nat → Nat → Bool} (h : PMat W m n k f r) {i j : Nat} (hi : i < k) (hj : j < n) : aLoadVar T0 W 4 (f i) j = some (.bool (r i j)) :=
  (h.row i hi).load1 (T := T0) und4 rfl (boolsL_at (r i) hj)
theorem PMat.put {W : AW} {m n k : Nat} {f : Nat → Nat} {r : Nat → Nat → Bool} (h : PMat W m n k f r) {i j : Nat} (hi : i < k) (hj : j < n) (b : Bool) :
    ∃ W', aStoreVar T0 W 4 (f i) j (.bool b) = some W' ∧ W'.next = W.next ∧ Only (fun c => c = f i) W W' ∧ PMat W' m n k f (fun p => if p = i then updB (r i) j b else r p) := by
  obtain ⟨W', g1, g2, g3, g4⟩ := (h.row i hi).store (T := T0) (t := 4) (v := .bool b) (o := j) inf4 (by rw [is4]; rfl) (by rw [boolsL_len]; show j + 1 ≤ n; omega) rfl
  refine ⟨W', g1, g2, g3, h.outer.only g3 (fun e => h.ne i hi e.symm), fun p hp => ?_, h.ne, h.inj⟩
  by_cases e : p = i
  · subst e
    rw [if_pos rfl, ← boolsL_set]
    have e2 : (boolsL n (r p)).take j ++ acells (.bool b) ++ (boolsL n (r p)).drop (j + (acells (.bool b)).length) = (boolsL n (r p)).set j (.bool b) := by
      rw [List.set_eq_take_append_cons_drop, if_pos (by rw [boolsL_len]; omega)]
      simp [acells]
    rw [e2] at g4; exact g4
  · rw [if_neg e]
    exact (h.row p hp).only g3 (fun x => e (h.inj p i hp hi x))
theorem outerL_set {n k : Nat} (f : Nat → Nat) (x : Nat) : (outerL n k f).set k (rowV x n) = outerL n (k + 1) (fun i => if i = k then x else f i) := by
  apply List.ext_getElem?
  intro i
  rw [List.getElem?_set]
  by_cases hi : i < n
  · rw [outerL_at _ hi, outerL_at _ hi, outerL_len]
    by_cases e : k = i
    · subst e; rw [if_pos rfl, if_pos hi, if_pos (by omega)]; simp
    · rw [if_neg e]
      by_cases hk : i < k
      · rw [if_pos hk, if_pos (by omega), if_neg (by omega)]
      · rw [if_neg hk, if_neg (by omega)]
  · rw [List.getElem?_eq_none (by rw [outerL_len]; omega), List.getElem?_eq_none (by rw [outerL_len]; omega)]
    split
    · rw [outerL_len, if_neg (by omega)]
    · rfl
def BMat (W : AW) (v : Value) (n : Nat) (r : Nat → Nat → Bool) (K : Nat → Prop) : Prop := ∃ m f, v = rowV m n ∧ PMat W m n n f r ∧ K m ∧ ∀ i, i < n → K (f i)
theorem BMat.only {W W' : AW} {v : Value} {n : Nat} {r : Nat → Nat → Bool} {K K' : Nat → Prop} (h : BMat W v n r K) (he : Only K' W W') (hk : ∀ b, b < W.next → K b → ¬ K' b) : BMat W' v n r K :=
  let ⟨m, f, h1, h2, h3, h4⟩ := h
  ⟨m, f, h1, h2.only he (hk m h2.outer.1 h3) (fun i hi => hk _ (h2.row i hi).1 (h4 i hi)), h3, h4⟩
theorem BMat.ext {W W' : AW} {v : Value} {n : Nat} {r : Nat → Nat → Bool} {K : Nat → Prop} (h : BMat W v n r K) (he : Ext W W') : BMat W' v n r K := h.only he (fun _ _ _ x => x)
theorem BMat.mono {W : AW} {v : Value} {n : Nat} {r : Nat → Nat → Bool} {K K' : Nat → Prop} (h : BMat W v n r K) (hk : ∀ b, K b → K' b) : BMat W v n r K' :=
  let ⟨m, f, h1, h2, h3, h4⟩ := h
  ⟨m, f, h1, h2, hk _ h3, fun i hi => hk _ (h4 i hi)⟩
theorem BMat.congr {W : AW} {v : Value} {n : Nat} {r r' : Nat → Nat → Bool} {K : Nat → Prop} (h : BMat W v n r K) (hr : ∀ i j, i < n → j < n → r i j = r' i j) : BMat W v n r' K :=
  let ⟨m, f, h1, h2, h3, h4⟩ := h
  ⟨m, f, h1, h2.congr hr, h3, h4⟩
theorem rep_one (z : Value) (hz : acells z = [z]) : ∀ n : Nat, rep (acells z) n = List.replicate n z
  | 0 => rfl
  | n + 1 => by rw [rep, rep_one z hz n, hz]; rfl
theorem mk79 (W : AW) (n : Nat) (hn : n ≤ 64) : aMakeSlice T0 W 79 (.int .i64 (n : Int)) (.int .i64 (n : Int)) = some (rowV W.next n, W.newCells 54 (outerL n 0 (fun _ => 0))) := by
  show aMakeSlice T0 W 79 (.int .i64 (Int.ofNat n)) (.int .i64 (Int.ofNat n)) = _
  have h1 : n ≤ 4611686018427387904 := by omega
  have h2 : Tryd.t54.bytes * n ≤ 281474976710656 := by rw [by54]; omega
  have e : outerL n 0 (fun _ => 0) = List.replicate n (.slice none 0 0) := by
    apply List.ext_getElem?
    intro i
    by_cases hi : i < n
    · rw [outerL_at _ hi, if_neg (by omega), List.getElem?_replicate, if_pos hi]
    · rw [List.getElem?_eq_none (by rw [outerL_len]; omega), List.getElem?_eq_none (by simp; omega)]
  rw [e, ← rep_one _ rfl n]
  simp only [aMakeSlice, und79, inf54, z54, h1, h2, is54, ble_dec, acells, List.length_cons, List.length_nil, Nat.beq_refl, Nat.le_refl, decide_true]
  rfl
theorem mk54 (W : AW) (n : Nat) (hn : n ≤ 64) : aMakeSlice T0 W 54 (.int .i64 (n : Int)) (.int .i64 (n : Int)) = some (rowV W.next n, W.newCells 4 (boolsL n (fun _ => false))) := by
  show aMakeSlice T0 W 54 (.int .i64 (Int.ofNat n)) (.int .i64 (Int.ofNat n)) = _
  have h1 : n ≤ 4611686018427387904 := by omega
  have h2 : Tryd.t4.bytes * n ≤ 281474976710656 := by rw [by4]; omega
  have e : boolsL n (fun _ => false) = List.replicate n (.bool false) := by
    apply List.ext_getElem?
    intro i
    by_cases hi : i < n
    · rw [boolsL_at _ hi, List.getElem?_replicate, if_pos hi]
    · rw [List.getElem?_eq_none (by rw [boolsL_len]; omega), List.getElem?_eq_none (by simp; omega)]
  rw [e, ← rep_one _ rfl n]
  simp only [aMakeSlice, und54, inf4, z4, h1, h2, is4, ble_dec, acells, List.length_cons, List.length_nil, Nat.beq_refl, Nat.le_refl, decide_true]
  rfl
theorem PMat.nil (W : AW) (n : Nat) (r : Nat → Nat → Bool) : PMat (W.newCells 54 (outerL n 0 (fun _ => 0))) W.next n 0 (fun _ => 0) r :=
  ⟨Var.new _ _ _, fun i hi => by omega, fun i hi => by omega, fun i j hi => by omega⟩
theorem PMat.row1 {W : AW} {m n k : Nat} {f : Nat → Nat} {r : Nat → Nat → Bool} (h : PMat W m n k f r) (hk : k < n) :
    ∃ W', aStoreVar T0 (W.newCells 4 (boolsL n (fun _ => false))) 54 m k (rowV W.next n) = some W' ∧ W'.next = W.next + 1 ∧ Only (fun c => c = m) W W' ∧ PMat W' m n (k + 1) (fun i => if i = k then W.next else f i) (fun p => if p = k then fun _ => false else r p) := by
  have hE : Ext W (W.newCells 4 (boolsL n (fun _ => false))) := .newCells _ _ _
  have h' := h.ext hE
  have hm := h.outer.1
  obtain ⟨W', g1, g2, g3, g4⟩ := h'.outer.store (T := T0) (t := 54) (v := rowV W.next n) (o := k) inf54 (by rw [is54]; rfl) (by rw [outerL_len]; show k + 1 ≤ n; omega) rfl
  have e2 : (outerL n k f).take k ++ acells (rowV W.next n) ++ (outerL n k f).drop (k + (acells (rowV W.next n)).length) = outerL n (k + 1) (fun i => if i = k then W.next else f i) := by
    rw [← outerL_set, List.set_eq_take_append_cons_drop, if_pos (by rw [outerL_len]; omega)]
    simp [acells, rowV]
  rw [e2] at g4
  refine ⟨W', g1, by rw [g2]; rfl, ⟨by rw [g2, newCells_next]; omega, fun b hb hk => by rw [g3.2 b (by rw [newCells_next]; omega) hk, hE.2 b hb (fun x => x)]⟩, g4, fun i hi => ?_, fun i hi => ?_, fun i j hi hj => ?_⟩
  · by_cases e : i = k
    · subst e
      simp only [if_true]
      exact (Var.new W 4 _).only g3 (by omega)
    · simp only [if_neg e]
      exact (h'.row i (by omega)).only g3 (h.ne i (by omega))
  · by_cases e : i = k
    · simp only [if_pos e]; omega
    · simp only [if_neg e]; exact h.ne i (by omega)
  · have lt : ∀ i, i < k → f i < W.next := fun i hi => (h.row i hi).1
    by_cases e : i = k
    · by_cases e' : j = k
      · omega
      · simp only [if_pos e, if_neg e']
        have := lt j (by omega); omega
    · by_cases e' : j = k
      · simp only [if_neg e, if_pos e']
        have := lt i (by omega); omega
      · simp only [if_neg e, if_neg e']
        exact h.inj i j (by omega) (by omega)
end Go.Proofs.YtfnigiojgbeklaaDoor

open Go Go.Eng
namespace Go.Proofs.YtfnigiojgbeklaaDoor
attribute [local congr] undef_congr WpK.congr WpS.congr WpL.congr WpC.congr WpF.congr gotS.congr callS.congr nextS.congr wantS.congr condS.congr
attribute [local irreducible] WpK
attribute [local simp] WpDr_nil WpDr_cons atS_some dwantS_true dwantS_false kindS_light kindS_float kindS_heavy lightS_value floatS_some heavyS_value heavyS_skip heavyS_enter dcallS_some doneS_eq
  isLight isFloat isPlain dLook testBit_dec dChain dLights_nil dLights_skip dLights_one dLight_nil dLight_cons dFreshes_nil dFreshes_one oneF_none oneF_some dFresh_nil dFresh_cons oneL_some oneW_true oneW_false sameV_value dPut dMay valEq arrEq listEq List.getElem?_cons Tr.get_nil dEnd
attribute [local simp] WpS_nil WpS_cons isDefer undef_false wantS_true wantS_false nextS_value nextS_skip nextS_enter callS_some gotS_some aWanted aOp aEvalF aEval opMove opAssign opPick aVal flat flat1 AAct.put opBinOp opConvert opIndex Tr.get_set Tr.get_lay aBin aResults tupled
  aCall aVals aCallB blt_dec ble_dec beq_dec aBinI_add aBinI_sub aBinI_lss aBinI_leq aBinI_gtr aBinI_geq aBinI_eql aBinI_neq index_str len_str len_slice Nat.beq_refl Nat.beq_refl
  opBox opLoad opFieldAddr opIndexAddr acells aAddr opExtract aExtract opUnOp opAlloc opStore opMakeInterface opNilCheck opBuild aParts opBuildSlice aValW
attribute [local simp] und2 und3 und4 und5 und9 und12 und13 und21 und22 und23 und24 und26 und27 und28 und30 und31 und34 und40 und43 und48 und49 und50 und54 und70 und71 und72 und79 und81 und86 und88 und89 und94 und99 und108 und109 und110 und118 und119 und120 und121 und123 und134 und143 und144 und145 und146 und148 und149 und150 und153 und154 und155 und157 und165 und167 und168 und178 und179 und187 und188 und189 und190 und191 und192 und193 und199 und214 und218 field13_0 field13_1 field23_0 field23_1 field24_0 field24_1 field27_0 field27_1 field28_0 field28_1 field49_0 field49_1 field49_2 field50_0 field50_1 field50_2 field70_0 field70_1 field70_2 field71_0 field71_1 field71_2 field72_0 field72_1 field72_2 field108_0 field108_1 field108_2 field109_0 field109_1 field109_2 field120_0 field120_1 field121_0 field121_1 field145_0 field145_1 field145_2 field146_0 field146_1 field146_2 field154_0 field154_1 field155_0 field155_1 field178_0 field178_1 field178_2 field178_3 field179_0 field179_1 field179_2 field179_3 field188_0 field188_1 field189_0 field189_1
set_option maxHeartbeats 4000000
set_option linter.unusedSimpArgs false
set_option linter.unusedVariables false
theorem rowV_eq (b n : Nat) : valEq (rowV b n) (rowV b n) = true := by simp [rowV]
theorem turned_wp {W : AW} {v : Value} {n : Nat} {r : Nat → Nat → Bool} {K : Nat → Prop} (h : BMat W v n r K) (hn : n ≤ 64) :
    WpF T0 59 [v] W (fun u W' => Ext W W' ∧ BMat W' u n (fun i j => r j i) (fun b => W.next ≤ b)) := by
  refine wpF fun59 rfl ?_
  obtain ⟨m0, f0, rfl, hM0, _, _⟩ := h
  have ll : ∀ W' b, aLen T0 W' 79 (rowV b n) = some (.int .i64 n) := fun W' b => len_slice und79 _ _ _
  have mk := mk79 W n hn
  obtain ⟨W1, hW1, hE1, hM1, hn1⟩ : ∃ W1, W1 = W.newCells 54 (outerL n 0 (fun _ => 0)) ∧ Ext W W1 ∧ PMat W1 W.next n 0 (fun _ => 0) (fun i j => r j i) ∧ W1.next = W.next + 1 := ⟨_, rfl, .newCells _ _ _, .nil _ _ _, rfl⟩
  rw [← hW1] at mk
  generalize hv : rowV m0 n = v at ll
  try simp only [wpK_assoc]
  refine wpK_reg (fun R hR => by simp []; exact hR) ?_
  have ll0 := fun W' => ll W' m0
  simp only [hv] at ll0
  try simp only [wpK_assoc]
  refine wpK_reg (fun R hR => by simp [ll0, opMakeSlice, mk]; exact hR) ?_
  try simp only [wpK_assoc]
  refine wpK_reg (fun R hR => by simp []; exact hR) ?_
  obtain ⟨pm, hpm⟩ : ∃ p, p = W.next := ⟨_, rfl⟩
  rw [← hpm] at hM1
  refine wpK_keep (fun tm' => tm'.get 0 = some (v) ∧ tm'.get 3 = some (rowV pm n) ∧ tm'.get 4 = some (.int .i64 0)) ⟨by simp [hpm], by simp [hpm], by simp [hpm]⟩ ?_
  rintro tm ⟨h0, h3, h4⟩
  try simp only [wpK_assoc]
  refine wpK_while (I := fun q A' W' => A'.n = 41 ∧ A'.defers = [] ∧ A'.tmps.get 0 = some (v) ∧ A'.tmps.get 3 = some (rowV pm n) ∧ Ext W W' ∧ ∃ (i : Nat) (f : Nat → Nat), A'.tmps.get 4 = some (.int .i64 (i : Int)) ∧ q = n - i ∧ i ≤ n ∧ PMat W' pm n i f (fun i j => r j i) ∧ (∀ p, p < i → W.next ≤ f p))
    (J := fun A' W' => A'.n = 41 ∧ A'.defers = [] ∧ A'.tmps.get 0 = some (v) ∧ A'.tmps.get 3 = some (rowV pm n) ∧ Ext W W' ∧ ∃ f, PMat W' pm n n f (fun i j => r j i) ∧ (∀ p, p < n → W.next ≤ f p)) (Rt := fun _ _ => False) (k := n) ?_ ?_ ?_ ?_
  · exact ⟨rfl, rfl, by simp [h0, h3], by simp [h0, h3], hE1, 0, _, by simp [h4], rfl, by omega, hM1, fun p hp => by omega⟩
  · rintro q ⟨tm, n, ds⟩ Wa ⟨hn, hd, h0, h3, hEa, i, f, h4, hk, hil, hMa, hfa⟩ Q' hJ' hRt hI
    simp only at hn hd h0 h3
    subst hn; subst hd
    simp only at h4
    have na := hEa.1
    have hlv := fun W' => ll W' m0
    simp only [hv] at hlv
    by_cases hlt : i < n
    case neg =>
      have hlt' : ¬ (i : Int) < n := by omega
      have e : i = n := by omega
      subst e
      try simp only [wpK_assoc]
      refine wpK_reg (fun R hR => by simp [h0, h4, hlv]; exact hR) ?_
      try simp only [wpK_assoc]
      first | refine wpK_onF (by simp []) ?_ | refine wpK_out (by simp []) ?_ | refine wpK_condF (by simp []) ?_ | refine wpK_endF (by simp []) (wpK_skip ?_) | refine wpK_endF (by simp []) ?_
      exact hJ' _ _ ⟨rfl, rfl, by simp [h0, h3], by simp [h0, h3], hEa, f, hMa, hfa⟩
    have hlt' : (i : Int) < n := by omega
    try simp only [wpK_assoc]
    refine wpK_reg (fun R hR => by simp [h0, h4, hlv, hlt']; exact hR) ?_
    try simp only [wpK_assoc]
    first | refine wpK_onT (by simp [hlt]) ?_ | refine wpK_outT (by simp [hlt]) ?_ | refine wpK_condT (by simp [hlt]) ?_ | refine wpK_endT (by simp [hlt]) ?_
    have mkr := mk54 Wa n hn
    obtain ⟨Wb, s1, s2, s3, s4⟩ := hMa.row1 hlt
    have ox := outer_ix (m := pm) hlt
    generalize Wa.newCells 4 (boolsL n (fun _ => false)) = Wn at mkr s1
    refine wpK_block ?_
    try simp only [wpK_assoc]
    refine wpK_reg (fun R hR => by simp [h0, h3, h4, hlv, opMakeSlice, mkr, ox, s1]; exact hR) ?_
    try simp only [wpK_assoc]
    refine wpK_reg (fun R hR => by simp []; exact hR) ?_
    have hpw : pm < Wa.next := hMa.outer.1
    obtain ⟨f', hf'⟩ : ∃ g, g = (fun j => if j = i then Wa.next else f j) := ⟨_, rfl⟩
    rw [← hf'] at s4
    refine wpK_keep (fun tm' => tm'.get 0 = some (v) ∧ tm'.get 3 = some (rowV pm n) ∧ tm'.get 4 = some (.int .i64 (i : Int)) ∧ tm'.get 5 = some (.int .i64 0)) ⟨by simp [h0, h3, h4], by simp [h0, h3, h4], by simp [h0, h3, h4], by simp [h0, h3, h4]⟩ ?_
    rintro tm ⟨h0, h3, h4, h5⟩
    try simp only [wpK_assoc]
    refine wpK_while1 (I := fun q A' W' => A'.n = 41 ∧ A'.defers = [] ∧ A'.tmps.get 0 = some (v) ∧ A'.tmps.get 3 = some (rowV pm n) ∧ A'.tmps.get 4 = some (.int .i64 (i : Int)) ∧ Only (fun b => W.next ≤ b) W W' ∧ Wb.next ≤ W'.next ∧ ∃ (j : Nat), A'.tmps.get 5 = some (.int .i64 (j : Int)) ∧ q = n - j ∧ j ≤ n ∧ PMat W' pm n (i + 1) f' (fun p => if p = i then fun c => if c < j then r c i else false else fun c => r c p))
      (J := fun A' W' => A'.n = 41 ∧ A'.defers = [] ∧ A'.tmps.get 0 = some (v) ∧ A'.tmps.get 3 = some (rowV pm n) ∧ A'.tmps.get 4 = some (.int .i64 (i : Int)) ∧ Only (fun b => W.next ≤ b) W W' ∧ Wb.next ≤ W'.next ∧ PMat W' pm n (i + 1) f' (fun i j => r j i)) (Rt := fun _ _ => False) (k := n) ?_ ?_ ?_ ?_
    · refine ⟨rfl, rfl, by simp [h0, h3, h4], by simp [h0, h3, h4], by simp [h0, h3, h4], ⟨by omega, fun b hb hk => by rw [s3.2 b (by omega) (by omega), hEa.2 b hb (fun x => x)]⟩, Nat.le_refl _, 0, by simp [h5], rfl, by omega, s4.congr (fun p c hp hc => ?_)⟩
      by_cases e : p = i
      · simp only [if_pos e]; simp
      · simp only [if_neg e]
    · rintro q ⟨tm, n, ds⟩ Wc ⟨hn, hd, h0, h3, h4, hOc, hnc, j, h5, hk, hjl, hMc⟩ Q' hJ2 hRt hI2
      simp only at hn hd h0 h3 h4
      subst hn; subst hd
      simp only at h5
      by_cases hjt : j < n
      case neg =>
        have e : j = n := by omega
        subst e
        try simp only [wpK_assoc]
        refine wpK_reg (fun R hR => by simp [h0, h5, hlv]; exact hR) ?_
        try simp only [wpK_assoc]
        first | refine wpK_onF (by simp []) ?_ | refine wpK_out (by simp []) ?_ | refine wpK_condF (by simp []) ?_ | refine wpK_endF (by simp []) (wpK_skip ?_) | refine wpK_endF (by simp []) ?_
        refine hJ2 _ _ ⟨rfl, rfl, by simp [h0, h3, h4], by simp [h0, h3, h4], by simp [h0, h3, h4], hOc, hnc, hMc.congr (fun p c hp hc => ?_)⟩
        by_cases e : p = i
        · simp only [e, if_true, if_pos hc]
        · simp only [if_neg e]
      have hjt' : (j : Int) < n := by omega
      try simp only [wpK_assoc]
      refine wpK_reg (fun R hR => by simp [h0, h5, hlv, hjt']; exact hR) ?_
      try simp only [wpK_assoc]
      first | refine wpK_onT (by simp [hjt]) ?_ | refine wpK_outT (by simp [hjt]) ?_ | refine wpK_condT (by simp [hjt]) ?_ | refine wpK_endT (by simp [hjt]) ?_
      have hM0c := hM0.only hOc (by have := hM0.outer.1; omega) (fun p hp => by have := (hM0.row p hp).1; omega)
      obtain ⟨a1, a2⟩ := hM0c.at hjt (Nat.le_refl _)
      rw [hv] at a1
      have a3 := row_ix (b := f0 j) hlt
      have a4 := hM0c.cell hjt hlt
      obtain ⟨b1, b2⟩ := hMc.at (i := i) (by omega) (by omega)
      have b3 := row_ix (b := f' i) hjt
      obtain ⟨Wd, d1, d2, d3, d4⟩ := hMc.put (i := i) (j := j) (by omega) hjt (r j i)
      refine wpK_block ?_
      try simp only [wpK_assoc]
      refine wpK_qn (wr := Tr.nil |>.set 27 0 |>.set 28 1 |>.set 29 2 |>.set 30 3 |>.set 31 4 |>.set 32 5 |>.set 33 6 |>.set 34 7 |>.set 35 8 |>.set 36 9 |>.set 37 10 |>.set 38 11 |>.set 39 12) (bits := Tr.nil.lay 0 [0, 0, 3, 7, 0, 0, 0, 96, 224, 0, 992, 2016, 4095, 8191]) (ord := [0, 1, 2, 3, 4, 5, 6, 7, 8, 9, 10, 11, 12, 13]) (by kernel_rfl) (by kernel_rfl) (by kernel_rfl) (fun G hG => by
        simp [h0, h3, h4, h5, a1, a2, a3, a4, b1, b2, b3, d1, d2, rowV_eq]
        exact hG) ?_
      simp only [leaves_normal, behind_normal]
      refine wpK_keep (fun tm' => tm'.get 0 = some (v) ∧ tm'.get 3 = some (rowV pm n) ∧ tm'.get 4 = some (.int .i64 (i : Int)) ∧ tm'.get 5 = some (.int .i64 (j : Int))) ⟨by simp [h0, h3, h4, h5], by simp [h0, h3, h4, h5], by simp [h0, h3, h4, h5], by simp [h0, h3, h4, h5]⟩ ?_
      rintro tm ⟨h0, h3, h4, h5⟩
      try simp only [wpK_assoc]
      refine wpK_reg1 (fun R hR => by simp [h5]; exact hR) ?_
      have hfi : W.next ≤ f' i := by rw [hf']; simp only [if_true]; omega
      refine hI2 (n - (j + 1)) _ _ (by omega) ⟨rfl, rfl, by simp [h0, h3, h4], by simp [h0, h3, h4], by simp [h0, h3, h4], ⟨by have := hOc.1; omega, fun b hb hk => by rw [d3.2 b (by have := hOc.1; omega) (by omega), hOc.2 b hb hk]⟩, by omega, j + 1, by simp [i64_succ j (by omega)], rfl, by omega, d4.congr (fun p c hp hc => ?_)⟩
      by_cases e : p = i
      · simp only [e, if_true, updB]
        by_cases e2 : c = j
        · rw [if_pos e2, if_pos (by omega), e2]
        · rw [if_neg e2]
          by_cases e3 : c < j
          · rw [if_pos e3, if_pos (by omega)]
          · rw [if_neg e3, if_neg (by omega)]
      · simp only [if_neg e]
    · rintro A' W' hf; exact hf.elim
    · rintro ⟨tm, n, ds⟩ Wc ⟨hn, hd, h0, h3, h4, hOc, hnc, hMc⟩
      simp only at hn hd h0 h3 h4
      subst hn; subst hd
      simp only [leaves_normal, behind_normal]
      refine wpK_keep (fun tm' => tm'.get 0 = some (v) ∧ tm'.get 3 = some (rowV pm n) ∧ tm'.get 4 = some (.int .i64 (i : Int))) ⟨by simp [h0, h3, h4], by simp [h0, h3, h4], by simp [h0, h3, h4]⟩ ?_
      rintro tm ⟨h0, h3, h4⟩
      try simp only [wpK_assoc]
      refine wpK_reg1 (fun R hR => by simp [h4]; exact hR) ?_
      refine hI (n - (i + 1)) _ _ (by omega) ⟨rfl, rfl, by simp [h0, h3], by simp [h0, h3], ⟨hOc.1, fun b hb hk => hOc.2 b hb (by omega)⟩, i + 1, f', by simp [i64_succ i (by omega)], rfl, by omega, hMc, fun p hp => ?_⟩
      rw [hf']
      by_cases e : p = i
      · simp only [if_pos e]; omega
      · simp only [if_neg e]; exact hfa p (by omega)
  · rintro A' W' hf; exact hf.elim
  · rintro ⟨tm, n, ds⟩ Wz ⟨hn, hd, h0, h3, hEz, f, hMz, hfz⟩
    simp only at hn hd h0 h3
    subst hn; subst hd
    try simp only [wpK_assoc]
    refine wpK_reg (fun R hR => by simp [h3]; exact hR) ?_
    exact wpK_ret ⟨.inr rfl, rfl, [rowV pm n], by simp, hEz, pm, f, rfl, hMz, by omega, hfz⟩
theorem full_wp {W : AW} {n : Nat} (hn : n ≤ 64) :
    WpF T0 44 [.int .i64 (n : Int)] W (fun u W' => Ext W W' ∧ BMat W' u n (fun _ _ => true) (fun b => W.next ≤ b)) := by
  refine wpF fun44 rfl ?_
  have mk := mk79 W n hn
  obtain ⟨W1, hW1, hE1, hM1, hn1⟩ : ∃ W1, W1 = W.newCells 54 (outerL n 0 (fun _ => 0)) ∧ Ext W W1 ∧ PMat W1 W.next n 0 (fun _ => 0) (fun _ _ => true) ∧ W1.next = W.next + 1 := ⟨_, rfl, .newCells _ _ _, .nil _ _ _, rfl⟩
  rw [← hW1] at mk
  try simp only [wpK_assoc]
  refine wpK_reg (fun R hR => by simp []; exact hR) ?_
  try simp only [wpK_assoc]
  refine wpK_reg (fun R hR => by simp [opMakeSlice, mk]; exact hR) ?_
  try simp only [wpK_assoc]
  refine wpK_reg (fun R hR => by simp []; exact hR) ?_
  obtain ⟨pm, hpm⟩ : ∃ p, p = W.next := ⟨_, rfl⟩
  rw [← hpm] at hM1
  refine wpK_keep (fun tm' => tm'.get 0 = some (.int .i64 (n : Int)) ∧ tm'.get 3 = some (rowV pm n) ∧ tm'.get 4 = some (.int .i64 0)) ⟨by simp [hpm], by simp [hpm], by simp [hpm]⟩ ?_
  rintro tm ⟨h0, h3, h4⟩
  try simp only [wpK_assoc]
  refine wpK_while (I := fun q A' W' => A'.n = 30 ∧ A'.defers = [] ∧ A'.tmps.get 0 = some (.int .i64 (n : Int)) ∧ A'.tmps.get 3 = some (rowV pm n) ∧ Ext W W' ∧ ∃ (i : Nat) (f : Nat → Nat), A'.tmps.get 4 = some (.int .i64 (i : Int)) ∧ q = n - i ∧ i ≤ n ∧ PMat W' pm n i f (fun _ _ => true) ∧ (∀ p, p < i → W.next ≤ f p))
    (J := fun A' W' => A'.n = 30 ∧ A'.defers = [] ∧ A'.tmps.get 0 = some (.int .i64 (n : Int)) ∧ A'.tmps.get 3 = some (rowV pm n) ∧ Ext W W' ∧ ∃ f, PMat W' pm n n f (fun _ _ => true) ∧ (∀ p, p < n → W.next ≤ f p)) (Rt := fun _ _ => False) (k := n) ?_ ?_ ?_ ?_
  · exact ⟨rfl, rfl, by simp [h0, h3], by simp [h0, h3], hE1, 0, _, by simp [h4], rfl, by omega, hM1, fun p hp => by omega⟩
  · rintro q ⟨tm, n, ds⟩ Wa ⟨hn, hd, h0, h3, hEa, i, f, h4, hk, hil, hMa, hfa⟩ Q' hJ' hRt hI
    simp only at hn hd h0 h3
    subst hn; subst hd
    simp only at h4
    have na := hEa.1
    by_cases hlt : i < n
    case neg =>
      have hlt' : ¬ (i : Int) < n := by omega
      have e : i = n := by omega
      subst e
      try simp only [wpK_assoc]
      refine wpK_reg (fun R hR => by simp [h0, h4]; exact hR) ?_
      try simp only [wpK_assoc]
      first | refine wpK_onF (by simp []) ?_ | refine wpK_out (by simp []) ?_ | refine wpK_condF (by simp []) ?_ | refine wpK_endF (by simp []) (wpK_skip ?_) | refine wpK_endF (by simp []) ?_
      exact hJ' _ _ ⟨rfl, rfl, by simp [h0, h3], by simp [h0, h3], hEa, f, hMa, hfa⟩
    have hlt' : (i : Int) < n := by omega
    try simp only [wpK_assoc]
    refine wpK_reg (fun R hR => by simp [h0, h4, hlt']; exact hR) ?_
    try simp only [wpK_assoc]
    first | refine wpK_onT (by simp [hlt]) ?_ | refine wpK_outT (by simp [hlt]) ?_ | refine wpK_condT (by simp [hlt]) ?_ | refine wpK_endT (by simp [hlt]) ?_
    have mkr := mk54 Wa n hn
    obtain ⟨Wb, s1, s2, s3, s4⟩ := hMa.row1 hlt
    have ox := outer_ix (m := pm) hlt
    generalize Wa.newCells 4 (boolsL n (fun _ => false)) = Wn at mkr s1
    refine wpK_block ?_
    try simp only [wpK_assoc]
    refine wpK_reg (fun R hR => by simp [h0, h3, h4, opMakeSlice, mkr, ox, s1]; exact hR) ?_
    try simp only [wpK_assoc]
    refine wpK_reg (fun R hR => by simp []; exact hR) ?_
    have hpw : pm < Wa.next := hMa.outer.1
    obtain ⟨f', hf'⟩ : ∃ g, g = (fun j => if j = i then Wa.next else f j) := ⟨_, rfl⟩
    rw [← hf'] at s4
    refine wpK_keep (fun tm' => tm'.get 0 = some (.int .i64 (n : Int)) ∧ tm'.get 3 = some (rowV pm n) ∧ tm'.get 4 = some (.int .i64 (i : Int)) ∧ tm'.get 5 = some (.int .i64 0)) ⟨by simp [h0, h3, h4], by simp [h0, h3, h4], by simp [h0, h3, h4], by simp [h0, h3, h4]⟩ ?_
    rintro tm ⟨h0, h3, h4, h5⟩
    try simp only [wpK_assoc]
    refine wpK_while1 (I := fun q A' W' => A'.n = 30 ∧ A'.defers = [] ∧ A'.tmps.get 0 = some (.int .i64 (n : Int)) ∧ A'.tmps.get 3 = some (rowV pm n) ∧ A'.tmps.get 4 = some (.int .i64 (i : Int)) ∧ Only (fun b => W.next ≤ b) W W' ∧ Wb.next ≤ W'.next ∧ ∃ (j : Nat), A'.tmps.get 5 = some (.int .i64 (j : Int)) ∧ q = n - j ∧ j ≤ n ∧ PMat W' pm n (i + 1) f' (fun p => if p = i then fun c => if c < j then true else false else fun _ => true))
      (J := fun A' W' => A'.n = 30 ∧ A'.defers = [] ∧ A'.tmps.get 0 = some (.int .i64 (n : Int)) ∧ A'.tmps.get 3 = some (rowV pm n) ∧ A'.tmps.get 4 = some (.int .i64 (i : Int)) ∧ Only (fun b => W.next ≤ b) W W' ∧ Wb.next ≤ W'.next ∧ PMat W' pm n (i + 1) f' (fun _ _ => true)) (Rt := fun _ _ => False) (k := n) ?_ ?_ ?_ ?_
    · refine ⟨rfl, rfl, by simp [h0, h3, h4], by simp [h0, h3, h4], by simp [h0, h3, h4], ⟨by omega, fun b hb hk => by rw [s3.2 b (by omega) (by omega), hEa.2 b hb (fun x => x)]⟩, Nat.le_refl _, 0, by simp [h5], rfl, by omega, s4.congr (fun p c hp hc => ?_)⟩
      by_cases e : p = i
      · simp only [if_pos e]; simp
      · simp only [if_neg e]
    · rintro q ⟨tm, n, ds⟩ Wc ⟨hn, hd, h0, h3, h4, hOc, hnc, j, h5, hk, hjl, hMc⟩ Q' hJ2 hRt hI2
      simp only at hn hd h0 h3 h4
      subst hn; subst hd
      simp only at h5
      by_cases hjt : j < n
      case neg =>
        have e : j = n := by omega
        subst e
        try simp only [wpK_assoc]
        refine wpK_reg (fun R hR => by simp [h0, h5]; exact hR) ?_
        try simp only [wpK_assoc]
        first | refine wpK_onF (by simp []) ?_ | refine wpK_out (by simp []) ?_ | refine wpK_condF (by simp []) ?_ | refine wpK_endF (by simp []) (wpK_skip ?_) | refine wpK_endF (by simp []) ?_
        refine hJ2 _ _ ⟨rfl, rfl, by simp [h0, h3, h4], by simp [h0, h3, h4], by simp [h0, h3, h4], hOc, hnc, hMc.congr (fun p c hp hc => ?_)⟩
        by_cases e : p = i
        · simp only [e, if_true, if_pos hc]
        · simp only [if_neg e]
      have hjt' : (j : Int) < n := by omega
      try simp only [wpK_assoc]
      refine wpK_reg (fun R hR => by simp [h0, h5, hjt']; exact hR) ?_
      try simp only [wpK_assoc]
      first | refine wpK_onT (by simp [hjt]) ?_ | refine wpK_outT (by simp [hjt]) ?_ | refine wpK_condT (by simp [hjt]) ?_ | refine wpK_endT (by simp [hjt]) ?_
      obtain ⟨b1, b2⟩ := hMc.at (i := i) (by omega) (by omega)
      have b3 := row_ix (b := f' i) hjt
      obtain ⟨Wd, d1, d2, d3, d4⟩ := hMc.put (i := i) (j := j) (by omega) hjt true
      refine wpK_block ?_
      try simp only [wpK_assoc]
      refine wpK_reg1 (fun R hR => by simp [h3, h4, h5, b1, b2, b3, d1]; exact hR) ?_
      simp only [leaves_normal, behind_normal]
      refine wpK_keep (fun tm' => tm'.get 0 = some (.int .i64 (n : Int)) ∧ tm'.get 3 = some (rowV pm n) ∧ tm'.get 4 = some (.int .i64 (i : Int)) ∧ tm'.get 5 = some (.int .i64 (j : Int))) ⟨by simp [h0, h3, h4, h5], by simp [h0, h3, h4, h5], by simp [h0, h3, h4, h5], by simp [h0, h3, h4, h5]⟩ ?_
      rintro tm ⟨h0, h3, h4, h5⟩
      try simp only [wpK_assoc]
      refine wpK_reg1 (fun R hR => by simp [h5]; exact hR) ?_
      have hfi : W.next ≤ f' i := by rw [hf']; simp only [if_true]; omega
      refine hI2 (n - (j + 1)) _ _ (by omega) ⟨rfl, rfl, by simp [h0, h3, h4], by simp [h0, h3, h4], by simp [h0, h3, h4], ⟨by have := hOc.1; omega, fun b hb hk => by rw [d3.2 b (by have := hOc.1; omega) (by omega), hOc.2 b hb hk]⟩, by omega, j + 1, by simp [i64_succ j (by omega)], rfl, by omega, d4.congr (fun p c hp hc => ?_)⟩
      by_cases e : p = i
      · simp only [e, if_true, updB]
        by_cases e2 : c = j
        · rw [if_pos e2, if_pos (by omega)]
        · rw [if_neg e2]
          by_cases e3 : c < j
          · rw [if_pos e3, if_pos (by omega)]
          · rw [if_neg e3, if_neg (by omega)]
      · simp only [if_neg e]
    · rintro A' W' hf; exact hf.elim
    · rintro ⟨tm, n, ds⟩ Wc ⟨hn, hd, h0, h3, h4, hOc, hnc, hMc⟩
      simp only at hn hd h0 h3 h4
      subst hn; subst hd
      simp only [leaves_normal, behind_normal]
      refine wpK_keep (fun tm' => tm'.get 0 = some (.int .i64 (n : Int)) ∧ tm'.get 3 = some (rowV pm n) ∧ tm'.get 4 = some (.int .i64 (i : Int))) ⟨by simp [h0, h3, h4], by simp [h0, h3, h4], by simp [h0, h3, h4]⟩ ?_
      rintro tm ⟨h0, h3, h4⟩
      try simp only [wpK_assoc]
      refine wpK_reg1 (fun R hR => by simp [h4]; exact hR) ?_
      refine hI (n - (i + 1)) _ _ (by omega) ⟨rfl, rfl, by simp [h0, h3], by simp [h0, h3], ⟨hOc.1, fun b hb hk => hOc.2 b hb (by omega)⟩, i + 1, f', by simp [i64_succ i (by omega)], rfl, by omega, hMc, fun p hp => ?_⟩
      rw [hf']
      by_cases e : p = i
      · simp only [if_pos e]; omega
      · simp only [if_neg e]; exact hfa p (by omega)
  · rintro A' W' hf; exact hf.elim
  · rintro ⟨tm, n, ds⟩ Wz ⟨hn, hd, h0, h3, hEz, f, hMz, hfz⟩
    simp only at hn hd h0 h3
    subst hn; subst hd
    try simp only [wpK_assoc]
    refine wpK_reg (fun R hR => by simp [h3]; exact hR) ?_
    exact wpK_ret ⟨.inr rfl, rfl, [rowV pm n], by simp, hEz, pm, f, rfl, hMz, by omega, hfz⟩
end Go.Proofs.YtfnigiojgbeklaaDoor

open Go Go.Eng
namespace Go.Proofs.YtfnigiojgbeklaaDoor
attribute [local congr] undef_congr WpK.congr WpS.congr WpL.congr WpC.congr WpF.congr gotS.congr callS.congr nextS.congr wantS.congr condS.congr
attribute [local irreducible] WpK
attribute [local simp] WpDr_nil WpDr_cons atS_some dwantS_true dwantS_false kindS_light kindS_float kindS_heavy lightS_value floatS_some heavyS_value heavyS_skip heavyS_enter dcallS_some doneS_eq
  isLight isFloat isPlain dLook testBit_dec dChain dLights_nil dLights_skip dLights_one dLight_nil dLight_cons dFreshes_nil dFreshes_one oneF_none oneF_some dFresh_nil dFresh_cons oneL_some oneW_true oneW_false sameV_value dPut dMay valEq arrEq listEq List.getElem?_cons Tr.get_nil dEnd
attribute [local simp] WpS_nil WpS_cons isDefer undef_false wantS_true wantS_false nextS_value nextS_skip nextS_enter callS_some gotS_some aWanted aOp aEvalF aEval opMove opAssign opPick aVal flat flat1 AAct.put opBinOp opConvert opIndex Tr.get_set Tr.get_lay aBin aResults tupled
  aCall aVals aCallB blt_dec ble_dec beq_dec aBinI_add aBinI_sub aBinI_lss aBinI_leq aBinI_gtr aBinI_geq aBinI_eql aBinI_neq index_str len_str len_slice Nat.beq_refl Nat.beq_refl
  opBox opLoad opFieldAddr opIndexAddr acells aAddr opExtract aExtract opUnOp opAlloc opStore opMakeInterface opNilCheck opBuild aParts opBuildSlice aValW
attribute [local simp] und2 und3 und4 und5 und9 und12 und13 und21 und22 und23 und24 und26 und27 und28 und30 und31 und34 und40 und43 und48 und49 und50 und54 und70 und71 und72 und79 und81 und86 und88 und89 und94 und99 und108 und109 und110 und118 und119 und120 und121 und123 und134 und143 und144 und145 und146 und148 und149 und150 und153 und154 und155 und157 und165 und167 und168 und178 und179 und187 und188 und189 und190 und191 und192 und193 und199 und214 und218 field13_0 field13_1 field23_0 field23_1 field24_0 field24_1 field27_0 field27_1 field28_0 field28_1 field49_0 field49_1 field49_2 field50_0 field50_1 field50_2 field70_0 field70_1 field70_2 field71_0 field71_1 field71_2 field72_0 field72_1 field72_2 field108_0 field108_1 field108_2 field109_0 field109_1 field109_2 field120_0 field120_1 field121_0 field121_1 field145_0 field145_1 field145_2 field146_0 field146_1 field146_2 field154_0 field154_1 field155_0 field155_1 field178_0 field178_1 field178_2 field178_3 field179_0 field179_1 field179_2 field179_3 field188_0 field188_1 field189_0 field189_1
set_option maxHeartbeats 4000000
set_option linter.unusedSimpArgs false
set_option linter.unusedVariables false
def ans1 (r : Nat → Nat → Bool) (q : Nat) (x : Tri) (os : List Tri) : Bool := os.any fun y => decide (y.1 = q) && (decide (y.2.1 = x.2.1) && r x.2.2.toNat y.2.2.toNat)
def ansB (r : Nat → Nat → Bool) (p q : Nat) (ss os : List Tri) : Bool := ss.all fun x => !decide (x.1 = p) || ans1 r q x os
theorem GoodS.nat {n L : Nat} {ss : List Tri} (h : GoodS n L ss) {i : Nat} (hi : i < ss.length) : ∃ f a t : Nat, ss[i]? = some ((f : Int), (a : Int), (t : Int)) ∧ f < n ∧ a < L ∧ t < n := by
  obtain ⟨⟨ea, eb, ec⟩, hab⟩ : ∃ e : Tri, ss[i] = e := ⟨_, rfl⟩
  have ha : ss[i]? = some (ea, eb, ec) := by rw [List.getElem?_eq_getElem hi, hab]
  have hgm := h (ea, eb, ec) (List.mem_of_getElem? ha)
  simp only at hgm
  refine ⟨ea.toNat, eb.toNat, ec.toNat, ?_, by omega, by omega, by omega⟩
  rw [ha, show ((ea.toNat : Nat) : Int) = ea from by omega, show ((eb.toNat : Nat) : Int) = eb from by omega, show ((ec.toNat : Nat) : Int) = ec from by omega]
theorem step_at {W : AW} {v : Value} {ss : List Tri} (h : StepR W v ss) {i f a t : Nat} (hi : ss[i]? = some ((f : Int), (a : Int), (t : Int))) : ∃ b o, aIndexAddr T0 22 v (.int .i64 (i : Int)) = some (.pointer (some ⟨b, o, none⟩)) ∧
    aLoadVar T0 W 3 b o = some (.int .i64 (f : Int)) ∧ aLoadVar T0 W 3 b (o + 1) = some (.int .i64 (a : Int)) ∧ aLoadVar T0 W 3 b (o + 2) = some (.int .i64 (t : Int)) := by
  obtain ⟨b, o, h1, h2⟩ := h.at (T := T0) hi und22 sz71 .i64
  have l0 := load_of und3 rfl (h2 0 (.int .i64 (f : Int)) rfl)
  have l1 := load_of und3 rfl (h2 1 (.int .i64 (a : Int)) rfl)
  have l2 := load_of und3 rfl (h2 2 (.int .i64 (t : Int)) rfl)
  exact ⟨b, o, h1, l0, l1, l2⟩
theorem any_snoc {α : Type} (l : List α) (x : α) (p : α → Bool) : (l ++ [x]).any p = (l.any p || p x) := by simp
theorem all_snoc {α : Type} (l : List α) (x : α) (p : α → Bool) : (l ++ [x]).all p = (l.all p && p x) := by simp
theorem any_take {α : Type} {l : List α} {p : α → Bool} {k : Nat} (h : (l.take k).any p = true) : l.any p = true := by
  rw [List.any_eq_true] at h ⊢
  obtain ⟨x, h1, h2⟩ := h
  exact ⟨x, List.mem_of_mem_take h1, h2⟩
theorem all_take_false {α : Type} {l : List α} {p : α → Bool} {x : α} {k : Nat} (h : l[k]? = some x) (hx : p x = false) : l.all p = false := by
  rw [List.all_eq_false]
  exact ⟨x, List.mem_of_getElem? h, by rw [hx]; decide⟩
theorem answers_wp {W : AW} {v sv ov : Value} {n L : Nat} {r : Nat → Nat → Bool} {K : Nat → Prop} {ss os : List Tri} (h : BMat W v n r K) (hs : StepR W sv ss) (ho : StepR W ov os) (hgs : GoodS n L ss) (hgo : GoodS n L os) (hls : ss.length < 1000000) (hlo : os.length < 1000000) (hn : n ≤ 64) (p q : Nat) :
    WpF T0 60 [v, .int .i64 (p : Int), .int .i64 (q : Int), sv, ov] W (fun u W' => W' = W ∧ u = .bool (ansB r p q ss os)) := by
  refine wpF fun60 rfl ?_
  obtain ⟨m, f, rfl, hM, _, _⟩ := h
  obtain ⟨As, cs, hsv⟩ := hs.len
  obtain ⟨Ao, co, hov⟩ := ho.len
  have ls : aLen T0 W 22 sv = some (.int .i64 ss.length) := by rw [hsv]; exact len_slice und22 _ _ _
  have lo : aLen T0 W 22 ov = some (.int .i64 os.length) := by rw [hov]; exact len_slice und22 _ _ _
  have vo := row_eq ho
  have vs := row_eq hs
  generalize hv : rowV m n = v
  have vv : valEq v v = true := by rw [← hv]; exact rowV_eq _ _
  try simp only [wpK_assoc]
  refine wpK_reg (fun R hR => by simp []; exact hR) ?_
  try simp only [wpK_assoc]
  refine wpK_reg (fun R hR => by simp []; exact hR) ?_
  refine wpK_keep (fun tm' => tm'.get 0 = some (v) ∧ tm'.get 1 = some (.int .i64 (p : Int)) ∧ tm'.get 2 = some (.int .i64 (q : Int)) ∧ tm'.get 3 = some (sv) ∧ tm'.get 4 = some (ov) ∧ tm'.get 11 = some (.int .i64 0)) ⟨by simp, by simp, by simp, by simp, by simp, by simp⟩ ?_
  rintro tm ⟨h0, h1, h2, h3, h4, h11⟩
  try simp only [wpK_assoc]
  refine wpK_while (I := fun k A' W' => A'.n = 76 ∧ A'.defers = [] ∧ A'.tmps.get 0 = some (v) ∧ A'.tmps.get 1 = some (.int .i64 (p : Int)) ∧ A'.tmps.get 2 = some (.int .i64 (q : Int)) ∧ A'.tmps.get 3 = some (sv) ∧ A'.tmps.get 4 = some (ov) ∧ W' = W ∧ ∃ i : Nat, A'.tmps.get 11 = some (.int .i64 (i : Int)) ∧ k = ss.length - i ∧ i ≤ ss.length ∧ ((ss.take i).all fun x => !decide (x.1 = p) || ans1 r q x os) = true)
    (J := fun A' W' => A'.n = 76 ∧ A'.defers = [] ∧ A'.tmps.get 0 = some (v) ∧ A'.tmps.get 1 = some (.int .i64 (p : Int)) ∧ A'.tmps.get 2 = some (.int .i64 (q : Int)) ∧ A'.tmps.get 3 = some (sv) ∧ A'.tmps.get 4 = some (ov) ∧ W' = W ∧ ansB r p q ss os = true) (Rt := fun A' W' => A'.defers = [] ∧ W' = W ∧ A'.tmps.get 10 = some (.bool false) ∧ ansB r p q ss os = false) (k := ss.length) ?_ ?_ ?_ ?_
  · exact ⟨rfl, rfl, by simp [h0, h1, h2, h3, h4], by simp [h0, h1, h2, h3, h4], by simp [h0, h1, h2, h3, h4], by simp [h0, h1, h2, h3, h4], by simp [h0, h1, h2, h3, h4], rfl, 0, by simp [h11], rfl, by omega, by simp⟩
  · rintro k ⟨tm, n, ds⟩ Wa ⟨hn, hd, h0, h1, h2, h3, h4, rfl, i, h11, hk, hil, hall⟩ Q' hJ hRt hI
    simp only at hn hd h0 h1 h2 h3 h4
    subst hn; subst hd
    simp only at h11
    by_cases hlt : i < ss.length
    case neg =>
      have hlt' : ¬ (i : Int) < ss.length := by omega
      have e : ss.take i = ss := List.take_of_length_le (by omega)
      rw [e] at hall
      try simp only [wpK_assoc]
      refine wpK_reg (fun R hR => by simp [h3, h11, ls, hlt']; exact hR) ?_
      try simp only [wpK_assoc]
      first | refine wpK_onF (by simp [hlt]) ?_ | refine wpK_out (by simp [hlt]) ?_ | refine wpK_condF (by simp [hlt]) ?_ | refine wpK_endF (by simp [hlt]) (wpK_skip ?_) | refine wpK_endF (by simp [hlt]) ?_
      exact hJ _ _ ⟨rfl, rfl, by simp [h0, h1, h2, h3, h4], by simp [h0, h1, h2, h3, h4], by simp [h0, h1, h2, h3, h4], by simp [h0, h1, h2, h3, h4], by simp [h0, h1, h2, h3, h4], rfl, hall⟩
    have hlt' : (i : Int) < ss.length := by omega
    try simp only [wpK_assoc]
    refine wpK_reg (fun R hR => by simp [h3, h11, ls, hlt']; exact hR) ?_
    try simp only [wpK_assoc]
    first | refine wpK_onT (by simp [hlt]) ?_ | refine wpK_outT (by simp [hlt]) ?_ | refine wpK_condT (by simp [hlt]) ?_ | refine wpK_endT (by simp [hlt]) ?_
    obtain ⟨xf, xa, xt, hx, x1, x2, x3⟩ := hgs.nat hlt
    obtain ⟨bx, ox, ax, lx0, lx1, lx2⟩ := step_at hs hx
    have ht1 := take_mem3 hx
    refine wpK_block ?_
    have hpx : (!decide (((xf : Int), (xa : Int), (xt : Int)).1 = (p : Int)) || ans1 r q ((xf : Int), (xa : Int), (xt : Int)) os) = (!decide (xf = p) || ans1 r q ((xf : Int), (xa : Int), (xt : Int)) os) := by
      congr 2
      rw [Bool.eq_iff_iff]; simp only [decide_eq_true_eq]; omega
    by_cases hp : xf = p
    case neg =>
      have hp' : ¬ (xf : Int) = (p : Int) := by omega
      try simp only [wpK_assoc]
      refine wpK_reg (fun R hR => by simp [h1, h3, h11, ax, lx0, hp']; exact hR) ?_
      try simp only [wpK_assoc]
      first | refine wpK_onT (by simp [hp, hp']) ?_ | refine wpK_outT (by simp [hp, hp']) ?_ | refine wpK_condT (by simp [hp, hp']) ?_ | refine wpK_endT (by simp [hp, hp']) ?_
      simp only [leaves_exit, if_true, behind_normal]
      refine wpK_keep (fun tm' => tm'.get 0 = some (v) ∧ tm'.get 1 = some (.int .i64 (p : Int)) ∧ tm'.get 2 = some (.int .i64 (q : Int)) ∧ tm'.get 3 = some (sv) ∧ tm'.get 4 = some (ov) ∧ tm'.get 11 = some (.int .i64 (i : Int))) ⟨by simp [h0, h1, h2, h3, h4, h11], by simp [h0, h1, h2, h3, h4, h11], by simp [h0, h1, h2, h3, h4, h11], by simp [h0, h1, h2, h3, h4, h11], by simp [h0, h1, h2, h3, h4, h11], by simp [h0, h1, h2, h3, h4, h11]⟩ ?_
      rintro tm ⟨h0, h1, h2, h3, h4, h11⟩
      try simp only [wpK_assoc]
      refine wpK_reg1 (fun R hR => by simp [h11]; exact hR) ?_
      exact hI (ss.length - (i + 1)) _ _ (by omega) ⟨rfl, rfl, by simp [h0, h1, h2, h3, h4], by simp [h0, h1, h2, h3, h4], by simp [h0, h1, h2, h3, h4], by simp [h0, h1, h2, h3, h4], by simp [h0, h1, h2, h3, h4], rfl, i + 1, by simp [i64_succ i (by omega)], rfl, by omega, by rw [ht1, all_snoc, hall, hpx, decide_eq_false hp]; rfl⟩
    have hp' : (xf : Int) = (p : Int) := by omega
    try simp only [wpK_assoc]
    refine wpK_reg (fun R hR => by simp [h1, h3, h11, ax, lx0, hp']; exact hR) ?_
    try simp only [wpK_assoc]
    first | refine wpK_onF (by simp [hp, hp']) ?_ | refine wpK_out (by simp [hp, hp']) ?_ | refine wpK_condF (by simp [hp, hp']) ?_ | refine wpK_endF (by simp [hp, hp']) (wpK_skip ?_) | refine wpK_endF (by simp [hp, hp']) ?_
    try simp only [wpK_assoc]
    refine wpK_reg (fun R hR => by simp []; exact hR) ?_
    try simp only [wpK_assoc]
    refine wpK_reg (fun R hR => by simp []; exact hR) ?_
    refine wpK_keep (fun tm' => tm'.get 0 = some (v) ∧ tm'.get 1 = some (.int .i64 (p : Int)) ∧ tm'.get 2 = some (.int .i64 (q : Int)) ∧ tm'.get 3 = some (sv) ∧ tm'.get 4 = some (ov) ∧ tm'.get 11 = some (.int .i64 (i : Int)) ∧ tm'.get 12 = some (.bool false) ∧ tm'.get 13 = some (.int .i64 0)) ⟨by simp [h0, h1, h2, h3, h4, h11], by simp [h0, h1, h2, h3, h4, h11], by simp [h0, h1, h2, h3, h4, h11], by simp [h0, h1, h2, h3, h4, h11], by simp [h0, h1, h2, h3, h4, h11], by simp [h0, h1, h2, h3, h4, h11], by simp [h0, h1, h2, h3, h4, h11], by simp [h0, h1, h2, h3, h4, h11]⟩ ?_
    rintro tm ⟨h0, h1, h2, h3, h4, h11, h12, h13⟩
    try simp only [wpK_assoc]
    refine wpK_while (I := fun k A' W' => A'.n = 76 ∧ A'.defers = [] ∧ A'.tmps.get 0 = some (v) ∧ A'.tmps.get 1 = some (.int .i64 (p : Int)) ∧ A'.tmps.get 2 = some (.int .i64 (q : Int)) ∧ A'.tmps.get 3 = some (sv) ∧ A'.tmps.get 4 = some (ov) ∧ A'.tmps.get 11 = some (.int .i64 (i : Int)) ∧ W' = Wa ∧ ∃ (j : Nat) (b : Bool), A'.tmps.get 13 = some (.int .i64 (j : Int)) ∧ A'.tmps.get 12 = some (.bool b) ∧ k = os.length - j ∧ j ≤ os.length ∧ b = ans1 r q ((xf : Int), (xa : Int), (xt : Int)) (os.take j))
      (J := fun A' W' => A'.n = 76 ∧ A'.defers = [] ∧ A'.tmps.get 0 = some (v) ∧ A'.tmps.get 1 = some (.int .i64 (p : Int)) ∧ A'.tmps.get 2 = some (.int .i64 (q : Int)) ∧ A'.tmps.get 3 = some (sv) ∧ A'.tmps.get 4 = some (ov) ∧ A'.tmps.get 11 = some (.int .i64 (i : Int)) ∧ W' = Wa ∧ A'.tmps.get 12 = some (.bool (ans1 r q ((xf : Int), (xa : Int), (xt : Int)) os))) (Rt := fun _ _ => False) (k := os.length) ?_ ?_ ?_ ?_
    · exact ⟨rfl, rfl, by simp [h0, h1, h2, h3, h4, h11], by simp [h0, h1, h2, h3, h4, h11], by simp [h0, h1, h2, h3, h4, h11], by simp [h0, h1, h2, h3, h4, h11], by simp [h0, h1, h2, h3, h4, h11], by simp [h0, h1, h2, h3, h4, h11], rfl, 0, false, by simp [h13], by simp [h12], rfl, by omega, by simp [ans1]⟩
    · rintro k ⟨tm, n, ds⟩ Wb ⟨hn, hd, h0, h1, h2, h3, h4, h11, rfl, j, b, h13, h12, hk, hjl, hb⟩ Q' hJ2 hRt2 hI2
      simp only at hn hd h0 h1 h2 h3 h4 h11
      subst hn; subst hd
      simp only at h13 h12
      by_cases hjt : j < os.length
      case neg =>
        have hjt' : ¬ (j : Int) < os.length := by omega
        have e : os.take j = os := List.take_of_length_le (by omega)
        rw [e] at hb
        try simp only [wpK_assoc]
        refine wpK_reg (fun R hR => by simp [h4, h12, h13, lo, hjt', undef]; exact hR) ?_
        try simp only [wpK_assoc]
        first | refine wpK_onF (by simp [hjt]) ?_ | refine wpK_out (by simp [hjt]) ?_ | refine wpK_condF (by simp [hjt]) ?_ | refine wpK_endF (by simp [hjt]) (wpK_skip ?_) | refine wpK_endF (by simp [hjt]) ?_
        exact hJ2 _ _ ⟨rfl, rfl, by simp [h0, h1, h2, h3, h4, h11], by simp [h0, h1, h2, h3, h4, h11], by simp [h0, h1, h2, h3, h4, h11], by simp [h0, h1, h2, h3, h4, h11], by simp [h0, h1, h2, h3, h4, h11], by simp [h0, h1, h2, h3, h4, h11], rfl, by simp [h12, hb]⟩
      have hjt' : (j : Int) < os.length := by omega
      cases b with
      | true =>
        try simp only [wpK_assoc]
        refine wpK_reg (fun R hR => by simp [h4, h12, h13, lo, hjt']; exact hR) ?_
        try simp only [wpK_assoc]
        first | refine wpK_onF (by simp [hjt]) ?_ | refine wpK_out (by simp [hjt]) ?_ | refine wpK_condF (by simp [hjt]) ?_ | refine wpK_endF (by simp [hjt]) (wpK_skip ?_) | refine wpK_endF (by simp [hjt]) ?_
        exact hJ2 _ _ ⟨rfl, rfl, by simp [h0, h1, h2, h3, h4, h11], by simp [h0, h1, h2, h3, h4, h11], by simp [h0, h1, h2, h3, h4, h11], by simp [h0, h1, h2, h3, h4, h11], by simp [h0, h1, h2, h3, h4, h11], by simp [h0, h1, h2, h3, h4, h11], rfl, by simp [h12]; exact any_take hb.symm⟩
      | false =>
      try simp only [wpK_assoc]
      refine wpK_reg (fun R hR => by simp [h4, h12, h13, lo, hjt']; exact hR) ?_
      try simp only [wpK_assoc]
      first | refine wpK_onT (by simp [hjt]) ?_ | refine wpK_outT (by simp [hjt]) ?_ | refine wpK_condT (by simp [hjt]) ?_ | refine wpK_endT (by simp [hjt]) ?_
      obtain ⟨yf, ya, yt, hy, y1, y2, y3⟩ := hgo.nat hjt
      obtain ⟨by_, oy, ay, ly0, ly1, ly2⟩ := step_at ho hy
      obtain ⟨c1, c2⟩ := hM.at (i := xt) x3 (Nat.le_refl _)
      have c3 := row_ix (b := f xt) y3
      have c4 := hM.cell (i := xt) (j := yt) x3 y3
      rw [hv] at c1
      have rv := rowV_eq (f xt) n
      have ho1 := take_mem3 hy
      have hb2 : ans1 r q ((xf : Int), (xa : Int), (xt : Int)) (os.take (j + 1)) = (decide (yf = q) && (decide (ya = xa) && r xt yt)) := by
        have hb : ans1 r q ((xf : Int), (xa : Int), (xt : Int)) (os.take j) = false := hb.symm
        unfold ans1 at hb ⊢
        rw [ho1, any_snoc, hb, Bool.false_or]
        simp only [Int.toNat_natCast]
        congr 1
        · rw [Bool.eq_iff_iff]; simp only [decide_eq_true_eq]; omega
        · congr 1
          rw [Bool.eq_iff_iff]; simp only [decide_eq_true_eq]; omega
      refine wpK_block ?_
      by_cases hq : yf = q
      · have hq' : (yf : Int) = (q : Int) := by omega
        by_cases hl : ya = xa
        · have hl' : (ya : Int) = (xa : Int) := by omega
          rw [decide_eq_true hq, decide_eq_true hl] at hb2
          try simp only [wpK_assoc]
          refine wpK_qn (wr := Tr.nil |>.set 37 0 |>.set 38 1 |>.set 39 2 |>.set 40 3 |>.set 41 4 |>.set 42 5 |>.set 43 6 |>.set 44 7 |>.set 45 8 |>.set 46 9 |>.set 47 10 |>.set 48 11 |>.set 49 12 |>.set 50 13 |>.set 51 14 |>.set 52 15 |>.set 53 16 |>.set 54 17 |>.set 55 18 |>.set 56 19 |>.set 57 20 |>.set 58 21 |>.set 59 22 |>.set 60 23 |>.set 61 24 |>.set 62 25 |>.set 63 26 |>.set 64 27 |>.set 65 28 |>.set 66 29 |>.set 67 30 |>.set 68 31 |>.set 69 32 |>.set 70 33 |>.set 71 34 |>.set 72 35 |>.set 73 36 |>.set 12 37) (bits := Tr.nil.lay 0 [0, 0, 3, 7, 15, 0, 63, 127, 255, 255, 1023, 2047, 4095, 255, 255, 24831, 57599, 123135, 262143, 524287, 1048575, 2097151, 2097151, 2097151, 14680063, 31457279, 65011711, 134217727, 268435455, 2097151, 2097151, 1612709887, 3760193535, 8055160831, 17179869183, 34359738367, 68719476735, 137438953471]) (ord := [0, 1, 2, 3, 4, 5, 6, 7, 8, 9, 10, 11, 12, 13, 14, 15, 16, 17, 18, 19, 20, 21, 22, 23, 24, 25, 26, 27, 28, 29, 30, 31, 32, 33, 34, 35, 36, 37]) (by kernel_rfl) (by kernel_rfl) (by kernel_rfl) (fun G hG => by
            simp [h0, h1, h2, h3, h4, h11, h12, h13, ax, lx1, lx2, ay, ly0, ly1, ly2, hq', hl', c1, c2, c3, c4, rv, vv, vo, vs]
            exact hG) ?_
          simp only [leaves_normal, behind_normal]
          refine wpK_keep (fun tm' => tm'.get 0 = some (v) ∧ tm'.get 1 = some (.int .i64 (p : Int)) ∧ tm'.get 2 = some (.int .i64 (q : Int)) ∧ tm'.get 3 = some (sv) ∧ tm'.get 4 = some (ov) ∧ tm'.get 11 = some (.int .i64 (i : Int)) ∧ tm'.get 12 = some (.bool (ans1 r q ((xf : Int), (xa : Int), (xt : Int)) (os.take (j + 1)))) ∧ tm'.get 13 = some (.int .i64 (j : Int))) ⟨by simp [h0, h1, h2, h3, h4, h11, h13, hb2], by simp [h0, h1, h2, h3, h4, h11, h13, hb2], by simp [h0, h1, h2, h3, h4, h11, h13, hb2], by simp [h0, h1, h2, h3, h4, h11, h13, hb2], by simp [h0, h1, h2, h3, h4, h11, h13, hb2], by simp [h0, h1, h2, h3, h4, h11, h13, hb2], by simp [h0, h1, h2, h3, h4, h11, h13, hb2], by simp [h0, h1, h2, h3, h4, h11, h13, hb2]⟩ ?_
          rintro tm ⟨h0, h1, h2, h3, h4, h11, h12, h13⟩
          try simp only [wpK_assoc]
          refine wpK_reg1 (fun R hR => by simp [h13]; exact hR) ?_
          exact hI2 (os.length - (j + 1)) _ _ (by omega) ⟨rfl, rfl, by simp [h0, h1, h2, h3, h4, h11], by simp [h0, h1, h2, h3, h4, h11], by simp [h0, h1, h2, h3, h4, h11], by simp [h0, h1, h2, h3, h4, h11], by simp [h0, h1, h2, h3, h4, h11], by simp [h0, h1, h2, h3, h4, h11], rfl, j + 1, _, by simp [i64_succ j (by omega)], by simp [h12], rfl, by omega, rfl⟩
        · have hl' : ¬ (ya : Int) = (xa : Int) := by omega
          rw [decide_eq_true hq, decide_eq_false hl] at hb2
          try simp only [wpK_assoc]
          refine wpK_qn (wr := Tr.nil |>.set 37 0 |>.set 38 1 |>.set 39 2 |>.set 40 3 |>.set 41 4 |>.set 42 5 |>.set 43 6 |>.set 44 7 |>.set 45 8 |>.set 46 9 |>.set 47 10 |>.set 48 11 |>.set 49 12 |>.set 50 13 |>.set 51 14 |>.set 52 15 |>.set 53 16 |>.set 54 17 |>.set 55 18 |>.set 56 19 |>.set 57 20 |>.set 58 21 |>.set 59 22 |>.set 60 23 |>.set 61 24 |>.set 62 25 |>.set 63 26 |>.set 64 27 |>.set 65 28 |>.set 66 29 |>.set 67 30 |>.set 68 31 |>.set 69 32 |>.set 70 33 |>.set 71 34 |>.set 72 35 |>.set 73 36 |>.set 12 37) (bits := Tr.nil.lay 0 [0, 0, 3, 7, 15, 0, 63, 127, 255, 255, 1023, 2047, 4095, 255, 255, 24831, 57599, 123135, 262143, 524287, 1048575, 2097151, 2097151, 2097151, 14680063, 31457279, 65011711, 134217727, 268435455, 2097151, 2097151, 1612709887, 3760193535, 8055160831, 17179869183, 34359738367, 68719476735, 137438953471]) (ord := [0, 1, 2, 3, 4, 5, 6, 7, 8, 9, 10, 11, 12, 13, 14, 15, 16, 17, 18, 19, 20, 21, 22, 23, 24, 25, 26, 27, 28, 29, 30, 31, 32, 33, 34, 35, 36, 37]) (by kernel_rfl) (by kernel_rfl) (by kernel_rfl) (fun G hG => by
            simp [h0, h1, h2, h3, h4, h11, h12, h13, ax, lx1, lx2, ay, ly0, ly1, ly2, hq', hl', hl, undef, vv, vo, vs]
            exact hG) ?_
          simp only [leaves_normal, behind_normal]
          refine wpK_keep (fun tm' => tm'.get 0 = some (v) ∧ tm'.get 1 = some (.int .i64 (p : Int)) ∧ tm'.get 2 = some (.int .i64 (q : Int)) ∧ tm'.get 3 = some (sv) ∧ tm'.get 4 = some (ov) ∧ tm'.get 11 = some (.int .i64 (i : Int)) ∧ tm'.get 12 = some (.bool (ans1 r q ((xf : Int), (xa : Int), (xt : Int)) (os.take (j + 1)))) ∧ tm'.get 13 = some (.int .i64 (j : Int))) ⟨by simp [h0, h1, h2, h3, h4, h11, h13, hb2], by simp [h0, h1, h2, h3, h4, h11, h13, hb2], by simp [h0, h1, h2, h3, h4, h11, h13, hb2], by simp [h0, h1, h2, h3, h4, h11, h13, hb2], by simp [h0, h1, h2, h3, h4, h11, h13, hb2], by simp [h0, h1, h2, h3, h4, h11, h13, hb2], by simp [h0, h1, h2, h3, h4, h11, h13, hb2], by simp [h0, h1, h2, h3, h4, h11, h13, hb2]⟩ ?_
          rintro tm ⟨h0, h1, h2, h3, h4, h11, h12, h13⟩
          try simp only [wpK_assoc]
          refine wpK_reg1 (fun R hR => by simp [h13]; exact hR) ?_
          exact hI2 (os.length - (j + 1)) _ _ (by omega) ⟨rfl, rfl, by simp [h0, h1, h2, h3, h4, h11], by simp [h0, h1, h2, h3, h4, h11], by simp [h0, h1, h2, h3, h4, h11], by simp [h0, h1, h2, h3, h4, h11], by simp [h0, h1, h2, h3, h4, h11], by simp [h0, h1, h2, h3, h4, h11], rfl, j + 1, _, by simp [i64_succ j (by omega)], by simp [h12], rfl, by omega, rfl⟩
      · have hq' : ¬ (yf : Int) = (q : Int) := by omega
        rw [decide_eq_false hq] at hb2
        try simp only [wpK_assoc]
        refine wpK_qn (wr := Tr.nil |>.set 37 0 |>.set 38 1 |>.set 39 2 |>.set 40 3 |>.set 41 4 |>.set 42 5 |>.set 43 6 |>.set 44 7 |>.set 45 8 |>.set 46 9 |>.set 47 10 |>.set 48 11 |>.set 49 12 |>.set 50 13 |>.set 51 14 |>.set 52 15 |>.set 53 16 |>.set 54 17 |>.set 55 18 |>.set 56 19 |>.set 57 20 |>.set 58 21 |>.set 59 22 |>.set 60 23 |>.set 61 24 |>.set 62 25 |>.set 63 26 |>.set 64 27 |>.set 65 28 |>.set 66 29 |>.set 67 30 |>.set 68 31 |>.set 69 32 |>.set 70 33 |>.set 71 34 |>.set 72 35 |>.set 73 36 |>.set 12 37) (bits := Tr.nil.lay 0 [0, 0, 3, 7, 15, 0, 63, 127, 255, 255, 1023, 2047, 4095, 255, 255, 24831, 57599, 123135, 262143, 524287, 1048575, 2097151, 2097151, 2097151, 14680063, 31457279, 65011711, 134217727, 268435455, 2097151, 2097151, 1612709887, 3760193535, 8055160831, 17179869183, 34359738367, 68719476735, 137438953471]) (ord := [0, 1, 2, 3, 4, 5, 6, 7, 8, 9, 10, 11, 12, 13, 14, 15, 16, 17, 18, 19, 20, 21, 22, 23, 24, 25, 26, 27, 28, 29, 30, 31, 32, 33, 34, 35, 36, 37]) (by kernel_rfl) (by kernel_rfl) (by kernel_rfl) (fun G hG => by
          simp [h0, h1, h2, h3, h4, h11, h12, h13, ax, lx1, lx2, ay, ly0, ly1, ly2, hq', hq, undef, vv, vo, vs]
          exact hG) ?_
        simp only [leaves_normal, behind_normal]
        refine wpK_keep (fun tm' => tm'.get 0 = some (v) ∧ tm'.get 1 = some (.int .i64 (p : Int)) ∧ tm'.get 2 = some (.int .i64 (q : Int)) ∧ tm'.get 3 = some (sv) ∧ tm'.get 4 = some (ov) ∧ tm'.get 11 = some (.int .i64 (i : Int)) ∧ tm'.get 12 = some (.bool (ans1 r q ((xf : Int), (xa : Int), (xt : Int)) (os.take (j + 1)))) ∧ tm'.get 13 = some (.int .i64 (j : Int))) ⟨by simp [h0, h1, h2, h3, h4, h11, h13, hb2], by simp [h0, h1, h2, h3, h4, h11, h13, hb2], by simp [h0, h1, h2, h3, h4, h11, h13, hb2], by simp [h0, h1, h2, h3, h4, h11, h13, hb2], by simp [h0, h1, h2, h3, h4, h11, h13, hb2], by simp [h0, h1, h2, h3, h4, h11, h13, hb2], by simp [h0, h1, h2, h3, h4, h11, h13, hb2], by simp [h0, h1, h2, h3, h4, h11, h13, hb2]⟩ ?_
        rintro tm ⟨h0, h1, h2, h3, h4, h11, h12, h13⟩
        try simp only [wpK_assoc]
        refine wpK_reg1 (fun R hR => by simp [h13]; exact hR) ?_
        exact hI2 (os.length - (j + 1)) _ _ (by omega) ⟨rfl, rfl, by simp [h0, h1, h2, h3, h4, h11], by simp [h0, h1, h2, h3, h4, h11], by simp [h0, h1, h2, h3, h4, h11], by simp [h0, h1, h2, h3, h4, h11], by simp [h0, h1, h2, h3, h4, h11], by simp [h0, h1, h2, h3, h4, h11], rfl, j + 1, _, by simp [i64_succ j (by omega)], by simp [h12], rfl, by omega, rfl⟩
    · rintro A' W' hf; exact hf.elim
    · rintro ⟨tm, n, ds⟩ Wc ⟨hn, hd, h0, h1, h2, h3, h4, h11, rfl, h12⟩
      simp only at hn hd h0 h1 h2 h3 h4 h11
      subst hn; subst hd
      simp only at h12
      generalize han : ans1 r q ((xf : Int), (xa : Int), (xt : Int)) os = b at h12 hpx
      cases b with
      | false =>
        try simp only [wpK_assoc]
        refine wpK_reg (fun R hR => by simp [h12]; exact hR) ?_
        try simp only [wpK_assoc]
        first | refine wpK_onT (by simp []) ?_ | refine wpK_outT (by simp []) ?_ | refine wpK_condT (by simp []) ?_ | refine wpK_endT (by simp []) ?_
        try simp only [wpK_assoc]
        refine wpK_reg (fun R hR => by simp []; exact hR) ?_
        refine wpK_ret ?_
        refine hRt _ _ ⟨rfl, rfl, by simp, ?_⟩
        exact all_take_false hx (by rw [han, hpx, decide_eq_true hp]; rfl)
      | true =>
        try simp only [wpK_assoc]
        refine wpK_reg (fun R hR => by simp [h12]; exact hR) ?_
        try simp only [wpK_assoc]
        first | refine wpK_onF (by simp []) ?_ | refine wpK_out (by simp []) ?_ | refine wpK_condF (by simp []) ?_ | refine wpK_endF (by simp []) (wpK_skip ?_) | refine wpK_endF (by simp []) ?_
        simp only [leaves_normal, behind_normal]
        refine wpK_keep (fun tm' => tm'.get 0 = some (v) ∧ tm'.get 1 = some (.int .i64 (p : Int)) ∧ tm'.get 2 = some (.int .i64 (q : Int)) ∧ tm'.get 3 = some (sv) ∧ tm'.get 4 = some (ov) ∧ tm'.get 11 = some (.int .i64 (i : Int))) ⟨by simp [h0, h1, h2, h3, h4, h11], by simp [h0, h1, h2, h3, h4, h11], by simp [h0, h1, h2, h3, h4, h11], by simp [h0, h1, h2, h3, h4, h11], by simp [h0, h1, h2, h3, h4, h11], by simp [h0, h1, h2, h3, h4, h11]⟩ ?_
        rintro tm ⟨h0, h1, h2, h3, h4, h11⟩
        try simp only [wpK_assoc]
        refine wpK_reg1 (fun R hR => by simp [h11]; exact hR) ?_
        exact hI (ss.length - (i + 1)) _ _ (by omega) ⟨rfl, rfl, by simp [h0, h1, h2, h3, h4], by simp [h0, h1, h2, h3, h4], by simp [h0, h1, h2, h3, h4], by simp [h0, h1, h2, h3, h4], by simp [h0, h1, h2, h3, h4], rfl, i + 1, by simp [i64_succ i (by omega)], rfl, by omega, by rw [ht1, all_snoc, hall, han]; simp⟩
  · rintro A' W' ⟨h1, h2, h3, h4⟩
    exact ⟨.inr rfl, h1, [.bool false], by simp [h3], h2, by rw [h4]; rfl⟩
  · rintro ⟨tm, n, ds⟩ Wz ⟨hn, hd, h0, h1, h2, h3, h4, rfl, hall⟩
    simp only at hn hd h0 h1 h2 h3 h4
    subst hn; subst hd
    try simp only [wpK_assoc]
    refine wpK_reg (fun R hR => by simp []; exact hR) ?_
    exact wpK_ret ⟨.inr rfl, rfl, [.bool true], by simp, rfl, by rw [hall]; rfl⟩
end Go.Proofs.YtfnigiojgbeklaaDoor

open Go Go.Eng
namespace Go.Proofs.YtfnigiojgbeklaaDoor
attribute [local congr] undef_congr WpK.congr WpS.congr WpL.congr WpC.congr WpF.congr gotS.congr callS.congr nextS.congr wantS.congr condS.congr
attribute [local irreducible] WpK
attribute [local simp] WpDr_nil WpDr_cons atS_some dwantS_true dwantS_false kindS_light kindS_float kindS_heavy lightS_value floatS_some heavyS_value heavyS_skip heavyS_enter dcallS_some doneS_eq
  isLight isFloat isPlain dLook testBit_dec dChain dLights_nil dLights_skip dLights_one dLight_nil dLight_cons dFreshes_nil dFreshes_one oneF_none oneF_some dFresh_nil dFresh_cons oneL_some oneW_true oneW_false sameV_value dPut dMay valEq arrEq listEq List.getElem?_cons Tr.get_nil dEnd
attribute [local simp] WpS_nil WpS_cons isDefer undef_false wantS_true wantS_false nextS_value nextS_skip nextS_enter callS_some gotS_some aWanted aOp aEvalF aEval opMove opAssign opPick aVal flat flat1 AAct.put opBinOp opConvert opIndex Tr.get_set Tr.get_lay aBin aResults tupled
  aCall aVals aCallB blt_dec ble_dec beq_dec aBinI_add aBinI_sub aBinI_lss aBinI_leq aBinI_gtr aBinI_geq aBinI_eql aBinI_neq index_str len_str len_slice Nat.beq_refl Nat.beq_refl
  opBox opLoad opFieldAddr opIndexAddr acells aAddr opExtract aExtract opUnOp opAlloc opStore opMakeInterface opNilCheck opBuild aParts opBuildSlice aValW
attribute [local simp] und2 und3 und4 und5 und9 und12 und13 und21 und22 und23 und24 und26 und27 und28 und30 und31 und34 und40 und43 und48 und49 und50 und54 und70 und71 und72 und79 und81 und86 und88 und89 und94 und99 und108 und109 und110 und118 und119 und120 und121 und123 und134 und143 und144 und145 und146 und148 und149 und150 und153 und154 und155 und157 und165 und167 und168 und178 und179 und187 und188 und189 und190 und191 und192 und193 und199 und214 und218 field13_0 field13_1 field23_0 field23_1 field24_0 field24_1 field27_0 field27_1 field28_0 field28_1 field49_0 field49_1 field49_2 field50_0 field50_1 field50_2 field70_0 field70_1 field70_2 field71_0 field71_1 field71_2 field72_0 field72_1 field72_2 field108_0 field108_1 field108_2 field109_0 field109_1 field109_2 field120_0 field120_1 field121_0 field121_1 field145_0 field145_1 field145_2 field146_0 field146_1 field146_2 field154_0 field154_1 field155_0 field155_1 field178_0 field178_1 field178_2 field178_3 field179_0 field179_1 field179_2 field179_3 field188_0 field188_1 field189_0 field189_1
set_option maxHeartbeats 4000000
set_option linter.unusedSimpArgs false
set_option linter.unusedVariables false
theorem refState_wp {W : AW} {n : Nat} {v : Value} (hn : n ≤ 64) (hv : ∃ A l c, v = .slice A l c) (p : Int) : WpF T0 58 [.agg ⟨[.int .i64 (n : Int), v]⟩, .int .i64 p] W (fun u W' => Ext W W' ∧ u = .int .i64 (if 0 ≤ p ∧ p < n then 0 else 1)) := by
  refine wpF fun58 rfl ?_
  obtain ⟨W1, hW1, hE1, hV⟩ : ∃ W1, W1 = W.newCells 24 [.int .i64 (n : Int), v] ∧ Ext W W1 ∧ Var W1 W.next 24 [.int .i64 (n : Int), v] := ⟨_, rfl, .newCells _ _ _, Var.new _ _ _⟩
  have l0 := hV.load1 (T := T0) und3 rfl (j := 0) (v := .int .i64 (n : Int)) rfl
  try simp only [wpK_assoc]
  refine wpK_reg (fun R hR => by simp [← hW1]; exact hR) ?_
  by_cases h0 : p < 0
  · rw [if_neg (by omega)]
    try simp only [wpK_assoc]
    refine wpK_reg (fun R hR => by simp [l0, h0, undef]; exact hR) ?_
    try simp only [wpK_assoc]
    first | refine wpK_onT (by simp []) ?_ | refine wpK_outT (by simp []) ?_ | refine wpK_condT (by simp []) ?_ | refine wpK_endT (by simp []) ?_
    try simp only [wpK_assoc]
    refine wpK_reg (fun R hR => by simp []; exact hR) ?_
    exact wpK_ret ⟨.inr rfl, rfl, [.int .i64 1], by simp, hE1, rfl⟩
  · by_cases h1 : p < n
    · have h1' : ¬ (n : Int) ≤ p := by omega
      rw [if_pos (by omega)]
      try simp only [wpK_assoc]
      refine wpK_reg (fun R hR => by simp [l0, h0, h1']; exact hR) ?_
      try simp only [wpK_assoc]
      first | refine wpK_onF (by simp [h0, h1']) ?_ | refine wpK_out (by simp [h0, h1']) ?_ | refine wpK_condF (by simp [h0, h1']) ?_ | refine wpK_endF (by simp [h0, h1']) (wpK_skip ?_) | refine wpK_endF (by simp [h0, h1']) ?_
      try simp only [wpK_assoc]
      refine wpK_reg (fun R hR => by simp []; exact hR) ?_
      exact wpK_ret ⟨.inr rfl, rfl, [.int .i64 0], by simp, hE1, rfl⟩
    · have h1' : (n : Int) ≤ p := by omega
      rw [if_neg (by omega)]
      try simp only [wpK_assoc]
      refine wpK_reg (fun R hR => by simp [l0, h0, h1']; exact hR) ?_
      try simp only [wpK_assoc]
      first | refine wpK_onT (by simp [h0, h1']) ?_ | refine wpK_outT (by simp [h0, h1']) ?_ | refine wpK_condT (by simp [h0, h1']) ?_ | refine wpK_endT (by simp [h0, h1']) ?_
      try simp only [wpK_assoc]
      refine wpK_reg (fun R hR => by simp []; exact hR) ?_
      exact wpK_ret ⟨.inr rfl, rfl, [.int .i64 1], by simp, hE1, rfl⟩
end Go.Proofs.YtfnigiojgbeklaaDoor

open Go Go.Eng
namespace Go.Proofs.YtfnigiojgbeklaaDoor
attribute [local congr] undef_congr WpK.congr WpS.congr WpL.congr WpC.congr WpF.congr gotS.congr callS.congr nextS.congr wantS.congr condS.congr
attribute [local irreducible] WpK
attribute [local simp] WpDr_nil WpDr_cons atS_some dwantS_true dwantS_false kindS_light kindS_float kindS_heavy lightS_value floatS_some heavyS_value heavyS_skip heavyS_enter dcallS_some doneS_eq
  isLight isFloat isPlain dLook testBit_dec dChain dLights_nil dLights_skip dLights_one dLight_nil dLight_cons dFreshes_nil dFreshes_one oneF_none oneF_some dFresh_nil dFresh_cons oneL_some oneW_true oneW_false sameV_value dPut dMay valEq arrEq listEq List.getElem?_cons Tr.get_nil dEnd
attribute [local simp] WpS_nil WpS_cons isDefer undef_false wantS_true wantS_false nextS_value nextS_skip nextS_enter callS_some gotS_some aWanted aOp aEvalF aEval opMove opAssign opPick aVal flat flat1 AAct.put opBinOp opConvert opIndex Tr.get_set Tr.get_lay aBin aResults tupled
  aCall aVals aCallB blt_dec ble_dec beq_dec aBinI_add aBinI_sub aBinI_lss aBinI_leq aBinI_gtr aBinI_geq aBinI_eql aBinI_neq index_str len_str len_slice Nat.beq_refl Nat.beq_refl
  opBox opLoad opFieldAddr opIndexAddr acells aAddr opExtract aExtract opUnOp opAlloc opStore opMakeInterface opNilCheck opBuild aParts opBuildSlice aValW
attribute [local simp] und2 und3 und4 und5 und9 und12 und13 und21 und22 und23 und24 und26 und27 und28 und30 und31 und34 und40 und43 und48 und49 und50 und54 und70 und71 und72 und79 und81 und86 und88 und89 und94 und99 und108 und109 und110 und118 und119 und120 und121 und123 und134 und143 und144 und145 und146 und148 und149 und150 und153 und154 und155 und157 und165 und167 und168 und178 und179 und187 und188 und189 und190 und191 und192 und193 und199 und214 und218 field13_0 field13_1 field23_0 field23_1 field24_0 field24_1 field27_0 field27_1 field28_0 field28_1 field49_0 field49_1 field49_2 field50_0 field50_1 field50_2 field70_0 field70_1 field70_2 field71_0 field71_1 field71_2 field72_0 field72_1 field72_2 field108_0 field108_1 field108_2 field109_0 field109_1 field109_2 field120_0 field120_1 field121_0 field121_1 field145_0 field145_1 field145_2 field146_0 field146_1 field146_2 field154_0 field154_1 field155_0 field155_1 field178_0 field178_1 field178_2 field178_3 field179_0 field179_1 field179_2 field179_3 field188_0 field188_1 field189_0 field189_1
set_option maxHeartbeats 4000000
set_option linter.unusedSimpArgs false
set_option linter.unusedVariables false
theorem sets_put {W : AW} {b : Nat} {g : Nat → Nat} (h : SetsAt W b g) {j : Nat} (hj : j < 64) (x : Nat) : ∃ W', aStoreVar T0 W 89 b j (.int .u64 (x : Nat)) = some W' ∧ W'.next = W.next ∧ Only (fun c => c = b) W W' ∧ SetsAt W' b (fun i => if i = j then x else g i) := by
  obtain ⟨W', g1, g2, g3, g4⟩ := h.store (T := T0) (t := 89) (v := .int .u64 (x : Nat)) (o := j) inf89 (by rw [is89]; rfl) (by rw [setsL_len]; show j + 1 ≤ 64; omega) rfl
  refine ⟨W', g1, g2, g3, ?_⟩
  have e : (setsL g).take j ++ acells (.int .u64 (x : Nat)) ++ (setsL g).drop (j + (acells (.int .u64 (x : Nat))).length) = (setsL g).set j (.int .u64 (x : Nat)) := by
    rw [List.set_eq_take_append_cons_drop, if_pos (by rw [setsL_len]; omega)]
    simp [acells]
  rw [e, setsL_set] at g4; exact g4
theorem zero118' : aZero T0 118 = some (.agg ⟨setsL (fun _ => 0)⟩) := by kernel_rfl
abbrev PairR (W : AW) (v : Value) (l : List (Int × Int)) : Prop := RowIn 2 encP W v l
theorem pair_load {W : AW} {v : Value} {l : List (Int × Int)} (h : PairR W v l) {i : Nat} {x y : Int} (hi : l[i]? = some (x, y)) : ∃ b o, aIndexAddr T0 34 v (.int .i64 (i : Int)) = some (.pointer (some ⟨b, o, none⟩)) ∧ aLoadVar T0 W 40 b o = some (.agg ⟨[.int .i64 x, .int .i64 y]⟩) ∧
    aLoadVar T0 W 3 b o = some (.int .i64 x) ∧ aLoadVar T0 W 3 b (o + 1) = some (.int .i64 y) := by
  obtain ⟨b, o, h1, h2⟩ := h.at (T := T0) hi und34 sz40 .i64
  exact ⟨b, o, h1, load_cells (T := T0) und40 rfl inf40 (by rw [is40]; rfl) (Nat.succ_pos _) h2, load_of und3 rfl (h2 0 (.int .i64 x) rfl), load_of und3 rfl (h2 1 (.int .i64 y) rfl)⟩
def relOf (n : Nat) (l : List (Int × Int)) (p q : Nat) : Prop := (p = q ∧ p < n) ∨ ((p : Int), (q : Int)) ∈ l
def InR (n : Nat) (l : List (Int × Int)) : Prop := ∀ x ∈ l, (0 ≤ x.1 ∧ x.1 < n) ∧ (0 ≤ x.2 ∧ x.2 < n)
def LikeP (n : Nat) (ss : List Tri) (l : List (Int × Int)) : Prop := InR n l ∧ ∀ p q, p < n → q < n → relOf n l p q →
  (∀ a t : Nat, ((p : Int), (a : Int), (t : Int)) ∈ ss → ∃ t' : Nat, ((q : Int), (a : Int), (t' : Int)) ∈ ss ∧ relOf n l t t') ∧
  (∀ a t : Nat, ((q : Int), (a : Int), (t : Int)) ∈ ss → ∃ t' : Nat, ((p : Int), (a : Int), (t' : Int)) ∈ ss ∧ relOf n l t' t)
structure SetsOf (n : Nat) (R : Nat → Nat → Prop) (g : Nat → Nat) : Prop where
  bit : ∀ p q, (g p).testBit q = true ↔ R p q
  lt : ∀ p, g p < 2 ^ n
theorem and_ne {x y : Nat} : x &&& y ≠ 0 ↔ ∃ t, x.testBit t = true ∧ y.testBit t = true := by
  constructor
  · intro h
    obtain ⟨k, h1, _⟩ := low_ex h
    rw [Nat.testBit_and, Bool.and_eq_true] at h1
    exact ⟨k, h1⟩
  · rintro ⟨t, h1, h2⟩ h
    have : (x &&& y).testBit t = true := by rw [Nat.testBit_and, h1, h2]; rfl
    rw [h] at this; simp at this
theorem SetsOf.add {n : Nat} {R : Nat → Nat → Prop} {g : Nat → Nat} (h : SetsOf n R g) {x y : Nat} (hy : y < n) : SetsOf n (fun p q => R p q ∨ (p = x ∧ q = y)) (fun i => if i = x then g x ||| 1 <<< y else g i) := by
  refine ⟨fun p q => ?_, fun p => ?_⟩
  · by_cases e : p = x
    · subst e
      simp only [if_true, Nat.testBit_or, bit_one, Bool.or_eq_true, h.bit, decide_eq_true_eq]
      constructor
      · rintro (h | h)
        · exact .inl h
        · exact .inr (by simp [h])
      · rintro (h | h)
        · exact .inl h
        · exact .inr h.2.symm
    · simp only [if_neg e, h.bit]
      constructor
      · exact .inl
      · rintro (h | h)
        · exact h
        · exact absurd h.1 e
  · by_cases e : p = x
    · simp only [if_pos e]; exact or_ltp (h.lt x) hy
    · simp only [if_neg e]; exact h.lt p
theorem SetsOf.congr {n : Nat} {R R' : Nat → Nat → Prop} {g : Nat → Nat} (h : SetsOf n R g) (hr : ∀ p q, R p q ↔ R' p q) : SetsOf n R' g := ⟨fun p q => (h.bit p q).trans (hr p q), h.lt⟩
end Go.Proofs.YtfnigiojgbeklaaDoor

open Go Go.Eng
namespace Go.Proofs.YtfnigiojgbeklaaDoor
attribute [local congr] undef_congr WpK.congr WpS.congr WpL.congr WpC.congr WpF.congr gotS.congr callS.congr nextS.congr wantS.congr condS.congr
attribute [local irreducible] WpK
attribute [local simp] WpDr_nil WpDr_cons atS_some dwantS_true dwantS_false kindS_light kindS_float kindS_heavy lightS_value floatS_some heavyS_value heavyS_skip heavyS_enter dcallS_some doneS_eq
  isLight isFloat isPlain dLook testBit_dec dChain dLights_nil dLights_skip dLights_one dLight_nil dLight_cons dFreshes_nil dFreshes_one oneF_none oneF_some dFresh_nil dFresh_cons oneL_some oneW_true oneW_false sameV_value dPut dMay valEq arrEq listEq List.getElem?_cons Tr.get_nil dEnd
attribute [local simp] WpS_nil WpS_cons isDefer undef_false wantS_true wantS_false nextS_value nextS_skip nextS_enter callS_some gotS_some aWanted aOp aEvalF aEval opMove opAssign opPick aVal flat flat1 AAct.put opBinOp opConvert opIndex Tr.get_set Tr.get_lay aBin aResults tupled
  aCall aVals aCallB blt_dec ble_dec beq_dec aBinI_add aBinI_sub aBinI_lss aBinI_leq aBinI_gtr aBinI_geq aBinI_eql aBinI_neq index_str len_str len_slice Nat.beq_refl Nat.beq_refl
  opBox opLoad opFieldAddr opIndexAddr acells aAddr opExtract aExtract opUnOp opAlloc opStore opMakeInterface opNilCheck opBuild aParts opBuildSlice aValW
attribute [local simp] und2 und3 und4 und5 und9 und12 und13 und21 und22 und23 und24 und26 und27 und28 und30 und31 und34 und40 und43 und48 und49 und50 und54 und70 und71 und72 und79 und81 und86 und88 und89 und94 und99 und108 und109 und110 und118 und119 und120 und121 und123 und134 und143 und144 und145 und146 und148 und149 und150 und153 und154 und155 und157 und165 und167 und168 und178 und179 und187 und188 und189 und190 und191 und192 und193 und199 und214 und218 field13_0 field13_1 field23_0 field23_1 field24_0 field24_1 field27_0 field27_1 field28_0 field28_1 field49_0 field49_1 field49_2 field50_0 field50_1 field50_2 field70_0 field70_1 field70_2 field71_0 field71_1 field71_2 field72_0 field72_1 field72_2 field108_0 field108_1 field108_2 field109_0 field109_1 field109_2 field120_0 field120_1 field121_0 field121_1 field145_0 field145_1 field145_2 field146_0 field146_1 field146_2 field154_0 field154_1 field155_0 field155_1 field178_0 field178_1 field178_2 field178_3 field179_0 field179_1 field179_2 field179_3 field188_0 field188_1 field189_0 field189_1
set_option maxHeartbeats 4000000
set_option linter.unusedSimpArgs false
set_option linter.unusedVariables false
theorem ansB_iff {n L : Nat} {ss os : List Tri} (hg : GoodS n L ss) (hgo : GoodS n L os) (r : Nat → Nat → Bool) (p q : Nat) : ansB r p q ss os = true ↔ ∀ a t : Nat, ((p : Int), (a : Int), (t : Int)) ∈ ss → ∃ t' : Nat, ((q : Int), (a : Int), (t' : Int)) ∈ os ∧ r t t' = true := by
  simp only [ansB, List.all_eq_true, Bool.or_eq_true, Bool.not_eq_true', decide_eq_false_iff_not, ans1, List.any_eq_true, Bool.and_eq_true, decide_eq_true_eq]
  constructor
  · intro h a t hm
    rcases h _ hm with h | ⟨⟨y1, y2, y3⟩, hy, h1, h2, h3⟩
    · exact absurd rfl h
    · simp only at h1 h2 h3
      subst h1; subst h2
      have := (hgo _ hy).2.2.2.2.1
      simp only at this
      refine ⟨y3.toNat, ?_, by simpa using h3⟩
      rw [show ((y3.toNat : Nat) : Int) = y3 from by omega]; exact hy
  · rintro h ⟨x1, x2, x3⟩ hx
    by_cases e : x1 = (p : Int)
    · right
      subst e
      have hgx := hg _ hx
      simp only at hgx
      obtain ⟨t', h1, h2⟩ := h x2.toNat x3.toNat (by rw [show ((x2.toNat : Nat) : Int) = x2 from by omega, show ((x3.toNat : Nat) : Int) = x3 from by omega]; exact hx)
      rw [show ((x2.toNat : Nat) : Int) = x2 from by omega] at h1
      exact ⟨_, h1, rfl, rfl, by simpa using h2⟩
    · left; exact e
end Go.Proofs.YtfnigiojgbeklaaDoor

open Go Go.Eng
namespace Go.Proofs.YtfnigiojgbeklaaDoor
attribute [local congr] undef_congr WpK.congr WpS.congr WpL.congr WpC.congr WpF.congr gotS.congr callS.congr nextS.congr wantS.congr condS.congr
attribute [local irreducible] WpK
attribute [local simp] WpDr_nil WpDr_cons atS_some dwantS_true dwantS_false kindS_light kindS_float kindS_heavy lightS_value floatS_some heavyS_value heavyS_skip heavyS_enter dcallS_some doneS_eq
  isLight isFloat isPlain dLook testBit_dec dChain dLights_nil dLights_skip dLights_one dLight_nil dLight_cons dFreshes_nil dFreshes_one oneF_none oneF_some dFresh_nil dFresh_cons oneL_some oneW_true oneW_false sameV_value dPut dMay valEq arrEq listEq List.getElem?_cons Tr.get_nil dEnd
attribute [local simp] WpS_nil WpS_cons isDefer undef_false wantS_true wantS_false nextS_value nextS_skip nextS_enter callS_some gotS_some aWanted aOp aEvalF aEval opMove opAssign opPick aVal flat flat1 AAct.put opBinOp opConvert opIndex Tr.get_set Tr.get_lay aBin aResults tupled
  aCall aVals aCallB blt_dec ble_dec beq_dec aBinI_add aBinI_sub aBinI_lss aBinI_leq aBinI_gtr aBinI_geq aBinI_eql aBinI_neq index_str len_str len_slice Nat.beq_refl Nat.beq_refl
  opBox opLoad opFieldAddr opIndexAddr acells aAddr opExtract aExtract opUnOp opAlloc opStore opMakeInterface opNilCheck opBuild aParts opBuildSlice aValW
attribute [local simp] und2 und3 und4 und5 und9 und12 und13 und21 und22 und23 und24 und26 und27 und28 und30 und31 und34 und40 und43 und48 und49 und50 und54 und70 und71 und72 und79 und81 und86 und88 und89 und94 und99 und108 und109 und110 und118 und119 und120 und121 und123 und134 und143 und144 und145 und146 und148 und149 und150 und153 und154 und155 und157 und165 und167 und168 und178 und179 und187 und188 und189 und190 und191 und192 und193 und199 und214 und218 field13_0 field13_1 field23_0 field23_1 field24_0 field24_1 field27_0 field27_1 field28_0 field28_1 field49_0 field49_1 field49_2 field50_0 field50_1 field50_2 field70_0 field70_1 field70_2 field71_0 field71_1 field71_2 field72_0 field72_1 field72_2 field108_0 field108_1 field108_2 field109_0 field109_1 field109_2 field120_0 field120_1 field121_0 field121_1 field145_0 field145_1 field145_2 field146_0 field146_1 field146_2 field154_0 field154_1 field155_0 field155_1 field178_0 field178_1 field178_2 field178_3 field179_0 field179_1 field179_2 field179_3 field188_0 field188_1 field189_0 field189_1
set_option maxHeartbeats 4000000
set_option linter.unusedSimpArgs false
set_option linter.unusedVariables false
def stepG (ss os : List Tri) (both : Bool) (r : Nat → Nat → Bool) : Nat → Nat → Bool := fun p q => r p q && (ansB r p q ss os && (!both || ansB (fun i j => r j i) q p ss os))
def itG (ss os : List Tri) (both : Bool) : Nat → Nat → Nat → Bool
  | 0 => fun _ _ => true
  | d + 1 => stepG ss os both (itG ss os both d)
def prs (n : Nat) : List (Nat × Nat) := (List.range n).flatMap fun p => (List.range n).map fun q => (p, q)
theorem prs_mem {n p q : Nat} : (p, q) ∈ prs n ↔ p < n ∧ q < n := by
  simp only [prs, List.mem_flatMap, List.mem_range, List.mem_map, Prod.mk.injEq]
  constructor
  · rintro ⟨a, h1, b, h2, rfl, rfl⟩; exact ⟨h1, h2⟩
  · rintro ⟨h1, h2⟩; exact ⟨p, h1, q, h2, rfl, rfl⟩
def cntR (n : Nat) (r : Nat → Nat → Bool) : Nat := (prs n).countP fun x => r x.1 x.2
theorem countP_less {α : Type} {f g : α → Bool} : ∀ {l : List α}, (∀ x ∈ l, f x = true → g x = true) → (∃ x ∈ l, f x = false ∧ g x = true) → l.countP f < l.countP g
  | [], _, h => by obtain ⟨x, h, _⟩ := h; cases h
  | a :: l, h1, h2 => by
    have hle : l.countP f ≤ l.countP g := List.countP_mono_left (fun x hx => h1 x (List.mem_cons_of_mem _ hx))
    simp only [List.countP_cons]
    obtain ⟨x, hx, h3, h4⟩ := h2
    cases hx with
    | head => rw [h3, h4]; simp; omega
    | tail _ hx =>
      have := countP_less (fun x hx => h1 x (List.mem_cons_of_mem _ hx)) ⟨x, hx, h3, h4⟩
      cases hf : f a with
      | false => split <;> simp_all <;> omega
      | true => rw [h1 a (List.mem_cons_self ..) hf]; simp; omega
theorem cntR_less {n : Nat} {ss os : List Tri} {both : Bool} {r : Nat → Nat → Bool} (h : ∃ p q, p < n ∧ q < n ∧ stepG ss os both r p q ≠ r p q) : cntR n (stepG ss os both r) < cntR n r := by
  refine countP_less (fun x _ hx => ?_) ?_
  · simp only [stepG, Bool.and_eq_true] at hx; exact hx.1
  · obtain ⟨p, q, h1, h2, h3⟩ := h
    refine ⟨(p, q), prs_mem.2 ⟨h1, h2⟩, ?_⟩
    simp only
    cases hr : r p q with
    | false => exact absurd (by rw [hr]; simp [stepG, hr]) h3
    | true =>
      rw [hr] at h3
      cases hs : stepG ss os both r p q with
      | false => exact ⟨rfl, rfl⟩
      | true => exact absurd hs h3
theorem bs94 (W : AW) (b n : Nat) : aBuildSlice T0 W 94 1 [(0, rowV b n)] = some (.slice (some ⟨W.next, 0, none⟩) 1 2, W.newCells 79 [rowV b n]) := by
  have h : aBuildSlice T0 W 94 1 [(0, .slice (some ⟨b, 0, none⟩) n (2 * n))] = some (.slice (some ⟨W.next, 0, none⟩) 1 2, W.newCells 79 [.slice (some ⟨b, 0, none⟩) n (2 * n)]) := by
    generalize 2 * n = c
    kernel_rfl
  exact h
structure Rnds (W W0 : AW) (v : Value) (n k : Nat) (R : Nat → Nat → Nat → Bool) (K : Nat → Prop) : Prop where
  row : ∃ us, us.length = k + 1 ∧ HeldN W v (k + 1) us 79 1 K ∧ ∀ d, d ≤ k → ∃ x, us[d]? = some x ∧ BMat W x n (R d) (fun b => W0.next ≤ b ∧ ¬ K b)
  low : ∀ b, K b → W0.next ≤ b
  up : ∀ b, K b → b < W.next
theorem Rnds.only {W W' W0 : AW} {v : Value} {n k : Nat} {R : Nat → Nat → Nat → Bool} {K K' : Nat → Prop} (h : Rnds W W0 v n k R K) (he : Only K' W W') (hk : ∀ b, b < W.next → W0.next ≤ b → ¬ K' b) : Rnds W' W0 v n k R K := by
  obtain ⟨⟨us, h1, h2, h3⟩, h4, hup⟩ := h
  refine ⟨⟨us, h1, h2.only he (fun b hb hK => hk b hb (h4 b hK)), fun d hd => ?_⟩, h4, fun b hb => Nat.lt_of_lt_of_le (hup b hb) he.1⟩
  obtain ⟨x, g1, g2⟩ := h3 d hd
  exact ⟨x, g1, g2.only he (fun b hb hK => hk b hb hK.1)⟩
theorem Rnds.ext {W W' W0 : AW} {v : Value} {n k : Nat} {R : Nat → Nat → Nat → Bool} {K : Nat → Prop} (h : Rnds W W0 v n k R K) (he : Ext W W') : Rnds W' W0 v n k R K := h.only he (fun _ _ _ x => x)
theorem Rnds.len {W W0 : AW} {v : Value} {n k : Nat} {R : Nat → Nat → Nat → Bool} {K : Nat → Prop} (h : Rnds W W0 v n k R K) : ∃ A c, v = .slice A (k + 1) c := by
  obtain ⟨⟨us, h1, h2, h3⟩, h4, hup⟩ := h
  obtain ⟨b, c, h, _⟩ := h2.has (by omega)
  exact ⟨_, _, h⟩
theorem Rnds.at {W W0 : AW} {v : Value} {n k : Nat} {R : Nat → Nat → Nat → Bool} {K : Nat → Prop} (h : Rnds W W0 v n k R K) {d : Nat} (hd : d ≤ k) : ∃ b o x, aIndexAddr T0 94 v (.int .i64 (d : Int)) = some (.pointer (some ⟨b, o, none⟩)) ∧ aLoadVar T0 W 79 b o = some x ∧ BMat W x n (R d) (fun b => W0.next ≤ b ∧ ¬ K b) := by
  obtain ⟨⟨us, h1, h2, h3⟩, h4, hup⟩ := h
  obtain ⟨x, g1, g2⟩ := h3 d hd
  obtain ⟨b, c, rfl, _, _, h5⟩ := h2.has (by omega)
  refine ⟨b, d, x, ?_, load_of und79 rfl (h5 d x g1), g2⟩
  have := indexAddr_slice (T := T0) (t := 94) (e := 79) (sz := 1) und94 sz79 (b := b) (o := 0) (len := k + 1) (c := c) (i := d) (k := .i64) (by omega)
  rw [Nat.zero_add, Nat.mul_one] at this; exact this
theorem Rnds.push {W W0 : AW} {v x : Value} {n k : Nat} {R : Nat → Nat → Nat → Bool} {K : Nat → Prop} (h : Rnds W W0 v n k R K) (hk : k < 100000) (h0 : W0.next ≤ W.next) (hx : BMat W x n (R (k + 1)) (fun b => W0.next ≤ b ∧ ¬ K b)) :
    ∃ v' W', aAppend T0 (W.newCells 79 [x]) [94, 94] [v, .slice (some ⟨W.next, 0, none⟩) 1 2] = some (v', W') ∧ Only K W W' ∧ Rnds W' W0 v' n (k + 1) R (fun b => K b ∨ b = W.next + 1) := by
  obtain ⟨⟨us, h1, h2, h3⟩, h4, hup⟩ := h
  have hE : Ext W (W.newCells 79 [x]) := .newCells _ _ _
  obtain ⟨m, f, rfl, hM, _⟩ := hx
  obtain ⟨v', W', a1, a2, a3, a4⟩ := append_heldN (T := T0) (W := W.newCells 79 [rowV m n]) (t := 94) (el := 79) (i := Tryd.t79) (sz := 1) (by omega) und94 inf79 is79 z79 rfl (h2.only hE (fun _ _ _ y => y)) (bx := W.next) (c := 2) (u := [rowV m n]) rfl ((Var.new W 79 [rowV m n]).cellsAt 0 1 (by simp)) rfl (by rw [by79]; omega) (by omega)
  refine ⟨v', W', a1, ⟨by have := a4.1; rw [newCells_next] at this; omega, fun b hb hk => by rw [a4.2 b (by rw [newCells_next]; omega) hk, hE.2 b hb (fun y => y)]⟩, ⟨us ++ [rowV m n], by simp [h1], a3, fun d hd => ?_⟩, fun b hb => ?_, fun b hb => ?_⟩
  · have bm : ∀ {x : Value} {r : Nat → Nat → Bool}, BMat W x n r (fun b => W0.next ≤ b ∧ ¬ K b) → BMat W' x n r (fun b => W0.next ≤ b ∧ ¬ (K b ∨ b = (W.newCells 79 [rowV m n]).next)) := fun hB => by
      obtain ⟨m', f', rfl, hM', k1, k2⟩ := hB
      have lt1 := hM'.outer.1
      have lt2 := fun i hi => (hM'.row i hi).1
      exact ⟨m', f', rfl, (hM'.ext hE).only a4 k1.2 (fun i hi => (k2 i hi).2), ⟨k1.1, fun hh => hh.elim k1.2 (fun e => by rw [newCells_next] at e; omega)⟩, fun i hi => ⟨(k2 i hi).1, fun hh => hh.elim (k2 i hi).2 (fun e => by rw [newCells_next] at e; have := lt2 i hi; omega)⟩⟩
    by_cases e : d = k + 1
    · subst e
      refine ⟨rowV m n, by rw [List.getElem?_append_right (by omega), h1]; simp, bm ⟨m, f, rfl, hM, ?_⟩⟩
      rename_i hx; exact hx
    · obtain ⟨x, g1, g2⟩ := h3 d (by omega)
      exact ⟨x, by rw [List.getElem?_append_left (by omega)]; exact g1, bm g2⟩
  · rcases hb with hb | hb
    · exact h4 b hb
    · omega
  · rw [newCells_next] at a2
    rcases hb with hb | hb
    · have := hup b hb; omega
    · omega
end Go.Proofs.YtfnigiojgbeklaaDoor

open Go Go.Eng
namespace Go.Proofs.YtfnigiojgbeklaaDoor
attribute [local congr] undef_congr WpK.congr WpS.congr WpL.congr WpC.congr WpF.congr gotS.congr callS.congr nextS.congr wantS.congr condS.congr
attribute [local irreducible] WpK
attribute [local simp] WpDr_nil WpDr_cons atS_some dwantS_true dwantS_false kindS_light kindS_float kindS_heavy lightS_value floatS_some heavyS_value heavyS_skip heavyS_enter dcallS_some doneS_eq
  isLight isFloat isPlain dLook testBit_dec dChain dLights_nil dLights_skip dLights_one dLight_nil dLight_cons dFreshes_nil dFreshes_one oneF_none oneF_some dFresh_nil dFresh_cons oneL_some oneW_true oneW_false sameV_value dPut dMay valEq arrEq listEq List.getElem?_cons Tr.get_nil dEnd
attribute [local simp] WpS_nil WpS_cons isDefer undef_false wantS_true wantS_false nextS_value nextS_skip nextS_enter callS_some gotS_some aWanted aOp aEvalF aEval opMove opAssign opPick aVal flat flat1 AAct.put opBinOp opConvert opIndex Tr.get_set Tr.get_lay aBin aResults tupled
  aCall aVals aCallB blt_dec ble_dec beq_dec aBinI_add aBinI_sub aBinI_lss aBinI_leq aBinI_gtr aBinI_geq aBinI_eql aBinI_neq index_str len_str len_slice Nat.beq_refl Nat.beq_refl
  opBox opLoad opFieldAddr opIndexAddr acells aAddr opExtract aExtract opUnOp opAlloc opStore opMakeInterface opNilCheck opBuild aParts opBuildSlice aValW
attribute [local simp] und2 und3 und4 und5 und9 und12 und13 und21 und22 und23 und24 und26 und27 und28 und30 und31 und34 und40 und43 und48 und49 und50 und54 und70 und71 und72 und79 und81 und86 und88 und89 und94 und99 und108 und109 und110 und118 und119 und120 und121 und123 und134 und143 und144 und145 und146 und148 und149 und150 und153 und154 und155 und157 und165 und167 und168 und178 und179 und187 und188 und189 und190 und191 und192 und193 und199 und214 und218 field13_0 field13_1 field23_0 field23_1 field24_0 field24_1 field27_0 field27_1 field28_0 field28_1 field49_0 field49_1 field49_2 field50_0 field50_1 field50_2 field70_0 field70_1 field70_2 field71_0 field71_1 field71_2 field72_0 field72_1 field72_2 field108_0 field108_1 field108_2 field109_0 field109_1 field109_2 field120_0 field120_1 field121_0 field121_1 field145_0 field145_1 field145_2 field146_0 field146_1 field146_2 field154_0 field154_1 field155_0 field155_1 field178_0 field178_1 field178_2 field178_3 field179_0 field179_1 field179_2 field179_3 field188_0 field188_1 field189_0 field189_1
set_option maxHeartbeats 4000000
set_option linter.unusedSimpArgs false
set_option linter.unusedVariables false
theorem sum_const (n : Nat) : ∀ l : List Nat, (l.map fun _ => n).sum = l.length * n
  | [] => by simp
  | a :: l => by simp [sum_const n l, Nat.succ_mul, Nat.add_comm]
theorem prs_len (n : Nat) : (prs n).length = n * n := by
  simp only [prs, List.length_flatMap, List.length_map, List.length_range]
  rw [sum_const]; simp
open Classical in
theorem greatest_wp {W : AW} {sv ov : Value} {n L : Nat} {ss os : List Tri} (hs : StepR W sv ss) (ho : StepR W ov os) (hgs : GoodS n L ss) (hgo : GoodS n L os) (hls : ss.length < 1000000) (hlo : os.length < 1000000) (hn : n ≤ 64) (both : Bool) :
    WpF T0 42 [.int .i64 (n : Int), sv, ov, .bool both] W (fun u W' => Ext W W' ∧ ∃ k K, Rnds W' W u n k (itG ss os both) K ∧ k < 100000 ∧ (∀ p q, p < n → q < n → itG ss os both (k + 1) p q = itG ss os both k p q) ∧ ∀ d, d < k → ∃ p q, p < n ∧ q < n ∧ itG ss os both (d + 1) p q ≠ itG ss os both d p q) := by
  refine wpF fun42 rfl ?_
  have vs := row_eq hs
  have vo := row_eq ho
  try simp only [wpK_assoc]
  refine wpK_reg (fun R hR => by simp []; exact hR) ?_
  try simp only [wpK_assoc]
  refine wpK_x2 (P := fun (m bx : Nat) W1 => Ext W W1 ∧ ∃ K, Rnds W1 W (.slice (some ⟨bx, 0, none⟩) 1 2) n 0 (itG ss os both) K) (fun R hR => by
    simp [aEnter, fun44, short_other, aCallV]; rw [callS_none]
    refine (full_wp hn).mono ?_
    rintro _ Wf ⟨hEf, m, f, rfl, hM, hm, hf⟩
    have hP : Ext W (Wf.newCells 79 [rowV m n]) ∧ ∃ K, Rnds (Wf.newCells 79 [rowV m n]) W (.slice (some ⟨Wf.next, 0, none⟩) 1 2) n 0 (itG ss os both) K := by
      refine ⟨hEf.trans (.newCells _ _ _), fun b => b = Wf.next, ⟨[rowV m n], rfl, .inl ⟨rfl, Wf.next, Tr.nil.lay 0 [rowV m n], [], rfl, by omega, rfl, by rw [newCells_next]; omega, by rw [newCells_get, if_pos rfl], fun i hi => by rw [Tr.get_lay, if_pos (by omega)]; simp, by simp⟩, fun d hd => ?_⟩, fun b hb => by have := hEf.1; omega, fun b hb => by rw [newCells_next]; omega⟩
      obtain rfl : d = 0 := by omega
      have lt1 := hM.outer.1
      have lt2 := fun i hi => (hM.row i hi).1
      exact ⟨rowV m n, rfl, m, f, rfl, hM.ext (.newCells _ _ _), ⟨hm, by omega⟩, fun i hi => ⟨hf i hi, by have := lt2 i hi; omega⟩⟩
    have hb := bs94 Wf m n
    generalize Wf.next = bx at hP hb
    generalize Wf.newCells 79 [rowV m n] = W1 at hP hb
    simp [hb]
    exact hR m bx W1 hP) ?_
  rintro m0 bx W1 ⟨hE1, K0, hR0⟩
  try simp only [wpK_assoc]
  refine wpK_while1 (I := fun q A' W' => A'.n = 95 ∧ A'.defers = [] ∧ A'.tmps.get 0 = some (.int .i64 (n : Int)) ∧ A'.tmps.get 1 = some (sv) ∧ A'.tmps.get 2 = some (ov) ∧ A'.tmps.get 3 = some (.bool both) ∧ Ext W W' ∧ ∃ (k : Nat) (v : Value) (K : Nat → Prop), A'.tmps.get 9 = some v ∧ Rnds W' W v n k (itG ss os both) K ∧ q = cntR n (itG ss os both k) ∧ k + q ≤ cntR n (itG ss os both 0) ∧ ∀ d, d < k → ∃ p q, p < n ∧ q < n ∧ itG ss os both (d + 1) p q ≠ itG ss os both d p q)
    (J := fun _ _ => False) (Rt := fun A' W' => A'.defers = [] ∧ Ext W W' ∧ ∃ (k : Nat) (v : Value) (K : Nat → Prop), A'.tmps.get 8 = some v ∧ Rnds W' W v n k (itG ss os both) K ∧ k < 100000 ∧ (∀ p q, p < n → q < n → itG ss os both (k + 1) p q = itG ss os both k p q) ∧ ∀ d, d < k → ∃ p q, p < n ∧ q < n ∧ itG ss os both (d + 1) p q ≠ itG ss os both d p q)
    (k := cntR n (itG ss os both 0)) ?_ ?_ ?_ ?_
  · exact ⟨rfl, rfl, by simp, by simp, by simp, by simp, hE1, 0, _, K0, by simp, hR0, rfl, by omega, fun d hd => by omega⟩
  · rintro q ⟨tm, n, ds⟩ Wa ⟨hn, hd, h0, h1, h2, h3, hEa, k, v, K, h9, hRn, hq, hkq, hdiff⟩ Q' hJ hRt hI
    simp only at hn hd h0 h1 h2 h3
    subst hn; subst hd
    simp only at h9
    have hk5 : k < 100000 := by
      have h1 : cntR n (itG ss os both 0) ≤ (prs n).length := List.countP_le_length
      have h2 : (prs n).length = n * n := prs_len n
      have h3 : n * n ≤ 64 * 64 := Nat.mul_le_mul hn hn
      omega
    obtain ⟨Ar, cr, hv⟩ := hRn.len
    have ll : aLen T0 Wa 94 v = some (.int .i64 ((k + 1 : Nat) : Int)) := by rw [hv]; exact len_slice und94 _ _ _
    have w1 : IntKind.i64.wrap (k : Int) = (k : Int) := i64_in (by omega)
    obtain ⟨b, o, x, a1, a2, hB⟩ := hRn.at (d := k) (Nat.le_refl _)
    refine wpK_block1 ?_
    try simp only [wpK_assoc]
    refine wpK_reg (fun R hR => by simp [h9, ll, w1, a1, a2]; exact hR) ?_
    try simp only [wpK_assoc]
    refine wpK_x1 (P := fun y Wb => Ext Wa Wb ∧ BMat Wb y n (fun _ _ => true) (fun b => Wa.next ≤ b)) (fun R hR => by
      simp [h0, aEnter, fun44, short_other, aCallV]; rw [callS_none]
      refine (full_wp hn).mono ?_
      rintro y Wb hP
      simp; exact hR y Wb hP) ?_
    rintro y Wb ⟨hEb, hY⟩
    try simp only [wpK_assoc]
    refine wpK_reg (fun R hR => by simp []; exact hR) ?_
    try simp only [wpK_assoc]
    refine wpK_reg (fun R hR => by simp []; exact hR) ?_
    have hEWb := hEa.trans hEb
    have nab := hEb.1
    have nwa := hEa.1
    obtain ⟨ry, hry⟩ : ∃ r, r = itG ss os both k := ⟨_, rfl⟩
    rw [← hry] at hB
    have hBb := hB.ext hEb
    have hSb : StepR Wb sv ss := hs.ext hEWb
    have hOb : StepR Wb ov os := ho.ext hEWb
    obtain ⟨m, f, rfl, hMy, hmy, hfy⟩ := hY
    obtain ⟨mx, fx, hxe, hMx, hmx, hfx⟩ := hBb
    refine wpK_keep (fun tm' => tm'.get 0 = some (.int .i64 (n : Int)) ∧ tm'.get 1 = some (sv) ∧ tm'.get 2 = some (ov) ∧ tm'.get 3 = some (.bool both) ∧ tm'.get 9 = some (v) ∧ tm'.get 10 = some (x) ∧ tm'.get 11 = some (rowV m n) ∧ tm'.get 12 = some (.bool false) ∧ tm'.get 13 = some (.int .i64 0)) ⟨by simp [h0, h1, h2, h3, h9], by simp [h0, h1, h2, h3, h9], by simp [h0, h1, h2, h3, h9], by simp [h0, h1, h2, h3, h9], by simp [h0, h1, h2, h3, h9], by simp [h0, h1, h2, h3, h9], by simp [h0, h1, h2, h3, h9], by simp [h0, h1, h2, h3, h9], by simp [h0, h1, h2, h3, h9]⟩ ?_
    rintro tm ⟨h0, h1, h2, h3, h9, h10, h11, h12, h13⟩
    try simp only [wpK_assoc]
    refine wpK_while (I := fun c A' W' => A'.n = 95 ∧ A'.defers = [] ∧ A'.tmps.get 0 = some (.int .i64 (n : Int)) ∧ A'.tmps.get 1 = some (sv) ∧ A'.tmps.get 2 = some (ov) ∧ A'.tmps.get 3 = some (.bool both) ∧ A'.tmps.get 9 = some (v) ∧ A'.tmps.get 10 = some (x) ∧ A'.tmps.get 11 = some (rowV m n) ∧ Only (fun b => Wa.next ≤ b) Wb W' ∧ ∃ (i : Nat) (ch : Bool), A'.tmps.get 13 = some (.int .i64 (i : Int)) ∧ A'.tmps.get 12 = some (.bool ch) ∧ c = n - i ∧ i ≤ n ∧ PMat W' m n n f (fun p q => if p < i then stepG ss os both ry p q else true) ∧ (ch = true ↔ ∃ p q, p < i ∧ q < n ∧ stepG ss os both ry p q ≠ ry p q))
      (J := fun A' W' => A'.n = 95 ∧ A'.defers = [] ∧ A'.tmps.get 0 = some (.int .i64 (n : Int)) ∧ A'.tmps.get 1 = some (sv) ∧ A'.tmps.get 2 = some (ov) ∧ A'.tmps.get 3 = some (.bool both) ∧ A'.tmps.get 9 = some (v) ∧ A'.tmps.get 10 = some (x) ∧ A'.tmps.get 11 = some (rowV m n) ∧ Only (fun b => Wa.next ≤ b) Wb W' ∧ ∃ (ch : Bool), A'.tmps.get 12 = some (.bool ch) ∧ PMat W' m n n f (stepG ss os both ry) ∧ (ch = true ↔ ∃ p q, p < n ∧ q < n ∧ stepG ss os both ry p q ≠ ry p q))
      (Rt := fun _ _ => False) (k := n) ?_ ?_ ?_ ?_
    · exact ⟨rfl, rfl, by simp [h0, h1, h2, h3, h9, h10, h11], by simp [h0, h1, h2, h3, h9, h10, h11], by simp [h0, h1, h2, h3, h9, h10, h11], by simp [h0, h1, h2, h3, h9, h10, h11], by simp [h0, h1, h2, h3, h9, h10, h11], by simp [h0, h1, h2, h3, h9, h10, h11], by simp [h0, h1, h2, h3, h9, h10, h11], .refl _ _, 0, false, by simp [h13], by simp [h12], rfl, by omega, hMy.congr (fun i j _ _ => by simp), by simp⟩
    · rintro c ⟨tm, n, ds⟩ Wc ⟨hn, hd, h0, h1, h2, h3, h9, h10, h11, hOc, i, ch, h13, h12, hc, hil, hMc, hch⟩ Q2 hJ2 hRt2 hI2
      simp only at hn hd h0 h1 h2 h3 h9 h10 h11
      subst hn; subst hd
      simp only at h13 h12
      by_cases hlt : i < n
      case neg =>
        have e : i = n := by omega
        subst e
        try simp only [wpK_assoc]
        refine wpK_reg (fun R hR => by simp [h0, h13]; exact hR) ?_
        try simp only [wpK_assoc]
        first | refine wpK_onF (by simp []) ?_ | refine wpK_out (by simp []) ?_ | refine wpK_condF (by simp []) ?_ | refine wpK_endF (by simp []) (wpK_skip ?_) | refine wpK_endF (by simp []) ?_
        exact hJ2 _ _ ⟨rfl, rfl, by simp [h0, h1, h2, h3, h9, h10, h11], by simp [h0, h1, h2, h3, h9, h10, h11], by simp [h0, h1, h2, h3, h9, h10, h11], by simp [h0, h1, h2, h3, h9, h10, h11], by simp [h0, h1, h2, h3, h9, h10, h11], by simp [h0, h1, h2, h3, h9, h10, h11], by simp [h0, h1, h2, h3, h9, h10, h11], hOc, ch, by simp [h12], hMc.congr (fun p q hp hq => by simp only [if_pos hp]), hch⟩
      have hlt' : (i : Int) < n := by omega
      try simp only [wpK_assoc]
      refine wpK_reg (fun R hR => by simp [h0, h13, hlt']; exact hR) ?_
      try simp only [wpK_assoc]
      first | refine wpK_onT (by simp [hlt]) ?_ | refine wpK_outT (by simp [hlt]) ?_ | refine wpK_condT (by simp [hlt]) ?_ | refine wpK_endT (by simp [hlt]) ?_
      refine wpK_block ?_
      try simp only [wpK_assoc]
      refine wpK_reg (fun R hR => by simp []; exact hR) ?_
      refine wpK_keep (fun tm' => tm'.get 0 = some (.int .i64 (n : Int)) ∧ tm'.get 1 = some (sv) ∧ tm'.get 2 = some (ov) ∧ tm'.get 3 = some (.bool both) ∧ tm'.get 9 = some (v) ∧ tm'.get 10 = some (x) ∧ tm'.get 11 = some (rowV m n) ∧ tm'.get 12 = some (.bool ch) ∧ tm'.get 13 = some (.int .i64 (i : Int)) ∧ tm'.get 14 = some (.int .i64 0)) ⟨by simp [h0, h1, h2, h3, h9, h10, h11, h12, h13], by simp [h0, h1, h2, h3, h9, h10, h11, h12, h13], by simp [h0, h1, h2, h3, h9, h10, h11, h12, h13], by simp [h0, h1, h2, h3, h9, h10, h11, h12, h13], by simp [h0, h1, h2, h3, h9, h10, h11, h12, h13], by simp [h0, h1, h2, h3, h9, h10, h11, h12, h13], by simp [h0, h1, h2, h3, h9, h10, h11, h12, h13], by simp [h0, h1, h2, h3, h9, h10, h11, h12, h13], by simp [h0, h1, h2, h3, h9, h10, h11, h12, h13], by simp [h0, h1, h2, h3, h9, h10, h11, h12, h13]⟩ ?_
      rintro tm ⟨h0, h1, h2, h3, h9, h10, h11, h12, h13, h14⟩
      try simp only [wpK_assoc]
      refine wpK_while1 (I := fun c A' W' => A'.n = 95 ∧ A'.defers = [] ∧ A'.tmps.get 0 = some (.int .i64 (n : Int)) ∧ A'.tmps.get 1 = some (sv) ∧ A'.tmps.get 2 = some (ov) ∧ A'.tmps.get 3 = some (.bool both) ∧ A'.tmps.get 9 = some (v) ∧ A'.tmps.get 10 = some (x) ∧ A'.tmps.get 11 = some (rowV m n) ∧ A'.tmps.get 13 = some (.int .i64 (i : Int)) ∧ Only (fun b => Wa.next ≤ b) Wb W' ∧ ∃ (j : Nat) (ch : Bool), A'.tmps.get 14 = some (.int .i64 (j : Int)) ∧ A'.tmps.get 12 = some (.bool ch) ∧ c = n - j ∧ j ≤ n ∧ PMat W' m n n f (fun p q => if p < i ∨ (p = i ∧ q < j) then stepG ss os both ry p q else true) ∧ (ch = true ↔ ∃ p q, (p < i ∨ (p = i ∧ q < j)) ∧ q < n ∧ stepG ss os both ry p q ≠ ry p q))
        (J := fun A' W' => A'.n = 95 ∧ A'.defers = [] ∧ A'.tmps.get 0 = some (.int .i64 (n : Int)) ∧ A'.tmps.get 1 = some (sv) ∧ A'.tmps.get 2 = some (ov) ∧ A'.tmps.get 3 = some (.bool both) ∧ A'.tmps.get 9 = some (v) ∧ A'.tmps.get 10 = some (x) ∧ A'.tmps.get 11 = some (rowV m n) ∧ A'.tmps.get 13 = some (.int .i64 (i : Int)) ∧ Only (fun b => Wa.next ≤ b) Wb W' ∧ ∃ (ch : Bool), A'.tmps.get 12 = some (.bool ch) ∧ PMat W' m n n f (fun p q => if p < i + 1 then stepG ss os both ry p q else true) ∧ (ch = true ↔ ∃ p q, p < i + 1 ∧ q < n ∧ stepG ss os both ry p q ≠ ry p q))
        (Rt := fun _ _ => False) (k := n) ?_ ?_ ?_ ?_
      · refine ⟨rfl, rfl, by simp [h0, h1, h2, h3, h9, h10, h11, h13], by simp [h0, h1, h2, h3, h9, h10, h11, h13], by simp [h0, h1, h2, h3, h9, h10, h11, h13], by simp [h0, h1, h2, h3, h9, h10, h11, h13], by simp [h0, h1, h2, h3, h9, h10, h11, h13], by simp [h0, h1, h2, h3, h9, h10, h11, h13], by simp [h0, h1, h2, h3, h9, h10, h11, h13], by simp [h0, h1, h2, h3, h9, h10, h11, h13], hOc, 0, ch, by simp [h14], by simp [h12], rfl, by omega, hMc.congr (fun p q _ _ => ?_), ?_⟩
        · by_cases e : p < i
          · rw [if_pos e, if_pos (.inl e)]
          · rw [if_neg e, if_neg (by omega)]
        · rw [hch]
          constructor
          · rintro ⟨p, q, h1, h2⟩; exact ⟨p, q, .inl h1, h2⟩
          · rintro ⟨p, q, h1, h2⟩; exact ⟨p, q, by omega, h2⟩
      · rintro c ⟨tm, n, ds⟩ Wd ⟨hn, hd, h0, h1, h2, h3, h9, h10, h11, h13, hOd, j, ch, h14, h12, hc, hjl, hMd, hch⟩ Q3 hJ3 hRt3 hI3
        simp only at hn hd h0 h1 h2 h3 h9 h10 h11 h13
        subst hn; subst hd
        simp only at h14 h12
        by_cases hjt : j < n
        case neg =>
          have e : j = n := by omega
          subst e
          try simp only [wpK_assoc]
          refine wpK_reg (fun R hR => by simp [h0, h14]; exact hR) ?_
          try simp only [wpK_assoc]
          first | refine wpK_onF (by simp []) ?_ | refine wpK_out (by simp []) ?_ | refine wpK_condF (by simp []) ?_ | refine wpK_endF (by simp []) (wpK_skip ?_) | refine wpK_endF (by simp []) ?_
          refine hJ3 _ _ ⟨rfl, rfl, by simp [h0, h1, h2, h3, h9, h10, h11, h13], by simp [h0, h1, h2, h3, h9, h10, h11, h13], by simp [h0, h1, h2, h3, h9, h10, h11, h13], by simp [h0, h1, h2, h3, h9, h10, h11, h13], by simp [h0, h1, h2, h3, h9, h10, h11, h13], by simp [h0, h1, h2, h3, h9, h10, h11, h13], by simp [h0, h1, h2, h3, h9, h10, h11, h13], by simp [h0, h1, h2, h3, h9, h10, h11, h13], hOd, ch, by simp [h12], hMd.congr (fun p q hp hq => ?_), ?_⟩
          · by_cases e : p < i
            · rw [if_pos (.inl e), if_pos (by omega)]
            · by_cases e2 : p = i
              · rw [if_pos (.inr ⟨e2, hq⟩), if_pos (by omega)]
              · rw [if_neg (by omega), if_neg (by omega)]
          · rw [hch]
            constructor
            · rintro ⟨p, q, h1, h2⟩; exact ⟨p, q, by omega, h2⟩
            · rintro ⟨p, q, h1, h2, h3⟩; exact ⟨p, q, by omega, h2, h3⟩
        have hjt' : (j : Int) < n := by omega
        try simp only [wpK_assoc]
        refine wpK_reg (fun R hR => by simp [h0, h14, hjt']; exact hR) ?_
        try simp only [wpK_assoc]
        first | refine wpK_onT (by simp [hjt]) ?_ | refine wpK_outT (by simp [hjt]) ?_ | refine wpK_condT (by simp [hjt]) ?_ | refine wpK_endT (by simp [hjt]) ?_
        refine wpK_block ?_
        have nd := hOd.1
        -- what the region asks for
        have hSd : StepR Wd sv ss := hs.only ((Only.wide hEWb).trans hOd) (fun b hb hk => by omega)
        have hOd2 : StepR Wd ov os := ho.only ((Only.wide hEWb).trans hOd) (fun b hb hk => by omega)
        have hk3 : n - (j + 1) < c := by omega
        have hj1 : j + 1 ≤ n := by omega
        have hsj := i64_succ j (by omega)
        have hOad : Only (fun b => Wa.next ≤ b) Wa Wd := (Only.wide hEb).trans hOd
        have hBd := hB.only hOad (fun b hb _ hk => by omega)
        obtain ⟨mx, fx, hxe2, hMxd, _, _⟩ := id hBd
        obtain ⟨a1, a2⟩ := hMd.at hlt (Nat.le_refl _)
        obtain ⟨c1, c2⟩ := hMxd.at hlt (Nat.le_refl _)
        have c3 := row_ix (b := fx i) hjt
        have c4 := hMxd.cell hlt hjt
        rw [← hxe2] at c1
        have vx : valEq x x = true := by rw [hxe2]; exact rowV_eq _ _
        have vr1 := rowV_eq (fx i) n
        have vr2 := rowV_eq (f i) n
        have vr3 := rowV_eq m n
        have a3 := row_ix (b := f i) hjt
        have a2x : ∀ W', Ext Wd W' → aLoadVar T0 W' 54 m i = some (rowV (f i) n) := fun W' hE => ((hMd.ext hE).at hlt (Nat.le_refl _)).2
        have k1 := answers_wp hBd hSd hOd2 hgs hgo hls hlo hn i j
        have hnxt : stepG ss os both ry i j = (ry i j && (ansB ry i j ss os && (!both || ansB (fun i j => ry j i) j i ss os))) := rfl
        have put := fun {We : AW} (hE : Ext Wd We) (bv : Bool) (hbv : bv = stepG ss os both ry i j) => show ∃ Wf, aStoreVar T0 We 4 (f i) j (.bool bv) = some Wf ∧ Wf.next = We.next ∧ (Only (fun b => Wa.next ≤ b) Wd Wf ∧ PMat Wf m n n f (fun p q => if p < i ∨ (p = i ∧ q < j + 1) then stepG ss os both ry p q else true)) from by
          obtain ⟨Wf, d1, d2, d3, d4⟩ := (hMd.ext hE).put hlt hjt bv
          have hfi := hfy i hlt
          refine ⟨Wf, d1, d2, (Only.wide hE).trans (d3.mono (fun b _ h => by omega)), d4.congr (fun p q hp hq => ?_)⟩
          by_cases e : p = i
          · subst e
            simp only [if_true, updB]
            by_cases e2 : q = j
            · subst e2; rw [if_pos rfl, if_pos (.inr ⟨trivial, by omega⟩), hbv]
            · rw [if_neg e2]
              by_cases e3 : q < j
              · rw [if_pos (.inr ⟨trivial, e3⟩), if_pos (.inr ⟨trivial, by omega⟩)]
              · rw [if_neg (by omega), if_neg (by omega)]
          · simp only [if_neg e]
            by_cases e3 : p < i
            · rw [if_pos (.inl e3), if_pos (.inl e3)]
            · rw [if_neg (by omega), if_neg (by omega)]
        try simp only [wpK_assoc]
        refine wpK_cut (J := fun A' W' => A'.n = 95 ∧ A'.defers = [] ∧ A'.tmps.get 0 = some (.int .i64 (n : Int)) ∧ A'.tmps.get 1 = some (sv) ∧ A'.tmps.get 2 = some (ov) ∧ A'.tmps.get 3 = some (.bool both) ∧ A'.tmps.get 9 = some (v) ∧ A'.tmps.get 10 = some (x) ∧ A'.tmps.get 11 = some (rowV m n) ∧ A'.tmps.get 12 = some (.bool ch) ∧ A'.tmps.get 13 = some (.int .i64 (i : Int)) ∧ A'.tmps.get 14 = some (.int .i64 (j : Int)) ∧ Only (fun b => Wa.next ≤ b) Wd W' ∧ PMat W' m n n f (fun p q => if p < i ∨ (p = i ∧ q < j + 1) then stepG ss os both ry p q else true)) (fun Q4 hQ4 => ?_) ?_
        · cases hr : ry i j with
          | false =>
            rw [hr] at c4
            obtain ⟨Wf, d1, d2, d3⟩ := put (.refl _ _) false (by rw [hnxt, hr]; rfl)
            try simp only [wpK_assoc]
            refine wpK_qn (wr := Tr.nil |>.set 36 0 |>.set 37 1 |>.set 38 2 |>.set 39 3 |>.set 40 4 |>.set 41 5 |>.set 42 6 |>.set 43 7 |>.set 44 8 |>.set 45 9 |>.set 46 10 |>.set 47 11 |>.set 48 12 |>.set 49 13 |>.set 50 14 |>.set 51 15 |>.set 52 16 |>.set 53 17 |>.set 54 18 |>.set 55 19 |>.set 56 20 |>.set 57 21 |>.set 58 22 |>.set 59 23 |>.set 60 24 |>.set 61 25 |>.set 62 26 |>.set 63 27 |>.set 64 28 |>.set 65 29 |>.set 66 30 |>.set 67 31 |>.set 68 32 |>.set 69 33) (bits := Tr.nil.lay 0 [0, 0, 3, 7, 0, 0, 0, 96, 224, 0, 992, 2016, 4064, 8160, 8160, 8160, 8160, 8160, 262112, 524256, 1048544, 2097120, 4194272, 8388576, 16777184, 33554400, 16777184, 16777184, 16777184, 16777184, 1073741792, 2147483616, 4294967264, 8589934591, 17179869183]) (ord := [0, 1, 2, 3, 4, 5, 6, 7, 8, 9, 10, 11, 12, 13, 14, 15, 16, 17, 18, 19, 20, 21, 22, 23, 24, 25, 26, 27, 28, 29, 30, 31, 32, 33, 34]) (by kernel_rfl) (by kernel_rfl) (by kernel_rfl) (fun G hG => by
              simp [h0, h1, h2, h3, h10, h11, h13, h14, a1, a2, a3, c1, c2, c3, c4, d1, d2, undef, vx, vr1, vr2, vr3]
              exact hG) ?_
            exact hQ4 _ _ ⟨rfl, rfl, by simp [h0, h1, h2, h3, h9, h10, h11, h12, h13, h14], by simp [h0, h1, h2, h3, h9, h10, h11, h12, h13, h14], by simp [h0, h1, h2, h3, h9, h10, h11, h12, h13, h14], by simp [h0, h1, h2, h3, h9, h10, h11, h12, h13, h14], by simp [h0, h1, h2, h3, h9, h10, h11, h12, h13, h14], by simp [h0, h1, h2, h3, h9, h10, h11, h12, h13, h14], by simp [h0, h1, h2, h3, h9, h10, h11, h12, h13, h14], by simp [h0, h1, h2, h3, h9, h10, h11, h12, h13, h14], by simp [h0, h1, h2, h3, h9, h10, h11, h12, h13, h14], by simp [h0, h1, h2, h3, h9, h10, h11, h12, h13, h14], d3⟩
          | true =>
          rw [hr] at c4
          cases hA : ansB ry i j ss os with
          | false =>
            rw [hA] at k1
            obtain ⟨Wf, d1, d2, d3⟩ := put (.refl _ _) false (by rw [hnxt, hr, hA]; rfl)
            try simp only [wpK_assoc]
            refine wpK_qn (wr := Tr.nil |>.set 36 0 |>.set 37 1 |>.set 38 2 |>.set 39 3 |>.set 40 4 |>.set 41 5 |>.set 42 6 |>.set 43 7 |>.set 44 8 |>.set 45 9 |>.set 46 10 |>.set 47 11 |>.set 48 12 |>.set 49 13 |>.set 50 14 |>.set 51 15 |>.set 52 16 |>.set 53 17 |>.set 54 18 |>.set 55 19 |>.set 56 20 |>.set 57 21 |>.set 58 22 |>.set 59 23 |>.set 60 24 |>.set 61 25 |>.set 62 26 |>.set 63 27 |>.set 64 28 |>.set 65 29 |>.set 66 30 |>.set 67 31 |>.set 68 32 |>.set 69 33) (bits := Tr.nil.lay 0 [0, 0, 3, 7, 0, 0, 0, 96, 224, 0, 992, 2016, 4064, 8160, 8160, 8160, 8160, 8160, 262112, 524256, 1048544, 2097120, 4194272, 8388576, 16777184, 33554400, 16777184, 16777184, 16777184, 16777184, 1073741792, 2147483616, 4294967264, 8589934591, 17179869183]) (ord := [0, 1, 2, 3, 4, 5, 6, 7, 8, 9, 10, 11, 12, 13, 14, 15, 16, 17, 18, 19, 20, 21, 22, 23, 24, 25, 26, 27, 28, 29, 30, 31, 32, 33, 34]) (by kernel_rfl) (by kernel_rfl) (by kernel_rfl) (fun G hG => by
              simp [h0, h1, h2, h3, h10, h11, h13, h14, a1, a2, a3, c1, c2, c3, c4, undef, vx, vr1, vr2, vr3, aEnter, fun60, short_other, aCallV]
              rw [dcallS_none]
              refine k1.mono ?_
              rintro _ W9 ⟨e9, rfl⟩; subst W9
              simp [h0, h1, h2, h3, h10, h11, h13, h14, a1, a2, a3, c1, c2, c3, c4, d1, d2, undef, vx, vr1, vr2, vr3, vs, vo]
              exact hG) ?_
            exact hQ4 _ _ ⟨rfl, rfl, by simp [h0, h1, h2, h3, h9, h10, h11, h12, h13, h14], by simp [h0, h1, h2, h3, h9, h10, h11, h12, h13, h14], by simp [h0, h1, h2, h3, h9, h10, h11, h12, h13, h14], by simp [h0, h1, h2, h3, h9, h10, h11, h12, h13, h14], by simp [h0, h1, h2, h3, h9, h10, h11, h12, h13, h14], by simp [h0, h1, h2, h3, h9, h10, h11, h12, h13, h14], by simp [h0, h1, h2, h3, h9, h10, h11, h12, h13, h14], by simp [h0, h1, h2, h3, h9, h10, h11, h12, h13, h14], by simp [h0, h1, h2, h3, h9, h10, h11, h12, h13, h14], by simp [h0, h1, h2, h3, h9, h10, h11, h12, h13, h14], d3⟩
          | true =>
          rw [hA] at k1
          cases hb : both with
          | false =>
            subst hb
            obtain ⟨Wf, d1, d2, d3⟩ := put (.refl _ _) true (by rw [hnxt, hr, hA]; rfl)
            try simp only [wpK_assoc]
            refine wpK_qn (wr := Tr.nil |>.set 36 0 |>.set 37 1 |>.set 38 2 |>.set 39 3 |>.set 40 4 |>.set 41 5 |>.set 42 6 |>.set 43 7 |>.set 44 8 |>.set 45 9 |>.set 46 10 |>.set 47 11 |>.set 48 12 |>.set 49 13 |>.set 50 14 |>.set 51 15 |>.set 52 16 |>.set 53 17 |>.set 54 18 |>.set 55 19 |>.set 56 20 |>.set 57 21 |>.set 58 22 |>.set 59 23 |>.set 60 24 |>.set 61 25 |>.set 62 26 |>.set 63 27 |>.set 64 28 |>.set 65 29 |>.set 66 30 |>.set 67 31 |>.set 68 32 |>.set 69 33) (bits := Tr.nil.lay 0 [0, 0, 3, 7, 0, 0, 0, 96, 224, 0, 992, 2016, 4064, 8160, 8160, 8160, 8160, 8160, 262112, 524256, 1048544, 2097120, 4194272, 8388576, 16777184, 33554400, 16777184, 16777184, 16777184, 16777184, 1073741792, 2147483616, 4294967264, 8589934591, 17179869183]) (ord := [0, 1, 2, 3, 4, 5, 6, 7, 8, 9, 10, 11, 12, 13, 14, 15, 16, 17, 18, 19, 20, 21, 22, 23, 24, 25, 26, 27, 28, 29, 30, 31, 32, 33, 34]) (by kernel_rfl) (by kernel_rfl) (by kernel_rfl) (fun G hG => by
              simp [h0, h1, h2, h3, h10, h11, h13, h14, a1, a2, a3, c1, c2, c3, c4, undef, vx, vr1, vr2, vr3, aEnter, fun60, short_other, aCallV]
              rw [dcallS_none]
              refine k1.mono ?_
              rintro _ W9 ⟨e9, rfl⟩; subst W9
              simp [h0, h1, h2, h3, h10, h11, h13, h14, a1, a2, a3, c1, c2, c3, c4, d1, d2, undef, vx, vr1, vr2, vr3, vs, vo]
              exact hG) ?_
            exact hQ4 _ _ ⟨rfl, rfl, by simp [h0, h1, h2, h3, h9, h10, h11, h12, h13, h14], by simp [h0, h1, h2, h3, h9, h10, h11, h12, h13, h14], by simp [h0, h1, h2, h3, h9, h10, h11, h12, h13, h14], by simp [h0, h1, h2, h3, h9, h10, h11, h12, h13, h14], by simp [h0, h1, h2, h3, h9, h10, h11, h12, h13, h14], by simp [h0, h1, h2, h3, h9, h10, h11, h12, h13, h14], by simp [h0, h1, h2, h3, h9, h10, h11, h12, h13, h14], by simp [h0, h1, h2, h3, h9, h10, h11, h12, h13, h14], by simp [h0, h1, h2, h3, h9, h10, h11, h12, h13, h14], by simp [h0, h1, h2, h3, h9, h10, h11, h12, h13, h14], d3⟩
          | true =>
          subst hb
          have k2 := turned_wp hBd hn
          obtain ⟨b3, hb3⟩ : ∃ b, b = ansB (fun i j => ry j i) j i ss os := ⟨_, rfl⟩
          have hst : b3 = stepG ss os true ry i j := by rw [hnxt, hr, hA, hb3]; rfl
          have k3 := fun {Wt : AW} {tv : Value} (hEt : Ext Wd Wt) (hTt : BMat Wt tv n (fun i j => ry j i) (fun b => Wd.next ≤ b)) => answers_wp hTt (hSd.ext hEt) (hOd2.ext hEt) hgs hgo hls hlo hn j i
          rw [← hb3] at k3
          cases b3 with
          | false =>
            try simp only [wpK_assoc]
            refine wpK_q1 (wr := Tr.nil |>.set 36 0 |>.set 37 1 |>.set 38 2 |>.set 39 3 |>.set 40 4 |>.set 41 5 |>.set 42 6 |>.set 43 7 |>.set 44 8 |>.set 45 9 |>.set 46 10 |>.set 47 11 |>.set 48 12 |>.set 49 13 |>.set 50 14 |>.set 51 15 |>.set 52 16 |>.set 53 17 |>.set 54 18 |>.set 55 19 |>.set 56 20 |>.set 57 21 |>.set 58 22 |>.set 59 23 |>.set 60 24 |>.set 61 25 |>.set 62 26 |>.set 63 27 |>.set 64 28 |>.set 65 29 |>.set 66 30 |>.set 67 31 |>.set 68 32 |>.set 69 33) (bits := Tr.nil.lay 0 [0, 0, 3, 7, 0, 0, 0, 96, 224, 0, 992, 2016, 4064, 8160, 8160, 8160, 8160, 8160, 262112, 524256, 1048544, 2097120, 4194272, 8388576, 16777184, 33554400, 16777184, 16777184, 16777184, 16777184, 1073741792, 2147483616, 4294967264, 8589934591, 17179869183]) (ord := [0, 1, 2, 3, 4, 5, 6, 7, 8, 9, 10, 11, 12, 13, 14, 15, 16, 17, 18, 19, 20, 21, 22, 23, 24, 25, 26, 27, 28, 29, 30, 31, 32, 33, 34]) (by kernel_rfl) (by kernel_rfl) (by kernel_rfl) (fun G hG => by
              simp [h0, h1, h2, h3, h10, h11, h13, h14, a1, a2, a3, c1, c2, c3, c4, undef, vx, vr1, vr2, vr3, aEnter, fun60, fun59, short_other, aCallV]
              rw [dcallS_none]
              refine k1.mono ?_
              rintro _ W9 ⟨e9, rfl⟩; subst W9
              simp [h0, h1, h2, h3, h10, h11, h13, h14, a1, a2, a3, c1, c2, c3, c4, undef, vx, vr1, vr2, vr3, vs, vo, aEnter, fun60, fun59, short_other, aCallV]
              rw [dcallS_none]
              refine k2.mono ?_
              rintro tv Wt ⟨hEt, hTt⟩
              have a2t := a2x Wt hEt
              simp [hEt.1, h0, h1, h2, h3, h10, h11, h13, h14, a1, a2, a2t, a3, c1, c2, c3, c4, undef, vx, vr1, vr2, vr3, vs, vo, aEnter, fun60, fun59, short_other, aCallV]
              rw [dcallS_none]
              refine (k3 hEt hTt).mono ?_
              rintro _ W9 ⟨e9, rfl⟩; subst W9
              obtain ⟨Wf, d1, d2, d3⟩ := put hEt false hst
              simp [hEt.1, h0, h1, h2, h3, h10, h11, h13, h14, a1, a2, a2t, a3, c1, c2, c3, c4, d1, d2, undef, vx, vr1, vr2, vr3, vs, vo]
              exact hG tv Wf d3) ?_
            rintro tv Wf d3
            exact hQ4 _ _ ⟨rfl, rfl, by simp [h0, h1, h2, h3, h9, h10, h11, h12, h13, h14], by simp [h0, h1, h2, h3, h9, h10, h11, h12, h13, h14], by simp [h0, h1, h2, h3, h9, h10, h11, h12, h13, h14], by simp [h0, h1, h2, h3, h9, h10, h11, h12, h13, h14], by simp [h0, h1, h2, h3, h9, h10, h11, h12, h13, h14], by simp [h0, h1, h2, h3, h9, h10, h11, h12, h13, h14], by simp [h0, h1, h2, h3, h9, h10, h11, h12, h13, h14], by simp [h0, h1, h2, h3, h9, h10, h11, h12, h13, h14], by simp [h0, h1, h2, h3, h9, h10, h11, h12, h13, h14], by simp [h0, h1, h2, h3, h9, h10, h11, h12, h13, h14], d3⟩
          | true =>
            try simp only [wpK_assoc]
            refine wpK_q1 (wr := Tr.nil |>.set 36 0 |>.set 37 1 |>.set 38 2 |>.set 39 3 |>.set 40 4 |>.set 41 5 |>.set 42 6 |>.set 43 7 |>.set 44 8 |>.set 45 9 |>.set 46 10 |>.set 47 11 |>.set 48 12 |>.set 49 13 |>.set 50 14 |>.set 51 15 |>.set 52 16 |>.set 53 17 |>.set 54 18 |>.set 55 19 |>.set 56 20 |>.set 57 21 |>.set 58 22 |>.set 59 23 |>.set 60 24 |>.set 61 25 |>.set 62 26 |>.set 63 27 |>.set 64 28 |>.set 65 29 |>.set 66 30 |>.set 67 31 |>.set 68 32 |>.set 69 33) (bits := Tr.nil.lay 0 [0, 0, 3, 7, 0, 0, 0, 96, 224, 0, 992, 2016, 4064, 8160, 8160, 8160, 8160, 8160, 262112, 524256, 1048544, 2097120, 4194272, 8388576, 16777184, 33554400, 16777184, 16777184, 16777184, 16777184, 1073741792, 2147483616, 4294967264, 8589934591, 17179869183]) (ord := [0, 1, 2, 3, 4, 5, 6, 7, 8, 9, 10, 11, 12, 13, 14, 15, 16, 17, 18, 19, 20, 21, 22, 23, 24, 25, 26, 27, 28, 29, 30, 31, 32, 33, 34]) (by kernel_rfl) (by kernel_rfl) (by kernel_rfl) (fun G hG => by
              simp [h0, h1, h2, h3, h10, h11, h13, h14, a1, a2, a3, c1, c2, c3, c4, undef, vx, vr1, vr2, vr3, aEnter, fun60, fun59, short_other, aCallV]
              rw [dcallS_none]
              refine k1.mono ?_
              rintro _ W9 ⟨e9, rfl⟩; subst W9
              simp [h0, h1, h2, h3, h10, h11, h13, h14, a1, a2, a3, c1, c2, c3, c4, undef, vx, vr1, vr2, vr3, vs, vo, aEnter, fun60, fun59, short_other, aCallV]
              rw [dcallS_none]
              refine k2.mono ?_
              rintro tv Wt ⟨hEt, hTt⟩
              have a2t := a2x Wt hEt
              simp [hEt.1, h0, h1, h2, h3, h10, h11, h13, h14, a1, a2, a2t, a3, c1, c2, c3, c4, undef, vx, vr1, vr2, vr3, vs, vo, aEnter, fun60, fun59, short_other, aCallV]
              rw [dcallS_none]
              refine (k3 hEt hTt).mono ?_
              rintro _ W9 ⟨e9, rfl⟩; subst W9
              obtain ⟨Wf, d1, d2, d3⟩ := put hEt true hst
              simp [hEt.1, h0, h1, h2, h3, h10, h11, h13, h14, a1, a2, a2t, a3, c1, c2, c3, c4, d1, d2, undef, vx, vr1, vr2, vr3, vs, vo]
              exact hG tv Wf d3) ?_
            rintro tv Wf d3
            exact hQ4 _ _ ⟨rfl, rfl, by simp [h0, h1, h2, h3, h9, h10, h11, h12, h13, h14], by simp [h0, h1, h2, h3, h9, h10, h11, h12, h13, h14], by simp [h0, h1, h2, h3, h9, h10, h11, h12, h13, h14], by simp [h0, h1, h2, h3, h9, h10, h11, h12, h13, h14], by simp [h0, h1, h2, h3, h9, h10, h11, h12, h13, h14], by simp [h0, h1, h2, h3, h9, h10, h11, h12, h13, h14], by simp [h0, h1, h2, h3, h9, h10, h11, h12, h13, h14], by simp [h0, h1, h2, h3, h9, h10, h11, h12, h13, h14], by simp [h0, h1, h2, h3, h9, h10, h11, h12, h13, h14], by simp [h0, h1, h2, h3, h9, h10, h11, h12, h13, h14], d3⟩
        rintro ⟨tm, n, ds⟩ We ⟨hn, hd, h0, h1, h2, h3, h9, h10, h11, h12, h13, h14, hOe, hMe⟩
        simp only at hn hd h0 h1 h2 h3 h9 h10 h11 h12 h13 h14
        subst hn; subst hd
        obtain ⟨e1, e2⟩ := hMe.at hlt (Nat.le_refl _)
        have e3 := row_ix (b := f i) hjt
        have e4 := hMe.cell hlt hjt
        rw [if_pos (.inr ⟨rfl, Nat.lt_succ_self j⟩)] at e4
        have hBe := hB.only (hOad.trans hOe) (fun b hb _ hk => by omega)
        obtain ⟨mz, fz, hxe3, hMz, _, _⟩ := hBe
        obtain ⟨g1, g2⟩ := hMz.at hlt (Nat.le_refl _)
        have g3 := row_ix (b := fz i) hjt
        have g4 := hMz.cell hlt hjt
        rw [← hxe3] at g1
        have vg := rowV_eq (fz i) n
        have hdec : ∀ a b : Bool, (ch || (a != b)) = true ↔ ch = true ∨ a ≠ b := fun a b => by cases ch <;> cases a <;> cases b <;> simp
        have hfin : ((ch || (stepG ss os both ry i j != ry i j)) = true ↔ ∃ p q, (p < i ∨ (p = i ∧ q < j + 1)) ∧ q < n ∧ stepG ss os both ry p q ≠ ry p q) := by
          rw [hdec, hch]
          constructor
          · rintro (⟨p, q, h1, h2, h3⟩ | h)
            · exact ⟨p, q, by omega, h2, h3⟩
            · exact ⟨i, j, .inr ⟨rfl, by omega⟩, hjt, h⟩
          · rintro ⟨p, q, h1, h2, h3⟩
            by_cases e : p < i ∨ (p = i ∧ q < j)
            · exact .inl ⟨p, q, e, h2, h3⟩
            · right
              have ep : p = i := by omega
              have eq' : q = j := by omega
              rw [← ep, ← eq']; exact h3
        have nxt : ∀ (tm : Tr Value), (tm.get 0 = some (.int .i64 (n : Int)) ∧ tm.get 1 = some sv ∧ tm.get 2 = some ov ∧ tm.get 3 = some (.bool both) ∧ tm.get 9 = some v ∧ tm.get 10 = some x ∧ tm.get 11 = some (rowV m n) ∧ tm.get 12 = some (.bool (ch || (stepG ss os both ry i j != ry i j))) ∧ tm.get 13 = some (.int .i64 (i : Int)) ∧ tm.get 14 = some (.int .i64 (j : Int))) → True := fun _ _ => trivial
        generalize hsn : stepG ss os both ry i j = sn at e4 hfin hMe
        generalize hrn : ry i j = rn at g4 hfin
        cases ch with
        | true =>
          try simp only [wpK_assoc]
          refine wpK_qn (wr := Tr.nil |>.set 70 0 |>.set 71 1 |>.set 72 2 |>.set 73 3 |>.set 74 4 |>.set 75 5 |>.set 76 6 |>.set 77 7 |>.set 78 8 |>.set 79 9 |>.set 80 10 |>.set 81 11 |>.set 82 12 |>.set 83 13 |>.set 84 14 |>.set 85 15 |>.set 86 16 |>.set 87 17 |>.set 12 18) (bits := Tr.nil.lay 0 [0, 1, 3, 3, 15, 31, 3, 127, 255, 3, 3, 1539, 3587, 3, 15875, 32259, 65535, 131071, 262143]) (ord := [0, 1, 2, 3, 4, 5, 6, 7, 8, 9, 10, 11, 12, 13, 14, 15, 16, 17, 18]) (by kernel_rfl) (by kernel_rfl) (by kernel_rfl) (fun G hG => by
            simp [h10, h11, h12, h13, h14, undef, vg, vr1, vr2, vr3, vx]
            exact hG) ?_
          simp only [leaves_normal, behind_normal]
          refine wpK_keep (fun tm' => tm'.get 0 = some (.int .i64 (n : Int)) ∧ tm'.get 1 = some (sv) ∧ tm'.get 2 = some (ov) ∧ tm'.get 3 = some (.bool both) ∧ tm'.get 9 = some (v) ∧ tm'.get 10 = some (x) ∧ tm'.get 11 = some (rowV m n) ∧ tm'.get 12 = some (.bool true) ∧ tm'.get 13 = some (.int .i64 (i : Int)) ∧ tm'.get 14 = some (.int .i64 (j : Int))) ⟨by simp [h0, h1, h2, h3, h9, h10, h11, h12, h13, h14], by simp [h0, h1, h2, h3, h9, h10, h11, h12, h13, h14], by simp [h0, h1, h2, h3, h9, h10, h11, h12, h13, h14], by simp [h0, h1, h2, h3, h9, h10, h11, h12, h13, h14], by simp [h0, h1, h2, h3, h9, h10, h11, h12, h13, h14], by simp [h0, h1, h2, h3, h9, h10, h11, h12, h13, h14], by simp [h0, h1, h2, h3, h9, h10, h11, h12, h13, h14], by simp [h0, h1, h2, h3, h9, h10, h11, h12, h13, h14], by simp [h0, h1, h2, h3, h9, h10, h11, h12, h13, h14], by simp [h0, h1, h2, h3, h9, h10, h11, h12, h13, h14]⟩ ?_
          rintro tm ⟨h0, h1, h2, h3, h9, h10, h11, h12, h13, h14⟩
          try simp only [wpK_assoc]
          refine wpK_reg1 (fun R hR => by simp [h14]; exact hR) ?_
          exact hI3 (n - (j + 1)) _ _ hk3 ⟨rfl, rfl, by simp [h0, h1, h2, h3, h9, h10, h11, h13], by simp [h0, h1, h2, h3, h9, h10, h11, h13], by simp [h0, h1, h2, h3, h9, h10, h11, h13], by simp [h0, h1, h2, h3, h9, h10, h11, h13], by simp [h0, h1, h2, h3, h9, h10, h11, h13], by simp [h0, h1, h2, h3, h9, h10, h11, h13], by simp [h0, h1, h2, h3, h9, h10, h11, h13], by simp [h0, h1, h2, h3, h9, h10, h11, h13], hOd.trans hOe, j + 1, _, by simp [hsj], by simp [h12], rfl, hj1, hMe, hfin⟩
        | false =>
          cases sn <;> cases rn
          all_goals
            try simp only [wpK_assoc]
            refine wpK_qn (wr := Tr.nil |>.set 70 0 |>.set 71 1 |>.set 72 2 |>.set 73 3 |>.set 74 4 |>.set 75 5 |>.set 76 6 |>.set 77 7 |>.set 78 8 |>.set 79 9 |>.set 80 10 |>.set 81 11 |>.set 82 12 |>.set 83 13 |>.set 84 14 |>.set 85 15 |>.set 86 16 |>.set 87 17 |>.set 12 18) (bits := Tr.nil.lay 0 [0, 1, 3, 3, 15, 31, 3, 127, 255, 3, 3, 1539, 3587, 3, 15875, 32259, 65535, 131071, 262143]) (ord := [0, 1, 2, 3, 4, 5, 6, 7, 8, 9, 10, 11, 12, 13, 14, 15, 16, 17, 18]) (by kernel_rfl) (by kernel_rfl) (by kernel_rfl) (fun G hG => by
              simp [h10, h11, h12, h13, h14, e1, e2, e3, e4, g1, g2, g3, g4, aGuard, aBinO, aEq, vg, vr1, vr2, vr3, vx]
              exact hG) ?_
            simp only [leaves_normal, behind_normal]
            try simp only [wpK_assoc]
            refine wpK_reg1 (fun R hR => by simp [h14]; exact hR) ?_
            exact hI3 (n - (j + 1)) _ _ hk3 ⟨rfl, rfl, by simp [h0, h1, h2, h3, h9, h10, h11, h13], by simp [h0, h1, h2, h3, h9, h10, h11, h13], by simp [h0, h1, h2, h3, h9, h10, h11, h13], by simp [h0, h1, h2, h3, h9, h10, h11, h13], by simp [h0, h1, h2, h3, h9, h10, h11, h13], by simp [h0, h1, h2, h3, h9, h10, h11, h13], by simp [h0, h1, h2, h3, h9, h10, h11, h13], by simp [h0, h1, h2, h3, h9, h10, h11, h13], hOd.trans hOe, j + 1, _, by simp [hsj], by simp; rfl, rfl, hj1, hMe, by simpa using hfin⟩
      · rintro A' W' hf; exact hf.elim
      · rintro ⟨tm, n, ds⟩ We ⟨hn, hd, h0, h1, h2, h3, h9, h10, h11, h13, hOe, ch, h12, hMe, hch⟩
        simp only at hn hd h0 h1 h2 h3 h9 h10 h11 h13
        subst hn; subst hd
        simp only at h12
        simp only [leaves_normal, behind_normal]
        try simp only [wpK_assoc]
        refine wpK_reg1 (fun R hR => by simp [h13]; exact hR) ?_
        refine hI2 (n - (i + 1)) _ _ ?_ ⟨rfl, rfl, by simp [h0, h1, h2, h3, h9, h10, h11], by simp [h0, h1, h2, h3, h9, h10, h11], by simp [h0, h1, h2, h3, h9, h10, h11], by simp [h0, h1, h2, h3, h9, h10, h11], by simp [h0, h1, h2, h3, h9, h10, h11], by simp [h0, h1, h2, h3, h9, h10, h11], by simp [h0, h1, h2, h3, h9, h10, h11], hOe, i + 1, ch, by simp [i64_succ i (by clear hch; omega)], by simp [h12], rfl, ?_, hMe, hch⟩
        · clear hch; omega
        · clear hch; omega
    · rintro A' W' hf; exact hf.elim
    · rintro ⟨tm, n, ds⟩ We ⟨hn, hd, h0, h1, h2, h3, h9, h10, h11, hOe, ch, h12, hMe, hch⟩
      simp only at hn hd h0 h1 h2 h3 h9 h10 h11
      subst hn; subst hd
      simp only at h12
      have hEWe : Ext W We := ⟨by have := hOe.1; omega, fun b hb _ => by rw [hOe.2 b (by omega) (by omega)]; exact hEWb.2 b hb (fun x => x)⟩
      have hRe : Rnds We W v n k (itG ss os both) K := hRn.only ((Only.wide hEb).trans hOe) (fun b hb _ hk => by omega)
      cases ch with
      | false =>
        try simp only [wpK_assoc]
        refine wpK_reg (fun R hR => by simp [h12]; exact hR) ?_
        try simp only [wpK_assoc]
        first | refine wpK_onT (by simp []) ?_ | refine wpK_outT (by simp []) ?_ | refine wpK_condT (by simp []) ?_ | refine wpK_endT (by simp []) ?_
        try simp only [wpK_assoc]
        refine wpK_reg (fun R hR => by simp [h9]; exact hR) ?_
        refine wpK_ret ?_
        refine hRt _ _ ⟨rfl, hEWe, k, v, K, by simp, hRe, hk5, fun p q hp hq => ?_, hdiff⟩
        apply Classical.byContradiction
        intro hne
        rw [hry] at hch
        have := hch.2 ⟨p, q, hp, hq, hne⟩
        cases this
      | true =>
        try simp only [wpK_assoc]
        refine wpK_reg (fun R hR => by simp [h12]; exact hR) ?_
        try simp only [wpK_assoc]
        first | refine wpK_onF (by simp []) ?_ | refine wpK_out (by simp []) ?_ | refine wpK_condF (by simp []) ?_ | refine wpK_endF (by simp []) (wpK_skip ?_) | refine wpK_endF (by simp []) ?_
        rw [hry] at hch hMe
        obtain ⟨p0, q0, hp0, hq0, hne⟩ := hch.1 rfl
        have hmK : ¬ K m := fun h => by have := hRn.up _ h; omega
        have hfK : ∀ i, i < n → ¬ K (f i) := fun i hi h => by have := hRn.up _ h; have := hfy i hi; omega
        have hX : BMat We (rowV m n) n (itG ss os both (k + 1)) (fun b => W.next ≤ b ∧ ¬ K b) := ⟨m, f, rfl, hMe, ⟨by omega, hmK⟩, fun i hi => ⟨by have := hfy i hi; omega, hfK i hi⟩⟩
        obtain ⟨v', Wg, p1, p2, p3⟩ := hRe.push hk5 (by have := hOe.1; omega) hX
        have hbs := bs94 We m n
        try simp only [wpK_assoc]
        refine wpK_reg1 (fun R hR => by simp [h9, h11, hbs, p1]; exact hR) ?_
        have hless := cntR_less (ss := ss) (os := os) (both := both) (r := itG ss os both k) ⟨p0, q0, hp0, hq0, hne⟩
        have hdf2 : ∀ d, d < k + 1 → ∃ p q, p < n ∧ q < n ∧ itG ss os both (d + 1) p q ≠ itG ss os both d p q := fun d hd => by
          by_cases e : d = k
          · subst e; exact ⟨p0, q0, hp0, hq0, hne⟩
          · exact hdiff d (by clear hdiff hch; omega)
        refine hI (cntR n (itG ss os both (k + 1))) _ _ (by rw [hq]; exact hless) ⟨rfl, rfl, by simp [h0, h1, h2, h3], by simp [h0, h1, h2, h3], by simp [h0, h1, h2, h3], by simp [h0, h1, h2, h3], ⟨?_, fun b hb _ => ?_⟩, k + 1, v', _, by simp, p3, rfl, ?_, hdf2⟩
        · have := p2.1; have := hEWe.1; clear hdiff hch hdf2; omega
        · rw [p2.2 b (Nat.lt_of_lt_of_le hb hEWe.1) (fun h => by have := hRn.low b h; clear hdiff hch hdf2; omega)]; exact hEWe.2 b hb (fun x => x)
        · clear hdiff hch hdf2
          have hless' : cntR n (itG ss os both (k + 1)) < cntR n (itG ss os both k) := hless
          omega
  · rintro A' W' ⟨h1, h2, h3⟩
    obtain ⟨k, v, K, h4, h5⟩ := h3
    exact ⟨.inr rfl, h1, [v], by simp [h4], h2, k, K, h5⟩
  · rintro A' W' hf; exact hf.elim
end Go.Proofs.YtfnigiojgbeklaaDoor

open Go Go.Eng
namespace Go.Proofs.YtfnigiojgbeklaaDoor
attribute [local congr] undef_congr WpK.congr WpS.congr WpL.congr WpC.congr WpF.congr gotS.congr callS.congr nextS.congr wantS.congr condS.congr
attribute [local irreducible] WpK
attribute [local simp] WpDr_nil WpDr_cons atS_some dwantS_true dwantS_false kindS_light kindS_float kindS_heavy lightS_value floatS_some heavyS_value heavyS_skip heavyS_enter dcallS_some doneS_eq
  isLight isFloat isPlain dLook testBit_dec dChain dLights_nil dLights_skip dLights_one dLight_nil dLight_cons dFreshes_nil dFreshes_one oneF_none oneF_some dFresh_nil dFresh_cons oneL_some oneW_true oneW_false sameV_value dPut dMay valEq arrEq listEq List.getElem?_cons Tr.get_nil dEnd
attribute [local simp] WpS_nil WpS_cons isDefer undef_false wantS_true wantS_false nextS_value nextS_skip nextS_enter callS_some gotS_some aWanted aOp aEvalF aEval opMove opAssign opPick aVal flat flat1 AAct.put opBinOp opConvert opIndex Tr.get_set Tr.get_lay aBin aResults tupled
  aCall aVals aCallB blt_dec ble_dec beq_dec aBinI_add aBinI_sub aBinI_lss aBinI_leq aBinI_gtr aBinI_geq aBinI_eql aBinI_neq index_str len_str len_slice Nat.beq_refl Nat.beq_refl
  opBox opLoad opFieldAddr opIndexAddr acells aAddr opExtract aExtract opUnOp opAlloc opStore opMakeInterface opNilCheck opBuild aParts opBuildSlice aValW
attribute [local simp] und2 und3 und4 und5 und9 und12 und13 und21 und22 und23 und24 und26 und27 und28 und30 und31 und34 und40 und43 und48 und49 und50 und54 und70 und71 und72 und79 und81 und86 und88 und89 und94 und99 und108 und109 und110 und118 und119 und120 und121 und123 und134 und143 und144 und145 und146 und148 und149 und150 und153 und154 und155 und157 und165 und167 und168 und178 und179 und187 und188 und189 und190 und191 und192 und193 und199 und214 und218 field13_0 field13_1 field23_0 field23_1 field24_0 field24_1 field27_0 field27_1 field28_0 field28_1 field49_0 field49_1 field49_2 field50_0 field50_1 field50_2 field70_0 field70_1 field70_2 field71_0 field71_1 field71_2 field72_0 field72_1 field72_2 field108_0 field108_1 field108_2 field109_0 field109_1 field109_2 field120_0 field120_1 field121_0 field121_1 field145_0 field145_1 field145_2 field146_0 field146_1 field146_2 field154_0 field154_1 field155_0 field155_1 field178_0 field178_1 field178_2 field178_3 field179_0 field179_1 field179_2 field179_3 field188_0 field188_1 field189_0 field189_1
set_option maxHeartbeats 4000000
set_option linter.unusedSimpArgs false
set_option linter.unusedVariables false
theorem last_wp {W W0 : AW} {v : Value} {n k : Nat} {R : Nat → Nat → Nat → Bool} {K : Nat → Prop} (h : Rnds W W0 v n k R K) (hk : k < 100000) : WpF T0 41 [v] W (fun u W' => W' = W ∧ BMat W u n (R k) (fun b => W0.next ≤ b ∧ ¬ K b)) := by
  refine wpF fun41 rfl ?_
  obtain ⟨Ar, cr, hv⟩ := h.len
  have ll : aLen T0 W 94 v = some (.int .i64 ((k + 1 : Nat) : Int)) := by rw [hv]; exact len_slice und94 _ _ _
  have w1 : IntKind.i64.wrap (k : Int) = (k : Int) := i64_in (by omega)
  obtain ⟨b, o, x, a1, a2, hB⟩ := h.at (d := k) (Nat.le_refl _)
  try simp only [wpK_assoc]
  refine wpK_reg (fun R hR => by simp []; exact hR) ?_
  try simp only [wpK_assoc]
  refine wpK_reg (fun R hR => by simp [ll, w1, a1, a2]; exact hR) ?_
  exact wpK_ret ⟨.inr rfl, rfl, [x], by simp, rfl, hB⟩
def numsL (n : Nat) (g : Nat → Int) : List Value := (List.range n).map fun j => .int .i64 (g j)
theorem numsL_len (n : Nat) (g : Nat → Int) : (numsL n g).length = n := by simp [numsL]
theorem numsL_at {n j : Nat} (g : Nat → Int) (h : j < n) : (numsL n g)[j]? = some (.int .i64 (g j)) := by
  simp only [numsL, List.getElem?_map, List.getElem?_range h]; rfl
def updI (g : Nat → Int) (j : Nat) (x : Int) : Nat → Int := fun i => if i = j then x else g i
theorem numsL_set {n j : Nat} (g : Nat → Int) (x : Int) : (numsL n g).set j (.int .i64 x) = numsL n (updI g j x) := by
  apply List.ext_getElem?
  intro i
  rw [List.getElem?_set]
  by_cases hi : i < n
  · rw [numsL_at _ hi, numsL_at _ hi, numsL_len]
    by_cases e : j = i
    · subst e; rw [if_pos rfl, if_pos hi]; simp [updI]
    · rw [if_neg e]; simp only [updI, if_neg (Ne.symm e)]
  · rw [List.getElem?_eq_none (by rw [numsL_len]; omega), List.getElem?_eq_none (by rw [numsL_len]; omega)]
    split
    · rw [numsL_len, if_neg (by omega)]
    · rfl
abbrev NumsAt (W : AW) (b n : Nat) (g : Nat → Int) : Prop := Var W b 3 (numsL n g)
theorem NumsAt.put {W : AW} {b n : Nat} {g : Nat → Int} (h : NumsAt W b n g) {j : Nat} (hj : j < n) (x : Int) : ∃ W', aStoreVar T0 W 3 b j (.int .i64 x) = some W' ∧ W'.next = W.next ∧ Only (fun c => c = b) W W' ∧ NumsAt W' b n (updI g j x) := by
  obtain ⟨W', g1, g2, g3, g4⟩ := Var.store h (T := T0) (t := 3) (v := .int .i64 x) (o := j) inf3 (by rw [is3]; rfl) (by rw [numsL_len]; show j + 1 ≤ n; omega) rfl
  refine ⟨W', g1, g2, g3, ?_⟩
  have e : (numsL n g).take j ++ acells (.int .i64 x) ++ (numsL n g).drop (j + (acells (.int .i64 x)).length) = (numsL n g).set j (.int .i64 x) := by
    rw [List.set_eq_take_append_cons_drop, if_pos (by rw [numsL_len]; omega)]
    simp [acells]
  rw [e, numsL_set] at g4; exact g4
theorem NumsAt.load {W : AW} {b n : Nat} {g : Nat → Int} (h : NumsAt W b n g) {j : Nat} (hj : j < n) : aLoadVar T0 W 3 b j = some (.int .i64 (g j)) := Var.load1 h (T := T0) und3 rfl (numsL_at g hj)
theorem ix30 {b n j : Nat} (hj : j < n) : aIndexAddr T0 30 (rowV b n) (.int .i64 (j : Int)) = some (.pointer (some ⟨b, j, none⟩)) := by
  have := indexAddr_slice (T := T0) (t := 30) (e := 3) (sz := 1) und30 sz3 (b := b) (o := 0) (len := n) (c := 2 * n) (i := j) (k := .i64) hj
  rw [Nat.zero_add, Nat.mul_one] at this; exact this
theorem mk30 (W : AW) (n : Nat) (hn : n ≤ 64) : aMakeSlice T0 W 30 (.int .i64 (n : Int)) (.int .i64 (n : Int)) = some (rowV W.next n, W.newCells 3 (numsL n (fun _ => 0))) := by
  show aMakeSlice T0 W 30 (.int .i64 (Int.ofNat n)) (.int .i64 (Int.ofNat n)) = _
  have h1 : n ≤ 4611686018427387904 := by omega
  have h2 : Tryd.t3.bytes * n ≤ 281474976710656 := by rw [by3]; omega
  have e : numsL n (fun _ => 0) = List.replicate n (.int .i64 0) := by
    apply List.ext_getElem?
    intro i
    by_cases hi : i < n
    · rw [numsL_at _ hi, List.getElem?_replicate, if_pos hi]
    · rw [List.getElem?_eq_none (by rw [numsL_len]; omega), List.getElem?_eq_none (by simp; omega)]
  rw [e, ← rep_one _ rfl n]
  simp only [aMakeSlice, und30, inf3, z3, h1, h2, is3, ble_dec, acells, List.length_cons, List.length_nil, Nat.beq_refl, Nat.le_refl, decide_true]
  rfl
def isNew (r : Nat → Nat → Bool) (i : Nat) : Prop := ∀ k, k < i → r i k = false
open Classical in
noncomputable def newN (r : Nat → Nat → Bool) : Nat → Nat
  | 0 => 0
  | i + 1 => newN r i + (if isNew r i then 1 else 0)
def NumTo (r : Nat → Nat → Bool) (g : Nat → Int) (i : Nat) : Prop := ∀ j, j < i → 0 ≤ g j ∧ ((isNew r j ∧ g j = (newN r j : Int)) ∨ ∃ k, k < j ∧ r j k = true ∧ (∀ k', k' < k → r j k' = false) ∧ g j = g k)
theorem NumTo.upd {r : Nat → Nat → Bool} {g : Nat → Int} {i : Nat} (h : NumTo r g i) (x : Int) : NumTo r (updI g i x) i := fun j hj => by
  obtain ⟨h1, h2⟩ := h j hj
  have e : updI g i x j = g j := by simp only [updI, if_neg (show ¬ j = i by omega)]
  rw [e]
  refine ⟨h1, ?_⟩
  rcases h2 with h2 | ⟨k, h3, h4, h5, h6⟩
  · exact .inl h2
  · exact .inr ⟨k, h3, h4, h5, by simp only [updI, if_neg (show ¬ k = i by omega)]; exact h6⟩
theorem newN_le (r : Nat → Nat → Bool) : ∀ i, newN r i ≤ i
  | 0 => Nat.le_refl _
  | i + 1 => by
    have := newN_le r i
    simp only [newN]
    split <;> omega
open Classical in
theorem numbered_wp {W : AW} {v : Value} {n : Nat} {r : Nat → Nat → Bool} {K : Nat → Prop} (h : BMat W v n r K) (hn : n ≤ 64) :
    WpF T0 43 [v] W (fun u W' => Ext W W' ∧ ∃ b g, u = rowV b n ∧ NumsAt W' b n g ∧ W.next ≤ b ∧ NumTo r g n) := by
  refine wpF fun43 rfl ?_
  obtain ⟨m, f, hve, hM, _, _⟩ := h
  have ll : ∀ W', aLen T0 W' 79 v = some (.int .i64 n) := fun W' => by rw [hve]; exact len_slice und79 _ _ _
  have mk := mk30 W n hn
  obtain ⟨W1, hW1, hE1, hN1, hn1⟩ : ∃ W1, W1 = W.newCells 3 (numsL n (fun _ => 0)) ∧ Ext W W1 ∧ NumsAt W1 W.next n (fun _ => 0) ∧ W1.next = W.next + 1 := ⟨_, rfl, .newCells _ _ _, Var.new _ _ _, rfl⟩
  rw [← hW1] at mk
  try simp only [wpK_assoc]
  refine wpK_reg (fun R hR => by simp []; exact hR) ?_
  try simp only [wpK_assoc]
  refine wpK_reg (fun R hR => by simp [ll, opMakeSlice, mk]; exact hR) ?_
  try simp only [wpK_assoc]
  refine wpK_reg (fun R hR => by simp []; exact hR) ?_
  try simp only [wpK_assoc]
  refine wpK_reg (fun R hR => by simp []; exact hR) ?_
  obtain ⟨pb, hpb⟩ : ∃ p, p = W.next := ⟨_, rfl⟩
  rw [← hpb] at hN1
  refine wpK_keep (fun tm' => tm'.get 0 = some (v) ∧ tm'.get 3 = some (rowV pb n) ∧ tm'.get 4 = some (.int .i64 0) ∧ tm'.get 5 = some (.int .i64 0)) ⟨by simp [hpb], by simp [hpb], by simp [hpb], by simp [hpb]⟩ ?_
  rintro tm ⟨h0, h3, h4, h5⟩
  try simp only [wpK_assoc]
  refine wpK_while (I := fun q A' W' => A'.n = 57 ∧ A'.defers = [] ∧ A'.tmps.get 0 = some (v) ∧ A'.tmps.get 3 = some (rowV pb n) ∧ Only (fun b => b = pb) W1 W' ∧ ∃ (i : Nat) (g : Nat → Int), A'.tmps.get 5 = some (.int .i64 (i : Int)) ∧ A'.tmps.get 4 = some (.int .i64 (newN r i : Nat)) ∧ q = n - i ∧ i ≤ n ∧ NumsAt W' pb n g ∧ NumTo r g i)
    (J := fun A' W' => A'.n = 57 ∧ A'.defers = [] ∧ A'.tmps.get 0 = some (v) ∧ A'.tmps.get 3 = some (rowV pb n) ∧ Only (fun b => b = pb) W1 W' ∧ ∃ g, NumsAt W' pb n g ∧ NumTo r g n) (Rt := fun _ _ => False) (k := n) ?_ ?_ ?_ ?_
  · exact ⟨rfl, rfl, by simp [h0, h3], by simp [h0, h3], .refl _ _, 0, _, by simp [h5], by simp [h4, newN], rfl, by omega, hN1, fun j hj => by omega⟩
  · rintro q ⟨tm, n, ds⟩ Wa ⟨hn, hd, h0, h3, hOa, i, g, h5, h4, hq, hil, hNa, hto⟩ Q' hJ hRt hI
    simp only at hn hd h0 h3
    subst hn; subst hd
    simp only at h5 h4
    have na := hOa.1
    by_cases hlt : i < n
    case neg =>
      have e : i = n := by omega
      subst e
      try simp only [wpK_assoc]
      refine wpK_reg (fun R hR => by simp [h0, h5, ll]; exact hR) ?_
      try simp only [wpK_assoc]
      first | refine wpK_onF (by simp []) ?_ | refine wpK_out (by simp []) ?_ | refine wpK_condF (by simp []) ?_ | refine wpK_endF (by simp []) (wpK_skip ?_) | refine wpK_endF (by simp []) ?_
      exact hJ _ _ ⟨rfl, rfl, by simp [h0, h3], by simp [h0, h3], hOa, g, hNa, hto⟩
    have hlt' : (i : Int) < n := by omega
    try simp only [wpK_assoc]
    refine wpK_reg (fun R hR => by simp [h0, h5, ll, hlt']; exact hR) ?_
    try simp only [wpK_assoc]
    first | refine wpK_onT (by simp [hlt]) ?_ | refine wpK_outT (by simp [hlt]) ?_ | refine wpK_condT (by simp [hlt]) ?_ | refine wpK_endT (by simp [hlt]) ?_
    have ixi := ix30 (b := pb) hlt
    obtain ⟨Wb, s1, s2, s3, s4⟩ := hNa.put hlt (-1)
    have hlen := newN_le r i
    refine wpK_block ?_
    try simp only [wpK_assoc]
    refine wpK_reg (fun R hR => by simp [h3, h5, ixi, s1]; exact hR) ?_
    try simp only [wpK_assoc]
    refine wpK_reg (fun R hR => by simp []; exact hR) ?_
    refine wpK_keep (fun tm' => tm'.get 0 = some (v) ∧ tm'.get 3 = some (rowV pb n) ∧ tm'.get 4 = some (.int .i64 (newN r i : Nat)) ∧ tm'.get 5 = some (.int .i64 (i : Int)) ∧ tm'.get 6 = some (.int .i64 0)) ⟨by simp [h0, h3, h4, h5], by simp [h0, h3, h4, h5], by simp [h0, h3, h4, h5], by simp [h0, h3, h4, h5], by simp [h0, h3, h4, h5]⟩ ?_
    rintro tm ⟨h0, h3, h4, h5, h6⟩
    have hMx : ∀ {W' : AW}, Only (fun b => b = pb) W1 W' → PMat W' m n n f r := fun hO => (hM.ext hE1).only hO (by have := hM.outer.1; omega) (fun i hi => by have := (hM.row i hi).1; omega)
    try simp only [wpK_assoc]
    refine wpK_while (I := fun q A' W' => A'.n = 57 ∧ A'.defers = [] ∧ A'.tmps.get 0 = some (v) ∧ A'.tmps.get 3 = some (rowV pb n) ∧ A'.tmps.get 4 = some (.int .i64 (newN r i : Nat)) ∧ A'.tmps.get 5 = some (.int .i64 (i : Int)) ∧ Only (fun b => b = pb) W1 W' ∧ ∃ (k : Nat) (g : Nat → Int), A'.tmps.get 6 = some (.int .i64 (k : Int)) ∧ q = n - k ∧ k ≤ i ∧ NumsAt W' pb n g ∧ NumTo r g i ∧ ((g i = -1 ∧ ∀ k', k' < k → r i k' = false) ∨ (0 ≤ g i ∧ ∃ k1, k1 < i ∧ r i k1 = true ∧ (∀ k', k' < k1 → r i k' = false) ∧ g i = g k1)))
      (J := fun A' W' => A'.n = 57 ∧ A'.defers = [] ∧ A'.tmps.get 0 = some (v) ∧ A'.tmps.get 3 = some (rowV pb n) ∧ A'.tmps.get 4 = some (.int .i64 (newN r i : Nat)) ∧ A'.tmps.get 5 = some (.int .i64 (i : Int)) ∧ Only (fun b => b = pb) W1 W' ∧ ∃ (g : Nat → Int), NumsAt W' pb n g ∧ NumTo r g i ∧ ((g i = -1 ∧ isNew r i) ∨ (0 ≤ g i ∧ ∃ k1, k1 < i ∧ r i k1 = true ∧ (∀ k', k' < k1 → r i k' = false) ∧ g i = g k1))) (Rt := fun _ _ => False) (k := n) ?_ ?_ ?_ ?_
    · exact ⟨rfl, rfl, by simp [h0, h3, h4, h5], by simp [h0, h3, h4, h5], by simp [h0, h3, h4, h5], by simp [h0, h3, h4, h5], hOa.trans s3, 0, _, by simp [h6], rfl, by omega, s4, hto.upd _, .inl ⟨by simp [updI], fun k hk => by omega⟩⟩
    · rintro q ⟨tm, n, ds⟩ Wc ⟨hn, hd, h0, h3, h4, h5, hOc, k, g, h6, hq, hki, hNc, hto, hst⟩ Q2 hJ2 hRt2 hI2
      simp only at hn hd h0 h3 h4 h5
      subst hn; subst hd
      simp only at h6
      by_cases hkt : k < i
      case neg =>
        have e : k = i := by omega
        subst e
        try simp only [wpK_assoc]
        refine wpK_reg (fun R hR => by simp [h5, h6, undef]; exact hR) ?_
        try simp only [wpK_assoc]
        first | refine wpK_onF (by simp []) ?_ | refine wpK_out (by simp []) ?_ | refine wpK_condF (by simp []) ?_ | refine wpK_endF (by simp []) (wpK_skip ?_) | refine wpK_endF (by simp []) ?_
        exact hJ2 _ _ ⟨rfl, rfl, by simp [h0, h3, h4, h5], by simp [h0, h3, h4, h5], by simp [h0, h3, h4, h5], by simp [h0, h3, h4, h5], hOc, g, hNc, hto, hst⟩
      have hkt' : (k : Int) < i := by omega
      have lg := hNc.load hlt
      rcases hst with ⟨hg1, hno⟩ | ⟨hg0, hst⟩
      case inr =>
        have hg0' : ¬ g i < 0 := by omega
        try simp only [wpK_assoc]
        refine wpK_reg (fun R hR => by simp [h3, h5, h6, hkt', ixi, lg, hg0']; exact hR) ?_
        try simp only [wpK_assoc]
        first | refine wpK_onF (by simp [hkt, hg0']) ?_ | refine wpK_out (by simp [hkt, hg0']) ?_ | refine wpK_condF (by simp [hkt, hg0']) ?_ | refine wpK_endF (by simp [hkt, hg0']) (wpK_skip ?_) | refine wpK_endF (by simp [hkt, hg0']) ?_
        exact hJ2 _ _ ⟨rfl, rfl, by simp [h0, h3, h4, h5], by simp [h0, h3, h4, h5], by simp [h0, h3, h4, h5], by simp [h0, h3, h4, h5], hOc, g, hNc, hto, .inr ⟨hg0, hst⟩⟩
      have hg1' : g i < 0 := by omega
      rw [hg1] at lg
      try simp only [wpK_assoc]
      refine wpK_reg (fun R hR => by simp [h3, h5, h6, hkt', ixi, lg]; exact hR) ?_
      try simp only [wpK_assoc]
      first | refine wpK_onT (by simp [hkt]) ?_ | refine wpK_outT (by simp [hkt]) ?_ | refine wpK_condT (by simp [hkt]) ?_ | refine wpK_endT (by simp [hkt]) ?_
      have hMc := hMx hOc
      obtain ⟨a1, a2⟩ := hMc.at hlt (Nat.le_refl _)
      have a3 := row_ix (b := f i) (show k < n by omega)
      have a4 := hMc.cell hlt (show k < n by omega)
      rw [← hve] at a1
      refine wpK_block ?_
      cases hr : r i k with
      | false =>
        rw [hr] at a4
        try simp only [wpK_assoc]
        refine wpK_reg (fun R hR => by simp [h0, h5, h6, a1, a2, a3, a4]; exact hR) ?_
        try simp only [wpK_assoc]
        first | refine wpK_onF (by simp []) ?_ | refine wpK_out (by simp []) ?_ | refine wpK_condF (by simp []) ?_ | refine wpK_endF (by simp []) (wpK_skip ?_) | refine wpK_endF (by simp []) ?_
        simp only [leaves_normal, behind_normal]
        refine wpK_keep (fun tm' => tm'.get 0 = some (v) ∧ tm'.get 3 = some (rowV pb n) ∧ tm'.get 4 = some (.int .i64 (newN r i : Nat)) ∧ tm'.get 5 = some (.int .i64 (i : Int)) ∧ tm'.get 6 = some (.int .i64 (k : Int))) ⟨by simp [h0, h3, h4, h5, h6], by simp [h0, h3, h4, h5, h6], by simp [h0, h3, h4, h5, h6], by simp [h0, h3, h4, h5, h6], by simp [h0, h3, h4, h5, h6]⟩ ?_
        rintro tm ⟨h0, h3, h4, h5, h6⟩
        try simp only [wpK_assoc]
        refine wpK_reg1 (fun R hR => by simp [h6]; exact hR) ?_
        exact hI2 (n - (k + 1)) _ _ (by omega) ⟨rfl, rfl, by simp [h0, h3, h4, h5], by simp [h0, h3, h4, h5], by simp [h0, h3, h4, h5], by simp [h0, h3, h4, h5], hOc, k + 1, g, by simp [i64_succ k (by omega)], rfl, by omega, hNc, hto, .inl ⟨hg1, fun k' hk' => by
          by_cases e : k' = k
          · rw [e]; exact hr
          · exact hno k' (by omega)⟩⟩
      | true =>
        rw [hr] at a4
        have ixk := ix30 (b := pb) (show k < n by omega)
        have lk := hNc.load (show k < n by omega)
        obtain ⟨Wd, d1, d2, d3, d4⟩ := hNc.put hlt (g k)
        try simp only [wpK_assoc]
        refine wpK_reg (fun R hR => by simp [h0, h5, h6, a1, a2, a3, a4]; exact hR) ?_
        try simp only [wpK_assoc]
        first | refine wpK_onT (by simp []) ?_ | refine wpK_outT (by simp []) ?_ | refine wpK_condT (by simp []) ?_ | refine wpK_endT (by simp []) ?_
        try simp only [wpK_assoc]
        refine wpK_reg1 (fun R hR => by simp [h3, h5, h6, ixi, ixk, lk, d1]; exact hR) ?_
        simp only [leaves_normal, behind_normal]
        refine wpK_keep (fun tm' => tm'.get 0 = some (v) ∧ tm'.get 3 = some (rowV pb n) ∧ tm'.get 4 = some (.int .i64 (newN r i : Nat)) ∧ tm'.get 5 = some (.int .i64 (i : Int)) ∧ tm'.get 6 = some (.int .i64 (k : Int))) ⟨by simp [h0, h3, h4, h5, h6], by simp [h0, h3, h4, h5, h6], by simp [h0, h3, h4, h5, h6], by simp [h0, h3, h4, h5, h6], by simp [h0, h3, h4, h5, h6]⟩ ?_
        rintro tm ⟨h0, h3, h4, h5, h6⟩
        try simp only [wpK_assoc]
        refine wpK_reg1 (fun R hR => by simp [h6]; exact hR) ?_
        have hgk := (hto k hkt).1
        have e1 : updI g i (g k) i = g k := by simp [updI]
        have e2 : updI g i (g k) k = g k := by simp only [updI, if_neg (show ¬ k = i by omega)]
        exact hI2 (n - (k + 1)) _ _ (by omega) ⟨rfl, rfl, by simp [h0, h3, h4, h5], by simp [h0, h3, h4, h5], by simp [h0, h3, h4, h5], by simp [h0, h3, h4, h5], hOc.trans d3, k + 1, _, by simp [i64_succ k (by omega)], rfl, by omega, d4, hto.upd _, .inr ⟨by rw [e1]; exact hgk, k, hkt, hr, hno, by rw [e1, e2]⟩⟩
    · rintro A' W' hf; exact hf.elim
    · rintro ⟨tm, n, ds⟩ Wc ⟨hn, hd, h0, h3, h4, h5, hOc, g, hNc, hto, hst⟩
      simp only at hn hd h0 h3 h4 h5
      subst hn; subst hd
      have lg := hNc.load hlt
      rcases hst with ⟨hg1, hno⟩ | ⟨hg0, k1, hk1, hk2, hk3, hk4⟩
      · rw [hg1] at lg
        obtain ⟨Wd, d1, d2, d3, d4⟩ := hNc.put hlt ((newN r i : Nat) : Int)
        have hnn : newN r (i + 1) = newN r i + 1 := by simp only [newN]; rw [if_pos hno]
        have hs4 := i64_succ (newN r i) (by omega)
        try simp only [wpK_assoc]
        refine wpK_reg (fun R hR => by simp [h3, h5, ixi, lg]; exact hR) ?_
        try simp only [wpK_assoc]
        first | refine wpK_onT (by simp []) ?_ | refine wpK_outT (by simp []) ?_ | refine wpK_condT (by simp []) ?_ | refine wpK_endT (by simp []) ?_
        try simp only [wpK_assoc]
        refine wpK_reg (fun R hR => by simp [h3, h4, h5, ixi, d1]; exact hR) ?_
        try simp only [wpK_assoc]
        refine wpK_reg1 (fun R hR => by simp [h4]; exact hR) ?_
        simp only [leaves_normal, behind_normal]
        refine wpK_keep (fun tm' => tm'.get 0 = some (v) ∧ tm'.get 3 = some (rowV pb n) ∧ tm'.get 4 = some (.int .i64 (newN r (i + 1) : Nat)) ∧ tm'.get 5 = some (.int .i64 (i : Int))) ⟨by simp [h0, h3, h4, h5, hs4, hnn], by simp [h0, h3, h4, h5, hs4, hnn], by simp [h0, h3, h4, h5, hs4, hnn], by simp [h0, h3, h4, h5, hs4, hnn]⟩ ?_
        rintro tm ⟨h0, h3, h4, h5⟩
        try simp only [wpK_assoc]
        refine wpK_reg1 (fun R hR => by simp [h5]; exact hR) ?_
        refine hI (n - (i + 1)) _ _ (by omega) ⟨rfl, rfl, by simp [h0, h3], by simp [h0, h3], hOc.trans d3, i + 1, _, by simp [i64_succ i (by omega)], by simp [h4], rfl, by omega, d4, fun j hj => ?_⟩
        by_cases e : j = i
        · subst e
          exact ⟨by simp [updI], .inl ⟨hno, by simp [updI]⟩⟩
        · exact hto.upd _ j (by omega)
      · have hg0' : ¬ g i < 0 := by omega
        have hnn : newN r (i + 1) = newN r i := by
          simp only [newN]; rw [if_neg (fun hno => by have := hno k1 hk1; rw [hk2] at this; cases this)]; rfl
        try simp only [wpK_assoc]
        refine wpK_reg (fun R hR => by simp [h3, h5, ixi, lg, hg0']; exact hR) ?_
        try simp only [wpK_assoc]
        first | refine wpK_onF (by simp [hg0']) ?_ | refine wpK_out (by simp [hg0']) ?_ | refine wpK_condF (by simp [hg0']) ?_ | refine wpK_endF (by simp [hg0']) (wpK_skip ?_) | refine wpK_endF (by simp [hg0']) ?_
        simp only [leaves_normal, behind_normal]
        refine wpK_keep (fun tm' => tm'.get 0 = some (v) ∧ tm'.get 3 = some (rowV pb n) ∧ tm'.get 4 = some (.int .i64 (newN r (i + 1) : Nat)) ∧ tm'.get 5 = some (.int .i64 (i : Int))) ⟨by simp [h0, h3, h4, h5, hnn], by simp [h0, h3, h4, h5, hnn], by simp [h0, h3, h4, h5, hnn], by simp [h0, h3, h4, h5, hnn]⟩ ?_
        rintro tm ⟨h0, h3, h4, h5⟩
        try simp only [wpK_assoc]
        refine wpK_reg1 (fun R hR => by simp [h5]; exact hR) ?_
        refine hI (n - (i + 1)) _ _ (by omega) ⟨rfl, rfl, by simp [h0, h3], by simp [h0, h3], hOc, i + 1, g, by simp [i64_succ i (by omega)], by simp [h4], rfl, by omega, hNc, fun j hj => ?_⟩
        by_cases e : j = i
        · subst e
          exact ⟨hg0, .inr ⟨k1, hk1, hk2, hk3, hk4⟩⟩
        · exact hto j (by omega)
  · rintro A' W' hf; exact hf.elim
  · rintro ⟨tm, n, ds⟩ Wz ⟨hn, hd, h0, h3, hOz, g, hNz, hto⟩
    simp only at hn hd h0 h3
    subst hn; subst hd
    try simp only [wpK_assoc]
    refine wpK_reg (fun R hR => by simp [h3]; exact hR) ?_
    exact wpK_ret ⟨.inr rfl, rfl, [rowV pb n], by simp, ⟨by have := hOz.1; omega, fun b hb _ => by rw [hOz.2 b (by omega) (by omega)]; exact hE1.2 b hb (fun x => x)⟩, pb, g, rfl, hNz, by omega, hto⟩
open Classical in
theorem refClasses_wp {W : AW} {v : Value} {n L : Nat} {ss : List Tri} (h : StepR W v ss) (hg : GoodS n L ss) (hl : ss.length < 1000000) (hn : n ≤ 64) :
    WpF T0 17 [.agg ⟨[.int .i64 (n : Int), v]⟩] W (fun u W' => Ext W W' ∧ ∃ b g k, u = rowV b n ∧ NumsAt W' b n g ∧ NumTo (itG ss ss true k) g n ∧ (∀ p q, p < n → q < n → itG ss ss true (k + 1) p q = itG ss ss true k p q)) := by
  refine wpF fun17 rfl ?_
  obtain ⟨W1, hW1, hE1, hV⟩ : ∃ W1, W1 = W.newCells 24 [.int .i64 (n : Int), v] ∧ Ext W W1 ∧ Var W1 W.next 24 [.int .i64 (n : Int), v] := ⟨_, rfl, .newCells _ _ _, Var.new _ _ _⟩
  have l0 := hV.load1 (T := T0) und3 rfl (j := 0) (v := .int .i64 (n : Int)) rfl
  have l1 := hV.load1 (T := T0) und22 rfl (j := 1) (v := v) rfl
  have hS := h.ext hE1
  try simp only [wpK_assoc]
  refine wpK_reg (fun R hR => by simp [← hW1]; exact hR) ?_
  try simp only [wpK_assoc]
  refine wpK_x3 (P := fun v1 v2 v3 W' => Ext W W' ∧ ∃ b g k, v3 = rowV b n ∧ NumsAt W' b n g ∧ NumTo (itG ss ss true k) g n ∧ (∀ p q, p < n → q < n → itG ss ss true (k + 1) p q = itG ss ss true k p q)) (fun R hR => by
    simp [l0, l1, aEnter, fun42, short_other, aCallV]; rw [callS_none]
    refine (greatest_wp hS hS hg hg hl hl hn true).mono ?_
    rintro v1 W2 ⟨hE2, k, K, hRn, hk, hfix, _⟩
    simp [aEnter, fun41, short_other, aCallV]; rw [callS_none]
    refine (last_wp hRn hk).mono ?_
    rintro v2 W3 ⟨rfl, hB⟩
    simp [aEnter, fun43, short_other, aCallV]; rw [callS_none]
    refine (numbered_wp hB hn).mono ?_
    rintro v3 W4 ⟨hE4, b, g, hv3, hN, _, hto⟩
    simp
    exact hR v1 v2 v3 W4 (And.intro ((hE1.trans hE2).trans hE4) ⟨b, g, k, hv3, hN, hto, hfix⟩)) ?_
  rintro v1 v2 v3 W' ⟨hE, b, g, k, rfl, h1, h2, h3⟩
  exact wpK_ret ⟨.inr rfl, rfl, [rowV b n], by simp, hE, b, g, k, rfl, h1, h2, h3⟩
end Go.Proofs.YtfnigiojgbeklaaDoor
