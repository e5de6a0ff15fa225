import Derived.Shelf.SlGeneric
import Derived.Shelf.Sort.Plain
import Derived.Shelf.SlIter.Nil
import Derived.Shelf.SortM.Plain
import Derived.Shelf.SortM.SortNone
import Derived.Ground.GgzProg
import Derived.Ground.SlgmProg
import Derived.Shelf.SlSortCmp.WholeK
import Derived.Ground.SlsfProg
import Derived.Shelf.SlMaps.Clone
import Derived.Ground.SlmcProg
import Derived.Test.YtdpbllacfljmoaaGreatProg
import Derived.Test.YtdpbllacfljmoaaGreatZB24
import Derived.Test.YtdpbllacfljmoaaGreatZB13
set_option maxRecDepth 100000
set_option maxHeartbeats 16000000
set_option linter.unusedVariables false
namespace Go.Proofs
open Go.Shelf
def Tryz.sortInts_ren : Go.Shelf.Ren := ⟨fun | 189 => 66 | 125 => 118 | 257 => 117 | 128 => 175 | 129 => 176 | 294 => 166 | 295 => 167 | 296 => 168 | 297 => 169 | 298 => 170 | 299 => 171 | 216 => 172 | 300 => 173 | 301 => 174 | 328 => 213 | 329 => 214 | 330 => 215 | 331 => 216 | 332 => 217 | 215 => 207 | 343 => 252 | n => n, fun | 28 => 57 | 3 => 3 | 46 => 180 | 0 => 0 | 51 => 224 | 53 => 22 | 4 => 4 | 183 => 217 | 182 => 216 | 131 => 221 | 5 => 5 | 9 => 9 | 218 => 253 | 222 => 256 | 228 => 277 | 229 => 278 | n => n, fun | n => n⟩
theorem Tryz.sortInts : Go.Proofs.Lays.n189 Tryz.prog Tryz.sortInts_ren := {
 mixed := by kernel_rfl
 f125 := Tryz.func118.trans (congrArg some (by kernel_rfl))
 f128 := Tryz.func175.trans (congrArg some (by kernel_rfl))
 f129 := Tryz.func176.trans (congrArg some (by kernel_rfl))
 f189 := Tryz.func66.trans (congrArg some (by kernel_rfl))
 f215 := Tryz.func207.trans (congrArg some (by kernel_rfl))
 f216 := Tryz.func172.trans (congrArg some (by kernel_rfl))
 f257 := Tryz.func117.trans (congrArg some (by kernel_rfl))
 f294 := Tryz.func166.trans (congrArg some (by kernel_rfl))
 f295 := Tryz.func167.trans (congrArg some (by kernel_rfl))
 f296 := Tryz.func168.trans (congrArg some (by kernel_rfl))
 f297 := Tryz.func169.trans (congrArg some (by kernel_rfl))
 f298 := Tryz.func170.trans (congrArg some (by kernel_rfl))
 f299 := Tryz.func171.trans (congrArg some (by kernel_rfl))
 f300 := Tryz.func173.trans (congrArg some (by kernel_rfl))
 f301 := Tryz.func174.trans (congrArg some (by kernel_rfl))
 f328 := Tryz.func213.trans (congrArg some (by kernel_rfl))
 f329 := Tryz.func214.trans (congrArg some (by kernel_rfl))
 f330 := Tryz.func215.trans (congrArg some (by kernel_rfl))
 f331 := Tryz.func216.trans (congrArg some (by kernel_rfl))
 f332 := Tryz.func217.trans (congrArg some (by kernel_rfl))
 f343 := Tryz.func252.trans (congrArg some (by kernel_rfl))
 t0 := Tryz.underlying0
 a0 := Tryz.isAgg0
 z0 := Tryz.sizeOf0
 v0 := Tryz.zeroValue0
 t3 := Tryz.underlying3
 a3 := Tryz.isAgg3
 z3 := Tryz.sizeOf3
 v3 := Tryz.zeroValue3
 t4 := Tryz.underlying4
 a4 := Tryz.isAgg4
 z4 := Tryz.sizeOf4
 v4 := Tryz.zeroValue4
 t5 := Tryz.underlying5
 a5 := Tryz.isAgg5
 z5 := Tryz.sizeOf5
 v5 := Tryz.zeroValue5
 t9 := Tryz.underlying9
 a9 := Tryz.isAgg9
 z9 := Tryz.sizeOf9
 v9 := Tryz.zeroValue9
 t28 := Tryz.underlying57
 a28 := Tryz.isAgg57
 z28 := Tryz.sizeOf57
 v28 := Tryz.zeroValue57
 t46 := Tryz.underlying180
 a46 := Tryz.isAgg180
 z46 := Tryz.sizeOf180
 v46 := Tryz.zeroValue180
 t51 := Tryz.underlying224
 a51 := Tryz.isAgg224
 z51 := Tryz.sizeOf224
 v51 := Tryz.zeroValue224
 t53 := Tryz.underlying22
 a53 := Tryz.isAgg22
 z53 := Tryz.sizeOf22
 v53 := Tryz.zeroValue22
 t131 := Tryz.underlying221
 a131 := Tryz.isAgg221
 z131 := Tryz.sizeOf221
 v131 := Tryz.zeroValue221
 t182 := Tryz.underlying216
 a182 := Tryz.isAgg216
 z182 := Tryz.sizeOf216
 v182 := Tryz.zeroValue216
 t183 := Tryz.underlying217
 a183 := Tryz.isAgg217
 z183 := Tryz.sizeOf217
 v183 := Tryz.zeroValue217
 t218 := Tryz.underlying253
 a218 := Tryz.isAgg253
 z218 := Tryz.sizeOf253
 v218 := Tryz.zeroValue253
 t222 := Tryz.underlying256
 a222 := Tryz.isAgg256
 z222 := Tryz.sizeOf256
 v222 := Tryz.zeroValue256
 t228 := Tryz.underlying277
 a228 := Tryz.isAgg277
 z228 := Tryz.sizeOf277
 v228 := Tryz.zeroValue277
 t229 := Tryz.underlying278
 a229 := Tryz.isAgg278
 z229 := Tryz.sizeOf278
 v229 := Tryz.zeroValue278 }
def Tryz.keysN_ren : Go.Shelf.Ren := ⟨fun | 7 => 185 | 10 => 237 | n => n, fun | 23 => 115 | 26 => 9 | 3 => 37 | 28 => 232 | 0 => 0 | 27 => 231 | 33 => 258 | 4 => 4 | n => n, fun | n => n⟩
theorem Tryz.keysN : Go.Proofs.SlLaysZ.n7 Tryz.prog Tryz.keysN_ren := {
 mixed := by kernel_rfl
 f7 := ⟨Tryz.f185.name, by decide, Tryz.func185.trans (congrArg some (by kernel_rfl))⟩
 f10 := ⟨Tryz.f237.name, by decide, Tryz.func237.trans (congrArg some (by kernel_rfl))⟩
 t0 := Tryz.underlying0
 a0 := Tryz.isAgg0
 z0 := Tryz.sizeOf0
 v0 := Tryz.zeroValue0
 t4 := Tryz.underlying4
 a4 := Tryz.isAgg4
 z4 := Tryz.sizeOf4
 v4 := Tryz.zeroValue4
 t23 := Tryz.underlying115
 a23 := Tryz.isAgg115
 z23 := Tryz.sizeOf115
 v23 := Tryz.zeroValue115
 t26 := Tryz.underlying9
 a26 := Tryz.isAgg9
 z26 := Tryz.sizeOf9
 v26 := Tryz.zeroValue9
 t27 := Tryz.underlying231
 a27 := Tryz.isAgg231
 z27 := Tryz.sizeOf231
 v27 := Tryz.zeroValue231
 t28 := Tryz.underlying232
 a28 := Tryz.isAgg232
 z28 := Tryz.sizeOf232
 v28 := Tryz.zeroValue232
 t33 := Tryz.underlying258
 a33 := Tryz.isAgg258
 z33 := Tryz.sizeOf258
 v33 := Tryz.zeroValue258 }
def Tryz.sortedN_ren : Go.Shelf.Ren := ⟨fun | 6 => 184 | 8 => 235 | 9 => 236 | 11 => 264 | 13 => 118 | 12 => 265 | 23 => 175 | 24 => 176 | 14 => 273 | 15 => 274 | 16 => 275 | 17 => 276 | 18 => 277 | 19 => 278 | 20 => 218 | 21 => 279 | 22 => 280 | 25 => 290 | 26 => 214 | 27 => 215 | 28 => 291 | 29 => 292 | 30 => 253 | 31 => 297 | n => n, fun | 26 => 9 | 28 => 232 | 24 => 163 | 0 => 0 | 3 => 3 | 37 => 180 | 48 => 224 | 50 => 22 | 4 => 4 | 40 => 217 | 39 => 216 | 45 => 221 | 5 => 5 | 9 => 9 | 51 => 253 | 55 => 256 | 57 => 277 | 58 => 278 | 33 => 258 | n => n, fun | n => n⟩
theorem Tryz.sortedN : Go.Proofs.SlLaysZ.n6 Tryz.prog Tryz.sortedN_ren := {
 mixed := by kernel_rfl
 f6 := ⟨Tryz.f184.name, by decide, Tryz.func184.trans (congrArg some (by kernel_rfl))⟩
 f8 := ⟨Tryz.f235.name, by decide, Tryz.func235.trans (congrArg some (by kernel_rfl))⟩
 f11 := ⟨Tryz.f264.name, by decide, Tryz.func264.trans (congrArg some (by kernel_rfl))⟩
 t0 := Tryz.underlying0
 a0 := Tryz.isAgg0
 z0 := Tryz.sizeOf0
 v0 := Tryz.zeroValue0
 t24 := Tryz.underlying163
 a24 := Tryz.isAgg163
 z24 := Tryz.sizeOf163
 v24 := Tryz.zeroValue163
 t26 := Tryz.underlying9
 a26 := Tryz.isAgg9
 z26 := Tryz.sizeOf9
 v26 := Tryz.zeroValue9
 t28 := Tryz.underlying232
 a28 := Tryz.isAgg232
 z28 := Tryz.sizeOf232
 v28 := Tryz.zeroValue232
 i26 := by kernel_rfl }
def Tryz.sortN_ren : Go.Shelf.Ren := ⟨fun | 6 => 236 | 8 => 118 | 9 => 265 | 19 => 175 | 20 => 176 | 21 => 273 | 22 => 274 | 23 => 275 | 24 => 276 | 25 => 277 | 26 => 278 | 27 => 218 | 28 => 279 | 29 => 280 | 36 => 290 | 31 => 214 | 32 => 215 | 37 => 291 | 38 => 292 | 39 => 253 | 41 => 297 | n => n, fun | 27 => 163 | 29 => 9 | 3 => 3 | 32 => 180 | 26 => 163 | 0 => 0 | 44 => 224 | 46 => 22 | 4 => 4 | 36 => 217 | 35 => 216 | 41 => 221 | 5 => 5 | 9 => 9 | 53 => 253 | 57 => 256 | 63 => 277 | 64 => 278 | n => n, fun | n => n⟩
theorem Tryz.sortN : Go.Proofs.SlLaysM.n6 Tryz.prog Tryz.sortN_ren := {
 mixed := by kernel_rfl
 f6 := ⟨Tryz.f236.name, by decide, Tryz.func236.trans (congrArg some (by kernel_rfl))⟩
 f8 := Tryz.func118.trans (congrArg some (by kernel_rfl))
 f9 := ⟨Tryz.f265.name, by decide, Tryz.func265.trans (congrArg some (by kernel_rfl))⟩
 f19 := Tryz.func175.trans (congrArg some (by kernel_rfl))
 f20 := Tryz.func176.trans (congrArg some (by kernel_rfl))
 f21 := ⟨Tryz.f273.name, by decide, Tryz.func273.trans (congrArg some (by kernel_rfl))⟩
 f22 := ⟨Tryz.f274.name, by decide, Tryz.func274.trans (congrArg some (by kernel_rfl))⟩
 f23 := ⟨Tryz.f275.name, by decide, Tryz.func275.trans (congrArg some (by kernel_rfl))⟩
 f24 := ⟨Tryz.f276.name, by decide, Tryz.func276.trans (congrArg some (by kernel_rfl))⟩
 f25 := ⟨Tryz.f277.name, by decide, Tryz.func277.trans (congrArg some (by kernel_rfl))⟩
 f26 := ⟨Tryz.f278.name, by decide, Tryz.func278.trans (congrArg some (by kernel_rfl))⟩
 f27 := ⟨Tryz.f218.name, by decide, Tryz.func218.trans (congrArg some (by kernel_rfl))⟩
 f28 := ⟨Tryz.f279.name, by decide, Tryz.func279.trans (congrArg some (by kernel_rfl))⟩
 f29 := ⟨Tryz.f280.name, by decide, Tryz.func280.trans (congrArg some (by kernel_rfl))⟩
 f31 := Tryz.func214.trans (congrArg some (by kernel_rfl))
 f32 := Tryz.func215.trans (congrArg some (by kernel_rfl))
 f36 := ⟨Tryz.f290.name, by decide, Tryz.func290.trans (congrArg some (by kernel_rfl))⟩
 f37 := ⟨Tryz.f291.name, by decide, Tryz.func291.trans (congrArg some (by kernel_rfl))⟩
 f38 := ⟨Tryz.f292.name, by decide, Tryz.func292.trans (congrArg some (by kernel_rfl))⟩
 f39 := ⟨Tryz.f253.name, by decide, Tryz.func253.trans (congrArg some (by kernel_rfl))⟩
 f41 := ⟨Tryz.f297.name, by decide, Tryz.func297.trans (congrArg some (by kernel_rfl))⟩
 t0 := Tryz.underlying0
 a0 := Tryz.isAgg0
 z0 := Tryz.sizeOf0
 v0 := Tryz.zeroValue0
 t3 := Tryz.underlying3
 a3 := Tryz.isAgg3
 z3 := Tryz.sizeOf3
 v3 := Tryz.zeroValue3
 t4 := Tryz.underlying4
 a4 := Tryz.isAgg4
 z4 := Tryz.sizeOf4
 v4 := Tryz.zeroValue4
 t5 := Tryz.underlying5
 a5 := Tryz.isAgg5
 z5 := Tryz.sizeOf5
 v5 := Tryz.zeroValue5
 t9 := Tryz.underlying9
 a9 := Tryz.isAgg9
 z9 := Tryz.sizeOf9
 v9 := Tryz.zeroValue9
 t26 := Tryz.underlying163
 a26 := Tryz.isAgg163
 z26 := Tryz.sizeOf163
 v26 := Tryz.zeroValue163
 t27 := Tryz.underlying163
 a27 := Tryz.isAgg163
 z27 := Tryz.sizeOf163
 v27 := Tryz.zeroValue163
 t29 := Tryz.underlying9
 a29 := Tryz.isAgg9
 z29 := Tryz.sizeOf9
 v29 := Tryz.zeroValue9
 t32 := Tryz.underlying180
 a32 := Tryz.isAgg180
 z32 := Tryz.sizeOf180
 v32 := Tryz.zeroValue180
 t35 := Tryz.underlying216
 a35 := Tryz.isAgg216
 z35 := Tryz.sizeOf216
 v35 := Tryz.zeroValue216
 t36 := Tryz.underlying217
 a36 := Tryz.isAgg217
 z36 := Tryz.sizeOf217
 v36 := Tryz.zeroValue217
 t41 := Tryz.underlying221
 a41 := Tryz.isAgg221
 z41 := Tryz.sizeOf221
 v41 := Tryz.zeroValue221
 t44 := Tryz.underlying224
 a44 := Tryz.isAgg224
 z44 := Tryz.sizeOf224
 v44 := Tryz.zeroValue224
 t46 := Tryz.underlying22
 a46 := Tryz.isAgg22
 z46 := Tryz.sizeOf22
 v46 := Tryz.zeroValue22
 t53 := Tryz.underlying253
 a53 := Tryz.isAgg253
 z53 := Tryz.sizeOf253
 v53 := Tryz.zeroValue253
 t57 := Tryz.underlying256
 a57 := Tryz.isAgg256
 z57 := Tryz.sizeOf256
 v57 := Tryz.zeroValue256
 t63 := Tryz.underlying277
 a63 := Tryz.isAgg277
 z63 := Tryz.sizeOf277
 v63 := Tryz.zeroValue277
 t64 := Tryz.underlying278
 a64 := Tryz.isAgg278
 z64 := Tryz.sizeOf278
 v64 := Tryz.zeroValue278 }
def Tryz.sortP_ren : Go.Shelf.Ren := ⟨fun | 6 => 128 | 15 => 118 | 14 => 182 | 28 => 175 | 29 => 176 | 20 => 226 | 21 => 227 | 22 => 228 | 23 => 229 | 24 => 230 | 25 => 231 | 26 => 232 | 27 => 233 | 46 => 261 | 47 => 214 | 48 => 215 | 49 => 262 | 50 => 263 | 57 => 272 | n => n, fun | 22 => 41 | 24 => 107 | 25 => 191 | 3 => 3 | 39 => 180 | 0 => 0 | 53 => 224 | 55 => 22 | 4 => 4 | 46 => 217 | 45 => 216 | 50 => 221 | 5 => 5 | 9 => 9 | 66 => 253 | 70 => 256 | 76 => 277 | 77 => 278 | n => n, fun | n => n⟩
theorem Tryz.sortP : Go.Proofs.SlLaysF0.n6 Tryz.prog Tryz.sortP_ren := {
 mixed := by kernel_rfl
 f6 := ⟨Tryz.f128.name, by decide, Tryz.func128.trans (congrArg some (by kernel_rfl))⟩
 f14 := ⟨Tryz.f182.name, by decide, Tryz.func182.trans (congrArg some (by kernel_rfl))⟩
 f15 := Tryz.func118.trans (congrArg some (by kernel_rfl))
 f20 := ⟨Tryz.f226.name, by decide, Tryz.func226.trans (congrArg some (by kernel_rfl))⟩
 f21 := ⟨Tryz.f227.name, by decide, Tryz.func227.trans (congrArg some (by kernel_rfl))⟩
 f22 := ⟨Tryz.f228.name, by decide, Tryz.func228.trans (congrArg some (by kernel_rfl))⟩
 f23 := ⟨Tryz.f229.name, by decide, Tryz.func229.trans (congrArg some (by kernel_rfl))⟩
 f24 := ⟨Tryz.f230.name, by decide, Tryz.func230.trans (congrArg some (by kernel_rfl))⟩
 f25 := ⟨Tryz.f231.name, by decide, Tryz.func231.trans (congrArg some (by kernel_rfl))⟩
 f26 := ⟨Tryz.f232.name, by decide, Tryz.func232.trans (congrArg some (by kernel_rfl))⟩
 f27 := ⟨Tryz.f233.name, by decide, Tryz.func233.trans (congrArg some (by kernel_rfl))⟩
 f28 := Tryz.func175.trans (congrArg some (by kernel_rfl))
 f29 := Tryz.func176.trans (congrArg some (by kernel_rfl))
 f46 := ⟨Tryz.f261.name, by decide, Tryz.func261.trans (congrArg some (by kernel_rfl))⟩
 f47 := Tryz.func214.trans (congrArg some (by kernel_rfl))
 f48 := Tryz.func215.trans (congrArg some (by kernel_rfl))
 f49 := ⟨Tryz.f262.name, by decide, Tryz.func262.trans (congrArg some (by kernel_rfl))⟩
 f50 := ⟨Tryz.f263.name, by decide, Tryz.func263.trans (congrArg some (by kernel_rfl))⟩
 f57 := ⟨Tryz.f272.name, by decide, Tryz.func272.trans (congrArg some (by kernel_rfl))⟩
 t0 := Tryz.underlying0
 a0 := Tryz.isAgg0
 z0 := Tryz.sizeOf0
 v0 := Tryz.zeroValue0
 t3 := Tryz.underlying3
 a3 := Tryz.isAgg3
 z3 := Tryz.sizeOf3
 v3 := Tryz.zeroValue3
 t4 := Tryz.underlying4
 a4 := Tryz.isAgg4
 z4 := Tryz.sizeOf4
 v4 := Tryz.zeroValue4
 t5 := Tryz.underlying5
 a5 := Tryz.isAgg5
 z5 := Tryz.sizeOf5
 v5 := Tryz.zeroValue5
 t9 := Tryz.underlying9
 a9 := Tryz.isAgg9
 z9 := Tryz.sizeOf9
 v9 := Tryz.zeroValue9
 t22 := Tryz.underlying41
 a22 := Tryz.isAgg41
 z22 := Tryz.sizeOf41
 v22 := Tryz.zeroValue41
 t25 := Tryz.underlying191
 a25 := Tryz.isAgg191
 z25 := Tryz.sizeOf191
 v25 := Tryz.zeroValue191
 t39 := Tryz.underlying180
 a39 := Tryz.isAgg180
 z39 := Tryz.sizeOf180
 v39 := Tryz.zeroValue180
 t45 := Tryz.underlying216
 a45 := Tryz.isAgg216
 z45 := Tryz.sizeOf216
 v45 := Tryz.zeroValue216
 t46 := Tryz.underlying217
 a46 := Tryz.isAgg217
 z46 := Tryz.sizeOf217
 v46 := Tryz.zeroValue217
 t50 := Tryz.underlying221
 a50 := Tryz.isAgg221
 z50 := Tryz.sizeOf221
 v50 := Tryz.zeroValue221
 t53 := Tryz.underlying224
 a53 := Tryz.isAgg224
 z53 := Tryz.sizeOf224
 v53 := Tryz.zeroValue224
 t55 := Tryz.underlying22
 a55 := Tryz.isAgg22
 z55 := Tryz.sizeOf22
 v55 := Tryz.zeroValue22
 t66 := Tryz.underlying253
 a66 := Tryz.isAgg253
 z66 := Tryz.sizeOf253
 v66 := Tryz.zeroValue253
 t70 := Tryz.underlying256
 a70 := Tryz.isAgg256
 z70 := Tryz.sizeOf256
 v70 := Tryz.zeroValue256
 t76 := Tryz.underlying277
 a76 := Tryz.isAgg277
 z76 := Tryz.sizeOf277
 v76 := Tryz.zeroValue277
 t77 := Tryz.underlying278
 a77 := Tryz.isAgg278
 z77 := Tryz.sizeOf278
 v77 := Tryz.zeroValue278 }
end Go.Proofs
namespace Go.Proofs.YtdpbllacfljmoaaGreat
open Go.RowKit
theorem qeH : q21 Tryz.prog 3 1 8 := q21.of (by kernel_rfl)
theorem q72 : ∀ (d ks : List Int), d.Nodup → (∀ k ∈ d, k ∈ ks) → d.length ≤ ks.length
 | [], _, _, _ => by simp
 | k :: d, ks, hn, hs => by
  obtain ⟨h1, h2⟩ := List.nodup_cons.1 hn
  have hk := hs k (List.mem_cons_self ..)
  have ih := q72 d (ks.erase k) h2 fun x hx => (List.mem_erase_of_ne (fun e => h1 (by rw [← e]; exact hx))).2 (hs x (List.mem_cons_of_mem _ hx))
  have hl := List.length_erase_of_mem hk
  have hp := List.length_pos_of_mem hk
  rw [List.length_cons]
  omega
def q2o (z : Int) : List Value := [.int .i64 z]
theorem izF : q0Z 1 q2o := ⟨by decide, fun _ => rfl, fun x v hv => by
 simp only [q2o, List.mem_cons, List.not_mem_nil, or_false] at hv
 subst hv
 rfl⟩
section
variable {w w' : World} {o p : Nat} {ρ : q0m} {L : LimT} {b : q05} {ps B : Nat} {P : Nat → TxP} {rv hv : Value}
theorem qbn (h : RawB w o p ρ L b ps B P rv hv) (hl : b.live.length ≤ 1000)
  (hsort : ∀ (zs : List Int) (v : Value) (W : World), zs.length ≤ 1000 → OwnG 3 1 q2o W w.heap.size v zs → w.heap.size ≤ W.heap.size → Below w.heap.size w W → Calls Tryz.prog 66 #[v] W fun e w' => e = .returned (.tuple #[]) ∧ OwnG 3 1 q2o w' w.heap.size v (zs.mergeSort fun x y => decide (x ≤ y)) ∧ Below w.heap.size w w') :
  Calls Tryz.prog 24 #[ptrS p] w fun r w' => ∃ (v : Value) (zs : List Int), r = .returned v ∧ zs.Nodup ∧ (∀ z, z ∈ zs ↔ ∃ t ∈ b.live, (t.id : Int) = z) ∧ OwnG 3 1 q2o w' w.heap.size v (zs.mergeSort fun x y => decide (x ≤ y)) ∧ Below w.heap.size w w' := by
 have c8 := h.live_
 have HM := qh (q16 h)
 have HSrt := qh hsort
 have HLn := qh hl
 obtain ⟨w0, hr0, hR0, hg0, hs0⟩ := h.live.range (P := Tryz.prog) (t := 90) (kt := 3) (et := 114) Tryz.underlying90
 have HR0 := qh hR0
 have hBl := h.live.lt
 have HB0 := qh ((Below.refl w.heap.size w).grown hg0 (Nat.le_refl _) (fun k hk => by cases hk))
 have HS0 := qh hs0
 clear h hsort hl hR0 hg0 hs0
 unfold ptrS at HM ⊢
 go_enter Tryz.func24, Tryz.ntmps24
 go_wp2_with fail
 refine HM.out.mono ?_
 rintro e w' ⟨rfl, rfl⟩
 go_wp2_with fail
 go_loopw [3] (fun u wr => ∃ done : List Int, OwnG 3 1 q2o wr (w'.heap.size + 1) u done ∧ q0T intK wr B w'.heap.size (q2E b.live P) done ∧ done.Nodup ∧ (∀ z ∈ done, z ∈ b.live.map fun t => (t.id : Int)) ∧ Below w'.heap.size w' wr) (fun _ wr => wr.rangeLeft B w'.heap.size)
 case atStart => exact ⟨[], OwnG.none_ _ _ _ _ _, HR0.out, List.nodup_nil, (fun _ h => by cases h), HB0.out⟩
 case round =>
  obtain ⟨done, ho, hR, hnd, hsb, hb⟩ := hrel
  have hlen := q72 done _ hnd hsb
  rw [List.length_map] at hlen
  have hll := HLn.out
  have HNd := qh hnd
  have HSb := qh hsb
  have HB := qh hb
  have HO := qh ho
  rcases hR.next (P := Tryz.prog) 0 with ⟨hd, hnx⟩ | ⟨id, v, w1, hf, hnot, hnx, hR1, hg1, hs1, hen, hlt⟩
  ·have HS := qh (HSrt.out done u3 wr (by omega) (HO.out.keep (fun _ _ _ => rfl) (by omega)) HB.out.size HB.out)
   have HMem := qh (show ∀ z, z ∈ done ↔ ∃ t ∈ b.live, (t.id : Int) = z from fun z => ⟨fun h => List.mem_map.1 (HSb.out z h), fun ⟨t, ht, e⟩ => by rw [← e]; exact hd _ (q6a ht)⟩)
   clear ho hR hnd hsb hb hd
   go_wp2_with fail
   refine HS.out.mono ?_
   rintro e w9 ⟨rfl, ho9, hb9⟩
   have HO9 := qh ho9
   have HB9 := qh hb9
   clear ho9 hb9 HS
   go_wp2_with fail
   go_ret
   exact ⟨_, done, rfl, HNd.out, HMem.out, HO9.out, HB9.out⟩
  ·obtain ⟨t, ht, rfl, rfl⟩ := q4U hf
   have hb1 := q6E hb hg1 (Nat.le_refl _) hb.size
   have HB1 := qh hb1
   have HO1 := qh (HO.out.keep (w' := w1) (lo' := w'.heap.size + 1) (fun g hg hgl => hg1.block g hgl (fun e => by injection e with e; have := (HO.out.lt g hg).1; omega)) (Nat.le_refl _))
   have HR1 := qh hR1
   have HNd1 := qh (show (done ++ [(t.id : Int)]).Nodup from List.nodup_append.2 ⟨hnd, by simp, by
    intro a ha c hc
    rw [List.mem_singleton] at hc
    rw [hc]
    exact fun e => hnot (by rw [← e]; exact ha)⟩)
   have HSb1 := qh (show ∀ z ∈ done ++ [(t.id : Int)], z ∈ b.live.map fun t => (t.id : Int) from fun z hz => by
    rcases List.mem_append.1 hz with q | q
    ·exact hsb z q
    ·rw [List.mem_singleton] at q
     rw [q]
     exact List.mem_map.2 ⟨t, ht, rfl⟩)
   have HNot := qh hnot
   have HR := qh hR
   have hbs := hb1.size
   have hrl := hR1.lt
   clear ho hR hnd hsb hb hf hnot hR1 hg1 hs1 hlt ht hb1
   unfold ptrS at hnx hen
   simp only [intK] at hnx hen
   go_wp2_with (at_builtin; refine q10 _ rfl _ _ 57 3 8 izF qeH Tryz.underlying57 rfl (w'.heap.size + 1) _ done rfl (HO1.out.allocs _) w1.heap.size (w1.heap.size + 1) ⟨w1.heap.size, 0, none⟩ 1 1 [(t.id : Int)] rfl rfl (RowG.one (cs := q2o) (heap_alloc_new w1 _)) (by simp only [List.length_singleton]; unfold maxLen; omega) (by simp only [List.length_singleton]; omega) (by simp; omega) ?_; intro v1 w5 ho5 hg5 hat5; have HO5 := qh ho5; have HG5 := qh hg5; clear ho5 hg5 hat5)
   have hul : ∀ g, u3.ownBlock = some g → w'.heap.size + 1 ≤ g := fun g hg => (HO1.out.lt g hg).1
   have hB5 := HB1.out.alloc HB1.out.size (.cells #[.int .i64 (t.id : Nat)] 3)
   have hb5 : Below w'.heap.size w' w5 := hB5.grown HG5.out (by simp; omega) (fun k hk => by have := hul k hk; omega)
   have hr5 : q0T intK w5 B w'.heap.size (q2E b.live P) (done ++ [(t.id : Int)]) := HR1.out.keep ((HG5.out.block B (by simp; omega) (fun e => by have := hul B e.symm; omega)).trans (((Below.refl _ w1).alloc (Nat.le_refl _) _).block B hrl.1)) ((HG5.out.block _ (by simp; omega) (fun e => by have := hul _ e.symm; omega)).trans (((Below.refl _ w1).alloc (Nat.le_refl _) _).block _ hrl.2.1))
   have hm5 := q0T.left HR.out hr5 HNot.out ((hb5.block B hBl).trans (HB.out.block B hBl).symm)
   have HB5 := qh hb5
   have HR5 := qh hr5
   have HM5 := qh hm5
   clear hb5 hr5 hm5 hB5 HG5
   go_roundw
   case rel => exact ⟨done ++ [(t.id : Int)], HO5.out, HR5.out, HNd1.out, HSb1.out, HB5.out⟩
   case measure => exact HM5.out
end
open Go.RowKit
def StT : q2p := fun o w p F L b => ∃ (ρ : q0m) (ps B : Nat) (P : Nat → TxP) (rv hv : Value), F = ownR ρ ∧ RawB w o p ρ L b ps B P rv hv ∧ OkTx L (fitN L.marks) b ∧ q4I b.recs ∧ MayT L = true
section
variable {w w' : World} {o p : Nat} {ρ ρ' : q0m} {L : LimT} {b b' : q05} {ps B : Nat} {P : Nat → TxP} {rv hv : Value} {F F' : Nat → Prop}
theorem RawB.o_le (h : RawB w o p ρ L b ps B P rv hv) : o ≤ w.heap.size := by
 have := h.lo p (by rw [h.rp]; omega)
 omega
theorem q3A (h : MayT L = true) : MayS L.s = true ∧ 1 ≤ L.marks ∧ L.marks ≤ 1048576 ∧ 1 ≤ L.recs ∧ L.recs ≤ 1048576 ∧ 1 ≤ L.live ∧ L.live ≤ 64 := by
 unfold MayT at h
 simp only [Bool.and_eq_true, decide_eq_true_iff] at h
 exact ⟨h.1.1.1, h.1.1.2.1, h.1.1.2.2, h.1.2.1, h.1.2.2, h.2.1, h.2.2⟩
theorem q0s (F : Nat → Prop) (h : Below w.heap.size w w') : Mut F w w' := ⟨h.os, h.tape, h.output, h.size, fun k hk _ => h.block k hk⟩
theorem StT.turn {op : OpT} (h : StT o w p F L b) (hr : ∃ (ρ' : q0m) (ps' B' : Nat) (P' : Nat → TxP) (rv' hv' : Value), F' = ownR ρ' ∧ RawB w' o p ρ' L (q1T (FT L) L b op).1 ps' B' P' rv' hv') : StT o w' p F' L (q1T (FT L) L b op).1 := by
 obtain ⟨ρ, ps, B, P, rv, hv, _, _, hok, hri, hm⟩ := h
 obtain ⟨ρ', ps', B', P', rv', hv', e, hraw⟩ := hr
 exact ⟨ρ', ps', B', P', rv', hv', e, hraw, hok.does (fT_c L) op, qbR hok hri op, hm⟩
open Classical in
noncomputable def stoN (ρ : q0m) (F' : Nat → Prop) : q0m := fun k => if F' k then 3 else if ρ k = 3 then 0 else ρ k
theorem q37 (ρ : q0m) (F' : Nat → Prop) (k : Nat) : (F' k ∧ stoN ρ F' k = 3) ∨ (¬ F' k ∧ ρ k = 3 ∧ stoN ρ F' k = 0) ∨ (¬ F' k ∧ ρ k ≠ 3 ∧ stoN ρ F' k = ρ k) := by
 unfold stoN
 by_cases h : F' k
 ·exact .inl ⟨h, if_pos h⟩
 ·rw [if_neg h]
  by_cases h2 : ρ k = 3
  ·exact .inr (.inl ⟨h, h2, if_pos h2⟩)
  ·exact .inr (.inr ⟨h, h2, if_neg h2⟩)
theorem qf5 (ρ : q0m) (F' : Nat → Prop) : stoR (stoN ρ F') = F' := funext fun k => propext (by
 unfold stoR
 rcases q37 ρ F' k with ⟨h, e⟩ | ⟨h, _, e⟩ | ⟨h, h2, e⟩
 ·rw [e]; exact ⟨fun _ => h, fun _ => rfl⟩
 ·rw [e]; exact ⟨fun q => absurd q (by omega), fun q => absurd q h⟩
 ·rw [e]; exact ⟨fun q => absurd q h2, fun q => absurd q h⟩)
theorem q97 (h : RawB w o p ρ L b ps B P rv hv) (hm : Mut (stoR ρ) w w') (hF : ∀ k, F' k → stoR ρ k ∨ w.heap.size ≤ k) : q0K (fun n => n = 3) ρ (stoN ρ F') w w' := ⟨hm.size, fun k h1 h2 h3 => by
 have hn : ¬ F' k := fun hk => by
  rcases hF k hk with q | q
  ·exact h3 q
  ·omega
 refine ⟨hm.block k h1 (fun q => h3 q), ?_⟩
 rcases q37 ρ F' k with ⟨q, _⟩ | ⟨_, q, _⟩ | ⟨_, _, e⟩
 ·exact absurd q hn
 ·exact absurd q h3
 ·exact e⟩
theorem RawB.storeT {st' : PS} (h : RawB w o p ρ L b ps B P rv hv) (hm : Mut (stoR ρ) w w') (hs : StD w' ps F' L.s st') (hF : ∀ k, F' k → stoR ρ k ∨ w.heap.size ≤ k) : RawB w' o p (stoN ρ F') L ⟨st', b.live, b.recs, b.hist, b.last, b.event⟩ ps B P rv hv := by
 have s := q97 h hm hF
 obtain ⟨p1, p2⟩ := s.same p (q00 h.box) (by rw [h.rp]; omega) (by rw [h.rp]; omega)
 obtain ⟨b1, b2⟩ := s.same B h.live.lt (by rw [h.rB]; omega) (by rw [h.rB]; omega)
 refine ⟨p1.trans h.box, h.live.keep b1, ?_, fun t ht => (h.txs t ht).step s (by omega) (by omega) (by omega), h.recs.step s (by omega) (by omega), h.hist.step s (by omega) (by omega), p2.trans h.rp, b2.trans h.rB, fun k hk => ?_⟩
 ·rw [qf5]; exact hs
 ·have hk' : ρ k ≠ 0 ∨ F' k := by
   rcases q37 ρ F' k with ⟨q, _⟩ | ⟨_, _, e⟩ | ⟨_, _, e⟩
   ·exact .inr q
   ·exact absurd e hk
   ·exact .inl (by rw [← e]; exact hk)
  rcases hk' with q | q
  ·exact ⟨(h.lo k q).1, Nat.lt_of_lt_of_le (h.lo k q).2 hm.size⟩
  ·refine ⟨?_, q1P.upto hs k q⟩
   rcases hF k q with q2 | q2
   ·exact (h.lo k (by rw [show ρ k = 3 from q2]; omega)).1
   ·exact Nat.le_trans h.o_le q2
theorem qaV (hF : ∀ k, F' k → stoR ρ k ∨ w.heap.size ≤ k) : ∀ k, ownR (stoN ρ F') k → ownR ρ k ∨ w.heap.size ≤ k := fun k hk => by
 unfold ownR at *
 rcases q37 ρ F' k with ⟨q, _⟩ | ⟨_, _, e⟩ | ⟨_, _, e⟩
 ·rcases hF k q with q2 | q2
  ·exact .inl (by rw [show ρ k = 3 from q2]; omega)
  ·exact .inr q2
 ·exact absurd e hk
 ·exact .inl (by rw [← e]; exact hk)
theorem q7n (h : StT o w p F L b) : Calls Tryz.prog 46 #[ptrS p] w fun r w' => r = .returned (.int .i64 ((q1H b).2.n : Nat)) ∧ ∃ F', q23 StT o w p F L (q1H b).1 w' F' := by
 have hst := h
 obtain ⟨ρ, ps, B, P, rv, hv, rfl, hraw, hok, hri, hm⟩ := h
 have hlow : lowT b < 18446744073709551616 := Nat.lt_of_le_of_lt (q7C b) hraw.time_lt
 have HM := qh (q16 hraw)
 have HL : Hid (∀ W : World, Below w.heap.size w W → Calls Tryz.prog 21 #[ptrS p] W fun e w' => e = .returned (.int .u64 (lowT b : Nat)) ∧ Below w.heap.size w w') :=
  qh fun W hb => (q4n (hraw.below hb) hok.ids).mono fun _ _ q => ⟨q.1, hb.trans (q.2.mono hb.size)⟩
 have HC : Hid (∀ W : World, Below w.heap.size w W → Calls Tryz.prog 89 #[ptrS ps, .int .u64 (lowT b : Nat)] W fun e w' => e = .returned (.int .i64 ((q1H b).2.n : Nat)) ∧ ∃ F', StD w' ps F' L.s ⟨b.st.time, q07 b.st.K (lowT b)⟩ ∧ Mut (stoR ρ) W w' ∧ ∀ k, F' k → stoR ρ k ∨ W.heap.size ≤ k) :=
  qh fun W hb => q1P.collect ps _ _ _ (lowT b) W (hraw.below hb).store hlow
 obtain ⟨S, hS1, hS2, hS3⟩ : ∃ S : World → Prop, (∀ W : World, Below w.heap.size w W → S W) ∧ (∀ W W' : World, Below w.heap.size w W → Mut (stoR ρ) W W' → S W') ∧ ∀ W : World, S W → W.cell? ⟨p, 7, none⟩ = some (ptrS ps) := by
  refine ⟨fun W => W.cell? ⟨p, 7, none⟩ = some (ptrS ps), fun W hb => (hraw.below hb).store_, fun W W' hb hmt => ?_, fun _ h => h⟩
  have h1 := hraw.below hb
  show W'.cell? ⟨p, 7, none⟩ = _
  rw [World.cell?_of_block (a := ⟨p, 7, none⟩) (hmt.block p (q00 h1.box) (fun q => by have := h1.rp; unfold stoR at q; omega))]
  exact h1.store_
 have HKp := qh hS1
 have HKm := qh hS2
 have HRd := qh hS3
 have HRaw := qh hraw
 have HSt := qh hst
 clear hst hraw hok hri hm hlow hS1 hS2 hS3
 unfold ptrS at HM HL HC HRd ⊢
 go_enter Tryz.func46, Tryz.ntmps46
 go_wp2_with fail
 refine HM.out.mono ?_
 rintro e w' ⟨rfl, rfl⟩
 go_wp2_with fail
 refine wp_region_held_drew (S := S) (by kernel_rfl) ?_ (fun hGd => ?_)
 ·exact HKp.out _ (Below.refl _ _).drew
 refine tkS (i := 0) (v := ?_) ?_
 (try simp only [Act.put, qA, qB, qC])
 refine tkS (i := 1) (v := ?_) ?_
 (try simp only [Act.put, qA, qB, qC])
 refine tkS (i := 2) (v := ?_) ?_
 (try simp only [Act.put, qA, qB, qC])
 refine tkH (i := 3) (v := ?_) (fun w hSw => ?_) ?_
 rotate_left
 ·have z7 := HRd.out _ hSw; go_simp <;> with_reducible rfl
 (try simp only [Act.put, qA, qB, qC])
 refine tkS (i := 4) (v := ?_) ?_
 (try simp only [Act.put, qA, qB, qC])
 refine stH (i := 5) (fun K' hK => ?_)
 go_simp
 go_at_call 21; with_reducible refine (HL.out _ (Below.refl _ _).drew).mono ?_; rintro r w2 ⟨rfl, hb2⟩
 (first | (refine hK.out _ _ ?_ (fun hG2 => ?_)) | (go_wp2_with fail; refine hK.out _ _ ?_ (fun hG2 => ?_)))
 ·exact HKp.out _ hb2
 clear hK K' hGd
 have hGd := hG2
 clear hG2
 (try simp only [Act.put, qA, qB, qC])
 refine stH (i := 6) (fun K' hK => ?_)
 go_simp
 go_at_call 89; with_reducible refine (HC.out _ hb2).mono ?_; rintro r w3 ⟨rfl, F3, hs3, hm3, hf3⟩
 (first | (refine hK.out _ _ ?_ (fun hG2 => ?_)) | (go_wp2_with fail; refine hK.out _ _ ?_ (fun hG2 => ?_)))
 ·exact HKm.out _ _ hb2 hm3
 clear hK K' hGd
 have hGd := hG2
 clear hG2
 (try simp only [Act.put, qA, qB, qC])
 refine tkS (i := 7) (v := ?_) ?_
 (try simp only [Act.put, qA, qB, qC])
 refine wpAnyH_done (by kernel_rfl) ?_ _
 go_wp2_with fail
 go_ret
 have hraw2 := HRaw.out.below hb2
 refine ⟨rfl, ownR (stoN ρ F3), ?_, ?_, fun k hk => ?_⟩
 ·exact StT.turn (op := ⟨6, 0, ⟨[], false, []⟩, []⟩) HSt.out ⟨_, ps, B, P, rv, hv, rfl, hraw2.storeT hm3 hs3 hf3⟩
 ·exact (q0s _ hb2).trans hm3 (fun k hk => .inl (by unfold ownR; rw [show ρ k = 3 from hk]; omega))
 ·rcases qaV hf3 k hk with q | q
  ·exact .inl q
  ·exact .inr (Nat.le_trans hb2.size q)
end
end Go.Proofs.YtdpbllacfljmoaaGreat
