/- What the proof of FnExactGreater stands on, part 3 of 8: each piece says what it proves and under which conditions. Conditions: as each piece says. -/
import Derived.Test.YtkecnljdloffdabPackExactGreater2
import Derived.Shelf.Small.Bits
import Derived.Shelf.Small.Wraps
import Derived.Shelf.Strconv.Itoa0
import Derived.Shelf.Sort.Plain
import Derived.Ground.GgsProg
import Derived.Shelf.GgSortFunc.Tiny
import Derived.Ground.Names2Prog
import Derived.Shelf.Slices.CompactI
import Derived.Shelf.Slices.Cells
import Derived.Shelf.Slices.In.SortNone
import Derived.Shelf.SlSortFunc.Xorshift
import Derived.Test.YtkecnljdloffdabProg
import Derived.Sort.OwnSortedInts
import Derived.Lib.OwnBridge
import Derived.Lib.RowBridge
import Derived.BigQuiet
import Derived.Deep.QuietTactic
import Derived.OpenShut
import Derived.ProofKit
import Derived.WalkKit
import Derived.WalkSmall
import Derived.Tactics
import Derived.Deep.RegionHeld3
/- The library's contracts for slices.Sort, slices.Compact, sort.Slice and what they call, laid at this program by the kit's own tool, in plain words. Conditions: as each says. -/
namespace Go.Proofs
open Go.Shelf
def Try.lays128_ren : Go.Shelf.Ren := ⟨fun | 128 => 104 | n => n, fun | 51 => 134 | 3 => 3 | 4 => 4 | 46 => 121 | 5 => 5 | 9 => 9 | n => n, fun | n => n⟩
theorem Try.lays128 : Go.Proofs.Lays.n128 Try.prog Try.lays128_ren := {
  mixed := by kernel_rfl
  f128 := Try.func104.trans (congrArg some (by kernel_rfl))
  t3 := Try.underlying3
  a3 := Try.isAgg3
  z3 := Try.sizeOf3
  v3 := Try.zeroValue3
  t4 := Try.underlying4
  a4 := Try.isAgg4
  z4 := Try.sizeOf4
  v4 := Try.zeroValue4
  t5 := Try.underlying5
  a5 := Try.isAgg5
  z5 := Try.sizeOf5
  v5 := Try.zeroValue5
  t9 := Try.underlying9
  a9 := Try.isAgg9
  z9 := Try.sizeOf9
  v9 := Try.zeroValue9
  t46 := Try.underlying121
  a46 := Try.isAgg121
  z46 := Try.sizeOf121
  v46 := Try.zeroValue121
  t51 := Try.underlying134
  a51 := Try.isAgg134
  z51 := Try.sizeOf134
  v51 := Try.zeroValue134 }
theorem Try.bits_Len32 (x : Int) (w : World) (h0 : 0 ≤ x) (h1 : x ≤ 4294967295) :
    Calls Try.prog 104 #[.int .u32 x] w fun e w' => e = .returned (.int .i64 (Lib.bitLen x.toNat)) ∧ w' = w := Any.bits_Len32 Try.lays128 x w h0 h1
def Try.lays125_ren : Go.Shelf.Ren := ⟨fun | 125 => 89 | 128 => 104 | 129 => 105 | n => n, fun | 46 => 121 | 3 => 3 | 51 => 134 | 53 => 136 | 4 => 4 | 5 => 5 | 9 => 9 | n => n, fun | n => n⟩
theorem Try.lays125 : Go.Proofs.Lays.n125 Try.prog Try.lays125_ren := {
  mixed := by kernel_rfl
  f125 := Try.func89.trans (congrArg some (by kernel_rfl))
  f128 := Try.func104.trans (congrArg some (by kernel_rfl))
  f129 := Try.func105.trans (congrArg some (by kernel_rfl))
  t3 := Try.underlying3
  a3 := Try.isAgg3
  z3 := Try.sizeOf3
  v3 := Try.zeroValue3
  t4 := Try.underlying4
  a4 := Try.isAgg4
  z4 := Try.sizeOf4
  v4 := Try.zeroValue4
  t5 := Try.underlying5
  a5 := Try.isAgg5
  z5 := Try.sizeOf5
  v5 := Try.zeroValue5
  t9 := Try.underlying9
  a9 := Try.isAgg9
  z9 := Try.sizeOf9
  v9 := Try.zeroValue9
  t46 := Try.underlying121
  a46 := Try.isAgg121
  z46 := Try.sizeOf121
  v46 := Try.zeroValue121
  t51 := Try.underlying134
  a51 := Try.isAgg134
  z51 := Try.sizeOf134
  v51 := Try.zeroValue134
  t53 := Try.underlying136
  a53 := Try.isAgg136
  z53 := Try.sizeOf136
  v53 := Try.zeroValue136 }
theorem Try.bits_Len (x : Int) (w : World) (h0 : 0 ≤ x) (h1 : x ≤ 18446744073709551615) :
    Calls Try.prog 89 #[.int .u64 x] w fun e w' => e = .returned (.int .i64 (Lib.bitLen x.toNat)) ∧ w' = w := Any.bits_Len Try.lays125 x w h0 h1
def Try.lays215_ren : Go.Shelf.Ren := ⟨fun | 215 => 82 | n => n, fun | 3 => 3 | 4 => 4 | n => n, fun | n => n⟩
theorem Try.lays215 : Go.Proofs.Lays.n215 Try.prog Try.lays215_ren := {
  mixed := by kernel_rfl
  f215 := Try.func82.trans (congrArg some (by kernel_rfl))
  t3 := Try.underlying3
  a3 := Try.isAgg3
  z3 := Try.sizeOf3
  v3 := Try.zeroValue3
  t4 := Try.underlying4
  a4 := Try.isAgg4
  z4 := Try.sizeOf4
  v4 := Try.zeroValue4 }
open Go.RowKit in
theorem Try.cmp_isNaN_int (x : Int) (w : World) :
    Calls Try.prog 82 #[.int .i64 x] w fun e w' => e = .returned (.bool false) ∧ w' = w := Any.cmp_isNaN_int Try.lays215 x w
def Try.lays122_ren : Go.Shelf.Ren := ⟨fun | 122 => 66 | 215 => 82 | n => n, fun | 3 => 3 | 4 => 4 | n => n, fun | n => n⟩
theorem Try.lays122 : Go.Proofs.Lays.n122 Try.prog Try.lays122_ren := {
  mixed := by kernel_rfl
  f122 := Try.func66.trans (congrArg some (by kernel_rfl))
  f215 := Try.func82.trans (congrArg some (by kernel_rfl))
  t3 := Try.underlying3
  a3 := Try.isAgg3
  z3 := Try.sizeOf3
  v3 := Try.zeroValue3
  t4 := Try.underlying4
  a4 := Try.isAgg4
  z4 := Try.sizeOf4
  v4 := Try.zeroValue4 }
open Go.RowKit in
theorem Try.cmp_Compare_int (x y : Int) (w : World) :
    Calls Try.prog 66 #[.int .i64 x, .int .i64 y] w fun e w' => e = .returned (.int .i64 (Lib.compareInt x y)) ∧ w' = w := Any.cmp_Compare_int Try.lays122 x y w
def Try.lays129_ren : Go.Shelf.Ren := ⟨fun | 129 => 105 | n => n, fun | 53 => 136 | 3 => 3 | 4 => 4 | 46 => 121 | 5 => 5 | 9 => 9 | n => n, fun | n => n⟩
theorem Try.lays129 : Go.Proofs.Lays.n129 Try.prog Try.lays129_ren := {
  mixed := by kernel_rfl
  f129 := Try.func105.trans (congrArg some (by kernel_rfl))
  t3 := Try.underlying3
  a3 := Try.isAgg3
  z3 := Try.sizeOf3
  v3 := Try.zeroValue3
  t4 := Try.underlying4
  a4 := Try.isAgg4
  z4 := Try.sizeOf4
  v4 := Try.zeroValue4
  t5 := Try.underlying5
  a5 := Try.isAgg5
  z5 := Try.sizeOf5
  v5 := Try.zeroValue5
  t9 := Try.underlying9
  a9 := Try.isAgg9
  z9 := Try.sizeOf9
  v9 := Try.zeroValue9
  t46 := Try.underlying121
  a46 := Try.isAgg121
  z46 := Try.sizeOf121
  v46 := Try.zeroValue121
  t53 := Try.underlying136
  a53 := Try.isAgg136
  z53 := Try.sizeOf136
  v53 := Try.zeroValue136 }
theorem Try.bits_Len64 (x : Int) (w : World) (h0 : 0 ≤ x) (h1 : x ≤ 18446744073709551615) :
    Calls Try.prog 105 #[.int .u64 x] w fun e w' => e = .returned (.int .i64 (Lib.bitLen x.toNat)) ∧ w' = w := Any.bits_Len64 Try.lays129 x w h0 h1
def Try.lays189_ren : Go.Shelf.Ren := ⟨fun | 189 => 80 | 125 => 89 | 257 => 93 | 128 => 104 | 129 => 105 | 294 => 116 | 295 => 117 | 296 => 118 | 297 => 119 | 298 => 120 | 299 => 121 | 216 => 122 | 300 => 123 | 301 => 124 | 328 => 130 | 329 => 131 | 330 => 132 | 331 => 133 | 332 => 134 | 215 => 82 | 343 => 136 | n => n, fun | 28 => 60 | 3 => 3 | 46 => 121 | 0 => 0 | 51 => 134 | 53 => 136 | 4 => 4 | 183 => 147 | 182 => 146 | 131 => 85 | 5 => 5 | 9 => 9 | 218 => 158 | 222 => 156 | 228 => 164 | 229 => 162 | n => n, fun | n => n⟩
theorem Try.lays189 : Go.Proofs.Lays.n189 Try.prog Try.lays189_ren := {
  mixed := by kernel_rfl
  f125 := Try.func89.trans (congrArg some (by kernel_rfl))
  f128 := Try.func104.trans (congrArg some (by kernel_rfl))
  f129 := Try.func105.trans (congrArg some (by kernel_rfl))
  f189 := Try.func80.trans (congrArg some (by kernel_rfl))
  f215 := Try.func82.trans (congrArg some (by kernel_rfl))
  f216 := Try.func122.trans (congrArg some (by kernel_rfl))
  f257 := Try.func93.trans (congrArg some (by kernel_rfl))
  f294 := Try.func116.trans (congrArg some (by kernel_rfl))
  f295 := Try.func117.trans (congrArg some (by kernel_rfl))
  f296 := Try.func118.trans (congrArg some (by kernel_rfl))
  f297 := Try.func119.trans (congrArg some (by kernel_rfl))
  f298 := Try.func120.trans (congrArg some (by kernel_rfl))
  f299 := Try.func121.trans (congrArg some (by kernel_rfl))
  f300 := Try.func123.trans (congrArg some (by kernel_rfl))
  f301 := Try.func124.trans (congrArg some (by kernel_rfl))
  f328 := Try.func130.trans (congrArg some (by kernel_rfl))
  f329 := Try.func131.trans (congrArg some (by kernel_rfl))
  f330 := Try.func132.trans (congrArg some (by kernel_rfl))
  f331 := Try.func133.trans (congrArg some (by kernel_rfl))
  f332 := Try.func134.trans (congrArg some (by kernel_rfl))
  f343 := Try.func136.trans (congrArg some (by kernel_rfl))
  t0 := Try.underlying0
  a0 := Try.isAgg0
  z0 := Try.sizeOf0
  v0 := Try.zeroValue0
  t3 := Try.underlying3
  a3 := Try.isAgg3
  z3 := Try.sizeOf3
  v3 := Try.zeroValue3
  t4 := Try.underlying4
  a4 := Try.isAgg4
  z4 := Try.sizeOf4
  v4 := Try.zeroValue4
  t5 := Try.underlying5
  a5 := Try.isAgg5
  z5 := Try.sizeOf5
  v5 := Try.zeroValue5
  t9 := Try.underlying9
  a9 := Try.isAgg9
  z9 := Try.sizeOf9
  v9 := Try.zeroValue9
  t28 := Try.underlying60
  a28 := Try.isAgg60
  z28 := Try.sizeOf60
  v28 := Try.zeroValue60
  t46 := Try.underlying121
  a46 := Try.isAgg121
  z46 := Try.sizeOf121
  v46 := Try.zeroValue121
  t51 := Try.underlying134
  a51 := Try.isAgg134
  z51 := Try.sizeOf134
  v51 := Try.zeroValue134
  t53 := Try.underlying136
  a53 := Try.isAgg136
  z53 := Try.sizeOf136
  v53 := Try.zeroValue136
  t131 := Try.underlying85
  a131 := Try.isAgg85
  z131 := Try.sizeOf85
  v131 := Try.zeroValue85
  t182 := Try.underlying146
  a182 := Try.isAgg146
  z182 := Try.sizeOf146
  v182 := Try.zeroValue146
  t183 := Try.underlying147
  a183 := Try.isAgg147
  z183 := Try.sizeOf147
  v183 := Try.zeroValue147
  t218 := Try.underlying158
  a218 := Try.isAgg158
  z218 := Try.sizeOf158
  v218 := Try.zeroValue158
  t222 := Try.underlying156
  a222 := Try.isAgg156
  z222 := Try.sizeOf156
  v222 := Try.zeroValue156
  t228 := Try.underlying164
  a228 := Try.isAgg164
  z228 := Try.sizeOf164
  v228 := Try.zeroValue164
  t229 := Try.underlying162
  a229 := Try.isAgg162
  z229 := Try.sizeOf162
  v229 := Try.zeroValue162 }
open Go.Sort Go.RowKit in
theorem Try.slices_Sort_int (blk off cap : Nat) (zs : List Int) (w : World) (hH : Holds (Value.int .i64) w blk off zs.toArray) (hblk : blk < w.heap.size) (hsz : zs.length < 4611686018427387904) :
    Calls Try.prog 80 #[.slice (some ⟨blk, off, none⟩) zs.length cap] w fun e w' =>
      e = .returned (.tuple #[]) ∧ ∃ n os, w' = grow (putRow (Value.int .i64) (Sort.ahead w n) blk off (zs.mergeSort fun x y => decide (x ≤ y)).toArray) os := Any.slices_Sort_int Try.lays189 blk off cap zs w hH hblk hsz
def Try.laysGg26_ren : Go.Shelf.Ren := ⟨fun | 26 => 106 | n => n, fun | 44 => 124 | 3 => 3 | 0 => 0 | 4 => 4 | 26 => 90 | 37 => 117 | n => n, fun | n => n⟩
theorem Try.laysGg26 : Go.Proofs.LaysGg.n26 Try.prog Try.laysGg26_ren := {
  mixed := by kernel_rfl
  f26 := Try.func106.trans (congrArg some (by kernel_rfl))
  t0 := Try.underlying0
  a0 := Try.isAgg0
  z0 := Try.sizeOf0
  v0 := Try.zeroValue0
  i0 := by kernel_rfl
  t3 := Try.underlying3
  a3 := Try.isAgg3
  z3 := Try.sizeOf3
  v3 := Try.zeroValue3
  i3 := by kernel_rfl
  t4 := Try.underlying4
  a4 := Try.isAgg4
  z4 := Try.sizeOf4
  v4 := Try.zeroValue4
  i4 := by kernel_rfl
  t26 := Try.underlying90
  a26 := Try.isAgg90
  z26 := Try.sizeOf90
  v26 := Try.zeroValue90
  i26 := by kernel_rfl
  t37 := Try.underlying117
  a37 := Try.isAgg117
  z37 := Try.sizeOf117
  v37 := Try.zeroValue117
  i37 := by kernel_rfl
  t44 := Try.underlying124
  a44 := Try.isAgg124
  z44 := Try.sizeOf124
  v44 := Try.zeroValue124
  i44 := by kernel_rfl }
open Go.RowKit Go.Lib Go.Sort in
theorem Try.insertionSort_func_none (lf : Fn) (la lb : Array Value) (f : Nat) (sb : Array Value) (a b : Nat) (h : b ≤ a + 1) (ha : a < 4611686018427387904) (w : World) :
    Calls Try.prog 106 #[.agg #[.func lf la lb, .func (.func f) #[] sb], .int .i64 a, .int .i64 b] w fun e w' => e = .returned (.tuple #[]) ∧ w' = w.alloc (.cells #[.func lf la lb, .func (.func f) #[] sb] 124) := Any.insertionSort_func_none Try.laysGg26 lf la lb f sb a b h ha w
def Try.laysGg14_ren : Go.Shelf.Ren := ⟨fun | 14 => 90 | 26 => 106 | 27 => 107 | 28 => 108 | 29 => 109 | 30 => 110 | 31 => 111 | 32 => 112 | 33 => 113 | 34 => 125 | 35 => 126 | 36 => 127 | 37 => 128 | 38 => 129 | 13 => 89 | 39 => 135 | 24 => 104 | 25 => 105 | n => n, fun | 44 => 124 | 3 => 3 | 0 => 0 | 4 => 4 | 54 => 139 | 53 => 138 | 26 => 90 | 58 => 85 | 37 => 117 | 60 => 152 | 41 => 121 | 51 => 136 | 64 => 156 | 66 => 161 | 67 => 162 | 49 => 134 | 5 => 5 | 9 => 9 | n => n, fun | n => n⟩
theorem Try.laysGg14 : Go.Proofs.LaysGg.n14 Try.prog Try.laysGg14_ren := {
  mixed := by kernel_rfl
  f13 := Try.func89.trans (congrArg some (by kernel_rfl))
  f14 := Try.func90.trans (congrArg some (by kernel_rfl))
  f24 := Try.func104.trans (congrArg some (by kernel_rfl))
  f25 := Try.func105.trans (congrArg some (by kernel_rfl))
  f26 := Try.func106.trans (congrArg some (by kernel_rfl))
  f27 := Try.func107.trans (congrArg some (by kernel_rfl))
  f28 := Try.func108.trans (congrArg some (by kernel_rfl))
  f29 := Try.func109.trans (congrArg some (by kernel_rfl))
  f30 := Try.func110.trans (congrArg some (by kernel_rfl))
  f31 := Try.func111.trans (congrArg some (by kernel_rfl))
  f32 := Try.func112.trans (congrArg some (by kernel_rfl))
  f33 := Try.func113.trans (congrArg some (by kernel_rfl))
  f34 := Try.func125.trans (congrArg some (by kernel_rfl))
  f35 := Try.func126.trans (congrArg some (by kernel_rfl))
  f36 := Try.func127.trans (congrArg some (by kernel_rfl))
  f37 := Try.func128.trans (congrArg some (by kernel_rfl))
  f38 := Try.func129.trans (congrArg some (by kernel_rfl))
  f39 := Try.func135.trans (congrArg some (by kernel_rfl))
  t0 := Try.underlying0
  a0 := Try.isAgg0
  z0 := Try.sizeOf0
  v0 := Try.zeroValue0
  i0 := by kernel_rfl
  t3 := Try.underlying3
  a3 := Try.isAgg3
  z3 := Try.sizeOf3
  v3 := Try.zeroValue3
  i3 := by kernel_rfl
  t4 := Try.underlying4
  a4 := Try.isAgg4
  z4 := Try.sizeOf4
  v4 := Try.zeroValue4
  i4 := by kernel_rfl
  t5 := Try.underlying5
  a5 := Try.isAgg5
  z5 := Try.sizeOf5
  v5 := Try.zeroValue5
  i5 := by kernel_rfl
  t9 := Try.underlying9
  a9 := Try.isAgg9
  z9 := Try.sizeOf9
  v9 := Try.zeroValue9
  i9 := by kernel_rfl
  t26 := Try.underlying90
  a26 := Try.isAgg90
  z26 := Try.sizeOf90
  v26 := Try.zeroValue90
  i26 := by kernel_rfl
  t37 := Try.underlying117
  a37 := Try.isAgg117
  z37 := Try.sizeOf117
  v37 := Try.zeroValue117
  i37 := by kernel_rfl
  t41 := Try.underlying121
  a41 := Try.isAgg121
  z41 := Try.sizeOf121
  v41 := Try.zeroValue121
  i41 := by kernel_rfl
  t44 := Try.underlying124
  a44 := Try.isAgg124
  z44 := Try.sizeOf124
  v44 := Try.zeroValue124
  i44 := by kernel_rfl
  t49 := Try.underlying134
  a49 := Try.isAgg134
  z49 := Try.sizeOf134
  v49 := Try.zeroValue134
  i49 := by kernel_rfl
  t51 := Try.underlying136
  a51 := Try.isAgg136
  z51 := Try.sizeOf136
  v51 := Try.zeroValue136
  i51 := by kernel_rfl
  t53 := Try.underlying138
  a53 := Try.isAgg138
  z53 := Try.sizeOf138
  v53 := Try.zeroValue138
  i53 := by kernel_rfl
  t54 := Try.underlying139
  a54 := Try.isAgg139
  z54 := Try.sizeOf139
  v54 := Try.zeroValue139
  i54 := by kernel_rfl
  t58 := Try.underlying85
  a58 := Try.isAgg85
  z58 := Try.sizeOf85
  v58 := Try.zeroValue85
  i58 := by kernel_rfl
  t60 := Try.underlying152
  a60 := Try.isAgg152
  z60 := Try.sizeOf152
  v60 := Try.zeroValue152
  i60 := by kernel_rfl
  t64 := Try.underlying156
  a64 := Try.isAgg156
  z64 := Try.sizeOf156
  v64 := Try.zeroValue156
  i64 := by kernel_rfl
  t66 := Try.underlying161
  a66 := Try.isAgg161
  z66 := Try.sizeOf161
  v66 := Try.zeroValue161
  i66 := by kernel_rfl
  t67 := Try.underlying162
  a67 := Try.isAgg162
  z67 := Try.sizeOf162
  v67 := Try.zeroValue162
  i67 := by kernel_rfl }
open Go.RowKit Go.Lib Go.Sort in
theorem Try.pdqsort_func_tiny (lf : Fn) (la lb : Array Value) (f : Nat) (sb : Array Value) (n : Nat) (h : n ≤ 1) (lim : Int) (w : World) :
    Calls Try.prog 90 #[.agg #[.func lf la lb, .func (.func f) #[] sb], .int .i64 0, .int .i64 n, .int .i64 lim] w fun e w' => e = .returned (.tuple #[]) ∧ w' = (w.alloc (.cells #[.func lf la lb, .func (.func f) #[] sb] 124)).alloc (.cells #[.func lf la lb, .func (.func f) #[] sb] 124) := Any.pdqsort_func_tiny Try.laysGg14 lf la lb f sb n h lim w
def Try.laysGg6_ren : Go.Shelf.Ren := ⟨fun | 6 => 70 | 10 => 86 | 11 => 87 | 12 => 88 | 13 => 89 | 14 => 90 | 24 => 104 | 25 => 105 | 26 => 106 | 27 => 107 | 28 => 108 | 29 => 109 | 30 => 110 | 31 => 111 | 32 => 112 | 33 => 113 | 34 => 125 | 35 => 126 | 36 => 127 | 37 => 128 | 38 => 129 | 39 => 135 | n => n, fun | 20 => 20 | 26 => 90 | 35 => 115 | 0 => 0 | 37 => 117 | 3 => 3 | 41 => 121 | 44 => 124 | 49 => 134 | 51 => 136 | 4 => 4 | 54 => 139 | 53 => 138 | 58 => 85 | 5 => 5 | 9 => 9 | 60 => 152 | 64 => 156 | 66 => 161 | 67 => 162 | 17 => 17 | 32 => 112 | 33 => 113 | 82 => 179 | 12 => 12 | 75 => 172 | 76 => 173 | 77 => 174 | 78 => 175 | 79 => 176 | 80 => 177 | n => n, fun | n => n⟩
theorem Try.laysGg6 : Go.Proofs.LaysGg.n6 Try.prog Try.laysGg6_ren := {
  mixed := by kernel_rfl
  f6 := Try.func70.trans (congrArg some (by kernel_rfl))
  f10 := Try.func86.trans (congrArg some (by kernel_rfl))
  f11 := Try.func87.trans (congrArg some (by kernel_rfl))
  f12 := Try.func88.trans (congrArg some (by kernel_rfl))
  f13 := Try.func89.trans (congrArg some (by kernel_rfl))
  f14 := Try.func90.trans (congrArg some (by kernel_rfl))
  f24 := Try.func104.trans (congrArg some (by kernel_rfl))
  f25 := Try.func105.trans (congrArg some (by kernel_rfl))
  f26 := Try.func106.trans (congrArg some (by kernel_rfl))
  f27 := Try.func107.trans (congrArg some (by kernel_rfl))
  f28 := Try.func108.trans (congrArg some (by kernel_rfl))
  f29 := Try.func109.trans (congrArg some (by kernel_rfl))
  f30 := Try.func110.trans (congrArg some (by kernel_rfl))
  f31 := Try.func111.trans (congrArg some (by kernel_rfl))
  f32 := Try.func112.trans (congrArg some (by kernel_rfl))
  f33 := Try.func113.trans (congrArg some (by kernel_rfl))
  f34 := Try.func125.trans (congrArg some (by kernel_rfl))
  f35 := Try.func126.trans (congrArg some (by kernel_rfl))
  f36 := Try.func127.trans (congrArg some (by kernel_rfl))
  f37 := Try.func128.trans (congrArg some (by kernel_rfl))
  f38 := Try.func129.trans (congrArg some (by kernel_rfl))
  f39 := Try.func135.trans (congrArg some (by kernel_rfl))
  t0 := Try.underlying0
  a0 := Try.isAgg0
  z0 := Try.sizeOf0
  v0 := Try.zeroValue0
  i0 := by kernel_rfl
  t3 := Try.underlying3
  a3 := Try.isAgg3
  z3 := Try.sizeOf3
  v3 := Try.zeroValue3
  i3 := by kernel_rfl
  t4 := Try.underlying4
  a4 := Try.isAgg4
  z4 := Try.sizeOf4
  v4 := Try.zeroValue4
  i4 := by kernel_rfl
  t5 := Try.underlying5
  a5 := Try.isAgg5
  z5 := Try.sizeOf5
  v5 := Try.zeroValue5
  i5 := by kernel_rfl
  t9 := Try.underlying9
  a9 := Try.isAgg9
  z9 := Try.sizeOf9
  v9 := Try.zeroValue9
  i9 := by kernel_rfl
  t12 := Try.underlying12
  a12 := Try.isAgg12
  z12 := Try.sizeOf12
  v12 := Try.zeroValue12
  i12 := by kernel_rfl
  t17 := Try.underlying17
  a17 := Try.isAgg17
  z17 := Try.sizeOf17
  v17 := Try.zeroValue17
  i17 := by kernel_rfl
  t20 := Try.underlying20
  a20 := Try.isAgg20
  z20 := Try.sizeOf20
  v20 := Try.zeroValue20
  i20 := by kernel_rfl
  t26 := Try.underlying90
  a26 := Try.isAgg90
  z26 := Try.sizeOf90
  v26 := Try.zeroValue90
  i26 := by kernel_rfl
  t32 := Try.underlying112
  a32 := Try.isAgg112
  z32 := Try.sizeOf112
  v32 := Try.zeroValue112
  i32 := by kernel_rfl
  t33 := Try.underlying113
  a33 := Try.isAgg113
  z33 := Try.sizeOf113
  v33 := Try.zeroValue113
  i33 := by kernel_rfl
  t35 := Try.underlying115
  a35 := Try.isAgg115
  z35 := Try.sizeOf115
  v35 := Try.zeroValue115
  i35 := by kernel_rfl
  t37 := Try.underlying117
  a37 := Try.isAgg117
  z37 := Try.sizeOf117
  v37 := Try.zeroValue117
  i37 := by kernel_rfl
  t41 := Try.underlying121
  a41 := Try.isAgg121
  z41 := Try.sizeOf121
  v41 := Try.zeroValue121
  i41 := by kernel_rfl
  t44 := Try.underlying124
  a44 := Try.isAgg124
  z44 := Try.sizeOf124
  v44 := Try.zeroValue124
  i44 := by kernel_rfl
  t49 := Try.underlying134
  a49 := Try.isAgg134
  z49 := Try.sizeOf134
  v49 := Try.zeroValue134
  i49 := by kernel_rfl
  t51 := Try.underlying136
  a51 := Try.isAgg136
  z51 := Try.sizeOf136
  v51 := Try.zeroValue136
  i51 := by kernel_rfl
  t53 := Try.underlying138
  a53 := Try.isAgg138
  z53 := Try.sizeOf138
  v53 := Try.zeroValue138
  i53 := by kernel_rfl
  t54 := Try.underlying139
  a54 := Try.isAgg139
  z54 := Try.sizeOf139
  v54 := Try.zeroValue139
  i54 := by kernel_rfl
  t58 := Try.underlying85
  a58 := Try.isAgg85
  z58 := Try.sizeOf85
  v58 := Try.zeroValue85
  i58 := by kernel_rfl
  t60 := Try.underlying152
  a60 := Try.isAgg152
  z60 := Try.sizeOf152
  v60 := Try.zeroValue152
  i60 := by kernel_rfl
  t64 := Try.underlying156
  a64 := Try.isAgg156
  z64 := Try.sizeOf156
  v64 := Try.zeroValue156
  i64 := by kernel_rfl
  t66 := Try.underlying161
  a66 := Try.isAgg161
  z66 := Try.sizeOf161
  v66 := Try.zeroValue161
  i66 := by kernel_rfl
  t67 := Try.underlying162
  a67 := Try.isAgg162
  z67 := Try.sizeOf162
  v67 := Try.zeroValue162
  i67 := by kernel_rfl
  t75 := Try.underlying172
  a75 := Try.isAgg172
  z75 := Try.sizeOf172
  v75 := Try.zeroValue172
  i75 := by kernel_rfl
  t76 := Try.underlying173
  a76 := Try.isAgg173
  z76 := Try.sizeOf173
  v76 := Try.zeroValue173
  i76 := by kernel_rfl
  t77 := Try.underlying174
  a77 := Try.isAgg174
  z77 := Try.sizeOf174
  v77 := Try.zeroValue174
  i77 := by kernel_rfl
  t78 := Try.underlying175
  a78 := Try.isAgg175
  z78 := Try.sizeOf175
  v78 := Try.zeroValue175
  i78 := by kernel_rfl
  t79 := Try.underlying176
  a79 := Try.isAgg176
  z79 := Try.sizeOf176
  v79 := Try.zeroValue176
  i79 := by kernel_rfl
  t80 := Try.underlying177
  a80 := Try.isAgg177
  z80 := Try.sizeOf177
  v80 := Try.zeroValue177
  i80 := by kernel_rfl
  t82 := Try.underlying179
  a82 := Try.isAgg179
  z82 := Try.sizeOf179
  v82 := Try.zeroValue179
  i82 := by kernel_rfl }
def Try.laysNm220_ren : Go.Shelf.Ren := ⟨fun | 20 => 81 | n => n, fun | 22 => 60 | 3 => 3 | 4 => 4 | 0 => 0 | n => n, fun | n => n⟩
theorem Try.laysNm220 : Go.Proofs.Lays2.n20 Try.prog Try.laysNm220_ren := {
  mixed := by kernel_rfl
  f20 := Try.func81.trans (congrArg some (by kernel_rfl))
  t0 := Try.underlying0
  a0 := Try.isAgg0
  z0 := Try.sizeOf0
  v0 := Try.zeroValue0
  t3 := Try.underlying3
  a3 := Try.isAgg3
  z3 := Try.sizeOf3
  v3 := Try.zeroValue3
  t4 := Try.underlying4
  a4 := Try.isAgg4
  z4 := Try.sizeOf4
  v4 := Try.zeroValue4
  t22 := Try.underlying60
  a22 := Try.isAgg60
  z22 := Try.sizeOf60
  v22 := Try.zeroValue60
  i3 := by kernel_rfl }
open Go.RowKit Go.Lib Go.Sort in
theorem Try.slices_Compact_int_arr (blk off cap : Nat) (d : Array Int) (w : World) (hH : Holds encI w blk off d) (hsz : d.size ≤ 9223372036854775807) (hcap : d.size ≤ cap) :
    Calls Try.prog 81 #[.slice (some ⟨blk, off, none⟩) d.size cap] w fun e w' => e = .returned (.slice (some ⟨blk, off, none⟩) (compactUpTo d d.size).length cap) ∧ ∃ q, w' = putRow encI (Sort.ahead w q) blk off (compactUpTo d d.size ++ List.replicate (d.size - (compactUpTo d d.size).length) 0).toArray := Any.slices_Compact_int_arr Try.laysNm220 blk off cap d w hH hsz hcap
open Go.RowKit Go.Lib Go.Sort in
theorem Try.slices_Compact_int (blk off cap : Nat) (zs : List Int) (w : World) (hH : Holds (Value.int .i64) w blk off zs.toArray) (hsz : zs.length ≤ 9223372036854775807) (hcap : zs.length ≤ cap) :
    Calls Try.prog 81 #[.slice (some ⟨blk, off, none⟩) zs.length cap] w fun e w' => e = .returned (.slice (some ⟨blk, off, none⟩) (Lib.compact zs).length cap) ∧ ∃ q, w' = putRow (Value.int .i64) (Sort.ahead w q) blk off (Lib.compact zs ++ List.replicate (zs.length - (Lib.compact zs).length) 0).toArray := Any.slices_Compact_int Try.laysNm220 blk off cap zs w hH hsz hcap
open Go.RowKit Go.Lib Go.Sort in
theorem Try.slices_Compact_int_empty (a : Option Addr) (cap : Nat) (w : World) :
    Calls Try.prog 81 #[.slice a 0 cap] w fun e w' => e = .returned (.slice a 0 cap) ∧ w' = w := Any.slices_Compact_int_empty Try.laysNm220 a cap w
open Go.RowKit Go.Lib Go.Sort in
theorem Try.slices_Compact_int_cells (b off n c : Nat) (zs : List Int) (w : World) (hz : n ≤ zs.length) (hbig : n ≤ 9223372036854775807) (hcap : n ≤ c) (hc : ∀ j, j < zs.length → w.cell? ⟨b, off + j, none⟩ = some (.int .i64 (zs.getD j 0))) (hf : ∀ j, j < n → w.frozen? ⟨b, off + j, none⟩ = false) :
    Calls Try.prog 81 #[.slice (some ⟨b, off, none⟩) n c] w fun e w' => e = .returned (.slice (some ⟨b, off, none⟩) (Lib.compact (zs.take n)).length c) ∧ ∃ q, w' = (w.drewN q).setCells b off ((Lib.compact (zs.take n) ++ List.replicate (n - (Lib.compact (zs.take n)).length) 0).map (Value.int .i64)) := Any.slices_Compact_int_cells Try.laysNm220 b off n c zs w hz hbig hcap hc hf
open Go.RowKit Go.Sort in
theorem Try.slices_Sort_int_none (p : Option Addr) (cap : Nat) (w : World) :
    Calls Try.prog 80 #[.slice p 0 cap] w fun e w' => e = .returned (.tuple #[]) ∧ w' = w := Any.slices_Sort_int_none Try.lays189 p cap w
def Try.laysGg36_ren : Go.Shelf.Ren := ⟨fun | 36 => 127 | n => n, fun | 66 => 161 | 51 => 136 | 0 => 0 | 60 => 152 | 41 => 121 | n => n, fun | n => n⟩
theorem Try.laysGg36 : Go.Proofs.LaysGg.n36 Try.prog Try.laysGg36_ren := {
  mixed := by kernel_rfl
  f36 := Try.func127.trans (congrArg some (by kernel_rfl))
  t0 := Try.underlying0
  a0 := Try.isAgg0
  z0 := Try.sizeOf0
  v0 := Try.zeroValue0
  i0 := by kernel_rfl
  t41 := Try.underlying121
  a41 := Try.isAgg121
  z41 := Try.sizeOf121
  v41 := Try.zeroValue121
  i41 := by kernel_rfl
  t51 := Try.underlying136
  a51 := Try.isAgg136
  z51 := Try.sizeOf136
  v51 := Try.zeroValue136
  i51 := by kernel_rfl
  t60 := Try.underlying152
  a60 := Try.isAgg152
  z60 := Try.sizeOf152
  v60 := Try.zeroValue152
  i60 := by kernel_rfl
  t66 := Try.underlying161
  a66 := Try.isAgg161
  z66 := Try.sizeOf161
  v66 := Try.zeroValue161
  i66 := by kernel_rfl }
open Go.RowKit Go.Lib Go.Sort in
theorem Try.xorshift_Next (rb ro X : Nat) (hX : X < 18446744073709551616) (w : World) (hc : w.cell? ⟨rb, ro, none⟩ = some (.int .u64 X)) (hf : w.frozen? ⟨rb, ro, none⟩ = false) :
    Calls Try.prog 127 #[.pointer (some ⟨rb, ro, none⟩)] w fun e w' => e = .returned (.int .u64 (xorNextN X : Nat)) ∧ w' = (w.setCell ⟨rb, ro, none⟩ (.int .u64 (xorNextN X : Nat))).drewN 3 := Any.xorshift_Next Try.laysGg36 rb ro X hX w hc hf
def Try.laysGg35_ren : Go.Shelf.Ren := ⟨fun | 35 => 126 | 13 => 89 | 24 => 104 | 25 => 105 | n => n, fun | 3 => 3 | 41 => 121 | 49 => 134 | 51 => 136 | 4 => 4 | 5 => 5 | 9 => 9 | n => n, fun | n => n⟩
theorem Try.laysGg35 : Go.Proofs.LaysGg.n35 Try.prog Try.laysGg35_ren := {
  mixed := by kernel_rfl
  f13 := Try.func89.trans (congrArg some (by kernel_rfl))
  f24 := Try.func104.trans (congrArg some (by kernel_rfl))
  f25 := Try.func105.trans (congrArg some (by kernel_rfl))
  f35 := Try.func126.trans (congrArg some (by kernel_rfl))
  t3 := Try.underlying3
  a3 := Try.isAgg3
  z3 := Try.sizeOf3
  v3 := Try.zeroValue3
  i3 := by kernel_rfl
  t4 := Try.underlying4
  a4 := Try.isAgg4
  z4 := Try.sizeOf4
  v4 := Try.zeroValue4
  i4 := by kernel_rfl
  t5 := Try.underlying5
  a5 := Try.isAgg5
  z5 := Try.sizeOf5
  v5 := Try.zeroValue5
  i5 := by kernel_rfl
  t9 := Try.underlying9
  a9 := Try.isAgg9
  z9 := Try.sizeOf9
  v9 := Try.zeroValue9
  i9 := by kernel_rfl
  t41 := Try.underlying121
  a41 := Try.isAgg121
  z41 := Try.sizeOf121
  v41 := Try.zeroValue121
  i41 := by kernel_rfl
  t49 := Try.underlying134
  a49 := Try.isAgg134
  z49 := Try.sizeOf134
  v49 := Try.zeroValue134
  i49 := by kernel_rfl
  t51 := Try.underlying136
  a51 := Try.isAgg136
  z51 := Try.sizeOf136
  v51 := Try.zeroValue136
  i51 := by kernel_rfl }
open Go.RowKit Go.Lib Go.Sort in
theorem Try.nextPowerOfTwo (n : Nat) (hn : n < 4611686018427387904) (w : World) :
    Calls Try.prog 126 #[.int .i64 n] w fun e w' => e = .returned (.int .u64 ((1 <<< bitsLen n : Nat) : Int)) ∧ w' = w := Any.nextPowerOfTwo Try.laysGg35 n hn w
end Go.Proofs

/- The variables of a term as the program tells them: gathered, sorted, each once. Conditions: terms of at most 1048577 parts. -/
namespace Go.Proofs.Ytkecnljdloffdab
set_option maxRecDepth 100000
open Go.RowKit Go.Shelf Go.Sort
attribute [local go_sem] Oper.semAt_some

/-- A row of numbers of one's own, sorted. -/
theorem sort_any (base : Nat) (av : Option Addr) (zs : List Int) (n cv : Nat) (w : World) (hn : n = zs.length) (h : w.ownsRow base 3 1 (.slice av n cv) n (ints zs)) (hl : zs.length ≤ 4194304) :
    Calls Try.prog 80 #[.slice av n cv] w fun e w' => e = .returned (.tuple #[]) ∧ w'.ownsRow base 3 1 (.slice av n cv) n (ints (zs.mergeSort fun x y => decide (x ≤ y))) ∧ w.grownBy w' (Value.slice av n cv).ownBlock := by
  subst hn
  rcases h.2 with ⟨hv, h0⟩ | ⟨g, cap, cur, hv, hg, hb, hc1, hc2, hc3, hc4⟩
  · have hz : zs = [] := List.length_eq_zero_iff.1 h0
    subst hz
    obtain ⟨rfl, rfl⟩ : av = none ∧ cv = 0 := by simpa using hv
    refine (Try.slices_Sort_int_none none 0 w).mono ?_
    rintro e w' ⟨rfl, rfl⟩
    exact ⟨rfl, by simpa using h, World.grownBy.refl _ _⟩
  · cases hv
    rw [Nat.mul_one] at hc4
    have hH : Holds (Value.int .i64) w g 0 zs.toArray := holds_of_blockI hb hc4
    refine (Try.slices_Sort_int g 0 cv zs w hH (Array.getElem?_eq_some_iff.1 hb).1 (by omega)).mono ?_
    rintro e w' ⟨rfl, m, os, rfl⟩
    exact ⟨rfl, ownsRow_sortedI (by simp) hg hb hc1 hc2 hc3, grownBy_sortedI _⟩

theorem compact_any (base : Nat) (av : Option Addr) (zs : List Int) (n cv : Nat) (w : World) (hn : n = zs.length) (h : w.ownsRow base 3 1 (.slice av n cv) n (ints zs)) (hl : zs.length ≤ 4194304) :
    Calls Try.prog 81 #[.slice av n cv] w fun e w' => e = .returned (.slice av (Lib.compact zs).length cv) ∧ w'.ownsRow base 3 1 (.slice av (Lib.compact zs).length cv) (Lib.compact zs).length (ints (Lib.compact zs)) ∧ w.grownBy w' (Value.slice av n cv).ownBlock := by
  subst hn
  rcases h.2 with ⟨hv, h0⟩ | ⟨g, cap, cur, hv, hg, hb, hc1, hc2, hc3, hc4⟩
  · have hz : zs = [] := List.length_eq_zero_iff.1 h0
    subst hz
    obtain ⟨rfl, rfl⟩ : av = none ∧ cv = 0 := by simpa using hv
    have e0 : Lib.compact ([] : List Int) = [] := rfl
    rw [e0]
    refine (Try.slices_Compact_int_empty none 0 w).mono ?_
    rintro e w' ⟨rfl, rfl⟩
    exact ⟨rfl, by simpa using h, World.grownBy.refl _ _⟩
  · cases hv
    rw [Nat.mul_one] at hc4
    have hH : Holds (Value.int .i64) w g 0 zs.toArray := holds_of_blockI hb hc4
    have hle := Lib.compact_length_le zs
    refine (Try.slices_Compact_int g 0 cv zs w hH (by omega) hc1).mono ?_
    rintro e w' ⟨rfl, q, rfl⟩
    have := Lib.ownsRow_putRow (enc := Value.int .i64) (q := q) (k := (Lib.compact zs).length) (ys := Lib.compact zs ++ List.replicate (zs.length - (Lib.compact zs).length) 0) h (by simp; omega) (by omega)
    rw [List.take_left] at this
    have hgr := grownBy_sortedI (w := w) (g := g) (n := q) (os := #[]) (Lib.compact zs ++ List.replicate (zs.length - (Lib.compact zs).length) 0).toArray
    have e1 : ∀ u : World, grow u #[] = u := fun u => by simp [grow]
    rw [e1] at hgr
    exact ⟨rfl, this, hgr⟩

theorem vl_snoc (l : List El) (x : El) : vl ((l ++ [x]).map El.t) = vl (l.map El.t) ++ if vofB x.t = true then [vofI x.t] else [] := by
  rw [List.map_append, vl_append]
  congr 1
  by_cases h1 : x.t.f = -1 <;> simp [vl, vofB, vofI, h1]
theorem ints_append (a b : List Int) : ints (a ++ b) = ints a ++ ints b := by simp [ints]

/-- What the loop holds between two rounds: the list that is gathered lies in memory of the call's own. -/
structure VInv (w W0 : World) (pre : List El) (S : Nat → Prop) (W : World) : Prop where
  lo : ∀ k, k < W0.heap.size → S k
  hi : ∀ k, S k → k < W.heap.size
  v : ∃ v, W.cell? ⟨w.heap.size + 1, 0, none⟩ = some v ∧ W.ownsRow W0.heap.size 3 1 v (vl (pre.map El.t)).length (ints (vl (pre.map El.t))) ∧ ∀ g, v.ownBlock = some g → S g
  f : W.frozen? ⟨w.heap.size + 1, 0, none⟩ = false
  b : Below w.heap.size w W
  z : w.heap.size + 1 < W0.heap.size
theorem VInv.lt {w W0 A : World} {pre : List El} {S : Nat → Prop} (h : VInv w W0 pre S A) : w.heap.size + 1 < A.heap.size := h.hi _ (h.lo _ h.z)
theorem VInv.le {w W0 A : World} {pre : List El} {S : Nat → Prop} (h : VInv w W0 pre S A) : W0.heap.size ≤ A.heap.size := by
  have hz := h.z
  have := h.hi (W0.heap.size - 1) (h.lo _ (by omega))
  omega
theorem VInv.stay {w W0 A B : World} {pre : List El} {S : Nat → Prop} (h : VInv w W0 pre S A) (hs : Stay S A B) : VInv w W0 pre S B := by
  have hz := h.z
  have hl := h.lt
  obtain ⟨v, h1, h2, h3⟩ := h.v
  exact ⟨h.lo, fun k hk => Nat.lt_of_lt_of_le (h.hi k hk) hs.size, ⟨v, hs.cell h1 (h.lo _ hz), own_stay h2 hs h3, h3⟩, (hs.frozen hl (h.lo _ hz)).trans h.f, h.b.trans (hs.below h.b.size (fun k hk => h.lo k (by omega))), hz⟩
theorem VInv.more {w W0 A : World} {pre : List El} {S T : Nat → Prop} (h : VInv w W0 pre S A) (hs : ∀ k, S k → T k) (ht : ∀ k, T k → k < A.heap.size) : VInv w W0 pre T A := by
  obtain ⟨v, h1, h2, h3⟩ := h.v
  exact ⟨fun k hk => hs k (h.lo k hk), ht, ⟨v, h1, h2, fun g hg => hs g (h3 g hg)⟩, h.f, h.b, h.z⟩

set_option maxHeartbeats 3200000 in
set_option maxRecDepth 100000 in
theorem impVarsOf_any (t : TermD) (a : Option Addr) (c hi : Nat) (w : World) (hp : partsT t ≤ 4194304) (hr : RdK w hi a t.kids) (hhi : hi ≤ w.heap.size) (hc : t.kids.length ≤ c) :
    Calls Try.prog 64 #[.agg #[.int .i64 t.f, .int .i64 t.v, .slice a t.kids.length c]] w fun e w' => ∃ a' c', e = .returned (.slice a' (varsT t []).length c') ∧ w'.ownsRow w.heap.size 3 1 (.slice a' (varsT t []).length c') (varsT t []).length (ints (varsT t [])) ∧ Below w.heap.size w w' := by
  refine (callsIn_wide (n := 5)).1 ?_
  obtain ⟨i0, hi0, hz0, hz1, hz2⟩ := info_parts Try.info3
  refine callsIn_of_wp_marks Try.func64 rfl trivial ?_ rfl
  simp only [Try.ntmps64, List.size_toArray, List.length_cons, List.length_nil, Nat.reduceAdd, Nat.reduceSub, Array.replicate_succ, Array.replicate_zero, List.push_toArray, List.append_toArray, List.nil_append, List.cons_append]
  gi_wp2_with (refine ⟨trivial, ?_⟩; gi_at_call 62; refine (callsIn_wide.2 (within_any t a c _)).mono ?_; rintro e w' ⟨rfl, rfl⟩)
  obtain ⟨W0, hW0⟩ : ∃ W0, W0 = ((w.alloc (.cells #[.int .i64 t.f, .int .i64 t.v, .slice a t.kids.length c] 28)).alloc (.cells #[.slice none 0 0] 60)).alloc (.cells #[.int .i64 t.f, .int .i64 t.v, .slice a t.kids.length c] 28) := ⟨_, rfl⟩
  have hB0 : Below w.heap.size w W0 := by rw [hW0]; exact (((Below.refl _ _).alloc (Nat.le_refl _) _).alloc (by simp) _).alloc (by simp; omega) _
  have hz : W0.heap.size = w.heap.size + 1 + 1 + 1 := by rw [hW0]; simp
  have v0 : W0.cell? ⟨w.heap.size + 1, 0, none⟩ = some (.slice none 0 0) := by rw [hW0]; simp [go_sem]
  have f0 : W0.frozen? ⟨w.heap.size + 1, 0, none⟩ = false := by rw [hW0]; simp [go_sem]
  have t0 : W0.cell? ⟨w.heap.size + 1 + 1, 0, none⟩ = some (.int .i64 t.f) := by rw [hW0]; simp [go_sem]
  have t1 : W0.cell? ⟨w.heap.size + 1 + 1, 1, none⟩ = some (.int .i64 t.v) := by rw [hW0]; simp [go_sem]
  have t2 : W0.cell? ⟨w.heap.size + 1 + 1, 2, none⟩ = some (.slice a t.kids.length c) := by rw [hW0]; simp [go_sem]
  rw [← hW0]
  clear hW0
  refine wpIn_rangeFunc_priv rfl (by omega) (gf := 77) (lb := #[.pointer (some ⟨w.heap.size + 1 + 1, 0, none⟩)]) rfl trivial (enters_of Try.func77 (by kernel_rfl) rfl)
    (within_seq Fence.wide 4 trivial rfl (by omega) W0 t a c hi w.heap.size (w.heap.size + 1 + 1) hp hc (hr.on (hB0.mono hhi)) hhi hB0.size t0 t1 t2) hB0.size (Below.refl _ _) (fun _ => rfl)
    (fun pre S W => VInv w W0 pre S W) (fun _ _ _ _ => False) (fun pre S A B h hs => h.stay hs)
    (fun _ _ _ _ _ h _ => h) (fun pre S A h => h.hi) (fun k => k < W0.heap.size) (fun _ h => h) ⟨fun _ h => h, fun _ h => h, ⟨_, v0, by simpa [vl, ints] using World.ownsRow_nil W0 W0.heap.size 3 1, fun g hg => by cases hg⟩, f0, hB0, by omega⟩
    (fun pre x S a₁ W => VInv w W0 pre S W ∧ ∃ Bx, BoxEl x Bx S W ∧ a₁ = { tmps := #[.agg #[.int .i64 t.f, .int .i64 t.v, .slice a t.kids.length c], .pointer (some ⟨w.heap.size, 0, none⟩), .slice none 0 0, .pointer (some ⟨w.heap.size + 1, 0, none⟩), .pointer (some ⟨Bx, 0, none⟩), undef, undef, .agg #[.int .i64 t.f, .int .i64 t.v, .slice a t.kids.length c], .func (.func 77) #[] #[.pointer (some ⟨w.heap.size + 1 + 1, 0, none⟩)], .agg #[.int .i64 x.t.f, .int .i64 x.t.v, .slice x.a x.t.kids.length x.c], undef, undef, undef, undef, undef, undef, undef, undef, undef, undef, undef, undef, undef, undef], defers := [] })
    (fun pre x S a₁ A B h hs => by
      obtain ⟨h1, Bx, h2, h3⟩ := h
      exact ⟨h1.stay hs, Bx, h2.stay hs, h3⟩)
    ?assign ?body ?done ?stop
  case assign =>
    intro l pre x S W K hi hlen hok hK
    dsimp only [El.enc]
    gi_wp2
    refine hK _ (fun k => S k ∨ k = W.heap.size) _ ⟨(hi.stay (.alloc _ _ _)).more (fun _ h => .inl h) (fun k h => h.elim (fun h => by have := hi.hi k h; simp; omega) (fun e => by simp; omega)), W.heap.size, ⟨.inr rfl, ?_, ?_, ?_⟩, by simp⟩ (fun k h => h.imp id (fun e => by omega)) (.alloc _ _ _)
    all_goals simp [go_sem]
  case body =>
    rintro l pre x S a₁ W ⟨h, Bx, hx, rfl⟩ hlen hok
    have C := variableOf_any x.t x.a x.t.kids.length x.c W
    have x0 := hx.c0
    have x1 := hx.c1
    have x2 := hx.c2
    have hvn := vl_snoc pre x
    have hvl : (vl (pre.map El.t)).length < 4194304 := by have := vl_len (pre.map El.t); simp at this; omega
    cases hvb : vofB x.t with
    | false =>
      rw [hvb] at C hvn
      have e0 : vl ((pre ++ [x]).map El.t) = vl (pre.map El.t) := by rw [hvn]; simp
      have F0 : Hid (∀ w1, Below W.heap.size W w1 → VInv w W0 (pre ++ [x]) S w1 ∧ Stay (fun k => k < w.heap.size ∨ ¬ S k) W w1) := fun w1 hb => by
        have h1 := h.stay (.of_below hb (fun _ hk _ => hk))
        exact ⟨⟨h1.lo, h1.hi, by rw [e0]; exact h1.v, h1.f, h1.b, h1.z⟩, .of_below hb (fun _ hk _ => hk)⟩
      clear hvn hvb e0 h hx
      gi_wp2_with (refine ⟨trivial, ?_⟩; gi_at_call 68; refine (CallsIn.inRound l (callsIn_wide.2 C)).mono ?_; rintro e w1 ⟨rfl, hb1⟩; clear C)
      obtain ⟨q1, q2⟩ := F0.out w1 hb1
      exact ⟨S, q1, fun k h => .inl h, q2⟩
    | true =>
      rw [hvb] at C hvn
      have e0 : vl ((pre ++ [x]).map El.t) = vl (pre.map El.t) ++ [vofI x.t] := by rw [hvn]; simp
      clear hvn hvb
      gi_wp2_with (first
        | (refine ⟨trivial, ?_⟩; gi_at_call 68; refine (CallsIn.inRound l (callsIn_wide.2 C)).mono ?_; rintro e w1 ⟨rfl, hb1⟩; clear C; have h1 := h.stay (.of_below hb1 (fun _ hk _ => hk)); have hle1 := h1.le; obtain ⟨v1, c1, r1, s1⟩ := h1.v; obtain ⟨av, cv, rfl, _⟩ := own_form r1; clear x0 x1 x2 h hx)
        | (gi_at_builtin; (refine wpListIn_append_own_at _ rfl (.tmp 16) (.tmp 18) 60 rfl W0.heap.size 3 i0 (.int .i64 0) 1 8 Try.underlying60 hi0 hz0 hz1 hz2 rfl (by decide) _ _ _ rfl (r1.alloc _) ⟨w1.heap.size, 0, none⟩ 1 1 [.int .i64 (vofI x.t)] rfl rfl (one_new1 _ _ _ _ rfl) (one_cell _) (by unfold maxLen; omega) (by omega) (by simp; omega) ?_; intro v6 w6 hown6 hgrow6 hnil6 hat6; clear hnil6; have HAT : Hid _ := hat6; clear hat6; obtain ⟨g6, c6, rfl, _, hg6, hl6⟩ := own_slot hown6; have hne : ∀ g, (Value.slice av (vl (List.map El.t pre)).length cv).ownBlock = some g → W0.heap.size ≤ g := (fun g hg => (r1.lt g hg).1); have hbk : w6.heap[w.heap.size + 1]? = w1.heap[w.heap.size + 1]? := (hgrow6.block (w.heap.size + 1) (by simp; omega) (fun e => by have := hne _ e.symm; omega)).trans (Below.heap_alloc _ _ _ h1.lt); have c6' : w6.cell? ⟨w.heap.size + 1, 0, none⟩ = some (.slice av (vl (List.map El.t pre)).length cv) := (World.cell?_of_block hbk).trans c1; have f6 : w6.frozen? ⟨w.heap.size + 1, 0, none⟩ = false := (World.frozen?_of_block hbk).trans h1.f; clear hbk)))
      have hz6 := hgrow6.size
      simp only [World.size_alloc] at hz6
      have hz1' := hb1.size
      have hgS : S g6 ∨ w1.heap.size ≤ g6 := by
        rcases HAT.out with e | e
        · exact .inl (s1 g6 e.symm)
        · have : g6 = w1.heap.size + 1 := by simpa [Value.ownBlock] using e
          exact .inr (by omega)
      have hng : ∀ g, (Value.slice (some ⟨g6, 0, none⟩) ((vl (pre.map El.t)).length + 1) c6).ownBlock = some g → g ≠ w.heap.size + 1 := fun g hg => by
        have e : g6 = g := by simpa [Value.ownBlock] using hg
        omega
      have hrow : (w6.setCell ⟨w.heap.size + 1, 0, none⟩ (.slice (some ⟨g6, 0, none⟩) ((vl (pre.map El.t)).length + 1) c6)).ownsRow W0.heap.size 3 1 (.slice (some ⟨g6, 0, none⟩) ((vl (pre.map El.t)).length + 1) c6) ((vl (pre.map El.t)).length + 1) (ints (vl (pre.map El.t)) ++ [.int .i64 (vofI x.t)]) :=
        own_stay hown6 (Stay.setCell (S := fun k => k ≠ w.heap.size + 1) _ _ (by simp)) (fun g hg => hng g hg)
      refine ⟨fun k => S k ∨ (w1.heap.size ≤ k ∧ k < w6.heap.size), ⟨fun k hk => .inl (h1.lo k hk), fun k hk => ?_, ⟨_, World.cell?_setCell_same' _ _ _ (by rw [c6']; rfl), ?_, fun g hg => ?_⟩, by rw [World.frozen?_setCell]; exact f6, ((h1.b.alloc h1.b.size _).grown hgrow6 (by simp; omega) (fun k e => by have := hne k e; omega)).setCell (p := ⟨w.heap.size + 1, 0, none⟩) (by simp) _, h1.z⟩, fun k h => h.imp id (fun h => by omega), ?_⟩
      · have : k < w6.heap.size := hk.elim (fun h => by have := h1.hi k h; omega) (fun h => h.2)
        simpa using this
      · rw [e0, List.length_append, ints_append]; exact hrow
      · have e : g6 = g := by simpa [Value.ownBlock] using hg
        subst e
        exact hgS.imp id (fun h => ⟨h, hl6⟩)
      · exact (((Stay.of_below hb1 (fun _ hk _ => hk)).trans (.alloc _ _ _)).trans (.grown hgrow6 (fun k e h => h.elim (fun h => by have := hne k e; omega) (fun h => h (s1 k e))))).trans (.setCell _ _ (fun h => h.elim (fun h => by simp only at h; omega) (fun h => h (h1.lo _ (by simp only; omega)))))
  case done =>
    rintro D xs S W hxs h hK hD hSD
    obtain ⟨v1, c1, r1, s1⟩ := h.v
    rw [hxs] at r1
    have hll : (vl (preT t)).length ≤ 4194304 := by have := vl_len (preT t); rw [preT_len] at this; omega
    have hfin := vars_comp t
    have h5 := h.b
    have hlt := h.lt
    generalize vl (preT t) = zs at *
    obtain ⟨av, cv, rfl, _⟩ := own_form r1
    have hne : ∀ g, (Value.slice av zs.length cv).ownBlock = some g → W0.heap.size ≤ g := fun g hg => (r1.lt g hg).1
    have hnD : ∀ g, (Value.slice av zs.length cv).ownBlock = some g → g ≠ D := fun g hg e => hSD (e ▸ s1 g hg)
    have SO := sort_any _ av zs zs.length cv W rfl r1 hll
    have HN : Hid _ := hne
    have HD : Hid _ := hnD
    have HF : Hid _ := hfin
    clear hne hnD s1 h hfin
    gi_wp2_with (first
      | (refine ⟨trivial, ?_⟩; gi_at_call 80; refine (callsIn_wide.2 SO).mono ?_; rintro e w2 ⟨rfl, r2, hg2⟩; clear SO; have c2 : w2.cell? ⟨w.heap.size + 1, 0, none⟩ = some (.slice av zs.length cv) := (World.cell?_of_block (hg2.block (w.heap.size + 1) hlt (fun e => by have := HN.out _ e.symm; omega))).trans c1; have hb2 : Below w.heap.size w w2 := (h5.grown hg2 h5.size (fun k e => by have := HN.out k e; omega)); have hK2 : w2.heap[D]? = some (.deferred (some [])) := (hg2.block D (Array.getElem?_eq_some_iff.1 hK).1 (fun e => HD.out _ e.symm rfl)).trans hK; have hz2 := hg2.size; have CO := compact_any _ av _ zs.length cv w2 (by simp) r2 (by simpa using hll); clear r1 c1 hK h5 hg2)
      | (refine ⟨trivial, ?_⟩; gi_at_call 81; refine (callsIn_wide.2 CO).mono ?_; rintro e w3 ⟨rfl, r3, hg3⟩; clear CO; have hb3 : Below w.heap.size w w3 := (hb2.grown hg3 hb2.size (fun k e => by have := HN.out k e; omega)); have hK3 : w3.heap[D]? = some (.deferred (some [])) := (hg3.block D (Array.getElem?_eq_some_iff.1 hK2).1 (fun e => HD.out _ e.symm rfl)).trans hK2; clear hg3 hK2 hb2 c2))
    have r4 : (w3.putObj D (.deferred none)).ownsRow w.heap.size 3 1 (.slice av (Lib.compact (zs.mergeSort fun x y => decide (x ≤ y))).length cv) (Lib.compact (zs.mergeSort fun x y => decide (x ≤ y))).length (ints (Lib.compact (zs.mergeSort fun x y => decide (x ≤ y)))) :=
      own_lower (own_stay r3 (Stay.putObj (S := fun k => k ≠ D) _ _ (by simp)) (fun g hg => HD.out g (by cases av with | none => cases hg | some b => exact hg))) (by omega)
    rw [HF.out] at r4 ⊢
    refine ⟨by simp, .inl ⟨_, _, rfl, run_takeDeferred hK3, ?_⟩⟩
    exact ⟨_, results_tmp rfl _ _ _, av, cv, rfl, r4, hb3.trans ((Stay.putObj (S := fun k => k < w.heap.size) w3 _ (by omega)).below hb3.size (fun _ h => h))⟩
  case stop =>
    rintro D c pre S W _ h
    exact h.elim
end Go.Proofs.Ytkecnljdloffdab

/- Contracts of the laws' helpers on lists of numbers: whether two are alike, marks, and whether the marks are there. Conditions: at most 1048577 numbers. -/
namespace Go.Proofs.Ytkecnljdloffdab
set_option maxRecDepth 100000
open Go.RowKit

theorem grown_trans {a w w' : World} {row : Option Nat} (h : a.grownBy w row) (k : w.grownBy w' row) : a.grownBy w' row :=
  ⟨k.os.trans h.os, k.tape.trans h.tape, k.output.trans h.output, Nat.le_trans h.size k.size, fun i hi hr => (k.block i (Nat.lt_of_lt_of_le hi h.size) hr).trans (h.block i hi hr)⟩

end Go.Proofs.Ytkecnljdloffdab

/- Contracts of the laws' marks on a term that owns its memory: nothing else is written. Conditions: terms of at most 4194304 parts. -/
namespace Go.Proofs.Ytkecnljdloffdab
set_option maxRecDepth 100000
open Go.RowKit

/-- Between two worlds only blocks of S have turned. -/
structure Only (S : Nat → Prop) (w w' : World) : Prop where
  os : w'.os = w.os
  tape : w'.tape = w.tape
  output : w'.output = w.output
  size : w'.heap.size = w.heap.size
  block : ∀ x, ¬ S x → w'.heap[x]? = w.heap[x]?

theorem Only.refl (S : Nat → Prop) (w : World) : Only S w w := ⟨rfl, rfl, rfl, rfl, fun _ _ => rfl⟩
theorem Only.trans {S : Nat → Prop} {a b c : World} (h : Only S a b) (k : Only S b c) : Only S a c := ⟨k.os.trans h.os, k.tape.trans h.tape, k.output.trans h.output, k.size.trans h.size, fun x hx => (k.block x hx).trans (h.block x hx)⟩
theorem Only.mono {S S' : Nat → Prop} {a b : World} (h : Only S a b) (hs : ∀ x, S x → S' x) : Only S' a b := ⟨h.os, h.tape, h.output, h.size, fun x hx => h.block x (fun k => hx (hs x k))⟩
theorem Only.setCell {S : Nat → Prop} {a b : World} (h : Only S a b) (p : Addr) (hp : S p.block) (u : Value) : Only S a (b.setCell p u) :=
  ⟨h.os, by simp [h.tape], h.output, by simp [h.size], fun x hx => (Below.heap_setCell b p u x (fun e => hx (e ▸ hp))).trans (h.block x hx)⟩
theorem Only.below {S : Nat → Prop} {a b : World} {B : Nat} (h : Only S a b) (hs : ∀ x, S x → B ≤ x) : Below B a b := ⟨h.os, h.tape, h.output, Nat.le_of_eq h.size.symm, fun x hx => h.block x (fun k => by have := hs x k; omega)⟩
theorem Only.cell {S : Nat → Prop} {a b : World} (h : Only S a b) {p : Addr} (hp : ¬ S p.block) : b.cell? p = a.cell? p := World.cell?_of_block (h.block _ hp)
theorem Only.frozen {S : Nat → Prop} {a b : World} (h : Only S a b) {p : Addr} (hp : ¬ S p.block) : b.frozen? p = a.frozen? p := World.frozen?_of_block (h.block _ hp)

theorem rt_mark {a b : Int} (h : a = b) : Ending.returned (.int .i64 a) = .returned (.int .i64 b) := by rw [h]

/-- What is still to be marked of a row of terms. -/
structure MarkSt (wr : World) (S : Nat → Prop) (b off : Nat) (ts : List TermD) (A : Nat → Option Addr) (C : Nat → Nat) (K : Nat → Nat → Prop) (k : Nat) : Prop where
  cells : ∀ i, (h : i < ts.length) → k ≤ i → wr.cell? ⟨b, off + i * 3, none⟩ = some (.int .i64 ts[i].f) ∧ wr.cell? ⟨b, off + i * 3 + 1, none⟩ = some (.int .i64 ts[i].v) ∧ wr.cell? ⟨b, off + i * 3 + 2, none⟩ = some (.slice (A i) ts[i].kids.length (C i))
  frozen : ∀ j, wr.frozen? ⟨b, j, none⟩ = false
  kid : ∀ i, (h : i < ts.length) → k ≤ i → OwnS wr (K i) (A i) ts[i].kids

theorem MarkSt.next {wr w1 : World} {S : Nat → Prop} {b off : Nat} {ts : List TermD} {A : Nat → Option Addr} {C : Nat → Nat} {K : Nat → Nat → Prop} {k : Nat} (h : MarkSt wr S b off ts A C K k) (hk : k < ts.length)
    (hsub : ∀ i x, i < ts.length → K i x → S x ∧ x ≠ b) (hdis : ∀ i j x, i < ts.length → j < ts.length → i ≠ j → K i x → ¬ K j x) (x y : Value)
    (ho : Only (K k) ((wr.setCell ⟨b, off + k * 3, none⟩ x).setCell ⟨b, off + k * 3 + 1, none⟩ y) w1) : MarkSt w1 S b off ts A C K (k + 1) := by
  have hkb : ¬ K k b := fun e => (hsub k b hk e).2 rfl
  refine ⟨fun i hi hki => ?_, fun j => ?_, fun i hi hki => ?_⟩
  · obtain ⟨c0, c1, c2⟩ := h.cells i hi (by omega)
    have d : ∀ o v, (off + k * 3 ≠ o) → (off + k * 3 + 1 ≠ o) → wr.cell? ⟨b, o, none⟩ = some v → w1.cell? ⟨b, o, none⟩ = some v := by
      intro o v h1 h2 hv
      rw [ho.cell (p := ⟨b, o, none⟩) hkb, World.cell?_setCell_other _ _ _ _ (fun e => h2 (by injection e)), World.cell?_setCell_other _ _ _ _ (fun e => h1 (by injection e))]
      exact hv
    exact ⟨d _ _ (by omega) (by omega) c0, d _ _ (by omega) (by omega) c1, d _ _ (by omega) (by omega) c2⟩
  · rw [ho.frozen (p := ⟨b, j, none⟩) hkb]
    simp only [World.frozen?_setCell]
    exact h.frozen j
  · have hib : ¬ K i b := fun e => (hsub i b hi e).2 rfl
    have o := ((h.kid i hi (by omega)).setCell ⟨b, off + k * 3, none⟩ hib x).setCell ⟨b, off + k * 3 + 1, none⟩ hib y
    exact o.frame (fun z hz => ho.block z (fun e => hdis i k z hi hk (by omega) hz e)) (Nat.le_of_eq ho.size.symm)

set_option maxHeartbeats 1600000 in
theorem markTermS_any (N : Nat) : ∀ (ts : List TermD) (a : Option Addr) (c : Nat) (m : Int) (S : Nat → Prop) (w : World), partsL ts ≤ N → N ≤ 4194304 → 0 ≤ m → m + 2 * partsL ts ≤ 1000000000000 → OwnS w S a ts →
    Calls Try.prog 15 #[.slice a ts.length c, .int .i64 m] w fun e w' => e = .returned (.int .i64 (m + 2 * partsL ts)) ∧ Only S w w' := by
  induction N with
  | zero =>
    intro ts a c m S w hN hM hm0 hm ho
    have h1 := partsL_len ts
    have : ts = [] := List.length_eq_zero_iff.1 (by omega)
    subst this
    go_enter Try.func15, Try.ntmps15
    go_wp2_with fail
    refine wp_loop_rounds 1 ?_
    rw [rounds_succ]
    go_wp2_with fail
    go_ret
    exact ⟨by simp [partsL], Only.refl _ _⟩
  | succ N ih =>
    intro ts a c m S w hN hM hm0 hm ho
    have hlen := partsL_len ts
    cases ho with
    | nil S a =>
      go_enter Try.func15, Try.ntmps15
      go_wp2_with fail
      refine wp_loop_rounds 1 ?_
      rw [rounds_succ]
      go_wp2_with fail
      go_ret
      exact ⟨by simp [partsL], Only.refl _ _⟩
    | row S b off ts A C K hb hlt hl hz hc hf hsub hdis hk =>
      have M0 : MarkSt w S b off ts A C K 0 := ⟨fun i h _ => hc i h, hf, fun i h _ => hk i h⟩
      clear hc hf hk hz
      go_enter Try.func15, Try.ntmps15
      go_wp2_with fail
      go_loopw [1, 5] (fun l i wr => ∃ k : Nat, k ≤ ts.length ∧ i = .int .i64 k ∧ l = .int .i64 (m + 2 * partsL (ts.take k)) ∧ MarkSt wr S b off ts A C K k ∧ Only S w wr) (fun _ i _ => ts.length - (intOf i).toNat)
      case atStart => exact ⟨0, Nat.zero_le _, rfl, by simp [partsL], M0, Only.refl _ _⟩
      case round =>
        obtain ⟨k, hk, rfl, rfl, M, O⟩ := hrel
        clear M0
        have hpk := partsL_take ts k
        by_cases hk' : k < ts.length
        · obtain ⟨c0, c1, c2⟩ := M.cells k hk' (Nat.le_refl _)
          have hpg := partsL_get hk'
          have hpt := partsT_eq ts[k]
          have hpn := partsL_next hk'
          have hpk2 := partsL_take ts (k + 1)
          have hki : (k : Int) < (ts.length : Int) := by omega
          have hkb : ¬ K k b := fun e => (hsub k b hk' e).2 rfl
          have f0 := M.frozen (off + k * 3)
          have f1 := M.frozen (off + k * 3 + 1)
          obtain ⟨W, hW⟩ : ∃ W, W = (wr.setCell ⟨b, off + k * 3, none⟩ (.int .i64 (m + 2 * partsL (ts.take k)))).setCell ⟨b, off + k * 3 + 1, none⟩ (.int .i64 (m + 2 * partsL (ts.take k) + 1)) := ⟨_, rfl⟩
          have e1 : (wr.setCell ⟨b, off + k * 3, none⟩ (.int .i64 (m + 2 * partsL (ts.take k)))).cell? ⟨b, off + k * 3 + 1, none⟩ = some (.int .i64 ts[k].v) := by rw [World.cell?_setCell_other _ _ _ _ (by simp)]; exact c1
          have e2 : ((wr.setCell ⟨b, off + k * 3, none⟩ (.int .i64 (m + 2 * partsL (ts.take k)))).setCell ⟨b, off + k * 3 + 1, none⟩ (.int .i64 (m + 2 * partsL (ts.take k) + 1))).cell? ⟨b, off + k * 3 + 2, none⟩ = some (.slice (A k) ts[k].kids.length (C k)) := by rw [World.cell?_setCell_other _ _ _ _ (by simp), World.cell?_setCell_other _ _ _ _ (by simp)]; exact c2
          have oK : OwnS W (K k) (A k) ts[k].kids := by rw [hW]; exact ((M.kid k hk' (Nat.le_refl _)).setCell ⟨b, off + k * 3, none⟩ hkb _).setCell ⟨b, off + k * 3 + 1, none⟩ hkb _
          have O2 : Only S w W := by rw [hW]; exact (O.setCell ⟨b, off + k * 3, none⟩ hb _).setCell ⟨b, off + k * 3 + 1, none⟩ hb _
          have I := ih ts[k].kids (A k) (C k) (m + 2 * partsL (ts.take k) + 1 + 1) (K k) W (by omega) (by omega) (by omega) (by omega) oK
          have NX : ∀ w1, Only (K k) W w1 → MarkSt w1 S b off ts A C K (k + 1) := fun w1 h => M.next hk' hsub hdis _ _ (hW ▸ h)
          have HE : Hid (m + 2 * (partsL (ts.take k) : Int) + 1 + 1 + 2 * partsL ts[k].kids = m + 2 * partsL (ts.take (k + 1))) := by show _ = _; omega
          have hsubk : ∀ x, K k x → S x := fun x hx => (hsub k x hk' hx).1
          clear M hpt hpn oK
          go_wp2_with (go_at_call 15; rw [← hW]; refine I.mono ?_; rintro e w1 ⟨rfl, h1⟩; have M1 := NX _ h1; have O3 := O2.trans (h1.mono hsubk); clear I NX h1 O2 hW)
          go_roundw
          case rel => exact ⟨k + 1, by omega, by go_num, by rw [← HE.out], M1, O3⟩
          case measure => simp [intOf]; omega
        · have E : Hid (k = ts.length) := (by omega : k = ts.length)
          go_wp2_with fail
          go_ret
          refine ⟨rt_mark ?_, O⟩
          rw [E.out, List.take_length]

set_option maxHeartbeats 800000 in
theorem markTerm_any (t : TermD) (a : Option Addr) (c : Nat) (m : Int) (S : Nat → Prop) (w : World) (hp : partsT t ≤ 4194304) (hm0 : 0 ≤ m) (hm : m ≤ 1000000000) (ho : OwnS w S a t.kids) (hs : ∀ x, S x → x < w.heap.size) :
    Calls Try.prog 16 #[.agg #[.int .i64 t.f, .int .i64 t.v, .slice a t.kids.length c], .int .i64 m] w fun e w' => e = .returned (.int .i64 (m + 2 * partsL t.kids)) ∧ ∃ w0, Below w.heap.size w w0 ∧ Only S w0 w' := by
  rw [partsT_eq] at hp
  have h0 : Below w.heap.size w (w.alloc (.cells #[.int .i64 t.f, .int .i64 t.v, .slice a t.kids.length c] 28)) := (Below.refl w.heap.size w).alloc (Nat.le_refl _) _
  have o1 : OwnS (w.alloc (.cells #[.int .i64 t.f, .int .i64 t.v, .slice a t.kids.length c] 28)) S a t.kids := ho.frame (fun x hx => h0.block x (hs x hx)) h0.size
  have I := markTermS_any (partsL t.kids) t.kids a c m S _ (Nat.le_refl _) (by omega) hm0 (by omega) o1
  generalize t.kids = ks at *
  go_enter Try.func16, Try.ntmps16
  go_wp2_with (go_at_call 15; refine I.mono ?_; rintro e w1 ⟨rfl, h1⟩; clear I)
  go_ret
  exact ⟨rfl, _, h0, h1⟩
end Go.Proofs.Ytkecnljdloffdab

/- What lies in memory while the law on a term's variables goes on; marks on lists of numbers that may be nil. Conditions: at most 1048577 numbers. -/
namespace Go.Proofs.Ytkecnljdloffdab
set_option maxRecDepth 100000
open Go.RowKit

theorem Rd.ownV {w : World} {base : Nat} {av : Option Addr} {n cap : Nat} {zs : List Int} (hn : n = zs.length) (h : w.ownsRow base 3 1 (.slice av n cap) n (ints zs)) : Rd w av zs := by
  rcases h.2 with ⟨_, h0⟩ | ⟨g, c, cur, hv, _⟩
  · exact .inl (List.length_eq_zero_iff.1 (by omega))
  · cases hv
    exact Rd.own hn h

/-- The middle of the law. -/
structure LSt (w : World) (t : TermD) (a : Option Addr) (c L1 L2 gW cW : Nat) (ag : Option Addr) (cg : Nat) (V G : List Int) (W : World) : Prop where
  bel : Below w.heap.size w W
  p0 : W.cell? ⟨w.heap.size, 0, none⟩ = some (.int .i64 t.f)
  p1 : W.cell? ⟨w.heap.size, 1, none⟩ = some (.int .i64 t.v)
  p2 : W.cell? ⟨w.heap.size, 2, none⟩ = some (.slice a t.kids.length c)
  rW : W.ownsRow (w.heap.size + 1) 3 1 (.slice (some ⟨gW, 0, none⟩) V.length cW) V.length (ints V)
  rG : W.ownsRow (L2 + 1) 3 1 (.slice ag V.length cg) V.length (ints G)
  gw : gW < L1
  lo : w.heap.size < L1
  l12 : L1 ≤ L2
  hi : L2 < W.heap.size

namespace LSt
variable {w : World} {t : TermD} {a : Option Addr} {c L1 L2 gW cW : Nat} {ag : Option Addr} {cg : Nat} {V G : List Int} {W W' : World}
theorem on (h : LSt w t a c L1 L2 gW cW ag cg V G W) (hb : Below W.heap.size W W') : LSt w t a c L1 L2 gW cW ag cg V G W' :=
  ⟨h.bel.trans (hb.mono h.bel.size), keepC hb h.p0, keepC hb h.p1, keepC hb h.p2, own_on h.rW hb, own_on h.rG hb, h.gw, h.lo, h.l12, Nat.lt_of_lt_of_le h.hi hb.size⟩
theorem draw (h : LSt w t a c L1 L2 gW cW ag cg V G W) (q : Nat) : LSt w t a c L1 L2 gW cW ag cg V G (W.drewN q) := h.on (below_drewN (Below.refl _ _) q)
theorem rdW (h : LSt w t a c L1 L2 gW cW ag cg V G W) : Rd W (some ⟨gW, 0, none⟩) V := Rd.own rfl h.rW
theorem rdG (h : LSt w t a c L1 L2 gW cW ag cg V V W) : Rd W ag V := Rd.ownV rfl h.rG
theorem rdM (h : LSt w t a c L1 L2 gW cW ag cg V (upFrom 1 V.length) W) : Rd W ag (upFrom 1 V.length) := Rd.ownV (upFrom_len _ _).symm h.rG
theorem stay {S : Nat → Prop} (h : LSt w t a c L1 L2 gW cW ag cg V G W) (hs : Stay S W W') (h1 : ∀ k, k < L1 → S k) (h2 : ∀ k, L2 < k → S k) : LSt w t a c L1 L2 gW cW ag cg V G W' := by
  have hlo := h.lo
  refine ⟨h.bel.trans (hs.below h.bel.size (fun k hk => h1 k (by omega))), hs.cell h.p0 (h1 _ hlo), hs.cell h.p1 (h1 _ hlo), hs.cell h.p2 (h1 _ hlo), own_stay h.rW hs (fun g hg => ?_), own_stay h.rG hs (fun g hg => h2 g (h.rG.lt g hg).1), h.gw, hlo, h.l12, Nat.lt_of_lt_of_le h.hi hs.size⟩
  have e : gW = g := by simpa [Value.ownBlock] using hg
  exact h1 g (e ▸ h.gw)
/-- The copy's own blocks are written. -/
theorem markX {w0 : World} (h : LSt w t a c L1 L2 gW cW ag cg V G W) (hb : Below W.heap.size W w0) (ho : Only (fun x => L1 ≤ x ∧ x < L2) w0 W') : LSt w t a c L1 L2 gW cW ag cg V G W' :=
  (h.on hb).stay (S := fun x => ¬ (L1 ≤ x ∧ x < L2)) ⟨ho.os, ho.tape, ho.output, Nat.le_of_eq ho.size.symm, fun k _ hk => ho.block k hk⟩ (fun k hk => by omega) (fun k hk => by omega)
/-- The answer's numbers are written. -/
theorem markG {G' : List Int} (h : LSt w t a c L1 L2 gW cW ag cg V G W) (ho : W'.ownsRow (L2 + 1) 3 1 (.slice ag V.length cg) V.length (ints G')) (hg : W.grownBy W' (Value.slice ag V.length cg).ownBlock) : LSt w t a c L1 L2 gW cW ag cg V G' W' := by
  have hlo := h.lo
  have hl := h.l12
  have hgw := h.gw
  have hs : Stay (fun k => k < L1) W W' := .grown hg (fun k e hk => by have := (h.rG.lt k e).1; omega)
  refine ⟨h.bel.trans (hs.below h.bel.size (fun k hk => by omega)), hs.cell h.p0 hlo, hs.cell h.p1 hlo, hs.cell h.p2 hlo, own_stay h.rW hs (fun g hg => ?_), ho, hgw, hlo, hl, Nat.lt_of_lt_of_le h.hi hs.size⟩
  have e : gW = g := by simpa [Value.ownBlock] using hg
  omega
end LSt
end Go.Proofs.Ytkecnljdloffdab

/- The variables of a term stand in it once at least, and not more often together than it has parts. Conditions: none. -/
namespace Go.Proofs.Ytkecnljdloffdab
set_option maxRecDepth 100000
open Go.RowKit

mutual
theorem cnt_pre (v : Int) : ∀ t : TermD, cntT v t = (vl (preT t)).count v
  | .mk f u ks => by
    have h := cnt_preL v ks
    rw [cntT, preT, h]
    by_cases hf : f = -1
    · by_cases hu : u = v
      · simp [vl, hf, hu, TermD.f, TermD.v]; omega
      · simp [vl, hf, hu, TermD.f, TermD.v]
    · simp [vl, hf, TermD.f]
theorem cnt_preL (v : Int) : ∀ ts : List TermD, cntL v ts = (vl (preL ts)).count v
  | [] => by simp [cntL, preL, vl]
  | t :: ts => by rw [cntL, preL, vl_append, List.count_append, cnt_pre v t, cnt_preL v ts]
end
theorem vars_mem (t : TermD) (v : Int) : v ∈ varsT t [] ↔ v ∈ vl (preT t) := by
  rw [vl_pre]
  simpa using (fold_ss (vl (preT t)) [] .nil).2 v
theorem vars_up (t : TermD) : (varsT t []).Pairwise (· < ·) := by
  rw [vl_pre]
  exact (fold_ss (vl (preT t)) [] .nil).1
theorem vars_cnt {t : TermD} {v : Int} (h : v ∈ varsT t []) : 1 ≤ cntT v t := by
  rw [cnt_pre]
  exact List.count_pos_iff.2 ((vars_mem t v).1 h)
theorem counts_le : ∀ (vs l : List Int), vs.Pairwise (· < ·) → (vs.map (fun v => l.count v)).sum ≤ l.length
  | [], l, _ => by simp
  | v :: vs, l, h => by
    have hv := (List.pairwise_cons.1 h).1
    have ih := counts_le vs (l.filter (fun x => x != v)) (List.pairwise_cons.1 h).2
    have e : vs.map (fun u => (l.filter (fun x => x != v)).count u) = vs.map (fun u => l.count u) := by
      refine List.map_congr_left (fun u hu => ?_)
      exact List.count_filter (by have := hv u hu; simp; omega)
    rw [e] at ih
    have hl : l.length = l.count v + (l.filter (fun x => x != v)).length := by
      clear ih e
      induction l with
      | nil => rfl
      | cons x xs ihx =>
        by_cases hx : x = v
        · subst hx; simp; omega
        · simp [hx]; omega
    rw [List.map_cons, List.sum_cons]
    omega
theorem vars_sum (t : TermD) : ((varsT t []).map (fun v => cntT v t)).sum ≤ partsT t := by
  have h := counts_le (varsT t []) (vl (preT t)) (vars_up t)
  have e : (varsT t []).map (fun v => cntT v t) = (varsT t []).map (fun v => (vl (preT t)).count v) := List.map_congr_left (fun v _ => cnt_pre v t)
  rw [e]
  have := vl_len (preT t)
  have := preT_len t
  omega
/-- The sum as far as the loop has come. -/
theorem sum_take (l : List Nat) (i : Nat) : (l.take i).sum ≤ l.sum := by
  have : l.sum = (l.take i).sum + (l.drop i).sum := by rw [← List.sum_append, List.take_append_drop]
  omega
end Go.Proofs.Ytkecnljdloffdab

/- The one result of a function, where it lies in a cell. Conditions: none. -/
namespace Go.Proofs.Ytkecnljdloffdab
set_option maxRecDepth 100000
open Go.RowKit

theorem results_cell1 {fn : Func} {p : Tmp} {ty : TypeId} (h : fn.results = #[.cell p ty]) (tmps : Array Value) (P : Program) (w : World) :
    (results fn tmps).run P w = ((asAddr (tmps.getD p undef)).run P w).andThen fun a w₁ => (loadVar ty a).run P w₁ := by
  simp only [results, h]
  simp [Sem.run_bind, Result.andThen]
theorem load_bool {w : World} {p : Addr} {b : Bool} (h : w.cell? p = some (.bool b)) : (loadVar 4 p).run Try.prog w = .ok (.bool b) w := by
  simp [loadVar, go_sem, h]
theorem results_bool {fn : Func} {p : Tmp} (h : fn.results = #[.cell p 4]) {tmps : Array Value} {w : World} {a : Addr} (ha : tmps.getD p undef = .pointer (some a)) {b : Bool} (hc : w.cell? a = some (.bool b)) :
    (results fn tmps).run Try.prog w = .ok (.bool b) w := by
  rw [results_cell1 h, ha]
  simp [go_sem, hc, Result.andThen]
end Go.Proofs.Ytkecnljdloffdab

/- Whether a term has at most 60 parts, as the program tells it: it stops at the first one too many. Conditions: terms of at most 4194304 parts. -/
namespace Go.Proofs.Ytkecnljdloffdab
set_option maxRecDepth 100000
open Go.RowKit Go.Shelf
attribute [local go_sem] Oper.semAt_some

/-- What the loop holds between two rounds. -/
structure FInv (w W0 : World) (pre : List El) (S : Nat → Prop) (W : World) : Prop where
  lo : ∀ k, k < W0.heap.size → S k
  hi : ∀ k, S k → k < W.heap.size
  r : W.cell? ⟨w.heap.size + 1, 0, none⟩ = some (.bool false)
  f : W.frozen? ⟨w.heap.size + 1, 0, none⟩ = false
  n : W.cell? ⟨w.heap.size + 1 + 1, 0, none⟩ = some (.int .i64 (pre.length : Int))
  g : W.frozen? ⟨w.heap.size + 1 + 1, 0, none⟩ = false
  b : Below w.heap.size w W
  z : w.heap.size + 1 + 1 < W0.heap.size
  le : pre.length ≤ 60
theorem FInv.stay {w W0 A B : World} {pre : List El} {S : Nat → Prop} (h : FInv w W0 pre S A) (hs : Stay S A B) : FInv w W0 pre S B := by
  have hz := h.z
  exact ⟨h.lo, fun k hk => Nat.lt_of_lt_of_le (h.hi k hk) hs.size, hs.cell h.r (h.lo _ (by simp only; omega)), (hs.frozen (World.block_lt_of_cell? _ _ h.r) (h.lo _ (by simp only; omega))).trans h.f, hs.cell h.n (h.lo _ hz), (hs.frozen (World.block_lt_of_cell? _ _ h.n) (h.lo _ hz)).trans h.g, h.b.trans (hs.below h.b.size (fun k hk => h.lo k (by omega))), hz, h.le⟩
/-- What is left where there was one too many. -/
structure FOut (w W0 : World) (pre : List El) (S : Nat → Prop) (W : World) : Prop where
  lo : ∀ k, k < W0.heap.size → S k
  r : W.cell? ⟨w.heap.size + 1, 0, none⟩ = some (.bool false)
  b : Below w.heap.size w W
  z : w.heap.size + 1 + 1 < W0.heap.size
  hit : 60 < pre.length
theorem FOut.stay {w W0 A B : World} {pre : List El} {S : Nat → Prop} (h : FOut w W0 pre S A) (hs : Stay S A B) : FOut w W0 pre S B := by
  have hz := h.z
  exact ⟨h.lo, hs.cell h.r (h.lo _ (by simp only; omega)), h.b.trans (hs.below h.b.size (fun k hk => h.lo k (by omega))), hz, h.hit⟩

set_option maxHeartbeats 3200000 in
theorem fewParts_any (t : TermD) (a : Option Addr) (c hi : Nat) (w : World) (hp : partsT t ≤ 4194304) (hr : RdK w hi a t.kids) (hhi : hi ≤ w.heap.size) (hc : t.kids.length ≤ c) :
    Calls Try.prog 61 #[.agg #[.int .i64 t.f, .int .i64 t.v, .slice a t.kids.length c]] w fun e w' => e = .returned (.bool (decide (partsT t ≤ 60))) ∧ Below w.heap.size w w' := by
  refine (callsIn_wide (n := 5)).1 ?_
  refine callsIn_of_wp_marks Try.func61 rfl trivial ?_ rfl
  simp only [Try.ntmps61, List.size_toArray, List.length_cons, List.length_nil, Nat.reduceAdd, Nat.reduceSub, Array.replicate_succ, Array.replicate_zero, List.push_toArray, List.append_toArray, List.nil_append, List.cons_append]
  gi_wp2_with (refine ⟨trivial, ?_⟩; gi_at_call 62; refine (callsIn_wide.2 (within_any t a c _)).mono ?_; rintro e w' ⟨rfl, rfl⟩)
  obtain ⟨W0, hW0⟩ : ∃ W0, W0 = (((w.alloc (.cells #[.int .i64 t.f, .int .i64 t.v, .slice a t.kids.length c] 28)).alloc (.cells #[.bool false] 4)).alloc (.cells #[.int .i64 0] 3)).alloc (.cells #[.int .i64 t.f, .int .i64 t.v, .slice a t.kids.length c] 28) := ⟨_, rfl⟩
  have hB0 : Below w.heap.size w W0 := by rw [hW0]; exact ((((Below.refl _ _).alloc (Nat.le_refl _) _).alloc (by simp) _).alloc (by simp; omega) _).alloc (by simp; omega) _
  have hz : W0.heap.size = w.heap.size + 1 + 1 + 1 + 1 := by rw [hW0]; simp
  have r0 : W0.cell? ⟨w.heap.size + 1, 0, none⟩ = some (.bool false) := by rw [hW0]; simp [go_sem]
  have f0 : W0.frozen? ⟨w.heap.size + 1, 0, none⟩ = false := by rw [hW0]; simp [go_sem]
  have n0 : W0.cell? ⟨w.heap.size + 1 + 1, 0, none⟩ = some (.int .i64 0) := by rw [hW0]; simp [go_sem]
  have g0 : W0.frozen? ⟨w.heap.size + 1 + 1, 0, none⟩ = false := by rw [hW0]; simp [go_sem]
  have t0 : W0.cell? ⟨w.heap.size + 1 + 1 + 1, 0, none⟩ = some (.int .i64 t.f) := by rw [hW0]; simp [go_sem]
  have t1 : W0.cell? ⟨w.heap.size + 1 + 1 + 1, 1, none⟩ = some (.int .i64 t.v) := by rw [hW0]; simp [go_sem]
  have t2 : W0.cell? ⟨w.heap.size + 1 + 1 + 1, 2, none⟩ = some (.slice a t.kids.length c) := by rw [hW0]; simp [go_sem]
  rw [← hW0]
  clear hW0
  refine wpIn_rangeFunc_priv rfl (by omega) (gf := 77) (lb := #[.pointer (some ⟨w.heap.size + 1 + 1 + 1, 0, none⟩)]) rfl trivial (enters_of Try.func77 (by kernel_rfl) rfl)
    (within_seq Fence.wide 4 trivial rfl (by omega) W0 t a c hi w.heap.size (w.heap.size + 1 + 1 + 1) hp hc (hr.on (hB0.mono hhi)) hhi hB0.size t0 t1 t2) hB0.size (Below.refl _ _) (fun _ => rfl)
    (fun pre S W => FInv w W0 pre S W) (fun cd pre S W => cd = .ret ∧ FOut w W0 pre S W) (fun pre S A B h hs => h.stay hs)
    (fun _ _ _ _ _ h hs => ⟨h.1, h.2.stay hs⟩) (fun pre S A h => h.hi) (fun k => k < W0.heap.size) (fun _ h => h) ⟨fun _ h => h, fun _ h => h, r0, f0, n0, g0, hB0, by omega, by simp⟩
    (fun pre x S a₁ W => FInv w W0 pre S W ∧ a₁ = { tmps := #[.agg #[.int .i64 t.f, .int .i64 t.v, .slice a t.kids.length c], .pointer (some ⟨w.heap.size, 0, none⟩), .pointer (some ⟨w.heap.size + 1, 0, none⟩), .pointer (some ⟨w.heap.size + 1 + 1, 0, none⟩), .agg #[.int .i64 t.f, .int .i64 t.v, .slice a t.kids.length c], .func (.func 77) #[] #[.pointer (some ⟨w.heap.size + 1 + 1 + 1, 0, none⟩)], .agg #[.int .i64 x.t.f, .int .i64 x.t.v, .slice x.a x.t.kids.length x.c], undef, undef, undef, undef], defers := [] })
    (fun pre x S a₁ A B h hs => ⟨h.1.stay hs, h.2⟩)
    ?assign ?body ?done ?stop
  case assign =>
    intro l pre x S W K hi hlen hok hK
    dsimp only [El.enc]
    gi_wp2
    exact hK _ S _ ⟨hi, by simp⟩ (fun _ h => .inl h) (.refl _ _)
  case body =>
    rintro l pre x S a₁ W ⟨h, rfl⟩ hlen hok
    have hr0 := h.r
    have hf0 := h.f
    have hn0 := h.n
    have hg0 := h.g
    have hz0 := h.z
    have hl0 := h.le
    have nlo : ∀ k, k < W0.heap.size → S k := h.lo
    have N1 : FInv w W0 pre S W := h
    by_cases h60 : pre.length < 60
    · have F0 : Hid (FInv w W0 (pre ++ [x]) S (W.setCell ⟨w.heap.size + 1 + 1, 0, none⟩ (.int .i64 ((pre.length : Int) + 1))) ∧ Stay (fun k => k < w.heap.size ∨ ¬ S k) W (W.setCell ⟨w.heap.size + 1 + 1, 0, none⟩ (.int .i64 ((pre.length : Int) + 1)))) := by
        refine ⟨⟨h.lo, fun k hk => by simpa using h.hi k hk, ?_, ?_, ?_, ?_, h.b.setCell (p := ⟨w.heap.size + 1 + 1, 0, none⟩) (by simp; omega) _, hz0, by simp; omega⟩, .setCell _ _ (fun h' => h'.elim (fun h' => by simp only at h'; omega) (fun h' => h' (h.lo _ hz0)))⟩
        · exact (World.cell?_of_block (Below.heap_setCell _ _ _ _ (by simp))).trans hr0
        · rw [World.frozen?_setCell]; exact hf0
        · rw [World.cell?_setCell_same _ _ _ hn0]; simp
        · rw [World.frozen?_setCell]; exact hg0
      have hb60 : (pre.length : Int) < 60 := by omega
      clear h N1 nlo hlen hok
      gi_wp2
      exact ⟨S, F0.out.1, fun k h => .inl h, F0.out.2⟩
    · have e60 : (pre.length : Int) = 60 := by omega
      have F1 : Hid (∀ v, FOut w W0 (pre ++ [x]) S ((W.setCell ⟨w.heap.size + 1 + 1, 0, none⟩ v).setCell ⟨w.heap.size + 1, 0, none⟩ (.bool false)) ∧ Stay (fun k => k < w.heap.size ∨ ¬ S k) W ((W.setCell ⟨w.heap.size + 1 + 1, 0, none⟩ v).setCell ⟨w.heap.size + 1, 0, none⟩ (.bool false))) := fun v => by
        refine ⟨⟨h.lo, ?_, (h.b.setCell (p := ⟨w.heap.size + 1 + 1, 0, none⟩) (by simp; omega) _).setCell (p := ⟨w.heap.size + 1, 0, none⟩) (by simp) _, hz0, by simp; omega⟩, (Stay.setCell _ _ (fun h' => h'.elim (fun h' => by simp only at h'; omega) (fun h' => h' (h.lo _ hz0)))).trans (.setCell _ _ (fun h' => h'.elim (fun h' => by simp only at h'; omega) (fun h' => h' (h.lo _ (by simp only; omega)))))⟩
        exact World.cell?_setCell_same _ _ _ ((World.cell?_of_block (Below.heap_setCell _ _ _ _ (by simp))).trans hr0)
      rw [e60] at hn0
      have hr1 : ∀ v, (W.setCell ⟨w.heap.size + 1 + 1, 0, none⟩ v).cell? ⟨w.heap.size + 1, 0, none⟩ = some (.bool false) := fun v => (World.cell?_of_block (Below.heap_setCell _ _ _ _ (by simp))).trans hr0
      have HR1 : Hid _ := hr1
      clear h N1 nlo hlen hok h60 e60 hl0 hr1
      gi_wp2
      exact ⟨S, ⟨rfl, (F1.out _).1⟩, fun k h => .inl h, (F1.out _).2⟩
  case done =>
    rintro D xs S W hxs h hK hD hSD
    have h3 := h.r
    have h4 := h.f
    have h5 := h.b
    have hg : Hid (decide (partsT t ≤ 60) = true) := by
      show _ = _
      have h6 := h.le
      have : xs.length = partsT t := by rw [← preT_len, ← hxs]; simp
      simp; omega
    clear h
    gi_wp2
    refine ⟨by simp, .inl ⟨_, _, rfl, run_takeDeferred (by rw [Below.heap_setCell _ _ _ _ (by simp only; omega)]; exact hK), ?_⟩⟩
    have e5 := (h5.setCell (p := ⟨w.heap.size + 1, 0, none⟩) (by simp) (.bool true))
    exact ⟨_, results_bool rfl rfl (b := true) ((World.cell?_of_block (World.putObj_heap_other (by simp only; omega))).trans (World.cell?_setCell_same _ _ _ h3)), rtB hg.out.symm, e5.trans ((Stay.putObj (S := fun k => k < w.heap.size) _ _ (by omega)).below e5.size (fun _ h => h))⟩
  case stop =>
    rintro D cd pre S W ⟨r, hpre⟩ ⟨rfl, h⟩ hK hD hSD
    have h3 := h.r
    have h5 := h.b
    have hg : Hid (decide (partsT t ≤ 60) = false) := by
      show _ = _
      have h6 := h.hit
      have : pre.length + r.length = partsT t := by rw [← preT_len, ← hpre]; simp
      simp; omega
    clear h
    gi_wp2
    refine ⟨by simp, .inl ⟨_, _, rfl, run_takeDeferred hK, ?_⟩⟩
    exact ⟨_, results_bool rfl rfl (b := false) ((World.cell?_of_block (World.putObj_heap_other (by simp only; omega))).trans h3), rtB hg.out.symm, h5.trans ((Stay.putObj (S := fun k => k < w.heap.size) W _ (by omega)).below h5.size (fun _ h => h))⟩
end Go.Proofs.Ytkecnljdloffdab

/- How the program holds the heads of two terms against each other. Conditions: none. -/
namespace Go.Proofs.Ytkecnljdloffdab
set_option maxRecDepth 100000
open Go.RowKit

theorem isNaN_any (x : Int) (w : World) : Calls Try.prog 82 #[.int .i64 x] w fun e w' => e = .returned (.bool false) ∧ w' = w := by
  have h : (x != x) = false := by simp
  go_enter Try.func82, Try.ntmps82
  go_wp2
  go_ret
  exact ⟨rfl, rfl⟩

theorem compare_any (x y : Int) (w : World) : Calls Try.prog 66 #[.int .i64 x, .int .i64 y] w fun e w' => e = .returned (.int .i64 (cmpI x y)) ∧ w' = w := by
  by_cases h1 : x < y
  · have HC : Hid (cmpI x y = -1) := by show _ = _; unfold cmpI; rw [if_pos h1]
    go_enter Try.func66, Try.ntmps66
    go_wp2_with (go_at_call 82; refine (isNaN_any _ _).mono ?_; rintro e w' ⟨rfl, rfl⟩)
    go_ret
    exact ⟨rtI HC.out.symm, rfl⟩
  · by_cases h2 : y < x
    · have HC : Hid (cmpI x y = 1) := by show _ = _; unfold cmpI; rw [if_neg h1, if_pos h2]
      go_enter Try.func66, Try.ntmps66
      go_wp2_with (go_at_call 82; refine (isNaN_any _ _).mono ?_; rintro e w' ⟨rfl, rfl⟩)
      go_ret
      exact ⟨rtI HC.out.symm, rfl⟩
    · have HC : Hid (cmpI x y = 0) := by show _ = _; unfold cmpI; rw [if_neg h1, if_neg h2]
      go_enter Try.func66, Try.ntmps66
      go_wp2_with (go_at_call 82; refine (isNaN_any _ _).mono ?_; rintro e w' ⟨rfl, rfl⟩)
      go_ret
      exact ⟨rtI HC.out.symm, rfl⟩

theorem or3_any (g : Nat) (x y z : Int) (w : World) (h0 : w.cell? ⟨g, 0, none⟩ = some (.int .i64 x)) (h1 : w.cell? ⟨g, 1, none⟩ = some (.int .i64 y)) (h2 : w.cell? ⟨g, 2, none⟩ = some (.int .i64 z)) :
    Calls Try.prog 94 #[.slice (some ⟨g, 0, none⟩) 3 3] w fun e w' => e = .returned (.int .i64 (or3 x y z)) ∧ w' = w := by
  go_enter Try.func94, Try.ntmps94
  go_wp2
  refine wp_loop_rounds 4 ?_
  rw [rounds_succ]
  by_cases e0 : x = 0
  · have b0 : (x != 0) = false := by simp [e0]
    go_wp2
    rw [rounds_succ]
    by_cases e1 : y = 0
    · have b1 : (y != 0) = false := by simp [e1]
      go_wp2
      rw [rounds_succ]
      by_cases e2 : z = 0
      · have b2 : (z != 0) = false := by simp [e2]
        have HC : Hid (or3 x y z = 0) := by show _ = _; unfold or3; simp [e0, e1, e2]
        clear e0 e1 e2
        go_wp2
        rw [rounds_succ]
        go_wp2
        go_ret
        exact ⟨rtI HC.out.symm, rfl⟩
      · have b2 : (z != 0) = true := by simp [e2]
        have HC : Hid (or3 x y z = z) := by show _ = _; unfold or3; simp [e0, e1]
        clear e0 e1 e2
        go_wp2
        go_ret
        exact ⟨rtI HC.out.symm, rfl⟩
    · have b1 : (y != 0) = true := by simp [e1]
      have HC : Hid (or3 x y z = y) := by show _ = _; unfold or3; simp [e0, e1]
      clear e0 e1
      go_wp2
      go_ret
      exact ⟨rtI HC.out.symm, rfl⟩
  · have b0 : (x != 0) = true := by simp [e0]
    have HC : Hid (or3 x y z = x) := by show _ = _; unfold or3; simp [e0]
    clear e0
    go_wp2
    go_ret
    exact ⟨rtI HC.out.symm, rfl⟩

set_option maxHeartbeats 1600000 in
theorem headOrder_any (t u : TermD) (a a' : Option Addr) (c c' : Nat) (w : World) :
    Calls Try.prog 85 #[.agg #[.int .i64 t.f, .int .i64 t.v, .slice a t.kids.length c], .agg #[.int .i64 u.f, .int .i64 u.v, .slice a' u.kids.length c']] w fun e w' => e = .returned (.int .i64 (headO t u)) ∧ Below w.heap.size w w' := by
  have HC : Hid (headO t u = or3 (cmpI t.f u.f) (cmpI t.v u.v) (cmpI t.kids.length u.kids.length)) := rfl
  generalize t.kids.length = n at *
  generalize u.kids.length = m at *
  go_enter Try.func85, Try.ntmps85
  go_wp2_with fail
  go_region_held3 (fun w' => w'.cell? ⟨w.heap.size, 0, none⟩ = some (.int .i64 t.f) ∧ w'.cell? ⟨w.heap.size, 1, none⟩ = some (.int .i64 t.v) ∧ w'.cell? ⟨w.heap.size, 2, none⟩ = some (.slice a n c) ∧ w'.cell? ⟨w.heap.size + 1, 0, none⟩ = some (.int .i64 u.f) ∧ w'.cell? ⟨w.heap.size + 1, 1, none⟩ = some (.int .i64 u.v) ∧ w'.cell? ⟨w.heap.size + 1, 2, none⟩ = some (.slice a' m c')) (first | go_keep | skip)
    (first | (go_at_call 66; refine (compare_any _ _ _).mono ?_; rintro e w' ⟨rfl, hw⟩; subst w') | (go_at_call 94; refine (or3_any _ (cmpI t.f u.f) (cmpI t.v u.v) (cmpI n m) _ ?_ ?_ ?_).mono ?_; (simp [go_sem]); (simp [go_sem]); (simp [go_sem]); rintro e w' ⟨rfl, hw⟩; subst w'))
  go_wp2_with fail
  go_ret
  exact ⟨rtI HC.out.symm, (((((Below.refl w.heap.size w).alloc (Nat.le_refl _) _).alloc (by simp) _).alloc (by simp; omega) _).drew)⟩
end Go.Proofs.Ytkecnljdloffdab

