/- What the proof of FnExactLitApply stands on, part 5 of 13: each piece says what it proves and under which conditions. Conditions: as each piece says. -/
import Derived.Test.YtollijngiioonabGreatPackExactLitApply4
import Derived.Shelf.Small.Bits
import Derived.Shelf.Small.Wraps
import Derived.Shelf.Strconv.Itoa0
import Derived.Ground.GgsProg
import Derived.Shelf.GgSortFunc.Tiny
import Derived.Shelf.SlSortFunc.Xorshift
import Derived.Test.YtollijngiioonabGreatProg
import Derived.Sort.Walk7
import Derived.Deep.LoopGhost
import Derived.Sort.Walk13
import Derived.Shelf.GgSortFunc.SmallK
/- The library's contracts for slices.Sort, slices.Compact, sort.Slice and what they call, laid at this program by the kit's own tool, in plain words. Conditions: as each says. -/
namespace Go.Proofs
open Go.Shelf
def Tryz.lays128_ren : Go.Shelf.Ren := ⟨fun | 128 => 85 | n => n, fun | 51 => 132 | 3 => 3 | 4 => 4 | 46 => 116 | 5 => 5 | 9 => 9 | n => n, fun | n => n⟩
theorem Tryz.lays128 : Go.Proofs.Lays.n128 Tryz.prog Tryz.lays128_ren := {
  mixed := by kernel_rfl
  f128 := Tryz.func85.trans (congrArg some (by kernel_rfl))
  t3 := Tryz.underlying3
  a3 := Tryz.isAgg3
  z3 := Tryz.sizeOf3
  v3 := Tryz.zeroValue3
  t4 := Tryz.underlying4
  a4 := Tryz.isAgg4
  z4 := Tryz.sizeOf4
  v4 := Tryz.zeroValue4
  t5 := Tryz.underlying5
  a5 := Tryz.isAgg5
  z5 := Tryz.sizeOf5
  v5 := Tryz.zeroValue5
  t9 := Tryz.underlying9
  a9 := Tryz.isAgg9
  z9 := Tryz.sizeOf9
  v9 := Tryz.zeroValue9
  t46 := Tryz.underlying116
  a46 := Tryz.isAgg116
  z46 := Tryz.sizeOf116
  v46 := Tryz.zeroValue116
  t51 := Tryz.underlying132
  a51 := Tryz.isAgg132
  z51 := Tryz.sizeOf132
  v51 := Tryz.zeroValue132 }
theorem Tryz.bits_Len32 (x : Int) (w : World) (h0 : 0 ≤ x) (h1 : x ≤ 4294967295) :
    Calls Tryz.prog 85 #[.int .u32 x] w fun e w' => e = .returned (.int .i64 (Lib.bitLen x.toNat)) ∧ w' = w := Any.bits_Len32 Tryz.lays128 x w h0 h1
def Tryz.lays125_ren : Go.Shelf.Ren := ⟨fun | 125 => 70 | 128 => 85 | 129 => 86 | n => n, fun | 46 => 116 | 3 => 3 | 51 => 132 | 53 => 134 | 4 => 4 | 5 => 5 | 9 => 9 | n => n, fun | n => n⟩
theorem Tryz.lays125 : Go.Proofs.Lays.n125 Tryz.prog Tryz.lays125_ren := {
  mixed := by kernel_rfl
  f125 := Tryz.func70.trans (congrArg some (by kernel_rfl))
  f128 := Tryz.func85.trans (congrArg some (by kernel_rfl))
  f129 := Tryz.func86.trans (congrArg some (by kernel_rfl))
  t3 := Tryz.underlying3
  a3 := Tryz.isAgg3
  z3 := Tryz.sizeOf3
  v3 := Tryz.zeroValue3
  t4 := Tryz.underlying4
  a4 := Tryz.isAgg4
  z4 := Tryz.sizeOf4
  v4 := Tryz.zeroValue4
  t5 := Tryz.underlying5
  a5 := Tryz.isAgg5
  z5 := Tryz.sizeOf5
  v5 := Tryz.zeroValue5
  t9 := Tryz.underlying9
  a9 := Tryz.isAgg9
  z9 := Tryz.sizeOf9
  v9 := Tryz.zeroValue9
  t46 := Tryz.underlying116
  a46 := Tryz.isAgg116
  z46 := Tryz.sizeOf116
  v46 := Tryz.zeroValue116
  t51 := Tryz.underlying132
  a51 := Tryz.isAgg132
  z51 := Tryz.sizeOf132
  v51 := Tryz.zeroValue132
  t53 := Tryz.underlying134
  a53 := Tryz.isAgg134
  z53 := Tryz.sizeOf134
  v53 := Tryz.zeroValue134 }
theorem Tryz.bits_Len (x : Int) (w : World) (h0 : 0 ≤ x) (h1 : x ≤ 18446744073709551615) :
    Calls Tryz.prog 70 #[.int .u64 x] w fun e w' => e = .returned (.int .i64 (Lib.bitLen x.toNat)) ∧ w' = w := Any.bits_Len Tryz.lays125 x w h0 h1
def Tryz.lays215_ren : Go.Shelf.Ren := ⟨fun | 215 => 95 | n => n, fun | 3 => 3 | 4 => 4 | n => n, fun | n => n⟩
theorem Tryz.lays215 : Go.Proofs.Lays.n215 Tryz.prog Tryz.lays215_ren := {
  mixed := by kernel_rfl
  f215 := Tryz.func95.trans (congrArg some (by kernel_rfl))
  t3 := Tryz.underlying3
  a3 := Tryz.isAgg3
  z3 := Tryz.sizeOf3
  v3 := Tryz.zeroValue3
  t4 := Tryz.underlying4
  a4 := Tryz.isAgg4
  z4 := Tryz.sizeOf4
  v4 := Tryz.zeroValue4 }
open Go.RowKit in
theorem Tryz.cmp_isNaN_int (x : Int) (w : World) :
    Calls Tryz.prog 95 #[.int .i64 x] w fun e w' => e = .returned (.bool false) ∧ w' = w := Any.cmp_isNaN_int Tryz.lays215 x w
def Tryz.lays122_ren : Go.Shelf.Ren := ⟨fun | 122 => 73 | 215 => 95 | n => n, fun | 3 => 3 | 4 => 4 | n => n, fun | n => n⟩
theorem Tryz.lays122 : Go.Proofs.Lays.n122 Tryz.prog Tryz.lays122_ren := {
  mixed := by kernel_rfl
  f122 := Tryz.func73.trans (congrArg some (by kernel_rfl))
  f215 := Tryz.func95.trans (congrArg some (by kernel_rfl))
  t3 := Tryz.underlying3
  a3 := Tryz.isAgg3
  z3 := Tryz.sizeOf3
  v3 := Tryz.zeroValue3
  t4 := Tryz.underlying4
  a4 := Tryz.isAgg4
  z4 := Tryz.sizeOf4
  v4 := Tryz.zeroValue4 }
open Go.RowKit in
theorem Tryz.cmp_Compare_int (x y : Int) (w : World) :
    Calls Tryz.prog 73 #[.int .i64 x, .int .i64 y] w fun e w' => e = .returned (.int .i64 (Lib.compareInt x y)) ∧ w' = w := Any.cmp_Compare_int Tryz.lays122 x y w
def Tryz.lays129_ren : Go.Shelf.Ren := ⟨fun | 129 => 86 | n => n, fun | 53 => 134 | 3 => 3 | 4 => 4 | 46 => 116 | 5 => 5 | 9 => 9 | n => n, fun | n => n⟩
theorem Tryz.lays129 : Go.Proofs.Lays.n129 Tryz.prog Tryz.lays129_ren := {
  mixed := by kernel_rfl
  f129 := Tryz.func86.trans (congrArg some (by kernel_rfl))
  t3 := Tryz.underlying3
  a3 := Tryz.isAgg3
  z3 := Tryz.sizeOf3
  v3 := Tryz.zeroValue3
  t4 := Tryz.underlying4
  a4 := Tryz.isAgg4
  z4 := Tryz.sizeOf4
  v4 := Tryz.zeroValue4
  t5 := Tryz.underlying5
  a5 := Tryz.isAgg5
  z5 := Tryz.sizeOf5
  v5 := Tryz.zeroValue5
  t9 := Tryz.underlying9
  a9 := Tryz.isAgg9
  z9 := Tryz.sizeOf9
  v9 := Tryz.zeroValue9
  t46 := Tryz.underlying116
  a46 := Tryz.isAgg116
  z46 := Tryz.sizeOf116
  v46 := Tryz.zeroValue116
  t53 := Tryz.underlying134
  a53 := Tryz.isAgg134
  z53 := Tryz.sizeOf134
  v53 := Tryz.zeroValue134 }
theorem Tryz.bits_Len64 (x : Int) (w : World) (h0 : 0 ≤ x) (h1 : x ≤ 18446744073709551615) :
    Calls Tryz.prog 86 #[.int .u64 x] w fun e w' => e = .returned (.int .i64 (Lib.bitLen x.toNat)) ∧ w' = w := Any.bits_Len64 Tryz.lays129 x w h0 h1
def Tryz.laysGg26_ren : Go.Shelf.Ren := ⟨fun | 26 => 87 | n => n, fun | 44 => 119 | 3 => 3 | 0 => 0 | 4 => 4 | 26 => 100 | 37 => 112 | n => n, fun | n => n⟩
theorem Tryz.laysGg26 : Go.Proofs.LaysGg.n26 Tryz.prog Tryz.laysGg26_ren := {
  mixed := by kernel_rfl
  f26 := Tryz.func87.trans (congrArg some (by kernel_rfl))
  t0 := Tryz.underlying0
  a0 := Tryz.isAgg0
  z0 := Tryz.sizeOf0
  v0 := Tryz.zeroValue0
  i0 := by kernel_rfl
  t3 := Tryz.underlying3
  a3 := Tryz.isAgg3
  z3 := Tryz.sizeOf3
  v3 := Tryz.zeroValue3
  i3 := by kernel_rfl
  t4 := Tryz.underlying4
  a4 := Tryz.isAgg4
  z4 := Tryz.sizeOf4
  v4 := Tryz.zeroValue4
  i4 := by kernel_rfl
  t26 := Tryz.underlying100
  a26 := Tryz.isAgg100
  z26 := Tryz.sizeOf100
  v26 := Tryz.zeroValue100
  i26 := by kernel_rfl
  t37 := Tryz.underlying112
  a37 := Tryz.isAgg112
  z37 := Tryz.sizeOf112
  v37 := Tryz.zeroValue112
  i37 := by kernel_rfl
  t44 := Tryz.underlying119
  a44 := Tryz.isAgg119
  z44 := Tryz.sizeOf119
  v44 := Tryz.zeroValue119
  i44 := by kernel_rfl }
open Go.RowKit Go.Lib Go.Sort in
theorem Tryz.insertionSort_func_none (lf : Fn) (la lb : Array Value) (f : Nat) (sb : Array Value) (a b : Nat) (h : b ≤ a + 1) (ha : a < 4611686018427387904) (w : World) :
    Calls Tryz.prog 87 #[.agg #[.func lf la lb, .func (.func f) #[] sb], .int .i64 a, .int .i64 b] w fun e w' => e = .returned (.tuple #[]) ∧ w' = w.alloc (.cells #[.func lf la lb, .func (.func f) #[] sb] 119) := Any.insertionSort_func_none Tryz.laysGg26 lf la lb f sb a b h ha w
def Tryz.laysGg14_ren : Go.Shelf.Ren := ⟨fun | 14 => 71 | 26 => 87 | 27 => 88 | 28 => 89 | 29 => 90 | 30 => 91 | 31 => 92 | 32 => 93 | 33 => 94 | 34 => 96 | 35 => 97 | 36 => 98 | 37 => 99 | 38 => 100 | 13 => 70 | 39 => 101 | 24 => 85 | 25 => 86 | n => n, fun | 44 => 119 | 3 => 3 | 0 => 0 | 4 => 4 | 54 => 137 | 53 => 136 | 26 => 100 | 58 => 105 | 37 => 112 | 60 => 146 | 41 => 116 | 51 => 134 | 64 => 150 | 66 => 152 | 67 => 153 | 49 => 132 | 5 => 5 | 9 => 9 | n => n, fun | n => n⟩
theorem Tryz.laysGg14 : Go.Proofs.LaysGg.n14 Tryz.prog Tryz.laysGg14_ren := {
  mixed := by kernel_rfl
  f13 := Tryz.func70.trans (congrArg some (by kernel_rfl))
  f14 := Tryz.func71.trans (congrArg some (by kernel_rfl))
  f24 := Tryz.func85.trans (congrArg some (by kernel_rfl))
  f25 := Tryz.func86.trans (congrArg some (by kernel_rfl))
  f26 := Tryz.func87.trans (congrArg some (by kernel_rfl))
  f27 := Tryz.func88.trans (congrArg some (by kernel_rfl))
  f28 := Tryz.func89.trans (congrArg some (by kernel_rfl))
  f29 := Tryz.func90.trans (congrArg some (by kernel_rfl))
  f30 := Tryz.func91.trans (congrArg some (by kernel_rfl))
  f31 := Tryz.func92.trans (congrArg some (by kernel_rfl))
  f32 := Tryz.func93.trans (congrArg some (by kernel_rfl))
  f33 := Tryz.func94.trans (congrArg some (by kernel_rfl))
  f34 := Tryz.func96.trans (congrArg some (by kernel_rfl))
  f35 := Tryz.func97.trans (congrArg some (by kernel_rfl))
  f36 := Tryz.func98.trans (congrArg some (by kernel_rfl))
  f37 := Tryz.func99.trans (congrArg some (by kernel_rfl))
  f38 := Tryz.func100.trans (congrArg some (by kernel_rfl))
  f39 := Tryz.func101.trans (congrArg some (by kernel_rfl))
  t0 := Tryz.underlying0
  a0 := Tryz.isAgg0
  z0 := Tryz.sizeOf0
  v0 := Tryz.zeroValue0
  i0 := by kernel_rfl
  t3 := Tryz.underlying3
  a3 := Tryz.isAgg3
  z3 := Tryz.sizeOf3
  v3 := Tryz.zeroValue3
  i3 := by kernel_rfl
  t4 := Tryz.underlying4
  a4 := Tryz.isAgg4
  z4 := Tryz.sizeOf4
  v4 := Tryz.zeroValue4
  i4 := by kernel_rfl
  t5 := Tryz.underlying5
  a5 := Tryz.isAgg5
  z5 := Tryz.sizeOf5
  v5 := Tryz.zeroValue5
  i5 := by kernel_rfl
  t9 := Tryz.underlying9
  a9 := Tryz.isAgg9
  z9 := Tryz.sizeOf9
  v9 := Tryz.zeroValue9
  i9 := by kernel_rfl
  t26 := Tryz.underlying100
  a26 := Tryz.isAgg100
  z26 := Tryz.sizeOf100
  v26 := Tryz.zeroValue100
  i26 := by kernel_rfl
  t37 := Tryz.underlying112
  a37 := Tryz.isAgg112
  z37 := Tryz.sizeOf112
  v37 := Tryz.zeroValue112
  i37 := by kernel_rfl
  t41 := Tryz.underlying116
  a41 := Tryz.isAgg116
  z41 := Tryz.sizeOf116
  v41 := Tryz.zeroValue116
  i41 := by kernel_rfl
  t44 := Tryz.underlying119
  a44 := Tryz.isAgg119
  z44 := Tryz.sizeOf119
  v44 := Tryz.zeroValue119
  i44 := by kernel_rfl
  t49 := Tryz.underlying132
  a49 := Tryz.isAgg132
  z49 := Tryz.sizeOf132
  v49 := Tryz.zeroValue132
  i49 := by kernel_rfl
  t51 := Tryz.underlying134
  a51 := Tryz.isAgg134
  z51 := Tryz.sizeOf134
  v51 := Tryz.zeroValue134
  i51 := by kernel_rfl
  t53 := Tryz.underlying136
  a53 := Tryz.isAgg136
  z53 := Tryz.sizeOf136
  v53 := Tryz.zeroValue136
  i53 := by kernel_rfl
  t54 := Tryz.underlying137
  a54 := Tryz.isAgg137
  z54 := Tryz.sizeOf137
  v54 := Tryz.zeroValue137
  i54 := by kernel_rfl
  t58 := Tryz.underlying105
  a58 := Tryz.isAgg105
  z58 := Tryz.sizeOf105
  v58 := Tryz.zeroValue105
  i58 := by kernel_rfl
  t60 := Tryz.underlying146
  a60 := Tryz.isAgg146
  z60 := Tryz.sizeOf146
  v60 := Tryz.zeroValue146
  i60 := by kernel_rfl
  t64 := Tryz.underlying150
  a64 := Tryz.isAgg150
  z64 := Tryz.sizeOf150
  v64 := Tryz.zeroValue150
  i64 := by kernel_rfl
  t66 := Tryz.underlying152
  a66 := Tryz.isAgg152
  z66 := Tryz.sizeOf152
  v66 := Tryz.zeroValue152
  i66 := by kernel_rfl
  t67 := Tryz.underlying153
  a67 := Tryz.isAgg153
  z67 := Tryz.sizeOf153
  v67 := Tryz.zeroValue153
  i67 := by kernel_rfl }
open Go.RowKit Go.Lib Go.Sort in
theorem Tryz.pdqsort_func_tiny (lf : Fn) (la lb : Array Value) (f : Nat) (sb : Array Value) (n : Nat) (h : n ≤ 1) (lim : Int) (w : World) :
    Calls Tryz.prog 71 #[.agg #[.func lf la lb, .func (.func f) #[] sb], .int .i64 0, .int .i64 n, .int .i64 lim] w fun e w' => e = .returned (.tuple #[]) ∧ w' = (w.alloc (.cells #[.func lf la lb, .func (.func f) #[] sb] 119)).alloc (.cells #[.func lf la lb, .func (.func f) #[] sb] 119) := Any.pdqsort_func_tiny Tryz.laysGg14 lf la lb f sb n h lim w
def Tryz.laysGg6_ren : Go.Shelf.Ren := ⟨fun | 6 => 61 | 10 => 67 | 11 => 68 | 12 => 69 | 13 => 70 | 14 => 71 | 24 => 85 | 25 => 86 | 26 => 87 | 27 => 88 | 28 => 89 | 29 => 90 | 30 => 91 | 31 => 92 | 32 => 93 | 33 => 94 | 34 => 96 | 35 => 97 | 36 => 98 | 37 => 99 | 38 => 100 | 39 => 101 | n => n, fun | 20 => 20 | 26 => 100 | 35 => 110 | 0 => 0 | 37 => 112 | 3 => 3 | 41 => 116 | 44 => 119 | 49 => 132 | 51 => 134 | 4 => 4 | 54 => 137 | 53 => 136 | 58 => 105 | 5 => 5 | 9 => 9 | 60 => 146 | 64 => 150 | 66 => 152 | 67 => 153 | 17 => 17 | 32 => 107 | 33 => 108 | 82 => 168 | 12 => 12 | 75 => 161 | 76 => 162 | 77 => 163 | 78 => 164 | 79 => 165 | 80 => 166 | n => n, fun | n => n⟩
theorem Tryz.laysGg6 : Go.Proofs.LaysGg.n6 Tryz.prog Tryz.laysGg6_ren := {
  mixed := by kernel_rfl
  f6 := Tryz.func61.trans (congrArg some (by kernel_rfl))
  f10 := Tryz.func67.trans (congrArg some (by kernel_rfl))
  f11 := Tryz.func68.trans (congrArg some (by kernel_rfl))
  f12 := Tryz.func69.trans (congrArg some (by kernel_rfl))
  f13 := Tryz.func70.trans (congrArg some (by kernel_rfl))
  f14 := Tryz.func71.trans (congrArg some (by kernel_rfl))
  f24 := Tryz.func85.trans (congrArg some (by kernel_rfl))
  f25 := Tryz.func86.trans (congrArg some (by kernel_rfl))
  f26 := Tryz.func87.trans (congrArg some (by kernel_rfl))
  f27 := Tryz.func88.trans (congrArg some (by kernel_rfl))
  f28 := Tryz.func89.trans (congrArg some (by kernel_rfl))
  f29 := Tryz.func90.trans (congrArg some (by kernel_rfl))
  f30 := Tryz.func91.trans (congrArg some (by kernel_rfl))
  f31 := Tryz.func92.trans (congrArg some (by kernel_rfl))
  f32 := Tryz.func93.trans (congrArg some (by kernel_rfl))
  f33 := Tryz.func94.trans (congrArg some (by kernel_rfl))
  f34 := Tryz.func96.trans (congrArg some (by kernel_rfl))
  f35 := Tryz.func97.trans (congrArg some (by kernel_rfl))
  f36 := Tryz.func98.trans (congrArg some (by kernel_rfl))
  f37 := Tryz.func99.trans (congrArg some (by kernel_rfl))
  f38 := Tryz.func100.trans (congrArg some (by kernel_rfl))
  f39 := Tryz.func101.trans (congrArg some (by kernel_rfl))
  t0 := Tryz.underlying0
  a0 := Tryz.isAgg0
  z0 := Tryz.sizeOf0
  v0 := Tryz.zeroValue0
  i0 := by kernel_rfl
  t3 := Tryz.underlying3
  a3 := Tryz.isAgg3
  z3 := Tryz.sizeOf3
  v3 := Tryz.zeroValue3
  i3 := by kernel_rfl
  t4 := Tryz.underlying4
  a4 := Tryz.isAgg4
  z4 := Tryz.sizeOf4
  v4 := Tryz.zeroValue4
  i4 := by kernel_rfl
  t5 := Tryz.underlying5
  a5 := Tryz.isAgg5
  z5 := Tryz.sizeOf5
  v5 := Tryz.zeroValue5
  i5 := by kernel_rfl
  t9 := Tryz.underlying9
  a9 := Tryz.isAgg9
  z9 := Tryz.sizeOf9
  v9 := Tryz.zeroValue9
  i9 := by kernel_rfl
  t12 := Tryz.underlying12
  a12 := Tryz.isAgg12
  z12 := Tryz.sizeOf12
  v12 := Tryz.zeroValue12
  i12 := by kernel_rfl
  t17 := Tryz.underlying17
  a17 := Tryz.isAgg17
  z17 := Tryz.sizeOf17
  v17 := Tryz.zeroValue17
  i17 := by kernel_rfl
  t20 := Tryz.underlying20
  a20 := Tryz.isAgg20
  z20 := Tryz.sizeOf20
  v20 := Tryz.zeroValue20
  i20 := by kernel_rfl
  t26 := Tryz.underlying100
  a26 := Tryz.isAgg100
  z26 := Tryz.sizeOf100
  v26 := Tryz.zeroValue100
  i26 := by kernel_rfl
  t32 := Tryz.underlying107
  a32 := Tryz.isAgg107
  z32 := Tryz.sizeOf107
  v32 := Tryz.zeroValue107
  i32 := by kernel_rfl
  t33 := Tryz.underlying108
  a33 := Tryz.isAgg108
  z33 := Tryz.sizeOf108
  v33 := Tryz.zeroValue108
  i33 := by kernel_rfl
  t35 := Tryz.underlying110
  a35 := Tryz.isAgg110
  z35 := Tryz.sizeOf110
  v35 := Tryz.zeroValue110
  i35 := by kernel_rfl
  t37 := Tryz.underlying112
  a37 := Tryz.isAgg112
  z37 := Tryz.sizeOf112
  v37 := Tryz.zeroValue112
  i37 := by kernel_rfl
  t41 := Tryz.underlying116
  a41 := Tryz.isAgg116
  z41 := Tryz.sizeOf116
  v41 := Tryz.zeroValue116
  i41 := by kernel_rfl
  t44 := Tryz.underlying119
  a44 := Tryz.isAgg119
  z44 := Tryz.sizeOf119
  v44 := Tryz.zeroValue119
  i44 := by kernel_rfl
  t49 := Tryz.underlying132
  a49 := Tryz.isAgg132
  z49 := Tryz.sizeOf132
  v49 := Tryz.zeroValue132
  i49 := by kernel_rfl
  t51 := Tryz.underlying134
  a51 := Tryz.isAgg134
  z51 := Tryz.sizeOf134
  v51 := Tryz.zeroValue134
  i51 := by kernel_rfl
  t53 := Tryz.underlying136
  a53 := Tryz.isAgg136
  z53 := Tryz.sizeOf136
  v53 := Tryz.zeroValue136
  i53 := by kernel_rfl
  t54 := Tryz.underlying137
  a54 := Tryz.isAgg137
  z54 := Tryz.sizeOf137
  v54 := Tryz.zeroValue137
  i54 := by kernel_rfl
  t58 := Tryz.underlying105
  a58 := Tryz.isAgg105
  z58 := Tryz.sizeOf105
  v58 := Tryz.zeroValue105
  i58 := by kernel_rfl
  t60 := Tryz.underlying146
  a60 := Tryz.isAgg146
  z60 := Tryz.sizeOf146
  v60 := Tryz.zeroValue146
  i60 := by kernel_rfl
  t64 := Tryz.underlying150
  a64 := Tryz.isAgg150
  z64 := Tryz.sizeOf150
  v64 := Tryz.zeroValue150
  i64 := by kernel_rfl
  t66 := Tryz.underlying152
  a66 := Tryz.isAgg152
  z66 := Tryz.sizeOf152
  v66 := Tryz.zeroValue152
  i66 := by kernel_rfl
  t67 := Tryz.underlying153
  a67 := Tryz.isAgg153
  z67 := Tryz.sizeOf153
  v67 := Tryz.zeroValue153
  i67 := by kernel_rfl
  t75 := Tryz.underlying161
  a75 := Tryz.isAgg161
  z75 := Tryz.sizeOf161
  v75 := Tryz.zeroValue161
  i75 := by kernel_rfl
  t76 := Tryz.underlying162
  a76 := Tryz.isAgg162
  z76 := Tryz.sizeOf162
  v76 := Tryz.zeroValue162
  i76 := by kernel_rfl
  t77 := Tryz.underlying163
  a77 := Tryz.isAgg163
  z77 := Tryz.sizeOf163
  v77 := Tryz.zeroValue163
  i77 := by kernel_rfl
  t78 := Tryz.underlying164
  a78 := Tryz.isAgg164
  z78 := Tryz.sizeOf164
  v78 := Tryz.zeroValue164
  i78 := by kernel_rfl
  t79 := Tryz.underlying165
  a79 := Tryz.isAgg165
  z79 := Tryz.sizeOf165
  v79 := Tryz.zeroValue165
  i79 := by kernel_rfl
  t80 := Tryz.underlying166
  a80 := Tryz.isAgg166
  z80 := Tryz.sizeOf166
  v80 := Tryz.zeroValue166
  i80 := by kernel_rfl
  t82 := Tryz.underlying168
  a82 := Tryz.isAgg168
  z82 := Tryz.sizeOf168
  v82 := Tryz.zeroValue168
  i82 := by kernel_rfl }
def Tryz.laysGg36_ren : Go.Shelf.Ren := ⟨fun | 36 => 98 | n => n, fun | 66 => 152 | 51 => 134 | 0 => 0 | 60 => 146 | 41 => 116 | n => n, fun | n => n⟩
theorem Tryz.laysGg36 : Go.Proofs.LaysGg.n36 Tryz.prog Tryz.laysGg36_ren := {
  mixed := by kernel_rfl
  f36 := Tryz.func98.trans (congrArg some (by kernel_rfl))
  t0 := Tryz.underlying0
  a0 := Tryz.isAgg0
  z0 := Tryz.sizeOf0
  v0 := Tryz.zeroValue0
  i0 := by kernel_rfl
  t41 := Tryz.underlying116
  a41 := Tryz.isAgg116
  z41 := Tryz.sizeOf116
  v41 := Tryz.zeroValue116
  i41 := by kernel_rfl
  t51 := Tryz.underlying134
  a51 := Tryz.isAgg134
  z51 := Tryz.sizeOf134
  v51 := Tryz.zeroValue134
  i51 := by kernel_rfl
  t60 := Tryz.underlying146
  a60 := Tryz.isAgg146
  z60 := Tryz.sizeOf146
  v60 := Tryz.zeroValue146
  i60 := by kernel_rfl
  t66 := Tryz.underlying152
  a66 := Tryz.isAgg152
  z66 := Tryz.sizeOf152
  v66 := Tryz.zeroValue152
  i66 := by kernel_rfl }
open Go.RowKit Go.Lib Go.Sort in
theorem Tryz.xorshift_Next (rb ro X : Nat) (hX : X < 18446744073709551616) (w : World) (hc : w.cell? ⟨rb, ro, none⟩ = some (.int .u64 X)) (hf : w.frozen? ⟨rb, ro, none⟩ = false) :
    Calls Tryz.prog 98 #[.pointer (some ⟨rb, ro, none⟩)] w fun e w' => e = .returned (.int .u64 (xorNextN X : Nat)) ∧ w' = (w.setCell ⟨rb, ro, none⟩ (.int .u64 (xorNextN X : Nat))).drewN 3 := Any.xorshift_Next Tryz.laysGg36 rb ro X hX w hc hf
def Tryz.laysGg35_ren : Go.Shelf.Ren := ⟨fun | 35 => 97 | 13 => 70 | 24 => 85 | 25 => 86 | n => n, fun | 3 => 3 | 41 => 116 | 49 => 132 | 51 => 134 | 4 => 4 | 5 => 5 | 9 => 9 | n => n, fun | n => n⟩
theorem Tryz.laysGg35 : Go.Proofs.LaysGg.n35 Tryz.prog Tryz.laysGg35_ren := {
  mixed := by kernel_rfl
  f13 := Tryz.func70.trans (congrArg some (by kernel_rfl))
  f24 := Tryz.func85.trans (congrArg some (by kernel_rfl))
  f25 := Tryz.func86.trans (congrArg some (by kernel_rfl))
  f35 := Tryz.func97.trans (congrArg some (by kernel_rfl))
  t3 := Tryz.underlying3
  a3 := Tryz.isAgg3
  z3 := Tryz.sizeOf3
  v3 := Tryz.zeroValue3
  i3 := by kernel_rfl
  t4 := Tryz.underlying4
  a4 := Tryz.isAgg4
  z4 := Tryz.sizeOf4
  v4 := Tryz.zeroValue4
  i4 := by kernel_rfl
  t5 := Tryz.underlying5
  a5 := Tryz.isAgg5
  z5 := Tryz.sizeOf5
  v5 := Tryz.zeroValue5
  i5 := by kernel_rfl
  t9 := Tryz.underlying9
  a9 := Tryz.isAgg9
  z9 := Tryz.sizeOf9
  v9 := Tryz.zeroValue9
  i9 := by kernel_rfl
  t41 := Tryz.underlying116
  a41 := Tryz.isAgg116
  z41 := Tryz.sizeOf116
  v41 := Tryz.zeroValue116
  i41 := by kernel_rfl
  t49 := Tryz.underlying132
  a49 := Tryz.isAgg132
  z49 := Tryz.sizeOf132
  v49 := Tryz.zeroValue132
  i49 := by kernel_rfl
  t51 := Tryz.underlying134
  a51 := Tryz.isAgg134
  z51 := Tryz.sizeOf134
  v51 := Tryz.zeroValue134
  i51 := by kernel_rfl }
open Go.RowKit Go.Lib Go.Sort in
theorem Tryz.nextPowerOfTwo (n : Nat) (hn : n < 4611686018427387904) (w : World) :
    Calls Tryz.prog 97 #[.int .i64 n] w fun e w' => e = .returned (.int .u64 ((1 <<< bitsLen n : Nat) : Int)) ∧ w' = w := Any.nextPowerOfTwo Tryz.laysGg35 n hn w
end Go.Proofs

/- sort.breakPatterns_func, by a swap that turns the row alone. Conditions: rows of less than 2^62 elements. -/
namespace Go.Proofs.YtollijngiioonabGreat
set_option maxRecDepth 100000
open Go.RowKit Go.Sort

variable {α : Type} [Inhabited α]
variable {g : Nat} {lb : Array Value} {sf : Nat} {sb : Array Value} {lt : α → α → Bool} {n blk base : Nat} {I : Array α → World → Prop}

/-- While breakPatterns runs: the row, the function values, the random number in its cell. -/
structure KSt (blk : Nat) (I : Array α → World → Prop) (w : World) (sf : Nat) (sb : Array Value) (d : Array α) (R : Nat) (wr : World) : Prop where
  i : I d wr
  c1 : wr.cell? ⟨w.heap.size, 1, none⟩ = some (.func (.func sf) #[] sb)
  cR : wr.cell? ⟨w.heap.size + 1, 0, none⟩ = some (.int .u64 (R : Int))
  fR : wr.frozen? ⟨w.heap.size + 1, 0, none⟩ = false
  st : Stay (fun k => k ≠ blk ∧ k ≠ w.heap.size + 1) w wr
/-- A new random number. -/
theorem KSt.next {w wr : World} {d : Array α} {R : Nat} (E : SEnv g lb sf sb lt n blk base I) (h : KSt blk I w sf sb d R wr) (R' : Nat) (hb : base ≤ w.heap.size) : KSt blk I w sf sb d R' ((wr.setCell ⟨w.heap.size + 1, 0, none⟩ (.int .u64 (R' : Int))).drewN 3) := by
  have h1 : I d (wr.setCell ⟨w.heap.size + 1, 0, none⟩ (.int .u64 (R' : Int))) := E.set d wr ⟨w.heap.size + 1, 0, none⟩ _ h.i (Nat.le_trans hb (Nat.le_succ _))
  refine ⟨E.on d _ _ h1 (below_drewsX _ _ 3), ?_, ?_, ?_, ?_⟩
  · rw [World.cell?_drewN, World.cell?_setCell_other _ _ _ _ (by intro e; simp only [Addr.mk.injEq, and_true] at e; omega)]; exact h.c1
  · rw [World.cell?_drewN]; exact World.cell?_setCell_same _ _ _ h.cR
  · rw [World.frozen?_drewN]; simpa using h.fR
  · exact (h.st.trans (.setCell _ _ (fun e => e.2 rfl))).trans (stay_drewN _ _ 3)
omit [Inhabited α] in
theorem KSt.swapped {w wr wr' : World} {d d' : Array α} {R : Nat} (h : KSt blk I w sf sb d R wr) (hne : w.heap.size ≠ blk ∧ w.heap.size + 1 ≠ blk) (hi : I d' wr') (hs : Stay (fun k => k ≠ blk) wr wr') : KSt blk I w sf sb d' R wr' :=
  ⟨hi, hs.cell h.c1 hne.1, hs.cell h.cR hne.2, (hs.frozen (World.block_lt_of_cell? _ _ h.cR) hne.2).trans h.fR, h.st.trans (hs.weak (fun _ _ hk => hk.1))⟩

set_option maxHeartbeats 4000000 in
theorem breakPatterns_go (E : SEnv g lb sf sb lt n blk base I) (a L : Nat) (d : Array α) (w : World) (h : I d w) (hb : a + L ≤ n) (h8 : 8 ≤ L) :
    Calls Tryz.prog 89 #[.agg #[.func (.func g) #[] lb, .func (.func sf) #[] sb], .int .i64 a, .int .i64 ((a + L : Nat) : Int)] w fun e w' => e = .returned (.tuple #[]) ∧ I (breakPatterns d a (a + L)) w' ∧ Stay (fun k => k ≠ blk) w w' := by
  have hbig := E.big
  rw [breakPatterns_eq d a L h8]
  obtain ⟨M, hM⟩ : ∃ M : Nat, M = 1 <<< bitsLen L := ⟨_, rfl⟩
  have hM1 : 1 ≤ M := by rw [hM, Nat.one_shiftLeft]; exact Nat.two_pow_pos _
  have hM2 : M ≤ 2 * L := by rw [hM, Nat.one_shiftLeft]; exact two_pow_bitsLen_le (by omega)
  have hNP : ∀ w, Calls Tryz.prog 97 #[.int .i64 (L : Int)] w fun e w' => e = .returned (.int .u64 (M : Int)) ∧ w' = w := by rw [hM]; exact fun w => Tryz.nextPowerOfTwo L (by omega) w
  rw [← hM]
  clear hM
  have hLz : ((a : Int) + (L : Int) - (a : Int)) = (L : Int) := by omega
  have h8z : (8 : Int) ≤ (L : Int) := by omega
  have hbase := E.lt _ _ h
  have HB : Hid (w.heap.size ≠ blk ∧ w.heap.size + 1 ≠ blk) := by have := E.bb; exact ⟨by omega, by omega⟩
  have HE : Hid (SEnv g lb sf sb lt n blk base I) := E
  have S0 : KSt blk I w sf sb d L ((w.alloc (.cells #[.func (.func g) #[] lb, .func (.func sf) #[] sb] 119)).alloc (.cells #[.int .u64 (L : Int)] 146)) :=
    ⟨E.on _ _ _ h (((Below.refl _ _).alloc (Nat.le_refl _) _).alloc (by simp) _), by simp [go_sem], by simp [go_sem], by simp [go_sem], (Stay.alloc _ _ _).trans (.alloc _ _ _)⟩
  clear E h
  go_enter Tryz.func89, Tryz.ntmps89
  go_wp2_with (first | (go_at_call 97; refine (hNP _).mono ?_; rintro e w' ⟨rfl, rfl⟩))
  go_loopg [9] 3 (fun g1 vi wr => ∃ (t : Nat) (r : UInt64) (dk : Array α), vi = .int .i64 ((a : Int) + (L : Int) / 4 * 2 - 1 + (t : Int)) ∧ t ≤ 3 ∧ 3 - t ≤ g1 ∧ KSt blk I w sf sb dk r.toNat wr ∧
      Hid (bpRest a L M (a + L / 4 * 2 - 1) (3 - t) t (r, dk) = bpRest a L M (a + L / 4 * 2 - 1) 3 0 (UInt64.ofNat L, d)))
  case atStart =>
    refine ⟨0, UInt64.ofNat L, d, by simp, by omega, by omega, ?_, rfl⟩
    rw [show (UInt64.ofNat L).toNat = L from by simp; omega]
    exact S0
  case round =>
    obtain ⟨t, r, dk, rfl, ht, hg1, S, HR⟩ := hrel
    clear S0
    by_cases ht3 : t < 3
    · have hle : (a : Int) + (L : Int) / 4 * 2 - 1 + (t : Int) ≤ (a : Int) + (L : Int) / 4 * 2 + 1 := by omega
      obtain ⟨R, hRr⟩ : ∃ R : Nat, R = r.toNat := ⟨_, rfl⟩
      have lR : R < 18446744073709551616 := by rw [hRr]; exact r.toNat_lt
      obtain ⟨R', hR'⟩ : ∃ R' : Nat, R' = xorNextN R := ⟨_, rfl⟩
      have lR' : R' < 18446744073709551616 := by rw [hR']; exact xorNextN_lt R lR
      obtain ⟨O, hO⟩ : ∃ O : Nat, O = R' &&& (M - 1) := ⟨_, rfl⟩
      have lO : O ≤ M - 1 := by rw [hO]; exact Nat.and_le_right
      have eAnd : bits .and .u64 (R' : Int) ((M : Int) - 1) = (O : Int) := by
        rw [show ((M : Int) - 1) = ((M - 1 : Nat) : Int) by omega, bits_and_u64_nat _ _ lR' (by omega), hO]
      rw [← hRr] at S
      have hNext : Calls Tryz.prog 98 #[.pointer (some ⟨w.heap.size + 1, 0, none⟩)] wr fun e w' => e = .returned (.int .u64 (R' : Int)) ∧ w' = (wr.setCell ⟨w.heap.size + 1, 0, none⟩ (.int .u64 (R' : Int))).drewN 3 := by
        rw [hR']; exact Tryz.xorshift_Next _ _ R lR wr S.cR S.fR
      have HN : Hid (R' = (xorNext r).toNat ∧ O = (xorNext r).toNat &&& (M - 1)) := by
        have e : R' = (xorNext r).toNat := by rw [hR', hRr, xorNext_toNat]
        exact ⟨e, by rw [hO, e]⟩
      clear hRr hR' hO
      have S2 := S.next HE.out R' hbase
      generalize (wr.setCell ⟨w.heap.size + 1, 0, none⟩ (.int .u64 (R' : Int))).drewN 3 = w2 at hNext S2
      have c1 := S2.c1
      clear S
      by_cases hLO : L ≤ O
      · have hLOz : (L : Int) ≤ (O : Int) := by omega
        obtain ⟨W4, hrun, hI4, hS4⟩ := HE.out.swapI dk w2 (a + L / 4 * 2 - 1 + t) (a + (O - L)) ((a : Int) + (L : Int) / 4 * 2 - 1 + (t : Int)) ((a : Int) + ((O : Int) - (L : Int))) (by omega) (by omega) S2.i (by omega) (by omega)
        have S3 := S2.swapped HB.out hI4 hS4
        clear S2
        go_wp2_with (go_at_call 98; refine hNext.mono ?_; rintro e w' ⟨rfl, rfl⟩)
        go_roundg (3 - (t + 1))
        case measure => omega
        case rel => exact ⟨t + 1, xorNext r, swp dk (a + L / 4 * 2 - 1 + t) (a + (O - L)), by congr 1; push_cast; omega, by omega, Nat.le_refl _, by rw [← HN.out.1]; exact S3,
          (show Hid _ from by rw [← HR.out, bp_step a L M _ t r dk (O - L) ht3 (by rw [← HN.out.2, if_pos (by omega)])]; exact rfl)⟩
      · have hLOz : ¬ (L : Int) ≤ (O : Int) := by omega
        obtain ⟨W4, hrun, hI4, hS4⟩ := HE.out.swapI dk w2 (a + L / 4 * 2 - 1 + t) (a + O) ((a : Int) + (L : Int) / 4 * 2 - 1 + (t : Int)) ((a : Int) + (O : Int)) (by omega) (by omega) S2.i (by omega) (by omega)
        have S3 := S2.swapped HB.out hI4 hS4
        clear S2
        go_wp2_with (go_at_call 98; refine hNext.mono ?_; rintro e w' ⟨rfl, rfl⟩)
        go_roundg (3 - (t + 1))
        case measure => omega
        case rel => exact ⟨t + 1, xorNext r, swp dk (a + L / 4 * 2 - 1 + t) (a + O), by congr 1; push_cast; omega, by omega, Nat.le_refl _, by rw [← HN.out.1]; exact S3,
          (show Hid _ from by rw [← HR.out, bp_step a L M _ t r dk O ht3 (by rw [← HN.out.2, if_neg (by omega)])]; exact rfl)⟩
    · obtain rfl : t = 3 := by omega
      have hle : ¬ ((a : Int) + (L : Int) / 4 * 2 - 1 + ((3 : Nat) : Int) ≤ (a : Int) + (L : Int) / 4 * 2 + 1) := by omega
      go_wp2
      go_end0
      refine ⟨rfl, ?_, ?_⟩
      · rw [← HR.out]; exact S.i
      · exact fin_stay (by omega) S.st

theorem breakPatterns_any (E : SEnv g lb sf sb lt n blk base I) (a b : Nat) (d : Array α) (w : World) (h : I d w) (hab : a ≤ b) (hb : b ≤ n) :
    Calls Tryz.prog 89 #[.agg #[.func (.func g) #[] lb, .func (.func sf) #[] sb], .int .i64 a, .int .i64 b] w fun e w' => e = .returned (.tuple #[]) ∧ I (breakPatterns d a b) w' ∧ Stay (fun k => k ≠ blk) w w' := by
  obtain ⟨L, rfl⟩ : ∃ L, b = a + L := ⟨b - a, by omega⟩
  by_cases h8 : 8 ≤ L
  · exact breakPatterns_go E a L d w h hb h8
  · have hv : breakPatterns d a (a + L) = d := by unfold breakPatterns; simp only [Nat.add_sub_cancel_left]; rw [if_neg h8]
    rw [hv]
    have hbig := E.big
    have hLz : ((a : Int) + (L : Int) - (a : Int)) = (L : Int) := by omega
    have h8z : ¬ (8 : Int) ≤ (L : Int) := by omega
    have S0 := SSt.start E h 119
    have S1 : Hid (I d (w.alloc (.cells #[.func (.func g) #[] lb, .func (.func sf) #[] sb] 119))) := S0.i
    clear E h S0
    go_enter Tryz.func89, Tryz.ntmps89
    go_wp2
    go_end0
    exact ⟨rfl, S1.out, .alloc _ _ _⟩
end Go.Proofs.YtollijngiioonabGreat

/- sort.pdqsort_func, by a comparison that may lay blocks. Conditions: rows of less than 2^62 elements; the comparison is a strict weak order. -/
namespace Go.Proofs.YtollijngiioonabGreat
set_option maxRecDepth 100000
open Go.RowKit Go.Sort

variable {α : Type} [Inhabited α]
variable {g : Nat} {lb : Array Value} {sf : Nat} {sb : Array Value} {lt : α → α → Bool} {n blk base : Nat} {I : Array α → World → Prop}

theorem hint_code (h : Hint) : hintI h = hintCode h := by cases h <;> rfl

set_option maxHeartbeats 12800000 in
set_option maxRecDepth 1000000 in
theorem pdqsort_any (E : SEnv g lb sf sb lt n blk base I) (hO : SWO lt) :
    ∀ (N a b limit : Nat) (d : Array α) (w : World), b - a < N → I d w → a ≤ b → b ≤ n → limit < 4611686018427387904 → Go.Sort.Below lt a b d →
    Calls Tryz.prog 71 #[.agg #[.func (.func g) #[] lb, .func (.func sf) #[] sb], .int .i64 a, .int .i64 b, .int .i64 limit] w fun e w' => e = .returned (.tuple #[]) ∧ I (pdq lt d a b limit true true) w' ∧ Stay (fun k => k ≠ blk) w w' := by
  have eg := E.eg
  have hbig := E.big
  have HE : Hid (SEnv g lb sf sb lt n blk base I) := E
  clear E
  intro N
  induction N with
  | zero => intro _ _ _ _ _ h; exact absurd h (Nat.not_lt_zero _)
  | succ N ih =>
    intro a b limit d w hN h0 hab hb hlimit hBel0
    have HB : Hid (w.heap.size ≠ blk) := by have := HE.out.lt _ _ h0; have := HE.out.bb; show _ ≠ _; omega
    have S0 := SSt.start HE.out h0 119
    have HI : Hid (∀ (a b limit : Nat) (d : Array α) (w : World), b - a < N → I d w → a ≤ b → b ≤ n → limit < 4611686018427387904 → Go.Sort.Below lt a b d →
      Calls Tryz.prog 71 #[.agg #[.func (.func g) #[] lb, .func (.func sf) #[] sb], .int .i64 a, .int .i64 b, .int .i64 limit] w fun e w' => e = .returned (.tuple #[]) ∧ I (pdq lt d a b limit true true) w' ∧ Stay (fun k => k ≠ blk) w w') := ih
    clear ih h0
    go_enter Tryz.func71, Tryz.ntmps71
    go_wp2
    go_loopg [1, 2, 3, 8, 9] (b - a) (fun k s1 s2 s3 s8 s9 wr => ∃ (a' b' lim : Nat) (wb wp : Bool) (dk : Array α), s1 = .int .i64 a' ∧ s2 = .int .i64 b' ∧ s3 = .int .i64 lim ∧ s8 = .bool wb ∧ s9 = .bool wp ∧
      a' ≤ b' ∧ b' ≤ n ∧ b' - a' ≤ k ∧ k ≤ b - a ∧ lim ≤ limit ∧ Go.Sort.Below lt a' b' dk ∧ SSt blk I w w.heap.size g lb sf sb dk wr ∧ Hid (pdq lt dk a' b' lim wb wp = pdq lt d a b limit true true))
    case atStart => exact ⟨a, b, limit, true, true, d, rfl, rfl, rfl, rfl, rfl, hab, hb, Nat.le_refl _, Nat.le_refl _, Nat.le_refl _, hBel0, S0, rfl⟩
    case round =>
      obtain ⟨a', b', lim, wb, wp, dk, rfl, rfl, rfl, rfl, rfl, hab', hb', hk, hkN, hlim, hBel, S, A⟩ := hrel
      clear S0
      have hds : dk.size = n := HE.out.size _ _ S.i
      have x0 := S.c0
      have x1 := S.c1
      by_cases h12 : b' - a' ≤ 12
      · have h12z : (b' : Int) - (a' : Int) ≤ 12 := by omega
        have hc := insertion_any HE.out a' b' dk wr S.i hab' (by omega)
        go_wp2_with (go_at_call 87; refine hc.mono ?_; rintro e w1 ⟨rfl, hI1, hS1⟩)
        (try simp only [Exit.inBlock, Exit.then]); refine bodyPost_ret (results_none rfl _ _ _) rfl ?_
        refine ⟨rfl, ?_, S.st.trans hS1⟩
        rw [← A.out, pdq_small h12]
        exact hI1
      · have h12z : ¬ ((b' : Int) - (a' : Int) ≤ 12) := by omega
        by_cases hl0 : lim = 0
        · subst hl0
          have hc := heapSort_any HE.out a' b' dk wr S.i (by omega) (by omega)
          go_wp2_with (go_at_call 88; refine hc.mono ?_; rintro e w1 ⟨rfl, hI1, hS1⟩)
          (try simp only [Exit.inBlock, Exit.then]); refine bodyPost_ret (results_none rfl _ _ _) rfl ?_
          refine ⟨rfl, ?_, S.st.trans hS1⟩
          rw [← A.out, pdq_heap h12 rfl]
          exact hI1
        · have hl0z : ¬ ((lim : Int) = 0) := by omega
          obtain ⟨s1, B1, hc1, s2, B2, hpv, s3, B3⟩ := rd_facts (lt := lt) (limit := lim) (wb := wb) (wp := wp) hO partialInsertionSort_holds reverseRange_holds (show a' < b' by omega) (show b' ≤ dk.size by omega) hBel
          go_upto_if 35 with fail
          go_cut [3] from 19 (fun s3 wc => s3 = .int .i64 (rd lt dk a' b' lim wb wp).lim ∧ SSt blk I w w.heap.size g lb sf sb (rd lt dk a' b' lim wb wp).d1 wc)
          case first =>
            cases wb
            · have hc := breakPatterns_any HE.out a' b' dk wr S.i hab' (by omega)
              go_wp2_with (go_at_call 89; refine hc.mono ?_; rintro e w1 ⟨rfl, hI1, hS1⟩)
              go_meet
              case rel =>
                refine ⟨?_, S.step HB.out hI1 hS1⟩
                show Value.int .i64 ((lim : Int) - 1) = Value.int .i64 ((lim - 1 : Nat) : Int)
                congr 1
                omega
            · go_wp2_with fail
              go_meet
              case rel => exact ⟨rfl, S⟩
          case rest =>
            obtain ⟨rfl, S1⟩ := hcut
            clear x0 x1
            have y0 := S1.c0
            have y1 := S1.c1
            have hc17 : Calls Tryz.prog 90 #[.agg #[.func (.func g) #[] lb, .func (.func sf) #[] sb], .int .i64 a', .int .i64 b'] wc fun e w' => e = .returned (.tuple #[.int .i64 (rd lt dk a' b' lim wb wp).c.1, .int .i64 (hintCode (rd lt dk a' b' lim wb wp).c.2)]) ∧ I (rd lt dk a' b' lim wb wp).d1 w' ∧ Stay (fun k => k ≠ blk) wc w' := by
              rw [← hint_code]
              exact choosePivot_any HE.out a' b' (rd lt dk a' b' lim wb wp).d1 wc S1.i (by omega) (by omega)
            go_upto_if 50 with (go_at_call 90; refine hc17.mono ?_; rintro e w2 ⟨rfl, hI2, hS2⟩)
            have S2 := S1.step HB.out hI2 hS2
            clear y0 y1
            have z0 := S2.c0
            have z1 := S2.c1
            go_cut [11, 12] from 19 (fun s11 s12 wc => s11 = .int .i64 (rd lt dk a' b' lim wb wp).pivot ∧ s12 = .int .i64 (hintCode (rd lt dk a' b' lim wb wp).hint) ∧ SSt blk I w w.heap.size g lb sf sb (rd lt dk a' b' lim wb wp).d2 wc)
            case first =>
              by_cases hh : (rd lt dk a' b' lim wb wp).c.2 = .decreasing
              · have hcode : hintCode (rd lt dk a' b' lim wb wp).c.2 = 2 := by rw [hh]; rfl
                obtain ⟨e2, epv, eht⟩ := rd_dec hh
                have hc18 := reverse_any HE.out a' b' (rd lt dk a' b' lim wb wp).d1 w2 S2.i (by omega) (by omega)
                go_wp2_with (go_at_call 91; refine hc18.mono ?_; rintro e w3 ⟨rfl, hI3, hS3⟩)
                go_meet
                case rel =>
                  refine ⟨?_, by rw [eht]; rfl, by rw [e2]; exact S2.step HB.out hI3 hS3⟩
                  rw [epv]
                  congr 1
                  omega
              · have hcode : ¬ (hintCode (rd lt dk a' b' lim wb wp).c.2 = 2) := fun h => hh (hintCode_two h)
                obtain ⟨e2, epv, eht⟩ := rd_not hh
                go_wp2_with fail
                go_meet
                case rel => exact ⟨by rw [epv], by rw [eht], by rw [e2]; exact S2⟩
            case rest =>
              obtain ⟨rfl, rfl, S3⟩ := hcut
              clear z0 z1
              have v0 := S3.c0
              have v1 := S3.c1
              go_upto_region 16 with fail
              go_cut [12, 68] from 19 (fun s12 s68 wx => s12 = .int .i64 (hintCode (rd lt dk a' b' lim wb wp).hint) ∧ s68 = .bool (wb && wp && decide ((rd lt dk a' b' lim wb wp).hint = .increasing)) ∧ wx = wc)
              case first =>
                cases wb <;> cases wp <;> cases hh3 : (rd lt dk a' b' lim _ _).hint <;>
                  (have hcode3 := congrArg hintCode hh3
                   simp only [hintCode] at hcode3
                   go_wp2_with fail
                   go_meet
                   exact ⟨by simp [hh3, hintCode], by simp [hh3, hintCode], rfl⟩)
              case rest =>
                obtain ⟨rfl, rfl, rfl⟩ := hcut
                go_upto_if 68 with fail
                go_cut [] from 19 (fun wx => (rd lt dk a' b' lim wb wp).pi.2 = false ∧ SSt blk I w w.heap.size g lb sf sb (rd lt dk a' b' lim wb wp).pi.1 wx)
                case first =>
                  cases h68 : (wb && wp && decide ((rd lt dk a' b' lim wb wp).hint = .increasing))
                  · have epi := rd_pi_no h68
                    go_wp2_with fail
                    go_meet
                    case rel => exact ⟨by rw [epi], by rw [epi]; exact S3⟩
                  · have epi := rd_pi_yes h68
                    have hc19 := partialIns_any HE.out a' b' (rd lt dk a' b' lim wb wp).d2 wc S3.i (by omega) (by omega)
                    rw [← epi] at hc19
                    go_wp2_with (go_at_call 92; refine hc19.mono ?_; rintro e w4 ⟨rfl, hI4, hS4⟩)
                    all_goals first
                      | (have hp2 : (rd lt dk a' b' lim wb wp).pi.2 = false := by rw [epi]; assumption
                         go_meet
                         exact ⟨hp2, S3.step HB.out hI4 hS4⟩)
                      | (have hp2 : (rd lt dk a' b' lim wb wp).pi.2 = true := by rw [epi]; assumption
                         (try simp only [Exit.inBlock, Exit.then]); refine bodyPost_ret (results_none rfl _ _ _) rfl ?_
                         refine ⟨rfl, ?_, S3.st.trans hS4⟩
                         rw [← A.out, pdq_done h12 hl0 hp2]
                         exact hI4)
                case rest =>
                  obtain ⟨hp2, S5⟩ := hcut
                  clear v0 v1
                  have t0 := S5.c0
                  have t1 := S5.c1
                  go_upto_region 18 with fail
                  go_cut [83] from 19 (fun s83 wx => s83 = .bool (decide (a' > 0) && !lt (rd lt dk a' b' lim wb wp).pi.1[a' - 1]! (rd lt dk a' b' lim wb wp).pi.1[(rd lt dk a' b' lim wb wp).pivot]!) ∧ SSt blk I w w.heap.size g lb sf sb (rd lt dk a' b' lim wb wp).pi.1 wx)
                  case first =>
                    rcases Nat.eq_zero_or_pos a' with ha0 | ha0
                    · have ha0z : decide ((a' : Int) > 0) = false := decide_eq_false (by omega)
                      go_wp2_with fail
                      go_meet
                      case rel => exact ⟨by simp [ha0], S5⟩
                    · have ha0z : (a' : Int) > 0 := by omega
                      cases hlv : lt (rd lt dk a' b' lim wb wp).pi.1[a' - 1]! (rd lt dk a' b' lim wb wp).pi.1[(rd lt dk a' b' lim wb wp).pivot]! <;>
                        (have hl := HE.out.lessV (rd lt dk a' b' lim wb wp).pi.1 (a' - 1) (rd lt dk a' b' lim wb wp).pivot ((a' : Int) - 1) ((rd lt dk a' b' lim wb wp).pivot : Int) _ hlv (by omega) rfl (by omega) (by omega) wc S5.i
                         go_wp2_with (go_at_fn g; refine hl.mono ?_; rintro e w' ⟨rfl, hI6, hS6⟩)
                         go_meet
                         exact ⟨by simp [ha0, hlv], S5.step HB.out hI6 hS6⟩)
                  case rest =>
                    obtain ⟨rfl, S6⟩ := hcut
                    clear t0 t1
                    have q0 := S6.c0
                    have q1 := S6.c1
                    cases h87 : (decide (a' > 0) && !lt (rd lt dk a' b' lim wb wp).pi.1[a' - 1]! (rd lt dk a' b' lim wb wp).pi.1[(rd lt dk a' b' lim wb wp).pivot]!)
                    · obtain ⟨mid, ap, d4, hx⟩ : ∃ mid ap d4, partition lt (rd lt dk a' b' lim wb wp).pi.1 a' b' (rd lt dk a' b' lim wb wp).pivot = (mid, ap, d4) := ⟨_, _, _, rfl⟩
                      obtain ⟨r1, r2, r3, r4, r5, r6, r7⟩ := round_part hO (partition_holds lt) hpv.1 hpv.2 (show b' ≤ (rd lt dk a' b' lim wb wp).pi.1.size by omega) B3 hx
                      have hc22 := partition_any HE.out a' b' (rd lt dk a' b' lim wb wp).pivot (rd lt dk a' b' lim wb wp).pi.1 wc S6.i hpv.1 hpv.2 (by omega)
                      rw [hx] at hc22
                      have X : Hid (partition lt (rd lt dk a' b' lim wb wp).pi.1 a' b' (rd lt dk a' b' lim wb wp).pivot = (mid, ap, d4)) := hx
                      clear hx
                      go_upto_if 109 with (go_at_call 94; refine hc22.mono ?_; rintro e w7 ⟨rfl, hI7, hS7⟩)
                      have hx := X.out
                      have S7 := S6.step HB.out hI7 hS7
                      clear q0 q1
                      have p0 := S7.c0
                      have p1 := S7.c1
                      have hs4 : d4.size = n := HE.out.size _ _ S7.i
                      by_cases h4 : mid - a' < b' - mid
                      · have h4z : (mid : Int) - (a' : Int) < (b' : Int) - (mid : Int) := by omega
                        have hih := HI.out a' mid (rd lt dk a' b' lim wb wp).lim d4 w7 (by omega) S7.i (by omega) (by omega) (Nat.lt_of_le_of_lt (Nat.le_trans rd_lim_le hlim) hlimit) r4
                        obtain ⟨pL, sL⟩ := pdq_sorts lt hO d4 a' mid (rd lt dk a' b' lim wb wp).lim true true (by omega) (by omega) r4
                        go_wp2_with (go_at_call 71; refine hih.mono ?_; rintro e w8 ⟨rfl, hI8, hS8⟩)
                        go_roundg (b' - (mid + 1))
                        case measure => omega
                        case rel =>
                          refine ⟨mid + 1, b', (rd lt dk a' b' lim wb wp).lim, decide (mid - a' ≥ (b' - a') / 8), ap, pdq lt d4 a' mid (rd lt dk a' b' lim wb wp).lim true true, by simp, rfl, rfl, ?_, rfl, by omega, by omega, Nat.le_refl _, by omega, Nat.le_trans rd_lim_le hlim, (r6 _ pL sL).1, S7.step HB.out hI8 hS8, ?_⟩
                          · exact congrArg Value.bool (eighth (by omega) (by omega))
                          · show _ = _
                            rw [← A.out, pdq_left h12 hl0 hp2 h87 (by rw [hx]; exact ⟨r1, r2⟩) (by rw [hx]; exact h4), hx]
                      · have h4z : ¬ ((mid : Int) - (a' : Int) < (b' : Int) - (mid : Int)) := by omega
                        have hih := HI.out (mid + 1) b' (rd lt dk a' b' lim wb wp).lim d4 w7 (by omega) S7.i (by omega) (by omega) (Nat.lt_of_le_of_lt (Nat.le_trans rd_lim_le hlim) hlimit) r5
                        rw [show ((mid + 1 : Nat) : Int) = (mid : Int) + 1 by omega] at hih
                        obtain ⟨pL, sL⟩ := pdq_sorts lt hO d4 (mid + 1) b' (rd lt dk a' b' lim wb wp).lim true true (by omega) (by omega) r5
                        go_wp2_with (go_at_call 71; refine hih.mono ?_; rintro e w8 ⟨rfl, hI8, hS8⟩)
                        go_roundg (mid - a')
                        case measure => omega
                        case rel =>
                          refine ⟨a', mid, (rd lt dk a' b' lim wb wp).lim, decide (b' - mid ≥ (b' - a') / 8), ap, pdq lt d4 (mid + 1) b' (rd lt dk a' b' lim wb wp).lim true true, rfl, rfl, rfl, ?_, rfl, by omega, by omega, Nat.le_refl _, by omega, Nat.le_trans rd_lim_le hlim, (r7 _ pL sL).1, S7.step HB.out hI8 hS8, ?_⟩
                          · exact congrArg Value.bool (eighth (by omega) (by omega))
                          · show _ = _
                            rw [← A.out, pdq_right h12 hl0 hp2 h87 (by rw [hx]; exact ⟨r1, r2⟩) (by rw [hx]; exact h4), hx]
                    · have h87' := h87
                      simp only [Bool.and_eq_true, decide_eq_true_eq, Bool.not_eq_true'] at h87'
                      obtain ⟨mid, d4, hx⟩ : ∃ mid d4, partitionEqual lt (rd lt dk a' b' lim wb wp).pi.1 a' b' (rd lt dk a' b' lim wb wp).pivot = (mid, d4) := ⟨_, _, rfl⟩
                      obtain ⟨r1, r2, r3, r4, _⟩ := round_eq hO (partitionEqual_holds lt) h87'.1 hpv.1 hpv.2 (show b' ≤ (rd lt dk a' b' lim wb wp).pi.1.size by omega) B3 h87'.2 hx
                      have hc21 := partitionEqual_any HE.out a' b' (rd lt dk a' b' lim wb wp).pivot (rd lt dk a' b' lim wb wp).pi.1 wc S6.i hpv.1 hpv.2 (by omega)
                      rw [hx] at hc21
                      have X : Hid (partitionEqual lt (rd lt dk a' b' lim wb wp).pi.1 a' b' (rd lt dk a' b' lim wb wp).pivot = (mid, d4)) := hx
                      clear hx
                      go_wp2_with (go_at_call 93; refine hc21.mono ?_; rintro e w7 ⟨rfl, hI7, hS7⟩)
                      go_roundg (b' - mid)
                      case measure => omega
                      case rel =>
                        have hx := X.out
                        exact ⟨mid, b', (rd lt dk a' b' lim wb wp).lim, wb, wp, d4, rfl, rfl, rfl, rfl, rfl, r2, hb', Nat.le_refl _, by omega, Nat.le_trans rd_lim_le hlim, r4, S6.step HB.out hI7 hS7, by show _ = _; rw [← A.out, pdq_eq h12 hl0 hp2 h87 (by rw [hx]; exact ⟨r1, r2⟩), hx]⟩
end Go.Proofs.YtollijngiioonabGreat

/- The Kids of a blind function put in order by sort.Slice, by the program's own order of terms. Conditions: rows of less than 2^62 Kids, each of at most 549755813888 parts. -/
namespace Go.Proofs.YtollijngiioonabGreat
set_option maxRecDepth 100000
open Go.RowKit Go.Sort Go.Lib

instance : Inhabited FE := ⟨⟨default, none, 0, fun _ => False⟩⟩
/-- Three cells an element. -/
def encE (e : FE) : List Value := [.int .i64 e.t.f, .int .i64 e.t.v, .slice e.a e.t.kids.length e.c]
def ltE (e d : FE) : Bool := befT e.t d.t

theorem bef_iff (a b : TermD) : befT a b = true ↔ ¬ leT b a := by
  rw [← befT_leT a b]; cases befT a b <;> simp
theorem swo_ltE : SWO ltE := by
  refine ⟨fun x => (befT_leT _ _).2 (leT_refl _), fun x y z h1 h2 => ?_, fun x y z h1 h2 => (befT_leT _ _).2 (leT_trans ((befT_leT _ _).1 h2) ((befT_leT _ _).1 h1))⟩
  have a1 := (bef_iff _ _).1 h1
  have a2 := (bef_iff _ _).1 h2
  refine (bef_iff _ _).2 (fun h3 => ?_)
  rcases leT_total y.t x.t with h | h
  · exact a1 h
  · exact a2 (leT_trans h3 h)

/-- The row holds d; its elements own their memory, apart from the row; the box of the variable 'kids'. -/
structure KO (g kb base n : Nat) (d : Array FE) (W : World) : Prop where
  h : HoldsK encE 3 W g 0 d
  sz : d.size = n
  own : ∀ i : Nat, i < n → OwnS W d[i]!.K d[i]!.a d[i]!.t.kids ∧ d[i]!.t.kids.length ≤ d[i]!.c ∧ partsT d[i]!.t ≤ 549755813888 ∧ ∀ x, d[i]!.K x → x ≠ g ∧ x < base
  fr : ∀ j, W.frozen? ⟨g, j, none⟩ = false
  box : W.cell? ⟨kb, 0, none⟩ = some (.slice (some ⟨g, 0, none⟩) n n)
  z : base ≤ W.heap.size

theorem holdsK_block {d : Array FE} {g : Nat} {W W' : World} (h : HoldsK encE 3 W g 0 d) (e : W'.heap[g]? = W.heap[g]?) : HoldsK encE 3 W' g 0 d := fun t ht =>
  ⟨(World.cell?_of_block (a := ⟨g, 0 + t, none⟩) e).trans (h t ht).1, (World.frozen?_of_block (a := ⟨g, 0 + t, none⟩) e).trans (h t ht).2⟩

/-- Whatever leaves the blocks below base leaves it. -/
theorem KO.keep {g kb base n : Nat} {d : Array FE} {W W' : World} (h : KO g kb base n d W) (hg : g < base) (hkb : kb < base) (hb : ∀ x, x < base → W'.heap[x]? = W.heap[x]?) (hz : W.heap.size ≤ W'.heap.size) : KO g kb base n d W' :=
  ⟨holdsK_block h.h (hb g hg), h.sz, fun i hi => ⟨(h.own i hi).1.frame (fun x hx => hb x ((h.own i hi).2.2.2 x hx).2) hz, (h.own i hi).2⟩, fun j => (World.frozen?_of_block (a := ⟨g, j, none⟩) (hb g hg)).trans (h.fr j), (World.cell?_of_block (a := ⟨kb, 0, none⟩) (hb kb hkb)).trans h.box, Nat.le_trans h.z hz⟩

theorem setCells_block (blk : Nat) : ∀ (vs : List Value) (s : Nat) (w : World) (k : Nat), k ≠ blk → (w.setCells blk s vs).heap[k]? = w.heap[k]?
  | [], _, _, _, _ => rfl
  | v :: r, s, w, k, h => by
    rw [World.setCells, setCells_block blk r (s + 1) _ k h]
    exact Below.heap_setCell _ _ _ _ h
theorem setCells_size : ∀ (vs : List Value) (blk s : Nat) (w : World), (w.setCells blk s vs).heap.size = w.heap.size
  | [], _, _, _ => rfl
  | v :: r, blk, s, w => by rw [World.setCells, setCells_size r]; simp
theorem frozen_setCells (p : Addr) (blk : Nat) : ∀ (vs : List Value) (s : Nat) (w : World), (w.setCells blk s vs).frozen? p = w.frozen? p
  | [], _, _ => rfl
  | v :: r, s, w => by rw [World.setCells, frozen_setCells p blk r (s + 1), World.frozen?_setCell]
theorem stay_setCells (blk : Nat) : ∀ (vs : List Value) (s : Nat) (w : World), Stay (fun k => k ≠ blk) w (w.setCells blk s vs)
  | [], _, w => .refl _ w
  | v :: r, s, w => by
    rw [World.setCells]
    exact (Stay.setCell w v (by simp)).trans (stay_setCells blk r (s + 1) _)

set_option maxHeartbeats 1600000 in
theorem less_any {g kb base n : Nat} {d : Array FE} {W : World} (h : KO g kb base n d W) (i j : Nat) (hi : i < n) (hj : j < n) :
    Calls Tryz.prog 62 #[.int .i64 i, .int .i64 j, .pointer (some ⟨kb, 0, none⟩)] W fun e W' => e = .returned (.bool (befT d[i]!.t d[j]!.t)) ∧ Below W.heap.size W W' := by
  have hd := h.sz
  have i0 := (h.h.cell (i := i) (c := 0) (by omega) (by omega)).1
  have i1 := (h.h.cell (i := i) (c := 1) (by omega) (by omega)).1
  have i2 := (h.h.cell (i := i) (c := 2) (by omega) (by omega)).1
  have j0 := (h.h.cell (i := j) (c := 0) (by omega) (by omega)).1
  have j1 := (h.h.cell (i := j) (c := 1) (by omega) (by omega)).1
  have j2 := (h.h.cell (i := j) (c := 2) (by omega) (by omega)).1
  simp only [encE, List.getElem!_cons_zero, List.getElem!_cons_succ, Nat.zero_add, Nat.add_zero] at i0 i1 i2 j0 j1 j2
  obtain ⟨oi, ci, pi, _⟩ := h.own i hi
  obtain ⟨oj, cj, pj, _⟩ := h.own j hj
  have CB : ∀ W', Below W.heap.size W W' → Calls Tryz.prog 42 #[.agg #[.int .i64 d[i]!.t.f, .int .i64 d[i]!.t.v, .slice d[i]!.a d[i]!.t.kids.length d[i]!.c], .agg #[.int .i64 d[j]!.t.f, .int .i64 d[j]!.t.v, .slice d[j]!.a d[j]!.t.kids.length d[j]!.c]] W' fun e w' => e = .returned (.bool (befT d[i]!.t d[j]!.t)) ∧ Below W'.heap.size W' w' := fun W' hb =>
    impBef_any 549755813888 _ _ _ _ _ _ W.heap.size W' pi (Nat.le_refl _) (oi.rd.on hb) (oj.rd.on hb) hb.size ci cj
  have hb0 := h.box
  clear oi oj ci cj pi pj h hd
  generalize d[i]! = x at *
  generalize d[j]! = y at *
  generalize befT x.t y.t = r at *
  have hiz : (i : Int) < (n : Int) := by omega
  have hjz : (j : Int) < (n : Int) := by omega
  have k0 := cellB i0
  have k1 := cellB i1
  have k2 := cellB i2
  have l0 := cellB j0
  have l1 := cellB j1
  have l2 := cellB j2
  have kb0 := cellB hb0
  clear i0 i1 i2 j0 j1 j2
  go_enter Tryz.func62, Tryz.ntmps62
  go_wp2
  refine wp_region_below (by kernel_rfl) (by kernel_rfl) ?_
  repeat (go_big_quiet_step ((go_at_call 42; refine callsB (CB _ (BW.b _)))))
  refine wpQuiet_nil ?_
  intro w2 hw'
  have hb2 : Below W.heap.size W w2 := by obtain ⟨p, rfl⟩ := hw'; exact p.b
  clear hw' k0 k1 k2 l0 l1 l2 kb0
  go_wp2_with fail
  go_ret
  exact ⟨rfl, hb2⟩

noncomputable def svT : TypeInfo := (Tryz.prog.info? 32).get (by kernel_rfl)
noncomputable def svE : TypeInfo := (Tryz.prog.info? 34).get (by kernel_rfl)
theorem svK (n : Nat) (h2 : 2 ≤ n) : Lib.swapperK n svE 25 = 9 := by
  have a : svE.hasPointers = true := by kernel_rfl
  have b : svE.bytes = 40 := by kernel_rfl
  have c : (n == 0) = false := by simp; omega
  have d : (n == 1) = false := by simp; omega
  simp [Lib.swapperK, a, b, c, d]

theorem env {g kb base n : Nat} (hg : g < base) (hkb : kb < base) (hne : kb ≠ g) (hn : n < 4611686018427387904) :
    SEnv 62 #[.pointer (some ⟨kb, 0, none⟩)] 84 #[.slice (some ⟨g, 0, none⟩) n n, typeHandle Tryz.prog 34] ltE n g base (KO g kb base n) := by
  refine ⟨enters_of Tryz.func62 (by kernel_rfl) rfl, fun d W i j h hi hj => ?_, fun d W i j h hi hj => ?_, fun d W W' h hb => ?_, fun d W p v h hp => ?_, fun d W h => h.z, hg, fun d W h => h.sz, hn⟩
  · refine (less_any h i j hi hj).mono ?_
    rintro e W' ⟨rfl, hb⟩
    exact ⟨rfl, h.keep hg hkb (fun x hx => hb.block x (Nat.lt_of_lt_of_le hx h.z)) hb.size, .of_below hb (fun _ hk _ => hk)⟩
  · have hs := swapSwapsK_of_literal (P := Tryz.prog) false 84 (fun args W => run_callFunc_extern Tryz.func84 (by kernel_rfl) (by kernel_rfl) (by kernel_rfl) (e := Extern.ReflectliteSwapper.swap false) (by kernel_rfl) args W)
      34 svE (by kernel_rfl) encE 3 (fun _ => rfl) (by kernel_rfl) (fun _ => by kernel_rfl) (fun x v hv => by simp [encE] at hv; rcases hv with rfl | rfl | rfl <;> rfl) g 0 n n W d h.h h.sz i j hi hj
    have hst : Stay (fun k => k ≠ g) W ((W.setCells g (0 + i * 3) (encE d[j]!)).setCells g (0 + j * 3) (encE d[i]!)) := (stay_setCells g _ _ _).trans (stay_setCells g _ _ _)
    have hH : HoldsK encE 3 ((W.setCells g (0 + i * 3) (encE d[j]!)).setCells g (0 + j * 3) (encE d[i]!)) g 0 (swp d i j) := by
      have e0 := swap_worldK encE 3 (fun _ => rfl) W 0 0 g 0 d i j (by rw [h.sz]; exact hi) (by rw [h.sz]; exact hj)
      have e1 : (putRowK encE 3 (Sort.ahead W 0) g 0 d).drewN 0 = W := by
        show putRowK encE 3 (Sort.ahead W 0) g 0 d = W
        exact putRowK_self encE 3 W g 0 d h.h
      rw [e1] at e0
      rw [e0]
      exact holdsK_putRowK encE 3 W g 0 d (swp d i j) h.h (size_swp d i j)
    refine ⟨_, hs, ⟨hH, by rw [size_swp]; exact h.sz, fun k hk => ?_, fun j => by rw [frozen_setCells, frozen_setCells]; exact h.fr j, ?_, Nat.le_trans h.z hst.size⟩, hst⟩
    · have hm : ∃ k', k' < n ∧ (swp d i j)[k]! = d[k']! := by
        rw [swp_get d (by rw [h.sz]; exact hi) (by rw [h.sz]; exact hj)]
        split
        · exact ⟨i, hi, rfl⟩
        · split
          · exact ⟨j, hj, rfl⟩
          · exact ⟨k, hk, rfl⟩
      obtain ⟨k', hk', e⟩ := hm
      rw [e]
      obtain ⟨o1, o2, o3, o4⟩ := h.own k' hk'
      exact ⟨o1.frame (fun x hx => hst.block x (Nat.lt_of_lt_of_le (o4 x hx).2 h.z) (o4 x hx).1) hst.size, o2, o3, o4⟩
    · exact hst.cell h.box hne
  · exact h.keep hg hkb (fun x hx => hb.block x (Nat.lt_of_lt_of_le hx h.z)) hb.size
  · refine h.keep hg hkb (fun x hx => Below.heap_setCell _ _ _ _ (by omega)) (by simp)

/-- Sorted: a permutation of what the row held, in order. -/
theorem sortKids_any {g kb base n : Nat} (hg : g < base) (hkb : kb < base) (hne : kb ≠ g) (hn : n < 4611686018427387904) (h2 : 2 ≤ n) (d : Array FE) (W : World) (h : KO g kb base n d W) :
    Calls Tryz.prog 61 #[.iface 32 (.slice (some ⟨g, 0, none⟩) n n), .func (.func 62) #[] #[.pointer (some ⟨kb, 0, none⟩)]] W fun e W' => e = .returned (.tuple #[]) ∧
      ∃ d' : Array FE, KO g kb base n d' W' ∧ d'.toList.Perm d.toList ∧ (d'.toList.map FE.t).Pairwise leT ∧ Stay (fun k => k ≠ g) W W' := by
  have hL := Any.sort_Slice_of_pdq Tryz.laysGg6 32 34 svT svE (by kernel_rfl) (by kernel_rfl) (by kernel_rfl) (by kernel_rfl) 25 (fun _ => by kernel_rfl) (some ⟨g, 0, none⟩) n n hn 84 (by rw [svK _ h2]; kernel_rfl) (.func 62) #[] #[.pointer (some ⟨kb, 0, none⟩)] W
    (fun W' => ∃ d' : Array FE, KO g kb base n d' W' ∧ d'.toList.Perm d.toList ∧ (d'.toList.map FE.t).Pairwise leT ∧ Stay (fun k => k ≠ g) W W')
  refine hL ?_
  have hB : sliceBound Tryz.prog 34 svE 25 (some ⟨g, 0, none⟩) n n = #[.slice (some ⟨g, 0, none⟩) n n, typeHandle Tryz.prog 34] := by
    unfold sliceBound; rw [if_neg (by rw [svK _ h2]; omega)]
  rw [hB]
  obtain ⟨W1, hW1⟩ : ∃ W1, W1 = sliceWorld Tryz.prog Tryz.laysGg6_ren 32 (some ⟨g, 0, none⟩) n n W := ⟨_, rfl⟩
  have hb1 : Below W.heap.size W W1 := by rw [hW1]; exact ((Below.refl _ _).alloc (Nat.le_refl _) _).alloc (by simp) _
  have h1 : KO g kb base n d W1 := h.keep hg hkb (fun x hx => hb1.block x (Nat.lt_of_lt_of_le hx h.z)) hb1.size
  have hlim : Lib.bitLen n < 4611686018427387904 := Nat.lt_of_le_of_lt (Lib.bitLen_le n 62 (by omega) (by omega)) (by omega)
  have hp := pdqsort_any (env hg hkb hne hn) swo_ltE (n + 1) 0 n (Lib.bitLen n) d W1 (by omega) h1 (Nat.zero_le _) (Nat.le_refl _) hlim (Or.inl rfl)
  rw [← hW1]
  refine hp.mono ?_
  rintro e W' ⟨rfl, hI, hst⟩
  have hd := h.sz
  obtain ⟨pp, ps⟩ := pdq_sorts ltE swo_ltE d 0 n (Lib.bitLen n) true true (Nat.zero_le _) (by omega) (Or.inl rfl)
  refine ⟨rfl, _, hI, ?_, ?_, (Stay.of_below hb1 (fun _ hk _ => hk)).trans hst⟩
  · have e1 := pp.2.2
    have hs := pp.1
    rw [Array.extract_eq_self_of_le (by omega), Array.extract_eq_self_of_le (by omega)] at e1
    exact e1
  · have hs := pp.1
    rw [List.pairwise_iff_getElem]
    intro i j hi hj hij
    simp only [List.length_map, Array.length_toList] at hi hj
    have := ps i j (Nat.zero_le _) hij (by omega)
    rw [getElem!_pos _ j (by omega), getElem!_pos _ i (by omega)] at this
    simp only [List.getElem_map, Array.getElem_toList]
    exact (befT_leT _ _).1 this
end Go.Proofs.YtollijngiioonabGreat

/- The program's way to one form, as data: a stack of terms whose Kids are still to come, each of which puts its Kids into its home. Conditions: none. -/
namespace Go.Proofs.YtollijngiioonabGreat
set_option maxRecDepth 100000
open Go.RowKit

mutual
/-- What one Kid brings to a home of function f: itself in one form, or what its own Kids bring where it is of the same blind function. -/
def addsT (bl : Int → Bool) (f : Int) : TermD → List TermD
  | .mk g v ks => if (bl f && g == f) = true then addsL bl f ks else [normT bl (.mk g v ks)]
def addsL (bl : Int → Bool) (f : Int) : List TermD → List TermD
  | [] => []
  | k :: ks => addsT bl f k ++ addsL bl f ks
end
theorem addsT_in (bl : Int → Bool) {f : Int} {k : TermD} (h : (bl f && k.f == f) = true) : addsT bl f k = addsL bl f k.kids := by
  cases k with | mk g v ks => rw [addsT, if_pos (show (bl f && g == f) = true from h)]; rfl
theorem addsT_out (bl : Int → Bool) {f : Int} {k : TermD} (h : (bl f && k.f == f) = false) : addsT bl f k = [normT bl k] := by
  cases k with | mk g v ks => rw [addsT, if_neg (by rw [show ((bl f && g == f) = false) from h]; exact Bool.false_ne_true)]
theorem addsL_map (bl : Int → Bool) {f : Int} (h : bl f = false) : ∀ ks, addsL bl f ks = ks.map (normT bl)
  | [] => rfl
  | k :: ks => by rw [addsL, addsT_out bl (by rw [h]; rfl), addsL_map bl h ks]; rfl
mutual
theorem addsT_perm (bl : Int → Bool) {f : Int} (h : bl f = true) : ∀ k, (addsT bl f k).Perm (flatK f (normT bl k))
  | .mk g v ks => by
    by_cases e : g = f
    · rw [addsT_in bl (by simp [h, TermD.f, e])]
      have e1 : flatK f (normT bl (.mk g v ks)) = normL bl f ks [] := by rw [normT]; simp [flatK, TermD.f, TermD.kids, e]
      rw [e1]
      exact ((addsL_perm bl h ks).trans (by simpa using (normL_perm bl f h ks []).symm))
    · rw [addsT_out bl (by simp [h, TermD.f, e])]
      have e1 : flatK f (normT bl (.mk g v ks)) = [normT bl (.mk g v ks)] := by unfold flatK; rw [if_pos (by rw [normT]; exact e)]
      rw [e1]
theorem addsL_perm (bl : Int → Bool) {f : Int} (h : bl f = true) : ∀ ks, (addsL bl f ks).Perm (ks.flatMap fun k => flatK f (normT bl k))
  | [] => by simp [addsL]
  | k :: ks => by rw [addsL, List.flatMap_cons]; exact (addsT_perm bl h k).append (addsL_perm bl h ks)
end

/-- In order. -/
def sortT (ks : List TermD) : List TermD := ks.foldl (fun o x => putT x o) []
theorem sortT_perm (ks : List TermD) : (sortT ks).Perm ks := by have := foldP_perm ks []; simpa [sortT] using this
theorem sortT_sorted (ks : List TermD) : (sortT ks).Pairwise leT := foldP_sorted ks .nil
theorem sortT_eq {ks us : List TermD} (hp : us.Perm ks) (hs : us.Pairwise leT) : us = sortT ks := sorted_ext hs (sortT_sorted ks) (hp.trans (sortT_perm ks).symm)
/-- A term whose Kids have all come. -/
def closeT (bl : Int → Bool) (f v : Int) (made : List TermD) : TermD := .mk f v (if bl f = true then sortT made else made)
theorem close_norm (bl : Int → Bool) (t : TermD) : closeT bl t.f t.v (addsL bl t.f t.kids) = normT bl t := by
  rw [normT_eq]
  unfold closeT
  congr 1
  cases h : bl t.f with
  | false => rw [if_neg (by simp), addsL_map bl h, normL_map bl _ h]; simp
  | true =>
    rw [if_pos rfl]
    exact (sortT_eq ((normL_perm bl _ h t.kids []).trans (by simpa using (addsL_perm bl h t.kids).symm)) (normL_sorted bl _ h t.kids .nil)).symm

/-- A term on whose Kids the program is at work. -/
structure FD where
  f : Int
  v : Int
  left : List TermD
  made : List TermD
  home : Bool
/-- Kids that are done, put into the home of the innermost one. -/
def addHome (A : List TermD) : List FD → List FD
  | [] => []
  | x :: r => if x.home = true then { x with made := x.made ++ A } :: r else x :: addHome A r
theorem addHome_len (A : List TermD) : ∀ l, (addHome A l).length = l.length
  | [] => rfl
  | x :: r => by unfold addHome; split <;> simp [addHome_len A r]
theorem addHome_nil : ∀ l, addHome [] l = l
  | [] => rfl
  | x :: r => by unfold addHome; split <;> simp [addHome_nil r]
theorem addHome_two (A B : List TermD) : ∀ l, addHome B (addHome A l) = addHome (A ++ B) l
  | [] => rfl
  | x :: r => by
    rw [addHome, addHome]
    split
    · rename_i h; rw [addHome, if_pos h]; simp
    · rename_i h; rw [addHome, if_neg h, addHome_two A B r]
/-- What comes out in the end. -/
def finN (bl : Int → Bool) : Nat → List FD → TermD
  | 0, _ => default
  | _ + 1, [] => default
  | n + 1, x :: r => if x.home = true then (if r.length = 0 then closeT bl x.f x.v (x.made ++ addsL bl x.f x.left) else finN bl n (addHome [closeT bl x.f x.v (x.made ++ addsL bl x.f x.left)] r)) else finN bl n (addHome (addsL bl x.f x.left) r)
def finS (bl : Int → Bool) (l : List FD) : TermD := finN bl l.length l
variable {bl : Int → Bool}
theorem fin_last {x : FD} (h : x.home = true) : finS bl [x] = closeT bl x.f x.v (x.made ++ addsL bl x.f x.left) := by simp [finS, finN, h]
theorem fin_home {x : FD} {r : List FD} (h : x.home = true) (hr : r ≠ []) : finS bl (x :: r) = finS bl (addHome [closeT bl x.f x.v (x.made ++ addsL bl x.f x.left)] r) := by
  have h0 : r.length ≠ 0 := fun e => hr (List.length_eq_zero_iff.1 e)
  simp [finS, finN, h, h0, addHome_len]
theorem fin_in {x : FD} {r : List FD} (h : x.home = false) : finS bl (x :: r) = finS bl (addHome (addsL bl x.f x.left) r) := by
  simp [finS, finN, h, addHome_len]

/-- Kids that come one after another. -/
theorem fin_part {x : FD} {r : List FD} {A l ks : List TermD} (he : addsL bl x.f l = A ++ addsL bl x.f ks) : finS bl (addHome A ({ x with left := ks } :: r)) = finS bl ({ x with left := l } :: r) := by
  obtain ⟨f, v, l0, made, home⟩ := x
  cases home with
  | true =>
    simp only [addHome, if_true]
    by_cases hr : r = []
    · subst hr
      rw [fin_last (by rfl), fin_last (by rfl)]
      simp only at he ⊢
      rw [he, List.append_assoc]
    · rw [fin_home (by rfl) hr, fin_home (by rfl) hr]
      simp only at he ⊢
      rw [he, List.append_assoc]
  | false =>
    simp only [addHome, Bool.false_eq_true, if_false]
    rw [fin_in (by rfl), fin_in (by rfl), addHome_two]
    simp only at he ⊢
    rw [he]
/-- One more term is opened. -/
theorem fin_open {x : FD} {r : List FD} {k : TermD} {ks : List TermD} {m : List TermD} (hl : x.left = k :: ks) (hm : m = []) : finS bl ({ f := k.f, v := k.v, left := k.kids, made := m, home := !(bl k.f && k.f == x.f) } :: { x with left := ks } :: r) = finS bl (x :: r) := by
  subst hm
  have hx : ({ x with left := k :: ks } : FD) = x := by cases x; simp_all
  cases h : (bl k.f && k.f == x.f) with
  | false =>
    have h' : (bl x.f && k.f == x.f) = false := by
      by_cases e : k.f = x.f
      · rw [← e]; simpa [e] using h
      · simp [e]
    rw [fin_home (by rfl) (by simp)]
    simp only [List.nil_append]
    rw [close_norm bl k, fin_part (l := k :: ks) (by rw [addsL, addsT_out bl h']), hx]
  | true =>
    have e : k.f = x.f := by simp at h; exact h.2
    have h' : (bl x.f && k.f == x.f) = true := by rw [← e]; simpa [e] using h
    rw [fin_in (by rfl)]
    show finS bl (addHome (addsL bl k.f k.kids) _) = _
    rw [e, fin_part (l := k :: ks) (by rw [addsL, addsT_in bl h']), hx]
theorem fin_drop {x : FD} {r : List FD} (hl : x.left = []) (h : x.home = false) : finS bl (x :: r) = finS bl r := by
  rw [fin_in h, hl, addsL, addHome_nil]
theorem fin_close {x : FD} {r : List FD} (hl : x.left = []) (h : x.home = true) (hr : r ≠ []) : finS bl (x :: r) = finS bl (addHome [closeT bl x.f x.v x.made] r) := by
  rw [fin_home h hr, hl, addsL, List.append_nil]
theorem fin_end {x : FD} (hl : x.left = []) (h : x.home = true) : finS bl [x] = closeT bl x.f x.v x.made := by
  rw [fin_last h, hl, addsL, List.append_nil]
theorem fin_start (t : TermD) : finS bl [{ f := t.f, v := t.v, left := t.kids, made := [], home := true }] = normT bl t := by
  rw [fin_last rfl, List.nil_append, close_norm]

/-- How much is still to be done. -/
def todo (l : List FD) : Nat := (l.map fun x => 1 + 2 * partsL x.left).sum
/-- How much there is. -/
def bulk (l : List FD) : Nat := (l.map fun x => 1 + partsL x.left + x.made.length).sum
theorem todo_add (A : List TermD) : ∀ l, todo (addHome A l) = todo l
  | [] => rfl
  | x :: r => by
    have ih := todo_add A r
    unfold todo at *
    rw [addHome]
    split
    · simp
    · simp only [List.map_cons, List.sum_cons, ih]
theorem bulk_add (A : List TermD) : ∀ l, bulk (addHome A l) ≤ bulk l + A.length
  | [] => by simp [addHome, bulk]
  | x :: r => by
    have ih := bulk_add A r
    unfold bulk at *
    rw [addHome]
    split
    · simp only [List.map_cons, List.sum_cons, List.length_append]; omega
    · simp only [List.map_cons, List.sum_cons]; omega
end Go.Proofs.YtollijngiioonabGreat

/- What lies in memory while the program makes one form of a term: a row of terms that are at work, each with a row of Kids that are done. Conditions: none. -/
namespace Go.Proofs.YtollijngiioonabGreat
set_option maxRecDepth 100000
open Go.RowKit

/-- A term at work: its Kids that are left, those that are done (with the row that holds them), whether it is its own home. -/
structure FM where
  t : TermD
  a : Option Addr
  c : Nat
  left : List TermD
  al : Option Addr
  cl : Nat
  L : List FE
  am : Option Addr
  cm : Nat
  hm : Bool
def FM.d (x : FM) : FD := { f := x.t.f, v := x.t.v, left := x.left, made := x.L.map FE.t, home := x.hm }
/-- Where the home of the innermost one stands. -/
def homeIx : List FM → Nat
  | [] => 0
  | x :: r => if x.hm = true then r.length else homeIx r
def FM.cells (x : FM) (h : Nat) : List Value := [.int .i64 x.t.f, .int .i64 x.t.v, .slice x.a x.t.kids.length x.c, .slice x.al x.left.length x.cl, .slice x.am x.L.length x.cm, .int .i64 h]
/-- The row's cells, the outermost one's first. -/
def cellsF : List FM → List Value
  | [] => []
  | x :: r => cellsF r ++ x.cells (homeIx (x :: r))
theorem cellsF_len : ∀ F, (cellsF F).length = F.length * 6
  | [] => rfl
  | x :: r => by rw [cellsF, List.length_append, cellsF_len r]; simp [FM.cells]; omega
/-- The blocks of a term at work. -/
def FM.S (x : FM) (k : Nat) : Prop := (Value.slice x.am x.L.length x.cm).ownBlock = some k ∨ ∃ e ∈ x.L, e.K k

/-- One term at work. -/
structure MR (n0 B : Nat) (x : FM) (wr : World) : Prop where
  rd : RdK wr n0 x.al x.left
  le : x.left.length ≤ x.cl
  wf : isW x.t.f ∧ isW x.t.v
  row : wr.ownsRow B 34 3 (.slice x.am x.L.length x.cm) x.L.length (cs3 (x.L.map FE.cells))
  el : ∀ e ∈ x.L, OwnS wr e.K e.a e.t.kids ∧ e.t.kids.length ≤ e.c ∧ (isW e.t.f ∧ isW e.t.v) ∧ ∀ k, e.K k → B ≤ k ∧ k < wr.heap.size
  dis : x.L.Pairwise fun e d => ∀ k, e.K k → ¬ d.K k
  ap : ∀ g, (Value.slice x.am x.L.length x.cm).ownBlock = some g → ∀ e ∈ x.L, ¬ e.K g
theorem MR.lt {n0 B : Nat} {x : FM} {wr : World} (h : MR n0 B x wr) (k : Nat) (hk : x.S k) : B ≤ k ∧ k < wr.heap.size := by
  rcases hk with e | ⟨e, he, hk⟩
  · exact h.row.lt k e
  · exact (h.el e he).2.2.2 k hk
theorem MR.stay {n0 B : Nat} {x : FM} {wr wr' : World} {S : Nat → Prop} (h : MR n0 B x wr) (hs : Stay S wr wr') (hn : ∀ k, k < n0 → S k) (hx : ∀ k, x.S k → S k) (hz : n0 ≤ wr.heap.size) : MR n0 B x wr' :=
  ⟨h.rd.on (hs.below hz hn), h.le, h.wf, own_stay h.row hs (fun g hg => hx g (.inl hg)), fun e he => ⟨(h.el e he).1.frame (fun k hk => hs.block k ((h.el e he).2.2.2 k hk).2 (hx k (.inr ⟨e, he, hk⟩))) hs.size, (h.el e he).2.1, (h.el e he).2.2.1, fun k hk => ⟨((h.el e he).2.2.2 k hk).1, Nat.lt_of_lt_of_le ((h.el e he).2.2.2 k hk).2 hs.size⟩⟩, h.dis, h.ap⟩
/-- A Kid more that is done, at the end of its row. -/
theorem MR.app {n0 B : Nat} {x : FM} {e : FE} {v : Value} {wr wr' : World} (h : MR n0 B x wr) (hB : B ≤ wr.heap.size) (hn : n0 ≤ B) (he : OwnS wr e.K e.a e.t.kids ∧ e.t.kids.length ≤ e.c ∧ (isW e.t.f ∧ isW e.t.v) ∧ ∀ k, e.K k → B ≤ k ∧ k < wr.heap.size) (hd : ∀ k, e.K k → ¬ x.S k)
    (hg : wr.grownBy wr' (Value.slice x.am x.L.length x.cm).ownBlock) (hrow : wr'.ownsRow B 34 3 v (x.L.length + 1) (cs3 (x.L.map FE.cells) ++ [.int .i64 e.t.f, .int .i64 e.t.v, .slice e.a e.t.kids.length e.c])) (hat : v.ownBlock = (Value.slice x.am x.L.length x.cm).ownBlock ∨ ∃ k, v.ownBlock = some k ∧ wr.heap.size ≤ k) :
    ∃ g c, v = .slice (some ⟨g, 0, none⟩) (x.L.length + 1) c ∧ MR n0 B { x with L := x.L ++ [e], am := some ⟨g, 0, none⟩, cm := c } wr' := by
  obtain ⟨g, c, rfl, _⟩ := own_slot hrow
  have hst : Stay (fun k => (Value.slice x.am x.L.length x.cm).ownBlock ≠ some k) wr wr' := .grown hg (fun k e h => h e)
  have hout : ∀ d ∈ x.L ++ [e], OwnS wr d.K d.a d.t.kids ∧ d.t.kids.length ≤ d.c ∧ (isW d.t.f ∧ isW d.t.v) ∧ (∀ k, d.K k → B ≤ k ∧ k < wr.heap.size) ∧ ∀ k, d.K k → (Value.slice x.am x.L.length x.cm).ownBlock ≠ some k := fun d hd' => by
    rcases List.mem_append.1 hd' with h1 | h1
    · exact ⟨(h.el d h1).1, (h.el d h1).2.1, (h.el d h1).2.2.1, (h.el d h1).2.2.2, fun k hk e => h.ap k e d h1 hk⟩
    · obtain rfl : d = e := by simpa using h1
      exact ⟨he.1, he.2.1, he.2.2.1, he.2.2.2, fun k hk e => hd k hk (.inl e)⟩
  refine ⟨g, c, rfl, ⟨h.rd.on (hst.below (Nat.le_trans hn hB) (fun k hk e => by have := (h.row.lt k e).1; omega)), h.le, h.wf, ?_, fun d hd' => ?_, ?_, fun g' hg' d hd' hk => ?_⟩⟩
  · have e1 : cs3 ((x.L ++ [e]).map FE.cells) = cs3 (x.L.map FE.cells) ++ [.int .i64 e.t.f, .int .i64 e.t.v, .slice e.a e.t.kids.length e.c] := by simp [cs3, FE.cells]
    show wr'.ownsRow _ _ _ (.slice _ (x.L ++ [e]).length c) (x.L ++ [e]).length (cs3 ((x.L ++ [e]).map FE.cells))
    rw [e1, List.length_append]; exact hrow
  · obtain ⟨o1, o2, o3, o4, o5⟩ := hout d hd'
    exact ⟨o1.frame (fun k hk => hst.block k (o4 k hk).2 (o5 k hk)) hst.size, o2, o3, fun k hk => ⟨(o4 k hk).1, Nat.lt_of_lt_of_le (o4 k hk).2 hst.size⟩⟩
  · refine List.pairwise_append.2 ⟨h.dis, by simp, fun d hd' d2 hd2 k hk hk2 => ?_⟩
    obtain rfl : d2 = e := by simpa using hd2
    exact hd k hk2 (.inr ⟨d, hd', hk⟩)
  · have e0 : g = g' := by simpa [Value.ownBlock] using hg'
    subst e0
    obtain ⟨_, _, _, o4, o5⟩ := hout d hd'
    rcases hat with q | ⟨k, q, hk'⟩
    · exact o5 g hk q.symm
    · have : g = k := by simpa [Value.ownBlock] using q
      have := (o4 g hk).2
      omega

/-- The home of the innermost one. -/
instance : Inhabited FM := ⟨⟨default, none, 0, [], none, 0, [], none, 0, true⟩⟩
def homeFr : List FM → FM
  | [] => default
  | x :: r => if x.hm = true then x else homeFr r
def hasHome : List FM → Prop
  | [] => False
  | x :: r => x.hm = true ∨ hasHome r
/-- A Kid that is done, put into the home of the innermost one. -/
def putHome (e : FE) (am : Option Addr) (cm : Nat) : List FM → List FM
  | [] => []
  | x :: r => if x.hm = true then { x with L := x.L ++ [e], am := am, cm := cm } :: r else x :: putHome e am cm r
theorem putHome_len (e : FE) (am : Option Addr) (cm : Nat) : ∀ F, (putHome e am cm F).length = F.length
  | [] => rfl
  | x :: r => by unfold putHome; split <;> simp [putHome_len e am cm r]
theorem putHome_ix (e : FE) (am : Option Addr) (cm : Nat) : ∀ F, homeIx (putHome e am cm F) = homeIx F
  | [] => rfl
  | x :: r => by
    unfold putHome
    split
    · rename_i h; simp [homeIx, h]
    · rename_i h; simp [homeIx, h, putHome_ix e am cm r]
theorem putHome_d (e : FE) (am : Option Addr) (cm : Nat) : ∀ F, (putHome e am cm F).map FM.d = addHome [e.t] (F.map FM.d)
  | [] => rfl
  | x :: r => by
    unfold putHome
    rw [List.map_cons, addHome]
    split
    · rename_i h; rw [if_pos (show x.d.home = true from h)]; simp [FM.d]
    · rename_i h; rw [if_neg (show ¬ x.d.home = true from h), List.map_cons, putHome_d e am cm r]
theorem putHome_has (e : FE) (am : Option Addr) (cm : Nat) : ∀ {F}, hasHome F → hasHome (putHome e am cm F)
  | [], h => h
  | x :: r, h => by
    unfold putHome
    split
    · rename_i hx; exact .inl hx
    · rename_i hx; exact .inr (putHome_has e am cm (h.resolve_left hx))
theorem home_lt : ∀ {F : List FM}, hasHome F → homeIx F < F.length
  | [], h => h.elim
  | x :: r, h => by
    unfold homeIx
    split
    · simp
    · rename_i hx; have := home_lt (h.resolve_left hx); simp; omega
theorem home_mem : ∀ {F : List FM}, hasHome F → homeFr F ∈ F
  | [], h => h.elim
  | x :: r, h => by
    unfold homeFr
    split
    · simp
    · rename_i hx; exact List.mem_cons_of_mem _ (home_mem (h.resolve_left hx))
theorem home_cell : ∀ {F : List FM}, hasHome F → (cellsF F)[homeIx F * 6 + 4]? = some (.slice (homeFr F).am (homeFr F).L.length (homeFr F).cm)
  | [], h => h.elim
  | x :: r, h => by
    have hl := cellsF_len r
    rw [cellsF, homeIx, homeFr]
    split
    · rw [List.getElem?_append_right (by omega)]; simp [hl, FM.cells]
    · rename_i hx
      have h1 := home_lt (h.resolve_left hx)
      rw [List.getElem?_append_left (by omega)]; exact home_cell (h.resolve_left hx)
theorem putHome_cells (e : FE) (am : Option Addr) (cm : Nat) : ∀ {F : List FM}, hasHome F → cellsF (putHome e am cm F) = (cellsF F).set (homeIx F * 6 + 4) (.slice am ((homeFr F).L.length + 1) cm)
  | [], h => h.elim
  | x :: r, h => by
    have hl := cellsF_len r
    by_cases hx : x.hm = true
    · simp only [putHome, if_pos hx, cellsF, homeIx, homeFr]
      rw [List.set_append_right _ _ (by omega)]
      simp [hl, FM.cells]
    · have h1 := home_lt (h.resolve_left hx)
      have h2 := putHome_cells e am cm (h.resolve_left hx)
      have h3 := putHome_ix e am cm r
      simp only [putHome, if_neg hx, cellsF, homeIx, homeFr]
      rw [List.set_append_left _ _ (by omega), h2, h3]
/-- Who stands there behind it. -/
theorem putHome_mem (e : FE) (am : Option Addr) (cm : Nat) : ∀ {F : List FM} {y : FM}, hasHome F → (F.Pairwise fun x y => ∀ k, x.S k → ¬ y.S k) → y ∈ putHome e am cm F → (y ∈ F ∧ ∀ k, y.S k → ¬ (homeFr F).S k) ∨ y = { homeFr F with L := (homeFr F).L ++ [e], am := am, cm := cm }
  | [], _, h, _, _ => h.elim
  | x :: r, y, h, hd, hy => by
    obtain ⟨h1, h2⟩ := List.pairwise_cons.1 hd
    by_cases hx : x.hm = true
    · simp only [putHome, if_pos hx, homeFr] at hy ⊢
      rcases List.mem_cons.1 hy with rfl | hy
      · exact .inr rfl
      · exact .inl ⟨List.mem_cons_of_mem _ hy, fun k hk hk2 => h1 y hy k hk2 hk⟩
    · simp only [putHome, if_neg hx, homeFr] at hy ⊢
      have hr := h.resolve_left hx
      rcases List.mem_cons.1 hy with rfl | hy
      · exact .inl ⟨by simp, fun k hk hk2 => h1 _ (home_mem hr) k hk hk2⟩
      · exact (putHome_mem e am cm hr h2 hy).imp (fun q => ⟨List.mem_cons_of_mem _ q.1, q.2⟩) id
theorem putHome_dis (e : FE) (am : Option Addr) (cm : Nat) (N : Nat → Prop) : ∀ {F : List FM}, hasHome F → (F.Pairwise fun x y => ∀ k, x.S k → ¬ y.S k) → (∀ k, FM.S { homeFr F with L := (homeFr F).L ++ [e], am := am, cm := cm } k → (homeFr F).S k ∨ N k) → (∀ x ∈ F, ∀ k, N k → ¬ x.S k) →
    (putHome e am cm F).Pairwise fun x y => ∀ k, x.S k → ¬ y.S k
  | [], h, _, _, _ => h.elim
  | x :: r, h, hd, hS, hN => by
    obtain ⟨h1, h2⟩ := List.pairwise_cons.1 hd
    by_cases hx : x.hm = true
    · simp only [putHome, if_pos hx, homeFr] at hS ⊢
      refine List.pairwise_cons.2 ⟨fun y hy k hk => ?_, h2⟩
      rcases hS k hk with h3 | h3
      · exact h1 y hy k h3
      · exact hN y (List.mem_cons_of_mem _ hy) k h3
    · simp only [putHome, if_neg hx, homeFr] at hS ⊢
      have hr := h.resolve_left hx
      refine List.pairwise_cons.2 ⟨fun y hy k hk hk2 => ?_, putHome_dis e am cm N hr h2 hS (fun y hy => hN y (List.mem_cons_of_mem _ hy))⟩
      rcases putHome_mem e am cm hr h2 hy with h3 | rfl
      · exact h1 y h3.1 k hk hk2
      · rcases hS k hk2 with h3 | h3
        · exact h1 _ (home_mem hr) k hk h3
        · exact hN x (by simp) k h3 hk

/-- All terms at work, and the row that holds them. -/
structure NSt (n0 B : Nat) (F : List FM) (v : Value) (wr : World) : Prop where
  row : wr.ownsRow B 89 6 v F.length (cellsF F)
  fr : ∀ x ∈ F, MR n0 B x wr
  dis : F.Pairwise fun x y => ∀ k, x.S k → ¬ y.S k
  vb : ∀ g, v.ownBlock = some g → ∀ x ∈ F, ¬ x.S g
  z : B ≤ wr.heap.size
  n : n0 ≤ B
namespace NSt
variable {n0 B : Nat} {F : List FM} {v : Value} {wr wr' : World}
theorem start (hz : B ≤ wr.heap.size) (hn : n0 ≤ B) : NSt n0 B [] (.slice none 0 0) wr := ⟨World.ownsRow_nil wr B _ 6, (fun x h => by simp at h), .nil, (fun g h => by cases h), hz, hn⟩
theorem on (h : NSt n0 B F v wr) (hb : Below wr.heap.size wr wr') : NSt n0 B F v wr' :=
  ⟨own_stay h.row (.of_below (S := fun k => k < wr.heap.size) hb (fun _ _ hk => hk)) (fun g hg => (h.row.lt g hg).2), fun x hx => (h.fr x hx).stay (.of_below (S := fun k => k < wr.heap.size) hb (fun _ _ hk => hk)) (fun _ hk => Nat.lt_of_lt_of_le hk (Nat.le_trans h.n h.z)) (fun k hk => ((h.fr x hx).lt k hk).2) (Nat.le_trans h.n h.z), h.dis, h.vb, Nat.le_trans h.z hb.size, h.n⟩
/-- The frames when the row's own block, and what is none of theirs, turns. -/
theorem frames (h : NSt n0 B F v wr) {S : Nat → Prop} (hs : Stay S wr wr') (hn : ∀ k, k < n0 → S k) (hx : ∀ x ∈ F, ∀ k, x.S k → S k) : ∀ x ∈ F, MR n0 B x wr' := fun x hx' => (h.fr x hx').stay hs hn (hx x hx') (Nat.le_trans h.n h.z)
theorem push {x : FM} {v' : Value} (h : NSt n0 B F v wr) (hL : x.L = []) (ham : x.am = none) (hcm : x.cm = 0) (hrd : RdK wr n0 x.al x.left) (hle : x.left.length ≤ x.cl) (hwf : isW x.t.f ∧ isW x.t.v)
    (hrow : wr'.ownsRow B 89 6 v' (F.length + 1) (cellsF (x :: F))) (hg : wr.grownBy wr' v.ownBlock) (hat : v'.ownBlock = v.ownBlock ∨ ∃ k, v'.ownBlock = some k ∧ wr.heap.size ≤ k) : NSt n0 B (x :: F) v' wr' := by
  have hst : Stay (fun k => v.ownBlock ≠ some k) wr wr' := .grown hg (fun k e h => h e)
  have hnv : ∀ k, k < n0 → v.ownBlock ≠ some k := fun k hk e => by have := (h.row.lt k e).1; have := h.n; omega
  have hxS : ∀ k, ¬ x.S k := fun k hk => by
    rcases hk with e | ⟨e, he, _⟩
    · rw [ham] at e; cases e
    · rw [hL] at he; simp at he
  refine ⟨hrow, fun y hy => ?_, List.pairwise_cons.2 ⟨fun y hy k hk => absurd hk (hxS k), h.dis⟩, fun g hg' y hy hk => ?_, Nat.le_trans h.z hst.size, h.n⟩
  · rcases List.mem_cons.1 hy with rfl | hy
    · exact ⟨hrd.on (hst.below (Nat.le_trans h.n h.z) hnv), hle, hwf, by rw [hL, ham, hcm]; exact World.ownsRow_nil wr' B _ 3, fun e he => by rw [hL] at he; simp at he, by rw [hL]; exact .nil, fun g hg' => by rw [ham] at hg'; cases hg'⟩
    · exact h.frames hst hnv (fun y hy k hk e => h.vb k e y hy hk) y hy
  · rcases List.mem_cons.1 hy with rfl | hy
    · exact hxS g hk
    · rcases hat with q | ⟨k, q, hk'⟩
      · exact h.vb g (q.symm.trans hg') y hy hk
      · have e : k = g := by rw [q] at hg'; simpa using hg'
        have := ((h.fr y hy).lt g hk).2
        omega
theorem pop {x : FM} {g c : Nat} (h : NSt n0 B (x :: F) (.slice (some ⟨g, 0, none⟩) (F.length + 1) c) wr) : NSt n0 B F (.slice (some ⟨g, 0, none⟩) F.length c) wr :=
  ⟨ownsRow_pop (cellsF_len F) h.row, fun y hy => h.fr y (List.mem_cons_of_mem _ hy), (List.pairwise_cons.1 h.dis).2, fun g' hg' y hy => h.vb g' hg' y (List.mem_cons_of_mem _ hy), h.z, h.n⟩
theorem take {x : FM} {g c : Nat} {ks : List TermD} {al : Option Addr} {cl : Nat} (h : NSt n0 B (x :: F) (.slice (some ⟨g, 0, none⟩) (F.length + 1) c) wr) (hrd : RdK wr n0 al ks) (hle : ks.length ≤ cl) :
    NSt n0 B ({ x with left := ks, al := al, cl := cl } :: F) (.slice (some ⟨g, 0, none⟩) (F.length + 1) c) (wr.setCell ⟨g, F.length * 6 + 3, none⟩ (.slice al ks.length cl)) := by
  have hl := cellsF_len F
  have hgB := h.row.lt g rfl
  have hst : Stay (fun k => k ≠ g) wr (wr.setCell ⟨g, F.length * 6 + 3, none⟩ (.slice al ks.length cl)) := .setCell _ _ (by simp)
  have hng : ∀ k, k < n0 → k ≠ g := fun k hk => by have := h.n; omega
  have hx0 := h.fr x (by simp)
  refine ⟨?_, fun y hy => ?_, ?_, fun g' hg' y hy => ?_, by simpa using h.z, h.n⟩
  · have h1 := (h.row.stored (F.length * 6 + 3) (.slice al ks.length cl)).1
    have e1 : (cellsF (x :: F)).set (F.length * 6 + 3) (.slice al ks.length cl) = cellsF ({ x with left := ks, al := al, cl := cl } :: F) := by
      simp only [cellsF, homeIx]
      rw [List.set_append_right _ _ (by omega)]
      simp [hl, FM.cells]
    rwa [e1] at h1
  · have hy' : ∀ z ∈ x :: F, MR n0 B z (wr.setCell ⟨g, F.length * 6 + 3, none⟩ (.slice al ks.length cl)) := h.frames hst hng (fun z hz k hk e => h.vb g rfl z hz (e ▸ hk))
    rcases List.mem_cons.1 hy with rfl | hy
    · have q := hy' x (by simp)
      exact ⟨hrd.on (hst.below (Nat.le_trans h.n h.z) hng), hle, q.wf, q.row, q.el, q.dis, q.ap⟩
    · exact hy' y (List.mem_cons_of_mem _ hy)
  · obtain ⟨h1, h2⟩ := List.pairwise_cons.1 h.dis
    exact List.pairwise_cons.2 ⟨h1, h2⟩
  · rcases List.mem_cons.1 hy with rfl | hy
    · exact h.vb g' hg' x (by simp)
    · exact h.vb g' hg' y (List.mem_cons_of_mem _ hy)
theorem put {g c g2 c2 : Nat} {e : FE} {w2 : World} (h : NSt n0 B F (.slice (some ⟨g, 0, none⟩) F.length c) wr) (hh : hasHome F) (he : OwnS wr e.K e.a e.t.kids ∧ e.t.kids.length ≤ e.c ∧ (isW e.t.f ∧ isW e.t.v) ∧ ∀ k, e.K k → B ≤ k ∧ k < wr.heap.size) (hd : ∀ x ∈ F, ∀ k, e.K k → ¬ x.S k) (hdg : ¬ e.K g)
    (hg : wr.grownBy w2 (Value.slice (homeFr F).am (homeFr F).L.length (homeFr F).cm).ownBlock) (hrow : w2.ownsRow B 34 3 (.slice (some ⟨g2, 0, none⟩) ((homeFr F).L.length + 1) c2) ((homeFr F).L.length + 1) (cs3 ((homeFr F).L.map FE.cells) ++ [.int .i64 e.t.f, .int .i64 e.t.v, .slice e.a e.t.kids.length e.c]))
    (hat : some g2 = (Value.slice (homeFr F).am (homeFr F).L.length (homeFr F).cm).ownBlock ∨ wr.heap.size ≤ g2) :
    NSt n0 B (putHome e (some ⟨g2, 0, none⟩) c2 F) (.slice (some ⟨g, 0, none⟩) F.length c) (w2.setCell ⟨g, homeIx F * 6 + 4, none⟩ (.slice (some ⟨g2, 0, none⟩) ((homeFr F).L.length + 1) c2)) := by
  have hm := home_mem hh
  have hgB := h.row.lt g rfl
  have hst : Stay (fun k => (Value.slice (homeFr F).am (homeFr F).L.length (homeFr F).cm).ownBlock ≠ some k) wr w2 := .grown hg (fun k e h => h e)
  have hst2 : Stay (fun k => k ≠ g) w2 (w2.setCell ⟨g, homeIx F * 6 + 4, none⟩ (.slice (some ⟨g2, 0, none⟩) ((homeFr F).L.length + 1) c2)) := .setCell _ _ (by simp)
  have hng : ∀ k, k < n0 → k ≠ g := fun k hk => by have := h.n; omega
  have hgh : (Value.slice (homeFr F).am (homeFr F).L.length (homeFr F).cm).ownBlock ≠ some g := fun e => h.vb g rfl _ hm (.inl e)
  obtain ⟨g3, c3, e3, hM⟩ := (h.fr _ hm).app h.z h.n he (hd _ hm) hg hrow (hat.imp id (fun h => ⟨g2, rfl, h⟩))
  obtain ⟨rfl, rfl⟩ : g2 = g3 ∧ c2 = c3 := by cases e3; exact ⟨rfl, rfl⟩
  have hg2g : g2 ≠ g := fun e => hat.elim (fun q => hgh (e ▸ q.symm)) (fun q => by omega)
  have hS : ∀ k, FM.S { homeFr F with L := (homeFr F).L ++ [e], am := some ⟨g2, 0, none⟩, cm := c2 } k → (homeFr F).S k ∨ (e.K k ∨ wr.heap.size ≤ k) := fun k hk => by
    rcases hk with q | ⟨d, hd', hk⟩
    · have : g2 = k := by simpa [Value.ownBlock] using q
      subst this
      exact hat.elim (fun q => .inl (.inl q.symm)) (fun q => .inr (.inr q))
    · rcases List.mem_append.1 hd' with h1 | h1
      · exact .inl (.inr ⟨d, h1, hk⟩)
      · obtain rfl : d = e := by simpa using h1
        exact .inr (.inl hk)
  have hN : ∀ x ∈ F, ∀ k, (e.K k ∨ wr.heap.size ≤ k) → ¬ x.S k := fun x hx k hk hk2 => hk.elim (fun q => hd x hx k q hk2) (fun q => by have := ((h.fr x hx).lt k hk2).2; omega)
  have hnew : ∀ k, FM.S { homeFr F with L := (homeFr F).L ++ [e], am := some ⟨g2, 0, none⟩, cm := c2 } k → k ≠ g := fun k hk e' => by
    subst e'
    rcases hS k hk with q | q | q
    · exact h.vb k rfl _ hm q
    · exact hdg q
    · omega
  refine ⟨?_, fun y hy => ?_, putHome_dis _ _ _ _ hh h.dis hS hN, fun g' hg' y hy hk => ?_, by simpa using Nat.le_trans h.z hst.size, h.n⟩
  · rw [putHome_len, putHome_cells e _ _ hh]
    exact ((own_stay h.row hst (fun g' hg' => by cases hg'; exact hgh)).stored (homeIx F * 6 + 4) _).1
  · rcases putHome_mem e _ _ hh h.dis hy with ⟨hy, hyd⟩ | rfl
    · exact ((h.fr y hy).stay hst (fun k hk e => by have := ((h.fr _ hm).row.lt k e).1; have := h.n; omega) (fun k hk e => hyd k hk (.inl e)) (Nat.le_trans h.n h.z)).stay hst2 hng (fun k hk e => h.vb g rfl y hy (e ▸ hk)) (Nat.le_trans (Nat.le_trans h.n h.z) hst.size)
    · exact hM.stay hst2 hng hnew (Nat.le_trans (Nat.le_trans h.n h.z) hst.size)
  · have e0 : g = g' := by simpa [Value.ownBlock] using hg'
    subst e0
    rcases putHome_mem e _ _ hh h.dis hy with ⟨hy, _⟩ | rfl
    · exact h.vb g rfl y hy hk
    · exact hnew g hk rfl
end NSt
end Go.Proofs.YtollijngiioonabGreat

