/- What the proof of FnOneForm stands on, part 1 of 11: each piece says what it proves and under which conditions. Conditions: as each piece says. -/
import Derived.WalkKit
import Derived.ProofKit
import Derived.OpenShut
import Derived.WalkSmall
import Derived.Deep.QuietTactic
import Derived.BigQuiet
import Derived.Lib.Builder
import Derived.Test.YtollijngiioonaaProg
import Derived.Below
import Derived.Deep.RegionHeld3
import Derived.RangeFuncNested
import Derived.RangeFuncCalls
import Derived.RangeFuncLeaves
/- The cursor from which the laws draw, and how memory stands behind a draw. Conditions: none. -/
namespace Go.Proofs.Ytollijngiioonaa
set_option maxRecDepth 100000
open Go.RowKit

def isInt (z : Int) : Prop := -9223372036854775808 ≤ z ∧ z ≤ 9223372036854775807
def intsD (zs : List Int) : List Value := zs.map (Value.int .i64)

/-- The slice of bytes that begins at 'a' reads in w as bs, and no cell of it lies in block c. -/
def RdB (w : World) (c : Nat) (a : Option Addr) (bs : List Int) : Prop :=
  (∀ z ∈ bs, 0 ≤ z ∧ z ≤ 255) ∧ (bs = [] ∨ ∃ b off, a = some ⟨b, off, none⟩ ∧ b < w.heap.size ∧ b ≠ c ∧ ∀ i, i < bs.length → w.cell? ⟨b, off + i, none⟩ = some (.int .u8 (bs[i]?.getD 0)))

/-- Block c is a cursor over the code bs. -/
def Cur (T : TypeId) (w : World) (c : Nat) (a : Option Addr) (bs : List Int) (cap : Nat) : Prop :=
  RdB w c a bs ∧ ∃ (i : Nat) (h : Int), i ≤ bs.length ∧ isInt h ∧ w.heap[c]? = some (.cells #[.slice a bs.length cap, .int .i64 i, .int .i64 h] T (0, 0))

theorem and_le (x : Int) (m : Nat) (hm : m < 4611686018427387904) : 0 ≤ bits .and .i64 x (m : Int) ∧ bits .and .i64 x (m : Int) ≤ (m : Int) := by
  have h2 : (BitVec.ofInt 64 (m : Int)).toNat = m := by
    rw [BitVec.ofInt_natCast, BitVec.toNat_ofNat]; exact Nat.mod_eq_of_lt (by omega)
  have h : bits .and .i64 x (m : Int) = IntKind.i64.wrap (((BitVec.ofInt 64 x).toNat &&& m : Nat) : Int) := by
    show IntKind.i64.wrap ((BitVec.ofInt 64 x &&& BitVec.ofInt 64 (m : Int)).toNat : Int) = _
    rw [BitVec.toNat_and, h2]
  have h3 : (BitVec.ofInt 64 x).toNat &&& m ≤ m := Nat.and_le_right
  rw [h, IntKind.wrap_i64]
  omega

theorem and_255 (x : Int) : 0 ≤ bits .and .i64 x 255 ∧ bits .and .i64 x 255 ≤ 255 := and_le x 255 (by omega)

theorem grown_refl (w : World) (row : Option Nat) : w.grownBy w row := ⟨rfl, rfl, rfl, Nat.le_refl _, fun _ _ _ => rfl⟩

theorem grown_then {a w w' : World} {row : Option Nat} (h : a.grownBy w row) (k : w.grownBy w' row) : a.grownBy w' row :=
  ⟨k.os.trans h.os, k.tape.trans h.tape, k.output.trans h.output, Nat.le_trans h.size k.size, fun i hi hr => (k.block i (Nat.lt_of_lt_of_le hi h.size) hr).trans (h.block i hi hr)⟩

theorem grown_draw {a w : World} {row : Option Nat} (h : a.grownBy w row) (n : Nat) : a.grownBy (w.drewN n) row := ⟨h.os, h.tape, h.output, h.size, h.block⟩

theorem grown_set (w : World) (c j : Nat) (v : Value) : w.grownBy (w.setCell ⟨c, j, none⟩ v) (some c) :=
  ⟨rfl, rfl, rfl, by simp [World.setCell], fun k _ hk => Below.heap_setCell w ⟨c, j, none⟩ v k (fun e => hk (by simp [e]))⟩

theorem RdB.grown {w w' : World} {c : Nat} {a : Option Addr} {bs : List Int} (h : RdB w c a bs) (hg : w.grownBy w' (some c)) : RdB w' c a bs := by
  refine ⟨h.1, ?_⟩
  rcases h.2 with h | ⟨b, off, rfl, hlt, hne, hc⟩
  · exact .inl h
  · refine .inr ⟨b, off, rfl, Nat.lt_of_lt_of_le hlt hg.size, hne, fun i hi => ?_⟩
    rw [← hc i hi]
    exact World.cell?_of_block (w := w) (hg.block b hlt (by simp [hne]))

theorem isInt_wrap (x : Int) : isInt (wrap64 x) := bounds_i64 (wrap64_wf x)

theorem Rd.grown {w w' : World} {c g o : Nat} {zs : List Int} (h : ∀ i, i < zs.length → w.cell? ⟨g, o + i, none⟩ = some (.int .i64 (zs[i]?.getD 0))) (hlt : g < w.heap.size) (hne : g ≠ c) (hg : w.grownBy w' (some c)) :
    ∀ i, i < zs.length → w'.cell? ⟨g, o + i, none⟩ = some (.int .i64 (zs[i]?.getD 0)) := by
  intro i hi
  rw [← h i hi]
  exact World.cell?_of_block (w := w) (hg.block g hlt (by simp [hne]))

theorem cell_pick {w : World} {g k : Nat} {zs : List Int} (hk : k < zs.length) (h : ∀ i, i < zs.length → w.cell? ⟨g, 0 + i, none⟩ = some (.int .i64 (zs[i]?.getD 0))) : w.cell? ⟨g, k, none⟩ = some (.int .i64 zs[k]) := by
  have := h k hk
  rw [show 0 + k = k by omega] at this
  rw [this]; simp [hk]

theorem RdB.below {w w' : World} {c : Nat} {a : Option Addr} {bs : List Int} (h : RdB w c a bs) (hg : Below w.heap.size w w') : RdB w' c a bs := by
  refine ⟨h.1, ?_⟩
  rcases h.2 with h | ⟨b, off, rfl, hlt, hne, hc⟩
  · exact .inl h
  · exact .inr ⟨b, off, rfl, Nat.lt_of_lt_of_le hlt hg.size, hne, fun i hi => (hg.cell (p := ⟨b, off + i, none⟩) hlt).trans (hc i hi)⟩

theorem cur_new {T : TypeId} {w : World} {a : Option Addr} {bs : List Int} {cap : Nat} {h : Int} (hr : RdB w w.heap.size a bs) (hh : isInt h) :
    Cur T (w.alloc (.cells #[.slice a bs.length cap, .int .i64 0, .int .i64 h] T)) w.heap.size a bs cap :=
  ⟨hr.below ((Below.refl _ _).alloc (Nat.le_refl _) _), 0, h, Nat.zero_le _, hh, heap_alloc_new w _⟩

theorem Cur.below {T : TypeId} {w w' : World} {c : Nat} {a : Option Addr} {bs : List Int} {cap : Nat} (h : Cur T w c a bs cap) (hb : Below w.heap.size w w') : Cur T w' c a bs cap := by
  obtain ⟨hr, i, x, hi, hx, hk⟩ := h
  have hlt : c < w.heap.size := by
    rcases Nat.lt_or_ge c w.heap.size with h' | h'
    · exact h'
    · simp [Array.getElem?_eq_none h'] at hk
  exact ⟨hr.below hb, i, x, hi, hx, by rw [hb.block c hlt]; exact hk⟩

theorem Cur.lt {T : TypeId} {w : World} {c : Nat} {a : Option Addr} {bs : List Int} {cap : Nat} (h : Cur T w c a bs cap) : c < w.heap.size := by
  obtain ⟨hr, i, x, hi, hx, hk⟩ := h
  rcases Nat.lt_or_ge c w.heap.size with h' | h'
  · exact h'
  · simp [Array.getElem?_eq_none h'] at hk
theorem lit_cells (w : World) (zs : List Int) : ∀ i, i < zs.length → (w.alloc (.cells (intsD zs).toArray 3)).cell? ⟨w.heap.size, 0 + i, none⟩ = some (.int .i64 (zs[i]?.getD 0)) := by
  intro i hi
  rw [World.cell?_alloc_at _ _ _ _ rfl]
  simp [intsD, hi]
theorem lit_strs (w : World) (ss : List ByteArray) : ∀ i, i < ss.length → (w.alloc (.cells (ss.map Value.string).toArray 9)).cell? ⟨w.heap.size, i, none⟩ = some (.string (ss[i]?.getD ByteArray.empty)) := by
  intro i hi
  rw [World.cell?_alloc_at _ _ _ _ rfl]
  simp [hi]
theorem grown_below {w w' : World} {B c : Nat} (hg : w.grownBy w' (some c)) (hB : B ≤ w.heap.size) (hc : B ≤ c) : Below B w w' :=
  (Below.refl B w).grown hg hB (fun k hk => by cases hk; exact hc)
theorem grown_alloc {a w : World} {row : Option Nat} (h : a.grownBy w row) (o : Obj) : a.grownBy (w.alloc o) row :=
  ⟨h.os, h.tape, h.output, Nat.le_trans h.size (by simp), fun i hi hr => (Below.heap_alloc w o i (Nat.lt_of_lt_of_le hi h.size)).trans (h.block i hi hr)⟩
theorem grown_own {a w w' : World} {c g : Nat} (h : a.grownBy w (some c)) (k : w.grownBy w' (some g)) (hg : a.heap.size ≤ g) : a.grownBy w' (some c) :=
  ⟨k.os.trans h.os, k.tape.trans h.tape, k.output.trans h.output, Nat.le_trans h.size k.size, fun i hi hr => (k.block i (Nat.lt_of_lt_of_le hi h.size) (by simp; omega)).trans (h.block i hi hr)⟩
theorem Rd_new {w : World} {a : Option Addr} {bs : List Int} (hr : ∀ c, w.heap.size ≤ c → RdB w c a bs) : bs = [] ∨ ∀ x, a = some x → x.block < w.heap.size := by
  rcases (hr _ (Nat.le_refl _)).2 with h | ⟨b, off, rfl, hlt, _⟩
  · exact .inl h
  · exact .inr fun x hx => by cases hx; exact hlt
theorem codeOn {w w' : World} {a : Option Addr} {bs : List Int} (hr : ∀ c, w.heap.size ≤ c → RdB w c a bs) (hb : Below w.heap.size w w') : ∀ c, w'.heap.size ≤ c → RdB w' c a bs :=
  fun c hc => (hr c (Nat.le_trans hb.size hc)).below hb
theorem Cur.grown {T : TypeId} {w w' : World} {c g : Nat} {a : Option Addr} {bs : List Int} {cap : Nat} {B : Nat} (h : Cur T w c a bs cap) (hg : w.grownBy w' (some g)) (hc : c < B) (hB : B ≤ g) (hbs : bs = [] ∨ ∀ x, a = some x → x.block < B) : Cur T w' c a bs cap := by
  have hlt := h.lt
  obtain ⟨hr, i, x, hi, hx, hk⟩ := h
  refine ⟨⟨hr.1, ?_⟩, i, x, hi, hx, by rw [hg.block c hlt (by simp; omega)]; exact hk⟩
  rcases hr.2 with h | ⟨b, off, rfl, hlt, hne, hcs⟩
  · exact .inl h
  · rcases hbs with rfl | hbs
    · exact .inl rfl
    have hb := hbs _ rfl
    simp at hb
    refine .inr ⟨b, off, rfl, Nat.lt_of_lt_of_le hlt hg.size, hne, fun j hj => ?_⟩
    rw [← hcs j hj]
    exact World.cell?_of_block (w := w) (hg.block b hlt (by simp; omega))
end Go.Proofs.Ytollijngiioonaa

/- Contracts of the functions by which the laws draw their inputs from a code. Conditions: the code has at most 1048576 bytes. -/
namespace Go.Proofs.Ytollijngiioonaa
set_option maxRecDepth 100000
open Go.RowKit

set_option maxHeartbeats 1600000 in
theorem byte_any (c : Nat) (a : Option Addr) (bs : List Int) (cap : Nat) (w : World) (hl : bs.length ≤ 1048576) (hc : Cur 95 w c a bs cap) :
    Calls Try.prog 69 #[.pointer (some ⟨c, 0, none⟩)] w fun e w' => ∃ x : Int, e = .returned (.int .i64 x) ∧ 0 ≤ x ∧ x ≤ 255 ∧ Cur 95 w' c a bs cap ∧ w.grownBy w' (some c) := by
  obtain ⟨hr, i, h, hi, ⟨hh1, hh2⟩, hk⟩ := hc
  have c0 : w.cell? ⟨c, 0, none⟩ = some (.slice a bs.length cap) := by rw [Lib.cell_of_heap hk]; rfl
  have c1 : w.cell? ⟨c, 1, none⟩ = some (.int .i64 i) := by rw [Lib.cell_of_heap hk]; rfl
  have c2 : w.cell? ⟨c, 2, none⟩ = some (.int .i64 h) := by rw [Lib.cell_of_heap hk]; rfl
  have f1 : w.frozen? ⟨c, 1, none⟩ = false := Lib.frozen_of_heap hk 1
  have f2 : w.frozen? ⟨c, 2, none⟩ = false := Lib.frozen_of_heap hk 2
  have HK : Hid (w.heap[c]? = some (.cells #[.slice a bs.length cap, .int .i64 i, .int .i64 h] 95 (0, 0))) := hk
  clear hk
  by_cases hi' : i < bs.length
  · obtain ⟨hz, hrr⟩ := hr
    rcases hrr with rfl | ⟨b, off, rfl, hlt, hne, hcs⟩
    · simp at hi'
    have hci : w.cell? ⟨b, off + i, none⟩ = some (.int .u8 bs[i]) := by rw [hcs i hi']; simp [hi']
    have hi2 : (i : Int) < (bs.length : Int) := by omega
    have hzi := hz bs[i] (List.getElem_mem hi')
    have hr : RdB w c (some ⟨b, off, none⟩) bs := ⟨hz, .inr ⟨b, off, rfl, hlt, hne, hcs⟩⟩
    obtain ⟨hz1, hz2⟩ := hzi
    clear hcs hz
    go_enter Try.func69, Try.ntmps69
    go_wp2
    go_quiet (fail)
    go_wp2
    go_quiet (fail)
    go_wp2
    go_quiet (fail)
    go_wp2
    go_ret
    have hx := and_255 (wrap64 (bits BinOp.and IntKind.i64 (bits BinOp.xor IntKind.i64 (wrap64 (wrap64 (h * 6364136223846793005) + 1442695040888963407) / 8589934592) (wrap64 (wrap64 (h * 6364136223846793005) + 1442695040888963407) / 35184372088832)) 255 + bs[i]))
    refine ⟨_, rfl, hx.1, hx.2, ?_, ?_⟩
    · refine ⟨hr.grown (grown_then (grown_draw (grown_set _ _ _ _) _) (grown_set _ _ _ _)), i + 1, _, by omega, isInt_wrap (wrap64 (h * 6364136223846793005) + 1442695040888963407), ?_⟩
      exact heap_setCell_same _ c 1 _ 95 _ (heap_setCell_same w c 2 _ 95 _ HK.out)
    · exact grown_then (grown_draw (grown_set _ _ _ _) _) (grown_set _ _ _ _)
  · have hi2 : ¬ (i : Int) < (bs.length : Int) := by omega
    go_enter Try.func69, Try.ntmps69
    go_wp2
    go_quiet (fail)
    go_wp2
    go_quiet (fail)
    go_wp2
    go_ret
    have hx := and_255 (bits BinOp.xor IntKind.i64 (wrap64 (wrap64 (h * 6364136223846793005) + 1442695040888963407) / 8589934592) (wrap64 (wrap64 (h * 6364136223846793005) + 1442695040888963407) / 35184372088832))
    refine ⟨_, rfl, hx.1, hx.2, ?_, ?_⟩
    · refine ⟨hr.grown (grown_draw (grown_draw (grown_set _ _ _ _) _) _), i, _, hi, isInt_wrap (wrap64 (h * 6364136223846793005) + 1442695040888963407), ?_⟩
      exact heap_setCell_same w c 2 _ 95 _ HK.out
    · exact grown_draw (grown_draw (grown_set _ _ _ _) _) _

set_option maxHeartbeats 800000 in
theorem below_any (c : Nat) (a : Option Addr) (bs : List Int) (cap : Nat) (n : Int) (w : World) (hl : bs.length ≤ 1048576) (hn0 : 0 < n) (hn1 : n ≤ 256) (hc : Cur 95 w c a bs cap) :
    Calls Try.prog 41 #[.pointer (some ⟨c, 0, none⟩), .int .i64 n] w fun e w' => ∃ k : Nat, e = .returned (.int .i64 k) ∧ (k : Int) < n ∧ Cur 95 w' c a bs cap ∧ w.grownBy w' (some c) := by
  have H := byte_any c a bs cap w hl hc
  have hne : (n == 0) = false := by simp; omega
  clear hc hl
  go_enter Try.func41, Try.ntmps41
  go_wp2_with (go_at_call 69; refine H.mono ?_; rintro e w1 ⟨x, rfl, hx0, hx1, hC, hg⟩; clear H)
  go_ret
  have h1 := Int.emod_nonneg x (show n ≠ 0 by omega)
  have h2 := Int.emod_lt_of_pos x hn0
  exact ⟨(x % n).toNat, by rw [Int.toNat_of_nonneg h1]; rfl, by omega, hC, hg⟩

set_option maxHeartbeats 800000 in
theorem pickInt_any (c : Nat) (a : Option Addr) (bs : List Int) (cap g lcap : Nat) (zs : List Int) (n : Nat) (w : World) (hl : bs.length ≤ 1048576) (hn : n = zs.length) (hn0 : 0 < zs.length) (hn1 : zs.length ≤ 256) (hc : Cur 95 w c a bs cap)
    (hlt : g < w.heap.size) (hne : g ≠ c) (hcs : ∀ i, i < zs.length → w.cell? ⟨g, 0 + i, none⟩ = some (.int .i64 (zs[i]?.getD 0))) :
    Calls Try.prog 42 #[.pointer (some ⟨c, 0, none⟩), .slice (some ⟨g, 0, none⟩) n lcap] w fun e w' => ∃ z : Int, e = .returned (.int .i64 z) ∧ z ∈ zs ∧ Cur 95 w' c a bs cap ∧ w.grownBy w' (some c) := by
  subst hn
  have H := below_any c a bs cap zs.length w hl (by omega) (by omega) hc
  have HC := fun w' => Rd.grown (w' := w') hcs hlt hne
  clear hc hl hcs
  go_enter Try.func42, Try.ntmps42
  go_wp2_with (go_at_call 41; refine H.mono ?_; rintro e w1 ⟨k, rfl, hx1, hC, hg⟩; clear H; have hk : k < zs.length := (by omega); have hck : w1.cell? ⟨g, k, none⟩ = some (.int .i64 zs[k]) := cell_pick hk (HC w1 hg); clear HC)
  go_ret
  exact ⟨zs[k], rfl, List.getElem_mem hk, hC, hg⟩

set_option maxHeartbeats 800000 in
theorem new_any (a : Option Addr) (bs : List Int) (n cap : Nat) (w : World) (hn : n = bs.length) (hl : bs.length ≤ 1048576) (hr : ∀ c, w.heap.size ≤ c → RdB w c a bs) :
    Calls Try.prog 32 #[.slice a n cap] w fun e w' => e = .returned (.pointer (some ⟨w.heap.size, 0, none⟩)) ∧ Cur 95 w' w.heap.size a bs cap ∧ Below w.heap.size w w' := by
  subst hn
  have hr0 := hr _ (Nat.le_refl _)
  obtain ⟨hz, hrr⟩ := hr0
  rcases hrr with rfl | ⟨b, off, rfl, hlt, hne, hcs⟩
  · go_enter Try.func32, Try.ntmps32
    go_wp2
    refine wp_loop_rounds 1 ?_
    rw [rounds_succ]
    go_wp2
    go_ret
    exact ⟨rfl, cur_new (h := 27064) (hr _ (Nat.le_refl _)) (by unfold isInt; omega), (Below.refl _ _).alloc (Nat.le_refl _) _⟩
  · go_enter Try.func32, Try.ntmps32
    go_wp2
    go_loop [3, 4] (fun t i => ∃ (k : Nat) (h : Int), k ≤ bs.length ∧ i = .int .i64 k ∧ t = .int .i64 h ∧ 0 ≤ h ∧ h ≤ 1073741823) (fun _ i => bs.length - (intOf i).toNat)
    case atStart => exact ⟨0, _, Nat.zero_le _, rfl, rfl, by omega, by omega⟩
    case round =>
      obtain ⟨k, h, hk, rfl, rfl, hh0, hh1⟩ := hrel
      by_cases hk' : k < bs.length
      · have hck : w.cell? ⟨b, off + k, none⟩ = some (.int .u8 bs[k]) := by rw [hcs k hk']; simp [hk']
        obtain ⟨hz1, hz2⟩ := hz bs[k] (List.getElem_mem hk')
        clear hcs hz
        by_cases h4 : k < 4000
        · have h4' : (k : Int) < 4000 := by omega
          go_wp2
          go_round
          case rel =>
            have hx := and_le (h * 131 + bs[k] + 7) 1073741823 (by omega)
            exact ⟨k + 1, _, by omega, by go_num, rfl, hx.1, hx.2⟩
          case measure => simp [intOf]; omega
        · have h4' : ¬ (k : Int) < 4000 := by omega
          go_wp2
          go_ret
          exact ⟨rfl, cur_new (hr _ (Nat.le_refl _)) (by unfold isInt; omega), (Below.refl _ _).alloc (Nat.le_refl _) _⟩
      · go_wp2
        go_ret
        exact ⟨rfl, cur_new (hr _ (Nat.le_refl _)) (by unfold isInt; omega), (Below.refl _ _).alloc (Nat.le_refl _) _⟩
end Go.Proofs.Ytollijngiioonaa

/- Terms as data: how they lie in memory, and what is told of them. Conditions: none. -/
namespace Go.Proofs.Ytollijngiioonaa
set_option maxRecDepth 100000
open Go.RowKit

theorem rtI {a b : Int} (h : a = b) : Ending.returned (.int .i64 a) = .returned (.int .i64 b) := by rw [h]
theorem rtB {a b : Bool} (h : a = b) : Ending.returned (.bool a) = .returned (.bool b) := by rw [h]

/-- A term as data. -/
inductive TermD where
  | mk (f v : Int) (kids : List TermD)

namespace TermD
def f : TermD → Int | mk f _ _ => f
def v : TermD → Int | mk _ v _ => v
def kids : TermD → List TermD | mk _ _ k => k
end TermD

instance : Inhabited TermD := ⟨.mk 0 0 []⟩

mutual
/-- How many terms are within it, itself too. -/
def partsT : TermD → Nat
  | .mk _ _ ks => partsL ks + 1
def partsL : List TermD → Nat
  | [] => 0
  | t :: ts => partsT t + partsL ts
end

theorem partsT_eq (t : TermD) : partsT t = partsL t.kids + 1 := by cases t; simp [partsT, TermD.kids]

theorem partsL_append (a b : List TermD) : partsL (a ++ b) = partsL a + partsL b := by
  induction a with
  | nil => simp [partsL]
  | cons t ts ih => simp only [List.cons_append, partsL, ih]; omega

theorem partsL_get {ts : List TermD} {i : Nat} (h : i < ts.length) : partsT ts[i] ≤ partsL ts := by
  induction ts generalizing i with
  | nil => simp at h
  | cons t ts ih =>
    cases i with
    | zero => simp only [List.getElem_cons_zero, partsL]; omega
    | succ i =>
      simp only [List.getElem_cons_succ, partsL]
      have := ih (i := i) (by simpa using h)
      omega

theorem partsL_next {ts : List TermD} {k : Nat} (h : k < ts.length) : partsL (ts.take (k + 1)) = partsL (ts.take k) + partsT ts[k] := by
  rw [List.take_succ_eq_append_getElem h, partsL_append]
  simp [partsL]

theorem partsL_take (ts : List TermD) (k : Nat) : partsL (ts.take k) ≤ partsL ts := by
  have : partsL ts = partsL (ts.take k) + partsL (ts.drop k) := by rw [← partsL_append, List.take_append_drop]
  omega

theorem partsL_len (ts : List TermD) : ts.length ≤ partsL ts := by
  induction ts with
  | nil => simp
  | cons t ts ih => simp only [List.length_cons, partsL, partsT_eq]; omega

def isW (z : Int) : Prop := -9223372036854775808 ≤ z ∧ z ≤ 9223372036854775807

theorem partsL_rest (ts : List TermD) (k : Nat) : partsL (ts.take k) + (ts.length - k) ≤ partsL ts := by
  have h : partsL ts = partsL (ts.take k) + partsL (ts.drop k) := by rw [← partsL_append, List.take_append_drop]
  have h2 := partsL_len (ts.drop k)
  rw [List.length_drop] at h2
  omega

/-- What is left of m when the parts are counted off. -/
def szR (ts : List TermD) (m : Int) : Int := if (partsL ts : Int) ≤ m then m - partsL ts else -1

/-- A cell that was there is as it was behind whatever only lays new blocks. -/
theorem keepC {w w' : World} (h : Below w.heap.size w w') {p : Addr} {v : Value} (hc : w.cell? p = some v) : w'.cell? p = some v := (h.cell (World.block_lt_of_cell? w p hc)).trans hc

/-- The slice of terms that begins at 'a' reads in w as ts, all of its blocks below hi. -/
inductive RdK (w : World) (hi : Nat) : Option Addr → List TermD → Prop
  | nil (a : Option Addr) : RdK w hi a []
  | row (b off : Nat) (ts : List TermD) (A : Nat → Option Addr) (C : Nat → Nat) (hlt : b < hi) (hl : ts.length ≤ 9223372036854775807 ∧ ∀ i, (h : i < ts.length) → ts[i].kids.length ≤ C i) (hz : ∀ i, (h : i < ts.length) → isW ts[i].f ∧ isW ts[i].v)
      (hc : ∀ i, (h : i < ts.length) → w.cell? ⟨b, off + i * 3, none⟩ = some (.int .i64 ts[i].f) ∧ w.cell? ⟨b, off + i * 3 + 1, none⟩ = some (.int .i64 ts[i].v) ∧ w.cell? ⟨b, off + i * 3 + 2, none⟩ = some (.slice (A i) ts[i].kids.length (C i)))
      (hk : ∀ i, (h : i < ts.length) → RdK w hi (A i) ts[i].kids) : RdK w hi (some ⟨b, off, none⟩) ts

theorem RdK.on {w w' : World} {hi : Nat} {a : Option Addr} {ts : List TermD} (h : RdK w hi a ts) (hb : Below hi w w') : RdK w' hi a ts := by
  induction h with
  | nil a => exact .nil a
  | row b off ts A C hlt hl hz hc hk ih =>
    refine .row b off ts A C hlt hl hz (fun i h => ?_) ih
    obtain ⟨h0, h1, h2⟩ := hc i h
    exact ⟨(hb.cell (p := ⟨b, off + i * 3, none⟩) hlt).trans h0, (hb.cell (p := ⟨b, off + i * 3 + 1, none⟩) hlt).trans h1, (hb.cell (p := ⟨b, off + i * 3 + 2, none⟩) hlt).trans h2⟩

theorem RdK.mono {w : World} {hi hi' : Nat} {a : Option Addr} {ts : List TermD} (h : RdK w hi a ts) (hh : hi ≤ hi') : RdK w hi' a ts := by
  induction h with
  | nil a => exact .nil a
  | row b off ts A C hlt hl hz hc hk ih => exact .row b off ts A C (Nat.lt_of_lt_of_le hlt hh) hl hz hc ih

theorem RdK.len {w : World} {hi : Nat} {a : Option Addr} {ts : List TermD} (h : RdK w hi a ts) : ts.length ≤ 9223372036854775807 := by
  cases h with
  | nil a => simp
  | row b off ts A C hlt hl hz hc hk => exact hl.1

theorem RdK.ints {w : World} {hi : Nat} {a : Option Addr} {ts : List TermD} (h : RdK w hi a ts) {i : Nat} (hi' : i < ts.length) : isW ts[i].f ∧ isW ts[i].v := by
  cases h with
  | nil a => simp at hi'
  | row b off ts A C hlt hl hz hc hk => exact hz i hi'

/-- What stands at kid i. -/
theorem RdK.kid {w : World} {hi : Nat} {a : Option Addr} {ts : List TermD} (h : RdK w hi a ts) {i : Nat} (hi' : i < ts.length) :
    ∃ b off a' c', a = some ⟨b, off, none⟩ ∧ b < hi ∧ w.cell? ⟨b, off + i * 3, none⟩ = some (.int .i64 ts[i].f) ∧ w.cell? ⟨b, off + i * 3 + 1, none⟩ = some (.int .i64 ts[i].v) ∧ w.cell? ⟨b, off + i * 3 + 2, none⟩ = some (.slice a' ts[i].kids.length c') ∧ RdK w hi a' ts[i].kids := by
  cases h with
  | nil a => simp at hi'
  | row b off ts A C hlt hl hz hc hk =>
    obtain ⟨h0, h1, h2⟩ := hc i hi'
    exact ⟨b, off, _, _, rfl, hlt, h0, h1, h2, hk i hi'⟩

/-- What stands at kid i, with what its slice's room is. -/
theorem RdK.kidc {w : World} {hi : Nat} {a : Option Addr} {ts : List TermD} (h : RdK w hi a ts) {i : Nat} (hi' : i < ts.length) :
    ∃ b off a' c', a = some ⟨b, off, none⟩ ∧ b < hi ∧ w.cell? ⟨b, off + i * 3, none⟩ = some (.int .i64 ts[i].f) ∧ w.cell? ⟨b, off + i * 3 + 1, none⟩ = some (.int .i64 ts[i].v) ∧ w.cell? ⟨b, off + i * 3 + 2, none⟩ = some (.slice a' ts[i].kids.length c') ∧ ts[i].kids.length ≤ c' ∧ RdK w hi a' ts[i].kids := by
  cases h with
  | nil a => simp at hi'
  | row b off ts A C hlt hl hz hc hk =>
    obtain ⟨h0, h1, h2⟩ := hc i hi'
    exact ⟨b, off, _, _, rfl, hlt, h0, h1, h2, hl.2 i hi', hk i hi'⟩

/-- A term as a value. -/
def termV (t : TermD) (a : Option Addr) (c : Nat) : Value := .agg #[.int .i64 t.f, .int .i64 t.v, .slice a t.kids.length c]

mutual
/-- Whether two terms are the same. -/
def sameT : TermD → TermD → Bool
  | .mk f v ks, .mk f' v' ks' => f == f' && v == v' && ks.length == ks'.length && sameL ks ks'
def sameL : List TermD → List TermD → Bool
  | t :: ts, u :: us => sameT t u && sameL ts us
  | _, _ => true
end

theorem sameT_eq (t u : TermD) : sameT t u = (t.f == u.f && t.v == u.v && t.kids.length == u.kids.length && sameL t.kids u.kids) := by
  cases t; cases u; simp [sameT, TermD.f, TermD.v, TermD.kids]

theorem sameL_hit : ∀ {ts us : List TermD} {k : Nat} (h : k < ts.length) (h' : k < us.length), sameT ts[k] us[k] = false → sameL ts us = false
  | t :: ts, u :: us, 0, _, _, e => by simp only [List.getElem_cons_zero] at e; simp [sameL, e]
  | t :: ts, u :: us, k + 1, h, h', e => by
    simp only [List.getElem_cons_succ] at e
    have := sameL_hit (ts := ts) (us := us) (k := k) (by simpa using h) (by simpa using h') e
    simp [sameL, this]
  | [], _, _, h, _, _ => by simp at h
  | _ :: _, [], _, _, h', _ => by simp at h'

theorem sameL_all : ∀ {ts us : List TermD}, ts.length = us.length → (∀ k, (h : k < ts.length) → (h' : k < us.length) → sameT ts[k] us[k] = true) → sameL ts us = true
  | [], us, _, _ => by simp [sameL]
  | t :: ts, [], h, _ => by simp at h
  | t :: ts, u :: us, h, hall => by
    have h0 := hall 0 (by simp) (by simp)
    have h1 := sameL_all (ts := ts) (us := us) (by simpa using h) (fun k hk hk' => by have := hall (k + 1) (by simpa using hk) (by simpa using hk'); simpa using this)
    simp only [List.getElem_cons_zero] at h0
    simp [sameL, h0, h1]

mutual
/-- Whether a term is before another one. -/
def befT : TermD → TermD → Bool
  | .mk f v ks, .mk f' v' ks' => if f ≠ f' then decide (f < f') else if v ≠ v' then decide (v < v') else if ks.length ≠ ks'.length then decide (ks.length < ks'.length) else befL ks ks'
def befL : List TermD → List TermD → Bool
  | t :: ts, u :: us => if sameT t u then befL ts us else befT t u
  | _, _ => false
end

theorem befT_eq (t u : TermD) : befT t u = if t.f ≠ u.f then decide (t.f < u.f) else if t.v ≠ u.v then decide (t.v < u.v) else if t.kids.length ≠ u.kids.length then decide (t.kids.length < u.kids.length) else befL t.kids u.kids := by
  cases t; cases u; rw [befT]; rfl

theorem befL_hit : ∀ {ts us : List TermD} {k : Nat} (h : k < ts.length) (h' : k < us.length), (∀ j, (hj : j < k) → sameT (ts[j]'(by omega)) (us[j]'(by omega)) = true) → sameT ts[k] us[k] = false → befL ts us = befT ts[k] us[k]
  | t :: ts, u :: us, 0, _, _, _, e => by simp only [List.getElem_cons_zero] at e; simp [befL, e]
  | t :: ts, u :: us, k + 1, h, h', h0, e => by
    have e0 := h0 0 (by omega)
    simp only [List.getElem_cons_zero] at e0
    simp only [List.getElem_cons_succ] at e
    have := befL_hit (ts := ts) (us := us) (k := k) (by simpa using h) (by simpa using h') (fun j hj => by have := h0 (j + 1) (by omega); simpa using this) e
    simp [befL, e0, this]
  | [], _, _, h, _, _, _ => by simp at h
  | _ :: _, [], _, _, h', _, _ => by simp at h'

theorem befL_all : ∀ {ts us : List TermD}, (∀ k, (h : k < ts.length) → (h' : k < us.length) → sameT ts[k] us[k] = true) → befL ts us = false
  | [], us, _ => by simp [befL]
  | t :: ts, [], _ => by simp [befL]
  | t :: ts, u :: us, hall => by
    have h0 := hall 0 (by simp) (by simp)
    have h1 := befL_all (ts := ts) (us := us) (fun k hk hk' => by have := hall (k + 1) (by simpa using hk) (by simpa using hk'); simpa using this)
    simp only [List.getElem_cons_zero] at h0
    simp [befL, h0, h1]

mutual
/-- How often variable v stands in a term. -/
def cntT (v : Int) : TermD → Nat
  | .mk f u ks => (if f = -1 ∧ u = v then 1 else 0) + cntL v ks
def cntL (v : Int) : List TermD → Nat
  | [] => 0
  | t :: ts => cntT v t + cntL v ts
end

theorem cntT_eq (v : Int) (t : TermD) : cntT v t = (if t.f = -1 ∧ t.v = v then 1 else 0) + cntL v t.kids := by cases t; rw [cntT]; rfl
theorem cntL_append (v : Int) (a b : List TermD) : cntL v (a ++ b) = cntL v a + cntL v b := by
  induction a with
  | nil => simp [cntL]
  | cons t ts ih => simp only [List.cons_append, cntL, ih]; omega
theorem cntL_next (v : Int) {ts : List TermD} {k : Nat} (h : k < ts.length) : cntL v (ts.take (k + 1)) = cntL v (ts.take k) + cntT v ts[k] := by
  rw [List.take_succ_eq_append_getElem h, cntL_append]
  simp [cntL]
mutual
theorem cntT_le (v : Int) : ∀ t : TermD, cntT v t ≤ partsT t
  | .mk f u ks => by
    have := cntL_le v ks
    simp only [cntT, partsT]
    split <;> omega
theorem cntL_le (v : Int) : ∀ ts : List TermD, cntL v ts ≤ partsL ts
  | [] => by simp [cntL]
  | t :: ts => by
    have h1 := cntT_le v t
    have h2 := cntL_le v ts
    simp only [cntL, partsL]; omega
end
end Go.Proofs.Ytollijngiioonaa

/- Contracts of the specification's functions on terms: how many parts, how often a variable, whether two are the same, which is before. Conditions: terms of at most 549755813888 parts. -/
namespace Go.Proofs.Ytollijngiioonaa
set_option maxRecDepth 100000
open Go.RowKit


set_option maxHeartbeats 1600000 in
theorem specParts_any (N : Nat) : ∀ (t : TermD) (a : Option Addr) (c hi : Nat) (w : World), partsT t ≤ N → N ≤ 549755813888 → RdK w hi a t.kids → hi ≤ w.heap.size →
    Calls Try.prog 75 #[.agg #[.int .i64 t.f, .int .i64 t.v, .slice a t.kids.length c]] w fun e w' => e = .returned (.int .i64 (partsT t)) ∧ Below w.heap.size w w' := by
  induction N with
  | zero => intro t a c hi w h; rw [partsT_eq] at h; omega
  | succ N ih =>
    intro t a c hi w hN hM hr hhi
    rw [partsT_eq] at hN ⊢
    have hlen := partsL_len t.kids
    generalize t.kids = ks at *
    have HR : Hid (RdK w hi a ks) := hr
    clear hr
    have hb0 : Below w.heap.size w (w.alloc (.cells #[.int .i64 t.f, .int .i64 t.v, .slice a ks.length c] 27)) := (Below.refl w.heap.size w).alloc (Nat.le_refl _) _
    go_enter Try.func75, Try.ntmps75
    go_wp2_with fail
    go_loopw [3, 4] (fun n i wr => ∃ k : Nat, k ≤ ks.length ∧ i = .int .i64 k ∧ n = .int .i64 ((partsL (ks.take k) + 1 : Nat) : Int) ∧ wr.cell? ⟨w.heap.size, 2, none⟩ = some (.slice a ks.length c) ∧ Below w.heap.size w wr ∧ w.heap.size < wr.heap.size) (fun _ i _ => ks.length - (intOf i).toNat)
    case atStart => exact ⟨0, Nat.zero_le _, rfl, by simp [partsL], by simp [go_sem], hb0, by simp⟩
    case round =>
      obtain ⟨k, hk, rfl, rfl, hct, hbr, hwl⟩ := hrel
      have hpk := partsL_take ks k
      clear hb0
      by_cases hk' : k < ks.length
      · obtain ⟨b, off, a', c', rfl, hlt, d0, d1, d2, hkr⟩ := RdK.kid (HR.out.on (hbr.mono hhi)) hk'
        have hpg := partsL_get hk'
        have hki : (k : Int) < (ks.length : Int) := by omega
        have HP : Hid (partsL (ks.take (k + 1)) = partsL (ks.take k) + partsT ks[k]) := partsL_next hk'
        have I := ih ks[k] a' c' hi wr (by omega) (by omega) hkr (Nat.le_trans hhi hbr.size)
        clear hkr
        go_wp2_with (go_at_call 75; refine I.mono ?_; rintro e w1 ⟨rfl, hb1⟩; clear I; have hct1 := (hb1.cell (p := ⟨w.heap.size, 2, none⟩) hwl).trans hct; have hbb := hbr.trans (hb1.mono hbr.size); have hwl1 : w.heap.size < w1.heap.size := (Nat.lt_of_lt_of_le hwl hb1.size); clear hbr hb1)
        go_roundw
        case rel => exact ⟨k + 1, by omega, by go_num, by rw [HP.out]; go_num, hct1, hbb, hwl1⟩
        case measure => simp [intOf]; omega
      · have E : Hid (k = ks.length) := (by omega : k = ks.length)
        go_wp2_with fail
        go_ret
        refine ⟨rtI ?_, hbr⟩
        rw [E.out, List.take_length]

set_option maxHeartbeats 1600000 in
theorem specSame_any (N : Nat) : ∀ (t u : TermD) (a a' : Option Addr) (c c' hi : Nat) (w : World), partsT t ≤ N → N ≤ 549755813888 → RdK w hi a t.kids → RdK w hi a' u.kids → hi ≤ w.heap.size →
    Calls Try.prog 72 #[.agg #[.int .i64 t.f, .int .i64 t.v, .slice a t.kids.length c], .agg #[.int .i64 u.f, .int .i64 u.v, .slice a' u.kids.length c']] w fun e w' => e = .returned (.bool (sameT t u)) ∧ Below w.heap.size w w' := by
  induction N with
  | zero => intro t u a a' c c' hi w h; rw [partsT_eq] at h; omega
  | succ N ih =>
    intro t u a a' c c' hi w hN hM hr hr' hhi
    rw [partsT_eq] at hN
    have HS : Hid (sameT t u = (t.f == u.f && t.v == u.v && t.kids.length == u.kids.length && sameL t.kids u.kids)) := sameT_eq t u
    have hlen := partsL_len t.kids
    generalize t.kids = ks at *
    generalize u.kids = us at *
    have hB : ∀ o1 o2, Below w.heap.size w ((w.alloc o1).alloc o2) := fun o1 o2 => ((Below.refl _ _).alloc (Nat.le_refl _) o1).alloc (by simp) o2
    by_cases hf : t.f = u.f ∧ t.v = u.v ∧ ks.length = us.length
    · obtain ⟨h1, h2, h3⟩ := hf
      have HS2 : Hid (sameT t u = sameL ks us) := by show _ = _; rw [HS.out, h1, h2, h3]; simp
      have HR : Hid (RdK w hi a ks) := hr
      have HR' : Hid (RdK w hi a' us) := hr'
      have q1 : (t.f != u.f) = false := by simp [h1]
      have q2 : (t.v != u.v) = false := by simp [h2]
      have q3 : ((ks.length : Int) != (us.length : Int)) = false := by simp [h3]
      have H3 : Hid (ks.length = us.length) := h3
      clear hr hr' HS h1 h2 h3
      go_enter Try.func72, Try.ntmps72
      go_wp2_with fail
      go_loopw [5] (fun i wr => ∃ k : Nat, k ≤ ks.length ∧ i = .int .i64 k ∧ wr.cell? ⟨w.heap.size, 2, none⟩ = some (.slice a ks.length c) ∧ wr.cell? ⟨w.heap.size + 1, 2, none⟩ = some (.slice a' us.length c') ∧ Below w.heap.size w wr ∧ w.heap.size + 1 < wr.heap.size ∧ Hid (∀ j, (h : j < ks.length) → (h' : j < us.length) → j < k → sameT ks[j] us[j] = true)) (fun i _ => ks.length - (intOf i).toNat)
      case atStart => exact ⟨0, Nat.zero_le _, rfl, by simp [go_sem], by simp [go_sem], hB _ _, by simp, fun j _ _ h => absurd h (by omega)⟩
      case round =>
        obtain ⟨k, hk, rfl, hct, hcu, hbr, hwl, HA⟩ := hrel
        clear hB
        by_cases hk' : k < ks.length
        · have hku : k < us.length := by have := H3.out; omega
          obtain ⟨b, off, e1, c1, rfl, hlt, d0, d1, d2, hkr⟩ := RdK.kid (HR.out.on (hbr.mono hhi)) hk'
          obtain ⟨b', off', e2, c2, rfl, hlt', g0, g1, g2, hkr'⟩ := RdK.kid (HR'.out.on (hbr.mono hhi)) hku
          have hpg := partsL_get hk'
          have hki : (k : Int) < (ks.length : Int) := by omega
          have hkj : (k : Int) < (us.length : Int) := by omega
          have hwr := Nat.le_trans hhi hbr.size
          have I := fun (w' : World) (h : Below wr.heap.size wr w') => ih ks[k] us[k] e1 e2 c1 c2 hi w' (by omega) (by omega) (hkr.on (h.mono hwr)) (hkr'.on (h.mono hwr)) (Nat.le_trans hwr h.size)
          clear HR HR' hkr hkr'
          cases hsm : sameT ks[k] us[k] with
          | true =>
            rw [hsm] at I
            have HA' : Hid (∀ j, (h : j < ks.length) → (h' : j < us.length) → j < k + 1 → sameT ks[j] us[j] = true) := fun j h h' hj => by
              by_cases e : j = k
              · subst e; exact hsm
              · exact HA.out j h h' (by omega)
            clear HA hsm
            go_wp2_with fail
            go_region_held3 (fun w' => w'.cell? ⟨w.heap.size, 2, none⟩ = some (.slice (some ⟨b, off, none⟩) ks.length c) ∧ w'.cell? ⟨w.heap.size + 1, 2, none⟩ = some (.slice (some ⟨b', off', none⟩) us.length c') ∧ w'.cell? ⟨b, off + k * 3, none⟩ = some (.int .i64 ks[k].f) ∧ w'.cell? ⟨b, off + k * 3 + 1, none⟩ = some (.int .i64 ks[k].v) ∧ w'.cell? ⟨b, off + k * 3 + 2, none⟩ = some (.slice e1 ks[k].kids.length c1) ∧ w'.cell? ⟨b', off' + k * 3, none⟩ = some (.int .i64 us[k].f) ∧ w'.cell? ⟨b', off' + k * 3 + 1, none⟩ = some (.int .i64 us[k].v) ∧ w'.cell? ⟨b', off' + k * 3 + 2, none⟩ = some (.slice e2 us[k].kids.length c2)) (first | go_keep | exact ⟨keepC hbb hct, keepC hbb hcu, keepC hbb d0, keepC hbb d1, keepC hbb d2, keepC hbb g0, keepC hbb g1, keepC hbb g2⟩)
              (first | (go_at_call 72; refine (I _ ?_).mono ?_; exact (Below.refl _ _).drew; rintro e w1 ⟨rfl, hb1⟩; have hbb : Below wr.heap.size wr w1 := (Below.refl _ _).drew.trans hb1; clear hb1))
            go_wp2_with fail
            go_roundw
            case rel => exact ⟨k + 1, by omega, by go_num, keepC hbb hct, keepC hbb hcu, hbr.trans (hbb.mono hbr.size), Nat.lt_of_lt_of_le hwl hbb.size, HA'⟩
            case measure => simp [intOf]; omega
          | false =>
            rw [hsm] at I
            have HF : Hid (sameT t u = false) := by show _ = _; rw [HS2.out]; exact sameL_hit hk' hku hsm
            clear HA hsm
            go_wp2_with fail
            go_region_held3 (fun w' => w'.cell? ⟨w.heap.size, 2, none⟩ = some (.slice (some ⟨b, off, none⟩) ks.length c) ∧ w'.cell? ⟨w.heap.size + 1, 2, none⟩ = some (.slice (some ⟨b', off', none⟩) us.length c') ∧ w'.cell? ⟨b, off + k * 3, none⟩ = some (.int .i64 ks[k].f) ∧ w'.cell? ⟨b, off + k * 3 + 1, none⟩ = some (.int .i64 ks[k].v) ∧ w'.cell? ⟨b, off + k * 3 + 2, none⟩ = some (.slice e1 ks[k].kids.length c1) ∧ w'.cell? ⟨b', off' + k * 3, none⟩ = some (.int .i64 us[k].f) ∧ w'.cell? ⟨b', off' + k * 3 + 1, none⟩ = some (.int .i64 us[k].v) ∧ w'.cell? ⟨b', off' + k * 3 + 2, none⟩ = some (.slice e2 us[k].kids.length c2)) (first | go_keep | exact ⟨keepC hbb hct, keepC hbb hcu, keepC hbb d0, keepC hbb d1, keepC hbb d2, keepC hbb g0, keepC hbb g1, keepC hbb g2⟩)
              (first | (go_at_call 72; refine (I _ ?_).mono ?_; exact (Below.refl _ _).drew; rintro e w1 ⟨rfl, hb1⟩; have hbb : Below wr.heap.size wr w1 := (Below.refl _ _).drew.trans hb1; clear hb1))
            go_wp2_with fail
            go_ret
            exact ⟨rtB HF.out.symm, hbr.trans (hbb.mono hbr.size)⟩
        · have HT : Hid (sameT t u = true) := by show _ = _; rw [HS2.out]; exact sameL_all H3.out (fun j h h' => HA.out j h h' (by omega))
          go_wp2_with fail
          go_ret
          exact ⟨rtB HT.out.symm, hbr⟩
    · have HF : Hid (sameT t u = false) := by
        show _ = _
        rw [HS.out]
        by_cases h1 : t.f = u.f <;> by_cases h2 : t.v = u.v <;> by_cases h3 : ks.length = us.length <;> simp [h1, h2, h3] <;> exact absurd ⟨h1, h2, h3⟩ hf
      have hq : (t.f != u.f) = true ∨ ((t.f != u.f) = false ∧ (t.v != u.v) = true) ∨ ((t.f != u.f) = false ∧ (t.v != u.v) = false ∧ ((ks.length : Int) != (us.length : Int)) = true) := by
        by_cases h1 : t.f = u.f <;> by_cases h2 : t.v = u.v <;> simp [h1, h2]
        intro h3
        exact hf ⟨h1, h2, by omega⟩
      clear hr hr' HS hf
      rcases hq with q1 | ⟨q1, q2⟩ | ⟨q1, q2, q3⟩
      all_goals
        go_enter Try.func72, Try.ntmps72
        go_wp2_with fail
        go_ret
        exact ⟨rtB HF.out.symm, hB _ _⟩
end Go.Proofs.Ytollijngiioonaa

/- Contract of the specification's Before. Conditions: terms of at most 549755813888 parts. -/
namespace Go.Proofs.Ytollijngiioonaa
set_option maxRecDepth 100000
open Go.RowKit

set_option maxHeartbeats 1600000 in
theorem specBefore_any (N : Nat) : ∀ (t u : TermD) (a a' : Option Addr) (c c' hi : Nat) (w : World), partsT t ≤ N → N ≤ 549755813888 → RdK w hi a t.kids → RdK w hi a' u.kids → hi ≤ w.heap.size →
    Calls Try.prog 53 #[.agg #[.int .i64 t.f, .int .i64 t.v, .slice a t.kids.length c], .agg #[.int .i64 u.f, .int .i64 u.v, .slice a' u.kids.length c']] w fun e w' => e = .returned (.bool (befT t u)) ∧ Below w.heap.size w w' := by
  induction N with
  | zero => intro t u a a' c c' hi w h; rw [partsT_eq] at h; omega
  | succ N ih =>
    intro t u a a' c c' hi w hN hM hr hr' hhi
    rw [partsT_eq] at hN
    have HS : Hid (befT t u = if t.f ≠ u.f then decide (t.f < u.f) else if t.v ≠ u.v then decide (t.v < u.v) else if t.kids.length ≠ u.kids.length then decide (t.kids.length < u.kids.length) else befL t.kids u.kids) := befT_eq t u
    have hlen := partsL_len t.kids
    generalize t.kids = ks at *
    generalize u.kids = us at *
    have hB : ∀ o1 o2, Below w.heap.size w ((w.alloc o1).alloc o2) := fun o1 o2 => ((Below.refl _ _).alloc (Nat.le_refl _) o1).alloc (by simp) o2
    by_cases hf : t.f = u.f ∧ t.v = u.v ∧ ks.length = us.length
    · obtain ⟨h1, h2, h3⟩ := hf
      have HS2 : Hid (befT t u = befL ks us) := by show _ = _; rw [HS.out]; simp [h1, h2, h3]
      have HR : Hid (RdK w hi a ks) := hr
      have HR' : Hid (RdK w hi a' us) := hr'
      have q1 : (t.f != u.f) = false := by simp [h1]
      have q2 : (t.v != u.v) = false := by simp [h2]
      have q3 : ((ks.length : Int) != (us.length : Int)) = false := by simp [h3]
      have H3 : Hid (ks.length = us.length) := h3
      clear hr hr' HS h1 h2 h3
      go_enter Try.func53, Try.ntmps53
      go_wp2_with fail
      go_loopw [5] (fun i wr => ∃ k : Nat, k ≤ ks.length ∧ i = .int .i64 k ∧ wr.cell? ⟨w.heap.size, 2, none⟩ = some (.slice a ks.length c) ∧ wr.cell? ⟨w.heap.size + 1, 2, none⟩ = some (.slice a' us.length c') ∧ Below w.heap.size w wr ∧ w.heap.size + 1 < wr.heap.size ∧ Hid (∀ j, (h : j < ks.length) → (h' : j < us.length) → j < k → sameT ks[j] us[j] = true)) (fun i _ => ks.length - (intOf i).toNat)
      case atStart => exact ⟨0, Nat.zero_le _, rfl, by simp [go_sem], by simp [go_sem], hB _ _, by simp, fun j _ _ h => absurd h (by omega)⟩
      case round =>
        obtain ⟨k, hk, rfl, hct, hcu, hbr, hwl, HA⟩ := hrel
        clear hB
        by_cases hk' : k < ks.length
        · have hku : k < us.length := by have := H3.out; omega
          obtain ⟨b, off, e1, c1, rfl, hlt, d0, d1, d2, hkr⟩ := RdK.kid (HR.out.on (hbr.mono hhi)) hk'
          obtain ⟨b', off', e2, c2, rfl, hlt', g0, g1, g2, hkr'⟩ := RdK.kid (HR'.out.on (hbr.mono hhi)) hku
          have hpg := partsL_get hk'
          have hki : (k : Int) < (ks.length : Int) := by omega
          have hkj : (k : Int) < (us.length : Int) := by omega
          have hwr := Nat.le_trans hhi hbr.size
          have J := fun (w' : World) (h : Below wr.heap.size wr w') => specSame_any N ks[k] us[k] e1 e2 c1 c2 hi w' (by omega) (by omega) (hkr.on (h.mono hwr)) (hkr'.on (h.mono hwr)) (Nat.le_trans hwr h.size)
          have I := fun (w' : World) (h : Below wr.heap.size wr w') => ih ks[k] us[k] e1 e2 c1 c2 hi w' (by omega) (by omega) (hkr.on (h.mono hwr)) (hkr'.on (h.mono hwr)) (Nat.le_trans hwr h.size)
          clear HR HR' hkr hkr'
          cases hsm : sameT ks[k] us[k] with
          | true =>
            rw [hsm] at J
            have HA' : Hid (∀ j, (h : j < ks.length) → (h' : j < us.length) → j < k + 1 → sameT ks[j] us[j] = true) := fun j h h' hj => by
              by_cases e : j = k
              · subst e; exact hsm
              · exact HA.out j h h' (by omega)
            clear HA hsm
            go_wp2_with fail
            go_region_held3 (fun w' => w'.cell? ⟨w.heap.size, 2, none⟩ = some (.slice (some ⟨b, off, none⟩) ks.length c) ∧ w'.cell? ⟨w.heap.size + 1, 2, none⟩ = some (.slice (some ⟨b', off', none⟩) us.length c') ∧ w'.cell? ⟨b, off + k * 3, none⟩ = some (.int .i64 ks[k].f) ∧ w'.cell? ⟨b, off + k * 3 + 1, none⟩ = some (.int .i64 ks[k].v) ∧ w'.cell? ⟨b, off + k * 3 + 2, none⟩ = some (.slice e1 ks[k].kids.length c1) ∧ w'.cell? ⟨b', off' + k * 3, none⟩ = some (.int .i64 us[k].f) ∧ w'.cell? ⟨b', off' + k * 3 + 1, none⟩ = some (.int .i64 us[k].v) ∧ w'.cell? ⟨b', off' + k * 3 + 2, none⟩ = some (.slice e2 us[k].kids.length c2)) (first | go_keep | exact ⟨keepC hbb hct, keepC hbb hcu, keepC hbb d0, keepC hbb d1, keepC hbb d2, keepC hbb g0, keepC hbb g1, keepC hbb g2⟩)
              (first | (go_at_call 72; refine (J _ ?_).mono ?_; exact (Below.refl _ _).drew; rintro e w1 ⟨rfl, hb1⟩; have hbb : Below wr.heap.size wr w1 := (Below.refl _ _).drew.trans hb1; clear hb1))
            go_wp2_with fail
            go_roundw
            case rel => exact ⟨k + 1, by omega, by go_num, keepC hbb hct, keepC hbb hcu, hbr.trans (hbb.mono hbr.size), Nat.lt_of_lt_of_le hwl hbb.size, HA'⟩
            case measure => simp [intOf]; omega
          | false =>
            rw [hsm] at J
            have HF : Hid (befT t u = befT ks[k] us[k]) := by show _ = _; rw [HS2.out]; exact befL_hit hk' hku (fun j hj => HA.out j (by omega) (by omega) hj) hsm
            clear HA hsm
            go_wp2_with fail
            go_region_held3 (fun w' => w'.cell? ⟨w.heap.size, 2, none⟩ = some (.slice (some ⟨b, off, none⟩) ks.length c) ∧ w'.cell? ⟨w.heap.size + 1, 2, none⟩ = some (.slice (some ⟨b', off', none⟩) us.length c') ∧ w'.cell? ⟨b, off + k * 3, none⟩ = some (.int .i64 ks[k].f) ∧ w'.cell? ⟨b, off + k * 3 + 1, none⟩ = some (.int .i64 ks[k].v) ∧ w'.cell? ⟨b, off + k * 3 + 2, none⟩ = some (.slice e1 ks[k].kids.length c1) ∧ w'.cell? ⟨b', off' + k * 3, none⟩ = some (.int .i64 us[k].f) ∧ w'.cell? ⟨b', off' + k * 3 + 1, none⟩ = some (.int .i64 us[k].v) ∧ w'.cell? ⟨b', off' + k * 3 + 2, none⟩ = some (.slice e2 us[k].kids.length c2)) (first | go_keep | exact ⟨keepC hbb hct, keepC hbb hcu, keepC hbb d0, keepC hbb d1, keepC hbb d2, keepC hbb g0, keepC hbb g1, keepC hbb g2⟩)
              (first | (go_at_call 72; refine (J _ ?_).mono ?_; exact (Below.refl _ _).drew; rintro e w1 ⟨rfl, hb1⟩; have hbb : Below wr.heap.size wr w1 := (Below.refl _ _).drew.trans hb1; clear hb1))
            go_wp2_with fail
            have u0 := keepC hbb hct
            have u1 := keepC hbb hcu
            have u2 := keepC hbb d0
            have u3 := keepC hbb d1
            have u4 := keepC hbb d2
            have u5 := keepC hbb g0
            have u6 := keepC hbb g1
            have u7 := keepC hbb g2
            go_region_held3 (fun w' => w'.cell? ⟨w.heap.size, 2, none⟩ = some (.slice (some ⟨b, off, none⟩) ks.length c) ∧ w'.cell? ⟨w.heap.size + 1, 2, none⟩ = some (.slice (some ⟨b', off', none⟩) us.length c') ∧ w'.cell? ⟨b, off + k * 3, none⟩ = some (.int .i64 ks[k].f) ∧ w'.cell? ⟨b, off + k * 3 + 1, none⟩ = some (.int .i64 ks[k].v) ∧ w'.cell? ⟨b, off + k * 3 + 2, none⟩ = some (.slice e1 ks[k].kids.length c1) ∧ w'.cell? ⟨b', off' + k * 3, none⟩ = some (.int .i64 us[k].f) ∧ w'.cell? ⟨b', off' + k * 3 + 1, none⟩ = some (.int .i64 us[k].v) ∧ w'.cell? ⟨b', off' + k * 3 + 2, none⟩ = some (.slice e2 us[k].kids.length c2)) (first | go_keep | exact ⟨keepC hb2 hct, keepC hb2 hcu, keepC hb2 d0, keepC hb2 d1, keepC hb2 d2, keepC hb2 g0, keepC hb2 g1, keepC hb2 g2⟩)
              (first | (go_at_call 53; refine (I _ ?_).mono ?_; exact hbb.drew; rintro e w2 ⟨rfl, hb1⟩; have hb2 : Below wr.heap.size wr w2 := hbb.drew.trans (hb1.mono hbb.size); clear hb1))
            go_wp2_with fail
            go_ret
            exact ⟨rtB HF.out.symm, hbr.trans (hb2.mono hbr.size)⟩
        · have HT : Hid (befT t u = false) := by show _ = _; rw [HS2.out]; exact befL_all (fun j h h' => HA.out j h h' (by omega))
          go_wp2_with fail
          go_ret
          exact ⟨rtB HT.out.symm, hbr⟩
    · have hq : ((t.f != u.f) = true ∧ Hid (befT t u = decide (t.f < u.f))) ∨ ((t.f != u.f) = false ∧ (t.v != u.v) = true ∧ Hid (befT t u = decide (t.v < u.v))) ∨ ((t.f != u.f) = false ∧ (t.v != u.v) = false ∧ ((ks.length : Int) != (us.length : Int)) = true ∧ Hid (befT t u = decide (ks.length < us.length))) := by
        by_cases h1 : t.f = u.f
        · by_cases h2 : t.v = u.v
          · have h3 : ¬ ks.length = us.length := fun h => hf ⟨h1, h2, h⟩
            refine .inr (.inr ⟨by simp [h1], by simp [h2], by simp; omega, ?_⟩)
            show _ = _
            rw [HS.out]
            simp [h1, h2, h3]
          · refine .inr (.inl ⟨by simp [h1], by simpa using h2, ?_⟩)
            show _ = _
            rw [HS.out]
            simp [h1, h2]
        · refine .inl ⟨by simpa using h1, ?_⟩
          show _ = _
          rw [HS.out]
          simp [h1]
      clear hr hr' HS hf
      rcases hq with ⟨q1, HF⟩ | ⟨q1, q2, HF⟩ | ⟨q1, q2, q3, HF⟩
      all_goals
        go_enter Try.func53, Try.ntmps53
        go_wp2_with fail
        go_ret
        exact ⟨rtB HF.out.symm, hB _ _⟩
end Go.Proofs.Ytollijngiioonaa

/- The order of terms as plain mathematics, and a stack of pairs of lists still to be held against each other. Conditions: none. -/
namespace Go.Proofs.Ytollijngiioonaa
set_option maxRecDepth 100000
open Go.RowKit

/-- The least number of which p holds (0 where there is none). -/
theorem least_ex {p : Nat → Prop} (h : ∃ n, p n) : ∃ n, p n ∧ ∀ m, p m → n ≤ m := by
  obtain ⟨n, hn⟩ := h
  induction n using Nat.strongRecOn with
  | ind n ih =>
    by_cases hm : ∃ m, m < n ∧ p m
    · obtain ⟨m, hlt, hp⟩ := hm; exact ih m hlt hp
    · exact ⟨n, hn, fun m hp => Nat.le_of_not_lt fun hlt => hm ⟨m, hlt, hp⟩⟩

open Classical in
noncomputable def leastN (p : Nat → Prop) : Nat := if h : ∃ n, p n ∧ ∀ m, p m → n ≤ m then Classical.choose h else 0

theorem leastN_spec {p : Nat → Prop} (h : ∃ n, p n) : ∃ n, p n ∧ leastN p = n := by
  have h' := least_ex h
  refine ⟨leastN p, ?_, rfl⟩
  unfold leastN
  rw [dif_pos h']
  exact (Classical.choose_spec h').1
theorem leastN_le {p : Nat → Prop} {n : Nat} (h : p n) : leastN p ≤ n := by
  have h' := least_ex ⟨n, h⟩
  unfold leastN
  rw [dif_pos h']
  exact (Classical.choose_spec h').2 n h

def cmpI (x y : Int) : Int := if x < y then -1 else if y < x then 1 else 0
theorem cmpI_zero {x y : Int} : cmpI x y = 0 ↔ x = y := by unfold cmpI; split <;> (try split) <;> omega
theorem cmpI_self (x : Int) : cmpI x x = 0 := cmpI_zero.2 rfl
theorem cmpI_bd (x y : Int) : -1 ≤ cmpI x y ∧ cmpI x y ≤ 1 := by unfold cmpI; split <;> (try split) <;> omega
theorem cmpI_neg {x y : Int} : cmpI x y < 0 ↔ x < y := by unfold cmpI; split <;> (try split) <;> omega

/-- The first of three that is not 0. -/
def or3 (x y z : Int) : Int := if x ≠ 0 then x else if y ≠ 0 then y else z
/-- How the heads of two terms stand to each other. -/
def headO (t u : TermD) : Int := or3 (cmpI t.f u.f) (cmpI t.v u.v) (cmpI t.kids.length u.kids.length)

theorem headO_zero {t u : TermD} : headO t u = 0 ↔ t.f = u.f ∧ t.v = u.v ∧ t.kids.length = u.kids.length := by
  unfold headO or3
  by_cases h1 : t.f = u.f
  · have e1 := cmpI_zero.2 h1
    by_cases h2 : t.v = u.v
    · have e2 := cmpI_zero.2 h2
      simp only [e1, e2, ne_eq, not_true_eq_false, if_false, cmpI_zero]
      constructor
      · intro h; exact ⟨h1, h2, by omega⟩
      · intro h; omega
    · have e2 := mt cmpI_zero.1 h2
      simp [e1, e2, h2]
  · have e1 := mt cmpI_zero.1 h1
    simp [e1, h1]
theorem headO_bd (t u : TermD) : -1 ≤ headO t u ∧ headO t u ≤ 1 := by
  unfold headO or3
  have h1 := cmpI_bd t.f u.f; have h2 := cmpI_bd t.v u.v; have h3 := cmpI_bd t.kids.length u.kids.length
  split
  · exact h1
  · split
    · exact h2
    · exact h3

mutual
/-- How two terms stand to each other. -/
def ordT : TermD → TermD → Int
  | .mk f v ks, .mk f' v' ks' => if headO (.mk f v ks) (.mk f' v' ks') ≠ 0 then headO (.mk f v ks) (.mk f' v' ks') else ordL ks ks'
def ordL : List TermD → List TermD → Int
  | t :: ts, u :: us => if ordT t u ≠ 0 then ordT t u else ordL ts us
  | _, _ => 0
end
theorem ordT_eq (t u : TermD) : ordT t u = if headO t u ≠ 0 then headO t u else ordL t.kids u.kids := by
  cases t; cases u; rw [ordT]; rfl
theorem ordL_cons (t u : TermD) (ts us : List TermD) : ordL (t :: ts) (u :: us) = if ordT t u ≠ 0 then ordT t u else ordL ts us := by rw [ordL]
theorem ordL_nil : ordL [] [] = 0 := by rw [ordL]; simp

mutual
theorem ordT_same : ∀ t u : TermD, (ordT t u = 0) ↔ sameT t u = true
  | .mk f v ks, .mk f' v' ks' => by
    have hL : ks.length = ks'.length → ((ordL ks ks' = 0) ↔ sameL ks ks' = true) := ordL_same ks ks'
    rw [ordT_eq, sameT_eq]
    by_cases h : headO (.mk f v ks) (.mk f' v' ks') = 0
    · have e := headO_zero.1 h
      simp only [h, ne_eq, not_true_eq_false, if_false]
      obtain ⟨e1, e2, e3⟩ := e
      simp only [e1, e2, e3, beq_self_eq_true, Bool.true_and]
      exact hL e3
    · have e := mt headO_zero.2 h
      simp only [h, ne_eq, not_false_eq_true, if_true, false_iff]
      intro hh
      simp only [Bool.and_eq_true, beq_iff_eq] at hh
      exact e ⟨hh.1.1.1, hh.1.1.2, hh.1.2⟩
theorem ordL_same : ∀ ts us : List TermD, ts.length = us.length → ((ordL ts us = 0) ↔ sameL ts us = true)
  | [], us, _ => by
    cases us with
    | nil => simp [ordL, sameL]
    | cons u us => simp [ordL, sameL]
  | t :: ts, [], h => by simp at h
  | t :: ts, u :: us, h => by
    have h1 := ordT_same t u
    have h2 := ordL_same ts us (by simpa using h)
    rw [ordL_cons]
    by_cases e : ordT t u = 0
    · simp only [e, ne_eq, not_true_eq_false, if_false]
      rw [h2]
      simp [sameL, h1.1 e]
    · simp only [e, ne_eq, not_false_eq_true, if_true, false_iff]
      simp only [sameL, Bool.and_eq_true]
      intro hh
      exact e (h1.2 hh.1)
end

mutual
theorem ordT_bef : ∀ t u : TermD, decide (ordT t u < 0) = befT t u
  | .mk f v ks, .mk f' v' ks' => by
    have hL : ks.length = ks'.length → decide (ordL ks ks' < 0) = befL ks ks' := ordL_bef ks ks'
    rw [ordT_eq, befT_eq]
    show decide ((if headO (TermD.mk f v ks) (.mk f' v' ks') ≠ 0 then headO (.mk f v ks) (.mk f' v' ks') else ordL ks ks') < 0) = (if f ≠ f' then decide (f < f') else if v ≠ v' then decide (v < v') else if ks.length ≠ ks'.length then decide (ks.length < ks'.length) else befL ks ks')
    have hd : headO (TermD.mk f v ks) (.mk f' v' ks') = or3 (cmpI f f') (cmpI v v') (cmpI ks.length ks'.length) := rfl
    rw [hd]
    unfold or3
    by_cases h1 : f = f'
    · subst h1
      by_cases h2 : v = v'
      · subst h2
        by_cases h3 : ks.length = ks'.length
        · simp [cmpI_self, h3, hL h3]
        · have e : cmpI (ks.length : Int) (ks'.length : Int) ≠ 0 := mt cmpI_zero.1 (by omega)
          simp [cmpI_self, h3, e, cmpI_neg]
      · have e : cmpI v v' ≠ 0 := mt cmpI_zero.1 h2
        simp [cmpI_self, h2, e, cmpI_neg]
    · have e : cmpI f f' ≠ 0 := mt cmpI_zero.1 h1
      simp [h1, e, cmpI_neg]
theorem ordL_bef : ∀ ts us : List TermD, ts.length = us.length → decide (ordL ts us < 0) = befL ts us
  | [], us, _ => by
    cases us with
    | nil => simp [ordL, befL]
    | cons u us => simp [ordL, befL]
  | t :: ts, [], h => by simp at h
  | t :: ts, u :: us, h => by
    have h0 := ordT_same t u
    have h1 := ordT_bef t u
    have h2 := ordL_bef ts us (by simpa using h)
    rw [ordL_cons]
    cases hs : sameT t u with
    | true =>
      have e := h0.2 hs
      simp [e, befL, hs, h2]
    | false =>
      have e : ordT t u ≠ 0 := fun e => by rw [h0.1 e] at hs; cases hs
      simp [e, befL, hs, h1]
end

/-- What the stack comes to, its top first. -/
def ordS : List (List TermD × List TermD) → Int
  | [] => 0
  | p :: S => if ordL p.1 p.2 ≠ 0 then ordL p.1 p.2 else ordS S
/-- How much is left on it. -/
def sizeS : List (List TermD × List TermD) → Nat
  | [] => 0
  | p :: S => 2 * partsL p.1 + 1 + sizeS S

theorem ordS_pop (S : List (List TermD × List TermD)) : ordS (([], []) :: S) = ordS S := by simp [ordS, ordL_nil]
theorem ordS_hit {t u : TermD} {ts us : List TermD} {S : List (List TermD × List TermD)} (h : headO t u ≠ 0) : ordS ((t :: ts, u :: us) :: S) = headO t u := by
  have e : ordT t u = headO t u := by rw [ordT_eq, if_pos h]
  simp [ordS, ordL_cons, e, h]
theorem ordS_push {t u : TermD} {ts us : List TermD} {S : List (List TermD × List TermD)} (h : headO t u = 0) : ordS ((t :: ts, u :: us) :: S) = ordS ((t.kids, u.kids) :: (ts, us) :: S) := by
  have e : ordT t u = ordL t.kids u.kids := by rw [ordT_eq]; simp [h]
  simp only [ordS, ordL_cons, e]
  by_cases h1 : ordL t.kids u.kids = 0
  · simp [h1]
  · simp [h1]
theorem sizeS_push (t u : TermD) (ts us : List TermD) (S : List (List TermD × List TermD)) : sizeS ((t.kids, u.kids) :: (ts, us) :: S) < sizeS ((t :: ts, u :: us) :: S) := by
  simp only [sizeS, partsL, partsT_eq]; omega
theorem sizeS_len (S : List (List TermD × List TermD)) : S.length ≤ sizeS S := by
  induction S with
  | nil => simp [sizeS]
  | cons p S ih => simp only [sizeS, List.length_cons]; omega
end Go.Proofs.Ytollijngiioonaa

/- Terms that own their memory: no two parts of one lie in one block. Conditions: none. -/
namespace Go.Proofs.Ytollijngiioonaa
set_option maxRecDepth 100000
open Go.RowKit

/-- The slice of terms that begins at 'a' reads in w as ts; its blocks are among S, and no two of its parts share one. -/
inductive OwnS (w : World) : (Nat → Prop) → Option Addr → List TermD → Prop
  | nil (S : Nat → Prop) (a : Option Addr) : OwnS w S a []
  | row (S : Nat → Prop) (b off : Nat) (ts : List TermD) (A : Nat → Option Addr) (C : Nat → Nat) (K : Nat → Nat → Prop) (hb : S b) (hlt : b < w.heap.size) (hl : ts.length ≤ 9223372036854775807 ∧ ∀ i, (h : i < ts.length) → ts[i].kids.length ≤ C i) (hz : ∀ i, (h : i < ts.length) → isW ts[i].f ∧ isW ts[i].v)
      (hc : ∀ i, (h : i < ts.length) → w.cell? ⟨b, off + i * 3, none⟩ = some (.int .i64 ts[i].f) ∧ w.cell? ⟨b, off + i * 3 + 1, none⟩ = some (.int .i64 ts[i].v) ∧ w.cell? ⟨b, off + i * 3 + 2, none⟩ = some (.slice (A i) ts[i].kids.length (C i)))
      (hf : ∀ j, w.frozen? ⟨b, j, none⟩ = false)
      (hsub : ∀ i x, i < ts.length → K i x → S x ∧ x ≠ b) (hdis : ∀ i j x, i < ts.length → j < ts.length → i ≠ j → K i x → ¬ K j x)
      (hk : ∀ i, (h : i < ts.length) → OwnS w (K i) (A i) ts[i].kids) : OwnS w S (some ⟨b, off, none⟩) ts

/-- Whatever leaves the blocks of S as they were leaves it. -/
theorem OwnS.frame {w w' : World} {S : Nat → Prop} {a : Option Addr} {ts : List TermD} (h : OwnS w S a ts) (hs : ∀ x, S x → w'.heap[x]? = w.heap[x]?) (hz : w.heap.size ≤ w'.heap.size) : OwnS w' S a ts := by
  induction h with
  | nil S a => exact .nil S a
  | row S b off ts A C K hb hlt hl hz' hc hf hsub hdis hk ih =>
    have e := hs b hb
    refine .row S b off ts A C K hb (Nat.lt_of_lt_of_le hlt hz) hl hz' (fun i h => ?_) (fun j => ?_) hsub hdis (fun i h => ih i h (fun x hx => hs x (hsub i x h hx).1))
    · obtain ⟨h0, h1, h2⟩ := hc i h
      exact ⟨(World.cell?_of_block (a := ⟨b, _, none⟩) e).trans h0, (World.cell?_of_block (a := ⟨b, _, none⟩) e).trans h1, (World.cell?_of_block (a := ⟨b, _, none⟩) e).trans h2⟩
    · exact (World.frozen?_of_block (a := ⟨b, j, none⟩) e).trans (hf j)

theorem OwnS.mono {w : World} {S S' : Nat → Prop} {a : Option Addr} {ts : List TermD} (h : OwnS w S a ts) (hs : ∀ x, S x → S' x) : OwnS w S' a ts := by
  cases h with
  | nil S a => exact .nil S' a
  | row S b off ts A C K hb hlt hl hz' hc hf hsub hdis hk => exact .row S' b off ts A C K (hs b hb) hlt hl hz' hc hf (fun i x h hx => ⟨hs x (hsub i x h hx).1, (hsub i x h hx).2⟩) hdis hk

theorem OwnS.rd {w : World} {S : Nat → Prop} {a : Option Addr} {ts : List TermD} (h : OwnS w S a ts) : RdK w w.heap.size a ts := by
  induction h with
  | nil S a => exact .nil a
  | row S b off ts A C K hb hlt hl hz hc hf hsub hdis hk ih => exact .row b off ts A C hlt hl hz hc ih

theorem OwnS.on {w w' : World} {lo hi : Nat} {a : Option Addr} {ts : List TermD} (h : OwnS w (fun x => lo ≤ x ∧ x < hi) a ts) (hb : Below hi w w') : OwnS w' (fun x => lo ≤ x ∧ x < hi) a ts :=
  h.frame (fun x hx => hb.block x hx.2) hb.size

theorem set3_cells {u : World} {r : Nat} {x y z p q s : Value} (h0 : u.cell? ⟨r, 0, none⟩ = some p) (h1 : u.cell? ⟨r, 1, none⟩ = some q) (h2 : u.cell? ⟨r, 2, none⟩ = some s) :
    (((u.setCell ⟨r, 0, none⟩ x).setCell ⟨r, 1, none⟩ y).setCell ⟨r, 2, none⟩ z).cell? ⟨r, 0, none⟩ = some x ∧ (((u.setCell ⟨r, 0, none⟩ x).setCell ⟨r, 1, none⟩ y).setCell ⟨r, 2, none⟩ z).cell? ⟨r, 1, none⟩ = some y ∧ (((u.setCell ⟨r, 0, none⟩ x).setCell ⟨r, 1, none⟩ y).setCell ⟨r, 2, none⟩ z).cell? ⟨r, 2, none⟩ = some z := by
  refine ⟨?_, ?_, ?_⟩
  · rw [World.cell?_setCell_other _ _ _ _ (by simp), World.cell?_setCell_other _ _ _ _ (by simp)]
    exact World.cell?_setCell_same _ _ _ h0
  · rw [World.cell?_setCell_other _ _ _ _ (by simp)]
    exact World.cell?_setCell_same _ _ _ (by rw [World.cell?_setCell_other _ _ _ _ (by simp)]; exact h1)
  · exact World.cell?_setCell_same _ _ _ (by rw [World.cell?_setCell_other _ _ _ _ (by simp), World.cell?_setCell_other _ _ _ _ (by simp)]; exact h2)

/-- Stores into blocks that are not among S. -/
theorem OwnS.setCell {w : World} {S : Nat → Prop} {a : Option Addr} {ts : List TermD} (h : OwnS w S a ts) (p : Addr) (hp : ¬ S p.block) (u : Value) : OwnS (w.setCell p u) S a ts :=
  h.frame (fun x hx => Below.heap_setCell w p u x (fun e => hp (e ▸ hx))) (by simp)

/-- Three cells an element. -/
def cs3 (l : List (Value × Value × Value)) : List Value := l.flatMap fun t => [t.1, t.2.1, t.2.2]

theorem cs3_len (l : List (Value × Value × Value)) : (cs3 l).length = l.length * 3 := by
  induction l with
  | nil => rfl
  | cons t l ih => simp only [cs3, List.flatMap_cons, List.length_append] at *; rw [ih]; simp; omega

theorem cs3_set (t : Value × Value × Value) : ∀ (l : List (Value × Value × Value)) (k : Nat), k < l.length → (((cs3 l).set (k * 3) t.1).set (k * 3 + 1) t.2.1).set (k * 3 + 2) t.2.2 = cs3 (l.set k t)
  | [], k, h => by simp at h
  | x :: l, 0, _ => by simp [cs3]
  | x :: l, k + 1, h => by
    have ih := cs3_set t l k (by simpa using h)
    have e : ∀ (m : Nat) (L : List Value) (v : Value), ([x.1, x.2.1, x.2.2] ++ L).set (m + 3) v = [x.1, x.2.1, x.2.2] ++ L.set m v := by intro m L v; simp
    have e0 : (k + 1) * 3 = k * 3 + 3 := by omega
    rw [List.set_cons_succ]
    simp only [cs3, List.flatMap_cons] at *
    rw [e0, e, show k * 3 + 3 + 1 = (k * 3 + 1) + 3 by omega, e, show k * 3 + 3 + 2 = (k * 3 + 2) + 3 by omega, e, ih]

theorem cs3_get : ∀ (l : List (Value × Value × Value)) (k : Nat), (h : k < l.length) → (cs3 l)[k * 3]? = some l[k].1 ∧ (cs3 l)[k * 3 + 1]? = some l[k].2.1 ∧ (cs3 l)[k * 3 + 2]? = some l[k].2.2
  | [], k, h => by simp at h
  | x :: l, 0, _ => by simp [cs3]
  | x :: l, k + 1, h => by
    have ih := cs3_get l k (by simpa using h)
    have e : ∀ (m : Nat) (L : List Value), ([x.1, x.2.1, x.2.2] ++ L)[m + 3]? = L[m]? := by
      intro m L
      rw [List.getElem?_append_right (by simp)]
      simp
    have e0 : (k + 1) * 3 = k * 3 + 3 := by omega
    simp only [cs3, List.flatMap_cons, List.getElem_cons_succ] at *
    rw [e0, e, show k * 3 + 3 + 1 = (k * 3 + 1) + 3 by omega, e, show k * 3 + 3 + 2 = (k * 3 + 2) + 3 by omega, e]
    exact ih

theorem cs3_made (a b c : Value) : ∀ (n : Nat), (madeCells #[a, b, c] (n * 3)).toList = cs3 (List.replicate n (a, b, c))
  | 0 => by simp [madeCells, cs3]
  | n + 1 => by
    have ih := cs3_made a b c n
    rw [List.replicate_succ', cs3, List.flatMap_append]
    rw [cs3] at ih
    rw [← ih]
    have e0 : (n + 1) * 3 = n * 3 + 1 + 1 + 1 := by omega
    rw [e0]
    simp only [madeCells, Array.toList_map, Array.toList_range, List.range_succ, List.map_append, List.map_cons, List.map_nil, List.append_assoc]
    have m0 : n * 3 % 3 = 0 := by omega
    have m1 : (n * 3 + 1) % 3 = 1 := by omega
    have m2 : (n * 3 + 1 + 1) % 3 = 2 := by omega
    simp [m0, m1, m2]

theorem own_on {w w' : World} {base : Nat} {e : TypeId} {size : Nat} {v : Value} {n : Nat} {xs : List Value} (h : w.ownsRow base e size v n xs) (hb : Below w.heap.size w w') : w'.ownsRow base e size v n xs := by
  have hl := h.lt
  obtain ⟨h1, h2⟩ := h
  refine ⟨h1, ?_⟩
  rcases h2 with h2 | ⟨g, cap, cur, rfl, hg, hh, r⟩
  · exact .inl h2
  · exact .inr ⟨g, cap, cur, rfl, hg, by rw [hb.block g (hl g rfl).2]; exact hh, r⟩

theorem cs3_store {w : World} {T : TypeId} {B g c n : Nat} {l : List (Value × Value × Value)} (t : Value × Value × Value) {k : Nat} (hk : k < l.length) (h : w.ownsRow B T 3 (.slice (some ⟨g, 0, none⟩) n c) n (cs3 l)) :
    (((w.setCell ⟨g, k * 3, none⟩ t.1).setCell ⟨g, k * 3 + 1, none⟩ t.2.1).setCell ⟨g, k * 3 + 2, none⟩ t.2.2).ownsRow B T 3 (.slice (some ⟨g, 0, none⟩) n c) n (cs3 (l.set k t)) := by
  have h1 := (((h.stored (k * 3) t.1).1.stored (k * 3 + 1) t.2.1).1.stored (k * 3 + 2) t.2.2).1
  rwa [cs3_set t l k hk] at h1

theorem cs3_cells {w : World} {T : TypeId} {B g c n : Nat} {l : List (Value × Value × Value)} {k : Nat} (hn : n = l.length) (hk : k < l.length) (h : w.ownsRow B T 3 (.slice (some ⟨g, 0, none⟩) n c) n (cs3 l)) :
    w.cell? ⟨g, k * 3, none⟩ = some l[k].1 ∧ w.cell? ⟨g, k * 3 + 1, none⟩ = some l[k].2.1 ∧ w.cell? ⟨g, k * 3 + 2, none⟩ = some l[k].2.2 := by
  obtain ⟨g0, g1, g2⟩ := cs3_get l k hk
  exact ⟨(h.cellAt _ (by omega)).trans g0, (h.cellAt _ (by omega)).trans g1, (h.cellAt _ (by omega)).trans g2⟩

/-- The elements of a copy when its first k have been laid. -/
def laidTo (ts : List TermD) (A : Nat → Option Addr) (k : Nat) : List (Value × Value × Value) :=
  (List.range ts.length).map fun i => if i < k then (.int .i64 (ts[i]?.getD default).f, .int .i64 (ts[i]?.getD default).v, .slice (A i) (ts[i]?.getD default).kids.length (ts[i]?.getD default).kids.length) else (.int .i64 0, .int .i64 0, .slice none 0 0)

theorem laidTo_len (ts : List TermD) (A : Nat → Option Addr) (k : Nat) : (laidTo ts A k).length = ts.length := by simp [laidTo]

theorem laidTo_zero (ts : List TermD) (A : Nat → Option Addr) : laidTo ts A 0 = List.replicate ts.length (.int .i64 0, .int .i64 0, .slice none 0 0) := by
  unfold laidTo
  apply List.ext_getElem <;> simp

theorem laidTo_set (ts : List TermD) (A : Nat → Option Addr) {k : Nat} (h : k < ts.length) (a : Option Addr) :
    (laidTo ts A k).set k (.int .i64 ts[k].f, .int .i64 ts[k].v, .slice a ts[k].kids.length ts[k].kids.length) = laidTo ts (fun i => if i = k then a else A i) (k + 1) := by
  unfold laidTo
  apply List.ext_getElem
  · simp
  · intro i h1 h2
    simp only [List.length_set, List.length_map, List.length_range] at h1
    rw [List.getElem_set]
    by_cases e : k = i
    · subst e
      simp [h]
    · rw [if_neg e]
      simp only [List.getElem_map, List.getElem_range]
      have e2 : ¬ i = k := fun h => e h.symm
      by_cases hi : i < k
      · simp [hi, e2, show i < k + 1 by omega]
      · simp [hi, show ¬ i < k + 1 by omega]
end Go.Proofs.Ytollijngiioonaa

/- A range over a function whose iterator keeps memory of its own: what it promises the loop's body, and what the body promises it, told by sets of blocks; the statement's law. Conditions: none. -/
namespace Go.Proofs.Ytollijngiioonaa
set_option maxRecDepth 100000
open Go.RowKit

/-- All blocks of S lie as they lay. -/
structure Stay (S : Nat → Prop) (w w' : World) : Prop where
  os : w'.os = w.os
  tape : w'.tape = w.tape
  output : w'.output = w.output
  size : w.heap.size ≤ w'.heap.size
  block : ∀ k, k < w.heap.size → S k → w'.heap[k]? = w.heap[k]?

theorem Stay.refl (S : Nat → Prop) (w : World) : Stay S w w := ⟨rfl, rfl, rfl, Nat.le_refl _, fun _ _ _ => rfl⟩
theorem Stay.trans {S : Nat → Prop} {a b c : World} (h : Stay S a b) (k : Stay S b c) : Stay S a c :=
  ⟨k.os.trans h.os, k.tape.trans h.tape, k.output.trans h.output, Nat.le_trans h.size k.size, fun i hi hs => (k.block i (Nat.lt_of_lt_of_le hi h.size) hs).trans (h.block i hi hs)⟩
theorem Stay.weak {S T : Nat → Prop} {a b : World} (h : Stay S a b) (ht : ∀ k, k < a.heap.size → T k → S k) : Stay T a b :=
  ⟨h.os, h.tape, h.output, h.size, fun k hk hs => h.block k hk (ht k hk hs)⟩
theorem Stay.below {S : Nat → Prop} {a b : World} {B : Nat} (h : Stay S a b) (hB : B ≤ a.heap.size) (hs : ∀ k, k < B → S k) : Below B a b :=
  ⟨h.os, h.tape, h.output, h.size, fun k hk => h.block k (by omega) (hs k hk)⟩
theorem Stay.of_below {S : Nat → Prop} {a b : World} {B : Nat} (h : Below B a b) (hs : ∀ k, k < a.heap.size → S k → k < B) : Stay S a b :=
  ⟨h.os, h.tape, h.output, h.size, fun k hk hk' => h.block k (hs k hk hk')⟩
theorem Stay.grown {S : Nat → Prop} {a b : World} {row : Option Nat} (h : a.grownBy b row) (hr : ∀ k, row = some k → ¬ S k) : Stay S a b :=
  ⟨h.os, h.tape, h.output, h.size, fun k hk hs => h.block k hk (fun e => hr k e.symm hs)⟩
theorem Stay.putObj {S : Nat → Prop} (a : World) {r : Nat} (o : Obj) (hr : ¬ S r) : Stay S a (a.putObj r o) :=
  .grown (grownBy_putObj' a r o) (fun k e => by cases e; exact hr)
theorem Stay.setCell {S : Nat → Prop} (a : World) {p : Addr} (v : Value) (hr : ¬ S p.block) : Stay S a (a.setCell p v) :=
  ⟨rfl, rfl, rfl, by simp [World.setCell], fun k _ hs => Below.heap_setCell _ _ _ _ (fun e => hr (e ▸ hs))⟩
theorem Stay.alloc (S : Nat → Prop) (a : World) (o : Obj) : Stay S a (a.alloc o) :=
  ⟨rfl, rfl, rfl, by simp, fun k hk _ => Below.heap_alloc _ _ _ hk⟩
theorem Stay.drew (S : Nat → Prop) (a : World) : Stay S a a.drew := ⟨rfl, rfl, rfl, Nat.le_refl _, fun _ _ _ => rfl⟩
theorem Stay.cell {S : Nat → Prop} {a b : World} (h : Stay S a b) {p : Addr} {v : Value} (hc : a.cell? p = some v) (hs : S p.block) : b.cell? p = some v :=
  (World.cell?_of_block (h.block p.block (World.block_lt_of_cell? a p hc) hs)).trans hc
theorem Stay.frozen {S : Nat → Prop} {a b : World} (h : Stay S a b) {p : Addr} (hl : p.block < a.heap.size) (hs : S p.block) : b.frozen? p = a.frozen? p :=
  World.frozen?_of_block (h.block p.block hl hs)

/-- The iterator's word: whatever stays while the blocks of S do is not turned by it; the body's: below n₀, and outside S, nothing is turned. -/
def SeqPriv {α : Type} (F : Fence) (n : Nat) (P : Program) (g : Nat) (lb : Array Value) (encs : α → Array Value) (n₀ : Nat) (Sa Sp : List α → Prop) (Ok : List α → α → Prop) (N : Nat) (w : World) : Prop :=
  ∀ (l : Nat) (J Jx : List α → (Nat → Prop) → World → Prop) (S₀ : Nat → Prop) (W : World), Below w.heap.size w W →
    (∀ pre S A B, J pre S A → Stay S A B → J pre S B) → (∀ pre S A B, Jx pre S A → Stay S A B → Jx pre S B) → (∀ pre S A, J pre S A → ∀ k, S k → k < A.heap.size) →
    (∀ pre x S A, J pre S A → pre.length < N → Ok pre x → YieldAt F (n - 1) P l (encs x) A fun e B =>
      (e = .returned (.bool true) ∧ ∃ S', J (pre ++ [x]) S' B ∧ (∀ k, S' k → S k ∨ A.heap.size ≤ k) ∧ Stay (fun k => k < n₀ ∨ ¬ S k) A B) ∨
      (e = .returned (.bool false) ∧ ∃ S', Jx (pre ++ [x]) S' B)) →
    J [] S₀ W →
    CallsIn F n P g (#[.func (.yield l) #[] #[]] ++ lb) W fun e B => (∃ v, e = .returned v) ∧ ((∃ xs S', Sa xs ∧ J xs S' B) ∨ (∃ pre S', Sp pre ∧ Jx pre S' B))

/-- How the body of a round may be left. -/
def privPost {α : Type} (n₀ : Nat) (I : List α → (Nat → Prop) → World → Prop) (Ix : Code → List α → (Nat → Prop) → World → Prop) (xs : List α) (S : Nat → Prop) (W : World) : Exit → Act → World → Prop
  | .normal, _, B => ∃ S', I xs S' B ∧ (∀ k, S' k → S k ∨ W.heap.size ≤ k) ∧ Stay (fun k => k < n₀ ∨ ¬ S k) W B
  | .ret, _, B => ∃ S', Ix .ret xs S' B ∧ (∀ k, S' k → S k ∨ W.heap.size ≤ k) ∧ Stay (fun k => k < n₀ ∨ ¬ S k) W B
  | .exit id, _, B => ∃ S', Ix (.exit id) xs S' B ∧ (∀ k, S' k → S k ∨ W.heap.size ≤ k) ∧ Stay (fun k => k < n₀ ∨ ¬ S k) W B
  | .goto t, _, B => ∃ S', Ix (.goto t) xs S' B ∧ (∀ k, S' k → S k ∨ W.heap.size ≤ k) ∧ Stay (fun k => k < n₀ ∨ ¬ S k) W B
  | .panic _, _, _ => False
  | .outgrown, _, _ => False

variable {F : Fence} {n : Nat} {P : Program}

theorem wpIn_rangeFunc_priv {α : Type} {g : Operand} {ps : Array Tmp} {assign body : Code} {Q : Exit → Act → World → Prop} {a : Act} {w : World}
    (hro : F.round = none) (h1 : 1 ≤ n) {gf : Nat} {lb : Array Value} (hg : a.eval g = .func (.func gf) #[] lb) (hFg : F.fn gf) (eg : ∀ args w, (callFunc gf args).run P w = .ok (.enter gf args) w)
    {encs : α → Array Value} {n₀ : Nat} {Sa Sp : List α → Prop} {Ok : List α → α → Prop} {N : Nat} {w0 : World} (hseq : SeqPriv F (n - 1) P gf lb encs n₀ Sa Sp Ok N w0) (hn₀ : n₀ ≤ w.heap.size) (hb0 : Below w0.heap.size w0 w) (hps : ∀ x, (encs x).size = ps.size)
    (I : List α → (Nat → Prop) → World → Prop) (Ix : Code → List α → (Nat → Prop) → World → Prop)
    (hI : ∀ pre S A B, I pre S A → Stay S A B → I pre S B) (hIx : ∀ c pre S A B, Ix c pre S A → Stay S A B → Ix c pre S B)
    (hIb : ∀ pre S A, I pre S A → ∀ k, S k → k < A.heap.size) (S₀ : Nat → Prop) (hS₀ : ∀ k, S₀ k → k < w.heap.size) (h0 : I [] S₀ w)
    (Ax : List α → α → (Nat → Prop) → Act → World → Prop) (hAx : ∀ pre x S a A B, Ax pre x S a A → Stay S A B → Ax pre x S a B)
    (hassign : ∀ (l : Nat) (pre : List α) (x : α) (S : Nat → Prop) (W : World) (K : Act → World → Prop), I pre S W → pre.length < N → Ok pre x →
      (∀ a₁ S₁ W₁, Ax pre x S₁ a₁ W₁ → (∀ k, S₁ k → S k ∨ W.heap.size ≤ k) → Stay (fun k => k < n₀ ∨ ¬ S k) W W₁ → K a₁ W₁) →
      assign.wpIn (F.inRound l) (n - 1 - 1) P (Exit.then K (fun _ _ _ => False)) { tmps := (ps.zip (encs x)).foldl (fun t (p, v) => t.setIfInBounds p v) a.tmps, defers := [] } W)
    (hbody : ∀ (l : Nat) (pre : List α) (x : α) (S : Nat → Prop) (a₁ : Act) (W : World), Ax pre x S a₁ W → pre.length < N → Ok pre x → body.wpIn (F.inRound l) (n - 1 - 1) P (privPost n₀ I Ix (pre ++ [x]) S W) a₁ W)
    (hdone : ∀ (D : Nat) (xs : List α) (S : Nat → Prop) (W : World), Sa xs → I xs S W → W.heap[D]? = some (.deferred (some [])) → w.heap.size ≤ D → ¬ S D → Q .normal { a with defers := { target := .collected D, args := #[] } :: a.defers } W)
    (hstop : ∀ (D : Nat) (c : Code) (pre : List α) (S : Nat → Prop) (W : World), Sp pre → Ix c pre S W → W.heap[D]? = some (.deferred (some [])) → w.heap.size ≤ D → ¬ S D → c.wpIn F n P Q { a with defers := { target := .collected D, args := #[] } :: a.defers } W) :
    (Code.rangeFunc g ps assign body).wpIn F n P Q a w := by
  refine wpIn_rangeFunc ?_
  intro fn hfn
  rw [hro]
  obtain ⟨rec, hrec⟩ : ∃ rec : LoopState → Option Code → Loop, rec = fun st pe => { state := st, pending := pe, fn, tmps := a.tmps, params := ps, assign, body, defers := w.heap.size } := ⟨_, rfl⟩
  obtain ⟨W1, hW1⟩ : ∃ W1, (w.alloc (.deferred (some []))).alloc (.loop (rec .ready none)) = W1 := ⟨_, rfl⟩
  have hL1 : W1.heap[w.heap.size + 1]? = some (.loop (rec .ready none)) := by
    rw [← hW1]; have := World.alloc_heap_new (w.alloc (.deferred (some []))) (.loop (rec .ready none)); rwa [World.size_alloc] at this
  have hK1 : W1.heap[w.heap.size]? = some (.deferred (some [])) := by
    rw [← hW1]; exact (Below.heap_alloc _ _ _ (by simp)).trans (World.alloc_heap_new w _)
  have hI1 : I [] S₀ W1 := by rw [← hW1]; exact hI _ _ _ _ (hI _ _ _ _ h0 (.alloc _ _ _)) (.alloc _ _ _)
  have hb1 : Below w0.heap.size w0 W1 := by
    rw [← hW1]; exact hb0.trans ((((Below.refl _ w).alloc (Nat.le_refl _) _).alloc (by simp) _).mono hb0.size)
  have hsz : ∀ {A : World} {r : Loop}, A.heap[w.heap.size + 1]? = some (.loop r) → w.heap.size + 1 < A.heap.size := fun h => (Array.getElem?_eq_some_iff.1 h).1
  refine ⟨w.heap.size + 1, [{ target := .collected w.heap.size, args := #[] }], W1, { target := .fn (.func gf) lb, args := #[.func (.yield (w.heap.size + 1)) #[] #[]] }, W1, gf,
    #[.func (.yield (w.heap.size + 1)) #[] #[]] ++ lb, W1, ?_, ?_, ?_, ?_, fun _ => h1, ?_⟩
  · rw [← hW1, hrec]; exact run_enterLoop_outer _ _ _ _ _
  · simp only [resolve, hg]
    simp [go_sem]
  · intro f' hf'; simp [Target.leads] at hf'; subst hf'; exact hFg
  · simp [invoke, go_sem, eg]
  · -- the sets: the caller's, and the two blocks of the loop
    have hst : ∀ {A B : World} {T S : Nat → Prop}, (∀ k, S k ↔ T k ∨ k = w.heap.size ∨ k = w.heap.size + 1) → Stay S A B → Stay T A B := fun hS h => h.weak (fun k _ ht => (hS k).2 (.inl ht))
    refine (hseq (w.heap.size + 1)
      (fun pre S W => ∃ T : Nat → Prop, (∀ k, S k ↔ T k ∨ k = w.heap.size ∨ k = w.heap.size + 1) ∧ (∀ k, T k → k ≠ w.heap.size ∧ k ≠ w.heap.size + 1) ∧ I pre T W ∧ W.heap[w.heap.size + 1]? = some (.loop (rec .ready none)) ∧ W.heap[w.heap.size]? = some (.deferred (some [])))
      (fun pre S W => ∃ T : Nat → Prop, (∀ k, S k ↔ T k ∨ k = w.heap.size ∨ k = w.heap.size + 1) ∧ (∀ k, T k → k ≠ w.heap.size ∧ k ≠ w.heap.size + 1) ∧ ∃ c, Ix c pre T W ∧ W.heap[w.heap.size + 1]? = some (.loop (rec .done (some c))) ∧ W.heap[w.heap.size]? = some (.deferred (some [])))
      (fun k => S₀ k ∨ k = w.heap.size ∨ k = w.heap.size + 1) W1 hb1 ?_ ?_ ?_ ?_ ⟨S₀, fun k => Iff.rfl, fun k hk => by have := hS₀ k hk; omega, hI1, hL1, hK1⟩).mono ?_
    · rintro pre S A B ⟨T, hS, hT, hi, hl, hk⟩ h
      have hlt := hsz hl
      exact ⟨T, hS, hT, hI _ _ _ _ hi (hst hS h), (h.block _ hlt ((hS _).2 (.inr (.inr rfl)))).trans hl, (h.block _ (by omega) ((hS _).2 (.inr (.inl rfl)))).trans hk⟩
    · rintro pre S A B ⟨T, hS, hT, c, hi, hl, hk⟩ h
      have hlt := hsz hl
      exact ⟨T, hS, hT, c, hIx _ _ _ _ _ hi (hst hS h), (h.block _ hlt ((hS _).2 (.inr (.inr rfl)))).trans hl, (h.block _ (by omega) ((hS _).2 (.inr (.inl rfl)))).trans hk⟩
    · rintro pre S A ⟨T, hS, hT, hi, hl, hk⟩ k hk'
      have hlt := hsz hl
      rcases (hS k).1 hk' with h | h | h
      · exact hIb _ _ _ hi k h
      · omega
      · omega
    · -- one round
      rintro pre x S W ⟨T, hS, hT, hi, hl, hk⟩ hlen hok
      have hlt := hsz hl
      have nL : ¬ T (w.heap.size + 1) := fun h => (hT _ h).2 rfl
      have nD : ¬ T w.heap.size := fun h => (hT _ h).1 rfl
      have hy := run_yield (P := P) (args := encs x) hl (by rw [hrec]; exact hps x)
      rw [hrec] at hy
      refine ⟨fn, _, assign, body, hy, roundIn_of_wpIn hfn (hassign _ pre x T W _ hi hlen hok ?_)⟩
      intro a₁ T₁ W₁ hax hT₁ hst₁
      have hL₁ := (hst₁.block (w.heap.size + 1) hlt (.inr nL)).trans hl
      have hD₁ := (hst₁.block w.heap.size (by omega) (.inr nD)).trans hk
      have nL₁ : ¬ T₁ (w.heap.size + 1) := fun h => (hT₁ _ h).elim nL (fun h => by omega)
      have nD₁ : ¬ T₁ w.heap.size := fun h => (hT₁ _ h).elim nD (fun h => by omega)
      have hz₁ := hst₁.size
      refine ⟨_, run_beginRound hL₁ (by rw [hrec]), ?_⟩
      obtain ⟨W2, hW2⟩ : ∃ W2, W2 = W₁.putObj (w.heap.size + 1) (.loop { rec .ready none with state := .busy }) := ⟨_, rfl⟩
      rw [← hW2]
      have hl2 : W2.heap[w.heap.size + 1]? = some (.loop { rec .ready none with state := .busy }) := by rw [hW2]; exact World.putObj_heap_same (by omega)
      have hk2 : W2.heap[w.heap.size]? = some (.deferred (some [])) := by rw [hW2]; exact (World.putObj_heap_other (by omega)).trans hD₁
      have hz2 : W2.heap.size = W₁.heap.size := by rw [hW2]; simp
      have hi2 : Ax pre x T₁ a₁ W2 := by rw [hW2]; exact hAx _ _ _ _ _ _ hax (.putObj _ _ nL₁)
      have hs2 : Stay (fun k => k < n₀ ∨ ¬ S k) W W2 := by
        rw [hW2]
        exact (hst₁.weak (fun k _ h => h.elim .inl (fun h => .inr (fun ht => h ((hS _).2 (.inl ht)))))).trans (.putObj _ _ (fun h => h.elim (fun h => by omega) (fun h => h ((hS _).2 (.inr (.inr rfl))))))
      have sub₁ : ∀ k, k < W.heap.size → T₁ k → T k := fun k hk h => (hT₁ k h).elim id (fun h => by omega)
      refine wpIn_mono (hbody _ pre x T₁ a₁ W2 hi2 hlen hok) ?_
      have fin : ∀ (jump : Option Code) (W3 : World), Stay (fun k => k < n₀ ∨ ¬ T₁ k) W2 W3 →
          (Instr.endRound (w.heap.size + 1) jump).run P W3 = .ok (.bool jump.isNone) (W3.putObj (w.heap.size + 1) (.loop (rec (if jump.isNone then .ready else .done) jump))) ∧
          (W3.putObj (w.heap.size + 1) (.loop (rec (if jump.isNone then .ready else .done) jump))).heap[w.heap.size + 1]? = some (.loop (rec (if jump.isNone then .ready else .done) jump)) ∧
          (W3.putObj (w.heap.size + 1) (.loop (rec (if jump.isNone then .ready else .done) jump))).heap[w.heap.size]? = some (.deferred (some [])) ∧
          Stay (fun k => k < n₀ ∨ ¬ S k) W (W3.putObj (w.heap.size + 1) (.loop (rec (if jump.isNone then .ready else .done) jump))) := fun jump W3 hk3 => by
        have hl3 := (hk3.block (w.heap.size + 1) (by omega) (.inr nL₁)).trans hl2
        have hd3 := (hk3.block w.heap.size (by omega) (.inr nD₁)).trans hk2
        have := run_endRound (P := P) jump hl3
        rw [hrec] at this ⊢
        refine ⟨this, World.putObj_heap_same (Array.getElem?_eq_some_iff.1 hl3).1, (World.putObj_heap_other (by omega)).trans hd3, ?_⟩
        have h34 : Stay (fun k => (k < n₀ ∨ ¬ S k) ∧ k < W.heap.size) W W3 := (hs2.weak (fun _ _ h => h.1)).trans (hk3.weak (fun k _ h => h.1.elim .inl (fun h' => .inr (fun ht => h' ((hS _).2 (.inl (sub₁ k h.2 ht)))))))
        exact (h34.weak (fun k hk h => ⟨h, hk⟩)).trans (.putObj _ _ (fun h => h.elim (fun h => by omega) (fun h => h ((hS _).2 (.inr (.inr rfl))))))
      have sub : ∀ {T' : Nat → Prop}, (∀ k, T' k → T₁ k ∨ W2.heap.size ≤ k) → (∀ k, T' k → k ≠ w.heap.size ∧ k ≠ w.heap.size + 1) ∧ (∀ k, (T' k ∨ k = w.heap.size ∨ k = w.heap.size + 1) → S k ∨ W.heap.size ≤ k) := fun hT' =>
        ⟨fun k hk => (hT' k hk).elim (fun h => (hT₁ k h).elim (hT k) (fun h => by omega)) (fun h => by omega), fun k hk => hk.elim (fun h => (hT' k h).elim (fun h => (hT₁ k h).elim (fun h => .inl ((hS _).2 (.inl h))) .inr) (fun h => .inr (by omega))) (fun h => .inl ((hS _).2 (.inr h)))⟩
      rintro e a3 W3 hp
      cases e with
      | normal =>
        obtain ⟨T', hi3, hT', hk3⟩ := hp
        obtain ⟨hr, hl4, hk4, hst4⟩ := fin none W3 hk3
        obtain ⟨q1, q2⟩ := sub hT'
        exact ⟨_, _, hr, .inl ⟨rfl, fun k => T' k ∨ k = w.heap.size ∨ k = w.heap.size + 1, ⟨T', fun k => Iff.rfl, q1, hI _ _ _ _ hi3 (.putObj _ _ (fun h => (q1 _ h).2 rfl)), hl4, hk4⟩, q2, hst4⟩⟩
      | ret =>
        obtain ⟨T', hi3, hT', hk3⟩ := hp
        obtain ⟨hr, hl4, hk4, hst4⟩ := fin (some .ret) W3 hk3
        obtain ⟨q1, q2⟩ := sub hT'
        exact ⟨_, _, hr, .inr ⟨rfl, fun k => T' k ∨ k = w.heap.size ∨ k = w.heap.size + 1, T', fun k => Iff.rfl, q1, .ret, hIx _ _ _ _ _ hi3 (.putObj _ _ (fun h => (q1 _ h).2 rfl)), hl4, hk4⟩⟩
      | exit id =>
        obtain ⟨T', hi3, hT', hk3⟩ := hp
        obtain ⟨hr, hl4, hk4, hst4⟩ := fin (some (.exit id)) W3 hk3
        obtain ⟨q1, q2⟩ := sub hT'
        exact ⟨_, _, hr, .inr ⟨rfl, fun k => T' k ∨ k = w.heap.size ∨ k = w.heap.size + 1, T', fun k => Iff.rfl, q1, .exit id, hIx _ _ _ _ _ hi3 (.putObj _ _ (fun h => (q1 _ h).2 rfl)), hl4, hk4⟩⟩
      | goto t =>
        obtain ⟨T', hi3, hT', hk3⟩ := hp
        obtain ⟨hr, hl4, hk4, hst4⟩ := fin (some (.goto t)) W3 hk3
        obtain ⟨q1, q2⟩ := sub hT'
        exact ⟨_, _, hr, .inr ⟨rfl, fun k => T' k ∨ k = w.heap.size ∨ k = w.heap.size + 1, T', fun k => Iff.rfl, q1, .goto t, hIx _ _ _ _ _ hi3 (.putObj _ _ (fun h => (q1 _ h).2 rfl)), hl4, hk4⟩⟩
      | panic ch => exact hp.elim
      | outgrown => exact hp.elim
    · -- behind the iterator
      rintro e W2 ⟨⟨v, rfl⟩, (⟨xs, S, hSa, T, hS, hT, hi, hl, hk⟩ | ⟨pre, S, hSp, T, hS, hT, c, hi, hl, hk⟩)⟩
      · exact ⟨none, _, by have := run_endLoop (P := P) hl (by rw [hrec]; simp); rw [hrec] at this; exact this, hdone _ xs T _ hSa (hI _ _ _ _ hi (.putObj _ _ (fun h => (hT _ h).2 rfl))) ((World.putObj_heap_other (by omega)).trans hk) (Nat.le_refl _) (fun h => (hT _ h).1 rfl)⟩
      · exact ⟨some c, _, by have := run_endLoop (P := P) hl (by rw [hrec]; simp); rw [hrec] at this; exact this, hstop _ c pre T _ hSp (hIx _ _ _ _ _ hi (.putObj _ _ (fun h => (hT _ h).2 rfl))) ((World.putObj_heap_other (by omega)).trans hk) (Nat.le_refl _) (fun h => (hT _ h).1 rfl)⟩
end Go.Proofs.Ytollijngiioonaa

