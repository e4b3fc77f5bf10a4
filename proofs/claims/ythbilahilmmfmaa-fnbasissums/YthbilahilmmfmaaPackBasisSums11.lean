/- What the proof of FnBasisSums stands on, part 11 of 12: each piece says what it proves and under which conditions. Conditions: as each piece says. -/
import Derived.Test.YthbilahilmmfmaaPackBasisSums10
import Derived.Deep.RegionLaw
import Derived.Sort.Row
import Derived.Deep.RegionHeld3
import Derived.Deep.RegionHeldLaw
import Derived.Deep.Cut
import Derived.Deep.CutRange
import Derived.Deep.CutBlock
import Derived.RangeFuncNested
import Derived.RangeFuncBound
import Derived.RangeFuncCalls
import Derived.RangeFuncLeaves
import Derived.Shelf.Abstract
import Derived.Shelf.RegionOpen
import Derived.WalkKit
import Derived.OwnWalkIn
import Derived.TacticsInMore
import Derived.LoopNIn
import Derived.LoopIn
import Derived.Maps.OwnIn
import Derived.Test.YthbilahilmmfmaaProg
import Derived.Lib.SlicesCompact
import Derived.Sort.OwnSortedInts
import Derived.Lib.OwnBridge
import Derived.Lib.RowBridge
import Derived.Tactics
/- The program's way to one form: the next Kid of the innermost term is taken. Conditions: at most 549755813888 terms at work. -/
namespace Go.Proofs.Ythbilahilmmfmaa
set_option maxRecDepth 100000
open Go.RowKit

theorem RdK.tail {w : World} {hi b off : Nat} {t : TermD} {ts : List TermD} (h : RdK w hi (some ⟨b, off, none⟩) (t :: ts)) {c : Nat} (hc : ts.length + 1 ≤ c) : RdK w hi (tailA b off c) ts := by
  by_cases h1 : ts = []
  · subst h1; exact .nil _
  · have hl0 : ts.length ≠ 0 := fun e => h1 (List.length_eq_zero_iff.1 e)
    rw [tailA, if_neg (by omega)]
    cases h with
    | row b off ts' A C hlt hl hz hc' hk =>
      refine .row b (off + 3) ts (fun i => A (i + 1)) (fun i => C (i + 1)) hlt ⟨by have := hl.1; simp at this; omega, fun i hi => hl.2 (i + 1) (by simpa using hi)⟩ (fun i hi => hz (i + 1) (by simpa using hi)) (fun i hi => ?_) (fun i hi => hk (i + 1) (by simpa using hi))
      have := hc' (i + 1) (by simpa using hi)
      simpa [show off + (i + 1) * 3 = off + 3 + i * 3 by omega] using this
/-- The first one of a list that is read. -/
theorem RdK.head {w : World} {hi : Nat} {a : Option Addr} {t : TermD} {ts : List TermD} (h : RdK w hi a (t :: ts)) :
    ∃ b off a' c', a = some ⟨b, off, none⟩ ∧ b < hi ∧ w.cell? ⟨b, off, none⟩ = some (.int .i64 t.f) ∧ w.cell? ⟨b, off + 1, none⟩ = some (.int .i64 t.v) ∧ w.cell? ⟨b, off + 2, none⟩ = some (.slice a' t.kids.length c') ∧ t.kids.length ≤ c' ∧ RdK w hi a' t.kids ∧ (isW t.f ∧ isW t.v) := by
  obtain ⟨b, off, a', c', e, h1, h2, h3, h4, h5, h6⟩ := h.kidc (i := 0) (by simp)
  exact ⟨b, off, a', c', e, h1, by simpa using h2, by simpa using h3, by simpa using h4, by simpa using h5, by simpa using h6, h.ints (i := 0) (by simp)⟩

theorem NSt.other {n0 B : Nat} {F : List FM} {v : Value} {wr : World} (h : NSt n0 B F v wr) (p : Addr) (u : Value) (hp : n0 ≤ p.block) (hx : ∀ x ∈ F, ¬ x.S p.block) (hv : v.ownBlock ≠ some p.block) : NSt n0 B F v (wr.setCell p u) := by
  have hst : Stay (fun k => k ≠ p.block) wr (wr.setCell p u) := .setCell _ _ (by simp)
  exact ⟨own_stay h.row hst (fun g hg e => hv (e ▸ hg)), h.frames hst (fun k hk => by omega) (fun x hx' k hk e => hx x hx' (e ▸ hk)), h.dis, h.vb, by simpa using h.z, h.n⟩

theorem top_cells {n0 B : Nat} {x : FM} {r : List FM} {g c : Nat} {w : World} (H : NSt n0 B (x :: r) (.slice (some ⟨g, 0, none⟩) (r.length + 1) c) w) :
    w.cell? ⟨g, r.length * 6, none⟩ = some (.int .i64 x.t.f) ∧ w.cell? ⟨g, r.length * 6 + 1, none⟩ = some (.int .i64 x.t.v) ∧ w.cell? ⟨g, r.length * 6 + 2, none⟩ = some (.slice x.a x.t.kids.length x.c) ∧ w.cell? ⟨g, r.length * 6 + 3, none⟩ = some (.slice x.al x.left.length x.cl) ∧ w.cell? ⟨g, r.length * 6 + 4, none⟩ = some (.slice x.am x.L.length x.cm) ∧ w.cell? ⟨g, r.length * 6 + 5, none⟩ = some (.int .i64 (homeIx (x :: r))) := by
  have hl := cellsF_len r
  refine ⟨?_, ?_, ?_, ?_, ?_, ?_⟩
  all_goals
    refine (H.row.cellAt _ (by omega)).trans ?_
    rw [cellsF, List.getElem?_append_right (by omega)]
    simp [hl, FM.cells]

set_option maxHeartbeats 1600000 in
theorem takeKid_none (n0 B : Nat) (x : FM) (r : List FM) (g c : Nat) (w : World) (H : NSt n0 B (x :: r) (.slice (some ⟨g, 0, none⟩) (r.length + 1) c) w) (hF : r.length ≤ 549755813888) (hx : x.left = []) :
    Calls Try.prog 55 #[.slice (some ⟨g, 0, none⟩) (r.length + 1) c] w fun e w' => e = .returned (.tuple #[.agg #[.int .i64 0, .int .i64 0, .slice none 0 0], .bool false]) ∧ Below w.heap.size w w' := by
  obtain ⟨_, _, _, q3, _, _⟩ := top_cells H
  have hgl := (H.row.lt g rfl).2
  rw [hx] at q3
  simp only [List.length_nil] at q3
  clear H
  go_enter Try.func55, Try.ntmps55
  go_wp2
  exact bodyPost_ret (v := .tuple #[.agg #[.int .i64 0, .int .i64 0, .slice none 0 0], .bool false]) (by simp [results, Try.results55, go_sem]) rfl ⟨rfl, (Below.refl w.heap.size w).alloc (Nat.le_refl _) _⟩

set_option maxHeartbeats 3200000 in
theorem takeKid_some (n0 B : Nat) (x : FM) (r : List FM) (g c : Nat) (k : TermD) (ks : List TermD) (w : World) (H : NSt n0 B (x :: r) (.slice (some ⟨g, 0, none⟩) (r.length + 1) c) w) (hF : r.length ≤ 549755813888) (hx : x.left = k :: ks) (hbig : ks.length ≤ 549755813888) :
    Calls Try.prog 55 #[.slice (some ⟨g, 0, none⟩) (r.length + 1) c] w fun e w' => ∃ ak ck al cl, e = .returned (.tuple #[.agg #[.int .i64 k.f, .int .i64 k.v, .slice ak k.kids.length ck], .bool true]) ∧ NSt n0 B ({ x with left := ks, al := al, cl := cl } :: r) (.slice (some ⟨g, 0, none⟩) (r.length + 1) c) w' ∧ RdK w' n0 ak k.kids ∧ k.kids.length ≤ ck ∧ (isW k.f ∧ isW k.v) ∧ Stay (fun k => k < B) w w' := by
  obtain ⟨_, _, _, q3, _, _⟩ := top_cells H
  have hgl := H.row.lt g rfl
  have hn := H.n
  have hz := H.z
  have hx0 := H.fr x (by simp)
  have hrd := hx0.rd
  have hle := hx0.le
  rw [hx] at q3 hrd hle
  obtain ⟨b, off, ak, ck, hal, hb, k0, k1, k2, hck, hrk, hwk⟩ := hrd.head
  rw [hal] at q3 hrd
  simp only [List.length_cons] at q3 hle
  have hrt := hrd.tail (c := x.cl) hle
  have hclz : (1 : Int) ≤ (x.cl : Int) := by omega
  have hcb : (ks.length : Int) + 1 ≤ (x.cl : Int) := by omega
  have hbg : b ≠ g := by omega
  have hbl : b < w.heap.size := by omega
  have hgl2 : g < w.heap.size := hgl.2
  have fr : w.frozen? ⟨g, r.length * 6 + 3, none⟩ = false := H.row.frozenAt _
  have hst : Stay (fun k => k < B) w (w.setCell ⟨g, r.length * 6 + 3, none⟩ (.slice (tailA b off x.cl) ks.length (x.cl - 1))) := .setCell _ _ (fun h => by simp only at h; omega)
  have hT := H.take hrt (cl := x.cl - 1) (by omega)
  obtain ⟨W1, hW1⟩ : ∃ W1, W1 = w.setCell ⟨g, r.length * 6 + 3, none⟩ (.slice (tailA b off x.cl) ks.length (x.cl - 1)) := ⟨_, rfl⟩
  rw [← hW1] at hst hT
  have hb1 : Below W1.heap.size W1 ((W1.alloc (.cells #[.int .i64 k.f, .int .i64 k.v, .slice ak k.kids.length ck] 43)).alloc (.cells #[.int .i64 k.f, .int .i64 k.v, .slice ak k.kids.length ck] 43)) := ((Below.refl _ _).alloc (Nat.le_refl _) _).alloc (by simp) _
  have hst2 := hst.trans (.of_below (S := fun k => k < B) hb1 (fun k hk _ => hk))
  have FIN : Hid (∃ ak' ck' al cl, Ending.returned (Value.tuple #[.agg #[.int .i64 k.f, .int .i64 k.v, .slice ak k.kids.length ck], .bool true]) = .returned (.tuple #[.agg #[.int .i64 k.f, .int .i64 k.v, .slice ak' k.kids.length ck'], .bool true]) ∧ NSt n0 B ({ x with left := ks, al := al, cl := cl } :: r) (.slice (some ⟨g, 0, none⟩) (r.length + 1) c) ((W1.alloc (.cells #[.int .i64 k.f, .int .i64 k.v, .slice ak k.kids.length ck] 43)).alloc (.cells #[.int .i64 k.f, .int .i64 k.v, .slice ak k.kids.length ck] 43)) ∧ RdK ((W1.alloc (.cells #[.int .i64 k.f, .int .i64 k.v, .slice ak k.kids.length ck] 43)).alloc (.cells #[.int .i64 k.f, .int .i64 k.v, .slice ak k.kids.length ck] 43)) n0 ak' k.kids ∧ k.kids.length ≤ ck' ∧ (isW k.f ∧ isW k.v) ∧ Stay (fun k => k < B) w ((W1.alloc (.cells #[.int .i64 k.f, .int .i64 k.v, .slice ak k.kids.length ck] 43)).alloc (.cells #[.int .i64 k.f, .int .i64 k.v, .slice ak k.kids.length ck] 43))) :=
    ⟨ak, ck, _, _, rfl, hT.on hb1, hrk.on (hst2.below (by omega) (fun k hk => by omega)), hck, hwk, hst2⟩
  clear H hx0 hrd hrt hrk hal hst hT hb1 hst2
  by_cases h1 : x.cl = 1
  · have hk0 : ks.length = 0 := by omega
    rw [h1] at q3 hle hclz hcb hW1
    rw [tailA, if_pos rfl, hk0, Nat.sub_self] at hW1
    subst hW1
    go_enter Try.func55, Try.ntmps55
    go_wp2
    exact bodyPost_ret (v := .tuple #[.agg #[.int .i64 k.f, .int .i64 k.v, .slice ak k.kids.length ck], .bool true]) (by simp [results, Try.results55, go_sem]) rfl FIN.out
  · have h1i : ¬ (x.cl : Int) = 1 := by omega
    have hw1 : ((x.cl : Int) - 1).toNat = x.cl - 1 := by omega
    rw [tailA, if_neg h1] at hW1
    subst hW1
    go_enter Try.func55, Try.ntmps55
    go_wp2
    exact bodyPost_ret (v := .tuple #[.agg #[.int .i64 k.f, .int .i64 k.v, .slice ak k.kids.length ck], .bool true]) (by simp [results, Try.results55, go_sem]) rfl FIN.out
end Go.Proofs.Ythbilahilmmfmaa

/- The program's way to one form: a Kid that is done is put into the home of the innermost term. Conditions: at most 549755813888 terms at work, and Kids in a row. -/
namespace Go.Proofs.Ythbilahilmmfmaa
set_option maxRecDepth 100000
open Go.RowKit

/-- The zero element that was appended becomes the term. -/
theorem own_fill {w1 w2 : World} {B g c n : Nat} {row : Option Nat} {xs : List Value} {p q s : Value} (h : w2.ownsRow B 43 3 (.slice (some ⟨g, 0, none⟩) (n + 1) c) (n + 1) (xs ++ [.int .i64 0, .int .i64 0, .slice none 0 0])) (hl : xs.length = n * 3) (hg : w1.grownBy w2 row) (hat : some g = row ∨ w1.heap.size ≤ g) :
    (((w2.setCell ⟨g, n * 3, none⟩ p).setCell ⟨g, n * 3 + 1, none⟩ q).setCell ⟨g, n * 3 + 2, none⟩ s).ownsRow B 43 3 (.slice (some ⟨g, 0, none⟩) (n + 1) c) (n + 1) (xs ++ [p, q, s]) ∧ w1.grownBy (((w2.setCell ⟨g, n * 3, none⟩ p).setCell ⟨g, n * 3 + 1, none⟩ q).setCell ⟨g, n * 3 + 2, none⟩ s) row := by
  have h1 := (((h.stored (n * 3) p).1.stored (n * 3 + 1) q).1.stored (n * 3 + 2) s).1
  have e1 : (((xs ++ [Value.int .i64 0, Value.int .i64 0, Value.slice none 0 0]).set (n * 3) p).set (n * 3 + 1) q).set (n * 3 + 2) s = xs ++ [p, q, s] := by
    rw [List.set_append_right _ _ (by omega), List.set_append_right _ _ (by omega), List.set_append_right _ _ (by omega)]
    simp [hl]
  rw [e1] at h1
  refine ⟨h1, ⟨hg.os, hg.tape, hg.output, by simpa using hg.size, fun k hk hne => ?_⟩⟩
  have hkg : k ≠ g := fun e => hat.elim (fun q => hne (e ▸ q)) (fun q => by omega)
  rw [Below.heap_setCell _ _ _ _ hkg, Below.heap_setCell _ _ _ _ hkg, Below.heap_setCell _ _ _ _ hkg]
  exact hg.block k hk hne

/-- Stores into two blocks may be told in either order. -/
theorem set_comm (w : World) (a b i j : Nat) (u v : Value) (h : a ≠ b) : (w.setCell ⟨a, i, none⟩ u).setCell ⟨b, j, none⟩ v = (w.setCell ⟨b, j, none⟩ v).setCell ⟨a, i, none⟩ u := by
  rw [Sort.setCell_eq, Sort.setCell_eq, Sort.setCell_eq, Sort.setCell_eq]
  unfold Sort.mapBlock
  congr 1
  apply Array.ext
  · simp
  · intro k h1 h2
    simp only [Array.getElem_modify]
    split
    · split
      · omega
      · rfl
    · rfl
/-- What the append leaves: the new row, and the cell that is stored into behind it. -/
theorem put_facts {W X w5 : World} {B n g o : Nat} {row : Option Nat} {u v5 : Value} {xs : List Value} (hl : xs.length = n * 3) (hown : w5.ownsRow B 43 3 v5 (n + 1) (xs ++ [.int .i64 0, .int .i64 0, .slice none 0 0])) (hg : X.grownBy w5 row) (hat : v5.ownBlock = row ∨ v5.ownBlock = some X.heap.size) (hb : Below W.heap.size W X) (hgW : g < W.heap.size) (hc : W.cell? ⟨g, o, none⟩ = some u) (hf : W.frozen? ⟨g, o, none⟩ = false) (hne : row ≠ some g) :
    ∃ g5 c5, v5 = .slice (some ⟨g5, 0, none⟩) (n + 1) c5 ∧ (w5.cell? ⟨g5, n * 3, none⟩ = some (.int .i64 0) ∧ w5.cell? ⟨g5, n * 3 + 1, none⟩ = some (.int .i64 0) ∧ w5.cell? ⟨g5, n * 3 + 2, none⟩ = some (.slice none 0 0)) ∧ (w5.frozen? ⟨g5, n * 3, none⟩ = false ∧ w5.frozen? ⟨g5, n * 3 + 1, none⟩ = false ∧ w5.frozen? ⟨g5, n * 3 + 2, none⟩ = false) ∧ w5.cell? ⟨g, o, none⟩ = some u ∧ w5.frozen? ⟨g, o, none⟩ = false ∧ g5 ≠ g ∧ n + 1 ≤ c5 ∧ (some g5 = row ∨ X.heap.size ≤ g5) := by
  obtain ⟨g5, c5, rfl, hc5, _⟩ := own_slot hown
  have hgX : w5.heap[g]? = W.heap[g]? := (hg.block g (Nat.lt_of_lt_of_le hgW hb.size) (fun e => hne e.symm)).trans (hb.block g hgW)
  have hat' : some g5 = row ∨ X.heap.size ≤ g5 := hat.imp id (fun q => Nat.le_of_eq (by simpa [Value.ownBlock] using q.symm))
  refine ⟨g5, c5, rfl, ⟨(hown.cellAt _ (by omega)).trans ?_, (hown.cellAt _ (by omega)).trans ?_, (hown.cellAt _ (by omega)).trans ?_⟩, ⟨hown.frozenAt _, hown.frozenAt _, hown.frozenAt _⟩, (World.cell?_of_block (a := ⟨g, o, none⟩) hgX).trans hc, (World.frozen?_of_block (a := ⟨g, o, none⟩) hgX).trans hf, fun e => ?_, hc5, hat'⟩
  · rw [List.getElem?_append_right (by omega)]; simp [hl]
  · rw [List.getElem?_append_right (by omega)]; simp [hl]
  · rw [List.getElem?_append_right (by omega)]; simp [hl]
  · rcases hat' with q | q
    · exact hne (e ▸ q.symm)
    · have := hb.size; omega
theorem three_at {X : World} {n : Nat} {x y z : Value} (h0 : X.cell? ⟨n, 0, none⟩ = some x) (h1 : X.cell? ⟨n, 1, none⟩ = some y) (h2 : X.cell? ⟨n, 2, none⟩ = some z) : ∀ j v, [x, y, z][j]? = some v → X.cell? ((⟨n, 0, none⟩ : Addr).add j) = some v := by
  intro j v hj
  match j, hj with
  | 0, hj => simp at hj; subst hj; simpa [Addr.add] using h0
  | 1, hj => simp at hj; subst hj; simpa [Addr.add] using h1
  | 2, hj => simp at hj; subst hj; simpa [Addr.add] using h2
  | j + 3, hj => simp at hj

theorem put_fin {n0 B : Nat} {F : List FM} {g c g5 c5 : Nat} {e : FE} {w X w5 : World} (H : NSt n0 B F (.slice (some ⟨g, 0, none⟩) F.length c) w) (hb : Below w.heap.size w X) (hh : hasHome F) (he : OwnS w e.K e.a e.t.kids ∧ e.t.kids.length ≤ e.c ∧ (isW e.t.f ∧ isW e.t.v) ∧ ∀ k, e.K k → B ≤ k ∧ k < w.heap.size) (hd : ∀ x ∈ F, ∀ k, e.K k → ¬ x.S k) (hdg : ¬ e.K g)
    (hg : X.grownBy w5 (Value.slice (homeFr F).am (homeFr F).L.length (homeFr F).cm).ownBlock) (hown : w5.ownsRow B 43 3 (.slice (some ⟨g5, 0, none⟩) ((homeFr F).L.length + 1) c5) ((homeFr F).L.length + 1) (cs3 ((homeFr F).L.map FE.cells) ++ [.int .i64 0, .int .i64 0, .slice none 0 0])) (hat : some g5 = (Value.slice (homeFr F).am (homeFr F).L.length (homeFr F).cm).ownBlock ∨ X.heap.size ≤ g5) :
    NSt n0 B (putHome e (some ⟨g5, 0, none⟩) c5 F) (.slice (some ⟨g, 0, none⟩) F.length c) ((((w5.setCell ⟨g5, (homeFr F).L.length * 3, none⟩ (.int .i64 e.t.f)).setCell ⟨g5, (homeFr F).L.length * 3 + 1, none⟩ (.int .i64 e.t.v)).setCell ⟨g5, (homeFr F).L.length * 3 + 2, none⟩ (.slice e.a e.t.kids.length e.c)).setCell ⟨g, homeIx F * 6 + 4, none⟩ (.slice (some ⟨g5, 0, none⟩) ((homeFr F).L.length + 1) c5)) ∧
      Stay (fun k => k < B) w ((((w5.setCell ⟨g5, (homeFr F).L.length * 3, none⟩ (.int .i64 e.t.f)).setCell ⟨g5, (homeFr F).L.length * 3 + 1, none⟩ (.int .i64 e.t.v)).setCell ⟨g5, (homeFr F).L.length * 3 + 2, none⟩ (.slice e.a e.t.kids.length e.c)).setCell ⟨g, homeIx F * 6 + 4, none⟩ (.slice (some ⟨g5, 0, none⟩) ((homeFr F).L.length + 1) c5)) := by
  obtain ⟨h1, h2⟩ := own_fill (p := .int .i64 e.t.f) (q := .int .i64 e.t.v) (s := .slice e.a e.t.kids.length e.c) hown (by rw [cs3_len]; simp) hg hat
  have hgl := H.row.lt g rfl
  have HX := H.on hb
  refine ⟨HX.put hh ⟨he.1.frame (fun k hk => hb.block k (he.2.2.2 k hk).2) hb.size, he.2.1, he.2.2.1, fun k hk => ⟨(he.2.2.2 k hk).1, Nat.lt_of_lt_of_le (he.2.2.2 k hk).2 hb.size⟩⟩ hd hdg h2 h1 hat, ?_⟩
  refine ((Stay.of_below (S := fun k => k < B) hb (fun k hk _ => hk)).trans (.grown h2 (fun k q hk => by have := ((HX.fr _ (home_mem hh)).row.lt k q).1; omega))).trans (.setCell _ _ (fun q => by simp only at q; omega))

set_option maxHeartbeats 3200000 in
theorem put_any (n0 B : Nat) (F : List FM) (g c : Nat) (e : FE) (w : World) (H : NSt n0 B F (.slice (some ⟨g, 0, none⟩) F.length c) w) (hh : hasHome F) (hF : F.length ≤ 549755813888) (he : OwnS w e.K e.a e.t.kids ∧ e.t.kids.length ≤ e.c ∧ (isW e.t.f ∧ isW e.t.v) ∧ ∀ k, e.K k → B ≤ k ∧ k < w.heap.size) (hd : ∀ x ∈ F, ∀ k, e.K k → ¬ x.S k) (hdg : ¬ e.K g) (hL : (homeFr F).L.length ≤ 549755813888) :
    Calls Try.prog 57 #[.slice (some ⟨g, 0, none⟩) F.length c, .agg #[.int .i64 e.t.f, .int .i64 e.t.v, .slice e.a e.t.kids.length e.c]] w fun r w' => ∃ g2 c2, r = .returned (.tuple #[]) ∧ NSt n0 B (putHome e (some ⟨g2, 0, none⟩) c2 F) (.slice (some ⟨g, 0, none⟩) F.length c) w' ∧ Stay (fun k => k < B) w w' := by
  obtain ⟨i0, hi0, hz0, hz1, hz2⟩ := info_parts info29
  obtain ⟨x, r, rfl⟩ : ∃ x r, F = x :: r := by cases F with | nil => exact hh.elim | cons x r => exact ⟨x, r, rfl⟩
  simp only [List.length_cons] at *
  obtain ⟨_, _, _, _, _, q5⟩ := top_cells H
  have hgl := H.row.lt g rfl
  have hix := home_lt hh
  have hq4 : w.cell? ⟨g, homeIx (x :: r) * 6 + 4, none⟩ = some (.slice (homeFr (x :: r)).am (homeFr (x :: r)).L.length (homeFr (x :: r)).cm) := (H.row.cellAt _ (by simp only [List.length_cons] at hix; omega)).trans (home_cell hh)
  have fr4 : w.frozen? ⟨g, homeIx (x :: r) * 6 + 4, none⟩ = false := H.row.frozenAt _
  have hrow := (H.fr _ (home_mem hh)).row
  have hhg : (Value.slice (homeFr (x :: r)).am (homeFr (x :: r)).L.length (homeFr (x :: r)).cm).ownBlock ≠ some g := fun q => H.vb g rfl _ (home_mem hh) (.inl q)
  have HH : Hid _ := H
  clear H
  simp only [List.length_cons] at hix
  obtain ⟨ix, hixe⟩ : ∃ ix, ix = homeIx (x :: r) := ⟨_, rfl⟩
  obtain ⟨hf, hfe⟩ : ∃ hf, hf = homeFr (x :: r) := ⟨_, rfl⟩
  have HIX : Hid (ix = homeIx (x :: r)) := hixe
  have HFE : Hid (hf = homeFr (x :: r)) := hfe
  rw [← hixe] at hq4 fr4 hix q5
  rw [← hfe] at hq4 hL hrow hhg
  clear hixe hfe
  have hixz : (ix : Int) < (r.length : Int) + 1 := by omega
  have hgl2 := hgl.2
  go_enter Try.func57, Try.ntmps57
  obtain ⟨W, hW⟩ : ∃ W, W = w.alloc (.cells #[.int .i64 e.t.f, .int .i64 e.t.v, .slice e.a e.t.kids.length e.c] 43) := ⟨_, rfl⟩
  have hb0 : Below w.heap.size w W := by rw [hW]; exact (Below.refl _ _).alloc (Nat.le_refl _) _
  have p0 : W.cell? ⟨w.heap.size, 0, none⟩ = some (.int .i64 e.t.f) := by rw [hW]; simp [go_sem]
  have p1 : W.cell? ⟨w.heap.size, 1, none⟩ = some (.int .i64 e.t.v) := by rw [hW]; simp [go_sem]
  have p2 : W.cell? ⟨w.heap.size, 2, none⟩ = some (.slice e.a e.t.kids.length e.c) := by rw [hW]; simp [go_sem]
  have hWz : W.heap.size = w.heap.size + 1 := by rw [hW]; simp
  go_wp2
  rw [← hW]
  have c4 := keepC hb0 hq4
  have f4 : W.frozen? ⟨g, ix * 6 + 4, none⟩ = false := (hb0.frozen (p := ⟨g, ix * 6 + 4, none⟩) hgl2).trans fr4
  have hrW := own_on hrow hb0
  have hgW : g < W.heap.size := by omega
  clear hq4 fr4 hW
  have hxl : (cs3 (hf.L.map FE.cells)).length = hf.L.length * 3 := by rw [cs3_len]; simp
  have hLz : (hf.L.length : Int) < (hf.L.length : Int) + 1 := by omega
  go_region_law (refine step_append_own rfl (.tmp 17) (.tmp 20) 41 rfl B 43 i0 _ 3 40 Try.underlying41 hi0 hz0 hz1 hz2 rfl (by decide) (.slice hf.am hf.L.length hf.cm) hf.L.length (cs3 (hf.L.map FE.cells)) (by first | (simp [Act.eval]; done) | simp [Act.eval, Act.put]) (own_on hrW (by repeat (first | exact Below.refl _ _ | refine Below.drew ?_ | refine Below.alloc ?_ (by simp) _))) ⟨w.heap.size + 1, 0, none⟩ 1 1 [.int .i64 0, .int .i64 0, .slice none 0 0] (by first | (simp [Act.eval]; done) | simp [Act.eval, Act.put]) rfl (three_at (by simp [← hWz]) (by simp [← hWz]) (by simp [← hWz])) (three_cell _ _ _ _ _) (by unfold maxLen; omega) (by omega) (by simp; omega) ?_; intro v5 w5 hown5 hgrow5 hat5; have PF := put_facts hxl hown5 hgrow5 hat5 (by repeat (first | exact Below.refl _ _ | refine Below.drew ?_ | refine Below.alloc ?_ (by simp) _)) hgW c4 f4 hhg; obtain ⟨g5, c5, rfl, ⟨e0, e1, e2⟩, ⟨f0, f1, f2⟩, c4', f4', hg5, hc5, hat'⟩ := PF; have HO5 : Hid _ := hown5; have HG5 : Hid _ := hgrow5; clear hown5 hgrow5 hat5)
  all_goals
    have hO := HO5.out
    have hG := HG5.out
    rw [HFE.out] at hO hG hat'
    have FI := put_fin HH.out (hb0.trans (Below.mono (by repeat (first | exact Below.refl _ _ | refine Below.drew ?_ | refine Below.alloc ?_ (by simp) _)) hb0.size)) hh he hd hdg hG hO hat'
    rw [← HFE.out, ← HIX.out] at FI
    go_end0
    first
      | exact ⟨g5, c5, rfl, FI.1, FI.2⟩
      | (rw [set_comm _ g g5 _ _ _ _ hg5.symm, set_comm _ g g5 _ _ _ _ hg5.symm, set_comm _ g g5 _ _ _ _ hg5.symm]; exact ⟨g5, c5, rfl, FI.1, FI.2⟩)
end Go.Proofs.Ythbilahilmmfmaa

/- A drawn term: in one form, or turned at one place. Conditions: at most 1048576 bytes. -/
namespace Go.Proofs.Ythbilahilmmfmaa
set_option maxRecDepth 100000
open Go.RowKit

theorem Foc.blt {N r : Nat} {S : Nat → Prop} {T : TermD} {b o : Nat} {u : TermD} {ua : Option Addr} {uc : Nat} {U : Nat → Prop} {w : World} (h : Foc N r S T b o u ua uc U w) : b < w.heap.size := Nat.lt_of_lt_of_le (h.SN b h.bin) h.Nw
theorem Foc.rowne {N r : Nat} {S : Nat → Prop} {T : TermD} {b o : Nat} {u : TermD} {ua : Option Addr} {uc : Nat} {U : Nat → Prop} {w : World} (h : Foc N r S T b o u ua uc U w) : (Value.slice ua u.kids.length uc).ownBlock ≠ some b := by
  obtain ⟨A, C, K, _, _, _, _, hbU, _⟩ := h.own.each
  exact fun e => h.bU (hbU b e)

set_option maxHeartbeats 1600000 in
set_option maxRecDepth 100000 in
theorem draw_any (c : Nat) (a : Option Addr) (bs : List Int) (cap : Nat) (w : World) (hl : bs.length ≤ 1048576) (hc : Cur 91 w c a bs cap) (hbs : bs = [] ∨ ∀ x, a = some x → x.block < w.heap.size) :
    Calls Try.prog 78 #[.pointer (some ⟨c, 0, none⟩)] w fun e w' => ∃ t ta tc, e = .returned (.agg #[.int .i64 t.f, .int .i64 t.v, .slice ta t.kids.length tc]) ∧ DrawT w c a bs cap 15 t ta tc w' := by
  obtain ⟨i0, hi0, hz0, hz1, hz2⟩ := info_parts info29
  have D0 := DC.start hc
  have HB : Hid (bs = [] ∨ ∀ x, a = some x → x.block < w.heap.size) := hbs
  clear hc hbs
  go_enter Try.func78, Try.ntmps78
  go_upto_block 0 with (go_at_call 92; refine (right_any c a bs cap 3 _ hl (by omega) (by omega) D0.cur (HB.out.imp id (fun h x hx => Nat.lt_of_lt_of_le (h x hx) D0.st.size))).mono ?_; rintro e w1 ⟨t0, ta, tc, rfl, T1⟩; generalize normT (blindAt sig7) t0 = T at T1 ⊢; have D1 := (D0.stay T1.st T1.cur); clear D0)
  have HC : Hid (∀ x, (w.heap.size + 1 ≤ x ∧ x < w1.heap.size) ∨ x = w1.heap.size → x ≠ c) := by have := D1.lt; have := D1.z; intro x hx; omega
  have hz1' := D1.z
  have HT : Hid (partsT T ≤ 7) := T1.parts
  have F0 : Foc (w1.heap.size + 1) w1.heap.size (fun x => w.heap.size + 1 ≤ x ∧ x < w1.heap.size) T w1.heap.size 0 T ta tc (fun x => w.heap.size + 1 ≤ x ∧ x < w1.heap.size) (w1.alloc (.cells #[.int .i64 T.f, .int .i64 T.v, .slice ta T.kids.length tc] 43)) := by
    have hb := (Below.refl w1.heap.size w1).alloc (Nat.le_refl _) (.cells #[.int .i64 T.f, .int .i64 T.v, .slice ta T.kids.length tc] 43)
    refine Foc.root ?_ ?_ ?_ (fun j => ?_) ((T1.own.frame (fun x hx => hb.block x hx.2) hb.size).mono (fun x hx => ⟨by simpa using hx.1, hx.2⟩)) T1.wf (fun h => by omega) (fun x hx => by omega) (by simp)
    all_goals simp [go_sem]
  have D2 := D1.on ((Below.refl w1.heap.size w1).alloc (Nat.le_refl _) (.cells #[.int .i64 T.f, .int .i64 T.v, .slice ta T.kids.length tc] 43))
  clear T1 D1
  go_cut [4] from 5 (fun s4 wl => ∃ (b o : Nat) (u : TermD) (ua : Option Addr) (uc : Nat) (U : Nat → Prop), s4 = .pointer (some ⟨b, o, none⟩) ∧ DC w c a bs cap wl ∧ Foc (w1.heap.size + 1) w1.heap.size (fun x => w.heap.size + 1 ≤ x ∧ x < w1.heap.size) T b o u ua uc U wl)
  case first =>
    go_wp2_with fail
    go_loopw [4, 5] (fun n i wr => ∃ (k b o : Nat) (u : TermD) (ua : Option Addr) (uc : Nat) (U : Nat → Prop), k ≤ 3 ∧ i = .int .i64 k ∧ n = .pointer (some ⟨b, o, none⟩) ∧ DC w c a bs cap wr ∧ Foc (w1.heap.size + 1) w1.heap.size (fun x => w.heap.size + 1 ≤ x ∧ x < w1.heap.size) T b o u ua uc U wr) (fun _ i _ => 3 - (intOf i).toNat)
    case atStart => exact ⟨0, w1.heap.size, 0, T, ta, tc, _, by omega, rfl, rfl, D2, F0⟩
    case round =>
      obtain ⟨k, b, o, u, ua, uc, U, hk, rfl, rfl, D, F⟩ := hrel
      clear D2 F0
      have c2 := F.c2
      have hul : u.kids.length < 7 := Nat.lt_of_lt_of_le F.len HT.out
      by_cases hk3 : k < 3
      · have hk3z : (k : Int) < 3 := by omega
        by_cases hu : u.kids.length = 0
        · rw [hu] at c2
          go_wp2_with fail
          go_meet
          case rel => exact ⟨b, o, u, ua, uc, U, rfl, D, F⟩
        · obtain ⟨g, _, _, _, hua, _⟩ := F.down (i := 0) (by omega)
          subst hua
          have hu1 : (0 : Int) < (u.kids.length : Int) := by omega
          go_wp2_with (go_at_call 45; refine (once_any c a bs cap _ _ hl (by omega) (by omega) D.cur).mono ?_; rintro e wa ⟨b1, rfl, hC1, hg1⟩; have D' := D.stay (stay_of_grown hg1) hC1; have F' := F.stay (stay_of_grown hg1) HC.out; clear c2 D F hC1 hg1; have D := D'; have F := F'; clear D' F'; have c2 := F.c2)
          · have DD := D.on (Below.refl _ _).drew
            have FF := F.below (Below.refl _ _).drew
            have cc := FF.c2
            clear D F c2
            go_region_with (go_at_call 46; refine (below_any c a bs cap (u.kids.length : Int) _ hl (by omega) (by omega) DD.cur).mono ?_; rintro e wb ⟨q, rfl, hq, hC1, hg1⟩; have D' := DD.stay (stay_of_grown hg1) hC1; have F' := FF.stay (stay_of_grown hg1) HC.out; clear cc DD FF hC1 hg1; have D := D'; have F := F'; clear D' F'; have c2 := F.c2)
            all_goals
              obtain ⟨g', a', c', U', hg', F2⟩ := F.down (i := q) (by omega)
              cases hg'
              go_wp2_with fail
              go_roundw
              case measure => simp [intOf]; omega
              case rel => exact ⟨k + 1, _, _, _, a', c', U', by omega, by simp, by simp, D, F2⟩
          · go_meet
            case rel => exact ⟨b, o, u, _, uc, U, rfl, D, F⟩
      · have hk3z : ¬ (k : Int) < 3 := by omega
        go_wp2_with fail
        go_meet
        case rel => exact ⟨b, o, u, ua, uc, U, rfl, D, F⟩
  case rest =>
    obtain ⟨b, o, u, ua, uc, U, rfl, D, F⟩ := hcut
    clear D2 F0
    have c2 := F.c2
    have hul : u.kids.length < 7 := Nat.lt_of_lt_of_le F.len HT.out
    go_wp2_with (go_at_call 46; refine (below_any c a bs cap 12 _ hl (by omega) (by omega) D.cur).mono ?_; rintro e wt ⟨q, rfl, hq, hC1, hg1⟩; have D' := D.stay (stay_of_grown hg1) hC1; have F' := F.stay (stay_of_grown hg1) HC.out; clear c2 D F hC1 hg1; have D := D'; have F := F'; have hlt := D.lt; have hzt := D.z; obtain ⟨T5, ta5, tc5, ⟨n0, n1, n2⟩, hO5, hW5, hP5⟩ := F.now; have r0 := D.r0; have r1 := D.r1; have r2 := D.r2; have fr := D.fr; clear D' F')
    · clear n0 n1 n2 hO5 hW5 hP5 r0 r1 r2 fr
      refine (pickInt_any c a bs cap wt.heap.size 5 [-2, -1, 0, 5, 7] 5 _ hl rfl (by simp) (by simp) (D.on ((Below.refl _ _).alloc (Nat.le_refl _) _)).cur (by simp) (by omega) (lit_cells wt [-2, -1, 0, 5, 7])).mono ?_
      rintro e wp ⟨z, rfl, hz, hC2, hg2⟩
      have D1 := (D.on ((Below.refl _ _).alloc (Nat.le_refl _) _)).stay (stay_of_grown hg2) hC2
      have F1 := (F.below ((Below.refl _ _).alloc (Nat.le_refl _) _)).stay (stay_of_grown hg2) HC.out
      have hzw : isW z := by simp at hz; unfold isW; omega
      have e0 := F1.c0
      have ef := F1.fr (o)
      have hbb : w.heap.size + 1 ≤ b := F1.bin.elim (fun h => h.1) (fun h => by omega)
      obtain ⟨T5, ta5, tc5, ⟨n0, n1, n2⟩, hO5, hW5, hP5⟩ := F1.setF hzw
      have D2 := D1.grow (grown_set wp b (o) (.int .i64 z)) hbb HB.out
      have r0 := D2.r0
      have r1 := D2.r1
      have r2 := D2.r2
      have fr := D2.fr
      clear D D1 F F1 hC2 hg2
      go_wp2_with fail
      obtain ⟨z0, z1, z2⟩ := fin_res D2 (.int .i64 T5.f) (.int .i64 T5.v) (.slice ta5 T5.kids.length tc5)
      exact bodyPost_ret (v := .agg #[.int .i64 T5.f, .int .i64 T5.v, .slice ta5 T5.kids.length tc5]) (by simp [results, Try.results78, go_sem, z0, z1, z2]) rfl ⟨T5, ta5, tc5, rfl, D2.fin (t := T5) HB.out (hO5.mono (fun x hx => ⟨hx.1.elim (fun h => h.1) (fun h => by omega), hx.2⟩)) hO5.le hW5 (by have := HT.out; omega)⟩
    · clear n0 n1 n2 hO5 hW5 hP5 r0 r1 r2 fr
      refine (pickInt_any c a bs cap wt.heap.size 4 [-1, 1, 99, 100] 4 _ hl rfl (by simp) (by simp) (D.on ((Below.refl _ _).alloc (Nat.le_refl _) _)).cur (by simp) (by omega) (lit_cells wt [-1, 1, 99, 100])).mono ?_
      rintro e wp ⟨z, rfl, hz, hC2, hg2⟩
      have D1 := (D.on ((Below.refl _ _).alloc (Nat.le_refl _) _)).stay (stay_of_grown hg2) hC2
      have F1 := (F.below ((Below.refl _ _).alloc (Nat.le_refl _) _)).stay (stay_of_grown hg2) HC.out
      have hzw : isW z := by simp at hz; unfold isW; omega
      have e0 := F1.c1
      have ef := F1.fr (o + 1)
      have hbb : w.heap.size + 1 ≤ b := F1.bin.elim (fun h => h.1) (fun h => by omega)
      obtain ⟨T5, ta5, tc5, ⟨n0, n1, n2⟩, hO5, hW5, hP5⟩ := F1.setV hzw
      have D2 := D1.grow (grown_set wp b (o + 1) (.int .i64 z)) hbb HB.out
      have r0 := D2.r0
      have r1 := D2.r1
      have r2 := D2.r2
      have fr := D2.fr
      clear D D1 F F1 hC2 hg2
      go_wp2_with fail
      obtain ⟨z0, z1, z2⟩ := fin_res D2 (.int .i64 T5.f) (.int .i64 T5.v) (.slice ta5 T5.kids.length tc5)
      exact bodyPost_ret (v := .agg #[.int .i64 T5.f, .int .i64 T5.v, .slice ta5 T5.kids.length tc5]) (by simp [results, Try.results78, go_sem, z0, z1, z2]) rfl ⟨T5, ta5, tc5, rfl, D2.fin (t := T5) HB.out (hO5.mono (fun x hx => ⟨hx.1.elim (fun h => h.1) (fun h => by omega), hx.2⟩)) hO5.le hW5 (by have := HT.out; omega)⟩
    · clear n0 n1 n2 hO5 hW5 hP5 r0 r1 r2 fr
      have c2 := F.c2
      have hwt9 : w1.heap.size + 1 ≤ wt.heap.size := F.Nw
      have HB2 : Hid (w.heap.size + 1 ≤ b) := F.bin.elim (fun h => h.1) (fun h => by show _ ≤ _; omega)
      have c2a : (wt.alloc (.cells #[.int .i64 0, .int .i64 0, .slice none 0 0] 43)).cell? ⟨b, o + 2, none⟩ = some (.slice ua u.kids.length uc) := keepC ((Below.refl _ _).alloc (Nat.le_refl _) _) c2
      have hcz : wt.heap.size ≠ c := by omega
      have hulz : (u.kids.length : Int) < (u.kids.length : Int) + 1 := by omega
      go_region_law (first
        | (go_simp; go_at_call 52; refine (deep_any c a bs cap 2 hl (by omega) (by omega) 1 (wt.drew.alloc (.cells #[.int .i64 0, .int .i64 0, .slice none 0 0] 43)) (by omega) (D.on ((Below.refl _ _).drew.alloc (Nat.le_refl _) _)).cur (HB.out.imp id (fun h x hx => Nat.lt_of_lt_of_le (Nat.lt_of_lt_of_le (h x hx) D.st.size) (by simp)))).mono ?_; rintro e wp ⟨t2, ta2, tc2, rfl, T9⟩; have D1 := (D.on ((Below.refl _ _).drew.alloc (Nat.le_refl _) _)).stay T9.st T9.cur; have F1 := (F.below ((Below.refl _ _).drew.alloc (Nat.le_refl _) _)).stay T9.st HC.out; have hsz9 := T9.st.size; have z0 := T9.st.cell (p := ⟨wt.heap.size, 0, none⟩) (v := .int .i64 0) (by simp [go_sem]) hcz; have z1 := T9.st.cell (p := ⟨wt.heap.size, 1, none⟩) (v := .int .i64 0) (by simp [go_sem]) hcz; have z2 := T9.st.cell (p := ⟨wt.heap.size, 2, none⟩) (v := .slice none 0 0) (by simp [go_sem]) hcz; have c2' := F1.c2; have f2' := F1.fr (o + 2); have hbw := F1.blt; have hne := F1.rowne; obtain ⟨xs, hrow⟩ := F1.own.own; have hxl := hrow.1; have HD1 : Hid _ := D1; have HF1 : Hid _ := F1; have HT9 : Hid _ := T9; have HR : Hid _ := hrow; have HX : Hid (w1.heap.size + 1 ≤ (wt.drew.alloc (.cells #[.int .i64 0, .int .i64 0, .slice none 0 0] 43)).heap.size) := Nat.le_trans hwt9 (by simp); clear D1 F1 T9)
        | (go_simp; go_at_call 52; refine (deep_any c a bs cap 2 hl (by omega) (by omega) 1 (wt.drew) (by omega) (D.on (Below.refl _ _).drew).cur (HB.out.imp id (fun h x hx => Nat.lt_of_lt_of_le (Nat.lt_of_lt_of_le (h x hx) D.st.size) (by simp)))).mono ?_; rintro e wp ⟨t2, ta2, tc2, rfl, T9⟩; have D1 := (D.on (Below.refl _ _).drew).stay T9.st T9.cur; have F1 := (F.below (Below.refl _ _).drew).stay T9.st HC.out; have hsz9 := T9.st.size; have zB : True := trivial; have c2' := F1.c2; have f2' := F1.fr (o + 2); have hbw := F1.blt; have hne := F1.rowne; obtain ⟨xs, hrow⟩ := F1.own.own; have hxl := hrow.1; have HD1 : Hid _ := D1; have HF1 : Hid _ := F1; have HT9 : Hid _ := T9; have HR : Hid _ := hrow; have HX : Hid (w1.heap.size + 1 ≤ (wt.drew).heap.size) := Nat.le_trans hwt9 (by simp); clear D1 F1 T9)
        | (have _ := zB; refine step_append_own rfl (.tmp 60) (.tmp 64) 41 rfl 0 43 i0 _ 3 40 Try.underlying41 hi0 hz0 hz1 hz2 rfl (by decide) (.slice ua u.kids.length uc) u.kids.length xs (by first | (simp [Act.eval]; done) | simp [Act.eval, Act.put]) (own_on hrow (by repeat (first | exact Below.refl _ _ | refine Below.drew ?_ | refine Below.alloc ?_ (by simp) _))) ⟨wp.heap.size, 0, none⟩ 1 1 [.int .i64 0, .int .i64 0, .slice none 0 0] (by first | (simp [Act.eval]; done) | simp [Act.eval, Act.put]) rfl (three_at (by simp) (by simp) (by simp)) (three_cell _ _ _ _ _) (by unfold maxLen; omega) (by omega) (by simp <;> omega) ?_; intro v5 w5 hown5 hgrow5 hat5; have PF := put_facts hrow.1 hown5 hgrow5 hat5 (by repeat (first | exact Below.refl _ _ | refine Below.drew ?_ | refine Below.alloc ?_ (by simp) _)) hbw c2' f2' hne; have HA5 : Hid _ := hat5; obtain ⟨g5, c5, rfl, ⟨e0, e1, e2⟩, ⟨f0, f1, f2⟩, c4', f4', hg5, hc5, hat'⟩ := PF; have HO5 : Hid _ := hown5; have HG5 : Hid _ := hgrow5; clear hown5 hgrow5 hat5)
        | (refine step_append_own rfl (.tmp 60) (.tmp 64) 41 rfl 0 43 i0 _ 3 40 Try.underlying41 hi0 hz0 hz1 hz2 rfl (by decide) (.slice ua u.kids.length uc) u.kids.length xs (by first | (simp [Act.eval]; done) | simp [Act.eval, Act.put]) (own_on hrow (by repeat (first | exact Below.refl _ _ | refine Below.drew ?_ | refine Below.alloc ?_ (by simp) _))) ⟨wt.heap.size, 0, none⟩ 1 1 [.int .i64 0, .int .i64 0, .slice none 0 0] (by first | (simp [Act.eval]; done) | simp [Act.eval, Act.put]) rfl (three_at z0 z1 z2) (three_cell _ _ _ _ _) (by unfold maxLen; omega) (by omega) (by simp <;> omega) ?_; intro v5 w5 hown5 hgrow5 hat5; have PF := put_facts hrow.1 hown5 hgrow5 hat5 (by repeat (first | exact Below.refl _ _ | refine Below.drew ?_ | refine Below.alloc ?_ (by simp) _)) hbw c2' f2' hne; have HA5 : Hid _ := hat5; obtain ⟨g5, c5, rfl, ⟨e0, e1, e2⟩, ⟨f0, f1, f2⟩, c4', f4', hg5, hc5, hat'⟩ := PF; have HO5 : Hid _ := hown5; have HG5 : Hid _ := hgrow5; clear hown5 hgrow5 hat5))
      all_goals
        clear e0 e1 e2 f0 f1 f2 c4' f4' c2' f2'
        obtain ⟨h1, h2⟩ := own_fill (p := .int .i64 t2.f) (q := .int .i64 t2.v) (s := .slice ta2 t2.kids.length tc2) HO5.out hxl HG5.out hat'
        have A5 := app_now HF1.out HD1.out HT9.out HX.out HT.out HB.out HB2.out (by repeat (first | exact Below.refl _ _ | refine Below.drew ?_ | refine Below.alloc ?_ (by simp) _)) (own_on HR.out (by repeat (first | exact Below.refl _ _ | refine Below.drew ?_ | refine Below.alloc ?_ (by simp) _))) h1 h2 HA5.out
        have hp2 : partsT t2 ≤ 3 := by simpa [bdN] using HT9.out.parts
        obtain ⟨g6, c6, T5, ta5, tc5, hv, D2, d2, df, ⟨n0, n1, n2⟩, hO5, hW5, hP5⟩ := A5
        cases hv
        clear h1 h2 d2 df
        try rw [set_comm _ b g5 _ _ _ _ hg5.symm, set_comm _ b g5 _ _ _ _ hg5.symm, set_comm _ b g5 _ _ _ _ hg5.symm]
        obtain ⟨wf, hwf⟩ : ∃ wf, wf = ((((w5.setCell ⟨g5, u.kids.length * 3, none⟩ (.int .i64 t2.f)).setCell ⟨g5, u.kids.length * 3 + 1, none⟩ (.int .i64 t2.v)).setCell ⟨g5, u.kids.length * 3 + 2, none⟩ (.slice ta2 t2.kids.length tc2)).setCell ⟨b, o + 2, none⟩ (.slice (some ⟨g5, 0, none⟩) (u.kids.length + 1) c5)) := ⟨_, rfl⟩
        rw [← hwf] at D2 n0 n1 n2 hO5 ⊢
        clear hwf
        have r0 := D2.r0
        have r1 := D2.r1
        have r2 := D2.r2
        have fr := D2.fr
        go_wp2_with fail
        obtain ⟨z0, z1, z2⟩ := fin_res D2 (.int .i64 T5.f) (.int .i64 T5.v) (.slice ta5 T5.kids.length tc5)
        exact bodyPost_ret (v := .agg #[.int .i64 T5.f, .int .i64 T5.v, .slice ta5 T5.kids.length tc5]) (by simp [results, Try.results78, go_sem, z0, z1, z2]) rfl ⟨T5, ta5, tc5, rfl, D2.fin (t := T5) HB.out (hO5.mono (fun x hx => ⟨hx.1.elim (fun h => h.1) (fun h => by omega), hx.2⟩)) hO5.le hW5 (by have := HT.out; omega)⟩
    · clear n0 n1 n2 hO5 hW5 hP5 r0 r1 r2 fr
      refine (deep_any c a bs cap 3 hl (by omega) (by omega) 3 wt (by omega) D.cur (HB.out.imp id (fun h x hx => Nat.lt_of_lt_of_le (h x hx) D.st.size))).mono ?_
      rintro e wp ⟨T5, ta5, tc5, rfl, T9⟩
      have D2 := D.stay T9.st T9.cur
      have hO5 := T9.own
      have hW5 := T9.wf
      have hP5 := T9.parts
      have r0 := D2.r0
      have r1 := D2.r1
      have r2 := D2.r2
      have fr := D2.fr
      clear D F
      go_wp2_with fail
      obtain ⟨z0, z1, z2⟩ := fin_res D2 (.int .i64 T5.f) (.int .i64 T5.v) (.slice ta5 T5.kids.length tc5)
      exact bodyPost_ret (v := .agg #[.int .i64 T5.f, .int .i64 T5.v, .slice ta5 T5.kids.length tc5]) (by simp [results, Try.results78, go_sem, z0, z1, z2]) rfl ⟨T5, ta5, tc5, rfl, D2.fin (t := T5) HB.out (hO5.mono (fun x hx => ⟨by omega, hx.2⟩)) T9.le hW5 (by simpa [bdN] using hP5)⟩
    · obtain ⟨z0, z1, z2⟩ := fin_res D (.int .i64 T5.f) (.int .i64 T5.v) (.slice ta5 T5.kids.length tc5)
      exact bodyPost_ret (v := .agg #[.int .i64 T5.f, .int .i64 T5.v, .slice ta5 T5.kids.length tc5]) (by simp [results, Try.results78, go_sem, z0, z1, z2]) rfl ⟨T5, ta5, tc5, rfl, D.fin (t := T5) HB.out (hO5.mono (fun x hx => ⟨hx.1.elim (fun h => h.1) (fun h => by omega), hx.2⟩)) hO5.le hW5 (by have := HT.out; omega)⟩
end Go.Proofs.Ythbilahilmmfmaa

/- All terms within a term, in the order in which the program goes over them, and its stack of lists. Conditions: none. -/
namespace Go.Proofs.Ythbilahilmmfmaa
set_option maxRecDepth 100000
open Go.RowKit

mutual
/-- A term and all terms within it, a term ahead of its Kids. -/
def preT : TermD → List TermD
  | .mk f v ks => .mk f v ks :: preL ks
def preL : List TermD → List TermD
  | [] => []
  | t :: ts => preT t ++ preL ts
end
theorem preT_eq (t : TermD) : preT t = t :: preL t.kids := by cases t; rw [preT]; rfl
mutual
theorem preT_len : ∀ t : TermD, (preT t).length = partsT t
  | .mk f v ks => by have := preL_len ks; rw [preT, partsT, List.length_cons, this]
theorem preL_len : ∀ ts : List TermD, (preL ts).length = partsL ts
  | [] => by simp [preL, partsL]
  | t :: ts => by have h1 := preT_len t; have h2 := preL_len ts; rw [preL, partsL, List.length_append, h1, h2]
end
/-- How often variable v stands among terms. -/
def cntP (v : Int) (l : List TermD) : Nat := (l.filter fun x => x.f == -1 && x.v == v).length
theorem cntP_append (v : Int) (a b : List TermD) : cntP v (a ++ b) = cntP v a + cntP v b := by simp [cntP]
mutual
theorem cntP_pre (v : Int) : ∀ t : TermD, cntP v (preT t) = cntT v t
  | .mk f u ks => by
    have := cntP_preL v ks
    rw [preT, cntT, ← this, show TermD.mk f u ks :: preL ks = [TermD.mk f u ks] ++ preL ks from rfl, cntP_append]
    congr 1
    by_cases h1 : f = -1 <;> by_cases h2 : u = v <;> simp [cntP, TermD.f, TermD.v, h1, h2]
theorem cntP_preL (v : Int) : ∀ ts : List TermD, cntP v (preL ts) = cntL v ts
  | [] => by simp [preL, cntL, cntP]
  | t :: ts => by have h1 := cntP_pre v t; have h2 := cntP_preL v ts; rw [preL, cntL, cntP_append, h1, h2]
end

/-- What comes to the loop: a term, and where its Kids lie. -/
structure El where
  t : TermD
  a : Option Addr
  c : Nat
/-- As it comes. -/
def El.enc (x : El) : Array Value := #[.agg #[.int .i64 x.t.f, .int .i64 x.t.v, .slice x.a x.t.kids.length x.c]]

/-- One list on the stack. -/
structure LE where
  a : Option Addr
  c : Nat
  ts : List TermD
def cellsL : List LE → List Value
  | [] => []
  | e :: E => cellsL E ++ [.slice e.a e.ts.length e.c]
theorem cellsL_len (E : List LE) : (cellsL E).length = E.length * 1 := by
  induction E with
  | nil => rfl
  | cons e E ih => simp only [cellsL, List.length_append, ih, List.length_cons, List.length_nil]; omega
/-- All that is still to come. -/
def preS : List LE → List TermD
  | [] => []
  | e :: E => preL e.ts ++ preS E
def sizeL : List LE → Nat
  | [] => 0
  | e :: E => 2 * partsL e.ts + 1 + sizeL E
theorem sizeL_len (E : List LE) : E.length ≤ sizeL E := by
  induction E with
  | nil => simp
  | cons e E ih => simp only [sizeL, List.length_cons]; omega

theorem cellsL_top {w : World} {B T g c : Nat} {e : LE} {E : List LE} (h : w.ownsRow B T 1 (.slice (some ⟨g, 0, none⟩) (E.length + 1) c) (E.length + 1) (cellsL (e :: E))) :
    w.cell? ⟨g, E.length, none⟩ = some (.slice e.a e.ts.length e.c) := by
  have hl := cellsL_len E
  refine (h.cellAt _ (by omega)).trans ?_
  rw [cellsL, List.getElem?_append_right (by omega)]; simp [hl]
theorem cellsL_set {w : World} {B T g c : Nat} {e : LE} {E : List LE} (h : w.ownsRow B T 1 (.slice (some ⟨g, 0, none⟩) (E.length + 1) c) (E.length + 1) (cellsL (e :: E))) (d : LE) :
    (w.setCell ⟨g, E.length, none⟩ (.slice d.a d.ts.length d.c)).ownsRow B T 1 (.slice (some ⟨g, 0, none⟩) (E.length + 1) c) (E.length + 1) (cellsL (d :: E)) := by
  have hl := cellsL_len E
  have h1 := (h.stored E.length (.slice d.a d.ts.length d.c)).1
  have e1 : (cellsL (e :: E)).set E.length (.slice d.a d.ts.length d.c) = cellsL (d :: E) := by
    simp only [cellsL]
    rw [List.set_append_right _ _ (by omega)]
    simp [hl]
  rwa [e1] at h1
theorem cellsL_pop {w : World} {B T g c : Nat} {e : LE} {E : List LE} (h : w.ownsRow B T 1 (.slice (some ⟨g, 0, none⟩) (E.length + 1) c) (E.length + 1) (cellsL (e :: E))) :
    w.ownsRow B T 1 (.slice (some ⟨g, 0, none⟩) E.length c) E.length (cellsL E) := ownsRow_pop (cellsL_len E) h

/-- The blocks in which the terms lie. -/
def Rx (n B k : Nat) : Prop := k < n ∨ k = B

/-- The list at 'a' lies in wr, in a block of S; its terms' Kids lie in w0 below n. -/
def RdF (w0 : World) (n : Nat) (wr : World) (S : Nat → Prop) (a : Option Addr) (ts : List TermD) : Prop :=
  ts = [] ∨ ∃ (b off : Nat) (A : Nat → Option Addr) (C : Nat → Nat), a = some ⟨b, off, none⟩ ∧ S b ∧ (∀ i, (h : i < ts.length) → ts[i].kids.length ≤ C i) ∧
    (∀ i, (h : i < ts.length) → wr.cell? ⟨b, off + i * 3, none⟩ = some (.int .i64 ts[i].f) ∧ wr.cell? ⟨b, off + i * 3 + 1, none⟩ = some (.int .i64 ts[i].v) ∧ wr.cell? ⟨b, off + i * 3 + 2, none⟩ = some (.slice (A i) ts[i].kids.length (C i))) ∧
    (∀ i, (h : i < ts.length) → RdK w0 n (A i) ts[i].kids)
theorem RdF.stay {w0 wr wr' : World} {n : Nat} {S : Nat → Prop} {a : Option Addr} {ts : List TermD} (h : RdF w0 n wr S a ts) (hb : Stay S wr wr') : RdF w0 n wr' S a ts := by
  rcases h with h | ⟨b, off, A, C, h1, h2, h3, h4, h5⟩
  · exact .inl h
  · refine .inr ⟨b, off, A, C, h1, h2, h3, fun i hi => ?_, h5⟩
    obtain ⟨q0, q1, q2⟩ := h4 i hi
    exact ⟨hb.cell q0 h2, hb.cell q1 h2, hb.cell q2 h2⟩
theorem RdF.head {w0 wr : World} {n : Nat} {S : Nat → Prop} {a : Option Addr} {t : TermD} {ts : List TermD} (h : RdF w0 n wr S a (t :: ts)) :
    ∃ b off a' c', a = some ⟨b, off, none⟩ ∧ S b ∧ wr.cell? ⟨b, off, none⟩ = some (.int .i64 t.f) ∧ wr.cell? ⟨b, off + 1, none⟩ = some (.int .i64 t.v) ∧ wr.cell? ⟨b, off + 2, none⟩ = some (.slice a' t.kids.length c') ∧ t.kids.length ≤ c' ∧ RdK w0 n a' t.kids := by
  rcases h with h | ⟨b, off, A, C, h1, h2, h3, h4, h5⟩
  · simp at h
  · have q := h4 0 (by simp)
    simp only [Nat.zero_mul, Nat.add_zero, List.getElem_cons_zero] at q
    exact ⟨b, off, A 0, C 0, h1, h2, q.1, q.2.1, q.2.2, h3 0 (by simp), h5 0 (by simp)⟩
theorem RdF.tailA {w0 wr : World} {n : Nat} {S : Nat → Prop} {b off : Nat} {t : TermD} {ts : List TermD} (h : RdF w0 n wr S (some ⟨b, off, none⟩) (t :: ts)) {c : Nat} (hc : ts.length + 1 ≤ c) : RdF w0 n wr S (tailA b off c) ts := by
  rcases h with h | ⟨b', off', A, C, h1, h2, h3, h4, h5⟩
  · simp at h
  · cases h1
    unfold Go.Proofs.Ythbilahilmmfmaa.tailA
    split
    · exact .inl (List.eq_nil_of_length_eq_zero (by omega))
    · refine .inr ⟨b, off + 3, fun i => A (i + 1), fun i => C (i + 1), rfl, h2, fun i hi => ?_, fun i hi => ?_, fun i hi => ?_⟩
      · have := h3 (i + 1) (by simpa using hi); simpa using this
      · have := h4 (i + 1) (by simpa using hi)
        rw [show off + (i + 1) * 3 = off + 3 + i * 3 by omega] at this
        simpa using this
      · have := h5 (i + 1) (by simpa using hi); simpa using this
theorem RdK.f {w0 wr : World} {n : Nat} {S : Nat → Prop} {a : Option Addr} {ts : List TermD} (h : RdK w0 n a ts) (he : ∀ k, k < n → wr.heap[k]? = w0.heap[k]?) (hs : ∀ k, k < n → S k) : RdF w0 n wr S a ts := by
  cases h with
  | nil a => exact .inl rfl
  | row b off ts A C hlt hl hz hc hk =>
    refine .inr ⟨b, off, A, C, rfl, hs _ hlt, hl.2, fun i hi => ?_, hk⟩
    obtain ⟨q0, q1, q2⟩ := hc i hi
    exact ⟨(World.cell?_of_block (he b hlt)).trans q0, (World.cell?_of_block (he b hlt)).trans q1, (World.cell?_of_block (he b hlt)).trans q2⟩
/-- It read so before what came behind it was laid. -/
theorem RdK.back {w w' : World} {hi : Nat} {a : Option Addr} {ts : List TermD} (h : RdK w' hi a ts) (hb : ∀ k, k < hi → w'.heap[k]? = w.heap[k]?) : RdK w hi a ts := by
  induction h with
  | nil a => exact .nil a
  | row b off ts A C hlt hl hz hc hk ih =>
    refine .row b off ts A C hlt hl hz (fun i h => ?_) ih
    obtain ⟨h0, h1, h2⟩ := hc i h
    exact ⟨(World.cell?_of_block (hb b hlt).symm).trans h0, (World.cell?_of_block (hb b hlt).symm).trans h1, (World.cell?_of_block (hb b hlt).symm).trans h2⟩

/-- The iterator's own memory, apart from the blocks of S. -/
structure WSt (w0 : World) (n B T : Nat) (S : Nat → Prop) (E : List LE) (v : Value) (wr : World) : Prop where
  row : wr.ownsRow n T 1 v E.length (cellsL E)
  own : ∀ g, v.ownBlock = some g → ¬ S g ∧ g ≠ B
  nB : ¬ S B
  lB : B < wr.heap.size
  nle : n ≤ B
  good : ∀ e ∈ E, RdF w0 n wr (Rx n B) e.a e.ts ∧ e.ts.length ≤ e.c
  same : ∀ k, k < n → wr.heap[k]? = w0.heap[k]?

namespace WSt
variable {w0 : World} {n B T : Nat} {S S' : Nat → Prop} {E : List LE} {v : Value} {wr wr' : World}

theorem out (h : WSt w0 n B T S E v wr) : ∀ g, v.ownBlock = some g → ¬ Rx n B g := fun g hg hx => hx.elim (fun h1 => by have := (h.row.lt g hg).1; omega) (h.own g hg).2

/-- New blocks alone. -/
theorem on (h : WSt w0 n B T S E v wr) (hb : Below wr.heap.size wr wr') : WSt w0 n B T S E v wr' :=
  ⟨own_on h.row hb, h.own, h.nB, Nat.lt_of_lt_of_le h.lB hb.size, h.nle, fun e he => ⟨(h.good e he).1.stay (.of_below hb (fun _ hk _ => hk)), (h.good e he).2⟩, fun k hk => (hb.block k (by have := h.lB; have := h.nle; omega)).trans (h.same k hk)⟩

/-- Over a round: the body turns nothing below n, nor outside S. -/
theorem round (h : WSt w0 n B T S E v wr) (hs : Stay (fun k => k < n ∨ ¬ S k) wr wr') (hS : ∀ k, S' k → S k ∨ wr.heap.size ≤ k) : WSt w0 n B T S' E v wr' := by
  have hl := h.row.lt
  refine ⟨own_stay h.row hs (fun g hg => .inr (h.own g hg).1), fun g hg => ⟨fun hg' => ?_, (h.own g hg).2⟩, fun hB => ?_, Nat.lt_of_lt_of_le h.lB hs.size, h.nle, fun e he => ⟨(h.good e he).1.stay (hs.weak (fun _ _ hk => hk.elim .inl (fun e => .inr (e ▸ h.nB)))), (h.good e he).2⟩, fun k hk => (hs.block k (by have := h.lB; have := h.nle; omega) (.inl hk)).trans (h.same k hk)⟩
  · rcases hS g hg' with h1 | h1
    · exact (h.own g hg).1 h1
    · have := (hl g hg).2; omega
  · rcases hS B hB with h1 | h1
    · exact h.nB h1
    · have := h.lB; omega

theorem pop {g c : Nat} {e : LE} (h : WSt w0 n B T S (e :: E) (.slice (some ⟨g, 0, none⟩) (E.length + 1) c) wr) : WSt w0 n B T S E (.slice (some ⟨g, 0, none⟩) E.length c) wr :=
  ⟨cellsL_pop h.row, fun g' hg => h.own g' hg, h.nB, h.lB, h.nle, fun e he => h.good e (by simp [he]), h.same⟩

theorem set {g c : Nat} {e d : LE} (h : WSt w0 n B T S (e :: E) (.slice (some ⟨g, 0, none⟩) (E.length + 1) c) wr) (hd : RdF w0 n wr (Rx n B) d.a d.ts ∧ d.ts.length ≤ d.c) :
    WSt w0 n B T S (d :: E) (.slice (some ⟨g, 0, none⟩) (E.length + 1) c) (wr.setCell ⟨g, E.length, none⟩ (.slice d.a d.ts.length d.c)) := by
  have hs : Stay (Rx n B) wr (wr.setCell ⟨g, E.length, none⟩ (.slice d.a d.ts.length d.c)) := Stay.setCell _ _ (h.out g rfl)
  refine ⟨cellsL_set h.row d, h.own, h.nB, Nat.lt_of_lt_of_le h.lB hs.size, h.nle, fun f hf => ?_, fun k hk => (hs.block k (by have := h.lB; have := h.nle; omega) (.inl hk)).trans (h.same k hk)⟩
  rcases List.mem_cons.1 hf with rfl | hf
  · exact ⟨hd.1.stay hs, hd.2⟩
  · exact ⟨(h.good f (by simp [hf])).1.stay hs, (h.good f (by simp [hf])).2⟩

theorem push {v' : Value} {d : LE} (h : WSt w0 n B T S E v wr) (hS : ∀ k, S k → k < wr.heap.size) (hrow : wr'.ownsRow n T 1 v' (E.length + 1) (cellsL E ++ [.slice d.a d.ts.length d.c])) (hg : wr.grownBy wr' v.ownBlock) (hv : v'.ownBlock = v.ownBlock ∨ v'.ownBlock = some wr.heap.size) (hd : RdF w0 n wr (Rx n B) d.a d.ts ∧ d.ts.length ≤ d.c) :
    WSt w0 n B T S (d :: E) v' wr' := by
  have hs : Stay (Rx n B) wr wr' := .grown hg (fun k hk => h.out k hk)
  refine ⟨hrow, fun g hg' => ?_, h.nB, Nat.lt_of_lt_of_le h.lB hs.size, h.nle, fun f hf => ?_, fun k hk => (hs.block k (by have := h.lB; have := h.nle; omega) (.inl hk)).trans (h.same k hk)⟩
  · rcases hv with e | e
    · exact h.own g (e ▸ hg')
    · rw [hg'] at e
      cases e
      exact ⟨fun h1 => by have := hS _ h1; omega, fun e => by have := h.lB; omega⟩
  · rcases List.mem_cons.1 hf with rfl | hf
    · exact ⟨hd.1.stay hs, hd.2⟩
    · exact ⟨(h.good f hf).1.stay hs, (h.good f hf).2⟩
end WSt

theorem one_slice (x : Option Addr) (l c : Nat) : ∀ u ∈ [Value.slice x l c], u.oneCell' = true := by
  intro u hu; simp at hu; subst hu; rfl
theorem one_new1 (w : World) (u : Value) (t : TypeId) (n : Nat) (hn : n = w.heap.size) : ∀ j v, [u][j]? = some v → (w.alloc (.cells #[u] t)).cell? ((⟨n, 0, none⟩ : Addr).add j) = some v := by
  subst hn
  intro j v hj
  match j, hj with
  | 0, hj => simp at hj; subst hj; simp [Addr.add]
  | j + 1, hj => simp at hj
end Go.Proofs.Ythbilahilmmfmaa

/- The program's iterator over all terms within a term: its contract. Conditions: terms of at most 549755813888 parts. -/
namespace Go.Proofs.Ythbilahilmmfmaa
set_option maxRecDepth 100000
open Go.RowKit Go.Shelf
attribute [local go_sem] Oper.semAt_some

theorem info24 : (Try.prog.info? 41).map (fun i => (i.zero, i.size, i.bytes)) = some (some (.slice none 0 0), 1, 24) := by kernel_rfl

/-- What comes next: a term within t, all ahead of it having come; its Kids read. -/
def InT (w : World) (n₀ : Nat) (t : TermD) (pre : List El) (x : El) : Prop := (∃ r, pre.map El.t ++ x.t :: r = preT t) ∧ RdK w n₀ x.a x.t.kids ∧ x.t.kids.length ≤ x.c

/-- What holds between two rounds. -/
structure WRel (w0 : World) (n B M : Nat) (t : TermD) (J : List El → (Nat → Prop) → World → Prop) (pre : List El) (S : Nat → Prop) (E : List LE) (v : Value) (wr : World) : Prop where
  st : WSt w0 n B 41 S E v wr
  j : J pre S wr
  got : pre.map El.t ++ preS E = preT t
  size : sizeL E ≤ M

theorem with_start {t : TermD} {a : Option Addr} {c hi n : Nat} {w W : World} {S : Nat → Prop} (hc : t.kids.length ≤ c) (hr : RdK w hi a t.kids) (hhi : hi ≤ n) (hn : n ≤ w.heap.size) (hbW : Below w.heap.size w W) (hS : ∀ k, S k → k < W.heap.size) :
    WSt w n W.heap.size 41 S [⟨some ⟨W.heap.size, 0, none⟩, 1, [t]⟩] (.slice (some ⟨W.heap.size + 1, 0, none⟩) 1 1) ((W.alloc (.cells #[.int .i64 t.f, .int .i64 t.v, .slice a t.kids.length c] 43)).alloc (.cells #[.slice (some ⟨W.heap.size, 0, none⟩) 1 1] 41)) := by
  have hrow := World.ownsRow_lit (base := n) (size := 1) (e := 41) (W.alloc (.cells #[.int .i64 t.f, .int .i64 t.v, .slice a t.kids.length c] 43)) #[.slice (some ⟨W.heap.size, 0, none⟩) 1 1] 1 (by simp; have := hbW.size; omega) (by unfold maxLen; omega) rfl
  rw [World.size_alloc] at hrow
  have hb : Below W.heap.size W ((W.alloc (.cells #[.int .i64 t.f, .int .i64 t.v, .slice a t.kids.length c] 43)).alloc (.cells #[.slice (some ⟨W.heap.size, 0, none⟩) 1 1] 41)) := ((Below.refl _ _).alloc (Nat.le_refl _) _).alloc (by simp) _
  refine ⟨hrow, fun g hg => ?_, fun h => by have := hS _ h; omega, by simp; omega, Nat.le_trans hn hbW.size, fun e he => ?_, fun k hk => (hb.block k (by have := hbW.size; omega)).trans (hbW.block k (by omega))⟩
  · have e : W.heap.size + 1 = g := by simpa [Value.ownBlock] using hg
    subst e
    exact ⟨fun h => by have := hS _ h; omega, by omega⟩
  · simp only [List.mem_singleton] at he
    subst he
    refine ⟨.inr ⟨W.heap.size, 0, fun _ => a, fun _ => c, rfl, .inr rfl, fun i hi => ?_, fun i hi => ?_, fun i hi => ?_⟩, Nat.le_refl _⟩
    all_goals
      have e : i = 0 := by simp at hi; omega
      subst e
      simp only [List.getElem_cons_zero]
    · exact hc
    · simp [go_sem]
    · exact hr.mono hhi

end Go.Proofs.Ythbilahilmmfmaa

/- Whether a term is a variable, and which, as the program tells it by a type switch. Conditions: none. -/
namespace Go.Proofs.Ythbilahilmmfmaa
set_option maxRecDepth 100000
open Go.RowKit

/-- What is told of a term: its number where it is a variable. -/
def vofI (t : TermD) : Int := if t.f = -1 then t.v else 0
def vofB (t : TermD) : Bool := t.f == -1
theorem rtT {a b : Int} {p q : Bool} (h : a = b) (h' : p = q) : Ending.returned (.tuple #[.int .i64 a, .bool p]) = .returned (.tuple #[.int .i64 b, .bool q]) := by rw [h, h']

end Go.Proofs.Ythbilahilmmfmaa

/- The program makes an iterator over a term. Conditions: none. -/
namespace Go.Proofs.Ythbilahilmmfmaa
set_option maxRecDepth 100000
open Go.RowKit Go.Shelf
attribute [local go_sem] Oper.semAt_some

end Go.Proofs.Ythbilahilmmfmaa

/- How many terms are within a term, and how often a variable, as the program tells it: it ranges over its iterator. Conditions: terms of at most 549755813888 parts. -/
namespace Go.Proofs.Ythbilahilmmfmaa
set_option maxRecDepth 100000
open Go.RowKit Go.Shelf
attribute [local go_sem] Oper.semAt_some

end Go.Proofs.Ythbilahilmmfmaa

/- A round's own variable. Conditions: none. -/
namespace Go.Proofs.Ythbilahilmmfmaa
set_option maxRecDepth 100000
open Go.RowKit
/-- The round's own variable lies in a block of its own. -/
structure BoxEl (x : El) (Bx : Nat) (S : Nat → Prop) (W : World) : Prop where
  s : S Bx
  c0 : W.cell? ⟨Bx, 0, none⟩ = some (.int .i64 x.t.f)
  c1 : W.cell? ⟨Bx, 1, none⟩ = some (.int .i64 x.t.v)
  c2 : W.cell? ⟨Bx, 2, none⟩ = some (.slice x.a x.t.kids.length x.c)
theorem BoxEl.stay {x : El} {Bx : Nat} {S : Nat → Prop} {A B : World} (h : BoxEl x Bx S A) (hs : Stay S A B) : BoxEl x Bx S B := ⟨h.s, hs.cell h.c0 h.s, hs.cell h.c1 h.s, hs.cell h.c2 h.s⟩
end Go.Proofs.Ythbilahilmmfmaa

/- How often a variable stands in a term, as the program tells it: it ranges over its iterator. Conditions: terms of at most 549755813888 parts. -/
namespace Go.Proofs.Ythbilahilmmfmaa
set_option maxRecDepth 100000
open Go.RowKit Go.Shelf
attribute [local go_sem] Oper.semAt_some

theorem cntP_snoc (v : Int) (l : List El) (x : El) : cntP v ((l ++ [x]).map El.t) = cntP v (l.map El.t) + if vofB x.t = true ∧ vofI x.t = v then 1 else 0 := by
  rw [List.map_append, cntP_append]
  congr 1
  by_cases h1 : x.t.f = -1 <;> by_cases h2 : x.t.v = v <;> simp [cntP, vofB, vofI, h1, h2]
theorem cntP_le (v : Int) (l : List TermD) : cntP v l ≤ l.length := List.length_filter_le _ _

/-- What the count's loop holds between two rounds. -/
structure CInv (w W0 : World) (vv : Int) (pre : List El) (S : Nat → Prop) (W : World) : Prop where
  lo : ∀ k, k < W0.heap.size → S k
  hi : ∀ k, S k → k < W.heap.size
  v : W.cell? ⟨w.heap.size + 1, 0, none⟩ = some (.int .i64 vv)
  n : W.cell? ⟨w.heap.size + 1 + 1, 0, none⟩ = some (.int .i64 (cntP vv (pre.map El.t)))
  f : W.frozen? ⟨w.heap.size + 1 + 1, 0, none⟩ = false
  b : Below w.heap.size w W
  z : w.heap.size + 1 + 1 < W0.heap.size
theorem CInv.stay {w W0 A B : World} {v : Int} {pre : List El} {S : Nat → Prop} (h : CInv w W0 v pre S A) (hs : Stay S A B) : CInv w W0 v pre S B := by
  have hz := h.z
  exact ⟨h.lo, fun k hk => Nat.lt_of_lt_of_le (h.hi k hk) hs.size, hs.cell h.v (h.lo _ (by simp only; omega)), hs.cell h.n (h.lo _ (by simp only; omega)), (hs.frozen (World.block_lt_of_cell? _ _ h.n) (h.lo _ (by simp only; omega))).trans h.f, h.b.trans (hs.below h.b.size (fun k hk => h.lo k (by omega))), hz⟩
theorem CInv.alloc {w W0 A : World} {v : Int} {pre : List El} {S : Nat → Prop} (h : CInv w W0 v pre S A) (o : Obj) : CInv w W0 v pre (fun k => S k ∨ k = A.heap.size) (A.alloc o) := by
  have h' := h.stay (.alloc S A o)
  exact ⟨fun k hk => .inl (h'.lo k hk), fun k hk => hk.elim (h'.hi k) (fun e => by simp; omega), h'.v, h'.n, h'.f, h'.b, h'.z⟩
end Go.Proofs.Ythbilahilmmfmaa

/- The variables of a term, and the contract of the specification's VarsOf. Conditions: terms of at most 1048576 parts. -/
namespace Go.Proofs.Ythbilahilmmfmaa
set_option maxRecDepth 100000
open Go.RowKit

mutual
/-- The variables of a term, put into a list. -/
def varsT : TermD → List Int → List Int
  | .mk f v ks, out => varsL ks (if f = -1 then ins out v else out)
def varsL : List TermD → List Int → List Int
  | [], out => out
  | t :: ts, out => varsL ts (varsT t out)
end

theorem varsT_eq (t : TermD) (out : List Int) : varsT t out = varsL t.kids (if t.f = -1 then ins out t.v else out) := by cases t; rw [varsT]; rfl
theorem varsL_append (a b : List TermD) (out : List Int) : varsL (a ++ b) out = varsL b (varsL a out) := by
  induction a generalizing out with
  | nil => simp [varsL]
  | cons t ts ih => simp only [List.cons_append, varsL, ih]
theorem varsL_next {ts : List TermD} {k : Nat} (h : k < ts.length) (out : List Int) : varsL (ts.take (k + 1)) out = varsT ts[k] (varsL (ts.take k) out) := by
  rw [List.take_succ_eq_append_getElem h, varsL_append]
  simp [varsL]
mutual
theorem varsT_len : ∀ (t : TermD) (out : List Int), (varsT t out).length ≤ out.length + partsT t
  | .mk f v ks, out => by
    have h1 := varsL_len ks (if f = -1 then ins out v else out)
    have h2 := ins_len out v
    rw [varsT, partsT]
    split at h1 <;> simp_all <;> omega
theorem varsL_len : ∀ (ts : List TermD) (out : List Int), (varsL ts out).length ≤ out.length + partsL ts
  | [], out => by simp [varsL, partsL]
  | t :: ts, out => by
    have h1 := varsT_len t out
    have h2 := varsL_len ts (varsT t out)
    rw [varsL, partsL]; omega
end

theorem own_lower {w : World} {base base' : Nat} {e : TypeId} {size : Nat} {v : Value} {n : Nat} {xs : List Value} (h : w.ownsRow base e size v n xs) (hb : base' ≤ base) : w.ownsRow base' e size v n xs := by
  obtain ⟨h1, h2⟩ := h
  refine ⟨h1, ?_⟩
  rcases h2 with h2 | ⟨g, cap, cur, rfl, hg1, r⟩
  · exact .inl h2
  · exact .inr ⟨g, cap, cur, rfl, Nat.le_trans hb hg1, r⟩

theorem own_cells {w : World} {base g c : Nat} {zs : List Int} {n : Nat} (hn : n = zs.length) (h : w.ownsRow base 3 1 (.slice (some ⟨g, 0, none⟩) n c) n (ints zs)) :
    g < w.heap.size ∧ ∀ i, i < zs.length → w.cell? ⟨g, 0 + i, none⟩ = some (.int .i64 (zs[i]?.getD 0)) := by
  subst hn
  refine ⟨(h.lt g rfl).2, fun i hi => ?_⟩
  rw [show (0 + i) = i by omega, h.cellAt i (by omega)]
  simp [ints, hi]

/-- The row of the numbers met so far. -/
def OutRow (w : World) (B g c : Nat) (zs : List Int) : Prop := w.ownsRow B 3 1 (.slice (some ⟨g, 0, none⟩) zs.length c) zs.length (ints zs)

end Go.Proofs.Ythbilahilmmfmaa

/- The variables of a term: put in one by one they are those that stand in it, in order, each once. Conditions: none. -/
namespace Go.Proofs.Ythbilahilmmfmaa
set_option maxRecDepth 100000
open Go.RowKit

/-- The numbers of the variables among terms. -/
def vl (l : List TermD) : List Int := (l.filter fun x => x.f == -1).map TermD.v
theorem vl_append (a b : List TermD) : vl (a ++ b) = vl a ++ vl b := by simp [vl]
theorem vl_len (l : List TermD) : (vl l).length ≤ l.length := by simp only [vl, List.length_map]; exact List.length_filter_le _ _
mutual
theorem vl_pre : ∀ (t : TermD) (out : List Int), varsT t out = (vl (preT t)).foldl ins out
  | .mk f v ks, out => by
    have h := vl_preL ks
    rw [varsT, preT, h, show TermD.mk f v ks :: preL ks = [TermD.mk f v ks] ++ preL ks from rfl, vl_append, List.foldl_append]
    congr 1
    by_cases e : f = -1 <;> simp [vl, TermD.f, TermD.v, e]
theorem vl_preL : ∀ (ts : List TermD) (out : List Int), varsL ts out = (vl (preL ts)).foldl ins out
  | [], out => by simp [varsL, preL, vl]
  | t :: ts, out => by
    rw [varsL, preL, vl_append, List.foldl_append, vl_pre t, vl_preL ts]
end

theorem ss_ext : ∀ {a b : List Int}, a.Pairwise (· < ·) → b.Pairwise (· < ·) → (∀ x, x ∈ a ↔ x ∈ b) → a = b
  | [], [], _, _, _ => rfl
  | [], y :: b, _, _, h => by have := (h y).2 (by simp); simp at this
  | x :: a, [], _, _, h => by have := (h x).1 (by simp); simp at this
  | x :: a, y :: b, ha, hb, h => by
    rw [List.pairwise_cons] at ha hb
    have e : x = y := by
      have h1 := (h x).1 (by simp)
      have h2 := (h y).2 (by simp)
      rcases List.mem_cons.1 h1 with h1 | h1
      · exact h1
      · rcases List.mem_cons.1 h2 with h2 | h2
        · exact h2.symm
        · have := hb.1 x h1; have := ha.1 y h2; omega
    subst e
    congr 1
    refine ss_ext ha.2 hb.2 (fun z => ⟨fun hz => ?_, fun hz => ?_⟩)
    · rcases List.mem_cons.1 ((h z).1 (by simp [hz])) with e | e
      · have := ha.1 z hz; omega
      · exact e
    · rcases List.mem_cons.1 ((h z).2 (by simp [hz])) with e | e
      · have := hb.1 z hz; omega
      · exact e

theorem drop_ge (x : Int) : ∀ {zs : List Int}, zs.Pairwise (· < ·) → ∀ z ∈ zs.dropWhile (fun y => decide (y < x)), ¬ z < x
  | [], _, z, h => by simp at h
  | y :: zs, hp, z, h => by
    rw [List.pairwise_cons] at hp
    by_cases e : y < x
    · simp only [List.dropWhile_cons, e, decide_true, if_true] at h
      exact drop_ge x hp.2 z h
    · simp only [List.dropWhile_cons, e, decide_false] at h
      rcases List.mem_cons.1 h with h | h
      · omega
      · have := hp.1 z h; omega
theorem take_lt (x : Int) : ∀ {zs : List Int}, ∀ z ∈ zs.takeWhile (fun y => decide (y < x)), z < x
  | [], z, h => by simp at h
  | y :: zs, z, h => by
    by_cases e : y < x
    · simp only [List.takeWhile_cons, e, decide_true, if_true] at h
      rcases List.mem_cons.1 h with h | h
      · omega
      · exact take_lt x z h
    · simp only [List.takeWhile_cons, e, decide_false] at h
      simp at h
theorem hasB_iff (zs : List Int) (x : Int) : hasB zs x = true ↔ x ∈ zs := by
  simp only [hasB, List.any_eq_true]
  constructor
  · rintro ⟨y, hy, e⟩; have : y = x := by simpa using e
    subst this; exact hy
  · intro h; exact ⟨x, h, by simp⟩
theorem ins_mem (zs : List Int) (x y : Int) : y ∈ ins zs x ↔ y = x ∨ y ∈ zs := by
  unfold ins
  split
  · rename_i h
    rw [hasB_iff] at h
    exact ⟨.inr, fun e => e.elim (fun e => e ▸ h) id⟩
  · rw [List.mem_append, List.mem_cons]
    conv => rhs; rw [← List.takeWhile_append_dropWhile (p := fun y => decide (y < x)) (l := zs), List.mem_append]
    exact ⟨fun h => h.elim (fun h => .inr (.inl h)) (fun h => h.elim .inl (fun h => .inr (.inr h))), fun h => h.elim (fun h => .inr (.inl h)) (fun h => h.elim .inl (fun h => .inr (.inr h)))⟩
theorem ins_ss {zs : List Int} (h : zs.Pairwise (· < ·)) (x : Int) : (ins zs x).Pairwise (· < ·) := by
  unfold ins
  split
  · exact h
  · rename_i hx
    rw [hasB_iff] at hx
    have hd : ∀ z ∈ zs.dropWhile (fun y => decide (y < x)), x < z := fun z hz => by
      have h1 := drop_ge x h z hz
      have h2 : z ≠ x := fun e => hx (e ▸ (List.dropWhile_sublist _).subset hz)
      omega
    rw [List.pairwise_append]
    refine ⟨h.sublist (List.takeWhile_sublist _), List.pairwise_cons.2 ⟨hd, h.sublist (List.dropWhile_sublist _)⟩, fun a ha b hb => ?_⟩
    have h1 := take_lt x a ha
    rcases List.mem_cons.1 hb with e | e
    · omega
    · have := hd b e; omega
theorem fold_ss : ∀ (l out : List Int), out.Pairwise (· < ·) → (l.foldl ins out).Pairwise (· < ·) ∧ ∀ y, y ∈ l.foldl ins out ↔ y ∈ l ∨ y ∈ out
  | [], out, h => by simp [h]
  | x :: l, out, h => by
    obtain ⟨h1, h2⟩ := fold_ss l (ins out x) (ins_ss h x)
    refine ⟨h1, fun y => ?_⟩
    rw [List.foldl_cons, h2, ins_mem, List.mem_cons]
    constructor
    · rintro (h | h | h)
      · exact .inl (.inr h)
      · exact .inl (.inl h)
      · exact .inr h
    · rintro ((h | h) | h)
      · exact .inr (.inl h)
      · exact .inl h
      · exact .inr (.inr h)

theorem comp_upto (d : Array Int) (hd : ∀ i j, i ≤ j → j < d.size → d[i]! ≤ d[j]!) : ∀ m, m ≤ d.size →
    (Lib.compactUpTo d m).Pairwise (· < ·) ∧ (∀ y, y ∈ Lib.compactUpTo d m ↔ ∃ j, j < m ∧ d[j]! = y)
  | 0, _ => by simp [Lib.compactUpTo]
  | m + 1, h => by
    obtain ⟨h1, h2⟩ := comp_upto d hd m (by omega)
    rw [Lib.compactUpTo_succ]
    by_cases e : m = 0
    · subst e
      have hk := Lib.keeps_lt_one d 0 (by omega)
      simp only [hk, if_true]
      have e0 : Lib.compactUpTo d 0 = [] := by simp [Lib.compactUpTo]
      rw [e0]
      refine ⟨by simp, fun y => ?_⟩
      simp only [List.nil_append, List.mem_singleton]
      constructor
      · intro h; exact ⟨0, by omega, h.symm⟩
      · rintro ⟨j, hj, rfl⟩; rw [show j = 0 by omega]
    · by_cases ed : d[m]! = d[m - 1]!
      · rw [Lib.keeps_neg (by omega) ed]
        simp only [Bool.false_eq_true, if_false, List.append_nil]
        refine ⟨h1, fun y => (h2 y).trans ⟨fun ⟨j, hj, e⟩ => ⟨j, by omega, e⟩, fun ⟨j, hj, e'⟩ => ?_⟩⟩
        by_cases ej : j = m
        · subst ej; exact ⟨j - 1, by omega, ed ▸ e'⟩
        · exact ⟨j, by omega, e'⟩
      · rw [Lib.keeps_pos ed]
        simp only [if_true]
        refine ⟨?_, fun y => ?_⟩
        · rw [List.pairwise_append]
          refine ⟨h1, by simp, fun a ha b hb => ?_⟩
          obtain ⟨j, hj, rfl⟩ := (h2 a).1 ha
          have eb : b = d[m]! := by simpa using hb
          subst eb
          have q1 := hd j (m - 1) (by omega) (by omega)
          have q2 := hd (m - 1) m (by omega) (by omega)
          omega
        · rw [List.mem_append, h2, List.mem_singleton]
          constructor
          · rintro (⟨j, hj, e'⟩ | e')
            · exact ⟨j, by omega, e'⟩
            · exact ⟨m, by omega, e'.symm⟩
          · rintro ⟨j, hj, e'⟩
            by_cases ej : j = m
            · subst ej; exact .inr e'.symm
            · exact .inl ⟨j, by omega, e'⟩

/-- Sorted and each once: as put in one by one. -/
theorem comp_fold (l : List Int) : Lib.compact (l.mergeSort fun x y => decide (x ≤ y)) = l.foldl ins [] := by
  have hs : (l.mergeSort fun x y => decide (x ≤ y)).Pairwise (fun a b => decide (a ≤ b) = true) := List.pairwise_mergeSort (fun a b c h1 h2 => by simp at *; omega) (fun a b => by simp; omega) l
  have hm : ∀ y, y ∈ (l.mergeSort fun x y => decide (x ≤ y)) ↔ y ∈ l := fun y => List.mem_mergeSort
  generalize l.mergeSort (fun x y => decide (x ≤ y)) = s at *
  have hd : ∀ i j, i ≤ j → j < s.toArray.size → s.toArray[i]! ≤ s.toArray[j]! := by
    intro i j hij hj
    simp only [List.size_toArray] at hj
    have hi : i < s.length := by omega
    have e1 : s.toArray[i]! = s[i] := by simp [hi]
    have e2 : s.toArray[j]! = s[j] := by simp [hj]
    rw [e1, e2]
    by_cases e : i = j
    · subst e; exact Int.le_refl _
    · have := List.pairwise_iff_getElem.1 hs i j hi hj (by omega)
      simpa using this
  obtain ⟨h1, h2⟩ := comp_upto s.toArray hd s.length (by simp)
  obtain ⟨h3, h4⟩ := fold_ss l [] (by simp)
  refine ss_ext h1 h3 (fun y => ?_)
  have e0 : y ∈ Lib.compact s ↔ ∃ j, j < s.length ∧ s.toArray[j]! = y := h2 y
  refine (h2 y).trans ?_
  rw [h4, ← hm]
  simp only [List.not_mem_nil, or_false]
  constructor
  · rintro ⟨j, hj, rfl⟩; simp [hj]
  · intro h
    obtain ⟨j, hj, e⟩ := List.getElem_of_mem h
    exact ⟨j, hj, by simp [hj, e]⟩

theorem vars_comp (t : TermD) : Lib.compact ((vl (preT t)).mergeSort fun x y => decide (x ≤ y)) = varsT t [] := by rw [comp_fold, vl_pre]
end Go.Proofs.Ythbilahilmmfmaa

/- The variables of a term as the program tells them: gathered, sorted, each once. Conditions: terms of at most 1048577 parts. -/
namespace Go.Proofs.Ythbilahilmmfmaa
set_option maxRecDepth 100000
open Go.RowKit Go.Shelf Go.Sort
attribute [local go_sem] Oper.semAt_some

theorem vl_snoc (l : List El) (x : El) : vl ((l ++ [x]).map El.t) = vl (l.map El.t) ++ if vofB x.t = true then [vofI x.t] else [] := by
  rw [List.map_append, vl_append]
  congr 1
  by_cases h1 : x.t.f = -1 <;> simp [vl, vofB, vofI, h1]
theorem ints_append (a b : List Int) : ints (a ++ b) = ints a ++ ints b := by simp [ints]

/-- What the loop holds between two rounds: the list that is gathered lies in memory of the call's own. -/
structure VInv (w W0 : World) (pre : List El) (S : Nat → Prop) (W : World) : Prop where
  lo : ∀ k, k < W0.heap.size → S k
  hi : ∀ k, S k → k < W.heap.size
  v : ∃ v, W.cell? ⟨w.heap.size + 1, 0, none⟩ = some v ∧ W.ownsRow W0.heap.size 3 1 v (vl (pre.map El.t)).length (ints (vl (pre.map El.t))) ∧ ∀ g, v.ownBlock = some g → S g
  f : W.frozen? ⟨w.heap.size + 1, 0, none⟩ = false
  b : Below w.heap.size w W
  z : w.heap.size + 1 < W0.heap.size
theorem VInv.lt {w W0 A : World} {pre : List El} {S : Nat → Prop} (h : VInv w W0 pre S A) : w.heap.size + 1 < A.heap.size := h.hi _ (h.lo _ h.z)
theorem VInv.le {w W0 A : World} {pre : List El} {S : Nat → Prop} (h : VInv w W0 pre S A) : W0.heap.size ≤ A.heap.size := by
  have hz := h.z
  have := h.hi (W0.heap.size - 1) (h.lo _ (by omega))
  omega
theorem VInv.stay {w W0 A B : World} {pre : List El} {S : Nat → Prop} (h : VInv w W0 pre S A) (hs : Stay S A B) : VInv w W0 pre S B := by
  have hz := h.z
  have hl := h.lt
  obtain ⟨v, h1, h2, h3⟩ := h.v
  exact ⟨h.lo, fun k hk => Nat.lt_of_lt_of_le (h.hi k hk) hs.size, ⟨v, hs.cell h1 (h.lo _ hz), own_stay h2 hs h3, h3⟩, (hs.frozen hl (h.lo _ hz)).trans h.f, h.b.trans (hs.below h.b.size (fun k hk => h.lo k (by omega))), hz⟩
theorem VInv.more {w W0 A : World} {pre : List El} {S T : Nat → Prop} (h : VInv w W0 pre S A) (hs : ∀ k, S k → T k) (ht : ∀ k, T k → k < A.heap.size) : VInv w W0 pre T A := by
  obtain ⟨v, h1, h2, h3⟩ := h.v
  exact ⟨fun k hk => hs k (h.lo k hk), ht, ⟨v, h1, h2, fun g hg => hs g (h3 g hg)⟩, h.f, h.b, h.z⟩

end Go.Proofs.Ythbilahilmmfmaa

/- Contracts of the laws' marks on a term that owns its memory: nothing else is written. Conditions: terms of at most 549755813888 parts. -/
namespace Go.Proofs.Ythbilahilmmfmaa
set_option maxRecDepth 100000
open Go.RowKit

/-- Between two worlds only blocks of S have turned. -/
structure Only (S : Nat → Prop) (w w' : World) : Prop where
  os : w'.os = w.os
  tape : w'.tape = w.tape
  output : w'.output = w.output
  size : w'.heap.size = w.heap.size
  block : ∀ x, ¬ S x → w'.heap[x]? = w.heap[x]?

theorem Only.refl (S : Nat → Prop) (w : World) : Only S w w := ⟨rfl, rfl, rfl, rfl, fun _ _ => rfl⟩
theorem Only.trans {S : Nat → Prop} {a b c : World} (h : Only S a b) (k : Only S b c) : Only S a c := ⟨k.os.trans h.os, k.tape.trans h.tape, k.output.trans h.output, k.size.trans h.size, fun x hx => (k.block x hx).trans (h.block x hx)⟩
theorem Only.mono {S S' : Nat → Prop} {a b : World} (h : Only S a b) (hs : ∀ x, S x → S' x) : Only S' a b := ⟨h.os, h.tape, h.output, h.size, fun x hx => h.block x (fun k => hx (hs x k))⟩
theorem Only.setCell {S : Nat → Prop} {a b : World} (h : Only S a b) (p : Addr) (hp : S p.block) (u : Value) : Only S a (b.setCell p u) :=
  ⟨h.os, by simp [h.tape], h.output, by simp [h.size], fun x hx => (Below.heap_setCell b p u x (fun e => hx (e ▸ hp))).trans (h.block x hx)⟩
theorem Only.below {S : Nat → Prop} {a b : World} {B : Nat} (h : Only S a b) (hs : ∀ x, S x → B ≤ x) : Below B a b := ⟨h.os, h.tape, h.output, Nat.le_of_eq h.size.symm, fun x hx => h.block x (fun k => by have := hs x k; omega)⟩
theorem Only.cell {S : Nat → Prop} {a b : World} (h : Only S a b) {p : Addr} (hp : ¬ S p.block) : b.cell? p = a.cell? p := World.cell?_of_block (h.block _ hp)
theorem Only.frozen {S : Nat → Prop} {a b : World} (h : Only S a b) {p : Addr} (hp : ¬ S p.block) : b.frozen? p = a.frozen? p := World.frozen?_of_block (h.block _ hp)

theorem rt_mark {a b : Int} (h : a = b) : Ending.returned (.int .i64 a) = .returned (.int .i64 b) := by rw [h]

/-- What is still to be marked of a row of terms. -/
structure MarkSt (wr : World) (S : Nat → Prop) (b off : Nat) (ts : List TermD) (A : Nat → Option Addr) (C : Nat → Nat) (K : Nat → Nat → Prop) (k : Nat) : Prop where
  cells : ∀ i, (h : i < ts.length) → k ≤ i → wr.cell? ⟨b, off + i * 3, none⟩ = some (.int .i64 ts[i].f) ∧ wr.cell? ⟨b, off + i * 3 + 1, none⟩ = some (.int .i64 ts[i].v) ∧ wr.cell? ⟨b, off + i * 3 + 2, none⟩ = some (.slice (A i) ts[i].kids.length (C i))
  frozen : ∀ j, wr.frozen? ⟨b, j, none⟩ = false
  kid : ∀ i, (h : i < ts.length) → k ≤ i → OwnS wr (K i) (A i) ts[i].kids

theorem MarkSt.next {wr w1 : World} {S : Nat → Prop} {b off : Nat} {ts : List TermD} {A : Nat → Option Addr} {C : Nat → Nat} {K : Nat → Nat → Prop} {k : Nat} (h : MarkSt wr S b off ts A C K k) (hk : k < ts.length)
    (hsub : ∀ i x, i < ts.length → K i x → S x ∧ x ≠ b) (hdis : ∀ i j x, i < ts.length → j < ts.length → i ≠ j → K i x → ¬ K j x) (x y : Value)
    (ho : Only (K k) ((wr.setCell ⟨b, off + k * 3, none⟩ x).setCell ⟨b, off + k * 3 + 1, none⟩ y) w1) : MarkSt w1 S b off ts A C K (k + 1) := by
  have hkb : ¬ K k b := fun e => (hsub k b hk e).2 rfl
  refine ⟨fun i hi hki => ?_, fun j => ?_, fun i hi hki => ?_⟩
  · obtain ⟨c0, c1, c2⟩ := h.cells i hi (by omega)
    have d : ∀ o v, (off + k * 3 ≠ o) → (off + k * 3 + 1 ≠ o) → wr.cell? ⟨b, o, none⟩ = some v → w1.cell? ⟨b, o, none⟩ = some v := by
      intro o v h1 h2 hv
      rw [ho.cell (p := ⟨b, o, none⟩) hkb, World.cell?_setCell_other _ _ _ _ (fun e => h2 (by injection e)), World.cell?_setCell_other _ _ _ _ (fun e => h1 (by injection e))]
      exact hv
    exact ⟨d _ _ (by omega) (by omega) c0, d _ _ (by omega) (by omega) c1, d _ _ (by omega) (by omega) c2⟩
  · rw [ho.frozen (p := ⟨b, j, none⟩) hkb]
    simp only [World.frozen?_setCell]
    exact h.frozen j
  · have hib : ¬ K i b := fun e => (hsub i b hi e).2 rfl
    have o := ((h.kid i hi (by omega)).setCell ⟨b, off + k * 3, none⟩ hib x).setCell ⟨b, off + k * 3 + 1, none⟩ hib y
    exact o.frame (fun z hz => ho.block z (fun e => hdis i k z hi hk (by omega) hz e)) (Nat.le_of_eq ho.size.symm)

end Go.Proofs.Ythbilahilmmfmaa

/- What lies in memory while the law on a term's variables goes on; marks on lists of numbers that may be nil. Conditions: at most 1048577 numbers. -/
namespace Go.Proofs.Ythbilahilmmfmaa
set_option maxRecDepth 100000
open Go.RowKit

set_option maxHeartbeats 800000 in
theorem markV_any (base : Nat) (av : Option Addr) (zs : List Int) (k : Int) (n cap : Nat) (w : World) (hn : n = zs.length) (hown : w.ownsRow base 3 1 (.slice av n cap) n (ints zs)) (hl : n ≤ 1048577) (hk1 : 0 ≤ k) (hk2 : k ≤ 4) :
    Calls Try.prog 35 #[.slice av n cap, .int .i64 k] w fun e w' => e = .returned (.int .i64 (k + n)) ∧ w'.ownsRow base 3 1 (.slice av n cap) n (ints (upFrom k n)) ∧ w.grownBy w' (Value.slice av n cap).ownBlock := by
  rcases hown.2 with ⟨hv, h0⟩ | ⟨g, c, cur, hv, _⟩
  · obtain ⟨rfl, rfl⟩ : av = none ∧ cap = 0 := by simp at hv; exact ⟨hv.1, hv.2.2⟩
    subst h0
    have hz : zs = [] := List.length_eq_zero_iff.1 hn.symm
    subst hz
    have e0 : upFrom k 0 = [] := by simp [upFrom]
    have HO : Hid (w.ownsRow base 3 1 (.slice none 0 0) 0 (ints (upFrom k 0))) := by show w.ownsRow _ _ _ _ _ _; rw [e0]; exact hown
    clear hown hv hn e0
    go_enter Try.func35, Try.ntmps35
    go_wp2
    refine wp_loop_rounds 1 ?_
    rw [rounds_succ]
    go_wp2
    go_ret
    exact ⟨rtI (by omega), HO.out, World.grownBy.refl _ _⟩
  · cases hv
    exact mark_any base g zs k n _ w hn hown hl hk1 hk2

theorem Rd.ownV {w : World} {base : Nat} {av : Option Addr} {n cap : Nat} {zs : List Int} (hn : n = zs.length) (h : w.ownsRow base 3 1 (.slice av n cap) n (ints zs)) : Rd w av zs := by
  rcases h.2 with ⟨_, h0⟩ | ⟨g, c, cur, hv, _⟩
  · exact .inl (List.length_eq_zero_iff.1 (by omega))
  · cases hv
    exact Rd.own hn h

/-- The middle of the law. -/
structure LSt (w : World) (t : TermD) (a : Option Addr) (c L1 L2 gW cW : Nat) (ag : Option Addr) (cg : Nat) (V G : List Int) (W : World) : Prop where
  bel : Below w.heap.size w W
  p0 : W.cell? ⟨w.heap.size, 0, none⟩ = some (.int .i64 t.f)
  p1 : W.cell? ⟨w.heap.size, 1, none⟩ = some (.int .i64 t.v)
  p2 : W.cell? ⟨w.heap.size, 2, none⟩ = some (.slice a t.kids.length c)
  rW : W.ownsRow (w.heap.size + 1) 3 1 (.slice (some ⟨gW, 0, none⟩) V.length cW) V.length (ints V)
  rG : W.ownsRow (L2 + 1) 3 1 (.slice ag V.length cg) V.length (ints G)
  gw : gW < L1
  lo : w.heap.size < L1
  l12 : L1 ≤ L2
  hi : L2 < W.heap.size

namespace LSt
variable {w : World} {t : TermD} {a : Option Addr} {c L1 L2 gW cW : Nat} {ag : Option Addr} {cg : Nat} {V G : List Int} {W W' : World}
theorem on (h : LSt w t a c L1 L2 gW cW ag cg V G W) (hb : Below W.heap.size W W') : LSt w t a c L1 L2 gW cW ag cg V G W' :=
  ⟨h.bel.trans (hb.mono h.bel.size), keepC hb h.p0, keepC hb h.p1, keepC hb h.p2, own_on h.rW hb, own_on h.rG hb, h.gw, h.lo, h.l12, Nat.lt_of_lt_of_le h.hi hb.size⟩
theorem draw (h : LSt w t a c L1 L2 gW cW ag cg V G W) (q : Nat) : LSt w t a c L1 L2 gW cW ag cg V G (W.drewN q) := h.on (below_drewN (Below.refl _ _) q)
theorem rdW (h : LSt w t a c L1 L2 gW cW ag cg V G W) : Rd W (some ⟨gW, 0, none⟩) V := Rd.own rfl h.rW
theorem rdG (h : LSt w t a c L1 L2 gW cW ag cg V V W) : Rd W ag V := Rd.ownV rfl h.rG
theorem rdM (h : LSt w t a c L1 L2 gW cW ag cg V (upFrom 1 V.length) W) : Rd W ag (upFrom 1 V.length) := Rd.ownV (upFrom_len _ _).symm h.rG
theorem stay {S : Nat → Prop} (h : LSt w t a c L1 L2 gW cW ag cg V G W) (hs : Stay S W W') (h1 : ∀ k, k < L1 → S k) (h2 : ∀ k, L2 < k → S k) : LSt w t a c L1 L2 gW cW ag cg V G W' := by
  have hlo := h.lo
  refine ⟨h.bel.trans (hs.below h.bel.size (fun k hk => h1 k (by omega))), hs.cell h.p0 (h1 _ hlo), hs.cell h.p1 (h1 _ hlo), hs.cell h.p2 (h1 _ hlo), own_stay h.rW hs (fun g hg => ?_), own_stay h.rG hs (fun g hg => h2 g (h.rG.lt g hg).1), h.gw, hlo, h.l12, Nat.lt_of_lt_of_le h.hi hs.size⟩
  have e : gW = g := by simpa [Value.ownBlock] using hg
  exact h1 g (e ▸ h.gw)
/-- The copy's own blocks are written. -/
theorem markX {w0 : World} (h : LSt w t a c L1 L2 gW cW ag cg V G W) (hb : Below W.heap.size W w0) (ho : Only (fun x => L1 ≤ x ∧ x < L2) w0 W') : LSt w t a c L1 L2 gW cW ag cg V G W' :=
  (h.on hb).stay (S := fun x => ¬ (L1 ≤ x ∧ x < L2)) ⟨ho.os, ho.tape, ho.output, Nat.le_of_eq ho.size.symm, fun k _ hk => ho.block k hk⟩ (fun k hk => by omega) (fun k hk => by omega)
/-- The answer's numbers are written. -/
theorem markG {G' : List Int} (h : LSt w t a c L1 L2 gW cW ag cg V G W) (ho : W'.ownsRow (L2 + 1) 3 1 (.slice ag V.length cg) V.length (ints G')) (hg : W.grownBy W' (Value.slice ag V.length cg).ownBlock) : LSt w t a c L1 L2 gW cW ag cg V G' W' := by
  have hlo := h.lo
  have hl := h.l12
  have hgw := h.gw
  have hs : Stay (fun k => k < L1) W W' := .grown hg (fun k e hk => by have := (h.rG.lt k e).1; omega)
  refine ⟨h.bel.trans (hs.below h.bel.size (fun k hk => by omega)), hs.cell h.p0 hlo, hs.cell h.p1 hlo, hs.cell h.p2 hlo, own_stay h.rW hs (fun g hg => ?_), ho, hgw, hlo, hl, Nat.lt_of_lt_of_le h.hi hs.size⟩
  have e : gW = g := by simpa [Value.ownBlock] using hg
  omega
end LSt
end Go.Proofs.Ythbilahilmmfmaa

/- The variables of a term stand in it once at least, and not more often together than it has parts. Conditions: none. -/
namespace Go.Proofs.Ythbilahilmmfmaa
set_option maxRecDepth 100000
open Go.RowKit

mutual
theorem cnt_pre (v : Int) : ∀ t : TermD, cntT v t = (vl (preT t)).count v
  | .mk f u ks => by
    have h := cnt_preL v ks
    rw [cntT, preT, h]
    by_cases hf : f = -1
    · by_cases hu : u = v
      · simp [vl, hf, hu, TermD.f, TermD.v]; omega
      · simp [vl, hf, hu, TermD.f, TermD.v]
    · simp [vl, hf, TermD.f]
theorem cnt_preL (v : Int) : ∀ ts : List TermD, cntL v ts = (vl (preL ts)).count v
  | [] => by simp [cntL, preL, vl]
  | t :: ts => by rw [cntL, preL, vl_append, List.count_append, cnt_pre v t, cnt_preL v ts]
end
theorem vars_mem (t : TermD) (v : Int) : v ∈ varsT t [] ↔ v ∈ vl (preT t) := by
  rw [vl_pre]
  simpa using (fold_ss (vl (preT t)) [] .nil).2 v
theorem vars_up (t : TermD) : (varsT t []).Pairwise (· < ·) := by
  rw [vl_pre]
  exact (fold_ss (vl (preT t)) [] .nil).1
theorem vars_cnt {t : TermD} {v : Int} (h : v ∈ varsT t []) : 1 ≤ cntT v t := by
  rw [cnt_pre]
  exact List.count_pos_iff.2 ((vars_mem t v).1 h)
theorem counts_le : ∀ (vs l : List Int), vs.Pairwise (· < ·) → (vs.map (fun v => l.count v)).sum ≤ l.length
  | [], l, _ => by simp
  | v :: vs, l, h => by
    have hv := (List.pairwise_cons.1 h).1
    have ih := counts_le vs (l.filter (fun x => x != v)) (List.pairwise_cons.1 h).2
    have e : vs.map (fun u => (l.filter (fun x => x != v)).count u) = vs.map (fun u => l.count u) := by
      refine List.map_congr_left (fun u hu => ?_)
      exact List.count_filter (by have := hv u hu; simp; omega)
    rw [e] at ih
    have hl : l.length = l.count v + (l.filter (fun x => x != v)).length := by
      clear ih e
      induction l with
      | nil => rfl
      | cons x xs ihx =>
        by_cases hx : x = v
        · subst hx; simp; omega
        · simp [hx]; omega
    rw [List.map_cons, List.sum_cons]
    omega
theorem vars_sum (t : TermD) : ((varsT t []).map (fun v => cntT v t)).sum ≤ partsT t := by
  have h := counts_le (varsT t []) (vl (preT t)) (vars_up t)
  have e : (varsT t []).map (fun v => cntT v t) = (varsT t []).map (fun v => (vl (preT t)).count v) := List.map_congr_left (fun v _ => cnt_pre v t)
  rw [e]
  have := vl_len (preT t)
  have := preT_len t
  omega
/-- The sum as far as the loop has come. -/
theorem sum_take (l : List Nat) (i : Nat) : (l.take i).sum ≤ l.sum := by
  have : l.sum = (l.take i).sum + (l.drop i).sum := by rw [← List.sum_append, List.take_append_drop]
  omega
end Go.Proofs.Ythbilahilmmfmaa

/- The one result of a function, where it lies in a cell. Conditions: none. -/
namespace Go.Proofs.Ythbilahilmmfmaa
set_option maxRecDepth 100000
open Go.RowKit

theorem results_cell1 {fn : Func} {p : Tmp} {ty : TypeId} (h : fn.results = #[.cell p ty]) (tmps : Array Value) (P : Program) (w : World) :
    (results fn tmps).run P w = ((asAddr (tmps.getD p undef)).run P w).andThen fun a w₁ => (loadVar ty a).run P w₁ := by
  simp only [results, h]
  simp [Sem.run_bind, Result.andThen]
theorem load_bool {w : World} {p : Addr} {b : Bool} (h : w.cell? p = some (.bool b)) : (loadVar 4 p).run Try.prog w = .ok (.bool b) w := by
  simp [loadVar, go_sem, h]
theorem results_bool {fn : Func} {p : Tmp} (h : fn.results = #[.cell p 4]) {tmps : Array Value} {w : World} {a : Addr} (ha : tmps.getD p undef = .pointer (some a)) {b : Bool} (hc : w.cell? a = some (.bool b)) :
    (results fn tmps).run Try.prog w = .ok (.bool b) w := by
  rw [results_cell1 h, ha]
  simp [go_sem, hc, Result.andThen]
end Go.Proofs.Ythbilahilmmfmaa

/- Whether a term has no variables, as the program tells it: it ranges over its iterator and stops at the first one. Conditions: terms of at most 549755813888 parts. -/
namespace Go.Proofs.Ythbilahilmmfmaa
set_option maxRecDepth 100000
open Go.RowKit Go.Shelf
attribute [local go_sem] Oper.semAt_some

/-- Without variables. -/
def grdT (t : TermD) : Bool := (varsT t []).isEmpty
theorem grd_all {t : TermD} (h : ∀ x ∈ preT t, vofB x = false) : grdT t = true := by
  unfold grdT
  rw [List.isEmpty_iff]
  apply List.eq_nil_iff_forall_not_mem.2
  intro v hv
  rw [vars_mem] at hv
  simp only [vl, List.mem_map, List.mem_filter] at hv
  obtain ⟨x, ⟨hx, hf⟩, _⟩ := hv
  have := h x hx
  simp only [vofB] at this
  rw [this] at hf; cases hf
theorem grd_hit {t x : TermD} (hx : x ∈ preT t) (h : vofB x = true) : grdT t = false := by
  unfold grdT
  have : x.v ∈ varsT t [] := by
    rw [vars_mem]
    simp only [vl, List.mem_map, List.mem_filter]
    exact ⟨x, ⟨hx, by simpa [vofB] using h⟩, rfl⟩
  cases e : varsT t [] with
  | nil => rw [e] at this; simp at this
  | cons _ _ => rfl

/-- What the loop holds between two rounds: the answer's place, and that no variable was met. -/
structure GInv (w W0 : World) (R : Nat) (pre : List El) (S : Nat → Prop) (W : World) : Prop where
  lo : ∀ k, k < W0.heap.size → S k
  hi : ∀ k, S k → k < W.heap.size
  r : W.cell? ⟨R, 0, none⟩ = some (.bool false)
  f : W.frozen? ⟨R, 0, none⟩ = false
  b : Below w.heap.size w W
  z : w.heap.size < W0.heap.size ∧ R < W0.heap.size
  no : ∀ x ∈ pre, vofB x.t = false
theorem GInv.stay {w W0 A B : World} {R : Nat} {pre : List El} {S : Nat → Prop} (h : GInv w W0 R pre S A) (hs : Stay S A B) : GInv w W0 R pre S B := by
  have hz := h.z
  exact ⟨h.lo, fun k hk => Nat.lt_of_lt_of_le (h.hi k hk) hs.size, hs.cell h.r (h.lo _ hz.2), (hs.frozen (World.block_lt_of_cell? _ _ h.r) (h.lo _ hz.2)).trans h.f, h.b.trans (hs.below h.b.size (fun k hk => h.lo k (by omega))), hz, h.no⟩
theorem GInv.more {w W0 A : World} {R : Nat} {pre : List El} {S S' : Nat → Prop} (h : GInv w W0 R pre S A) (hs : ∀ k, S k → S' k) (ht : ∀ k, S' k → k < A.heap.size) : GInv w W0 R pre S' A :=
  ⟨fun k hk => hs k (h.lo k hk), ht, h.r, h.f, h.b, h.z, h.no⟩
/-- What is left where a variable was met. -/
structure GOut (w W0 : World) (R : Nat) (pre : List El) (S : Nat → Prop) (W : World) : Prop where
  lo : ∀ k, k < W0.heap.size → S k
  r : W.cell? ⟨R, 0, none⟩ = some (.bool false)
  b : Below w.heap.size w W
  z : w.heap.size < W0.heap.size ∧ R < W0.heap.size
  hit : ∃ x ∈ pre, vofB x.t = true
theorem GOut.stay {w W0 A B : World} {R : Nat} {pre : List El} {S : Nat → Prop} (h : GOut w W0 R pre S A) (hs : Stay S A B) : GOut w W0 R pre S B := by
  have hz := h.z
  exact ⟨h.lo, hs.cell h.r (h.lo _ hz.2), h.b.trans (hs.below h.b.size (fun k hk => h.lo k (by omega))), hz, h.hit⟩

end Go.Proofs.Ythbilahilmmfmaa

