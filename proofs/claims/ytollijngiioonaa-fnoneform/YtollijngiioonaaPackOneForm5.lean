/- What the proof of FnOneForm stands on, part 5 of 11: each piece says what it proves and under which conditions. Conditions: as each piece says. -/
import Derived.Test.YtollijngiioonaaPackOneForm4
import Derived.Deep.RegionLaw
import Derived.Sort.Row
import Derived.Deep.RegionHeld3
import Derived.Deep.RegionHeldLaw
import Derived.Deep.Cut
import Derived.Deep.CutRange
import Derived.Deep.CutBlock
import GoSem.Claim
import Derived.Below
import Derived.Deep.Draws
import Derived.Test.YtollijngiioonaaProg
import Derived.BigQuiet
import Derived.Deep.QuietTactic
import Derived.OpenShut
import Derived.ProofKit
import Derived.WalkKit
import Derived.WalkSmall
import Derived.RangeFuncNested
import Derived.RangeFuncBound
import Derived.RangeFuncCalls
import Derived.RangeFuncLeaves
import Derived.Shelf.Abstract
import Derived.Shelf.RegionOpen
import Derived.OwnWalkIn
import Derived.TacticsInMore
import Derived.LoopNIn
import Derived.LoopIn
import Derived.Maps.OwnIn
/- The program's way to one form: the next Kid of the innermost term is taken. Conditions: at most 549755813888 terms at work. -/
namespace Go.Proofs.Ytollijngiioonaa
set_option maxRecDepth 100000
open Go.RowKit

theorem RdK.tail {w : World} {hi b off : Nat} {t : TermD} {ts : List TermD} (h : RdK w hi (some ⟨b, off, none⟩) (t :: ts)) {c : Nat} (hc : ts.length + 1 ≤ c) : RdK w hi (tailA b off c) ts := by
  by_cases h1 : ts = []
  · subst h1; exact .nil _
  · have hl0 : ts.length ≠ 0 := fun e => h1 (List.length_eq_zero_iff.1 e)
    rw [tailA, if_neg (by omega)]
    cases h with
    | row b off ts' A C hlt hl hz hc' hk =>
      refine .row b (off + 3) ts (fun i => A (i + 1)) (fun i => C (i + 1)) hlt ⟨by have := hl.1; simp at this; omega, fun i hi => hl.2 (i + 1) (by simpa using hi)⟩ (fun i hi => hz (i + 1) (by simpa using hi)) (fun i hi => ?_) (fun i hi => hk (i + 1) (by simpa using hi))
      have := hc' (i + 1) (by simpa using hi)
      simpa [show off + (i + 1) * 3 = off + 3 + i * 3 by omega] using this
/-- The first one of a list that is read. -/
theorem RdK.head {w : World} {hi : Nat} {a : Option Addr} {t : TermD} {ts : List TermD} (h : RdK w hi a (t :: ts)) :
    ∃ b off a' c', a = some ⟨b, off, none⟩ ∧ b < hi ∧ w.cell? ⟨b, off, none⟩ = some (.int .i64 t.f) ∧ w.cell? ⟨b, off + 1, none⟩ = some (.int .i64 t.v) ∧ w.cell? ⟨b, off + 2, none⟩ = some (.slice a' t.kids.length c') ∧ t.kids.length ≤ c' ∧ RdK w hi a' t.kids ∧ (isW t.f ∧ isW t.v) := by
  obtain ⟨b, off, a', c', e, h1, h2, h3, h4, h5, h6⟩ := h.kidc (i := 0) (by simp)
  exact ⟨b, off, a', c', e, h1, by simpa using h2, by simpa using h3, by simpa using h4, by simpa using h5, by simpa using h6, h.ints (i := 0) (by simp)⟩

theorem NSt.other {n0 B : Nat} {F : List FM} {v : Value} {wr : World} (h : NSt n0 B F v wr) (p : Addr) (u : Value) (hp : n0 ≤ p.block) (hx : ∀ x ∈ F, ¬ x.S p.block) (hv : v.ownBlock ≠ some p.block) : NSt n0 B F v (wr.setCell p u) := by
  have hst : Stay (fun k => k ≠ p.block) wr (wr.setCell p u) := .setCell _ _ (by simp)
  exact ⟨own_stay h.row hst (fun g hg e => hv (e ▸ hg)), h.frames hst (fun k hk => by omega) (fun x hx' k hk e => hx x hx' (e ▸ hk)), h.dis, h.vb, by simpa using h.z, h.n⟩

theorem top_cells {n0 B : Nat} {x : FM} {r : List FM} {g c : Nat} {w : World} (H : NSt n0 B (x :: r) (.slice (some ⟨g, 0, none⟩) (r.length + 1) c) w) :
    w.cell? ⟨g, r.length * 6, none⟩ = some (.int .i64 x.t.f) ∧ w.cell? ⟨g, r.length * 6 + 1, none⟩ = some (.int .i64 x.t.v) ∧ w.cell? ⟨g, r.length * 6 + 2, none⟩ = some (.slice x.a x.t.kids.length x.c) ∧ w.cell? ⟨g, r.length * 6 + 3, none⟩ = some (.slice x.al x.left.length x.cl) ∧ w.cell? ⟨g, r.length * 6 + 4, none⟩ = some (.slice x.am x.L.length x.cm) ∧ w.cell? ⟨g, r.length * 6 + 5, none⟩ = some (.int .i64 (homeIx (x :: r))) := by
  have hl := cellsF_len r
  refine ⟨?_, ?_, ?_, ?_, ?_, ?_⟩
  all_goals
    refine (H.row.cellAt _ (by omega)).trans ?_
    rw [cellsF, List.getElem?_append_right (by omega)]
    simp [hl, FM.cells]

set_option maxHeartbeats 1600000 in
theorem takeKid_none (n0 B : Nat) (x : FM) (r : List FM) (g c : Nat) (w : World) (H : NSt n0 B (x :: r) (.slice (some ⟨g, 0, none⟩) (r.length + 1) c) w) (hF : r.length ≤ 549755813888) (hx : x.left = []) :
    Calls Try.prog 38 #[.slice (some ⟨g, 0, none⟩) (r.length + 1) c] w fun e w' => e = .returned (.tuple #[.agg #[.int .i64 0, .int .i64 0, .slice none 0 0], .bool false]) ∧ Below w.heap.size w w' := by
  obtain ⟨_, _, _, q3, _, _⟩ := top_cells H
  have hgl := (H.row.lt g rfl).2
  rw [hx] at q3
  simp only [List.length_nil] at q3
  clear H
  go_enter Try.func38, Try.ntmps38
  go_wp2
  exact bodyPost_ret (v := .tuple #[.agg #[.int .i64 0, .int .i64 0, .slice none 0 0], .bool false]) (by simp [results, Try.results38, go_sem]) rfl ⟨rfl, (Below.refl w.heap.size w).alloc (Nat.le_refl _) _⟩

set_option maxHeartbeats 3200000 in
theorem takeKid_some (n0 B : Nat) (x : FM) (r : List FM) (g c : Nat) (k : TermD) (ks : List TermD) (w : World) (H : NSt n0 B (x :: r) (.slice (some ⟨g, 0, none⟩) (r.length + 1) c) w) (hF : r.length ≤ 549755813888) (hx : x.left = k :: ks) (hbig : ks.length ≤ 549755813888) :
    Calls Try.prog 38 #[.slice (some ⟨g, 0, none⟩) (r.length + 1) c] w fun e w' => ∃ ak ck al cl, e = .returned (.tuple #[.agg #[.int .i64 k.f, .int .i64 k.v, .slice ak k.kids.length ck], .bool true]) ∧ NSt n0 B ({ x with left := ks, al := al, cl := cl } :: r) (.slice (some ⟨g, 0, none⟩) (r.length + 1) c) w' ∧ RdK w' n0 ak k.kids ∧ k.kids.length ≤ ck ∧ (isW k.f ∧ isW k.v) ∧ Stay (fun k => k < B) w w' := by
  obtain ⟨_, _, _, q3, _, _⟩ := top_cells H
  have hgl := H.row.lt g rfl
  have hn := H.n
  have hz := H.z
  have hx0 := H.fr x (by simp)
  have hrd := hx0.rd
  have hle := hx0.le
  rw [hx] at q3 hrd hle
  obtain ⟨b, off, ak, ck, hal, hb, k0, k1, k2, hck, hrk, hwk⟩ := hrd.head
  rw [hal] at q3 hrd
  simp only [List.length_cons] at q3 hle
  have hrt := hrd.tail (c := x.cl) hle
  have hclz : (1 : Int) ≤ (x.cl : Int) := by omega
  have hcb : (ks.length : Int) + 1 ≤ (x.cl : Int) := by omega
  have hbg : b ≠ g := by omega
  have hbl : b < w.heap.size := by omega
  have hgl2 : g < w.heap.size := hgl.2
  have fr : w.frozen? ⟨g, r.length * 6 + 3, none⟩ = false := H.row.frozenAt _
  have hst : Stay (fun k => k < B) w (w.setCell ⟨g, r.length * 6 + 3, none⟩ (.slice (tailA b off x.cl) ks.length (x.cl - 1))) := .setCell _ _ (fun h => by simp only at h; omega)
  have hT := H.take hrt (cl := x.cl - 1) (by omega)
  obtain ⟨W1, hW1⟩ : ∃ W1, W1 = w.setCell ⟨g, r.length * 6 + 3, none⟩ (.slice (tailA b off x.cl) ks.length (x.cl - 1)) := ⟨_, rfl⟩
  rw [← hW1] at hst hT
  have hb1 : Below W1.heap.size W1 ((W1.alloc (.cells #[.int .i64 k.f, .int .i64 k.v, .slice ak k.kids.length ck] 27)).alloc (.cells #[.int .i64 k.f, .int .i64 k.v, .slice ak k.kids.length ck] 27)) := ((Below.refl _ _).alloc (Nat.le_refl _) _).alloc (by simp) _
  have hst2 := hst.trans (.of_below (S := fun k => k < B) hb1 (fun k hk _ => hk))
  have FIN : Hid (∃ ak' ck' al cl, Ending.returned (Value.tuple #[.agg #[.int .i64 k.f, .int .i64 k.v, .slice ak k.kids.length ck], .bool true]) = .returned (.tuple #[.agg #[.int .i64 k.f, .int .i64 k.v, .slice ak' k.kids.length ck'], .bool true]) ∧ NSt n0 B ({ x with left := ks, al := al, cl := cl } :: r) (.slice (some ⟨g, 0, none⟩) (r.length + 1) c) ((W1.alloc (.cells #[.int .i64 k.f, .int .i64 k.v, .slice ak k.kids.length ck] 27)).alloc (.cells #[.int .i64 k.f, .int .i64 k.v, .slice ak k.kids.length ck] 27)) ∧ RdK ((W1.alloc (.cells #[.int .i64 k.f, .int .i64 k.v, .slice ak k.kids.length ck] 27)).alloc (.cells #[.int .i64 k.f, .int .i64 k.v, .slice ak k.kids.length ck] 27)) n0 ak' k.kids ∧ k.kids.length ≤ ck' ∧ (isW k.f ∧ isW k.v) ∧ Stay (fun k => k < B) w ((W1.alloc (.cells #[.int .i64 k.f, .int .i64 k.v, .slice ak k.kids.length ck] 27)).alloc (.cells #[.int .i64 k.f, .int .i64 k.v, .slice ak k.kids.length ck] 27))) :=
    ⟨ak, ck, _, _, rfl, hT.on hb1, hrk.on (hst2.below (by omega) (fun k hk => by omega)), hck, hwk, hst2⟩
  clear H hx0 hrd hrt hrk hal hst hT hb1 hst2
  by_cases h1 : x.cl = 1
  · have hk0 : ks.length = 0 := by omega
    rw [h1] at q3 hle hclz hcb hW1
    rw [tailA, if_pos rfl, hk0, Nat.sub_self] at hW1
    subst hW1
    go_enter Try.func38, Try.ntmps38
    go_wp2
    exact bodyPost_ret (v := .tuple #[.agg #[.int .i64 k.f, .int .i64 k.v, .slice ak k.kids.length ck], .bool true]) (by simp [results, Try.results38, go_sem]) rfl FIN.out
  · have h1i : ¬ (x.cl : Int) = 1 := by omega
    have hw1 : ((x.cl : Int) - 1).toNat = x.cl - 1 := by omega
    rw [tailA, if_neg h1] at hW1
    subst hW1
    go_enter Try.func38, Try.ntmps38
    go_wp2
    exact bodyPost_ret (v := .tuple #[.agg #[.int .i64 k.f, .int .i64 k.v, .slice ak k.kids.length ck], .bool true]) (by simp [results, Try.results38, go_sem]) rfl FIN.out
end Go.Proofs.Ytollijngiioonaa

/- The program's way to one form: a Kid that is done is put into the home of the innermost term. Conditions: at most 549755813888 terms at work, and Kids in a row. -/
namespace Go.Proofs.Ytollijngiioonaa
set_option maxRecDepth 100000
open Go.RowKit

/-- The zero element that was appended becomes the term. -/
theorem own_fill {w1 w2 : World} {B g c n : Nat} {row : Option Nat} {xs : List Value} {p q s : Value} (h : w2.ownsRow B 27 3 (.slice (some ⟨g, 0, none⟩) (n + 1) c) (n + 1) (xs ++ [.int .i64 0, .int .i64 0, .slice none 0 0])) (hl : xs.length = n * 3) (hg : w1.grownBy w2 row) (hat : some g = row ∨ w1.heap.size ≤ g) :
    (((w2.setCell ⟨g, n * 3, none⟩ p).setCell ⟨g, n * 3 + 1, none⟩ q).setCell ⟨g, n * 3 + 2, none⟩ s).ownsRow B 27 3 (.slice (some ⟨g, 0, none⟩) (n + 1) c) (n + 1) (xs ++ [p, q, s]) ∧ w1.grownBy (((w2.setCell ⟨g, n * 3, none⟩ p).setCell ⟨g, n * 3 + 1, none⟩ q).setCell ⟨g, n * 3 + 2, none⟩ s) row := by
  have h1 := (((h.stored (n * 3) p).1.stored (n * 3 + 1) q).1.stored (n * 3 + 2) s).1
  have e1 : (((xs ++ [Value.int .i64 0, Value.int .i64 0, Value.slice none 0 0]).set (n * 3) p).set (n * 3 + 1) q).set (n * 3 + 2) s = xs ++ [p, q, s] := by
    rw [List.set_append_right _ _ (by omega), List.set_append_right _ _ (by omega), List.set_append_right _ _ (by omega)]
    simp [hl]
  rw [e1] at h1
  refine ⟨h1, ⟨hg.os, hg.tape, hg.output, by simpa using hg.size, fun k hk hne => ?_⟩⟩
  have hkg : k ≠ g := fun e => hat.elim (fun q => hne (e ▸ q)) (fun q => by omega)
  rw [Below.heap_setCell _ _ _ _ hkg, Below.heap_setCell _ _ _ _ hkg, Below.heap_setCell _ _ _ _ hkg]
  exact hg.block k hk hne

/-- Stores into two blocks may be told in either order. -/
theorem set_comm (w : World) (a b i j : Nat) (u v : Value) (h : a ≠ b) : (w.setCell ⟨a, i, none⟩ u).setCell ⟨b, j, none⟩ v = (w.setCell ⟨b, j, none⟩ v).setCell ⟨a, i, none⟩ u := by
  rw [Sort.setCell_eq, Sort.setCell_eq, Sort.setCell_eq, Sort.setCell_eq]
  unfold Sort.mapBlock
  congr 1
  apply Array.ext
  · simp
  · intro k h1 h2
    simp only [Array.getElem_modify]
    split
    · split
      · omega
      · rfl
    · rfl
/-- What the append leaves: the new row, and the cell that is stored into behind it. -/
theorem put_facts {W X w5 : World} {B n g o : Nat} {row : Option Nat} {u v5 : Value} {xs : List Value} (hl : xs.length = n * 3) (hown : w5.ownsRow B 27 3 v5 (n + 1) (xs ++ [.int .i64 0, .int .i64 0, .slice none 0 0])) (hg : X.grownBy w5 row) (hat : v5.ownBlock = row ∨ v5.ownBlock = some X.heap.size) (hb : Below W.heap.size W X) (hgW : g < W.heap.size) (hc : W.cell? ⟨g, o, none⟩ = some u) (hf : W.frozen? ⟨g, o, none⟩ = false) (hne : row ≠ some g) :
    ∃ g5 c5, v5 = .slice (some ⟨g5, 0, none⟩) (n + 1) c5 ∧ (w5.cell? ⟨g5, n * 3, none⟩ = some (.int .i64 0) ∧ w5.cell? ⟨g5, n * 3 + 1, none⟩ = some (.int .i64 0) ∧ w5.cell? ⟨g5, n * 3 + 2, none⟩ = some (.slice none 0 0)) ∧ (w5.frozen? ⟨g5, n * 3, none⟩ = false ∧ w5.frozen? ⟨g5, n * 3 + 1, none⟩ = false ∧ w5.frozen? ⟨g5, n * 3 + 2, none⟩ = false) ∧ w5.cell? ⟨g, o, none⟩ = some u ∧ w5.frozen? ⟨g, o, none⟩ = false ∧ g5 ≠ g ∧ n + 1 ≤ c5 ∧ (some g5 = row ∨ X.heap.size ≤ g5) := by
  obtain ⟨g5, c5, rfl, hc5, _⟩ := own_slot hown
  have hgX : w5.heap[g]? = W.heap[g]? := (hg.block g (Nat.lt_of_lt_of_le hgW hb.size) (fun e => hne e.symm)).trans (hb.block g hgW)
  have hat' : some g5 = row ∨ X.heap.size ≤ g5 := hat.imp id (fun q => Nat.le_of_eq (by simpa [Value.ownBlock] using q.symm))
  refine ⟨g5, c5, rfl, ⟨(hown.cellAt _ (by omega)).trans ?_, (hown.cellAt _ (by omega)).trans ?_, (hown.cellAt _ (by omega)).trans ?_⟩, ⟨hown.frozenAt _, hown.frozenAt _, hown.frozenAt _⟩, (World.cell?_of_block (a := ⟨g, o, none⟩) hgX).trans hc, (World.frozen?_of_block (a := ⟨g, o, none⟩) hgX).trans hf, fun e => ?_, hc5, hat'⟩
  · rw [List.getElem?_append_right (by omega)]; simp [hl]
  · rw [List.getElem?_append_right (by omega)]; simp [hl]
  · rw [List.getElem?_append_right (by omega)]; simp [hl]
  · rcases hat' with q | q
    · exact hne (e ▸ q.symm)
    · have := hb.size; omega
theorem three_at {X : World} {n : Nat} {x y z : Value} (h0 : X.cell? ⟨n, 0, none⟩ = some x) (h1 : X.cell? ⟨n, 1, none⟩ = some y) (h2 : X.cell? ⟨n, 2, none⟩ = some z) : ∀ j v, [x, y, z][j]? = some v → X.cell? ((⟨n, 0, none⟩ : Addr).add j) = some v := by
  intro j v hj
  match j, hj with
  | 0, hj => simp at hj; subst hj; simpa [Addr.add] using h0
  | 1, hj => simp at hj; subst hj; simpa [Addr.add] using h1
  | 2, hj => simp at hj; subst hj; simpa [Addr.add] using h2
  | j + 3, hj => simp at hj

theorem put_fin {n0 B : Nat} {F : List FM} {g c g5 c5 : Nat} {e : FE} {w X w5 : World} (H : NSt n0 B F (.slice (some ⟨g, 0, none⟩) F.length c) w) (hb : Below w.heap.size w X) (hh : hasHome F) (he : OwnS w e.K e.a e.t.kids ∧ e.t.kids.length ≤ e.c ∧ (isW e.t.f ∧ isW e.t.v) ∧ ∀ k, e.K k → B ≤ k ∧ k < w.heap.size) (hd : ∀ x ∈ F, ∀ k, e.K k → ¬ x.S k) (hdg : ¬ e.K g)
    (hg : X.grownBy w5 (Value.slice (homeFr F).am (homeFr F).L.length (homeFr F).cm).ownBlock) (hown : w5.ownsRow B 27 3 (.slice (some ⟨g5, 0, none⟩) ((homeFr F).L.length + 1) c5) ((homeFr F).L.length + 1) (cs3 ((homeFr F).L.map FE.cells) ++ [.int .i64 0, .int .i64 0, .slice none 0 0])) (hat : some g5 = (Value.slice (homeFr F).am (homeFr F).L.length (homeFr F).cm).ownBlock ∨ X.heap.size ≤ g5) :
    NSt n0 B (putHome e (some ⟨g5, 0, none⟩) c5 F) (.slice (some ⟨g, 0, none⟩) F.length c) ((((w5.setCell ⟨g5, (homeFr F).L.length * 3, none⟩ (.int .i64 e.t.f)).setCell ⟨g5, (homeFr F).L.length * 3 + 1, none⟩ (.int .i64 e.t.v)).setCell ⟨g5, (homeFr F).L.length * 3 + 2, none⟩ (.slice e.a e.t.kids.length e.c)).setCell ⟨g, homeIx F * 6 + 4, none⟩ (.slice (some ⟨g5, 0, none⟩) ((homeFr F).L.length + 1) c5)) ∧
      Stay (fun k => k < B) w ((((w5.setCell ⟨g5, (homeFr F).L.length * 3, none⟩ (.int .i64 e.t.f)).setCell ⟨g5, (homeFr F).L.length * 3 + 1, none⟩ (.int .i64 e.t.v)).setCell ⟨g5, (homeFr F).L.length * 3 + 2, none⟩ (.slice e.a e.t.kids.length e.c)).setCell ⟨g, homeIx F * 6 + 4, none⟩ (.slice (some ⟨g5, 0, none⟩) ((homeFr F).L.length + 1) c5)) := by
  obtain ⟨h1, h2⟩ := own_fill (p := .int .i64 e.t.f) (q := .int .i64 e.t.v) (s := .slice e.a e.t.kids.length e.c) hown (by rw [cs3_len]; simp) hg hat
  have hgl := H.row.lt g rfl
  have HX := H.on hb
  refine ⟨HX.put hh ⟨he.1.frame (fun k hk => hb.block k (he.2.2.2 k hk).2) hb.size, he.2.1, he.2.2.1, fun k hk => ⟨(he.2.2.2 k hk).1, Nat.lt_of_lt_of_le (he.2.2.2 k hk).2 hb.size⟩⟩ hd hdg h2 h1 hat, ?_⟩
  refine ((Stay.of_below (S := fun k => k < B) hb (fun k hk _ => hk)).trans (.grown h2 (fun k q hk => by have := ((HX.fr _ (home_mem hh)).row.lt k q).1; omega))).trans (.setCell _ _ (fun q => by simp only at q; omega))

set_option maxHeartbeats 3200000 in
theorem put_any (n0 B : Nat) (F : List FM) (g c : Nat) (e : FE) (w : World) (H : NSt n0 B F (.slice (some ⟨g, 0, none⟩) F.length c) w) (hh : hasHome F) (hF : F.length ≤ 549755813888) (he : OwnS w e.K e.a e.t.kids ∧ e.t.kids.length ≤ e.c ∧ (isW e.t.f ∧ isW e.t.v) ∧ ∀ k, e.K k → B ≤ k ∧ k < w.heap.size) (hd : ∀ x ∈ F, ∀ k, e.K k → ¬ x.S k) (hdg : ¬ e.K g) (hL : (homeFr F).L.length ≤ 549755813888) :
    Calls Try.prog 40 #[.slice (some ⟨g, 0, none⟩) F.length c, .agg #[.int .i64 e.t.f, .int .i64 e.t.v, .slice e.a e.t.kids.length e.c]] w fun r w' => ∃ g2 c2, r = .returned (.tuple #[]) ∧ NSt n0 B (putHome e (some ⟨g2, 0, none⟩) c2 F) (.slice (some ⟨g, 0, none⟩) F.length c) w' ∧ Stay (fun k => k < B) w w' := by
  obtain ⟨i0, hi0, hz0, hz1, hz2⟩ := info_parts info29
  obtain ⟨x, r, rfl⟩ : ∃ x r, F = x :: r := by cases F with | nil => exact hh.elim | cons x r => exact ⟨x, r, rfl⟩
  simp only [List.length_cons] at *
  obtain ⟨_, _, _, _, _, q5⟩ := top_cells H
  have hgl := H.row.lt g rfl
  have hix := home_lt hh
  have hq4 : w.cell? ⟨g, homeIx (x :: r) * 6 + 4, none⟩ = some (.slice (homeFr (x :: r)).am (homeFr (x :: r)).L.length (homeFr (x :: r)).cm) := (H.row.cellAt _ (by simp only [List.length_cons] at hix; omega)).trans (home_cell hh)
  have fr4 : w.frozen? ⟨g, homeIx (x :: r) * 6 + 4, none⟩ = false := H.row.frozenAt _
  have hrow := (H.fr _ (home_mem hh)).row
  have hhg : (Value.slice (homeFr (x :: r)).am (homeFr (x :: r)).L.length (homeFr (x :: r)).cm).ownBlock ≠ some g := fun q => H.vb g rfl _ (home_mem hh) (.inl q)
  have HH : Hid _ := H
  clear H
  simp only [List.length_cons] at hix
  obtain ⟨ix, hixe⟩ : ∃ ix, ix = homeIx (x :: r) := ⟨_, rfl⟩
  obtain ⟨hf, hfe⟩ : ∃ hf, hf = homeFr (x :: r) := ⟨_, rfl⟩
  have HIX : Hid (ix = homeIx (x :: r)) := hixe
  have HFE : Hid (hf = homeFr (x :: r)) := hfe
  rw [← hixe] at hq4 fr4 hix q5
  rw [← hfe] at hq4 hL hrow hhg
  clear hixe hfe
  have hixz : (ix : Int) < (r.length : Int) + 1 := by omega
  have hgl2 := hgl.2
  go_enter Try.func40, Try.ntmps40
  obtain ⟨W, hW⟩ : ∃ W, W = w.alloc (.cells #[.int .i64 e.t.f, .int .i64 e.t.v, .slice e.a e.t.kids.length e.c] 27) := ⟨_, rfl⟩
  have hb0 : Below w.heap.size w W := by rw [hW]; exact (Below.refl _ _).alloc (Nat.le_refl _) _
  have p0 : W.cell? ⟨w.heap.size, 0, none⟩ = some (.int .i64 e.t.f) := by rw [hW]; simp [go_sem]
  have p1 : W.cell? ⟨w.heap.size, 1, none⟩ = some (.int .i64 e.t.v) := by rw [hW]; simp [go_sem]
  have p2 : W.cell? ⟨w.heap.size, 2, none⟩ = some (.slice e.a e.t.kids.length e.c) := by rw [hW]; simp [go_sem]
  have hWz : W.heap.size = w.heap.size + 1 := by rw [hW]; simp
  go_wp2
  rw [← hW]
  have c4 := keepC hb0 hq4
  have f4 : W.frozen? ⟨g, ix * 6 + 4, none⟩ = false := (hb0.frozen (p := ⟨g, ix * 6 + 4, none⟩) hgl2).trans fr4
  have hrW := own_on hrow hb0
  have hgW : g < W.heap.size := by omega
  clear hq4 fr4 hW
  have hxl : (cs3 (hf.L.map FE.cells)).length = hf.L.length * 3 := by rw [cs3_len]; simp
  have hLz : (hf.L.length : Int) < (hf.L.length : Int) + 1 := by omega
  go_region_law (refine step_append_own rfl (.tmp 17) (.tmp 20) 25 rfl B 27 i0 _ 3 40 Try.underlying25 hi0 hz0 hz1 hz2 rfl (by decide) (.slice hf.am hf.L.length hf.cm) hf.L.length (cs3 (hf.L.map FE.cells)) (by first | (simp [Act.eval]; done) | simp [Act.eval, Act.put]) (own_on hrW (by repeat (first | exact Below.refl _ _ | refine Below.drew ?_ | refine Below.alloc ?_ (by simp) _))) ⟨w.heap.size + 1, 0, none⟩ 1 1 [.int .i64 0, .int .i64 0, .slice none 0 0] (by first | (simp [Act.eval]; done) | simp [Act.eval, Act.put]) rfl (three_at (by simp [← hWz]) (by simp [← hWz]) (by simp [← hWz])) (three_cell _ _ _ _ _) (by unfold maxLen; omega) (by omega) (by simp; omega) ?_; intro v5 w5 hown5 hgrow5 hat5; have PF := put_facts hxl hown5 hgrow5 hat5 (by repeat (first | exact Below.refl _ _ | refine Below.drew ?_ | refine Below.alloc ?_ (by simp) _)) hgW c4 f4 hhg; obtain ⟨g5, c5, rfl, ⟨e0, e1, e2⟩, ⟨f0, f1, f2⟩, c4', f4', hg5, hc5, hat'⟩ := PF; have HO5 : Hid _ := hown5; have HG5 : Hid _ := hgrow5; clear hown5 hgrow5 hat5)
  all_goals
    have hO := HO5.out
    have hG := HG5.out
    rw [HFE.out] at hO hG hat'
    have FI := put_fin HH.out (hb0.trans (Below.mono (by repeat (first | exact Below.refl _ _ | refine Below.drew ?_ | refine Below.alloc ?_ (by simp) _)) hb0.size)) hh he hd hdg hG hO hat'
    rw [← HFE.out, ← HIX.out] at FI
    go_end0
    first
      | exact ⟨g5, c5, rfl, FI.1, FI.2⟩
      | (rw [set_comm _ g g5 _ _ _ _ hg5.symm, set_comm _ g g5 _ _ _ _ hg5.symm, set_comm _ g g5 _ _ _ _ hg5.symm]; exact ⟨g5, c5, rfl, FI.1, FI.2⟩)
end Go.Proofs.Ytollijngiioonaa

/- A drawn term: in one form, or turned at one place. Conditions: at most 1048576 bytes. -/
namespace Go.Proofs.Ytollijngiioonaa
set_option maxRecDepth 100000
open Go.RowKit

theorem Foc.blt {N r : Nat} {S : Nat → Prop} {T : TermD} {b o : Nat} {u : TermD} {ua : Option Addr} {uc : Nat} {U : Nat → Prop} {w : World} (h : Foc N r S T b o u ua uc U w) : b < w.heap.size := Nat.lt_of_lt_of_le (h.SN b h.bin) h.Nw
theorem Foc.rowne {N r : Nat} {S : Nat → Prop} {T : TermD} {b o : Nat} {u : TermD} {ua : Option Addr} {uc : Nat} {U : Nat → Prop} {w : World} (h : Foc N r S T b o u ua uc U w) : (Value.slice ua u.kids.length uc).ownBlock ≠ some b := by
  obtain ⟨A, C, K, _, _, _, _, hbU, _⟩ := h.own.each
  exact fun e => h.bU (hbU b e)

set_option maxHeartbeats 1600000 in
set_option maxRecDepth 100000 in
theorem draw_any (c : Nat) (a : Option Addr) (bs : List Int) (cap : Nat) (w : World) (hl : bs.length ≤ 1048576) (hc : Cur 95 w c a bs cap) (hbs : bs = [] ∨ ∀ x, a = some x → x.block < w.heap.size) :
    Calls Try.prog 65 #[.pointer (some ⟨c, 0, none⟩)] w fun e w' => ∃ t ta tc, e = .returned (.agg #[.int .i64 t.f, .int .i64 t.v, .slice ta t.kids.length tc]) ∧ DrawT w c a bs cap 15 t ta tc w' := by
  obtain ⟨i0, hi0, hz0, hz1, hz2⟩ := info_parts info29
  have D0 := DC.start hc
  have HB : Hid (bs = [] ∨ ∀ x, a = some x → x.block < w.heap.size) := hbs
  clear hc hbs
  go_enter Try.func65, Try.ntmps65
  go_upto_block 0 with (go_at_call 81; refine (right_any c a bs cap 3 _ hl (by omega) (by omega) D0.cur (HB.out.imp id (fun h x hx => Nat.lt_of_lt_of_le (h x hx) D0.st.size))).mono ?_; rintro e w1 ⟨t0, ta, tc, rfl, T1⟩; generalize normT (blindAt sig7) t0 = T at T1 ⊢; have D1 := (D0.stay T1.st T1.cur); clear D0)
  have HC : Hid (∀ x, (w.heap.size + 1 ≤ x ∧ x < w1.heap.size) ∨ x = w1.heap.size → x ≠ c) := by have := D1.lt; have := D1.z; intro x hx; omega
  have hz1' := D1.z
  have HT : Hid (partsT T ≤ 7) := T1.parts
  have F0 : Foc (w1.heap.size + 1) w1.heap.size (fun x => w.heap.size + 1 ≤ x ∧ x < w1.heap.size) T w1.heap.size 0 T ta tc (fun x => w.heap.size + 1 ≤ x ∧ x < w1.heap.size) (w1.alloc (.cells #[.int .i64 T.f, .int .i64 T.v, .slice ta T.kids.length tc] 27)) := by
    have hb := (Below.refl w1.heap.size w1).alloc (Nat.le_refl _) (.cells #[.int .i64 T.f, .int .i64 T.v, .slice ta T.kids.length tc] 27)
    refine Foc.root ?_ ?_ ?_ (fun j => ?_) ((T1.own.frame (fun x hx => hb.block x hx.2) hb.size).mono (fun x hx => ⟨by simpa using hx.1, hx.2⟩)) T1.wf (fun h => by omega) (fun x hx => by omega) (by simp)
    all_goals simp [go_sem]
  have D2 := D1.on ((Below.refl w1.heap.size w1).alloc (Nat.le_refl _) (.cells #[.int .i64 T.f, .int .i64 T.v, .slice ta T.kids.length tc] 27))
  clear T1 D1
  go_cut [4] from 5 (fun s4 wl => ∃ (b o : Nat) (u : TermD) (ua : Option Addr) (uc : Nat) (U : Nat → Prop), s4 = .pointer (some ⟨b, o, none⟩) ∧ DC w c a bs cap wl ∧ Foc (w1.heap.size + 1) w1.heap.size (fun x => w.heap.size + 1 ≤ x ∧ x < w1.heap.size) T b o u ua uc U wl)
  case first =>
    go_wp2_with fail
    go_loopw [4, 5] (fun n i wr => ∃ (k b o : Nat) (u : TermD) (ua : Option Addr) (uc : Nat) (U : Nat → Prop), k ≤ 3 ∧ i = .int .i64 k ∧ n = .pointer (some ⟨b, o, none⟩) ∧ DC w c a bs cap wr ∧ Foc (w1.heap.size + 1) w1.heap.size (fun x => w.heap.size + 1 ≤ x ∧ x < w1.heap.size) T b o u ua uc U wr) (fun _ i _ => 3 - (intOf i).toNat)
    case atStart => exact ⟨0, w1.heap.size, 0, T, ta, tc, _, by omega, rfl, rfl, D2, F0⟩
    case round =>
      obtain ⟨k, b, o, u, ua, uc, U, hk, rfl, rfl, D, F⟩ := hrel
      clear D2 F0
      have c2 := F.c2
      have hul : u.kids.length < 7 := Nat.lt_of_lt_of_le F.len HT.out
      by_cases hk3 : k < 3
      · have hk3z : (k : Int) < 3 := by omega
        by_cases hu : u.kids.length = 0
        · rw [hu] at c2
          go_wp2_with fail
          go_meet
          case rel => exact ⟨b, o, u, ua, uc, U, rfl, D, F⟩
        · obtain ⟨g, _, _, _, hua, _⟩ := F.down (i := 0) (by omega)
          subst hua
          have hu1 : (0 : Int) < (u.kids.length : Int) := by omega
          go_wp2_with (go_at_call 33; refine (once_any c a bs cap _ _ hl (by omega) (by omega) D.cur).mono ?_; rintro e wa ⟨b1, rfl, hC1, hg1⟩; have D' := D.stay (stay_of_grown hg1) hC1; have F' := F.stay (stay_of_grown hg1) HC.out; clear c2 D F hC1 hg1; have D := D'; have F := F'; clear D' F'; have c2 := F.c2)
          · have DD := D.on (Below.refl _ _).drew
            have FF := F.below (Below.refl _ _).drew
            have cc := FF.c2
            clear D F c2
            go_region_with (go_at_call 41; refine (below_any c a bs cap (u.kids.length : Int) _ hl (by omega) (by omega) DD.cur).mono ?_; rintro e wb ⟨q, rfl, hq, hC1, hg1⟩; have D' := DD.stay (stay_of_grown hg1) hC1; have F' := FF.stay (stay_of_grown hg1) HC.out; clear cc DD FF hC1 hg1; have D := D'; have F := F'; clear D' F'; have c2 := F.c2)
            all_goals
              obtain ⟨g', a', c', U', hg', F2⟩ := F.down (i := q) (by omega)
              cases hg'
              go_wp2_with fail
              go_roundw
              case measure => simp [intOf]; omega
              case rel => exact ⟨k + 1, _, _, _, a', c', U', by omega, by simp, by simp, D, F2⟩
          · go_meet
            case rel => exact ⟨b, o, u, _, uc, U, rfl, D, F⟩
      · have hk3z : ¬ (k : Int) < 3 := by omega
        go_wp2_with fail
        go_meet
        case rel => exact ⟨b, o, u, ua, uc, U, rfl, D, F⟩
  case rest =>
    obtain ⟨b, o, u, ua, uc, U, rfl, D, F⟩ := hcut
    clear D2 F0
    have c2 := F.c2
    have hul : u.kids.length < 7 := Nat.lt_of_lt_of_le F.len HT.out
    go_wp2_with (go_at_call 41; refine (below_any c a bs cap 12 _ hl (by omega) (by omega) D.cur).mono ?_; rintro e wt ⟨q, rfl, hq, hC1, hg1⟩; have D' := D.stay (stay_of_grown hg1) hC1; have F' := F.stay (stay_of_grown hg1) HC.out; clear c2 D F hC1 hg1; have D := D'; have F := F'; have hlt := D.lt; have hzt := D.z; obtain ⟨T5, ta5, tc5, ⟨n0, n1, n2⟩, hO5, hW5, hP5⟩ := F.now; have r0 := D.r0; have r1 := D.r1; have r2 := D.r2; have fr := D.fr; clear D' F')
    · clear n0 n1 n2 hO5 hW5 hP5 r0 r1 r2 fr
      refine (pickInt_any c a bs cap wt.heap.size 5 [-2, -1, 0, 5, 7] 5 _ hl rfl (by simp) (by simp) (D.on ((Below.refl _ _).alloc (Nat.le_refl _) _)).cur (by simp) (by omega) (lit_cells wt [-2, -1, 0, 5, 7])).mono ?_
      rintro e wp ⟨z, rfl, hz, hC2, hg2⟩
      have D1 := (D.on ((Below.refl _ _).alloc (Nat.le_refl _) _)).stay (stay_of_grown hg2) hC2
      have F1 := (F.below ((Below.refl _ _).alloc (Nat.le_refl _) _)).stay (stay_of_grown hg2) HC.out
      have hzw : isW z := by simp at hz; unfold isW; omega
      have e0 := F1.c0
      have ef := F1.fr (o)
      have hbb : w.heap.size + 1 ≤ b := F1.bin.elim (fun h => h.1) (fun h => by omega)
      obtain ⟨T5, ta5, tc5, ⟨n0, n1, n2⟩, hO5, hW5, hP5⟩ := F1.setF hzw
      have D2 := D1.grow (grown_set wp b (o) (.int .i64 z)) hbb HB.out
      have r0 := D2.r0
      have r1 := D2.r1
      have r2 := D2.r2
      have fr := D2.fr
      clear D D1 F F1 hC2 hg2
      go_wp2_with fail
      obtain ⟨z0, z1, z2⟩ := fin_res D2 (.int .i64 T5.f) (.int .i64 T5.v) (.slice ta5 T5.kids.length tc5)
      exact bodyPost_ret (v := .agg #[.int .i64 T5.f, .int .i64 T5.v, .slice ta5 T5.kids.length tc5]) (by simp [results, Try.results65, go_sem, z0, z1, z2]) rfl ⟨T5, ta5, tc5, rfl, D2.fin (t := T5) HB.out (hO5.mono (fun x hx => ⟨hx.1.elim (fun h => h.1) (fun h => by omega), hx.2⟩)) hO5.le hW5 (by have := HT.out; omega)⟩
    · clear n0 n1 n2 hO5 hW5 hP5 r0 r1 r2 fr
      refine (pickInt_any c a bs cap wt.heap.size 4 [-1, 1, 99, 100] 4 _ hl rfl (by simp) (by simp) (D.on ((Below.refl _ _).alloc (Nat.le_refl _) _)).cur (by simp) (by omega) (lit_cells wt [-1, 1, 99, 100])).mono ?_
      rintro e wp ⟨z, rfl, hz, hC2, hg2⟩
      have D1 := (D.on ((Below.refl _ _).alloc (Nat.le_refl _) _)).stay (stay_of_grown hg2) hC2
      have F1 := (F.below ((Below.refl _ _).alloc (Nat.le_refl _) _)).stay (stay_of_grown hg2) HC.out
      have hzw : isW z := by simp at hz; unfold isW; omega
      have e0 := F1.c1
      have ef := F1.fr (o + 1)
      have hbb : w.heap.size + 1 ≤ b := F1.bin.elim (fun h => h.1) (fun h => by omega)
      obtain ⟨T5, ta5, tc5, ⟨n0, n1, n2⟩, hO5, hW5, hP5⟩ := F1.setV hzw
      have D2 := D1.grow (grown_set wp b (o + 1) (.int .i64 z)) hbb HB.out
      have r0 := D2.r0
      have r1 := D2.r1
      have r2 := D2.r2
      have fr := D2.fr
      clear D D1 F F1 hC2 hg2
      go_wp2_with fail
      obtain ⟨z0, z1, z2⟩ := fin_res D2 (.int .i64 T5.f) (.int .i64 T5.v) (.slice ta5 T5.kids.length tc5)
      exact bodyPost_ret (v := .agg #[.int .i64 T5.f, .int .i64 T5.v, .slice ta5 T5.kids.length tc5]) (by simp [results, Try.results65, go_sem, z0, z1, z2]) rfl ⟨T5, ta5, tc5, rfl, D2.fin (t := T5) HB.out (hO5.mono (fun x hx => ⟨hx.1.elim (fun h => h.1) (fun h => by omega), hx.2⟩)) hO5.le hW5 (by have := HT.out; omega)⟩
    · clear n0 n1 n2 hO5 hW5 hP5 r0 r1 r2 fr
      have c2 := F.c2
      have hwt9 : w1.heap.size + 1 ≤ wt.heap.size := F.Nw
      have HB2 : Hid (w.heap.size + 1 ≤ b) := F.bin.elim (fun h => h.1) (fun h => by show _ ≤ _; omega)
      have c2a : (wt.alloc (.cells #[.int .i64 0, .int .i64 0, .slice none 0 0] 27)).cell? ⟨b, o + 2, none⟩ = some (.slice ua u.kids.length uc) := keepC ((Below.refl _ _).alloc (Nat.le_refl _) _) c2
      have hcz : wt.heap.size ≠ c := by omega
      have hulz : (u.kids.length : Int) < (u.kids.length : Int) + 1 := by omega
      go_region_law (first
        | (go_simp; go_at_call 35; refine (deep_any c a bs cap 2 hl (by omega) (by omega) 1 (wt.drew.alloc (.cells #[.int .i64 0, .int .i64 0, .slice none 0 0] 27)) (by omega) (D.on ((Below.refl _ _).drew.alloc (Nat.le_refl _) _)).cur (HB.out.imp id (fun h x hx => Nat.lt_of_lt_of_le (Nat.lt_of_lt_of_le (h x hx) D.st.size) (by simp)))).mono ?_; rintro e wp ⟨t2, ta2, tc2, rfl, T9⟩; have D1 := (D.on ((Below.refl _ _).drew.alloc (Nat.le_refl _) _)).stay T9.st T9.cur; have F1 := (F.below ((Below.refl _ _).drew.alloc (Nat.le_refl _) _)).stay T9.st HC.out; have hsz9 := T9.st.size; have z0 := T9.st.cell (p := ⟨wt.heap.size, 0, none⟩) (v := .int .i64 0) (by simp [go_sem]) hcz; have z1 := T9.st.cell (p := ⟨wt.heap.size, 1, none⟩) (v := .int .i64 0) (by simp [go_sem]) hcz; have z2 := T9.st.cell (p := ⟨wt.heap.size, 2, none⟩) (v := .slice none 0 0) (by simp [go_sem]) hcz; have c2' := F1.c2; have f2' := F1.fr (o + 2); have hbw := F1.blt; have hne := F1.rowne; obtain ⟨xs, hrow⟩ := F1.own.own; have hxl := hrow.1; have HD1 : Hid _ := D1; have HF1 : Hid _ := F1; have HT9 : Hid _ := T9; have HR : Hid _ := hrow; have HX : Hid (w1.heap.size + 1 ≤ (wt.drew.alloc (.cells #[.int .i64 0, .int .i64 0, .slice none 0 0] 27)).heap.size) := Nat.le_trans hwt9 (by simp); clear D1 F1 T9)
        | (go_simp; go_at_call 35; refine (deep_any c a bs cap 2 hl (by omega) (by omega) 1 (wt.drew) (by omega) (D.on (Below.refl _ _).drew).cur (HB.out.imp id (fun h x hx => Nat.lt_of_lt_of_le (Nat.lt_of_lt_of_le (h x hx) D.st.size) (by simp)))).mono ?_; rintro e wp ⟨t2, ta2, tc2, rfl, T9⟩; have D1 := (D.on (Below.refl _ _).drew).stay T9.st T9.cur; have F1 := (F.below (Below.refl _ _).drew).stay T9.st HC.out; have hsz9 := T9.st.size; have zB : True := trivial; have c2' := F1.c2; have f2' := F1.fr (o + 2); have hbw := F1.blt; have hne := F1.rowne; obtain ⟨xs, hrow⟩ := F1.own.own; have hxl := hrow.1; have HD1 : Hid _ := D1; have HF1 : Hid _ := F1; have HT9 : Hid _ := T9; have HR : Hid _ := hrow; have HX : Hid (w1.heap.size + 1 ≤ (wt.drew).heap.size) := Nat.le_trans hwt9 (by simp); clear D1 F1 T9)
        | (have _ := zB; refine step_append_own rfl (.tmp 60) (.tmp 64) 25 rfl 0 27 i0 _ 3 40 Try.underlying25 hi0 hz0 hz1 hz2 rfl (by decide) (.slice ua u.kids.length uc) u.kids.length xs (by first | (simp [Act.eval]; done) | simp [Act.eval, Act.put]) (own_on hrow (by repeat (first | exact Below.refl _ _ | refine Below.drew ?_ | refine Below.alloc ?_ (by simp) _))) ⟨wp.heap.size, 0, none⟩ 1 1 [.int .i64 0, .int .i64 0, .slice none 0 0] (by first | (simp [Act.eval]; done) | simp [Act.eval, Act.put]) rfl (three_at (by simp) (by simp) (by simp)) (three_cell _ _ _ _ _) (by unfold maxLen; omega) (by omega) (by simp <;> omega) ?_; intro v5 w5 hown5 hgrow5 hat5; have PF := put_facts hrow.1 hown5 hgrow5 hat5 (by repeat (first | exact Below.refl _ _ | refine Below.drew ?_ | refine Below.alloc ?_ (by simp) _)) hbw c2' f2' hne; have HA5 : Hid _ := hat5; obtain ⟨g5, c5, rfl, ⟨e0, e1, e2⟩, ⟨f0, f1, f2⟩, c4', f4', hg5, hc5, hat'⟩ := PF; have HO5 : Hid _ := hown5; have HG5 : Hid _ := hgrow5; clear hown5 hgrow5 hat5)
        | (refine step_append_own rfl (.tmp 60) (.tmp 64) 25 rfl 0 27 i0 _ 3 40 Try.underlying25 hi0 hz0 hz1 hz2 rfl (by decide) (.slice ua u.kids.length uc) u.kids.length xs (by first | (simp [Act.eval]; done) | simp [Act.eval, Act.put]) (own_on hrow (by repeat (first | exact Below.refl _ _ | refine Below.drew ?_ | refine Below.alloc ?_ (by simp) _))) ⟨wt.heap.size, 0, none⟩ 1 1 [.int .i64 0, .int .i64 0, .slice none 0 0] (by first | (simp [Act.eval]; done) | simp [Act.eval, Act.put]) rfl (three_at z0 z1 z2) (three_cell _ _ _ _ _) (by unfold maxLen; omega) (by omega) (by simp <;> omega) ?_; intro v5 w5 hown5 hgrow5 hat5; have PF := put_facts hrow.1 hown5 hgrow5 hat5 (by repeat (first | exact Below.refl _ _ | refine Below.drew ?_ | refine Below.alloc ?_ (by simp) _)) hbw c2' f2' hne; have HA5 : Hid _ := hat5; obtain ⟨g5, c5, rfl, ⟨e0, e1, e2⟩, ⟨f0, f1, f2⟩, c4', f4', hg5, hc5, hat'⟩ := PF; have HO5 : Hid _ := hown5; have HG5 : Hid _ := hgrow5; clear hown5 hgrow5 hat5))
      all_goals
        clear e0 e1 e2 f0 f1 f2 c4' f4' c2' f2'
        obtain ⟨h1, h2⟩ := own_fill (p := .int .i64 t2.f) (q := .int .i64 t2.v) (s := .slice ta2 t2.kids.length tc2) HO5.out hxl HG5.out hat'
        have A5 := app_now HF1.out HD1.out HT9.out HX.out HT.out HB.out HB2.out (by repeat (first | exact Below.refl _ _ | refine Below.drew ?_ | refine Below.alloc ?_ (by simp) _)) (own_on HR.out (by repeat (first | exact Below.refl _ _ | refine Below.drew ?_ | refine Below.alloc ?_ (by simp) _))) h1 h2 HA5.out
        have hp2 : partsT t2 ≤ 3 := by simpa [bdN] using HT9.out.parts
        obtain ⟨g6, c6, T5, ta5, tc5, hv, D2, d2, df, ⟨n0, n1, n2⟩, hO5, hW5, hP5⟩ := A5
        cases hv
        clear h1 h2 d2 df
        try rw [set_comm _ b g5 _ _ _ _ hg5.symm, set_comm _ b g5 _ _ _ _ hg5.symm, set_comm _ b g5 _ _ _ _ hg5.symm]
        obtain ⟨wf, hwf⟩ : ∃ wf, wf = ((((w5.setCell ⟨g5, u.kids.length * 3, none⟩ (.int .i64 t2.f)).setCell ⟨g5, u.kids.length * 3 + 1, none⟩ (.int .i64 t2.v)).setCell ⟨g5, u.kids.length * 3 + 2, none⟩ (.slice ta2 t2.kids.length tc2)).setCell ⟨b, o + 2, none⟩ (.slice (some ⟨g5, 0, none⟩) (u.kids.length + 1) c5)) := ⟨_, rfl⟩
        rw [← hwf] at D2 n0 n1 n2 hO5 ⊢
        clear hwf
        have r0 := D2.r0
        have r1 := D2.r1
        have r2 := D2.r2
        have fr := D2.fr
        go_wp2_with fail
        obtain ⟨z0, z1, z2⟩ := fin_res D2 (.int .i64 T5.f) (.int .i64 T5.v) (.slice ta5 T5.kids.length tc5)
        exact bodyPost_ret (v := .agg #[.int .i64 T5.f, .int .i64 T5.v, .slice ta5 T5.kids.length tc5]) (by simp [results, Try.results65, go_sem, z0, z1, z2]) rfl ⟨T5, ta5, tc5, rfl, D2.fin (t := T5) HB.out (hO5.mono (fun x hx => ⟨hx.1.elim (fun h => h.1) (fun h => by omega), hx.2⟩)) hO5.le hW5 (by have := HT.out; omega)⟩
    · clear n0 n1 n2 hO5 hW5 hP5 r0 r1 r2 fr
      refine (deep_any c a bs cap 3 hl (by omega) (by omega) 3 wt (by omega) D.cur (HB.out.imp id (fun h x hx => Nat.lt_of_lt_of_le (h x hx) D.st.size))).mono ?_
      rintro e wp ⟨T5, ta5, tc5, rfl, T9⟩
      have D2 := D.stay T9.st T9.cur
      have hO5 := T9.own
      have hW5 := T9.wf
      have hP5 := T9.parts
      have r0 := D2.r0
      have r1 := D2.r1
      have r2 := D2.r2
      have fr := D2.fr
      clear D F
      go_wp2_with fail
      obtain ⟨z0, z1, z2⟩ := fin_res D2 (.int .i64 T5.f) (.int .i64 T5.v) (.slice ta5 T5.kids.length tc5)
      exact bodyPost_ret (v := .agg #[.int .i64 T5.f, .int .i64 T5.v, .slice ta5 T5.kids.length tc5]) (by simp [results, Try.results65, go_sem, z0, z1, z2]) rfl ⟨T5, ta5, tc5, rfl, D2.fin (t := T5) HB.out (hO5.mono (fun x hx => ⟨by omega, hx.2⟩)) T9.le hW5 (by simpa [bdN] using hP5)⟩
    · obtain ⟨z0, z1, z2⟩ := fin_res D (.int .i64 T5.f) (.int .i64 T5.v) (.slice ta5 T5.kids.length tc5)
      exact bodyPost_ret (v := .agg #[.int .i64 T5.f, .int .i64 T5.v, .slice ta5 T5.kids.length tc5]) (by simp [results, Try.results65, go_sem, z0, z1, z2]) rfl ⟨T5, ta5, tc5, rfl, D.fin (t := T5) HB.out (hO5.mono (fun x hx => ⟨hx.1.elim (fun h => h.1) (fun h => by omega), hx.2⟩)) hO5.le hW5 (by have := HT.out; omega)⟩
end Go.Proofs.Ytollijngiioonaa

/- Plain facts on lists of whole numbers: what a loop over a list has seen so far. Conditions: none. -/
namespace Go.Proofs.Ytollijngiioonaa
set_option maxRecDepth 100000
open Go.RowKit

/-- Whether x is in the list. -/
def hasB (zs : List Int) (x : Int) : Bool := zs.any (fun y => y == x)

theorem take_snoc {zs : List Int} {k : Nat} (h : k < zs.length) : zs.take (k + 1) = zs.take k ++ [zs[k]] :=
  List.take_succ_eq_append_getElem h

theorem hasB_hit {zs : List Int} {k : Nat} {x : Int} (h : k < zs.length) (e : (zs[k] == x) = true) : hasB zs x = true := by
  unfold hasB
  rw [List.any_eq_true]
  exact ⟨zs[k], List.getElem_mem h, e⟩

theorem hasB_step {zs : List Int} {k : Nat} {x : Int} (h : k < zs.length) (e0 : hasB (zs.take k) x = false) (e : (zs[k] == x) = false) : hasB (zs.take (k + 1)) x = false := by
  unfold hasB at *
  rw [take_snoc h, List.any_append, e0]
  simpa using e

theorem hasB_all {zs : List Int} {k : Nat} {x : Int} (h : ¬ k < zs.length) (e0 : hasB (zs.take k) x = false) : hasB zs x = false := by
  rwa [List.take_of_length_le (by omega)] at e0

/-- Whether two lists are the same. -/
def eqB (zs ys : List Int) : Bool := zs == ys

theorem eqB_self (zs : List Int) : eqB zs zs = true := by simp [eqB]
theorem eqB_len {zs ys : List Int} (h : ¬ zs.length = ys.length) : eqB zs ys = false := by
  simp only [eqB, beq_eq_false_iff_ne]; intro e; exact h (by rw [e])
theorem eqB_hit {zs ys : List Int} {k : Nat} (h : k < zs.length) (h' : k < ys.length) (e : (zs[k] != ys[k]) = true) : eqB zs ys = false := by
  simp only [eqB, beq_eq_false_iff_ne]; intro e'; subst e'; simp at e
theorem eqB_step {zs ys : List Int} {k : Nat} (h : k < zs.length) (h' : k < ys.length) (e0 : zs.take k = ys.take k) (e : (zs[k] != ys[k]) = false) : zs.take (k + 1) = ys.take (k + 1) := by
  have e' : zs[k] = ys[k] := by simpa using e
  rw [take_snoc h, take_snoc h', e0, e']
theorem eqB_all {zs ys : List Int} {k : Nat} (h : ¬ k < zs.length) (hl : zs.length = ys.length) (e0 : zs.take k = ys.take k) : eqB zs ys = true := by
  rw [List.take_of_length_le (by omega), List.take_of_length_le (by omega)] at e0
  rw [e0]; exact eqB_self _

/-- The slice value that begins at 'a' reads in w as the numbers zs: it is empty, or it leads to their cells. -/
def Rd (w : World) (a : Option Addr) (zs : List Int) : Prop :=
  zs = [] ∨ ∃ b off, a = some ⟨b, off, none⟩ ∧ b < w.heap.size ∧ ∀ i, i < zs.length → w.cell? ⟨b, off + i, none⟩ = some (.int .i64 (zs[i]?.getD 0))

theorem Rd.below {w w' : World} {a : Option Addr} {zs : List Int} (h : Rd w a zs) (hb : Below w.heap.size w w') : Rd w' a zs := by
  rcases h with h | ⟨b, off, rfl, hlt, hc⟩
  · exact .inl h
  · exact .inr ⟨b, off, rfl, Nat.lt_of_lt_of_le hlt hb.size, fun i hi => (hb.cell (p := ⟨b, off + i, none⟩) hlt).trans (hc i hi)⟩

theorem Rd.drewN {w : World} {a : Option Addr} {zs : List Int} (h : Rd w a zs) (n : Nat) : Rd (w.drewN n) a zs := by
  rcases h with h | ⟨b, off, rfl, hlt, hc⟩
  · exact .inl h
  · exact .inr ⟨b, off, rfl, hlt, fun i hi => hc i hi⟩

/-- The cells of a list of numbers. -/
def ints (zs : List Int) : List Value := zs.map (Value.int .i64)

theorem copy_step {zs : List Int} {k : Nat} (h : k < zs.length) :
    (ints (zs.take k) ++ List.replicate (zs.length - k) (Value.int .i64 0)).set k (.int .i64 zs[k]) = ints (zs.take (k + 1)) ++ List.replicate (zs.length - (k + 1)) (Value.int .i64 0) := by
  have e : zs.length - k = (zs.length - (k + 1)) + 1 := by omega
  have l : (ints (zs.take k)).length = k := by simp [ints]; omega
  rw [List.set_append, if_neg (by omega), l, Nat.sub_self, e, List.replicate_succ, List.set_cons_zero, take_snoc h]
  simp only [ints, List.map_append, List.map_cons, List.map_nil, List.append_assoc, List.cons_append, List.nil_append]

theorem copy_at {zs : List Int} {k : Nat} (h : k < zs.length) : (ints (zs.take k) ++ List.replicate (zs.length - k) (Value.int .i64 0))[k]? = some (.int .i64 0) := by
  have l : (ints (zs.take k)).length = k := by simp [ints]; omega
  rw [List.getElem?_append_right (by omega), l, Nat.sub_self, List.getElem?_replicate, if_pos (by omega)]

theorem made_zero (n : Nat) : (madeCells #[Value.int .i64 0] n).toList = List.replicate n (Value.int .i64 0) := by
  apply List.ext_getElem
  · simp [madeCells]
  · intro i h1 h2
    simp [madeCells, Nat.mod_one]

theorem Rd.own {w : World} {base g cap : Nat} {zs : List Int} {n : Nat} (hn : n = zs.length) (h : w.ownsRow base 3 1 (.slice (some ⟨g, 0, none⟩) n cap) n (ints zs)) : Rd w (some ⟨g, 0, none⟩) zs := by
  subst hn
  refine .inr ⟨g, 0, rfl, (h.lt g rfl).2, fun i hi => ?_⟩
  rw [show (0 + i) = i by omega, h.cellAt i (by omega)]
  simp [ints, hi]
end Go.Proofs.Ytollijngiioonaa

/- Plain facts on a number put into a list where it comes by its size, and on lists that count up. Conditions: none. -/
namespace Go.Proofs.Ytollijngiioonaa
set_option maxRecDepth 100000
open Go.RowKit

/-- x put into zs where it comes by its size, once. -/
def ins (zs : List Int) (x : Int) : List Int :=
  if hasB zs x = true then zs else zs.takeWhile (fun y => decide (y < x)) ++ x :: zs.dropWhile (fun y => decide (y < x))

/-- One round of the program's own loop: what it has laid out, and whether x is placed. -/
def stepI (x : Int) (s : List Int × Bool) (y : Int) : List Int × Bool :=
  if (!s.2 && decide (x < y)) = true then (s.1 ++ [x] ++ [y], true) else (s.1 ++ [y], s.2)

theorem fold_placed (x : Int) : ∀ (l o : List Int), l.foldl (stepI x) (o, true) = (o ++ l, true)
  | [], o => by simp
  | y :: l, o => by rw [List.foldl_cons, show stepI x (o, true) y = (o ++ [y], true) from by simp [stepI], fold_placed x l]; simp

theorem fold_new (x : Int) : ∀ (l o : List Int), hasB l x = false →
    (let r := l.foldl (stepI x) (o, false); if r.2 = true then r.1 else r.1 ++ [x]) = o ++ (l.takeWhile (fun y => decide (y < x)) ++ x :: l.dropWhile (fun y => decide (y < x)))
  | [], o, _ => by simp
  | y :: l, o, h => by
    have hy : ¬ y = x := by intro e; simp [hasB, e] at h
    have hl : hasB l x = false := by simp [hasB] at h ⊢; exact h.2
    rw [List.foldl_cons]
    by_cases hxy : x < y
    · rw [show stepI x (o, false) y = (o ++ [x] ++ [y], true) from by simp [stepI, hxy], fold_placed]
      have : ¬ y < x := by omega
      simp [this]
    · rw [show stepI x (o, false) y = (o ++ [y], false) from by simp [stepI, hxy], fold_new x l (o ++ [y]) hl]
      have : y < x := by omega
      simp [this]

/-- What the program's loop has made of the first k numbers. -/
def made (zs : List Int) (x : Int) (k : Nat) : List Int × Bool := (zs.take k).foldl (stepI x) ([], hasB zs x)

theorem made_zero_ (zs : List Int) (x : Int) : made zs x 0 = ([], hasB zs x) := rfl
theorem made_succ {zs : List Int} {x : Int} {k : Nat} (h : k < zs.length) : made zs x (k + 1) = stepI x (made zs x k) zs[k] := by
  unfold made; rw [take_snoc h, List.foldl_append]; rfl
theorem made_put {zs : List Int} {x : Int} {k : Nat} (h : k < zs.length) (hp : (made zs x k).2 = false) (hx : x < zs[k]) :
    (made zs x (k + 1)).1 = (made zs x k).1 ++ [x] ++ [zs[k]] ∧ (made zs x (k + 1)).2 = true := by
  rw [made_succ h]; simp [stepI, hp, hx]
theorem made_not {zs : List Int} {x : Int} {k : Nat} (h : k < zs.length) (hp : (made zs x k).2 = true ∨ ¬ x < zs[k]) :
    (made zs x (k + 1)).1 = (made zs x k).1 ++ [zs[k]] ∧ (made zs x (k + 1)).2 = (made zs x k).2 := by
  rw [made_succ h]
  rcases hp with hp | hp <;> simp [stepI, hp]
theorem made_len (zs : List Int) (x : Int) : ∀ k, k ≤ zs.length → ((made zs x k).1.length = k ∨ ((made zs x k).1.length = k + 1 ∧ (made zs x k).2 = true))
  | 0, _ => .inl rfl
  | k + 1, h => by
    have ih := made_len zs x k (by omega)
    rw [made_succ (by omega)]
    by_cases c : (!(made zs x k).2 && decide (x < zs[k])) = true
    · simp only [stepI, c, if_true]
      simp at c
      rcases ih with ih | ⟨_, ih⟩
      · right; simp [ih]
      · simp [ih] at c
    · have e : stepI x (made zs x k) zs[k] = ((made zs x k).1 ++ [zs[k]], (made zs x k).2) := by
        rw [stepI, if_neg c]
      rw [e]
      rcases ih with ih | ⟨ih, ih'⟩
      · left; simp [ih]
      · right; simp [ih, ih']
theorem made_end (zs : List Int) (x : Int) : (if (made zs x zs.length).2 = true then (made zs x zs.length).1 else (made zs x zs.length).1 ++ [x]) = ins zs x := by
  unfold made ins
  rw [List.take_length]
  by_cases h : hasB zs x = true
  · rw [if_pos h, h, fold_placed]; simp
  · have h' : hasB zs x = false := by simpa using h
    rw [if_neg h, h']
    exact fold_new x zs [] h'

theorem ins_len (zs : List Int) (x : Int) : (ins zs x).length ≤ zs.length + 1 := by
  unfold ins
  split
  · omega
  · rw [List.length_append, List.length_cons]
    have h : (zs.takeWhile (fun y => decide (y < x)) ++ zs.dropWhile (fun y => decide (y < x))).length = zs.length := by rw [List.takeWhile_append_dropWhile]
    rw [List.length_append] at h
    omega

/-- Where the first number that is not less than x stands, once all ahead of k are less and that at k is not. -/
theorem ins_at {zs : List Int} {x : Int} {k : Nat} (hk : k ≤ zs.length) (h0 : hasB zs x = false) (hlt : ∀ j, (h : j < zs.length) → j < k → zs[j] < x) (hge : ∀ h : k < zs.length, ¬ zs[k] < x) :
    ins zs x = zs.take k ++ [x] ++ zs.drop k := by
  have e : zs = zs.take k ++ zs.drop k := (List.take_append_drop k zs).symm
  have a1 : (zs.take k).all (fun y => decide (y < x)) = true := by
    rw [List.all_eq_true]
    intro y hy
    obtain ⟨j, hj, rfl⟩ := List.getElem_of_mem hy
    rw [List.length_take] at hj
    rw [List.getElem_take]
    simpa using hlt j (by omega) (by omega)
  have t1 : zs.takeWhile (fun y => decide (y < x)) = zs.take k ∧ zs.dropWhile (fun y => decide (y < x)) = zs.drop k := by
    have g : ∀ (l r : List Int), l.all (fun y => decide (y < x)) = true → (∀ h : 0 < r.length, ¬ r[0] < x) → (l ++ r).takeWhile (fun y => decide (y < x)) = l ∧ (l ++ r).dropWhile (fun y => decide (y < x)) = r := by
      intro l r hl hr
      induction l with
      | nil =>
        cases r with
        | nil => exact ⟨rfl, rfl⟩
        | cons y r => have := hr (by simp); simp at this; have h' : ¬ y < x := by omega
                      simp [h']
      | cons y l ih =>
        simp at hl
        have := ih (by simpa using hl.2)
        simp [hl.1, this]
    have := g (zs.take k) (zs.drop k) a1 (by
      intro h
      rw [List.getElem_drop]
      simp at h
      exact hge (by omega))
    rwa [← e] at this
  unfold ins
  rw [if_neg (by simp [h0]), t1.1, t1.2]
  simp

/-- n numbers from k on, each one more. -/
def upFrom (k : Int) (n : Nat) : List Int := (List.range n).map (fun j : Nat => k + (j : Int))
theorem upFrom_len (k : Int) (n : Nat) : (upFrom k n).length = n := by simp [upFrom]
theorem upFrom_at (k : Int) (n j : Nat) (h : j < n) : (upFrom k n)[j]? = some (k + (j : Int)) := by simp [upFrom, h]
theorem upFrom_get (k : Int) (n j : Nat) (h : j < (upFrom k n).length) : (upFrom k n)[j] = k + (j : Int) := by simp [upFrom]
theorem upFrom_succ (k : Int) (n : Nat) : upFrom k (n + 1) = upFrom k n ++ [k + (n : Int)] := by simp [upFrom, List.range_succ]
theorem mark_step {zs : List Int} {k : Int} {j : Nat} (h : j < zs.length) : (ints (upFrom k j) ++ (ints zs).drop j).set j (.int .i64 (k + (j : Int))) = ints (upFrom k (j + 1)) ++ (ints zs).drop (j + 1) := by
  have l : (ints (upFrom k j)).length = j := by simp [ints, upFrom]
  have d : (ints zs).drop j = (ints zs)[j]'(by simpa [ints] using h) :: (ints zs).drop (j + 1) := List.drop_eq_getElem_cons _
  rw [List.set_append, if_neg (by omega), l, Nat.sub_self, d, List.set_cons_zero, upFrom_succ]
  simp only [ints, List.map_append, List.map_cons, List.map_nil, List.append_assoc, List.cons_append, List.nil_append]
theorem mark_at {zs : List Int} {k : Int} {j : Nat} (h : j < zs.length) : ∃ u, (ints (upFrom k j) ++ (ints zs).drop j)[j]? = some (.int .i64 u) := by
  have l : (ints (upFrom k j)).length = j := by simp [ints, upFrom]
  refine ⟨zs[j], ?_⟩
  rw [List.getElem?_append_right (by omega), l, Nat.sub_self, List.getElem?_drop]
  simp [ints, h]

/-- What is owned stays owned where no old block turns. -/
theorem own_below {w w' : World} {base : Nat} {e : TypeId} {size : Nat} {v : Value} {n : Nat} {xs : List Value} (h : w.ownsRow base e size v n xs) (hb : Below w.heap.size w w') : w'.ownsRow base e size v n xs := by
  have hl := h.lt
  obtain ⟨h1, h2⟩ := h
  refine ⟨h1, ?_⟩
  rcases h2 with h2 | ⟨g, cap, cur, rfl, hg, hh, r⟩
  · exact .inl h2
  · exact .inr ⟨g, cap, cur, rfl, hg, by rw [hb.block g (hl g rfl).2]; exact hh, r⟩
end Go.Proofs.Ytollijngiioonaa

/- Contracts of the laws' helpers on lists of numbers: whether two are alike, marks, and whether the marks are there. Conditions: at most 1048577 numbers. -/
namespace Go.Proofs.Ytollijngiioonaa
set_option maxRecDepth 100000
open Go.RowKit

theorem grown_trans {a w w' : World} {row : Option Nat} (h : a.grownBy w row) (k : w.grownBy w' row) : a.grownBy w' row :=
  ⟨k.os.trans h.os, k.tape.trans h.tape, k.output.trans h.output, Nat.le_trans h.size k.size, fun i hi hr => (k.block i (Nat.lt_of_lt_of_le hi h.size) hr).trans (h.block i hi hr)⟩

end Go.Proofs.Ytollijngiioonaa

/- All terms within a term, in the order in which the program goes over them, and its stack of lists. Conditions: none. -/
namespace Go.Proofs.Ytollijngiioonaa
set_option maxRecDepth 100000
open Go.RowKit

mutual
/-- A term and all terms within it, a term ahead of its Kids. -/
def preT : TermD → List TermD
  | .mk f v ks => .mk f v ks :: preL ks
def preL : List TermD → List TermD
  | [] => []
  | t :: ts => preT t ++ preL ts
end
theorem preT_eq (t : TermD) : preT t = t :: preL t.kids := by cases t; rw [preT]; rfl
mutual
theorem preT_len : ∀ t : TermD, (preT t).length = partsT t
  | .mk f v ks => by have := preL_len ks; rw [preT, partsT, List.length_cons, this]
theorem preL_len : ∀ ts : List TermD, (preL ts).length = partsL ts
  | [] => by simp [preL, partsL]
  | t :: ts => by have h1 := preT_len t; have h2 := preL_len ts; rw [preL, partsL, List.length_append, h1, h2]
end
/-- How often variable v stands among terms. -/
def cntP (v : Int) (l : List TermD) : Nat := (l.filter fun x => x.f == -1 && x.v == v).length
theorem cntP_append (v : Int) (a b : List TermD) : cntP v (a ++ b) = cntP v a + cntP v b := by simp [cntP]
mutual
theorem cntP_pre (v : Int) : ∀ t : TermD, cntP v (preT t) = cntT v t
  | .mk f u ks => by
    have := cntP_preL v ks
    rw [preT, cntT, ← this, show TermD.mk f u ks :: preL ks = [TermD.mk f u ks] ++ preL ks from rfl, cntP_append]
    congr 1
    by_cases h1 : f = -1 <;> by_cases h2 : u = v <;> simp [cntP, TermD.f, TermD.v, h1, h2]
theorem cntP_preL (v : Int) : ∀ ts : List TermD, cntP v (preL ts) = cntL v ts
  | [] => by simp [preL, cntL, cntP]
  | t :: ts => by have h1 := cntP_pre v t; have h2 := cntP_preL v ts; rw [preL, cntL, cntP_append, h1, h2]
end

/-- What comes to the loop: a term, and where its Kids lie. -/
structure El where
  t : TermD
  a : Option Addr
  c : Nat
/-- As it comes. -/
def El.enc (x : El) : Array Value := #[.agg #[.int .i64 x.t.f, .int .i64 x.t.v, .slice x.a x.t.kids.length x.c]]

/-- One list on the stack. -/
structure LE where
  a : Option Addr
  c : Nat
  ts : List TermD
def cellsL : List LE → List Value
  | [] => []
  | e :: E => cellsL E ++ [.slice e.a e.ts.length e.c]
theorem cellsL_len (E : List LE) : (cellsL E).length = E.length * 1 := by
  induction E with
  | nil => rfl
  | cons e E ih => simp only [cellsL, List.length_append, ih, List.length_cons, List.length_nil]; omega
/-- All that is still to come. -/
def preS : List LE → List TermD
  | [] => []
  | e :: E => preL e.ts ++ preS E
def sizeL : List LE → Nat
  | [] => 0
  | e :: E => 2 * partsL e.ts + 1 + sizeL E
theorem sizeL_len (E : List LE) : E.length ≤ sizeL E := by
  induction E with
  | nil => simp
  | cons e E ih => simp only [sizeL, List.length_cons]; omega

theorem cellsL_top {w : World} {B T g c : Nat} {e : LE} {E : List LE} (h : w.ownsRow B T 1 (.slice (some ⟨g, 0, none⟩) (E.length + 1) c) (E.length + 1) (cellsL (e :: E))) :
    w.cell? ⟨g, E.length, none⟩ = some (.slice e.a e.ts.length e.c) := by
  have hl := cellsL_len E
  refine (h.cellAt _ (by omega)).trans ?_
  rw [cellsL, List.getElem?_append_right (by omega)]; simp [hl]
theorem cellsL_set {w : World} {B T g c : Nat} {e : LE} {E : List LE} (h : w.ownsRow B T 1 (.slice (some ⟨g, 0, none⟩) (E.length + 1) c) (E.length + 1) (cellsL (e :: E))) (d : LE) :
    (w.setCell ⟨g, E.length, none⟩ (.slice d.a d.ts.length d.c)).ownsRow B T 1 (.slice (some ⟨g, 0, none⟩) (E.length + 1) c) (E.length + 1) (cellsL (d :: E)) := by
  have hl := cellsL_len E
  have h1 := (h.stored E.length (.slice d.a d.ts.length d.c)).1
  have e1 : (cellsL (e :: E)).set E.length (.slice d.a d.ts.length d.c) = cellsL (d :: E) := by
    simp only [cellsL]
    rw [List.set_append_right _ _ (by omega)]
    simp [hl]
  rwa [e1] at h1
theorem cellsL_pop {w : World} {B T g c : Nat} {e : LE} {E : List LE} (h : w.ownsRow B T 1 (.slice (some ⟨g, 0, none⟩) (E.length + 1) c) (E.length + 1) (cellsL (e :: E))) :
    w.ownsRow B T 1 (.slice (some ⟨g, 0, none⟩) E.length c) E.length (cellsL E) := ownsRow_pop (cellsL_len E) h

/-- The blocks in which the terms lie. -/
def Rx (n B k : Nat) : Prop := k < n ∨ k = B

/-- The list at 'a' lies in wr, in a block of S; its terms' Kids lie in w0 below n. -/
def RdF (w0 : World) (n : Nat) (wr : World) (S : Nat → Prop) (a : Option Addr) (ts : List TermD) : Prop :=
  ts = [] ∨ ∃ (b off : Nat) (A : Nat → Option Addr) (C : Nat → Nat), a = some ⟨b, off, none⟩ ∧ S b ∧ (∀ i, (h : i < ts.length) → ts[i].kids.length ≤ C i) ∧
    (∀ i, (h : i < ts.length) → wr.cell? ⟨b, off + i * 3, none⟩ = some (.int .i64 ts[i].f) ∧ wr.cell? ⟨b, off + i * 3 + 1, none⟩ = some (.int .i64 ts[i].v) ∧ wr.cell? ⟨b, off + i * 3 + 2, none⟩ = some (.slice (A i) ts[i].kids.length (C i))) ∧
    (∀ i, (h : i < ts.length) → RdK w0 n (A i) ts[i].kids)
theorem RdF.stay {w0 wr wr' : World} {n : Nat} {S : Nat → Prop} {a : Option Addr} {ts : List TermD} (h : RdF w0 n wr S a ts) (hb : Stay S wr wr') : RdF w0 n wr' S a ts := by
  rcases h with h | ⟨b, off, A, C, h1, h2, h3, h4, h5⟩
  · exact .inl h
  · refine .inr ⟨b, off, A, C, h1, h2, h3, fun i hi => ?_, h5⟩
    obtain ⟨q0, q1, q2⟩ := h4 i hi
    exact ⟨hb.cell q0 h2, hb.cell q1 h2, hb.cell q2 h2⟩
theorem RdF.head {w0 wr : World} {n : Nat} {S : Nat → Prop} {a : Option Addr} {t : TermD} {ts : List TermD} (h : RdF w0 n wr S a (t :: ts)) :
    ∃ b off a' c', a = some ⟨b, off, none⟩ ∧ S b ∧ wr.cell? ⟨b, off, none⟩ = some (.int .i64 t.f) ∧ wr.cell? ⟨b, off + 1, none⟩ = some (.int .i64 t.v) ∧ wr.cell? ⟨b, off + 2, none⟩ = some (.slice a' t.kids.length c') ∧ t.kids.length ≤ c' ∧ RdK w0 n a' t.kids := by
  rcases h with h | ⟨b, off, A, C, h1, h2, h3, h4, h5⟩
  · simp at h
  · have q := h4 0 (by simp)
    simp only [Nat.zero_mul, Nat.add_zero, List.getElem_cons_zero] at q
    exact ⟨b, off, A 0, C 0, h1, h2, q.1, q.2.1, q.2.2, h3 0 (by simp), h5 0 (by simp)⟩
theorem RdF.tailA {w0 wr : World} {n : Nat} {S : Nat → Prop} {b off : Nat} {t : TermD} {ts : List TermD} (h : RdF w0 n wr S (some ⟨b, off, none⟩) (t :: ts)) {c : Nat} (hc : ts.length + 1 ≤ c) : RdF w0 n wr S (tailA b off c) ts := by
  rcases h with h | ⟨b', off', A, C, h1, h2, h3, h4, h5⟩
  · simp at h
  · cases h1
    unfold Go.Proofs.Ytollijngiioonaa.tailA
    split
    · exact .inl (List.eq_nil_of_length_eq_zero (by omega))
    · refine .inr ⟨b, off + 3, fun i => A (i + 1), fun i => C (i + 1), rfl, h2, fun i hi => ?_, fun i hi => ?_, fun i hi => ?_⟩
      · have := h3 (i + 1) (by simpa using hi); simpa using this
      · have := h4 (i + 1) (by simpa using hi)
        rw [show off + (i + 1) * 3 = off + 3 + i * 3 by omega] at this
        simpa using this
      · have := h5 (i + 1) (by simpa using hi); simpa using this
theorem RdK.f {w0 wr : World} {n : Nat} {S : Nat → Prop} {a : Option Addr} {ts : List TermD} (h : RdK w0 n a ts) (he : ∀ k, k < n → wr.heap[k]? = w0.heap[k]?) (hs : ∀ k, k < n → S k) : RdF w0 n wr S a ts := by
  cases h with
  | nil a => exact .inl rfl
  | row b off ts A C hlt hl hz hc hk =>
    refine .inr ⟨b, off, A, C, rfl, hs _ hlt, hl.2, fun i hi => ?_, hk⟩
    obtain ⟨q0, q1, q2⟩ := hc i hi
    exact ⟨(World.cell?_of_block (he b hlt)).trans q0, (World.cell?_of_block (he b hlt)).trans q1, (World.cell?_of_block (he b hlt)).trans q2⟩
/-- It read so before what came behind it was laid. -/
theorem RdK.back {w w' : World} {hi : Nat} {a : Option Addr} {ts : List TermD} (h : RdK w' hi a ts) (hb : ∀ k, k < hi → w'.heap[k]? = w.heap[k]?) : RdK w hi a ts := by
  induction h with
  | nil a => exact .nil a
  | row b off ts A C hlt hl hz hc hk ih =>
    refine .row b off ts A C hlt hl hz (fun i h => ?_) ih
    obtain ⟨h0, h1, h2⟩ := hc i h
    exact ⟨(World.cell?_of_block (hb b hlt).symm).trans h0, (World.cell?_of_block (hb b hlt).symm).trans h1, (World.cell?_of_block (hb b hlt).symm).trans h2⟩

/-- The iterator's own memory, apart from the blocks of S. -/
structure WSt (w0 : World) (n B T : Nat) (S : Nat → Prop) (E : List LE) (v : Value) (wr : World) : Prop where
  row : wr.ownsRow n T 1 v E.length (cellsL E)
  own : ∀ g, v.ownBlock = some g → ¬ S g ∧ g ≠ B
  nB : ¬ S B
  lB : B < wr.heap.size
  nle : n ≤ B
  good : ∀ e ∈ E, RdF w0 n wr (Rx n B) e.a e.ts ∧ e.ts.length ≤ e.c
  same : ∀ k, k < n → wr.heap[k]? = w0.heap[k]?

namespace WSt
variable {w0 : World} {n B T : Nat} {S S' : Nat → Prop} {E : List LE} {v : Value} {wr wr' : World}

theorem out (h : WSt w0 n B T S E v wr) : ∀ g, v.ownBlock = some g → ¬ Rx n B g := fun g hg hx => hx.elim (fun h1 => by have := (h.row.lt g hg).1; omega) (h.own g hg).2

/-- New blocks alone. -/
theorem on (h : WSt w0 n B T S E v wr) (hb : Below wr.heap.size wr wr') : WSt w0 n B T S E v wr' :=
  ⟨own_on h.row hb, h.own, h.nB, Nat.lt_of_lt_of_le h.lB hb.size, h.nle, fun e he => ⟨(h.good e he).1.stay (.of_below hb (fun _ hk _ => hk)), (h.good e he).2⟩, fun k hk => (hb.block k (by have := h.lB; have := h.nle; omega)).trans (h.same k hk)⟩

/-- Over a round: the body turns nothing below n, nor outside S. -/
theorem round (h : WSt w0 n B T S E v wr) (hs : Stay (fun k => k < n ∨ ¬ S k) wr wr') (hS : ∀ k, S' k → S k ∨ wr.heap.size ≤ k) : WSt w0 n B T S' E v wr' := by
  have hl := h.row.lt
  refine ⟨own_stay h.row hs (fun g hg => .inr (h.own g hg).1), fun g hg => ⟨fun hg' => ?_, (h.own g hg).2⟩, fun hB => ?_, Nat.lt_of_lt_of_le h.lB hs.size, h.nle, fun e he => ⟨(h.good e he).1.stay (hs.weak (fun _ _ hk => hk.elim .inl (fun e => .inr (e ▸ h.nB)))), (h.good e he).2⟩, fun k hk => (hs.block k (by have := h.lB; have := h.nle; omega) (.inl hk)).trans (h.same k hk)⟩
  · rcases hS g hg' with h1 | h1
    · exact (h.own g hg).1 h1
    · have := (hl g hg).2; omega
  · rcases hS B hB with h1 | h1
    · exact h.nB h1
    · have := h.lB; omega

theorem pop {g c : Nat} {e : LE} (h : WSt w0 n B T S (e :: E) (.slice (some ⟨g, 0, none⟩) (E.length + 1) c) wr) : WSt w0 n B T S E (.slice (some ⟨g, 0, none⟩) E.length c) wr :=
  ⟨cellsL_pop h.row, fun g' hg => h.own g' hg, h.nB, h.lB, h.nle, fun e he => h.good e (by simp [he]), h.same⟩

theorem set {g c : Nat} {e d : LE} (h : WSt w0 n B T S (e :: E) (.slice (some ⟨g, 0, none⟩) (E.length + 1) c) wr) (hd : RdF w0 n wr (Rx n B) d.a d.ts ∧ d.ts.length ≤ d.c) :
    WSt w0 n B T S (d :: E) (.slice (some ⟨g, 0, none⟩) (E.length + 1) c) (wr.setCell ⟨g, E.length, none⟩ (.slice d.a d.ts.length d.c)) := by
  have hs : Stay (Rx n B) wr (wr.setCell ⟨g, E.length, none⟩ (.slice d.a d.ts.length d.c)) := Stay.setCell _ _ (h.out g rfl)
  refine ⟨cellsL_set h.row d, h.own, h.nB, Nat.lt_of_lt_of_le h.lB hs.size, h.nle, fun f hf => ?_, fun k hk => (hs.block k (by have := h.lB; have := h.nle; omega) (.inl hk)).trans (h.same k hk)⟩
  rcases List.mem_cons.1 hf with rfl | hf
  · exact ⟨hd.1.stay hs, hd.2⟩
  · exact ⟨(h.good f (by simp [hf])).1.stay hs, (h.good f (by simp [hf])).2⟩

theorem push {v' : Value} {d : LE} (h : WSt w0 n B T S E v wr) (hS : ∀ k, S k → k < wr.heap.size) (hrow : wr'.ownsRow n T 1 v' (E.length + 1) (cellsL E ++ [.slice d.a d.ts.length d.c])) (hg : wr.grownBy wr' v.ownBlock) (hv : v'.ownBlock = v.ownBlock ∨ v'.ownBlock = some wr.heap.size) (hd : RdF w0 n wr (Rx n B) d.a d.ts ∧ d.ts.length ≤ d.c) :
    WSt w0 n B T S (d :: E) v' wr' := by
  have hs : Stay (Rx n B) wr wr' := .grown hg (fun k hk => h.out k hk)
  refine ⟨hrow, fun g hg' => ?_, h.nB, Nat.lt_of_lt_of_le h.lB hs.size, h.nle, fun f hf => ?_, fun k hk => (hs.block k (by have := h.lB; have := h.nle; omega) (.inl hk)).trans (h.same k hk)⟩
  · rcases hv with e | e
    · exact h.own g (e ▸ hg')
    · rw [hg'] at e
      cases e
      exact ⟨fun h1 => by have := hS _ h1; omega, fun e => by have := h.lB; omega⟩
  · rcases List.mem_cons.1 hf with rfl | hf
    · exact ⟨hd.1.stay hs, hd.2⟩
    · exact ⟨(h.good f hf).1.stay hs, (h.good f hf).2⟩
end WSt

theorem one_slice (x : Option Addr) (l c : Nat) : ∀ u ∈ [Value.slice x l c], u.oneCell' = true := by
  intro u hu; simp at hu; subst hu; rfl
theorem one_new1 (w : World) (u : Value) (t : TypeId) (n : Nat) (hn : n = w.heap.size) : ∀ j v, [u][j]? = some v → (w.alloc (.cells #[u] t)).cell? ((⟨n, 0, none⟩ : Addr).add j) = some v := by
  subst hn
  intro j v hj
  match j, hj with
  | 0, hj => simp at hj; subst hj; simp [Addr.add]
  | j + 1, hj => simp at hj
end Go.Proofs.Ytollijngiioonaa

/- The program's iterator over all terms within a term: its contract. Conditions: terms of at most 549755813888 parts. -/
namespace Go.Proofs.Ytollijngiioonaa
set_option maxRecDepth 100000
open Go.RowKit Go.Shelf
attribute [local go_sem] Oper.semAt_some

theorem info24 : (Try.prog.info? 25).map (fun i => (i.zero, i.size, i.bytes)) = some (some (.slice none 0 0), 1, 24) := by kernel_rfl

/-- What comes next: a term within t, all ahead of it having come; its Kids read. -/
def InT (w : World) (n₀ : Nat) (t : TermD) (pre : List El) (x : El) : Prop := (∃ r, pre.map El.t ++ x.t :: r = preT t) ∧ RdK w n₀ x.a x.t.kids ∧ x.t.kids.length ≤ x.c

/-- What holds between two rounds. -/
structure WRel (w0 : World) (n B M : Nat) (t : TermD) (J : List El → (Nat → Prop) → World → Prop) (pre : List El) (S : Nat → Prop) (E : List LE) (v : Value) (wr : World) : Prop where
  st : WSt w0 n B 25 S E v wr
  j : J pre S wr
  got : pre.map El.t ++ preS E = preT t
  size : sizeL E ≤ M

theorem with_start {t : TermD} {a : Option Addr} {c hi n : Nat} {w W : World} {S : Nat → Prop} (hc : t.kids.length ≤ c) (hr : RdK w hi a t.kids) (hhi : hi ≤ n) (hn : n ≤ w.heap.size) (hbW : Below w.heap.size w W) (hS : ∀ k, S k → k < W.heap.size) :
    WSt w n W.heap.size 25 S [⟨some ⟨W.heap.size, 0, none⟩, 1, [t]⟩] (.slice (some ⟨W.heap.size + 1, 0, none⟩) 1 1) ((W.alloc (.cells #[.int .i64 t.f, .int .i64 t.v, .slice a t.kids.length c] 27)).alloc (.cells #[.slice (some ⟨W.heap.size, 0, none⟩) 1 1] 25)) := by
  have hrow := World.ownsRow_lit (base := n) (size := 1) (e := 25) (W.alloc (.cells #[.int .i64 t.f, .int .i64 t.v, .slice a t.kids.length c] 27)) #[.slice (some ⟨W.heap.size, 0, none⟩) 1 1] 1 (by simp; have := hbW.size; omega) (by unfold maxLen; omega) rfl
  rw [World.size_alloc] at hrow
  have hb : Below W.heap.size W ((W.alloc (.cells #[.int .i64 t.f, .int .i64 t.v, .slice a t.kids.length c] 27)).alloc (.cells #[.slice (some ⟨W.heap.size, 0, none⟩) 1 1] 25)) := ((Below.refl _ _).alloc (Nat.le_refl _) _).alloc (by simp) _
  refine ⟨hrow, fun g hg => ?_, fun h => by have := hS _ h; omega, by simp; omega, Nat.le_trans hn hbW.size, fun e he => ?_, fun k hk => (hb.block k (by have := hbW.size; omega)).trans (hbW.block k (by omega))⟩
  · have e : W.heap.size + 1 = g := by simpa [Value.ownBlock] using hg
    subst e
    exact ⟨fun h => by have := hS _ h; omega, by omega⟩
  · simp only [List.mem_singleton] at he
    subst he
    refine ⟨.inr ⟨W.heap.size, 0, fun _ => a, fun _ => c, rfl, .inr rfl, fun i hi => ?_, fun i hi => ?_, fun i hi => ?_⟩, Nat.le_refl _⟩
    all_goals
      have e : i = 0 := by simp at hi; omega
      subst e
      simp only [List.getElem_cons_zero]
    · exact hc
    · simp [go_sem]
    · exact hr.mono hhi

set_option maxHeartbeats 3200000 in
set_option maxRecDepth 100000 in
theorem within_seq (F : Fence) (n : Nat) (h64 : F.fn 94) (hro : F.round = none) (hn : 1 ≤ n) (w : World) (t : TermD) (a : Option Addr) (c hi n₀ Bt : Nat) (hp : partsT t ≤ 549755813888) (hc : t.kids.length ≤ c) (hr : RdK w hi a t.kids) (hhi : hi ≤ n₀) (hn₀ : n₀ ≤ w.heap.size)
    (b0 : w.cell? ⟨Bt, 0, none⟩ = some (.int .i64 t.f)) (b1 : w.cell? ⟨Bt, 1, none⟩ = some (.int .i64 t.v)) (b2 : w.cell? ⟨Bt, 2, none⟩ = some (.slice a t.kids.length c)) :
    SeqPriv F n Try.prog 94 #[.pointer (some ⟨Bt, 0, none⟩)] El.enc n₀ (fun xs => xs.map El.t = preT t) (fun pre => ∃ r, pre.map El.t ++ r = preT t) (InT w n₀ t) (partsT t) w := by
  intro l J Jx S₀ W hbW hJ hJx hJb hY h0
  obtain ⟨i0, hi0, hz0, hz1, hz2⟩ := info_parts info24
  have c0 := keepC hbW b0
  have c1 := keepC hbW b1
  have c2 := keepC hbW b2
  refine callsIn_of_wp Try.func94 rfl h64 ?_ hro
  simp only [Try.ntmps94, List.size_toArray, List.length_cons, List.length_nil, Nat.reduceAdd, Nat.reduceSub, Array.replicate_succ, Array.replicate_zero, List.push_toArray, List.append_toArray, List.nil_append, List.cons_append]
  have st0 := with_start (S := S₀) hc hr hhi hn₀ hbW (hJb _ _ _ h0)
  have R0 : WRel w n₀ W.heap.size (2 * partsT t + 1) t J [] S₀ [⟨some ⟨W.heap.size, 0, none⟩, 1, [t]⟩] (.slice (some ⟨W.heap.size + 1, 0, none⟩) 1 1) ((W.alloc (.cells #[.int .i64 t.f, .int .i64 t.v, .slice a t.kids.length c] 27)).alloc (.cells #[.slice (some ⟨W.heap.size, 0, none⟩) 1 1] 25)) :=
    ⟨st0, hJ _ _ _ _ (hJ _ _ _ _ h0 (.alloc _ _ _)) (.alloc _ _ _), by simp [preS, preL], by simp [sizeL, partsL]⟩
  have HM : Hid (2 * partsT t + 1 ≤ 1099511627777) := (by omega : 2 * partsT t + 1 ≤ 1099511627777)
  have HJ : Hid (∀ pre S A B, J pre S A → Stay S A B → J pre S B) := hJ
  have HJB : Hid (∀ pre S A, J pre S A → ∀ k, S k → k < A.heap.size) := hJb
  have HY : Hid (∀ pre x S A, J pre S A → pre.length < partsT t → InT w n₀ t pre x → YieldAt F (n - 1) Try.prog l (El.enc x) A fun e B =>
      (e = .returned (.bool true) ∧ ∃ S', J (pre ++ [x]) S' B ∧ (∀ k, S' k → S k ∨ A.heap.size ≤ k) ∧ Stay (fun k => k < n₀ ∨ ¬ S k) A B) ∨
      (e = .returned (.bool false) ∧ ∃ S', Jx (pre ++ [x]) S' B)) := hY
  clear hJ hJx hJb hY h0 st0 b0 b1 b2 hr hp hc hhi
  have HPT : Hid ((preT t).length = partsT t) := preT_len t
  generalize 2 * partsT t + 1 = M at *
  gi_wp2
  clear c0 c1 c2
  generalize W.heap.size = B at *
  gi_loopw [3] (fun v wr => ∃ pre S E, WRel w n₀ B M t J pre S E v wr) (fun v wr => leastN (fun m => ∃ pre S E, WRel w n₀ B M t J pre S E v wr ∧ sizeL E = m))
  case atStart => exact ⟨_, _, _, R0⟩
  case round =>
    obtain ⟨pre1, S1, E1, R1⟩ := hrel
    obtain ⟨m0, ⟨pre, S, E, R, hm0⟩, hmin⟩ := leastN_spec (p := fun m => ∃ pre S E, WRel w n₀ B M t J pre S E u3 wr ∧ sizeL E = m) ⟨_, pre1, S1, E1, R1, rfl⟩
    clear R1 R0
    obtain ⟨st, hj, hgot, hsz⟩ := R
    cases E with
    | nil =>
      obtain ⟨a5, c5, rfl, _⟩ := own_form st.row
      have HG : Hid (pre.map El.t = preT t) := by show _ = _; simpa [preS] using hgot
      clear st hmin hm0 hgot
      gi_wp2
      go_end0
      exact ⟨⟨_, rfl⟩, .inl ⟨pre, S, HG.out, hj⟩⟩
    | cons e E =>
      obtain ⟨g, cap, rfl, hcap, hg0, hgl⟩ := own_slot st.row
      have q0 := cellsL_top st.row
      obtain ⟨hrd, hlec⟩ := st.good e (by simp)
      have hlen := sizeL_len (e :: E)
      have HM' := HM.out
      have hEl : E.length ≤ 1099511627776 := by simp only [List.length_cons] at hlen; omega
      have hEi : (E.length : Int) ≤ cap := by omega
      clear hlen HM'
      obtain ⟨ea, ec, ets⟩ := e
      cases ets with
      | nil =>
        have R' : WRel w n₀ B M t J pre S E (.slice (some ⟨g, 0, none⟩) E.length cap) wr := ⟨st.pop, hj, by simpa [preS, preL] using hgot, by simp only [sizeL] at hsz; omega⟩
        have Q0 : Hid (sizeL E < m0) := by show _ < _; rw [← hm0]; simp only [sizeL]; omega
        simp only [List.length_nil] at q0
        clear st hgot hj hsz hm0 hrd hlec
        gi_wp2
        go_roundw
        case rel => exact ⟨_, _, _, R'⟩
        case measure => exact Nat.lt_of_le_of_lt (leastN_le ⟨_, _, _, R', rfl⟩) (by rw [hmin]; exact Q0.out)
      | cons x xs =>
        obtain ⟨b, off, xa, xc, hb, hSb, x0, x1, x2, hxc, hxr⟩ := hrd.head
        simp only at hb
        subst hb
        simp only [List.length_cons] at q0 hlec
        have hgg := st.out g rfl
        have hSg := (st.own g rfl).1
        have hbg : b ≠ g := fun e => hgg (e ▸ hSb)
        have hbl : b < wr.heap.size := World.block_lt_of_cell? _ _ x0
        have hbk : (0 : Int) ≤ E.length := by omega
        have hs1 := slice_tail b off xs.length ec
        have hs3 := sliceAt_tail b off xs.length ec
        have fz : ∀ j, wr.frozen? ⟨g, j, none⟩ = false := fun j => st.row.frozenAt j
        obtain ⟨W2, hW2⟩ : ∃ W2, W2 = wr.setCell ⟨g, E.length, none⟩ (.slice (tailA b off ec) xs.length (ec - 1)) := ⟨_, rfl⟩
        have hz2' : W2.heap.size = wr.heap.size := by rw [hW2]; simp
        have st2 : WSt w n₀ B 25 S (⟨tailA b off ec, ec - 1, xs⟩ :: E) (.slice (some ⟨g, 0, none⟩) (E.length + 1) cap) W2 := by
          rw [hW2]; exact st.set (d := ⟨tailA b off ec, ec - 1, xs⟩) ⟨hrd.tailA hlec, by simp only; omega⟩
        obtain ⟨W3, hW3⟩ : ∃ W3, W3 = W2.alloc (.cells #[.int .i64 x.f, .int .i64 x.v, .slice xa x.kids.length xc] 27) := ⟨_, rfl⟩
        have hb3 : Below W2.heap.size W2 W3 := by rw [hW3]; exact (Below.refl _ _).alloc (Nat.le_refl _) _
        have hz3 : W3.heap.size = wr.heap.size + 1 := by rw [hW3, ← hz2']; simp
        have st3 := st2.on hb3
        have hj3 : J pre S W3 := by
          rw [hW3, hW2]; exact HJ.out _ _ _ _ (HJ.out _ _ _ _ hj (.setCell _ _ hSg)) (.alloc _ _ _)
        have hSk := HJB.out _ _ _ hj
        have nbn : ¬ S wr.heap.size := fun h => by have := hSk _ h; omega
        have X0 : W3.cell? ⟨wr.heap.size, 0, none⟩ = some (.int .i64 x.f) ∧ W3.cell? ⟨wr.heap.size, 1, none⟩ = some (.int .i64 x.v) ∧ W3.cell? ⟨wr.heap.size, 2, none⟩ = some (.slice xa x.kids.length xc) := by
          rw [hW3, ← hz2']; simp [go_sem]
        have hxr3 : Hid (RdK w n₀ xa x.kids) := hxr
        have hin : InT w n₀ t pre ⟨x, xa, xc⟩ := ⟨⟨preL x.kids ++ (preL xs ++ preS E), by rw [← hgot]; simp [preS, preL, preT_eq]⟩, hxr, hxc⟩
        have HG : Hid ((pre ++ [(⟨x, xa, xc⟩ : El)]).map El.t ++ (preL x.kids ++ (preL xs ++ preS E)) = preT t) := by
          show _ = _
          rw [← hgot]; simp [preS, preL, preT_eq]
        have HS : Hid (sizeL (⟨xa, xc, x.kids⟩ :: ⟨tailA b off ec, ec - 1, xs⟩ :: E) < m0) := by show _ < _; rw [← hm0]; simp only [sizeL, partsL, partsT_eq]; omega
        have HS2 : Hid (m0 ≤ M) := by show _ ≤ _; rw [← hm0]; exact hsz
        have hpl : pre.length < partsT t := by rw [← HPT.out, ← hgot]; simp [preS, preL, preT_eq]
        obtain ⟨fn, tmps, assign, body, hy, hR⟩ := HY.out pre ⟨x, xa, xc⟩ S W3 hj3 hpl hin
        clear hin
        dsimp only [El.enc] at hy
        rw [hW2] at hW3
        rw [hW3] at hy
        clear st hj hgot hsz hm0 hrd st2 hxr hj3 hSk hb3 hz2' hW2
        gi_wp2
        rw [← hW3]
        refine hR.mono ?_
        rintro e W4 (⟨rfl, S', hj4, hsub, hst4⟩ | ⟨rfl, S', hjx⟩)
        · have st4 := st3.round hst4 hsub
          have X0 := hst4.cell X0.2.2 (.inr nbn)
          have HSk : Hid (∀ k, S' k → k < W4.heap.size) := HJB.out _ _ _ hj4
          have hE2 : E.length + 1 + 1 ≤ 1099511627778 := by omega
          have hn4 : n₀ ≤ W4.heap.size := Nat.le_trans st4.nle (Nat.le_of_lt st4.lB)
          clear hy hR hW3 hsub hst4 st3 q0 hs1 hs3 fz hz3
          gi_wp2_with (gi_at_builtin; refine wpListIn_append_own_at _ rfl (.tmp 42) (.tmp 45) 138 rfl n₀ 25 i0 _ 1 24 Try.underlying138 hi0 hz0 hz1 hz2 rfl (by decide) _ _ _ rfl (st4.row.alloc _) ⟨W4.heap.size, 0, none⟩ 1 1 _ rfl rfl (one_new1 _ _ _ _ rfl) (one_slice _ _ _) (by unfold maxLen; simp only [List.length_cons]; omega) (by simp only [List.length_cons]; omega) (by simp; omega) ?_; intro v6 w6 hown6 hgrow6 hnil6 hat6; clear hnil6)
          have st6 := (st4.on ((Below.refl _ _).alloc (Nat.le_refl _) _)).push (d := ⟨xa, xc, x.kids⟩) (fun k h => by have := HSk.out k h; simp; omega) hown6 hgrow6 hat6 ⟨hxr3.out.f (st4.on ((Below.refl _ _).alloc (Nat.le_refl _) _)).same (fun k hk => .inl hk), hxc⟩
          have hj6 := HJ.out _ _ _ _ (HJ.out _ _ _ _ hj4 (.alloc _ _ _)) (.grown hgrow6 (fun k hk => (st4.own k hk).1))
          have R6 : WRel w n₀ B M t J _ S' _ v6 w6 := ⟨st6, hj6, HG.out, by have h1 := HS.out; have h2 := HS2.out; exact Nat.le_of_lt (Nat.lt_of_lt_of_le h1 h2)⟩
          clear st4 st6 hj6 hown6 hgrow6 hat6 hxr3
          go_roundw
          case rel => exact ⟨_, _, _, R6⟩
          case measure => exact Nat.lt_of_le_of_lt (leastN_le ⟨_, _, _, R6, rfl⟩) (by rw [hmin]; exact HS.out)
        · clear hy hR hW3 st3 hxr3 q0 hs1 hs3 fz hz3
          gi_wp2
          refine bodyPost_ret (results_none rfl _ _ _) rfl ?_
          exact ⟨⟨_, rfl⟩, .inr ⟨_, S', ⟨_, HG.out⟩, hjx⟩⟩
end Go.Proofs.Ytollijngiioonaa

/- Whether a term is a variable, and which, as the program tells it by a type switch. Conditions: none. -/
namespace Go.Proofs.Ytollijngiioonaa
set_option maxRecDepth 100000
open Go.RowKit

theorem pieceOf_var (t : TermD) (a : Option Addr) (n c : Nat) (w : World) (h : t.f = -1) :
    Calls Try.prog 119 #[.agg #[.int .i64 t.f, .int .i64 t.v, .slice a n c]] w fun e w' => e = .returned (.iface 161 (.agg #[.int .i64 t.v])) ∧ Below w.heap.size w w' := by
  go_enter Try.func119, Try.ntmps119
  go_wp2
  go_ret
  exact ⟨rfl, (Below.refl _ _).alloc (Nat.le_refl _) _⟩

theorem pieceOf_fun (t : TermD) (a : Option Addr) (n c : Nat) (w : World) (h : (t.f == -1) = false) :
    Calls Try.prog 119 #[.agg #[.int .i64 t.f, .int .i64 t.v, .slice a n c]] w fun e w' => e = .returned (.iface 170 (.agg #[.int .i64 t.f, .slice a n c])) ∧ Below w.heap.size w w' := by
  go_enter Try.func119, Try.ntmps119
  go_wp2
  go_ret
  exact ⟨rfl, (Below.refl _ _).alloc (Nat.le_refl _) _⟩

theorem ta_hit (v : Value) (w : World) : (Instr.typeAssert (.iface 161 v) 158 161 true).run Try.prog w = .ok (.tuple #[v, .bool true]) w := by
  simp [Instr.typeAssert, run_underlying Try.underlying161, go_sem]
theorem ta_miss (v : Value) (w : World) : (Instr.typeAssert (.iface 170 v) 158 161 true).run Try.prog w = .ok (.tuple #[.agg #[.int .i64 0], .bool false]) w := by
  have hz : (zeroValue 161).run Try.prog w = .ok (.agg #[.int .i64 0]) w := by simp [go_sem]
  simp [Instr.typeAssert, run_underlying Try.underlying161, go_sem, hz]

/-- What is told of a term: its number where it is a variable. -/
def vofI (t : TermD) : Int := if t.f = -1 then t.v else 0
def vofB (t : TermD) : Bool := t.f == -1
theorem rtT {a b : Int} {p q : Bool} (h : a = b) (h' : p = q) : Ending.returned (.tuple #[.int .i64 a, .bool p]) = .returned (.tuple #[.int .i64 b, .bool q]) := by rw [h, h']

set_option maxHeartbeats 1600000 in
set_option maxRecDepth 100000 in
theorem variableOf_any (t : TermD) (a : Option Addr) (n c : Nat) (w : World) :
    Calls Try.prog 95 #[.agg #[.int .i64 t.f, .int .i64 t.v, .slice a n c]] w fun e w' => e = .returned (.tuple #[.int .i64 (vofI t), .bool (vofB t)]) ∧ Below w.heap.size w w' := by
  by_cases h : t.f = -1
  · have HI : Hid (vofI t = t.v) := by show _ = _; simp [vofI, h]
    have HB : Hid (vofB t = true) := by show _ = _; simp [vofB, h]
    have C := fun w => pieceOf_var t a n c w h
    clear h
    have hA := ta_hit
    go_enter Try.func95, Try.ntmps95
    go_wp2_with (go_at_call 119; refine (C _).mono ?_; rintro e w1 ⟨rfl, hb1⟩; clear C)
    go_ret2
    have h0 : Below w.heap.size w w1 := ((Below.refl _ _).alloc (Nat.le_refl _) _).trans (hb1.mono (by simp))
    exact ⟨rtT HI.out.symm HB.out.symm, h0.alloc h0.size _⟩
  · have h' : (t.f == -1) = false := by simp [h]
    have HI : Hid (vofI t = 0) := by show _ = _; simp [vofI, h]
    have HB : Hid (vofB t = false) := by show _ = _; simp [vofB, h]
    have C := fun w => pieceOf_fun t a n c w h'
    clear h h'
    have hA := ta_miss
    go_enter Try.func95, Try.ntmps95
    go_wp2_with (go_at_call 119; refine (C _).mono ?_; rintro e w1 ⟨rfl, hb1⟩; clear C)
    go_ret2
    exact ⟨rtT HI.out.symm HB.out.symm, ((Below.refl _ _).alloc (Nat.le_refl _) _).trans (hb1.mono (by simp))⟩
end Go.Proofs.Ytollijngiioonaa

/- The program makes an iterator over a term. Conditions: none. -/
namespace Go.Proofs.Ytollijngiioonaa
set_option maxRecDepth 100000
open Go.RowKit Go.Shelf
attribute [local go_sem] Oper.semAt_some

theorem within_any (t : TermD) (a : Option Addr) (c : Nat) (w : World) :
    Calls Try.prog 79 #[.agg #[.int .i64 t.f, .int .i64 t.v, .slice a t.kids.length c]] w fun e w' => e = .returned (.func (.func 94) #[] #[.pointer (some ⟨w.heap.size, 0, none⟩)]) ∧ w' = w.alloc (.cells #[.int .i64 t.f, .int .i64 t.v, .slice a t.kids.length c] 27) := by
  generalize t.kids.length = n at *
  go_enter Try.func79, Try.ntmps79
  go_wp2
  go_ret
  exact ⟨rfl, rfl⟩

end Go.Proofs.Ytollijngiioonaa

/- How many terms are within a term, and how often a variable, as the program tells it: it ranges over its iterator. Conditions: terms of at most 549755813888 parts. -/
namespace Go.Proofs.Ytollijngiioonaa
set_option maxRecDepth 100000
open Go.RowKit Go.Shelf
attribute [local go_sem] Oper.semAt_some

end Go.Proofs.Ytollijngiioonaa

/- A round's own variable. Conditions: none. -/
namespace Go.Proofs.Ytollijngiioonaa
set_option maxRecDepth 100000
open Go.RowKit
/-- The round's own variable lies in a block of its own. -/
structure BoxEl (x : El) (Bx : Nat) (S : Nat → Prop) (W : World) : Prop where
  s : S Bx
  c0 : W.cell? ⟨Bx, 0, none⟩ = some (.int .i64 x.t.f)
  c1 : W.cell? ⟨Bx, 1, none⟩ = some (.int .i64 x.t.v)
  c2 : W.cell? ⟨Bx, 2, none⟩ = some (.slice x.a x.t.kids.length x.c)
theorem BoxEl.stay {x : El} {Bx : Nat} {S : Nat → Prop} {A B : World} (h : BoxEl x Bx S A) (hs : Stay S A B) : BoxEl x Bx S B := ⟨h.s, hs.cell h.c0 h.s, hs.cell h.c1 h.s, hs.cell h.c2 h.s⟩
end Go.Proofs.Ytollijngiioonaa

/- How often a variable stands in a term, as the program tells it: it ranges over its iterator. Conditions: terms of at most 549755813888 parts. -/
namespace Go.Proofs.Ytollijngiioonaa
set_option maxRecDepth 100000
open Go.RowKit Go.Shelf
attribute [local go_sem] Oper.semAt_some

theorem cntP_snoc (v : Int) (l : List El) (x : El) : cntP v ((l ++ [x]).map El.t) = cntP v (l.map El.t) + if vofB x.t = true ∧ vofI x.t = v then 1 else 0 := by
  rw [List.map_append, cntP_append]
  congr 1
  by_cases h1 : x.t.f = -1 <;> by_cases h2 : x.t.v = v <;> simp [cntP, vofB, vofI, h1, h2]
theorem cntP_le (v : Int) (l : List TermD) : cntP v l ≤ l.length := List.length_filter_le _ _

/-- What the count's loop holds between two rounds. -/
structure CInv (w W0 : World) (vv : Int) (pre : List El) (S : Nat → Prop) (W : World) : Prop where
  lo : ∀ k, k < W0.heap.size → S k
  hi : ∀ k, S k → k < W.heap.size
  v : W.cell? ⟨w.heap.size + 1, 0, none⟩ = some (.int .i64 vv)
  n : W.cell? ⟨w.heap.size + 1 + 1, 0, none⟩ = some (.int .i64 (cntP vv (pre.map El.t)))
  f : W.frozen? ⟨w.heap.size + 1 + 1, 0, none⟩ = false
  b : Below w.heap.size w W
  z : w.heap.size + 1 + 1 < W0.heap.size
theorem CInv.stay {w W0 A B : World} {v : Int} {pre : List El} {S : Nat → Prop} (h : CInv w W0 v pre S A) (hs : Stay S A B) : CInv w W0 v pre S B := by
  have hz := h.z
  exact ⟨h.lo, fun k hk => Nat.lt_of_lt_of_le (h.hi k hk) hs.size, hs.cell h.v (h.lo _ (by simp only; omega)), hs.cell h.n (h.lo _ (by simp only; omega)), (hs.frozen (World.block_lt_of_cell? _ _ h.n) (h.lo _ (by simp only; omega))).trans h.f, h.b.trans (hs.below h.b.size (fun k hk => h.lo k (by omega))), hz⟩
theorem CInv.alloc {w W0 A : World} {v : Int} {pre : List El} {S : Nat → Prop} (h : CInv w W0 v pre S A) (o : Obj) : CInv w W0 v pre (fun k => S k ∨ k = A.heap.size) (A.alloc o) := by
  have h' := h.stay (.alloc S A o)
  exact ⟨fun k hk => .inl (h'.lo k hk), fun k hk => hk.elim (h'.hi k) (fun e => by simp; omega), h'.v, h'.n, h'.f, h'.b, h'.z⟩
end Go.Proofs.Ytollijngiioonaa

/- Contracts of the specification's NumIn and NumAdd, and of the program's NumAdd: a number in a list, and put into it. Conditions: at most 1048577 numbers. -/
namespace Go.Proofs.Ytollijngiioonaa
set_option maxRecDepth 100000
open Go.RowKit

theorem one_new (w : World) (u : Value) (t : TypeId) : ∀ j v, [u][j]? = some v → (w.alloc (.cells #[u] t)).cell? ((⟨w.heap.size, 0, none⟩ : Addr).add j) = some v := by
  intro j v hj
  match j, hj with
  | 0, hj => simp at hj; subst hj; simp [Addr.add]
  | j + 1, hj => simp at hj
theorem one_cell (n : Int) : ∀ u ∈ [Value.int .i64 n], u.oneCell' = true := by
  intro u hu; simp at hu; subst hu; rfl
theorem own_some {w : World} {base : Nat} {e : TypeId} {size : Nat} {v : Value} {n : Nat} {xs : List Value} {a : Addr} {m c : Nat} {q : Prop} (h : w.ownsRow base e size v n xs) (hv : v = .slice none 0 0 ↔ .slice (some a) m c = Value.slice none 0 0 ∧ q) : ∃ g c, v = .slice (some ⟨g, 0, none⟩) n c := by
  rcases h.2 with ⟨h, _⟩ | ⟨g, cap, _, rfl, _⟩
  · have := (hv.1 h).1; simp at this
  · exact ⟨g, cap, rfl⟩
theorem Try.info3 : (Try.prog.info? 3).map (fun i => (i.zero, i.size, i.bytes)) = some (some (.int .i64 0), 1, 8) := by kernel_rfl

theorem own_one {w : World} {B g c : Nat} {o : List Int} {x : Int} (h : w.ownsRow B 3 1 (.slice (some ⟨g, 0, none⟩) (o.length + 1) c) (o.length + 1) (ints o ++ [.int .i64 x])) :
    w.ownsRow B 3 1 (.slice (some ⟨g, 0, none⟩) (o ++ [x]).length c) (o ++ [x]).length (ints (o ++ [x])) := by
  simpa [ints] using h
theorem own_two {w : World} {B g c : Nat} {o : List Int} {x y : Int} (h : w.ownsRow B 3 1 (.slice (some ⟨g, 0, none⟩) (o.length + 1 + 1) c) (o.length + 1 + 1) (ints o ++ [.int .i64 x] ++ [.int .i64 y])) :
    w.ownsRow B 3 1 (.slice (some ⟨g, 0, none⟩) (o ++ [x] ++ [y]).length c) (o ++ [x] ++ [y]).length (ints (o ++ [x] ++ [y])) := by
  simpa [ints] using h

theorem add_at (b off j : Nat) : (⟨b, off, none⟩ : Addr).add j = ⟨b, off + j, none⟩ := by
  by_cases h : j = 0 <;> simp [Addr.add, h]
theorem news_of {w : World} {b off : Nat} {l : List Int} (hc : ∀ i, i < l.length → w.cell? ⟨b, off + i, none⟩ = some (.int .i64 (l[i]?.getD 0))) : ∀ j u, (ints l)[j]? = some u → w.cell? ((⟨b, off, none⟩ : Addr).add j) = some u := by
  intro j u h
  have hj : j < l.length := by
    have := (List.getElem?_eq_some_iff.1 h).1
    simpa [ints] using this
  rw [add_at, hc j hj, ← h]
  simp [ints, hj]
theorem news_take {w W : World} {b : Nat} {zs : List Int} {k : Nat} (hlt : b < w.heap.size) (hc : ∀ i, i < zs.length → w.cell? ⟨b, 0 + i, none⟩ = some (.int .i64 (zs[i]?.getD 0))) (hb : Below w.heap.size w W) (o : Obj) :
    ∀ j u, (ints (zs.take k))[j]? = some u → (W.alloc o).cell? ((⟨b, 0, none⟩ : Addr).add j) = some u := by
  refine news_of (off := 0) fun i h => ?_
  rw [List.length_take] at h
  rw [(hb.alloc hb.size o).cell (p := ⟨b, 0 + i, none⟩) hlt, hc i (by omega), List.getElem?_take, if_pos (by omega)]
theorem news_drop {w W : World} {b : Nat} {zs : List Int} {k : Nat} (hlt : b < w.heap.size) (hc : ∀ i, i < zs.length → w.cell? ⟨b, 0 + i, none⟩ = some (.int .i64 (zs[i]?.getD 0))) (hb : Below w.heap.size w W) :
    ∀ j u, (ints (zs.drop k))[j]? = some u → W.cell? ((⟨b, k, none⟩ : Addr).add j) = some u := by
  refine news_of (off := k) fun i h => ?_
  rw [List.length_drop] at h
  have := hc (k + i) (by omega)
  rw [show 0 + (k + i) = k + i by omega] at this
  rw [hb.cell (p := ⟨b, k + i, none⟩) hlt, this, List.getElem?_drop]
theorem below_app {w w2 w3 : World} {g n c : Nat} {e : TypeId} {size : Nat} {xs : List Value} {o : Obj} (hb : Below w.heap.size w w2) (hown : w2.ownsRow w.heap.size e size (.slice (some ⟨g, 0, none⟩) n c) n xs) (hg : (w2.alloc o).grownBy w3 (some g)) : Below w.heap.size w w3 :=
  (hb.alloc hb.size o).grown hg (by have := hb.size; simp; omega) (fun k hk => by cases hk; exact (hown.lt g rfl).1)
theorem below_app' {w w2 w3 : World} {g n c : Nat} {e : TypeId} {size : Nat} {xs : List Value} (hb : Below w.heap.size w w2) (hown : w2.ownsRow w.heap.size e size (.slice (some ⟨g, 0, none⟩) n c) n xs) (hg : w2.grownBy w3 (some g)) : Below w.heap.size w w3 :=
  hb.grown hg hb.size (fun k hk => by cases hk; exact (hown.lt g rfl).1)
theorem own_cap {w : World} {base : Nat} {e : TypeId} {size g n c : Nat} {xs : List Value} (h : w.ownsRow base e size (.slice (some ⟨g, 0, none⟩) n c) n xs) : n ≤ c := by
  rcases h.2 with ⟨h, _⟩ | ⟨g', cap, _, h, _, _, hn, _⟩
  · simp at h
  · simp at h; omega
theorem ints_one (l : List Int) : ∀ u ∈ ints l, u.oneCell' = true := by
  intro u hu; simp [ints] at hu; obtain ⟨n, _, rfl⟩ := hu; rfl
end Go.Proofs.Ytollijngiioonaa

