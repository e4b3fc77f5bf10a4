/- What the proof of FnExactLook stands on, part 7 of 9: each piece says what it proves and under which conditions. Conditions: as each piece says. -/
import Derived.Test.YtkjlldbgooogdabPackExactLook6
import Derived.Deep.RegionLaw
import Derived.Sort.Row
import Derived.Deep.LoopGhost
import Derived.Test.YtkjlldbgooogdabProg
import Derived.Maps.AppendAt
import Derived.Deep.Cut
import Derived.Deep.RegionHeld3
/- The program's way to one form: a Kid that is done is put into the home of the innermost term. Conditions: at most 4194304 terms at work, and Kids in a row. -/
namespace Go.Proofs.Ytkjlldbgooogdab
set_option maxRecDepth 100000
open Go.RowKit

/-- The zero element that was appended becomes the term. -/
theorem own_fill {w1 w2 : World} {B g c n : Nat} {row : Option Nat} {xs : List Value} {p q s : Value} (h : w2.ownsRow B 28 3 (.slice (some ⟨g, 0, none⟩) (n + 1) c) (n + 1) (xs ++ [.int .i64 0, .int .i64 0, .slice none 0 0])) (hl : xs.length = n * 3) (hg : w1.grownBy w2 row) (hat : some g = row ∨ w1.heap.size ≤ g) :
    (((w2.setCell ⟨g, n * 3, none⟩ p).setCell ⟨g, n * 3 + 1, none⟩ q).setCell ⟨g, n * 3 + 2, none⟩ s).ownsRow B 28 3 (.slice (some ⟨g, 0, none⟩) (n + 1) c) (n + 1) (xs ++ [p, q, s]) ∧ w1.grownBy (((w2.setCell ⟨g, n * 3, none⟩ p).setCell ⟨g, n * 3 + 1, none⟩ q).setCell ⟨g, n * 3 + 2, none⟩ s) row := by
  have h1 := (((h.stored (n * 3) p).1.stored (n * 3 + 1) q).1.stored (n * 3 + 2) s).1
  have e1 : (((xs ++ [Value.int .i64 0, Value.int .i64 0, Value.slice none 0 0]).set (n * 3) p).set (n * 3 + 1) q).set (n * 3 + 2) s = xs ++ [p, q, s] := by
    rw [List.set_append_right _ _ (by omega), List.set_append_right _ _ (by omega), List.set_append_right _ _ (by omega)]
    simp [hl]
  rw [e1] at h1
  refine ⟨h1, ⟨hg.os, hg.tape, hg.output, by simpa using hg.size, fun k hk hne => ?_⟩⟩
  have hkg : k ≠ g := fun e => hat.elim (fun q => hne (e ▸ q)) (fun q => by omega)
  rw [Below.heap_setCell _ _ _ _ hkg, Below.heap_setCell _ _ _ _ hkg, Below.heap_setCell _ _ _ _ hkg]
  exact hg.block k hk hne

/-- Stores into two blocks may be told in either order. -/
theorem set_comm (w : World) (a b i j : Nat) (u v : Value) (h : a ≠ b) : (w.setCell ⟨a, i, none⟩ u).setCell ⟨b, j, none⟩ v = (w.setCell ⟨b, j, none⟩ v).setCell ⟨a, i, none⟩ u := by
  rw [Sort.setCell_eq, Sort.setCell_eq, Sort.setCell_eq, Sort.setCell_eq]
  unfold Sort.mapBlock
  congr 1
  apply Array.ext
  · simp
  · intro k h1 h2
    simp only [Array.getElem_modify]
    split
    · split
      · omega
      · rfl
    · rfl
/-- What the append leaves: the new row, and the cell that is stored into behind it. -/
theorem put_facts {W X w5 : World} {B n g o : Nat} {row : Option Nat} {u v5 : Value} {xs : List Value} (hl : xs.length = n * 3) (hown : w5.ownsRow B 28 3 v5 (n + 1) (xs ++ [.int .i64 0, .int .i64 0, .slice none 0 0])) (hg : X.grownBy w5 row) (hat : v5.ownBlock = row ∨ v5.ownBlock = some X.heap.size) (hb : Below W.heap.size W X) (hgW : g < W.heap.size) (hc : W.cell? ⟨g, o, none⟩ = some u) (hf : W.frozen? ⟨g, o, none⟩ = false) (hne : row ≠ some g) :
    ∃ g5 c5, v5 = .slice (some ⟨g5, 0, none⟩) (n + 1) c5 ∧ (w5.cell? ⟨g5, n * 3, none⟩ = some (.int .i64 0) ∧ w5.cell? ⟨g5, n * 3 + 1, none⟩ = some (.int .i64 0) ∧ w5.cell? ⟨g5, n * 3 + 2, none⟩ = some (.slice none 0 0)) ∧ (w5.frozen? ⟨g5, n * 3, none⟩ = false ∧ w5.frozen? ⟨g5, n * 3 + 1, none⟩ = false ∧ w5.frozen? ⟨g5, n * 3 + 2, none⟩ = false) ∧ w5.cell? ⟨g, o, none⟩ = some u ∧ w5.frozen? ⟨g, o, none⟩ = false ∧ g5 ≠ g ∧ n + 1 ≤ c5 ∧ (some g5 = row ∨ X.heap.size ≤ g5) := by
  obtain ⟨g5, c5, rfl, hc5, _⟩ := own_slot hown
  have hgX : w5.heap[g]? = W.heap[g]? := (hg.block g (Nat.lt_of_lt_of_le hgW hb.size) (fun e => hne e.symm)).trans (hb.block g hgW)
  have hat' : some g5 = row ∨ X.heap.size ≤ g5 := hat.imp id (fun q => Nat.le_of_eq (by simpa [Value.ownBlock] using q.symm))
  refine ⟨g5, c5, rfl, ⟨(hown.cellAt _ (by omega)).trans ?_, (hown.cellAt _ (by omega)).trans ?_, (hown.cellAt _ (by omega)).trans ?_⟩, ⟨hown.frozenAt _, hown.frozenAt _, hown.frozenAt _⟩, (World.cell?_of_block (a := ⟨g, o, none⟩) hgX).trans hc, (World.frozen?_of_block (a := ⟨g, o, none⟩) hgX).trans hf, fun e => ?_, hc5, hat'⟩
  · rw [List.getElem?_append_right (by omega)]; simp [hl]
  · rw [List.getElem?_append_right (by omega)]; simp [hl]
  · rw [List.getElem?_append_right (by omega)]; simp [hl]
  · rcases hat' with q | q
    · exact hne (e ▸ q.symm)
    · have := hb.size; omega
theorem three_at {X : World} {n : Nat} {x y z : Value} (h0 : X.cell? ⟨n, 0, none⟩ = some x) (h1 : X.cell? ⟨n, 1, none⟩ = some y) (h2 : X.cell? ⟨n, 2, none⟩ = some z) : ∀ j v, [x, y, z][j]? = some v → X.cell? ((⟨n, 0, none⟩ : Addr).add j) = some v := by
  intro j v hj
  match j, hj with
  | 0, hj => simp at hj; subst hj; simpa [Addr.add] using h0
  | 1, hj => simp at hj; subst hj; simpa [Addr.add] using h1
  | 2, hj => simp at hj; subst hj; simpa [Addr.add] using h2
  | j + 3, hj => simp at hj

theorem put_fin {n0 B : Nat} {F : List FM} {g c g5 c5 : Nat} {e : FE} {w X w5 : World} (H : NSt n0 B F (.slice (some ⟨g, 0, none⟩) F.length c) w) (hb : Below w.heap.size w X) (hh : hasHome F) (he : OwnS w e.K e.a e.t.kids ∧ e.t.kids.length ≤ e.c ∧ (isW e.t.f ∧ isW e.t.v) ∧ ∀ k, e.K k → B ≤ k ∧ k < w.heap.size) (hd : ∀ x ∈ F, ∀ k, e.K k → ¬ x.S k) (hdg : ¬ e.K g)
    (hg : X.grownBy w5 (Value.slice (homeFr F).am (homeFr F).L.length (homeFr F).cm).ownBlock) (hown : w5.ownsRow B 28 3 (.slice (some ⟨g5, 0, none⟩) ((homeFr F).L.length + 1) c5) ((homeFr F).L.length + 1) (cs3 ((homeFr F).L.map FE.cells) ++ [.int .i64 0, .int .i64 0, .slice none 0 0])) (hat : some g5 = (Value.slice (homeFr F).am (homeFr F).L.length (homeFr F).cm).ownBlock ∨ X.heap.size ≤ g5) :
    NSt n0 B (putHome e (some ⟨g5, 0, none⟩) c5 F) (.slice (some ⟨g, 0, none⟩) F.length c) ((((w5.setCell ⟨g5, (homeFr F).L.length * 3, none⟩ (.int .i64 e.t.f)).setCell ⟨g5, (homeFr F).L.length * 3 + 1, none⟩ (.int .i64 e.t.v)).setCell ⟨g5, (homeFr F).L.length * 3 + 2, none⟩ (.slice e.a e.t.kids.length e.c)).setCell ⟨g, homeIx F * 6 + 4, none⟩ (.slice (some ⟨g5, 0, none⟩) ((homeFr F).L.length + 1) c5)) ∧
      Stay (fun k => k < B) w ((((w5.setCell ⟨g5, (homeFr F).L.length * 3, none⟩ (.int .i64 e.t.f)).setCell ⟨g5, (homeFr F).L.length * 3 + 1, none⟩ (.int .i64 e.t.v)).setCell ⟨g5, (homeFr F).L.length * 3 + 2, none⟩ (.slice e.a e.t.kids.length e.c)).setCell ⟨g, homeIx F * 6 + 4, none⟩ (.slice (some ⟨g5, 0, none⟩) ((homeFr F).L.length + 1) c5)) := by
  obtain ⟨h1, h2⟩ := own_fill (p := .int .i64 e.t.f) (q := .int .i64 e.t.v) (s := .slice e.a e.t.kids.length e.c) hown (by rw [cs3_len]; simp) hg hat
  have hgl := H.row.lt g rfl
  have HX := H.on hb
  refine ⟨HX.put hh ⟨he.1.frame (fun k hk => hb.block k (he.2.2.2 k hk).2) hb.size, he.2.1, he.2.2.1, fun k hk => ⟨(he.2.2.2 k hk).1, Nat.lt_of_lt_of_le (he.2.2.2 k hk).2 hb.size⟩⟩ hd hdg h2 h1 hat, ?_⟩
  refine ((Stay.of_below (S := fun k => k < B) hb (fun k hk _ => hk)).trans (.grown h2 (fun k q hk => by have := ((HX.fr _ (home_mem hh)).row.lt k q).1; omega))).trans (.setCell _ _ (fun q => by simp only at q; omega))

set_option maxHeartbeats 3200000 in
theorem put_any (n0 B : Nat) (F : List FM) (g c : Nat) (e : FE) (w : World) (H : NSt n0 B F (.slice (some ⟨g, 0, none⟩) F.length c) w) (hh : hasHome F) (hF : F.length ≤ 4194304) (he : OwnS w e.K e.a e.t.kids ∧ e.t.kids.length ≤ e.c ∧ (isW e.t.f ∧ isW e.t.v) ∧ ∀ k, e.K k → B ≤ k ∧ k < w.heap.size) (hd : ∀ x ∈ F, ∀ k, e.K k → ¬ x.S k) (hdg : ¬ e.K g) (hL : (homeFr F).L.length ≤ 4194304) :
    Calls Try.prog 63 #[.slice (some ⟨g, 0, none⟩) F.length c, .agg #[.int .i64 e.t.f, .int .i64 e.t.v, .slice e.a e.t.kids.length e.c]] w fun r w' => ∃ g2 c2, r = .returned (.tuple #[]) ∧ NSt n0 B (putHome e (some ⟨g2, 0, none⟩) c2 F) (.slice (some ⟨g, 0, none⟩) F.length c) w' ∧ Stay (fun k => k < B) w w' := by
  obtain ⟨i0, hi0, hz0, hz1, hz2⟩ := info_parts info29
  obtain ⟨x, r, rfl⟩ : ∃ x r, F = x :: r := by cases F with | nil => exact hh.elim | cons x r => exact ⟨x, r, rfl⟩
  simp only [List.length_cons] at *
  obtain ⟨_, _, _, _, _, q5⟩ := top_cells H
  have hgl := H.row.lt g rfl
  have hix := home_lt hh
  have hq4 : w.cell? ⟨g, homeIx (x :: r) * 6 + 4, none⟩ = some (.slice (homeFr (x :: r)).am (homeFr (x :: r)).L.length (homeFr (x :: r)).cm) := (H.row.cellAt _ (by simp only [List.length_cons] at hix; omega)).trans (home_cell hh)
  have fr4 : w.frozen? ⟨g, homeIx (x :: r) * 6 + 4, none⟩ = false := H.row.frozenAt _
  have hrow := (H.fr _ (home_mem hh)).row
  have hhg : (Value.slice (homeFr (x :: r)).am (homeFr (x :: r)).L.length (homeFr (x :: r)).cm).ownBlock ≠ some g := fun q => H.vb g rfl _ (home_mem hh) (.inl q)
  have HH : Hid _ := H
  clear H
  simp only [List.length_cons] at hix
  obtain ⟨ix, hixe⟩ : ∃ ix, ix = homeIx (x :: r) := ⟨_, rfl⟩
  obtain ⟨hf, hfe⟩ : ∃ hf, hf = homeFr (x :: r) := ⟨_, rfl⟩
  have HIX : Hid (ix = homeIx (x :: r)) := hixe
  have HFE : Hid (hf = homeFr (x :: r)) := hfe
  rw [← hixe] at hq4 fr4 hix q5
  rw [← hfe] at hq4 hL hrow hhg
  clear hixe hfe
  have hixz : (ix : Int) < (r.length : Int) + 1 := by omega
  have hgl2 := hgl.2
  go_enter Try.func63, Try.ntmps63
  obtain ⟨W, hW⟩ : ∃ W, W = w.alloc (.cells #[.int .i64 e.t.f, .int .i64 e.t.v, .slice e.a e.t.kids.length e.c] 28) := ⟨_, rfl⟩
  have hb0 : Below w.heap.size w W := by rw [hW]; exact (Below.refl _ _).alloc (Nat.le_refl _) _
  have p0 : W.cell? ⟨w.heap.size, 0, none⟩ = some (.int .i64 e.t.f) := by rw [hW]; simp [go_sem]
  have p1 : W.cell? ⟨w.heap.size, 1, none⟩ = some (.int .i64 e.t.v) := by rw [hW]; simp [go_sem]
  have p2 : W.cell? ⟨w.heap.size, 2, none⟩ = some (.slice e.a e.t.kids.length e.c) := by rw [hW]; simp [go_sem]
  have hWz : W.heap.size = w.heap.size + 1 := by rw [hW]; simp
  go_wp2
  rw [← hW]
  have c4 := keepC hb0 hq4
  have f4 : W.frozen? ⟨g, ix * 6 + 4, none⟩ = false := (hb0.frozen (p := ⟨g, ix * 6 + 4, none⟩) hgl2).trans fr4
  have hrW := own_on hrow hb0
  have hgW : g < W.heap.size := by omega
  clear hq4 fr4 hW
  have hxl : (cs3 (hf.L.map FE.cells)).length = hf.L.length * 3 := by rw [cs3_len]; simp
  have hLz : (hf.L.length : Int) < (hf.L.length : Int) + 1 := by omega
  go_region_law (refine step_append_own rfl (.tmp 17) (.tmp 20) 26 rfl B 28 i0 _ 3 40 Try.underlying26 hi0 hz0 hz1 hz2 rfl (by decide) (.slice hf.am hf.L.length hf.cm) hf.L.length (cs3 (hf.L.map FE.cells)) (by first | (simp [Act.eval]; done) | simp [Act.eval, Act.put]) (own_on hrW (by repeat (first | exact Below.refl _ _ | refine Below.drew ?_ | refine Below.alloc ?_ (by simp) _))) ⟨w.heap.size + 1, 0, none⟩ 1 1 [.int .i64 0, .int .i64 0, .slice none 0 0] (by first | (simp [Act.eval]; done) | simp [Act.eval, Act.put]) rfl (three_at (by simp [← hWz]) (by simp [← hWz]) (by simp [← hWz])) (three_cell _ _ _ _ _) (by unfold maxLen; omega) (by omega) (by simp; omega) ?_; intro v5 w5 hown5 hgrow5 hat5; have PF := put_facts hxl hown5 hgrow5 hat5 (by repeat (first | exact Below.refl _ _ | refine Below.drew ?_ | refine Below.alloc ?_ (by simp) _)) hgW c4 f4 hhg; obtain ⟨g5, c5, rfl, ⟨e0, e1, e2⟩, ⟨f0, f1, f2⟩, c4', f4', hg5, hc5, hat'⟩ := PF; have HO5 : Hid _ := hown5; have HG5 : Hid _ := hgrow5; clear hown5 hgrow5 hat5)
  all_goals
    have hO := HO5.out
    have hG := HG5.out
    rw [HFE.out] at hO hG hat'
    have FI := put_fin HH.out (hb0.trans (Below.mono (by repeat (first | exact Below.refl _ _ | refine Below.drew ?_ | refine Below.alloc ?_ (by simp) _)) hb0.size)) hh he hd hdg hG hO hat'
    rw [← HFE.out, ← HIX.out] at FI
    go_end0
    first
      | exact ⟨g5, c5, rfl, FI.1, FI.2⟩
      | (rw [set_comm _ g g5 _ _ _ _ hg5.symm, set_comm _ g g5 _ _ _ _ hg5.symm, set_comm _ g g5 _ _ _ _ hg5.symm]; exact ⟨g5, c5, rfl, FI.1, FI.2⟩)
end Go.Proofs.Ytkjlldbgooogdab

/- One form of a term, as the program makes it. Conditions: terms of at most 4194303 parts. -/
namespace Go.Proofs.Ytkjlldbgooogdab
set_option maxRecDepth 100000
open Go.RowKit

/-- Parts of what is made. -/
def bulkP (l : List FD) : Nat := (l.map fun x => 1 + partsL x.left + partsL x.made).sum
theorem bulkP_add (A : List TermD) : ∀ l, bulkP (addHome A l) ≤ bulkP l + partsL A
  | [] => by simp [addHome, bulkP]
  | x :: r => by
    have ih := bulkP_add A r
    unfold bulkP at *
    rw [addHome]
    split
    · simp only [List.map_cons, List.sum_cons, partsL_append]; omega
    · simp only [List.map_cons, List.sum_cons]; omega
theorem bulkP_len (l : List FD) : l.length ≤ bulkP l := by
  induction l with
  | nil => simp
  | cons x r ih => unfold bulkP at *; simp only [List.length_cons, List.map_cons, List.sum_cons]; omega
theorem bulkP_cons (x : FD) (r : List FD) : bulkP (x :: r) = 1 + partsL x.left + partsL x.made + bulkP r := by simp [bulkP]
theorem todo_cons (x : FD) (r : List FD) : todo (x :: r) = 1 + 2 * partsL x.left + todo r := by simp [todo]
theorem bulkP_mem {x : FD} {l : List FD} (h : x ∈ l) : partsL x.left + partsL x.made < bulkP l := by
  induction l with
  | nil => simp at h
  | cons y r ih =>
    rw [bulkP_cons]
    rcases List.mem_cons.1 h with rfl | h
    · omega
    · have := ih h; omega
theorem sortT_parts (l : List TermD) : partsL (sortT l) = partsL l := by unfold sortT; rw [foldP_parts]; simp [partsL]
theorem close_parts (bl : Int → Bool) (f v : Int) (m : List TermD) : partsT (closeT bl f v m) = partsL m + 1 := by
  unfold closeT
  rw [partsT]
  split <;> simp [sortT_parts]

/-- A term that is closed. -/
theorem closed_any (sa : Option Addr) (ss : List SymD) (sc n0 B h : Nat) (x : FM) (w : World) (hs : RdS w sa ss) (M : MR n0 B x w) (hp : partsL (x.L.map FE.t) ≤ 4194304) :
    Calls Try.prog 62 #[.agg #[.int .i64 x.t.f, .int .i64 x.t.v, .slice x.a x.t.kids.length x.c, .slice x.al x.left.length x.cl, .slice x.am x.L.length x.cm, .int .i64 h], .slice sa ss.length sc] w fun e w' => ∃ T : TermD, T = closeT (blindAt ss) x.t.f x.t.v (x.L.map FE.t) ∧ e = .returned (.agg #[.int .i64 T.f, .int .i64 T.v, .slice x.am T.kids.length T.kids.length]) ∧ OwnS w' x.S x.am T.kids ∧ Stay (fun k => k < w.heap.size ∧ ¬ x.S k) w w' := by
  have hl : x.L.length ≤ 4194304 := by have := partsL_len (x.L.map FE.t); simp at this; omega
  have hpe : ∀ e ∈ x.L, partsT e.t ≤ 4194304 := fun e he => by have := parts_kid (List.mem_map_of_mem (f := FE.t) he); omega
  cases hbl : blindAt ss x.t.f with
  | false =>
    refine (closed_plain sa ss sc n0 B h x w hs M hl hbl).mono ?_
    rintro e w' ⟨rfl, ho, hst⟩
    have hT : closeT (blindAt ss) x.t.f x.t.v (x.L.map FE.t) = .mk x.t.f x.t.v (x.L.map FE.t) := by unfold closeT; rw [if_neg (by rw [hbl]; simp)]
    refine ⟨_, hT.symm, ?_, ho, hst⟩
    show _ = Ending.returned (Value.agg #[.int .i64 x.t.f, .int .i64 x.t.v, .slice x.am (x.L.map FE.t).length (x.L.map FE.t).length])
    rw [List.length_map]
  | true =>
    have hlen : (sortT (x.L.map FE.t)).length = x.L.length := by have := (sortT_perm (x.L.map FE.t)).length_eq; simpa using this
    refine (closed_blind sa ss sc n0 B h x w hs M hl hpe hbl).mono ?_
    rintro e w' ⟨rfl, ho, hst⟩
    have hT : closeT (blindAt ss) x.t.f x.t.v (x.L.map FE.t) = .mk x.t.f x.t.v (sortT (x.L.map FE.t)) := by unfold closeT; rw [if_pos hbl]
    refine ⟨_, hT.symm, ?_, ho, hst⟩
    show _ = Ending.returned (Value.agg #[.int .i64 x.t.f, .int .i64 x.t.v, .slice x.am (sortT (x.L.map FE.t)).length (sortT (x.L.map FE.t)).length])
    rw [hlen]
theorem NSt.keep {n0 B : Nat} {F : List FM} {v : Value} {wr wr' : World} {S : Nat → Prop} (h : NSt n0 B F v wr) (hs : Stay S wr wr') (hn : ∀ k, k < n0 → S k) (hx : ∀ x ∈ F, ∀ k, x.S k → S k) (hv : ∀ g, v.ownBlock = some g → S g) : NSt n0 B F v wr' :=
  ⟨own_stay h.row hs hv, h.frames hs hn hx, h.dis, h.vb, Nat.le_trans h.z hs.size, h.n⟩

/-- The call's own boxes: the answer's place. -/
structure NB (w wr : World) : Prop where
  be : Below w.heap.size w wr
  c0 : wr.cell? ⟨w.heap.size + 1, 0, none⟩ = some (.int .i64 0)
  c1 : wr.cell? ⟨w.heap.size + 1, 1, none⟩ = some (.int .i64 0)
  c2 : wr.cell? ⟨w.heap.size + 1, 2, none⟩ = some (.slice none 0 0)
  cf : ∀ j, wr.frozen? ⟨w.heap.size + 1, j, none⟩ = false
  z : w.heap.size + 1 + 1 ≤ wr.heap.size
theorem NB.stay {w wr wr' : World} (h : NB w wr) (hs : Stay (fun k => k < w.heap.size + 1 + 1) wr wr') : NB w wr' := by
  have hz := h.z
  exact ⟨h.be.trans (hs.below h.be.size (fun k hk => by omega)), hs.cell h.c0 (by simp only; omega), hs.cell h.c1 (by simp only; omega), hs.cell h.c2 (by simp only; omega), fun j => (hs.frozen (p := ⟨w.heap.size + 1, j, none⟩) (by simp only; omega) (by simp only; omega)).trans (h.cf j), Nat.le_trans hz hs.size⟩
theorem NB.on {w wr wr' : World} (h : NB w wr) (hb : Below wr.heap.size wr wr') : NB w wr' := h.stay (.of_below hb (fun _ hk _ => hk))

/-- The outermost one is its own home. -/
def botH : List FM → Prop
  | [] => False
  | x :: r => (r = [] ∧ x.hm = true) ∨ botH r
theorem botH_has : ∀ {F : List FM}, botH F → hasHome F
  | [], h => h
  | _ :: _, h => h.elim (fun q => .inl q.2) (fun q => .inr (botH_has q))
theorem botH_rest {x : FM} {r : List FM} (h : botH (x :: r)) (hr : r ≠ []) : botH r := h.resolve_left (fun q => hr q.1)
theorem botH_put (e : FE) (am : Option Addr) (cm : Nat) : ∀ {F : List FM}, botH F → botH (putHome e am cm F)
  | [], h => h
  | x :: r, h => by
    unfold putHome
    split
    · rename_i hx; exact h.imp (fun q => ⟨q.1, hx⟩) id
    · rename_i hx
      refine .inr (botH_put e am cm (h.resolve_left (fun q => hx q.2)))

/-- What holds between two rounds. -/
structure NI (w : World) (bl : Int → Bool) (t : TermD) (N m : Nat) (F : List FM) (g cv : Nat) (wr : World) : Prop where
  st : NSt w.heap.size (w.heap.size + 1 + 1) F (.slice (some ⟨g, 0, none⟩) F.length cv) wr
  hh : botH F
  md : todo (F.map FM.d) ≤ m
  bk : bulkP (F.map FM.d) ≤ N
  fin : finS bl (F.map FM.d) = normT bl t
  nb : NB w wr
namespace NI
variable {w : World} {bl : Int → Bool} {t : TermD} {N m g cv : Nat} {x : FM} {r : List FM} {wr wr' : World}
theorem drop (h : NI w bl t N m (x :: r) g cv wr) (hl : x.left = []) (hx : x.hm = false) (hb : Below wr.heap.size wr wr') : NI w bl t N (m - 1) r g cv wr' ∧ 1 ≤ m := by
  have h1 := h.md
  have h2 := h.bk
  have h3 := h.fin
  rw [List.map_cons] at h1 h2 h3
  rw [todo_cons] at h1
  rw [bulkP_cons] at h2
  rw [fin_drop (show x.d.left = [] from hl) (show x.d.home = false from hx)] at h3
  exact ⟨⟨h.st.pop.on hb, h.hh.resolve_left (fun q => by rw [hx] at q; simp at q), by omega, by omega, h3, h.nb.on hb⟩, by omega⟩
theorem opn {k : TermD} {ks : List TermD} {ak al : Option Addr} {ck cl g' cv' : Nat} (h : NI w bl t N m (x :: r) g cv wr) (hl : x.left = k :: ks) (hst : NSt w.heap.size (w.heap.size + 1 + 1) (Go.Proofs.Ytkjlldbgooogdab.opn k ak ck (isHome bl k ({ x with left := ks, al := al, cl := cl } :: r)) :: { x with left := ks, al := al, cl := cl } :: r) (.slice (some ⟨g', 0, none⟩) (r.length + 1 + 1) cv') wr') (hn : NB w wr') :
    NI w bl t N (m - 1) (Go.Proofs.Ytkjlldbgooogdab.opn k ak ck (isHome bl k ({ x with left := ks, al := al, cl := cl } :: r)) :: { x with left := ks, al := al, cl := cl } :: r) g' cv' wr' ∧ 1 ≤ m := by
  have h1 := h.md
  have h2 := h.bk
  have h3 := h.fin
  rw [List.map_cons] at h1 h2 h3
  rw [todo_cons] at h1
  rw [bulkP_cons] at h2
  have hk := partsT_eq k
  have e1 : x.d.left = k :: ks := hl
  rw [e1, partsL] at h1 h2
  refine ⟨⟨hst, ?_, ?_, ?_, ?_, hn⟩, by omega⟩
  · exact .inr (h.hh.imp (fun q => ⟨q.1, q.2⟩) id)
  · rw [List.map_cons, List.map_cons, todo_cons, todo_cons]
    show 1 + 2 * partsL k.kids + (1 + 2 * partsL ks + _) ≤ _
    omega
  · rw [List.map_cons, List.map_cons, bulkP_cons, bulkP_cons]
    show 1 + partsL k.kids + 0 + (1 + partsL ks + partsL (x.L.map FE.t) + _) ≤ _
    have : x.d.made = x.L.map FE.t := rfl
    rw [this] at h2
    omega
  · rw [← h3, ← fin_open (x := x.d) (r := r.map FM.d) (m := []) hl rfl]
    rfl
theorem close {T : TermD} {e : FE} {am : Option Addr} {cm : Nat} (h : NI w bl t N m (x :: r) g cv wr) (hl : x.left = []) (hx : x.hm = true) (hr : r ≠ []) (hT : T = closeT bl x.t.f x.t.v (x.L.map FE.t)) (he : e.t = T) (hst : NSt w.heap.size (w.heap.size + 1 + 1) (putHome e am cm r) (.slice (some ⟨g, 0, none⟩) r.length cv) wr') (hn : NB w wr') :
    NI w bl t N (m - 1) (putHome e am cm r) g cv wr' ∧ 1 ≤ m := by
  have h1 := h.md
  have h2 := h.bk
  have h3 := h.fin
  rw [List.map_cons] at h1 h2 h3
  rw [todo_cons] at h1
  rw [bulkP_cons] at h2
  rw [fin_close (show x.d.left = [] from hl) (show x.d.home = true from hx) (by simpa using hr)] at h3
  have e1 : closeT bl x.d.f x.d.v x.d.made = e.t := by rw [he, hT]; rfl
  rw [e1] at h3
  have hp := close_parts bl x.t.f x.t.v (x.L.map FE.t)
  rw [← hT, ← he] at hp
  have hb := bulkP_add [e.t] (r.map FM.d)
  have ht := todo_add [e.t] (r.map FM.d)
  have e2 : x.d.made = x.L.map FE.t := rfl
  rw [e2] at h2
  simp only [partsL] at hb
  exact ⟨⟨by rw [putHome_len]; exact hst, botH_put _ _ _ (botH_rest h.hh hr), by rw [putHome_d]; omega, by rw [putHome_d]; omega, by rw [putHome_d]; exact h3, hn⟩, by omega⟩
theorem len (h : NI w bl t N m (x :: r) g cv wr) : r.length < N := by
  have := bulkP_len ((x :: r).map FM.d)
  have := h.bk
  simp at *
  omega
theorem made (h : NI w bl t N m (x :: r) g cv wr) : ∀ y ∈ x :: r, partsL (y.L.map FE.t) < N := fun y hy => by
  have h1 := bulkP_mem (List.mem_map_of_mem (f := FM.d) hy)
  have h2 := h.bk
  have e2 : y.d.made = y.L.map FE.t := rfl
  rw [e2] at h1
  omega
theorem lefts (h : NI w bl t N m (x :: r) g cv wr) : x.left.length < N := by
  have h1 := bulkP_mem (List.mem_map_of_mem (f := FM.d) (List.mem_cons_self (a := x) (l := r)))
  have h2 := h.bk
  have h3 := partsL_len x.left
  have e2 : x.d.left = x.left := rfl
  rw [e2] at h1
  omega
end NI
end Go.Proofs.Ytkjlldbgooogdab

/- One form of a term, as the program makes it: the walk. Conditions: terms of at most 4194304 parts. -/
namespace Go.Proofs.Ytkjlldbgooogdab
set_option maxRecDepth 100000
open Go.RowKit

set_option maxHeartbeats 6400000 in
set_option maxRecDepth 100000 in
theorem impNorm_any (sa : Option Addr) (ss : List SymD) (sc : Nat) (t : TermD) (a : Option Addr) (c hi : Nat) (w : World) (hs : RdS w sa ss) (hp : partsT t ≤ 4194304) (hr : RdK w hi a t.kids) (hhi : hi ≤ w.heap.size) (hc : t.kids.length ≤ c) (hwf : isW t.f ∧ isW t.v) :
    Calls Try.prog 42 #[.slice sa ss.length sc, .agg #[.int .i64 t.f, .int .i64 t.v, .slice a t.kids.length c]] w fun e w' => ∃ a' c', e = .returned (.agg #[.int .i64 t.f, .int .i64 t.v, .slice a' (normT (blindAt ss) t).kids.length c']) ∧ OwnS w' (fun k => w.heap.size ≤ k ∧ k < w'.heap.size) a' (normT (blindAt ss) t).kids ∧ (normT (blindAt ss) t).kids.length ≤ c' ∧ Below w.heap.size w w' := by
  obtain ⟨W, hW⟩ : ∃ W, W = (w.alloc (.cells #[.int .i64 t.f, .int .i64 t.v, .slice a t.kids.length c] 28)).alloc (.cells #[.int .i64 0, .int .i64 0, .slice none 0 0] 28) := ⟨_, rfl⟩
  have hb0 : Below w.heap.size w W := by rw [hW]; exact ((Below.refl _ _).alloc (Nat.le_refl _) _).alloc (by simp) _
  have hz0 : W.heap.size = w.heap.size + 1 + 1 := by rw [hW]; simp
  have nb0 : NB w W := ⟨hb0, by rw [hW]; simp [go_sem], by rw [hW]; simp [go_sem], by rw [hW]; simp [go_sem], fun j => by rw [hW]; simp [go_sem], by omega⟩
  have CO := opened_any sa ss sc w.heap.size (w.heap.size + 1 + 1) [] none 0 t a c W (hs.below hb0) (.start (by omega) (by omega)) (by simp) ((hr.mono hhi).on hb0) hc hwf
  have HS : Hid (∀ W', Below w.heap.size w W' → RdS W' sa ss) := fun W' h => hs.below h
  have HR : Hid (∀ (f v : Int), (normT (blindAt ss) t).f = t.f ∧ (normT (blindAt ss) t).v = t.v) := fun _ _ => by rw [normT_eq]; exact ⟨rfl, rfl⟩
  have hpt := partsT_eq t
  clear hs hr hhi
  simp only [List.length_nil, Nat.zero_add] at CO
  go_enter Try.func42, Try.ntmps42
  go_wp2_with (go_at_call 60; rw [← hW]; refine CO.mono ?_; rintro e w1 ⟨g1, c1, rfl, st1, sy1⟩; clear CO hW)
  have I1 : NI w (blindAt ss) t (partsT t) (1 + 2 * partsL t.kids) [opn t a c (isHome (blindAt ss) t [])] g1 c1 w1 := ⟨st1, .inl ⟨rfl, rfl⟩, by simp [todo, FM.d, opn], by simp [bulkP, FM.d, opn, partsL]; omega, by
    have := fin_start (bl := blindAt ss) t
    exact this, nb0.stay sy1⟩
  clear st1 sy1 nb0 hb0 hz0 hc hwf
  go_loopg [5] (1 + 2 * partsL t.kids) (fun k s5 wr => ∃ (F : List FM) (g cv : Nat), s5 = .slice (some ⟨g, 0, none⟩) F.length cv ∧ NI w (blindAt ss) t (partsT t) k F g cv wr)
  case atStart => exact ⟨_, g1, c1, rfl, I1⟩
  case round =>
    obtain ⟨F, g, cv, rfl, I⟩ := hrel
    clear I1
    cases F with
    | nil => exact I.hh.elim
    | cons x r =>
      simp only [List.length_cons]
      have hlen := I.len
      have hmade := I.made
      have hlf := I.lefts
      have hgl := (I.st.row.lt g rfl)
      have hcv : r.length + 1 ≤ cv := by obtain ⟨_, _, e, hh⟩ := own_form I.st.row; rw [(Value.slice.inj e).2.2]; exact hh
      have hcvz : (r.length : Int) ≤ (cv : Int) := by omega
      obtain ⟨q0, q1, q2, q3, q4, q5⟩ := top_cells I.st
      cases hxl : x.left with
      | nil =>
        have CT := takeKid_none _ _ x r g cv wr I.st (by omega) hxl
        cases hxh : x.hm with
        | false =>
          have hrh : hasHome r := botH_has (I.hh.resolve_left (fun q => by rw [hxh] at q; simp at q))
          have hix := home_lt hrh
          have e5 : homeIx (x :: r) = homeIx r := by simp [homeIx, hxh]
          rw [e5] at q5
          have hixz : ((homeIx r : Nat) : Int) < (r.length : Int) := by omega
          generalize homeIx r = ix at *
          have HI : Hid _ := I
          have HX : Hid (x.left = [] ∧ x.hm = false) := ⟨hxl, hxh⟩
          rw [hxl] at q3
          clear I hmade hlf hxl hxh e5 hrh
          go_wp2_with (go_at_call 61; refine CT.mono ?_; rintro e w2 ⟨rfl, hb2⟩; clear CT; have k0 := keepC hb2 q0; have k1 := keepC hb2 q1; have k2 := keepC hb2 q2; have k3 := keepC hb2 q3; have k4 := keepC hb2 q4; have k5 := keepC hb2 q5; have hg2 := Nat.lt_of_lt_of_le hgl.2 hb2.size; clear q0 q1 q2 q3 q4 q5)
          have hbF : ∀ o1 o2, Below wr.heap.size wr ((w2.alloc o1).alloc o2) := fun o1 o2 => (hb2.alloc hb2.size o1).alloc (by have := hb2.size; simp; omega) o2
          obtain ⟨D1, D2⟩ := HI.out.drop HX.out.1 HX.out.2 (hbF _ _)
          go_roundg (gk - 1)
          case measure => omega
          case rel => exact ⟨r, g, cv, rfl, D1⟩
        | true =>
          have e5 : homeIx (x :: r) = r.length := by simp [homeIx, hxh]
          rw [e5] at q5
          rw [hxl] at q3
          simp only [List.length_nil] at q3
          have hxS : ∀ k, x.S k → w.heap.size + 1 + 1 ≤ k ∧ k < wr.heap.size := fun k hk => (I.st.fr x (by simp)).lt k hk
          have hwfx := (I.st.fr x (by simp)).wf
          have CC : ∀ W', Below wr.heap.size wr W' → Calls Try.prog 62 #[.agg #[.int .i64 x.t.f, .int .i64 x.t.v, .slice x.a x.t.kids.length x.c, .slice x.al 0 x.cl, .slice x.am x.L.length x.cm, .int .i64 (r.length : Nat)], .slice sa ss.length sc] W' fun e w' => ∃ T : TermD, T = closeT (blindAt ss) x.t.f x.t.v (x.L.map FE.t) ∧ e = .returned (.agg #[.int .i64 T.f, .int .i64 T.v, .slice x.am T.kids.length T.kids.length]) ∧ OwnS w' x.S x.am T.kids ∧ Stay (fun k => k < W'.heap.size ∧ ¬ x.S k) W' w' := fun W' hb => by
            have := closed_any sa ss sc _ _ r.length x W' (HS.out W' (I.nb.be.trans (hb.mono I.nb.be.size))) ((I.st.on hb).fr x (by simp)) (by have := hmade x (by simp); omega)
            rw [hxl] at this
            exact this
          have CN : ∀ W' w4, Below wr.heap.size wr W' → Stay (fun k => k < W'.heap.size ∧ ¬ x.S k) W' w4 → NB w w4 := fun W' w4 hb hs => (I.nb.on hb).stay (hs.weak (fun k hk hk2 => ⟨hk, fun q => by have := hxS k q; omega⟩))
          cases r with
          | nil =>
            have hfin := I.fin
            rw [List.map_cons, List.map_nil, fin_end (show x.d.left = [] from hxl) (show x.d.home = true from hxh)] at hfin
            have HF : Hid (closeT (blindAt ss) x.t.f x.t.v (x.L.map FE.t) = normT (blindAt ss) t) := hfin
            have HX : Hid (∀ k, x.S k → w.heap.size + 1 + 1 ≤ k ∧ k < wr.heap.size) := hxS
            clear I hmade hlf hxl hxh e5 hfin hxS
            simp only [List.length_nil] at *
            go_wp2_with (first
              | (go_at_call 61; refine CT.mono ?_; rintro e w2 ⟨rfl, hb2⟩; clear CT; have k0 := keepC hb2 q0; have k1 := keepC hb2 q1; have k2 := keepC hb2 q2; have k3 := keepC hb2 q3; have k4 := keepC hb2 q4; have k5 := keepC hb2 q5; have hg2 := Nat.lt_of_lt_of_le hgl.2 hb2.size; have hb3 : Below wr.heap.size wr ((w2.alloc (.cells #[.int .i64 0, .int .i64 0, .slice none 0 0] 28)).alloc (.cells #[.int .i64 x.t.f, .int .i64 x.t.v, .slice x.a x.t.kids.length x.c, .slice x.al 0 x.cl, .slice x.am x.L.length x.cm, .int .i64 0] 91)) := ((hb2.alloc hb2.size _).alloc (by have := hb2.size; simp; omega) _); clear q0 q1 q2 q3 q4 q5)
              | (go_at_call 62; refine (CC _ hb3).mono ?_; rintro e w4 ⟨TT, hTT, rfl, ho4, hs4⟩; have HT : Hid (TT = closeT (blindAt ss) x.t.f x.t.v (x.L.map FE.t)) := hTT; clear hTT; have nb4 := CN _ _ hb3 hs4; have d0 := nb4.c0; have d1 := nb4.c1; have d2 := nb4.c2; have df := nb4.cf; have hz4 : w.heap.size + 1 < w4.heap.size := nb4.z; clear k0 k1 k2 k3 k4 k5))
            obtain ⟨z0, z1, z2⟩ := set3_cells (u := w4) (r := w.heap.size + 1) (x := .int .i64 TT.f) (y := .int .i64 TT.v) (z := .slice x.am TT.kids.length TT.kids.length) d0 d1 d2
            have hTn : TT = normT (blindAt ss) t := HT.out.trans HF.out
            have hnS : ∀ j, ¬ x.S (⟨w.heap.size + 1, j, none⟩ : Addr).block := fun j q => by have := (HX.out _ q).1; simp only at this; omega
            have hoF := ((ho4.setCell ⟨w.heap.size + 1, 0, none⟩ (hnS 0) (.int .i64 TT.f)).setCell ⟨w.heap.size + 1, 1, none⟩ (hnS 1) (.int .i64 TT.v)).setCell ⟨w.heap.size + 1, 2, none⟩ (hnS 2) (.slice x.am TT.kids.length TT.kids.length)
            have hbF := ((nb4.be.setCell (p := ⟨w.heap.size + 1, 0, none⟩) (by simp) (.int .i64 TT.f)).setCell (p := ⟨w.heap.size + 1, 1, none⟩) (by simp) (.int .i64 TT.v)).setCell (p := ⟨w.heap.size + 1, 2, none⟩) (by simp) (.slice x.am TT.kids.length TT.kids.length)
            obtain ⟨W5, hW5⟩ : ∃ W5, W5 = ((w4.setCell ⟨w.heap.size + 1, 0, none⟩ (.int .i64 TT.f)).setCell ⟨w.heap.size + 1, 1, none⟩ (.int .i64 TT.v)).setCell ⟨w.heap.size + 1, 2, none⟩ (.slice x.am TT.kids.length TT.kids.length) := ⟨_, rfl⟩
            rw [← hW5] at z0 z1 z2 hoF hbF ⊢
            have hz5 : W5.heap.size = w4.heap.size := by rw [hW5]; simp
            have hb6 : Below W5.heap.size W5 (W5.alloc (.cells #[.int .i64 TT.f, .int .i64 TT.v, .slice x.am TT.kids.length TT.kids.length] 28)) := (Below.refl _ _).alloc (Nat.le_refl _) _
            have y0 := keepC hb6 z0
            have y1 := keepC hb6 z1
            have y2 := keepC hb6 z2
            have hlt : ∀ k, x.S k → w.heap.size ≤ k ∧ k < W5.heap.size := fun k hk => by have := HX.out k hk; have := hb3.size; have := hs4.size; omega
            obtain ⟨e1, e2⟩ := HR.out 0 0
            rw [← hTn] at e1 e2 ⊢
            rw [← e1, ← e2]
            refine bodyPost_ret (v := .agg #[.int .i64 TT.f, .int .i64 TT.v, .slice x.am TT.kids.length TT.kids.length]) (by simp [results, Try.results42, go_sem, y0, y1, y2]) rfl ⟨x.am, TT.kids.length, rfl, ?_, Nat.le_refl _, hbF.trans (hb6.mono hbF.size)⟩
            exact (hoF.frame (fun k hk => hb6.block k (hlt k hk).2) hb6.size).mono (fun k hk => ⟨(hlt k hk).1, Nat.lt_of_lt_of_le (hlt k hk).2 hb6.size⟩)
          | cons y r' =>
            have hrh : hasHome (y :: r') := botH_has (botH_rest I.hh (by simp))
            have hdis := (List.pairwise_cons.1 I.st.dis).1
            have hgx := I.st.vb g rfl x (by simp)
            have CP : ∀ W' w4 (TT : TermD), Below wr.heap.size wr W' → OwnS w4 x.S x.am TT.kids → Stay (fun k => k < W'.heap.size ∧ ¬ x.S k) W' w4 → Hid (TT = closeT (blindAt ss) x.t.f x.t.v (x.L.map FE.t)) → ∀ w5, Below w4.heap.size w4 w5 →
                Calls Try.prog 63 #[.slice (some ⟨g, 0, none⟩) (r'.length + 1) cv, .agg #[.int .i64 TT.f, .int .i64 TT.v, .slice x.am TT.kids.length TT.kids.length]] w5 fun e w6 => e = .returned (.tuple #[]) ∧ ∃ F', F'.length = r'.length + 1 ∧ NI w (blindAt ss) t (partsT t) (gk - 1) F' g cv w6 ∧ 1 ≤ gk := fun W' w4 TT hb ho hs hT w5 hb5 => by
              have hS := fun k hk => (I.st.fr x (by simp)).lt k hk
              have st1 := (I.st.on hb).pop.keep (S := fun k => k < W'.heap.size ∧ ¬ x.S k) hs (fun k hk => ⟨by have := I.nb.z; have := hb.size; omega, fun q => by have := (hS k q).1; omega⟩) (fun z hz k hk => ⟨(((I.st.on hb).fr z (List.mem_cons_of_mem _ hz)).lt k hk).2, fun q => hdis z hz k q hk⟩) (fun g' hg' => by
                have e0 : g = g' := by simpa [Value.ownBlock] using hg'
                subst e0
                exact ⟨Nat.lt_of_lt_of_le hgl.2 hb.size, hgx⟩)
              have st2 := st1.on hb5
              have nb5 := (CN W' w4 hb hs).on hb5
              have eT : TT.f = x.t.f ∧ TT.v = x.t.v := by rw [hT.out]; exact ⟨rfl, rfl⟩
              have hP := put_any w.heap.size (w.heap.size + 1 + 1) (y :: r') g cv ⟨TT, x.am, TT.kids.length, x.S⟩ w5 st2 hrh (by omega) ⟨ho.frame (fun k hk => hb5.block k (by have := (hS k hk).2; have := hb.size; have := hs.size; omega)) hb5.size, Nat.le_refl _, by rw [eT.1, eT.2]; exact hwfx, fun k hk => ⟨(hS k hk).1, by have := (hS k hk).2; have := hb.size; have := hs.size; have := hb5.size; omega⟩⟩ (fun z hz k hk => hdis z hz k hk) hgx (by
                have h1 := hmade _ (List.mem_cons_of_mem x (home_mem hrh))
                have h2 := partsL_len ((homeFr (y :: r')).L.map FE.t)
                simp at h2
                omega)
              refine hP.mono ?_
              rintro e w6 ⟨g2, c2, rfl, st3, sy3⟩
              obtain ⟨C1, C2⟩ := I.close hxl hxh (by simp) hT.out (e := ⟨TT, x.am, TT.kids.length, x.S⟩) rfl st3 (nb5.stay sy3)
              exact ⟨rfl, _, by rw [putHome_len]; simp, C1, C2⟩
            simp only [List.length_cons] at *
            clear I hmade hlf hxl hxh e5 hxS hdis hgx hrh HR
            go_wp2_with (first
              | (go_at_call 61; refine CT.mono ?_; rintro e w2 ⟨rfl, hb2⟩; clear CT; have k0 := keepC hb2 q0; have k1 := keepC hb2 q1; have k2 := keepC hb2 q2; have k3 := keepC hb2 q3; have k4 := keepC hb2 q4; have k5 := keepC hb2 q5; have hg2 := Nat.lt_of_lt_of_le hgl.2 hb2.size; have hb3 : Below wr.heap.size wr ((w2.alloc (.cells #[.int .i64 0, .int .i64 0, .slice none 0 0] 28)).alloc (.cells #[.int .i64 x.t.f, .int .i64 x.t.v, .slice x.a x.t.kids.length x.c, .slice x.al 0 x.cl, .slice x.am x.L.length x.cm, .int .i64 ((r'.length + 1 : Nat) : Int)] 91)) := ((hb2.alloc hb2.size _).alloc (by have := hb2.size; simp; omega) _); clear q0 q1 q2 q3 q4 q5)
              | (go_at_call 62; refine (CC _ hb3).mono ?_; rintro e w4 ⟨TT, hTT, rfl, ho4, hs4⟩; have HT : Hid (TT = closeT (blindAt ss) x.t.f x.t.v (x.L.map FE.t)) := hTT; clear hTT; have nb4 := CN _ _ hb3 hs4; have P5 := CP _ _ TT hb3 ho4 hs4 HT; clear k0 k1 k2 k3 k4 k5)
              | (go_at_call 63; refine (P5 _ ((Below.refl _ _).alloc (Nat.le_refl _) _)).mono ?_; rintro e w6 ⟨rfl, F', hF', J, hgk⟩))
            go_roundg (gk - 1)
            case measure => omega
            case rel => exact ⟨F', g, cv, by rw [hF'], J⟩
      | cons k ks =>
        have CT := takeKid_some _ _ x r g cv k ks wr I.st (by omega) hxl (by rw [hxl] at hlf; simp at hlf; omega)
        have CO : ∀ (ak : Option Addr) (ck : Nat) (al : Option Addr) (cl : Nat) w2, NSt w.heap.size (w.heap.size + 1 + 1) ({ x with left := ks, al := al, cl := cl } :: r) (.slice (some ⟨g, 0, none⟩) (r.length + 1) cv) w2 → RdK w2 w.heap.size ak k.kids → k.kids.length ≤ ck → (isW k.f ∧ isW k.v) → Stay (fun k => k < w.heap.size + 1 + 1) wr w2 → ∀ w3, Below w2.heap.size w2 w3 →
            Calls Try.prog 60 #[.slice (some ⟨g, 0, none⟩) (r.length + 1) cv, .slice sa ss.length sc, .agg #[.int .i64 k.f, .int .i64 k.v, .slice ak k.kids.length ck]] w3 fun e w4 => ∃ g' cv', e = .returned (.slice (some ⟨g', 0, none⟩) (r.length + 1 + 1) cv') ∧ ∃ F', F'.length = r.length + 1 + 1 ∧ NI w (blindAt ss) t (partsT t) (gk - 1) F' g' cv' w4 ∧ 1 ≤ gk := fun ak ck al cl w2 st hrk hck hwk hsy w3 hb3 => by
          have nb3 := (I.nb.stay hsy).on hb3
          refine (opened_any sa ss sc w.heap.size (w.heap.size + 1 + 1) ({ x with left := ks, al := al, cl := cl } :: r) (some ⟨g, 0, none⟩) cv k ak ck w3 (HS.out w3 nb3.be) (st.on hb3) (by simp; omega) (hrk.on (hb3.mono (by have := (I.nb.stay hsy).z; omega))) hck hwk).mono ?_
          rintro e w4 ⟨g', cv', rfl, st4, sy4⟩
          obtain ⟨C1, C2⟩ := I.opn hxl st4 (nb3.stay sy4)
          exact ⟨g', cv', rfl, _, by simp, C1, C2⟩
        clear I hmade hlf hxl q0 q1 q2 q3 q4 q5 HR
        go_wp2_with (first
          | (go_at_call 61; refine CT.mono ?_; rintro e w2 ⟨ak, ck, al, cl, rfl, st2, hrk2, hck2, hwk2, hsy2⟩; clear CT; have CO2 := CO ak ck al cl w2 st2 hrk2 hck2 hwk2 hsy2; clear CO st2 hrk2 hwk2 hsy2)
          | (go_at_call 60; refine (CO2 _ ((Below.refl _ _).alloc (Nat.le_refl _) _)).mono ?_; rintro e w4 ⟨g', cv', rfl, F', hF', J, hgk⟩))
        go_roundg (gk - 1)
        case measure => omega
        case rel => exact ⟨F', g', cv', by rw [hF'], J⟩
end Go.Proofs.Ytkjlldbgooogdab

/- The specification's l4Put at an empty list. Conditions: none. -/
namespace Go.Proofs.Ytkjlldbgooogdab
set_option maxRecDepth 100000
open Go.RowKit

set_option maxHeartbeats 1600000 in
set_option maxRecDepth 100000 in
theorem l4Put_nil (e : FE) (w : World) :
    Calls Try.prog 59 #[.slice none 0 0, .agg #[.int .i64 e.t.f, .int .i64 e.t.v, .slice e.a e.t.kids.length e.c]] w fun en w' => ∃ g' c', en = .returned (.slice (some ⟨g', 0, none⟩) (0 + 1) c') ∧ w'.ownsRow w.heap.size 28 3 (.slice (some ⟨g', 0, none⟩) (0 + 1) c') (0 + 1) (cs3 ((putF e []).map FE.cells)) ∧ Below w.heap.size w w' := by
  obtain ⟨i0, hi0, hz0, hz1, hz2⟩ := info_parts info29
  have hs1 := slice_to none 0 0 0 (Nat.le_refl _)
  have hs2 := sliceAt_to none 0 0 0 (Nat.le_refl _)
  go_enter Try.func59, Try.ntmps59
  go_wp2_with fail
  refine wp_loop_rounds 1 ?_
  rw [rounds_succ]
  go_wp2_with fail
  go_quiet ((fail))
  have hb0 : Below w.heap.size w ((w.alloc (.cells #[.int .i64 e.t.f, .int .i64 e.t.v, .slice e.a e.t.kids.length e.c] 28)).drewN nq) := below_drewN ((Below.refl w.heap.size w).alloc (Nat.le_refl _) _) nq
  have c0 : ((w.alloc (.cells #[.int .i64 e.t.f, .int .i64 e.t.v, .slice e.a e.t.kids.length e.c] 28)).drewN nq).cell? ⟨w.heap.size, 0, none⟩ = some (.int .i64 e.t.f) := keepC (below_drewN (Below.refl _ _) nq) (by simp [go_sem])
  have c1 : ((w.alloc (.cells #[.int .i64 e.t.f, .int .i64 e.t.v, .slice e.a e.t.kids.length e.c] 28)).drewN nq).cell? ⟨w.heap.size, 1, none⟩ = some (.int .i64 e.t.v) := keepC (below_drewN (Below.refl _ _) nq) (by simp [go_sem])
  have c2 : ((w.alloc (.cells #[.int .i64 e.t.f, .int .i64 e.t.v, .slice e.a e.t.kids.length e.c] 28)).drewN nq).cell? ⟨w.heap.size, 2, none⟩ = some (.slice e.a e.t.kids.length e.c) := keepC (below_drewN (Below.refl _ _) nq) (by simp [go_sem])
  generalize (w.alloc (.cells #[.int .i64 e.t.f, .int .i64 e.t.v, .slice e.a e.t.kids.length e.c] 28)).drewN nq = W at *
  have hz := hb0.size
  have hW : w.heap.size < W.heap.size := World.block_lt_of_cell? _ _ c0
  go_wp2_with (at_builtin; (refine wpList_append_own _ rfl (.tmp 27) (.tmp 29) 26 rfl w.heap.size 28 i0 _ 3 40 Try.underlying26 hi0 hz0 hz1 hz2 rfl (by decide) _ 0 [] rfl ((World.ownsRow_made W #[] 0 hb0.size (Nat.zero_le _) rfl).alloc _) ⟨W.heap.size + 1, 0, none⟩ 1 1 _ rfl rfl (three_new _ _ _ _ _ _ (by simp)) (three_cell _ _ _ _ _) (by unfold maxLen; omega) (by omega) (by simp; omega) ?_; intro v3 w3 hown3 hgrow3 hnil3; obtain ⟨g3, c3', rfl⟩ := own_any hown3 hnil3; have hg3 : ((W.alloc (.cells #[] 28)).alloc (.cells #[.int .i64 e.t.f, .int .i64 e.t.v, .slice e.a e.t.kids.length e.c] 28)).grownBy w3 (some W.heap.size) := hgrow3; have hB3 : Below w.heap.size w w3 := (((hb0.alloc hb0.size _).alloc (by simp; omega) _).grown hg3 (by simp; omega) (fun kk ee => by cases ee; omega)); have hc3 : 1 ≤ c3' := (by obtain ⟨_, _, h, hh⟩ := own_form hown3; cases h; omega); clear hnil3 hgrow3 hg3 c0 c1 c2))
  go_ret
  exact ⟨g3, c3', rfl, by simpa [putF, putK, cs3, FE.cells] using hown3, hB3⟩

theorem l4Put_any (base : Nat) (av : Option Addr) (cv : Nat) (L : List FE) (e : FE) (hi : Nat) (w : World) (hrow : w.ownsRow base 28 3 (.slice av L.length cv) L.length (cs3 (L.map FE.cells))) (hk : ∀ i, (h : i < L.length) → RdK w hi L[i].a L[i].t.kids) (he : RdK w hi e.a e.t.kids) (hhi : hi ≤ w.heap.size) (hp : partsT e.t ≤ 4194304) (hl : L.length ≤ 4194304) :
    Calls Try.prog 59 #[.slice av L.length cv, .agg #[.int .i64 e.t.f, .int .i64 e.t.v, .slice e.a e.t.kids.length e.c]] w fun en w' => ∃ g' c', en = .returned (.slice (some ⟨g', 0, none⟩) (L.length + 1) c') ∧ w'.ownsRow w.heap.size 28 3 (.slice (some ⟨g', 0, none⟩) (L.length + 1) c') (L.length + 1) (cs3 ((putF e L).map FE.cells)) ∧ Below w.heap.size w w' := by
  rcases hrow.2 with ⟨hv, h0⟩ | ⟨g, cap, cur, hv, _⟩
  · have hz : L = [] := List.length_eq_zero_iff.1 h0
    subst hz
    obtain ⟨rfl, rfl⟩ : av = none ∧ cv = 0 := by simpa using hv
    exact l4Put_nil e w
  · cases hv
    exact l4Put_some base g _ L e hi w hrow hk he hhi hp hl
end Go.Proofs.Ytkjlldbgooogdab

/- Whether a function is blind, as the specification tells it. Conditions: at most 1048577 functions. -/
namespace Go.Proofs.Ytkjlldbgooogdab
set_option maxRecDepth 100000
open Go.RowKit

set_option maxHeartbeats 800000 in
theorem specBlind_any (a : Option Addr) (ss : List SymD) (n cap : Nat) (f : Int) (w : World) (hn : n = ss.length) (hr : RdS w a ss) (hl : ss.length ≤ 1048577) (hf0 : -9223372036854775808 ≤ f) (hf1 : f ≤ 9223372036854775807) :
    Calls Try.prog 33 #[.slice a n cap, .int .i64 f] w fun e w' => e = .returned (.bool (blindAt ss f)) ∧ w' = w := by
  subst hn
  by_cases h0 : 0 ≤ f
  · by_cases h1 : f ≤ (ss.length : Int) - 1
    · obtain ⟨k, rfl⟩ := Int.eq_ofNat_of_zero_le h0
      have hk : k < ss.length := by omega
      rcases hr with rfl | ⟨b, off, rfl, hlt, hc⟩
      · simp at hk
      · obtain ⟨c0, c1, c2⟩ := hc k hk
        have hk2 : (k : Int) < (ss.length : Int) := by omega
        clear hc
        go_enter Try.func33, Try.ntmps33
        go_wp2_with go_in
        go_ret
        exact ⟨ret_bool (blindAt_in hk).symm, rfl⟩
    · have HN : Hid (blindAt ss f = false ∧ arityAt ss f = -1) := at_out (.inr (by omega))
      go_enter Try.func33, Try.ntmps33
      go_wp2_with go_in
      go_ret
      exact ⟨ret_bool HN.out.1.symm, rfl⟩
  · have HN : Hid (blindAt ss f = false ∧ arityAt ss f = -1) := at_out (.inl (by omega))
    go_enter Try.func33, Try.ntmps33
    go_wp2_with go_in
    go_ret
    exact ⟨ret_bool HN.out.1.symm, rfl⟩

end Go.Proofs.Ytkjlldbgooogdab

/- What lies in memory while the specification makes one form of a term. Conditions: none. -/
namespace Go.Proofs.Ytkjlldbgooogdab
set_option maxRecDepth 100000
open Go.RowKit

/-- The call's own three boxes: the term, the answer's place, what is made. -/
structure NC (w : World) (t : TermD) (a : Option Addr) (c : Nat) (vo : Value) (wr : World) : Prop where
  p0 : wr.cell? ⟨w.heap.size, 0, none⟩ = some (.int .i64 t.f)
  p2 : wr.cell? ⟨w.heap.size, 2, none⟩ = some (.slice a t.kids.length c)
  r0 : wr.cell? ⟨w.heap.size + 1, 0, none⟩ = some (.int .i64 0)
  r1 : wr.cell? ⟨w.heap.size + 1, 1, none⟩ = some (.int .i64 0)
  r2 : wr.cell? ⟨w.heap.size + 1, 2, none⟩ = some (.slice none 0 0)
  q0 : wr.cell? ⟨w.heap.size + 1 + 1, 0, none⟩ = some (.int .i64 t.f)
  q1 : wr.cell? ⟨w.heap.size + 1 + 1, 1, none⟩ = some (.int .i64 t.v)
  q2 : wr.cell? ⟨w.heap.size + 1 + 1, 2, none⟩ = some vo
  fr : ∀ j, wr.frozen? ⟨w.heap.size + 1, j, none⟩ = false
  fq : ∀ j, wr.frozen? ⟨w.heap.size + 1 + 1, j, none⟩ = false
  bel : Below w.heap.size w wr
  z : w.heap.size + 1 + 1 < wr.heap.size

namespace NC
variable {w : World} {t : TermD} {a : Option Addr} {c : Nat} {vo : Value} {wr wr' : World}
theorem stay (h : NC w t a c vo wr) (hs : Stay (fun k => k < w.heap.size + 1 + 1 + 1) wr wr') : NC w t a c vo wr' := by
  have hz := h.z
  exact ⟨hs.cell h.p0 (by simp only; omega), hs.cell h.p2 (by simp only; omega), hs.cell h.r0 (by simp only; omega), hs.cell h.r1 (by simp only; omega), hs.cell h.r2 (by simp only; omega), hs.cell h.q0 (by simp only; omega), hs.cell h.q1 (by simp only; omega), hs.cell h.q2 (by simp only; omega), fun j => (hs.frozen (p := ⟨w.heap.size + 1, j, none⟩) (by simp only; omega) (by simp only; omega)).trans (h.fr j), fun j => (hs.frozen (p := ⟨w.heap.size + 1 + 1, j, none⟩) (by simp only; omega) (by simp only; omega)).trans (h.fq j), h.bel.trans (hs.below h.bel.size (fun k hk => by omega)), Nat.lt_of_lt_of_le hz hs.size⟩
theorem on (h : NC w t a c vo wr) (hb : Below wr.heap.size wr wr') : NC w t a c vo wr' := h.stay (.of_below hb (fun _ hk _ => hk))
theorem set (h : NC w t a c vo wr) (vo' : Value) : NC w t a c vo' (wr.setCell ⟨w.heap.size + 1 + 1, 2, none⟩ vo') := by
  have e : ∀ b j, b ≠ w.heap.size + 1 + 1 → (wr.setCell ⟨w.heap.size + 1 + 1, 2, none⟩ vo').cell? ⟨b, j, none⟩ = wr.cell? ⟨b, j, none⟩ := fun b j hb => World.cell?_of_block (Below.heap_setCell _ _ _ _ hb)
  refine ⟨(e _ _ (by omega)).trans h.p0, (e _ _ (by omega)).trans h.p2, (e _ _ (by omega)).trans h.r0, (e _ _ (by omega)).trans h.r1, (e _ _ (by omega)).trans h.r2, ?_, ?_, World.cell?_setCell_same' _ _ _ (by rw [h.q2]; rfl), fun j => by rw [World.frozen?_setCell]; exact h.fr j, fun j => by rw [World.frozen?_setCell]; exact h.fq j, h.bel.setCell (p := ⟨w.heap.size + 1 + 1, 2, none⟩) (by simp only; omega) _, by simpa using h.z⟩
  · rw [World.cell?_setCell_other _ _ _ _ (by simp)]; exact h.q0
  · rw [World.cell?_setCell_other _ _ _ _ (by simp)]; exact h.q1
end NC

theorem own_lower' {w : World} {base base' : Nat} {e : TypeId} {size : Nat} {v : Value} {n : Nat} {xs : List Value} (h : w.ownsRow base e size v n xs) (hb : base' ≤ base) : w.ownsRow base' e size v n xs := by
  obtain ⟨h1, h2⟩ := h
  refine ⟨h1, ?_⟩
  rcases h2 with h2 | ⟨g, cap, cur, rfl, hg1, r⟩
  · exact .inl h2
  · exact .inr ⟨g, cap, cur, rfl, Nat.le_trans hb hg1, r⟩

/-- The row that is made, and whose terms it holds (those of M lie apart, too). -/
structure NR (B : Nat) (L M : List FE) (av : Option Addr) (cv : Nat) (wr : World) : Prop where
  row : wr.ownsRow B 28 3 (.slice av L.length cv) L.length (cs3 (L.map FE.cells))
  fo : Forest wr B (L ++ M)
  ap : ∀ g, (Value.slice av L.length cv).ownBlock = some g → ∀ e ∈ L ++ M, ¬ e.K g

namespace NR
variable {B : Nat} {L M : List FE} {av : Option Addr} {cv : Nat} {wr wr' : World}
theorem on (h : NR B L M av cv wr) (hb : Below wr.heap.size wr wr') : NR B L M av cv wr' := ⟨own_on h.row hb, h.fo.on hb, h.ap⟩
theorem set (h : NR B L M av cv wr) {p : Addr} (u : Value) (hp : p.block < B) : NR B L M av cv (wr.setCell p u) := by
  refine ⟨own_stay h.row (Stay.setCell (S := fun k => k ≠ p.block) _ _ (by simp)) (fun g hg => ?_), h.fo.setCell p u (fun e he hx => by have := ((h.fo.own e he).2.2.2 _ hx).1; omega), h.ap⟩
  have := (h.row.lt g hg).1
  show g ≠ p.block
  omega
theorem rd (h : NR B L M av cv wr) : ∀ i, (hi : i < L.length) → RdK wr wr.heap.size L[i].a L[i].t.kids := fun _ hi => (h.fo.own _ (List.mem_append_left _ (List.getElem_mem hi))).1.rd
/-- Into a new row, by its order. -/
theorem put {e : FE} {g c : Nat} (h : NR B L (e :: M) av cv wr) (hB : B ≤ wr.heap.size) (hb : Below wr.heap.size wr wr') (hrow : wr'.ownsRow wr.heap.size 28 3 (.slice (some ⟨g, 0, none⟩) (L.length + 1) c) (L.length + 1) (cs3 ((putF e L).map FE.cells))) :
    NR B (putF e L) M (some ⟨g, 0, none⟩) c wr' := by
  have hp : (putF e L ++ M).Perm (L ++ e :: M) := ((putF_perm e L).append_right M).trans (by simpa using (List.perm_middle (a := e) (l₁ := L) (l₂ := M)).symm)
  have hlt := hrow.lt g rfl
  refine ⟨by rw [putF_len]; exact own_lower' hrow hB, (h.fo.on hb).perm hp, fun g' hg' d hd => ?_⟩
  have e0 : g = g' := by simpa [Value.ownBlock] using hg'
  subst e0
  intro hx
  have := ((h.fo.own d (hp.subset hd)).2.2.2 _ hx).2
  omega
/-- At the row's end. -/
theorem app {e : FE} {v : Value} (h : NR B L (e :: M) av cv wr) (hg : wr.grownBy wr' (Value.slice av L.length cv).ownBlock) (hrow : wr'.ownsRow B 28 3 v (L.length + 1) (cs3 (L.map FE.cells) ++ [.int .i64 e.t.f, .int .i64 e.t.v, .slice e.a e.t.kids.length e.c])) (hat : v.ownBlock = (Value.slice av L.length cv).ownBlock ∨ v.ownBlock = some wr.heap.size) :
    ∃ g c, v = .slice (some ⟨g, 0, none⟩) (L.length + 1) c ∧ NR B (L ++ [e]) M (some ⟨g, 0, none⟩) c wr' := by
  obtain ⟨g, c, rfl, _⟩ := own_slot hrow
  have hf : Forest wr' B (L ++ e :: M) := by
    refine ⟨fun d hd => ?_, h.fo.dis⟩
    obtain ⟨h1, h2, h3, h4⟩ := h.fo.own d hd
    exact ⟨h1.frame (fun x hx => hg.block x (h4 x hx).2 (fun e => h.ap x e.symm d hd hx)) hg.size, h2, h3, fun x hx => ⟨(h4 x hx).1, Nat.lt_of_lt_of_le (h4 x hx).2 hg.size⟩⟩
  refine ⟨g, c, rfl, ?_, ?_, fun g' hg' d hd hx => ?_⟩
  · have e1 : cs3 ((L ++ [e]).map FE.cells) = cs3 (L.map FE.cells) ++ [.int .i64 e.t.f, .int .i64 e.t.v, .slice e.a e.t.kids.length e.c] := by simp [cs3, FE.cells]
    rw [e1, List.length_append]; exact hrow
  · simpa using hf
  · have e0 : g = g' := by simpa [Value.ownBlock] using hg'
    subst e0
    have hd' : d ∈ L ++ e :: M := by simpa using hd
    rcases hat with q | q
    · exact h.ap g q.symm d hd' hx
    · have : g = wr.heap.size := by simpa [Value.ownBlock] using q
      have := ((h.fo.own d hd').2.2.2 _ hx).2
      omega
end NR
end Go.Proofs.Ytkjlldbgooogdab

/- The specification's Norm: it makes one form of a term, in memory of its own. Conditions: terms of at most 4194304 parts, at most 1048577 functions. -/
namespace Go.Proofs.Ytkjlldbgooogdab
set_option maxRecDepth 100000
open Go.RowKit

theorem fe_snoc (L : List FE) (e : FE) : (L ++ [e]).map FE.t = L.map FE.t ++ [e.t] := by simp

/-- A term that a call has just made is a forest of one. -/
theorem fe_one {w : World} {t : TermD} {a : Option Addr} {c n B : Nat} (h : OwnR w (fun x => n ≤ x ∧ x < w.heap.size) a c t.kids) (hc : t.kids.length ≤ c) (hf : isW t.f) (hv : isW t.v) (hB : B ≤ n) : Forest w B [⟨t, a, c, fun x => n ≤ x ∧ x < w.heap.size⟩] :=
  ⟨fun e he => by simp only [List.mem_singleton] at he; subst he; exact ⟨h, hc, ⟨hf, hv⟩, fun x hx => ⟨by omega, hx.2⟩⟩, by simp⟩

theorem NR.start (w : World) (B : Nat) : NR B [] [] none 0 w := ⟨World.ownsRow_nil w B 28 3, .nil _ _, fun g hg => by cases hg⟩
theorem NR.join {B : Nat} {L : List FE} {av : Option Addr} {cv : Nat} {wr w1 : World} (h : NR B L [] av cv wr) (hb : Below wr.heap.size wr w1) {M : List FE} (hm : Forest w1 B M) (hM : ∀ e ∈ M, ∀ x, e.K x → wr.heap.size ≤ x) : NR B L M av cv w1 := by
  have h1 := h.on hb
  refine ⟨h1.row, (by simpa using h1.fo : Forest w1 B L).append hm (fun e he d hd x hx hy => ?_), fun g hg d hd hx => ?_⟩
  · have := ((h.fo.own e (by simpa using he)).2.2.2 x hx).2
    have := hM d hd x hy
    omega
  · rcases List.mem_append.1 hd with hd | hd
    · exact h.ap g hg d (by simpa using hd) hx
    · have := (h.row.lt g hg).2
      have := hM d hd g hx
      omega

set_option maxHeartbeats 6400000 in
set_option maxRecDepth 100000 in
theorem specNorm_any (ss : List SymD) (sa : Option Addr) (sc : Nat) (hsl : ss.length ≤ 1048577) (N : Nat) : ∀ (t : TermD) (a : Option Addr) (c hi : Nat) (w : World), partsT t ≤ N → N ≤ 4194304 → RdK w hi a t.kids → hi ≤ w.heap.size → isW t.f → isW t.v → RdS w sa ss →
    Calls Try.prog 34 #[.slice sa ss.length sc, .agg #[.int .i64 t.f, .int .i64 t.v, .slice a t.kids.length c]] w fun e w' => ∃ a' c', e = .returned (.agg #[.int .i64 t.f, .int .i64 t.v, .slice a' (normT (blindAt ss) t).kids.length c']) ∧ OwnR w' (fun x => w.heap.size ≤ x ∧ x < w'.heap.size) a' c' (normT (blindAt ss) t).kids ∧ (normT (blindAt ss) t).kids.length ≤ c' ∧ Below w.heap.size w w' := by
  induction N with
  | zero => intro t a c hi w h; rw [partsT_eq] at h; omega
  | succ N ih =>
    intro t a c hi w hN hM hr hhi hfw hvw hrs
    rw [partsT_eq] at hN
    obtain ⟨i0, hi0, hz0, hz1, hz2⟩ := info_parts info29
    have hKk : (normT (blindAt ss) t).kids = normL (blindAt ss) t.f t.kids [] := by rw [normT_eq]; rfl
    rw [hKk]
    clear hKk
    have hlen := partsL_len t.kids
    have HR : Hid (RdK w hi a t.kids) := hr
    have HS : Hid (RdS w sa ss) := hrs
    have BL := fun (w' : World) (h : RdS w' sa ss) => specBlind_any sa ss ss.length sc t.f w' rfl h hsl hfw.1 hfw.2
    have HW : Hid (isW t.f ∧ isW t.v) := ⟨hfw, hvw⟩
    clear hr hrs hfw hvw
    have C0 : NC w t a c (.slice none 0 0) (((w.alloc (.cells #[.int .i64 t.f, .int .i64 t.v, .slice a t.kids.length c] 28)).alloc (.cells #[.int .i64 0, .int .i64 0, .slice none 0 0] 28)).alloc (.cells #[.int .i64 t.f, .int .i64 t.v, .slice none 0 0] 28)) := by
      refine ⟨?_, ?_, ?_, ?_, ?_, ?_, ?_, ?_, fun j => ?_, fun j => ?_, (((Below.refl _ _).alloc (Nat.le_refl _) _).alloc (by simp) _).alloc (by simp; omega) _, ?_⟩
      all_goals simp [go_sem]
    go_enter Try.func34, Try.ntmps34
    go_wp2_with fail
    go_loopw [6] (fun i wr => ∃ (k : Nat) (L : List FE) (av : Option Addr) (cv : Nat), k ≤ t.kids.length ∧ i = .int .i64 k ∧ NC w t a c (.slice av L.length cv) wr ∧ NR (w.heap.size + 1 + 1 + 1) L [] av cv wr ∧ Hid (L.map FE.t = normL (blindAt ss) t.f (t.kids.take k) [])) (fun i _ => t.kids.length - (intOf i).toNat)
    case atStart => exact ⟨0, [], none, 0, Nat.zero_le _, rfl, C0, NR.start _ _, by show _ = _; simp [normL]⟩
    case round =>
      obtain ⟨k, L, av, cv, hk, rfl, C, R, HL⟩ := hrel
      clear C0
      have p0 := C.p0
      have p2 := C.p2
      have hz := C.z
      by_cases hk' : k < t.kids.length
      · obtain ⟨b, off, a', c', rfl, hlt, d0, d1, d2, hkr⟩ := RdK.kid (HR.out.on (C.bel.mono hhi)) hk'
        have hints := HR.out.ints hk'
        have hpg := partsL_get hk'
        have hki : (k : Int) < (t.kids.length : Int) := by omega
        have hki0 : (0 : Int) ≤ (k : Int) := by omega
        have I := ih t.kids[k] a' c' hi wr (by omega) (by omega) hkr (Nat.le_trans hhi C.bel.size) hints.1 hints.2 (HS.out.below C.bel)
        have HLk : Hid (normL (blindAt ss) t.f (t.kids.take (k + 1)) [] = stepN (blindAt ss t.f) t.f (normT (blindAt ss) t.kids[k]) (L.map FE.t)) := by
          show _ = _
          rw [normL_next _ _ hk', HL.out]
        have hLl : L.length ≤ 4194304 := by
          have h1 := normL_parts (blindAt ss) t.f (t.kids.take k) []
          have h2 := partsL_take t.kids k
          have h3 := partsL_len (L.map FE.t)
          rw [HL.out] at h3
          simp [partsL, HL.out.symm] at h1 h3
          omega
        obtain ⟨K1, hK1⟩ : ∃ K1, K1 = normT (blindAt ss) t.kids[k] := ⟨_, rfl⟩
        have HK1f : Hid (K1.f = t.kids[k].f ∧ K1.v = t.kids[k].v ∧ partsT K1 ≤ 4194304) := by
          have h1 := normT_parts (blindAt ss) t.kids[k]
          rw [← hK1] at h1
          refine ⟨by rw [hK1, normT_eq]; rfl, by rw [hK1, normT_eq]; rfl, by omega⟩
        rw [← hK1] at I HLk
        have hK1f := HK1f.out.1
        have hK1v := HK1f.out.2.1
        rw [← hK1f] at d0 I
        rw [← hK1v] at d1 I
        have HKp : Hid (partsT K1 ≤ partsT t.kids[k]) := by show _ ≤ _; rw [hK1]; exact normT_parts _ _
        have HIf : Hid (isW K1.f ∧ isW K1.v) := by show isW K1.f ∧ isW K1.v; rw [hK1f, hK1v]; exact hints
        clear hK1 hkr hints hK1f hK1v
        cases hbl : blindAt ss t.f with
        | false =>
          rw [hbl] at BL HLk
          clear hbl
          go_wp2_with (first
            | (go_at_call 34; refine I.mono ?_; rintro e1 w1 ⟨a1, c1, rfl, o1, hle1, hb1⟩; clear I p0 p2 d0 d1 d2; have C1 := C.on hb1; have R1 := R.join hb1 (fe_one o1 hle1 HIf.out.1 HIf.out.2 (Nat.le_of_lt_succ (by omega))) (fun e he x hx => by simp only [List.mem_singleton] at he; subst he; exact hx.1); have C3 := (C1.on ((Below.refl w1.heap.size w1).alloc (Nat.le_refl _) (.cells #[.int .i64 K1.f, .int .i64 K1.v, .slice a1 K1.kids.length c1] 28))).on ((Below.refl _ _).alloc (Nat.le_refl _) (.cells #[.int .i64 K1.f, .int .i64 K1.v, .slice a1 K1.kids.length c1] 28)); have R3 := (R1.on ((Below.refl w1.heap.size w1).alloc (Nat.le_refl _) (.cells #[.int .i64 K1.f, .int .i64 K1.v, .slice a1 K1.kids.length c1] 28))).on ((Below.refl _ _).alloc (Nat.le_refl _) (.cells #[.int .i64 K1.f, .int .i64 K1.v, .slice a1 K1.kids.length c1] 28)); have p0 := C1.p0; have p2 := C1.p2; have q2 := C1.q2; have y0 := C1.z; have y1 : w.heap.size + 1 < w1.heap.size := (by omega); have y2 : w.heap.size < w1.heap.size := (by omega); clear C R R1 hb1 o1 hz)
            | (go_at_call 33; refine (BL _ ?_).mono ?_; exact (HS.out.below (C1.bel.alloc C1.bel.size _)); rintro e2 w2 ⟨rfl, hw⟩; subst w2)
            | (at_builtin; (refine wpList_append_own_at _ rfl (.tmp 51) (.tmp 53) 26 rfl (w.heap.size + 1 + 1 + 1) 28 i0 _ 3 40 Try.underlying26 hi0 hz0 hz1 hz2 rfl (by decide) _ L.length _ rfl R3.row ⟨w1.heap.size + 1, 0, none⟩ 1 1 _ rfl rfl (three_new _ _ _ _ _ _ (by simp)) (three_cell _ _ _ _ _) (by unfold maxLen; omega) (by omega) (by simp; omega) ?_; intro v4 w4 hown4 hgrow4 hnil4 hat4; clear hnil4; have hg4 : ((w1.alloc (.cells #[.int .i64 K1.f, .int .i64 K1.v, .slice a1 K1.kids.length c1] 28)).alloc (.cells #[.int .i64 K1.f, .int .i64 K1.v, .slice a1 K1.kids.length c1] 28)).grownBy w4 (Value.slice av L.length cv).ownBlock := hgrow4; have hat5 : v4.ownBlock = (Value.slice av L.length cv).ownBlock ∨ v4.ownBlock = some ((w1.alloc (.cells #[.int .i64 K1.f, .int .i64 K1.v, .slice a1 K1.kids.length c1] 28)).alloc (.cells #[.int .i64 K1.f, .int .i64 K1.v, .slice a1 K1.kids.length c1] 28)).heap.size := hat4; have C4 := C3.stay (.grown hg4 (fun k e hk => by have := (R3.row.lt k e).1; omega)); obtain ⟨g4, c4, rfl, R4⟩ := R3.app hg4 hown4 hat5; have q4 := C4.q2; have f4 := C4.fq 2; clear hgrow4 hat4 hg4 hat5 hown4 C3 R3 p0 p2 q2)))
          refine ⟨⟨k + 1, L ++ [⟨K1, a1, c1, fun x => wr.heap.size ≤ x ∧ x < w1.heap.size⟩], some ⟨g4, 0, none⟩, c4, by omega, by go_num, by simpa using C4.set (.slice (some ⟨g4, 0, none⟩) (L.length + 1) c4), R4.set _ (by simp only; omega), ?_⟩, by simp [intOf]; omega⟩
          show _ = _
          rw [fe_snoc, HLk.out]
          simp [stepN]
        | true =>
          rw [hbl] at BL HLk
          clear hbl
          by_cases hkf : K1.f = t.f
          · have hkf' : (K1.f != t.f) = false := by simp [hkf]
            have HLs : Hid (stepN true t.f K1 (L.map FE.t) = K1.kids.foldl (fun o x => putT x o) (L.map FE.t)) := by show _ = _; simp [stepN, hkf]
            clear hkf
            go_wp2_with (first
              | (go_at_call 34; refine I.mono ?_; rintro e1 w1 ⟨a1, c1, rfl, o1, hle1, hb1⟩; clear I p0 p2 d0 d1 d2; have C1 := C.on hb1; obtain ⟨F, hFt, hFf, hFK, hFc⟩ := OwnR.forest (B := w.heap.size + 1 + 1 + 1) o1 (fun x hx => ⟨by omega, hx.2⟩); have R1 := R.join hb1 hFf (fun e he x hx => (hFK e he x hx).1); have hbk : Below w1.heap.size w1 (w1.alloc (.cells #[.int .i64 K1.f, .int .i64 K1.v, .slice a1 K1.kids.length c1] 28)) := ((Below.refl w1.heap.size w1).alloc (Nat.le_refl _) _); have C3 := C1.on hbk; have R3 := R1.on hbk; have p0 := C1.p0; have p2 := C1.p2; have q2 := C1.q2; have y0 := C1.z; have y1 : w.heap.size + 1 < w1.heap.size := (by omega); have y2 : w.heap.size < w1.heap.size := (by omega); have HFc : Hid _ := hFc; have HFt : Hid _ := hFt; clear C R R1 hb1 o1 hFf hFK hFc hFt)
              | (go_at_call 33; refine (BL _ ?_).mono ?_; exact (HS.out.below (C1.bel.alloc C1.bel.size _)); rintro e2 w2 ⟨rfl, hw⟩; subst w2))
            have HB : Hid (partsL (L.map FE.t) + partsL K1.kids ≤ 4194304) := by
              show _ ≤ _
              have h1 := normL_parts (blindAt ss) t.f (t.kids.take k) []
              rw [← HL.out] at h1
              have h2 := partsL_next hk'
              have h3 := partsL_take t.kids (k + 1)
              have h4 := HKp.out
              rw [partsT_eq] at h4
              simp only [partsL] at h1
              omega
            obtain ⟨W1, hW1⟩ : ∃ W1, W1 = w1.alloc (.cells #[.int .i64 K1.f, .int .i64 K1.v, .slice a1 K1.kids.length c1] 28) := ⟨_, rfl⟩
            rw [← hW1] at C3 R3 hbk ⊢
            have kb : W1.cell? ⟨w1.heap.size, 2, none⟩ = some (.slice a1 K1.kids.length c1) := by rw [hW1]; simp [go_sem]
            have hFl : F.length = K1.kids.length := by rw [← HFt.out]; simp
            clear hW1 p0 p2 q2
            go_loopw [8] (fun j wj => ∃ (m : Nat) (Lm : List FE) (av : Option Addr) (cv : Nat), m ≤ F.length ∧ j = .int .i64 m ∧ NC w t (some ⟨b, off, none⟩) c (.slice av Lm.length cv) wj ∧ NR (w.heap.size + 1 + 1 + 1) Lm (F.drop m) av cv wj ∧ Hid (Lm.map FE.t = (K1.kids.take m).foldl (fun o x => putT x o) (L.map FE.t)) ∧ Stay (fun k => k ≠ w.heap.size + 1 + 1) W1 wj) (fun j _ => F.length - (intOf j).toNat)
            case atStart => exact ⟨0, L, av, cv, Nat.zero_le _, rfl, C3, by simpa using R3, by show _ = _; simp, .refl _ _⟩
            case round =>
              obtain ⟨m, Lm, av, cv, hm, rfl, C, R, HLm, hst⟩ := hrel
              clear C3 R3
              have q2 := C.q2
              have kb' := hst.cell kb (by simp only; omega)
              have y3 := C.z
              by_cases hm' : m < F.length
              · have hmi : (m : Int) < (K1.kids.length : Int) := by omega
                have hmi0 : (0 : Int) ≤ (m : Int) := by omega
                have hmb : (m : Int) < 4194304 := by
                  have h1 := partsL_len K1.kids
                  have h2 := HB.out
                  omega
                have hne : K1.kids ≠ [] := fun e => by
                  rw [e] at hFl
                  simp only [List.length_nil] at hFl
                  omega
                obtain ⟨b1, off1, rfl, hSb1, hcl1⟩ := HFc.out.resolve_left hne
                obtain ⟨g0, g1, g2⟩ := hcl1 m hm'
                have hb1n : b1 ≠ w.heap.size + 1 + 1 := by have := hSb1.1; omega
                have g0 := hst.cell (keepC hbk g0) hb1n
                have g1 := hst.cell (keepC hbk g1) hb1n
                have g2 := hst.cell (keepC hbk g2) hb1n
                simp only [FE.cells] at g0 g1 g2
                have hFm : F[m].t = K1.kids[m]'(by omega) := by
                  have : (F.map FE.t)[m]'(by simpa using hm') = K1.kids[m]'(by omega) := by simp only [HFt.out]
                  simpa using this
                have hpm : partsT F[m].t ≤ 4194304 := by
                  rw [hFm]
                  have := partsL_get (ts := K1.kids) (i := m) (by omega)
                  have := HB.out
                  omega
                have hLm : Lm.length ≤ 4194304 := by
                  have h1 := foldP_parts (K1.kids.take m) (L.map FE.t)
                  rw [← HLm.out] at h1
                  have h2 := partsL_len (Lm.map FE.t)
                  have h3 := partsL_take K1.kids m
                  have := HB.out
                  simp at h2
                  omega
                have hdrop : F.drop m = F[m] :: F.drop (m + 1) := List.drop_eq_getElem_cons hm'
                rw [hdrop] at R
                have HLn : Hid ((putF F[m] Lm).map FE.t = (K1.kids.take (m + 1)).foldl (fun o x => putT x o) (L.map FE.t)) := by
                  show _ = _
                  rw [List.take_succ_eq_append_getElem (by omega), List.foldl_append, ← HLm.out, putF_t, hFm]; rfl
                have P := fun (w' : World) (h : Below wr.heap.size wr w') => l4Put_any (w.heap.size + 1 + 1 + 1) av cv Lm F[m] w'.heap.size w' ((R.on h).row) ((R.on h).rd) ((R.on h).fo.own F[m] (List.mem_append_right _ (List.mem_cons_self ..))).1.rd (Nat.le_refl _) hpm hLm
                clear hdrop hne hcl1 hFm
                go_wp2_with fail
                go_region_with (go_at_call 59; refine (P _ ?_).mono ?_; exact (Below.refl _ _).drew; rintro e3 w4 ⟨g4, c4, rfl, hown4, hb4⟩; have hbb : Below wr.heap.size wr w4 := (Below.refl _ _).drew.trans hb4; have C4 := C.on hbb; have R4 := (R.on (Below.refl _ _).drew).put (by simp; omega) hb4 hown4; have q4 := C4.q2; have f4 := C4.fq 2; have hst4 := hst.trans (Stay.of_below hbb (fun _ hk _ => hk)); clear hown4 hb4)
                all_goals
                  go_wp2_with fail
                all_goals exact ⟨⟨m + 1, putF F[m] Lm, some ⟨g4, 0, none⟩, c4, by omega, by go_num, by simpa [putF_len] using C4.set (.slice (some ⟨g4, 0, none⟩) (Lm.length + 1) c4), R4.set _ (by simp only; omega), HLn, hst4.trans (Stay.setCell _ _ (by simp))⟩, by simp [intOf]; omega⟩
              · have E : Hid (m = K1.kids.length) := (by omega : m = K1.kids.length)
                have hnm : ¬ (m : Int) < (K1.kids.length : Int) := by omega
                have R' : NR (w.heap.size + 1 + 1 + 1) Lm [] av cv wr := by
                  have : F.drop m = [] := List.drop_of_length_le (by omega)
                  rwa [this] at R
                go_wp2_with fail
                refine ⟨⟨k + 1, Lm, av, cv, by omega, by go_num, C, R', ?_⟩, by simp [intOf]; omega⟩
                show _ = _
                rw [HLm.out, E.out, List.take_length, HLk.out, HLs.out]
          · have hkf' : (K1.f != t.f) = true := by simp [hkf]
            have HLs : Hid (stepN true t.f K1 (L.map FE.t) = putT K1 (L.map FE.t)) := by show _ = _; simp [stepN, hkf]
            clear hkf
            go_wp2_with (first
              | (go_at_call 34; refine I.mono ?_; rintro e1 w1 ⟨a1, c1, rfl, o1, hle1, hb1⟩; clear I p0 p2 d0 d1 d2; have C1 := C.on hb1; have R1 := R.join hb1 (fe_one o1 hle1 HIf.out.1 HIf.out.2 (Nat.le_of_lt_succ (by omega))) (fun e he x hx => by simp only [List.mem_singleton] at he; subst he; exact hx.1); have hbk : Below w1.heap.size w1 (w1.alloc (.cells #[.int .i64 K1.f, .int .i64 K1.v, .slice a1 K1.kids.length c1] 28)) := ((Below.refl w1.heap.size w1).alloc (Nat.le_refl _) _); have C3 := C1.on hbk; have R3 := R1.on hbk; have p0 := C1.p0; have p2 := C1.p2; have q2 := C1.q2; have y0 := C1.z; have y1 : w.heap.size + 1 < w1.heap.size := (by omega); have y2 : w.heap.size < w1.heap.size := (by omega); clear C R R1 hb1 o1 hz hbk)
              | (go_at_call 33; refine (BL _ ?_).mono ?_; exact (HS.out.below (C1.bel.alloc C1.bel.size _)); rintro e2 w2 ⟨rfl, hw⟩; subst w2)
              | (go_at_call 59; (refine (l4Put_any (w.heap.size + 1 + 1 + 1) av cv L ⟨K1, a1, c1, fun x => wr.heap.size ≤ x ∧ x < w1.heap.size⟩ (w1.heap.size + 1) _ R3.row (by simpa using R3.rd) (by simpa using (R3.fo.own ⟨K1, a1, c1, fun x => wr.heap.size ≤ x ∧ x < w1.heap.size⟩ (by simp)).1.rd) (by simp) HK1f.out.2.2 hLl).mono ?_; rintro e3 w4 ⟨g4, c4, rfl, hown4, hb4⟩; have C4 := C3.on hb4; have R4 := R3.put (by simp; omega) hb4 hown4; have q4 := C4.q2; have f4 := C4.fq 2; clear C3 R3 hown4 hb4 p0 p2 q2)))
            refine ⟨⟨k + 1, putF ⟨K1, a1, c1, fun x => wr.heap.size ≤ x ∧ x < w1.heap.size⟩ L, some ⟨g4, 0, none⟩, c4, by omega, by go_num, by simpa [putF_len] using C4.set (.slice (some ⟨g4, 0, none⟩) (L.length + 1) c4), R4.set _ (by simp only; omega), ?_⟩, by simp [intOf]; omega⟩
            show _ = _
            rw [putF_t, HLk.out, HLs.out]
      · have E : Hid (k = t.kids.length) := (by omega : k = t.kids.length)
        have q0 := C.q0
        have q1 := C.q1
        have q2 := C.q2
        have r0 := C.r0
        have r1 := C.r1
        have r2 := C.r2
        have fr := C.fr
        have hL : Hid (L.map FE.t = normL (blindAt ss) t.f t.kids []) := by
          show _ = _
          rw [HL.out, E.out, List.take_length]
        have hlr : L.length ≤ 9223372036854775807 := by
          have h1 := normL_parts (blindAt ss) t.f t.kids []
          have h3 := partsL_len (L.map FE.t)
          rw [hL.out] at h3
          simp [partsL, hL.out.symm] at h1 h3
          omega
        have O : OwnR wr (fun x => w.heap.size + 1 + 1 + 1 ≤ x ∧ x < wr.heap.size) av cv (L.map FE.t) := by
          rcases R.row.2 with ⟨hv, h0⟩ | ⟨g, cap, _, hv, _⟩
          · have : L = [] := List.length_eq_zero_iff.1 h0
            subst this; cases hv; exact .nil _
          · cases hv
            exact (by simpa using R.fo : Forest wr _ L).owns R.row (fun e he => R.ap g rfl e (by simpa using he)) hlr
        have hcl : L.length ≤ cv := by obtain ⟨_, _, h, hh⟩ := own_form R.row; cases h; exact hh
        have hbel := C.bel
        clear C R HL E ih BL
        go_wp2_with fail
        obtain ⟨z0, z1, z2⟩ := set3_cells (u := wr) (r := w.heap.size + 1) (x := .int .i64 t.f) (y := .int .i64 t.v) (z := .slice av L.length cv) r0 r1 r2
        have hn : ¬ (w.heap.size + 1 + 1 + 1 ≤ w.heap.size + 1 ∧ w.heap.size + 1 < wr.heap.size) := by omega
        have O3 := ((O.setCell ⟨w.heap.size + 1, 0, none⟩ hn (.int .i64 t.f)).setCell ⟨w.heap.size + 1, 1, none⟩ hn (.int .i64 t.v)).setCell ⟨w.heap.size + 1, 2, none⟩ hn (.slice av L.length cv)
        rw [← hL.out, List.length_map]
        refine bodyPost_ret (v := .agg #[.int .i64 t.f, .int .i64 t.v, .slice av L.length cv]) (by simp [results, Try.results34, go_sem, z0, z1, z2]) rfl ⟨av, cv, rfl, O3.mono (fun x hx => ⟨by omega, by simpa using hx.2⟩), hcl, ?_⟩
        exact ((hbel.setCell (p := ⟨w.heap.size + 1, 0, none⟩) (by simp) _).setCell (p := ⟨w.heap.size + 1, 1, none⟩) (by simp) _).setCell (p := ⟨w.heap.size + 1, 2, none⟩) (by simp) _
end Go.Proofs.Ytkjlldbgooogdab

/- What lies in memory while a law on a function that answers a term goes on. Conditions: none. -/
namespace Go.Proofs.Ytkjlldbgooogdab
set_option maxRecDepth 100000
open Go.RowKit

/-- A term in a box of three cells. -/
def Bx3 (W : World) (b : Nat) (f v : Int) (a : Option Addr) (n c : Nat) : Prop := W.cell? ⟨b, 0, none⟩ = some (.int .i64 f) ∧ W.cell? ⟨b, 1, none⟩ = some (.int .i64 v) ∧ W.cell? ⟨b, 2, none⟩ = some (.slice a n c)
theorem Bx3.stay {W W' : World} {b : Nat} {f v : Int} {a : Option Addr} {n c : Nat} {S : Nat → Prop} (h : Bx3 W b f v a n c) (hs : Stay S W W') (hb : S b) : Bx3 W' b f v a n c := ⟨hs.cell h.1 hb, hs.cell h.2.1 hb, hs.cell h.2.2 hb⟩
theorem Bx3.on {W W' : World} {b : Nat} {f v : Int} {a : Option Addr} {n c : Nat} (h : Bx3 W b f v a n c) (hb : Below W.heap.size W W') : Bx3 W' b f v a n c := ⟨keepC hb h.1, keepC hb h.2.1, keepC hb h.2.2⟩
theorem Bx3.lt {W : World} {b : Nat} {f v : Int} {a : Option Addr} {n c : Nat} (h : Bx3 W b f v a n c) : b < W.heap.size := World.block_lt_of_cell? _ _ h.1

/-- The argument's box, and the wanted answer in its box; all below H. -/
structure LP (w : World) (t : TermD) (a : Option Addr) (c : Nat) (N : TermD) (B : Nat) (aw : Option Addr) (cw H : Nat) (W : World) : Prop where
  bel : Below w.heap.size w W
  p : Bx3 W w.heap.size t.f t.v a t.kids.length c
  q : Bx3 W B t.f t.v aw N.kids.length cw
  rd : RdK W H aw N.kids
  hp : w.heap.size < H
  hB : B < H
  z : H ≤ W.heap.size
theorem LP.stay {w : World} {t : TermD} {a : Option Addr} {c : Nat} {N : TermD} {B : Nat} {aw : Option Addr} {cw H : Nat} {W W' : World} (h : LP w t a c N B aw cw H W) (hs : Stay (fun k => k < H) W W') : LP w t a c N B aw cw H W' :=
  have hp := h.hp
  ⟨h.bel.trans (hs.below h.bel.size (fun k hk => by omega)), h.p.stay hs h.hp, h.q.stay hs h.hB, h.rd.on (hs.below h.z (fun _ hk => hk)), h.hp, h.hB, Nat.le_trans h.z hs.size⟩
theorem LP.on {w : World} {t : TermD} {a : Option Addr} {c : Nat} {N : TermD} {B : Nat} {aw : Option Addr} {cw H : Nat} {W W' : World} (h : LP w t a c N B aw cw H W) (hb : Below W.heap.size W W') : LP w t a c N B aw cw H W' := h.stay (.of_below hb (fun _ hk _ => hk))
theorem set3_keep {W : World} {b o B : Nat} {v x y z : Value} (h : W.cell? ⟨b, o, none⟩ = some v) (hne : b ≠ B) : (((W.setCell ⟨B, 0, none⟩ x).setCell ⟨B, 1, none⟩ y).setCell ⟨B, 2, none⟩ z).cell? ⟨b, o, none⟩ = some v := by
  have e : ∀ j, (⟨B, j, none⟩ : Addr) ≠ ⟨b, o, none⟩ := fun j q => hne (by injection q with q1; exact q1.symm)
  rw [World.cell?_setCell_other _ _ _ _ (e 2), World.cell?_setCell_other _ _ _ _ (e 1), World.cell?_setCell_other _ _ _ _ (e 0)]
  exact h
theorem below_step {A X Y : World} (h : Below A.heap.size A X) (k : Below X.heap.size X Y) : Below A.heap.size A Y := h.trans (k.mono h.size)
/-- A new variable's box, still empty. -/
def Bz (W : World) (b : Nat) : Prop := Bx3 W b 0 0 none 0 0 ∧ ∀ j, W.frozen? ⟨b, j, none⟩ = false
theorem Bz.new (W : World) : Bz (W.alloc (.cells #[.int .i64 0, .int .i64 0, .slice none 0 0] 28)) W.heap.size := ⟨⟨by simp, by simp, by simp⟩, fun j => by simp⟩
theorem Bz.on {W W' : World} {b : Nat} (h : Bz W b) (hb : Below W.heap.size W W') : Bz W' b := ⟨h.1.on hb, fun j => (hb.frozen (p := ⟨b, j, none⟩) h.1.lt).trans (h.2 j)⟩
/-- The wanted answer's box made last. -/
theorem LP.last {w W : World} {t N : TermD} {a aw : Option Addr} {c cw : Nat} {S : Nat → Prop} (bel : Below w.heap.size w W) (p : Bx3 W w.heap.size t.f t.v a t.kids.length c) (ho : OwnS W S aw N.kids) : LP w t a c N W.heap.size aw cw (W.alloc (.cells #[.int .i64 t.f, .int .i64 t.v, .slice aw N.kids.length cw] 28)).heap.size (W.alloc (.cells #[.int .i64 t.f, .int .i64 t.v, .slice aw N.kids.length cw] 28)) := by
  have hb := (Below.refl W.heap.size W).alloc (Nat.le_refl _) (.cells #[.int .i64 t.f, .int .i64 t.v, .slice aw N.kids.length cw] 28)
  have hp := p.lt
  exact ⟨bel.trans (hb.mono bel.size), p.on hb, ⟨by simp, by simp, by simp⟩, (ho.rd.on hb).mono (by simp), by simp; omega, by simp, Nat.le_refl _⟩
/-- Or made earlier. -/
theorem LP.early {w W : World} {t N : TermD} {a aw : Option Addr} {c cw B : Nat} {S : Nat → Prop} (bel : Below w.heap.size w W) (p : Bx3 W w.heap.size t.f t.v a t.kids.length c) (ho : OwnS W S aw N.kids) (z : Bz W B) (hS : ¬ S B) (hB : w.heap.size < B) :
    LP w t a c N B aw cw (((W.setCell ⟨B, 0, none⟩ (.int .i64 t.f)).setCell ⟨B, 1, none⟩ (.int .i64 t.v)).setCell ⟨B, 2, none⟩ (.slice aw N.kids.length cw)).heap.size (((W.setCell ⟨B, 0, none⟩ (.int .i64 t.f)).setCell ⟨B, 1, none⟩ (.int .i64 t.v)).setCell ⟨B, 2, none⟩ (.slice aw N.kids.length cw)) := by
  obtain ⟨z0, z1, z2⟩ := set3_cells (u := W) (r := B) (x := .int .i64 t.f) (y := .int .i64 t.v) (z := .slice aw N.kids.length cw) z.1.1 z.1.2.1 z.1.2.2
  have hl := z.1.lt
  have hst : Stay (fun k => k ≠ B) W (((W.setCell ⟨B, 0, none⟩ (.int .i64 t.f)).setCell ⟨B, 1, none⟩ (.int .i64 t.v)).setCell ⟨B, 2, none⟩ (.slice aw N.kids.length cw)) := ((Stay.setCell _ _ (by simp)).trans (.setCell _ _ (by simp))).trans (.setCell _ _ (by simp))
  have ho' := ((ho.setCell ⟨B, 0, none⟩ hS (.int .i64 t.f)).setCell ⟨B, 1, none⟩ hS (.int .i64 t.v)).setCell ⟨B, 2, none⟩ hS (.slice aw N.kids.length cw)
  exact ⟨bel.trans (hst.below bel.size (fun k hk => by omega)), p.stay hst (by omega), ⟨z0, z1, z2⟩, ho'.rd, by have := hst.size; omega, by have := hst.size; omega, Nat.le_refl _⟩
/-- Behind the call: the arguments' copies, the answer in its box. -/
structure LG (w : World) (t : TermD) (a : Option Addr) (c : Nat) (N : TermD) (B6 : Nat) (aw : Option Addr) (cw H : Nat) (ss : List SymD) (G0 g7 B8 : Nat) (y : Option Addr) (B9 : Nat) (ag : Option Addr) (cg : Nat) (W : World) : Prop where
  lp : LP w t a c N B6 aw cw H W
  sy : W.ownsRow G0 64 3 (.slice (some ⟨G0, 0, none⟩) ss.length ss.length) ss.length (symCs ss)
  x : Bx3 W B8 t.f t.v y t.kids.length t.kids.length
  ox : OwnS W (fun k => g7 ≤ k ∧ k < B8) y t.kids
  g : Bx3 W B9 t.f t.v ag N.kids.length cg
  og : OwnS W (fun k => B8 + 1 ≤ k ∧ k < B9) ag N.kids
  h1 : H ≤ G0
  h2 : G0 < g7
  h3 : g7 ≤ B8
  h4 : B8 + 1 ≤ B9
  h5 : B9 < W.heap.size
theorem LG.on {w : World} {t : TermD} {a : Option Addr} {c : Nat} {N : TermD} {B6 : Nat} {aw : Option Addr} {cw H : Nat} {ss : List SymD} {G0 g7 B8 : Nat} {y : Option Addr} {B9 : Nat} {ag : Option Addr} {cg : Nat} {W W' : World} (h : LG w t a c N B6 aw cw H ss G0 g7 B8 y B9 ag cg W) (hb : Below W.heap.size W W') : LG w t a c N B6 aw cw H ss G0 g7 B8 y B9 ag cg W' := by
  have h3 := h.h3
  have h4 := h.h4
  have h5 := h.h5
  exact ⟨h.lp.on hb, own_on h.sy hb, h.x.on hb, h.ox.frame (fun k hk => hb.block k (by omega)) hb.size, h.g.on hb, h.og.frame (fun k hk => hb.block k (by omega)) hb.size, h.h1, h.h2, h.h3, h.h4, Nat.lt_of_lt_of_le h5 hb.size⟩
/-- When the copies may be written over. -/
structure LH (w : World) (t : TermD) (a : Option Addr) (c : Nat) (N : TermD) (B6 : Nat) (aw : Option Addr) (cw H lo B9 : Nat) (ag : Option Addr) (cg : Nat) (W : World) : Prop where
  lp : LP w t a c N B6 aw cw H W
  g : Bx3 W B9 t.f t.v ag N.kids.length cg
  og : OwnS W (fun k => lo ≤ k ∧ k < B9) ag N.kids
  h1 : H ≤ lo
  h4 : lo ≤ B9
  h5 : B9 < W.heap.size
theorem LH.stay {w : World} {t : TermD} {a : Option Addr} {c : Nat} {N : TermD} {B6 : Nat} {aw : Option Addr} {cw H lo B9 : Nat} {ag : Option Addr} {cg : Nat} {W W' : World} (h : LH w t a c N B6 aw cw H lo B9 ag cg W) (hs : Stay (fun k => k < H ∨ lo ≤ k) W W') : LH w t a c N B6 aw cw H lo B9 ag cg W' := by
  have h4 := h.h4
  have h5 := h.h5
  exact ⟨h.lp.stay (hs.weak (fun _ _ hk => .inl hk)), h.g.stay hs (.inr h4), h.og.frame (fun k hk => hs.block k (by omega) (.inr hk.1)) hs.size, h.h1, h.h4, Nat.lt_of_lt_of_le h5 hs.size⟩
theorem LH.on {w : World} {t : TermD} {a : Option Addr} {c : Nat} {N : TermD} {B6 : Nat} {aw : Option Addr} {cw H lo B9 : Nat} {ag : Option Addr} {cg : Nat} {W W' : World} (h : LH w t a c N B6 aw cw H lo B9 ag cg W) (hb : Below W.heap.size W W') : LH w t a c N B6 aw cw H lo B9 ag cg W' := h.stay (.of_below hb (fun _ hk _ => hk))
/-- When the answer bears marks. -/
structure LM (w : World) (t : TermD) (a : Option Addr) (c : Nat) (N : TermD) (B6 : Nat) (aw : Option Addr) (cw H lo B9 : Nat) (ag : Option Addr) (cg : Nat) (W : World) : Prop where
  lp : LP w t a c N B6 aw cw H W
  g : Bx3 W B9 t.f t.v ag N.kids.length cg
  og : Mk W (fun k => lo ≤ k ∧ k < B9) ag N.kids 1
  h5 : B9 < W.heap.size
theorem LM.on {w : World} {t : TermD} {a : Option Addr} {c : Nat} {N : TermD} {B6 : Nat} {aw : Option Addr} {cw H lo B9 : Nat} {ag : Option Addr} {cg : Nat} {W W' : World} (h : LM w t a c N B6 aw cw H lo B9 ag cg W) (hb : Below W.heap.size W W') : LM w t a c N B6 aw cw H lo B9 ag cg W' := by
  have h5 := h.h5
  exact ⟨h.lp.on hb, h.g.on hb, h.og.frame (fun k hk => hb.block k (by omega)), Nat.lt_of_lt_of_le h5 hb.size⟩
theorem only_stay {S T : Nat → Prop} {W W0 W' : World} (hb : Below W.heap.size W W0) (ho : Only S W0 W') (hs : ∀ k, k < W.heap.size → T k → ¬ S k) : Stay T W W' :=
  ⟨ho.os.trans hb.os, ho.tape.trans hb.tape, ho.output.trans hb.output, by rw [ho.size]; exact hb.size, fun k hk ht => (ho.block k (hs k hk ht)).trans (hb.block k hk)⟩
theorem LH.marked {w : World} {t : TermD} {a : Option Addr} {c : Nat} {N : TermD} {B6 : Nat} {aw : Option Addr} {cw H lo B9 : Nat} {ag : Option Addr} {cg : Nat} {W W0 W' : World} (h : LH w t a c N B6 aw cw H lo B9 ag cg W) (hb : Below W.heap.size W W0) (ho : Only (fun k => lo ≤ k ∧ k < B9) W0 W') (hm : Mk W' (fun k => lo ≤ k ∧ k < B9) ag N.kids 1) : LM w t a c N B6 aw cw H lo B9 ag cg W' := by
  have h1 := h.h1
  have h5 := h.h5
  have hs : Stay (fun k => k < H ∨ k = B9) W W' := only_stay hb ho (fun k _ hk q => by omega)
  exact ⟨h.lp.stay (hs.weak (fun _ _ hk => .inl hk)), h.g.stay hs (.inr rfl), hm, Nat.lt_of_lt_of_le h5 hs.size⟩
theorem lg_start {w wc w7 w8 w9 : World} {t N : TermD} {a aw y1 ag : Option Addr} {c B6 cw H cg : Nat} {ss : List SymD} (L8 : LP w t a c N B6 aw cw H w8) (o8 : w8.ownsRow wc.heap.size 64 3 (.slice (some ⟨wc.heap.size, 0, none⟩) ss.length ss.length) ss.length (symCs ss)) (ho8 : OwnS w8 (fun k => w7.heap.size ≤ k ∧ k < w8.heap.size) y1 t.kids)
    (hbx : Below w8.heap.size w8 (w8.alloc (.cells #[.int .i64 t.f, .int .i64 t.v, .slice y1 t.kids.length t.kids.length] 28))) (ho9 : OwnS w9 (fun k => (w8.alloc (.cells #[.int .i64 t.f, .int .i64 t.v, .slice y1 t.kids.length t.kids.length] 28)).heap.size ≤ k ∧ k < w9.heap.size) ag N.kids) (hb0 : Below (w8.alloc (.cells #[.int .i64 t.f, .int .i64 t.v, .slice y1 t.kids.length t.kids.length] 28)).heap.size (w8.alloc (.cells #[.int .i64 t.f, .int .i64 t.v, .slice y1 t.kids.length t.kids.length] 28)) w9) (hw6 : H ≤ wc.heap.size) (h67 : wc.heap.size < w7.heap.size) (h78 : w7.heap.size ≤ w8.heap.size) :
    LG w t a c N B6 aw cw H ss wc.heap.size w7.heap.size w8.heap.size y1 w9.heap.size ag cg (w9.alloc (.cells #[.int .i64 t.f, .int .i64 t.v, .slice ag N.kids.length cg] 28)) := by
  have hb9 : Below w9.heap.size w9 (w9.alloc (.cells #[.int .i64 t.f, .int .i64 t.v, .slice ag N.kids.length cg] 28)) := (Below.refl _ _).alloc (Nat.le_refl _) _
  have h1 : Below w8.heap.size w8 w9 := hbx.trans (hb0.mono hbx.size)
  have h2 : Below w8.heap.size w8 (w9.alloc (.cells #[.int .i64 t.f, .int .i64 t.v, .slice ag N.kids.length cg] 28)) := h1.trans (hb9.mono h1.size)
  have hx : Bx3 (w8.alloc (.cells #[.int .i64 t.f, .int .i64 t.v, .slice y1 t.kids.length t.kids.length] 28)) w8.heap.size t.f t.v y1 t.kids.length t.kids.length := ⟨by simp, by simp, by simp⟩
  have hs0 := hb0.size
  simp only [World.size_alloc] at hs0 ho9
  exact ⟨L8.on h2, own_on o8 h2, (hx.on hb0).on hb9, ho8.frame (fun k hk => h2.block k hk.2) h2.size, ⟨by simp, by simp, by simp⟩, ho9.frame (fun k hk => hb9.block k hk.2) hb9.size, hw6, h67, h78, by omega, by simp⟩
theorem LG.h {w : World} {t : TermD} {a : Option Addr} {c : Nat} {N : TermD} {B6 : Nat} {aw : Option Addr} {cw H : Nat} {ss : List SymD} {G0 g7 B8 : Nat} {y : Option Addr} {B9 : Nat} {ag : Option Addr} {cg : Nat} {W W' : World} (h : LG w t a c N B6 aw cw H ss G0 g7 B8 y B9 ag cg W) (hs : Stay (fun k => k ≠ G0) W W') :
    LH w t a c N B6 aw cw H (B8 + 1) B9 ag cg W' ∧ OwnS W' (fun k => g7 ≤ k ∧ k < B8) y t.kids ∧ Bx3 W' B8 t.f t.v y t.kids.length t.kids.length := by
  have h1 := h.h1
  have h2 := h.h2
  have h3 := h.h3
  have h4 := h.h4
  have h5 := h.h5
  have L : LH w t a c N B6 aw cw H (B8 + 1) B9 ag cg W := ⟨h.lp, h.g, h.og, by omega, h.h4, h.h5⟩
  exact ⟨L.stay (hs.weak (fun k _ hk => by omega)), h.ox.frame (fun k hk => hs.block k (by omega) (by omega)) hs.size, h.x.stay hs (by omega)⟩
theorem LM.last {w : World} {t : TermD} {a : Option Addr} {c : Nat} {N : TermD} {B6 : Nat} {aw : Option Addr} {cw H lo B9 : Nat} {ag : Option Addr} {cg : Nat} {W : World} {S : Nat → Prop} {ah : Option Addr} {ch : Nat} (h : LM w t a c N B6 aw cw H lo B9 ag cg W) (ho : OwnS W S ah N.kids) : LM w t a c N B6 aw cw H lo B9 ag cg (W.alloc (.cells #[.int .i64 t.f, .int .i64 t.v, .slice ah N.kids.length ch] 28)) ∧ Bx3 (W.alloc (.cells #[.int .i64 t.f, .int .i64 t.v, .slice ah N.kids.length ch] 28)) W.heap.size t.f t.v ah N.kids.length ch ∧ RdK (W.alloc (.cells #[.int .i64 t.f, .int .i64 t.v, .slice ah N.kids.length ch] 28)) (W.alloc (.cells #[.int .i64 t.f, .int .i64 t.v, .slice ah N.kids.length ch] 28)).heap.size ah N.kids := by
  have hb : Below W.heap.size W (W.alloc (.cells #[.int .i64 t.f, .int .i64 t.v, .slice ah N.kids.length ch] 28)) := (Below.refl _ _).alloc (Nat.le_refl _) _
  exact ⟨h.on hb, ⟨by simp, by simp, by simp⟩, (ho.rd.on hb).mono hb.size⟩
theorem LM.early {w : World} {t : TermD} {a : Option Addr} {c : Nat} {N : TermD} {B6 : Nat} {aw : Option Addr} {cw H lo B9 : Nat} {ag : Option Addr} {cg : Nat} {W : World} {S : Nat → Prop} {ah : Option Addr} {ch : Nat} {B : Nat} (h : LM w t a c N B6 aw cw H lo B9 ag cg W) (ho : OwnS W S ah N.kids) (z : Bz W B) (hS : ¬ S B) (hH : H ≤ B) (hB : B9 < B) : LM w t a c N B6 aw cw H lo B9 ag cg (((W.setCell ⟨B, 0, none⟩ (.int .i64 t.f)).setCell ⟨B, 1, none⟩ (.int .i64 t.v)).setCell ⟨B, 2, none⟩ (.slice ah N.kids.length ch)) ∧ Bx3 (((W.setCell ⟨B, 0, none⟩ (.int .i64 t.f)).setCell ⟨B, 1, none⟩ (.int .i64 t.v)).setCell ⟨B, 2, none⟩ (.slice ah N.kids.length ch)) B t.f t.v ah N.kids.length ch ∧ RdK (((W.setCell ⟨B, 0, none⟩ (.int .i64 t.f)).setCell ⟨B, 1, none⟩ (.int .i64 t.v)).setCell ⟨B, 2, none⟩ (.slice ah N.kids.length ch)) (((W.setCell ⟨B, 0, none⟩ (.int .i64 t.f)).setCell ⟨B, 1, none⟩ (.int .i64 t.v)).setCell ⟨B, 2, none⟩ (.slice ah N.kids.length ch)).heap.size ah N.kids := by
  obtain ⟨z0, z1, z2⟩ := set3_cells (u := W) (r := B) (x := .int .i64 t.f) (y := .int .i64 t.v) (z := .slice ah N.kids.length ch) z.1.1 z.1.2.1 z.1.2.2
  have hst : Stay (fun k => k ≠ B) W (((W.setCell ⟨B, 0, none⟩ (.int .i64 t.f)).setCell ⟨B, 1, none⟩ (.int .i64 t.v)).setCell ⟨B, 2, none⟩ (.slice ah N.kids.length ch)) := ((Stay.setCell _ _ (by simp)).trans (.setCell _ _ (by simp))).trans (.setCell _ _ (by simp))
  have ho' := ((ho.setCell ⟨B, 0, none⟩ hS (.int .i64 t.f)).setCell ⟨B, 1, none⟩ hS (.int .i64 t.v)).setCell ⟨B, 2, none⟩ hS (.slice ah N.kids.length ch)
  have h5 := h.h5
  exact ⟨⟨h.lp.stay (hst.weak (fun k _ hk => by omega)), h.g.stay hst (by omega), h.og.frame (fun k hk => hst.block k (by omega) (by omega)), Nat.lt_of_lt_of_le h5 hst.size⟩, ⟨z0, z1, z2⟩, ho'.rd⟩
end Go.Proofs.Ytkjlldbgooogdab

