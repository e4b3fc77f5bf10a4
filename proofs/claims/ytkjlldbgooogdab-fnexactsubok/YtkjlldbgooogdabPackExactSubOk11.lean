/- What the proof of FnExactSubOk stands on, part 11 of 12: each piece says what it proves and under which conditions. Conditions: as each piece says. -/
import Derived.Test.YtkjlldbgooogdabPackExactSubOk10
import Derived.Test.YtkjlldbgooogdabProg
import Derived.Deep.QuietTactic
import Derived.BigQuiet
/- Contracts of the laws' marks on a term that owns its memory: nothing else is written. Conditions: terms of at most 4194304 parts. -/
namespace Go.Proofs.Ytkjlldbgooogdab
set_option maxRecDepth 100000
open Go.RowKit

/-- Between two worlds only blocks of S have turned. -/
structure Only (S : Nat → Prop) (w w' : World) : Prop where
  os : w'.os = w.os
  tape : w'.tape = w.tape
  output : w'.output = w.output
  size : w'.heap.size = w.heap.size
  block : ∀ x, ¬ S x → w'.heap[x]? = w.heap[x]?

theorem Only.refl (S : Nat → Prop) (w : World) : Only S w w := ⟨rfl, rfl, rfl, rfl, fun _ _ => rfl⟩
theorem Only.trans {S : Nat → Prop} {a b c : World} (h : Only S a b) (k : Only S b c) : Only S a c := ⟨k.os.trans h.os, k.tape.trans h.tape, k.output.trans h.output, k.size.trans h.size, fun x hx => (k.block x hx).trans (h.block x hx)⟩
theorem Only.mono {S S' : Nat → Prop} {a b : World} (h : Only S a b) (hs : ∀ x, S x → S' x) : Only S' a b := ⟨h.os, h.tape, h.output, h.size, fun x hx => h.block x (fun k => hx (hs x k))⟩
theorem Only.setCell {S : Nat → Prop} {a b : World} (h : Only S a b) (p : Addr) (hp : S p.block) (u : Value) : Only S a (b.setCell p u) :=
  ⟨h.os, by simp [h.tape], h.output, by simp [h.size], fun x hx => (Below.heap_setCell b p u x (fun e => hx (e ▸ hp))).trans (h.block x hx)⟩
theorem Only.below {S : Nat → Prop} {a b : World} {B : Nat} (h : Only S a b) (hs : ∀ x, S x → B ≤ x) : Below B a b := ⟨h.os, h.tape, h.output, Nat.le_of_eq h.size.symm, fun x hx => h.block x (fun k => by have := hs x k; omega)⟩
theorem Only.cell {S : Nat → Prop} {a b : World} (h : Only S a b) {p : Addr} (hp : ¬ S p.block) : b.cell? p = a.cell? p := World.cell?_of_block (h.block _ hp)
theorem Only.frozen {S : Nat → Prop} {a b : World} (h : Only S a b) {p : Addr} (hp : ¬ S p.block) : b.frozen? p = a.frozen? p := World.frozen?_of_block (h.block _ hp)

theorem rt_mark {a b : Int} (h : a = b) : Ending.returned (.int .i64 a) = .returned (.int .i64 b) := by rw [h]

/-- What is still to be marked of a row of terms. -/
structure MarkSt (wr : World) (S : Nat → Prop) (b off : Nat) (ts : List TermD) (A : Nat → Option Addr) (C : Nat → Nat) (K : Nat → Nat → Prop) (k : Nat) : Prop where
  cells : ∀ i, (h : i < ts.length) → k ≤ i → wr.cell? ⟨b, off + i * 3, none⟩ = some (.int .i64 ts[i].f) ∧ wr.cell? ⟨b, off + i * 3 + 1, none⟩ = some (.int .i64 ts[i].v) ∧ wr.cell? ⟨b, off + i * 3 + 2, none⟩ = some (.slice (A i) ts[i].kids.length (C i))
  frozen : ∀ j, wr.frozen? ⟨b, j, none⟩ = false
  kid : ∀ i, (h : i < ts.length) → k ≤ i → OwnS wr (K i) (A i) ts[i].kids

theorem MarkSt.next {wr w1 : World} {S : Nat → Prop} {b off : Nat} {ts : List TermD} {A : Nat → Option Addr} {C : Nat → Nat} {K : Nat → Nat → Prop} {k : Nat} (h : MarkSt wr S b off ts A C K k) (hk : k < ts.length)
    (hsub : ∀ i x, i < ts.length → K i x → S x ∧ x ≠ b) (hdis : ∀ i j x, i < ts.length → j < ts.length → i ≠ j → K i x → ¬ K j x) (x y : Value)
    (ho : Only (K k) ((wr.setCell ⟨b, off + k * 3, none⟩ x).setCell ⟨b, off + k * 3 + 1, none⟩ y) w1) : MarkSt w1 S b off ts A C K (k + 1) := by
  have hkb : ¬ K k b := fun e => (hsub k b hk e).2 rfl
  refine ⟨fun i hi hki => ?_, fun j => ?_, fun i hi hki => ?_⟩
  · obtain ⟨c0, c1, c2⟩ := h.cells i hi (by omega)
    have d : ∀ o v, (off + k * 3 ≠ o) → (off + k * 3 + 1 ≠ o) → wr.cell? ⟨b, o, none⟩ = some v → w1.cell? ⟨b, o, none⟩ = some v := by
      intro o v h1 h2 hv
      rw [ho.cell (p := ⟨b, o, none⟩) hkb, World.cell?_setCell_other _ _ _ _ (fun e => h2 (by injection e)), World.cell?_setCell_other _ _ _ _ (fun e => h1 (by injection e))]
      exact hv
    exact ⟨d _ _ (by omega) (by omega) c0, d _ _ (by omega) (by omega) c1, d _ _ (by omega) (by omega) c2⟩
  · rw [ho.frozen (p := ⟨b, j, none⟩) hkb]
    simp only [World.frozen?_setCell]
    exact h.frozen j
  · have hib : ¬ K i b := fun e => (hsub i b hi e).2 rfl
    have o := ((h.kid i hi (by omega)).setCell ⟨b, off + k * 3, none⟩ hib x).setCell ⟨b, off + k * 3 + 1, none⟩ hib y
    exact o.frame (fun z hz => ho.block z (fun e => hdis i k z hi hk (by omega) hz e)) (Nat.le_of_eq ho.size.symm)

set_option maxHeartbeats 1600000 in
theorem markTermS_any (N : Nat) : ∀ (ts : List TermD) (a : Option Addr) (c : Nat) (m : Int) (S : Nat → Prop) (w : World), partsL ts ≤ N → N ≤ 4194304 → 0 ≤ m → m + 2 * partsL ts ≤ 1000000000000 → OwnS w S a ts →
    Calls Try.prog 17 #[.slice a ts.length c, .int .i64 m] w fun e w' => e = .returned (.int .i64 (m + 2 * partsL ts)) ∧ Only S w w' := by
  induction N with
  | zero =>
    intro ts a c m S w hN hM hm0 hm ho
    have h1 := partsL_len ts
    have : ts = [] := List.length_eq_zero_iff.1 (by omega)
    subst this
    go_enter Try.func17, Try.ntmps17
    go_wp2_with fail
    refine wp_loop_rounds 1 ?_
    rw [rounds_succ]
    go_wp2_with fail
    go_ret
    exact ⟨by simp [partsL], Only.refl _ _⟩
  | succ N ih =>
    intro ts a c m S w hN hM hm0 hm ho
    have hlen := partsL_len ts
    cases ho with
    | nil S a =>
      go_enter Try.func17, Try.ntmps17
      go_wp2_with fail
      refine wp_loop_rounds 1 ?_
      rw [rounds_succ]
      go_wp2_with fail
      go_ret
      exact ⟨by simp [partsL], Only.refl _ _⟩
    | row S b off ts A C K hb hlt hl hz hc hf hsub hdis hk =>
      have M0 : MarkSt w S b off ts A C K 0 := ⟨fun i h _ => hc i h, hf, fun i h _ => hk i h⟩
      clear hc hf hk hz
      go_enter Try.func17, Try.ntmps17
      go_wp2_with fail
      go_loopw [1, 5] (fun l i wr => ∃ k : Nat, k ≤ ts.length ∧ i = .int .i64 k ∧ l = .int .i64 (m + 2 * partsL (ts.take k)) ∧ MarkSt wr S b off ts A C K k ∧ Only S w wr) (fun _ i _ => ts.length - (intOf i).toNat)
      case atStart => exact ⟨0, Nat.zero_le _, rfl, by simp [partsL], M0, Only.refl _ _⟩
      case round =>
        obtain ⟨k, hk, rfl, rfl, M, O⟩ := hrel
        clear M0
        have hpk := partsL_take ts k
        by_cases hk' : k < ts.length
        · obtain ⟨c0, c1, c2⟩ := M.cells k hk' (Nat.le_refl _)
          have hpg := partsL_get hk'
          have hpt := partsT_eq ts[k]
          have hpn := partsL_next hk'
          have hpk2 := partsL_take ts (k + 1)
          have hki : (k : Int) < (ts.length : Int) := by omega
          have hkb : ¬ K k b := fun e => (hsub k b hk' e).2 rfl
          have f0 := M.frozen (off + k * 3)
          have f1 := M.frozen (off + k * 3 + 1)
          obtain ⟨W, hW⟩ : ∃ W, W = (wr.setCell ⟨b, off + k * 3, none⟩ (.int .i64 (m + 2 * partsL (ts.take k)))).setCell ⟨b, off + k * 3 + 1, none⟩ (.int .i64 (m + 2 * partsL (ts.take k) + 1)) := ⟨_, rfl⟩
          have e1 : (wr.setCell ⟨b, off + k * 3, none⟩ (.int .i64 (m + 2 * partsL (ts.take k)))).cell? ⟨b, off + k * 3 + 1, none⟩ = some (.int .i64 ts[k].v) := by rw [World.cell?_setCell_other _ _ _ _ (by simp)]; exact c1
          have e2 : ((wr.setCell ⟨b, off + k * 3, none⟩ (.int .i64 (m + 2 * partsL (ts.take k)))).setCell ⟨b, off + k * 3 + 1, none⟩ (.int .i64 (m + 2 * partsL (ts.take k) + 1))).cell? ⟨b, off + k * 3 + 2, none⟩ = some (.slice (A k) ts[k].kids.length (C k)) := by rw [World.cell?_setCell_other _ _ _ _ (by simp), World.cell?_setCell_other _ _ _ _ (by simp)]; exact c2
          have oK : OwnS W (K k) (A k) ts[k].kids := by rw [hW]; exact ((M.kid k hk' (Nat.le_refl _)).setCell ⟨b, off + k * 3, none⟩ hkb _).setCell ⟨b, off + k * 3 + 1, none⟩ hkb _
          have O2 : Only S w W := by rw [hW]; exact (O.setCell ⟨b, off + k * 3, none⟩ hb _).setCell ⟨b, off + k * 3 + 1, none⟩ hb _
          have I := ih ts[k].kids (A k) (C k) (m + 2 * partsL (ts.take k) + 1 + 1) (K k) W (by omega) (by omega) (by omega) (by omega) oK
          have NX : ∀ w1, Only (K k) W w1 → MarkSt w1 S b off ts A C K (k + 1) := fun w1 h => M.next hk' hsub hdis _ _ (hW ▸ h)
          have HE : Hid (m + 2 * (partsL (ts.take k) : Int) + 1 + 1 + 2 * partsL ts[k].kids = m + 2 * partsL (ts.take (k + 1))) := by show _ = _; omega
          have hsubk : ∀ x, K k x → S x := fun x hx => (hsub k x hk' hx).1
          clear M hpt hpn oK
          go_wp2_with (go_at_call 17; rw [← hW]; refine I.mono ?_; rintro e w1 ⟨rfl, h1⟩; have M1 := NX _ h1; have O3 := O2.trans (h1.mono hsubk); clear I NX h1 O2 hW)
          go_roundw
          case rel => exact ⟨k + 1, by omega, by go_num, by rw [← HE.out], M1, O3⟩
          case measure => simp [intOf]; omega
        · have E : Hid (k = ts.length) := (by omega : k = ts.length)
          go_wp2_with fail
          go_ret
          refine ⟨rt_mark ?_, O⟩
          rw [E.out, List.take_length]

set_option maxHeartbeats 800000 in
theorem markTerm_any (t : TermD) (a : Option Addr) (c : Nat) (m : Int) (S : Nat → Prop) (w : World) (hp : partsT t ≤ 4194304) (hm0 : 0 ≤ m) (hm : m ≤ 1000000000) (ho : OwnS w S a t.kids) (hs : ∀ x, S x → x < w.heap.size) :
    Calls Try.prog 18 #[.agg #[.int .i64 t.f, .int .i64 t.v, .slice a t.kids.length c], .int .i64 m] w fun e w' => e = .returned (.int .i64 (m + 2 * partsL t.kids)) ∧ ∃ w0, Below w.heap.size w w0 ∧ Only S w0 w' := by
  rw [partsT_eq] at hp
  have h0 : Below w.heap.size w (w.alloc (.cells #[.int .i64 t.f, .int .i64 t.v, .slice a t.kids.length c] 28)) := (Below.refl w.heap.size w).alloc (Nat.le_refl _) _
  have o1 : OwnS (w.alloc (.cells #[.int .i64 t.f, .int .i64 t.v, .slice a t.kids.length c] 28)) S a t.kids := ho.frame (fun x hx => h0.block x (hs x hx)) h0.size
  have I := markTermS_any (partsL t.kids) t.kids a c m S _ (Nat.le_refl _) (by omega) hm0 (by omega) o1
  generalize t.kids = ks at *
  go_enter Try.func18, Try.ntmps18
  go_wp2_with (go_at_call 17; refine I.mono ?_; rintro e w1 ⟨rfl, h1⟩; clear I)
  go_ret
  exact ⟨rfl, _, h0, h1⟩
end Go.Proofs.Ytkjlldbgooogdab

/- What lies in memory while the law on a term's variables goes on; marks on lists of numbers that may be nil. Conditions: at most 1048577 numbers. -/
namespace Go.Proofs.Ytkjlldbgooogdab
set_option maxRecDepth 100000
open Go.RowKit

theorem Rd.ownV {w : World} {base : Nat} {av : Option Addr} {n cap : Nat} {zs : List Int} (hn : n = zs.length) (h : w.ownsRow base 3 1 (.slice av n cap) n (ints zs)) : Rd w av zs := by
  rcases h.2 with ⟨_, h0⟩ | ⟨g, c, cur, hv, _⟩
  · exact .inl (List.length_eq_zero_iff.1 (by omega))
  · cases hv
    exact Rd.own hn h

/-- The middle of the law. -/
structure LSt (w : World) (t : TermD) (a : Option Addr) (c L1 L2 gW cW : Nat) (ag : Option Addr) (cg : Nat) (V G : List Int) (W : World) : Prop where
  bel : Below w.heap.size w W
  p0 : W.cell? ⟨w.heap.size, 0, none⟩ = some (.int .i64 t.f)
  p1 : W.cell? ⟨w.heap.size, 1, none⟩ = some (.int .i64 t.v)
  p2 : W.cell? ⟨w.heap.size, 2, none⟩ = some (.slice a t.kids.length c)
  rW : W.ownsRow (w.heap.size + 1) 3 1 (.slice (some ⟨gW, 0, none⟩) V.length cW) V.length (ints V)
  rG : W.ownsRow (L2 + 1) 3 1 (.slice ag V.length cg) V.length (ints G)
  gw : gW < L1
  lo : w.heap.size < L1
  l12 : L1 ≤ L2
  hi : L2 < W.heap.size

namespace LSt
variable {w : World} {t : TermD} {a : Option Addr} {c L1 L2 gW cW : Nat} {ag : Option Addr} {cg : Nat} {V G : List Int} {W W' : World}
theorem on (h : LSt w t a c L1 L2 gW cW ag cg V G W) (hb : Below W.heap.size W W') : LSt w t a c L1 L2 gW cW ag cg V G W' :=
  ⟨h.bel.trans (hb.mono h.bel.size), keepC hb h.p0, keepC hb h.p1, keepC hb h.p2, own_on h.rW hb, own_on h.rG hb, h.gw, h.lo, h.l12, Nat.lt_of_lt_of_le h.hi hb.size⟩
theorem draw (h : LSt w t a c L1 L2 gW cW ag cg V G W) (q : Nat) : LSt w t a c L1 L2 gW cW ag cg V G (W.drewN q) := h.on (below_drewN (Below.refl _ _) q)
theorem rdW (h : LSt w t a c L1 L2 gW cW ag cg V G W) : Rd W (some ⟨gW, 0, none⟩) V := Rd.own rfl h.rW
theorem rdG (h : LSt w t a c L1 L2 gW cW ag cg V V W) : Rd W ag V := Rd.ownV rfl h.rG
theorem rdM (h : LSt w t a c L1 L2 gW cW ag cg V (upFrom 1 V.length) W) : Rd W ag (upFrom 1 V.length) := Rd.ownV (upFrom_len _ _).symm h.rG
theorem stay {S : Nat → Prop} (h : LSt w t a c L1 L2 gW cW ag cg V G W) (hs : Stay S W W') (h1 : ∀ k, k < L1 → S k) (h2 : ∀ k, L2 < k → S k) : LSt w t a c L1 L2 gW cW ag cg V G W' := by
  have hlo := h.lo
  refine ⟨h.bel.trans (hs.below h.bel.size (fun k hk => h1 k (by omega))), hs.cell h.p0 (h1 _ hlo), hs.cell h.p1 (h1 _ hlo), hs.cell h.p2 (h1 _ hlo), own_stay h.rW hs (fun g hg => ?_), own_stay h.rG hs (fun g hg => h2 g (h.rG.lt g hg).1), h.gw, hlo, h.l12, Nat.lt_of_lt_of_le h.hi hs.size⟩
  have e : gW = g := by simpa [Value.ownBlock] using hg
  exact h1 g (e ▸ h.gw)
/-- The copy's own blocks are written. -/
theorem markX {w0 : World} (h : LSt w t a c L1 L2 gW cW ag cg V G W) (hb : Below W.heap.size W w0) (ho : Only (fun x => L1 ≤ x ∧ x < L2) w0 W') : LSt w t a c L1 L2 gW cW ag cg V G W' :=
  (h.on hb).stay (S := fun x => ¬ (L1 ≤ x ∧ x < L2)) ⟨ho.os, ho.tape, ho.output, Nat.le_of_eq ho.size.symm, fun k _ hk => ho.block k hk⟩ (fun k hk => by omega) (fun k hk => by omega)
/-- The answer's numbers are written. -/
theorem markG {G' : List Int} (h : LSt w t a c L1 L2 gW cW ag cg V G W) (ho : W'.ownsRow (L2 + 1) 3 1 (.slice ag V.length cg) V.length (ints G')) (hg : W.grownBy W' (Value.slice ag V.length cg).ownBlock) : LSt w t a c L1 L2 gW cW ag cg V G' W' := by
  have hlo := h.lo
  have hl := h.l12
  have hgw := h.gw
  have hs : Stay (fun k => k < L1) W W' := .grown hg (fun k e hk => by have := (h.rG.lt k e).1; omega)
  refine ⟨h.bel.trans (hs.below h.bel.size (fun k hk => by omega)), hs.cell h.p0 hlo, hs.cell h.p1 hlo, hs.cell h.p2 hlo, own_stay h.rW hs (fun g hg => ?_), ho, hgw, hlo, hl, Nat.lt_of_lt_of_le h.hi hs.size⟩
  have e : gW = g := by simpa [Value.ownBlock] using hg
  omega
end LSt
end Go.Proofs.Ytkjlldbgooogdab

/- The variables of a term stand in it once at least, and not more often together than it has parts. Conditions: none. -/
namespace Go.Proofs.Ytkjlldbgooogdab
set_option maxRecDepth 100000
open Go.RowKit

mutual
theorem cnt_pre (v : Int) : ∀ t : TermD, cntT v t = (vl (preT t)).count v
  | .mk f u ks => by
    have h := cnt_preL v ks
    rw [cntT, preT, h]
    by_cases hf : f = -1
    · by_cases hu : u = v
      · simp [vl, hf, hu, TermD.f, TermD.v]; omega
      · simp [vl, hf, hu, TermD.f, TermD.v]
    · simp [vl, hf, TermD.f]
theorem cnt_preL (v : Int) : ∀ ts : List TermD, cntL v ts = (vl (preL ts)).count v
  | [] => by simp [cntL, preL, vl]
  | t :: ts => by rw [cntL, preL, vl_append, List.count_append, cnt_pre v t, cnt_preL v ts]
end
theorem vars_mem (t : TermD) (v : Int) : v ∈ varsT t [] ↔ v ∈ vl (preT t) := by
  rw [vl_pre]
  simpa using (fold_ss (vl (preT t)) [] .nil).2 v
theorem vars_up (t : TermD) : (varsT t []).Pairwise (· < ·) := by
  rw [vl_pre]
  exact (fold_ss (vl (preT t)) [] .nil).1
theorem vars_cnt {t : TermD} {v : Int} (h : v ∈ varsT t []) : 1 ≤ cntT v t := by
  rw [cnt_pre]
  exact List.count_pos_iff.2 ((vars_mem t v).1 h)
theorem counts_le : ∀ (vs l : List Int), vs.Pairwise (· < ·) → (vs.map (fun v => l.count v)).sum ≤ l.length
  | [], l, _ => by simp
  | v :: vs, l, h => by
    have hv := (List.pairwise_cons.1 h).1
    have ih := counts_le vs (l.filter (fun x => x != v)) (List.pairwise_cons.1 h).2
    have e : vs.map (fun u => (l.filter (fun x => x != v)).count u) = vs.map (fun u => l.count u) := by
      refine List.map_congr_left (fun u hu => ?_)
      exact List.count_filter (by have := hv u hu; simp; omega)
    rw [e] at ih
    have hl : l.length = l.count v + (l.filter (fun x => x != v)).length := by
      clear ih e
      induction l with
      | nil => rfl
      | cons x xs ihx =>
        by_cases hx : x = v
        · subst hx; simp; omega
        · simp [hx]; omega
    rw [List.map_cons, List.sum_cons]
    omega
theorem vars_sum (t : TermD) : ((varsT t []).map (fun v => cntT v t)).sum ≤ partsT t := by
  have h := counts_le (varsT t []) (vl (preT t)) (vars_up t)
  have e : (varsT t []).map (fun v => cntT v t) = (varsT t []).map (fun v => (vl (preT t)).count v) := List.map_congr_left (fun v _ => cnt_pre v t)
  rw [e]
  have := vl_len (preT t)
  have := preT_len t
  omega
/-- The sum as far as the loop has come. -/
theorem sum_take (l : List Nat) (i : Nat) : (l.take i).sum ≤ l.sum := by
  have : l.sum = (l.take i).sum + (l.drop i).sum := by rw [← List.sum_append, List.take_append_drop]
  omega
end Go.Proofs.Ytkjlldbgooogdab

/- Whether what is put for variables is right: the program's way. Conditions: at most 1048576 parts. -/
namespace Go.Proofs.Ytkjlldbgooogdab
set_option maxRecDepth 100000
open Go.RowKit

def numP (us : List BindD) : Prop := (∀ i, (h : i < us.length) → 0 ≤ us[i].n ∧ us[i].n ≤ 99) ∧ ∀ i, (h : i + 1 < us.length) → us[i].n < us[i + 1].n
def tokP (ss : List SymD) (us : List BindD) : Prop := ∀ i, (h : i < us.length) → (sigOk ss && decide (partsT us[i].t ≤ 60) && rightT ss us[i].t) = true
def goneP (us : List BindD) : Prop := ∀ i, (h : i < us.length) → ∀ v ∈ varsT us[i].t [], ∀ j, (hj : j < us.length) → us[j].n ≠ v
noncomputable def tb (p : Prop) : Bool := @decide p (Classical.propDecidable p)
theorem tb_true {p : Prop} (h : p) : tb p = true := by unfold tb; exact @decide_eq_true p (Classical.propDecidable p) h
theorem tb_false {p : Prop} (h : ¬ p) : tb p = false := by unfold tb; exact @decide_eq_false p (Classical.propDecidable p) h
theorem rtB_tb {b : Bool} {p : Prop} (h : tb p = b) : Ending.returned (.bool b) = .returned (.bool (tb p)) := by rw [h]

set_option maxHeartbeats 1600000 in
theorem numbersOk_any (p : Nat) (us : List BindD) (a : Option Addr) (c hi : Nat) (w : World) (hl : us.length ≤ 4194304) (hp : w.cell? ⟨p, 0, none⟩ = some (.slice a us.length c)) (hr : RdU w hi a us) (hhi : hi ≤ w.heap.size) :
    Calls Try.prog 50 #[.pointer (some ⟨p, 0, none⟩)] w fun e w' => e = .returned (.bool (tb (numP us))) ∧ Below w.heap.size w w' := by
  have HR : Hid (RdU w hi a us) := hr
  clear hr
  go_enter Try.func50, Try.ntmps50
  go_wp2_with fail
  go_loopw [3, 11] (fun l i wr => ∃ (k : Nat) (z : Int), i = .int .i64 k ∧ l = .int .i64 z ∧ k ≤ us.length ∧ Below w.heap.size w wr ∧ (0 ≤ z ∧ z ≤ 100) ∧ Hid ((∀ j, (hj : j < us.length) → j < k → 0 ≤ us[j].n ∧ us[j].n ≤ 99) ∧ (∀ j, (hj : j + 1 < us.length) → j + 1 < k → us[j].n < us[j + 1].n) ∧ (k = 0 → z = 0) ∧ (∀ j, (hj : j < us.length) → j + 1 = k → z = us[j].n + 1))) (fun _ i _ => us.length - (intOf i).toNat)
  case atStart => exact ⟨0, 0, rfl, rfl, Nat.zero_le _, Below.refl _ _, by omega, fun j _ h => absurd h (Nat.not_lt_zero _), fun j _ h => absurd h (Nat.not_lt_zero _), fun _ => rfl, fun j _ h => by omega⟩
  case round =>
    obtain ⟨k, z, rfl, rfl, hk, hb, hz, HA⟩ := hrel
    by_cases hk' : k < us.length
    · obtain ⟨b, off, a', c', rfl, hlt, d0, d1, d2, d3, hc', hkr, hzz⟩ := RdU.get (HR.out.on (hb.mono hhi)) hk'
      have hki : (k : Int) < (us.length : Int) := by omega
      have hki0 : (0 : Int) ≤ (k : Int) := by omega
      have hnew := hb.alloc hb.size (.cells #[.int .i64 us[k].n, .int .i64 us[k].t.f, .int .i64 us[k].t.v, .slice a' us[k].t.kids.length c'] 73)
      obtain ⟨x, hx⟩ : ∃ x, x = us[k].n := ⟨_, rfl⟩
      have HX : Hid (x = us[k].n) := hx
      rw [← hx] at d0 hnew
      clear hx hkr hzz hc'
      by_cases h1 : x < z
      · have HF : Hid (¬ numP us) := fun q => by
          obtain ⟨q1, q2⟩ := q
          have hA := HA.out
          have h3 := HX.out
          by_cases hk0 : k = 0
          · have := hA.2.2.1 hk0
            have := (q1 k hk').1
            omega
          · obtain ⟨j, rfl⟩ : ∃ j, k = j + 1 := ⟨k - 1, by omega⟩
            have := hA.2.2.2 j (by omega) rfl
            have := q2 j hk'
            omega
        go_wp2_with fail
        go_ret
        exact ⟨rtB_tb (tb_false HF.out), hnew⟩
      · by_cases h2 : 99 < x
        · have HF : Hid (¬ numP us) := fun q => by have := (q.1 k hk').2; have := HX.out; omega
          go_wp2_with fail
          go_ret
          exact ⟨rtB_tb (tb_false HF.out), hnew⟩
        · go_wp2_with fail
          go_roundw
          case rel => exact ⟨k + 1, x + 1, by go_num, by go_num, by omega, hnew, by omega, fun j hj hjk => by
              rcases Nat.lt_or_ge j k with h | h
              · exact HA.out.1 j hj h
              · have : j = k := by omega
                subst this
                have := HX.out
                omega, fun j hj hjk => by
              rcases Nat.lt_or_ge (j + 1) k with h | h
              · exact HA.out.2.1 j hj h
              · have : j + 1 = k := by omega
                subst this
                have h4 := HA.out.2.2.2 j (by omega) rfl
                have := HX.out
                omega, fun h => by omega, fun j hj hjk => by
              have : j = k := by omega
              subst this
              rw [HX.out]⟩
          case measure => simp [intOf]; omega
    · have HF : Hid (numP us) := ⟨fun j hj => HA.out.1 j hj (by omega), fun j hj => HA.out.2.1 j hj (by omega)⟩
      have hki : ¬ (k : Int) < (us.length : Int) := by omega
      go_wp2_with fail
      go_ret
      exact ⟨rtB_tb (tb_true HF.out), hb⟩

set_option maxHeartbeats 1600000 in
theorem termsOk_any (p : Nat) (sa : Option Addr) (ss : List SymD) (sc : Nat) (hsz : ∀ s ∈ ss, s.name.size ≤ maxLen) (us : List BindD) (a : Option Addr) (c hi : Nat) (w : World) (hpu : partsU us ≤ 4194303) (hp : w.cell? ⟨p, 0, none⟩ = some (.slice a us.length c)) (hs : RdS w sa ss) (hr : RdU w hi a us) (hhi : hi ≤ w.heap.size) :
    Calls Try.prog 51 #[.pointer (some ⟨p, 0, none⟩), .slice sa ss.length sc] w fun e w' => e = .returned (.bool (tb (tokP ss us))) ∧ Below w.heap.size w w' := by
  have hl : us.length ≤ 4194304 := by unfold partsU at hpu; omega
  have HR : Hid (RdU w hi a us) := hr
  have HS : Hid (RdS w sa ss) := hs
  clear hr hs
  go_enter Try.func51, Try.ntmps51
  go_wp2_with fail
  go_loopw [12] (fun i wr => ∃ (k : Nat), i = .int .i64 k ∧ k ≤ us.length ∧ Below w.heap.size w wr ∧ Hid (∀ j, (hj : j < us.length) → j < k → (sigOk ss && decide (partsT us[j].t ≤ 60) && rightT ss us[j].t) = true)) (fun i _ => us.length - (intOf i).toNat)
  case atStart => exact ⟨0, rfl, Nat.zero_le _, Below.refl _ _, fun j _ h => absurd h (Nat.not_lt_zero _)⟩
  case round =>
    obtain ⟨k, rfl, hk, hb, HA⟩ := hrel
    by_cases hk' : k < us.length
    · obtain ⟨b, off, a', c', rfl, hlt, d0, d1, d2, d3, hc', hkr, hzz⟩ := RdU.get (HR.out.on (hb.mono hhi)) hk'
      have hki : (k : Int) < (us.length : Int) := by omega
      have hki0 : (0 : Int) ≤ (k : Int) := by omega
      have hpg := partsU_get hk'
      have hpt := partsT_eq us[k].t
      have hnew := hb.alloc hb.size (.cells #[.int .i64 us[k].n, .int .i64 us[k].t.f, .int .i64 us[k].t.v, .slice a' us[k].t.kids.length c'] 73)
      have C := impTermOk_all sa ss sc hsz us[k].t a' c' hi _ (HS.out.below hnew) (by omega) (hkr.on ((Below.refl _ _).alloc (Nat.le_trans hhi hb.size) (.cells #[.int .i64 us[k].n, .int .i64 us[k].t.f, .int .i64 us[k].t.v, .slice a' us[k].t.kids.length c'] 73))) (Nat.le_trans hhi hnew.size) hc'
      clear hkr hzz hpg hpt
      cases ht : (sigOk ss && decide (partsT us[k].t ≤ 60) && rightT ss us[k].t) with
      | false =>
        rw [ht] at C
        have HF : Hid (¬ tokP ss us) := fun q => by have := q k hk'; rw [ht] at this; cases this
        clear ht
        go_wp2_with (go_at_call 68; refine C.mono ?_; rintro e w1 ⟨rfl, hb1⟩; clear C)
        go_ret
        exact ⟨rtB_tb (tb_false HF.out), hnew.trans (hb1.mono hnew.size)⟩
      | true =>
        rw [ht] at C
        have HT : Hid _ := ht
        clear ht
        go_wp2_with (go_at_call 68; refine C.mono ?_; rintro e w1 ⟨rfl, hb1⟩; clear C)
        go_roundw
        case rel => exact ⟨k + 1, by go_num, by omega, hnew.trans (hb1.mono hnew.size), fun j hj hjk => by
          rcases Nat.lt_or_ge j k with h | h
          · exact HA.out j hj h
          · have : j = k := by omega
            subst this
            exact HT.out⟩
        case measure => simp [intOf]; omega
    · have HF : Hid (tokP ss us) := fun j hj => HA.out j hj (by omega)
      have hki : ¬ (k : Int) < (us.length : Int) := by omega
      go_wp2_with fail
      go_ret
      exact ⟨rtB_tb (tb_true HF.out), hb⟩
end Go.Proofs.Ytkjlldbgooogdab

/- Whether what is put for variables is right: the program's way, whole. Conditions: at most 1048576 parts. -/
namespace Go.Proofs.Ytkjlldbgooogdab
set_option maxRecDepth 100000
open Go.RowKit

set_option maxHeartbeats 3200000 in
theorem gone_any (p : Nat) (us : List BindD) (a : Option Addr) (c hi : Nat) (w : World) (hpu : partsU us ≤ 1048576) (hp : w.cell? ⟨p, 0, none⟩ = some (.slice a us.length c)) (hr : RdU w hi a us) (hhi : hi ≤ w.heap.size) :
    Calls Try.prog 52 #[.pointer (some ⟨p, 0, none⟩)] w fun e w' => e = .returned (.bool (tb (goneP us))) ∧ Below w.heap.size w w' := by
  have hl : us.length ≤ 4194304 := by unfold partsU at hpu; omega
  have HR : Hid (RdU w hi a us) := hr
  have HP : Hid _ := hp
  clear hr
  go_enter Try.func52, Try.ntmps52
  go_wp2_with fail
  clear hp
  go_loopw [14] (fun i wr => ∃ (k : Nat), i = .int .i64 k ∧ k ≤ us.length ∧ Below w.heap.size w wr ∧ Hid (∀ i, (h : i < us.length) → i < k → ∀ v ∈ varsT us[i].t [], ∀ j, (hj : j < us.length) → us[j].n ≠ v)) (fun i _ => us.length - (intOf i).toNat)
  case atStart => exact ⟨0, rfl, Nat.zero_le _, Below.refl _ _, fun j _ h => absurd h (Nat.not_lt_zero _)⟩
  case round =>
    obtain ⟨k, rfl, hk, hb, HA⟩ := hrel
    by_cases hk' : k < us.length
    · obtain ⟨b, off, a', c', rfl, hlt, d0, d1, d2, d3, hc', hkr, hzz⟩ := RdU.get (HR.out.on (hb.mono hhi)) hk'
      have hki : (k : Int) < (us.length : Int) := by omega
      have hki0 : (0 : Int) ≤ (k : Int) := by omega
      have hpg := partsU_get hk'
      have hpt := partsT_eq us[k].t
      have hbx : Below wr.heap.size wr (wr.alloc (.cells #[.int .i64 us[k].n, .int .i64 us[k].t.f, .int .i64 us[k].t.v, .slice a' us[k].t.kids.length c'] 73)) := (Below.refl _ _).alloc (Nat.le_refl _) _
      have hnew := hb.trans (hbx.mono hb.size)
      have C := impVarsOf_any us[k].t a' c' hi _ (by omega) (hkr.on (hbx.mono (Nat.le_trans hhi hb.size))) (Nat.le_trans hhi hnew.size) hc'
      have hvl : (varsT us[k].t []).length ≤ partsT us[k].t := by simpa using varsT_len us[k].t []
      have HV : Hid (∀ zs, zs = varsT us[k].t [] → (∀ v ∈ zs, ∀ j, (hj : j < us.length) → us[j].n ≠ v) → ∀ v ∈ varsT us[k].t [], ∀ j, (hj : j < us.length) → us[j].n ≠ v) := fun zs e h => e ▸ h
      have HV2 : Hid (∀ zs, zs = varsT us[k].t [] → ∀ v ∈ zs, ∀ j, (hj : j < us.length) → us[j].n = v → ¬ goneP us) := fun zs e v hv j hj e2 q => q k hk' v (e ▸ hv) j hj e2
      obtain ⟨zs, hzs⟩ : ∃ zs, zs = varsT us[k].t [] := ⟨_, rfl⟩
      have HZ : Hid (zs = varsT us[k].t []) := hzs
      rw [← hzs] at C hvl
      clear hzs hkr hzz hpg hpt
      have hzl : zs.length ≤ 4194304 := by have := partsU_get hk'; have := partsT_eq us[k].t; omega
      clear hvl
      go_wp2_with (go_at_call 69; refine C.mono ?_; rintro e w1 ⟨av, cv, rfl, ho1, hb1⟩; clear C)
      have hB1 := hnew.trans (hb1.mono hnew.size)
      have hrd : Rd w1 av zs := Rd.ownV rfl ho1
      clear ho1 hb1 hnew hbx d0 d1 d2 d3
      go_loopw [22] (fun i wr => ∃ (m : Nat), i = .int .i64 m ∧ m ≤ zs.length ∧ Below w1.heap.size w1 wr ∧ Hid (∀ q, (h : q < zs.length) → q < m → ∀ j, (hj : j < us.length) → us[j].n ≠ zs[q])) (fun i _ => zs.length - (intOf i).toNat)
      case atStart => exact ⟨0, rfl, Nat.zero_le _, Below.refl _ _, fun j _ h => absurd h (Nat.not_lt_zero _)⟩
      case round =>
        obtain ⟨m, rfl, hm, hbm, HM⟩ := hrel
        have hBm := hB1.trans (hbm.mono hB1.size)
        by_cases hm' : m < zs.length
        · rcases hrd.below hbm with h | ⟨b2, off2, rfl, hbl, hcz⟩
          · rw [h] at hm'; simp at hm'
          · have hck := hcz m hm'
            rw [List.getElem?_eq_getElem hm', Option.getD_some] at hck
            have hmi : (m : Int) < (zs.length : Int) := by omega
            have hmi0 : (0 : Int) ≤ (m : Int) := by omega
            have CF := find_any p us (some ⟨b, off, none⟩) c hi zs[m] wr hl (keepC hBm HP.out) (HR.out.on (hBm.mono hhi)) (Nat.le_trans hhi hBm.size)
            have HQ : Hid (zs[m] ∈ zs) := List.getElem_mem hm'
            clear hcz
            go_upto_region 8 with (go_at_call 70; refine CF.mono ?_; rintro e w2 ⟨hb2, hc⟩; have hB2 := hBm.trans (hb2.mono hBm.size); clear CF; rcases hc with ⟨q, hq, hqn, hlow, rfl⟩ | ⟨hnone, rfl⟩)
            · have HF : Hid (¬ goneP us) := HV2.out zs HZ.out zs[m] HQ.out q hq hqn
              clear hqn hlow
              go_wp2_with fail
              go_ret
              exact ⟨rtB_tb (tb_false HF.out), hB2⟩
            · have HNN : Hid (∀ j, (hj : j < us.length) → us[j].n ≠ zs[m]) := hnone
              clear hnone
              go_wp2_with fail
              go_roundw
              case rel => exact ⟨m + 1, by go_num, by omega, hbm.trans (hb2.mono hbm.size), fun q hq hqm => by
                rcases Nat.lt_or_ge q m with h | h
                · exact HM.out q hq h
                · have : q = m := by omega
                  subst this
                  exact HNN.out⟩
              case measure => simp [intOf]; omega
        · have hmi : ¬ (m : Int) < (zs.length : Int) := by omega
          have HF : Hid (∀ v ∈ varsT us[k].t [], ∀ j, (hj : j < us.length) → us[j].n ≠ v) := HV.out zs HZ.out (fun v hv j hj => by
            obtain ⟨q, hq, e⟩ := List.getElem_of_mem hv
            rw [← e]
            exact HM.out q hq (by omega) j hj)
          go_wp2_with fail
          go_roundw
          case rel => exact ⟨k + 1, by go_num, by omega, hBm, fun i hi' hik => by
            rcases Nat.lt_or_ge i k with h | h
            · exact HA.out i hi' h
            · have : i = k := by omega
              subst this
              exact HF.out⟩
          case measure => simp [intOf]; omega
    · have HF : Hid (goneP us) := fun i hi' => HA.out i hi' (by omega)
      have hki : ¬ (k : Int) < (us.length : Int) := by omega
      go_wp2_with fail
      go_ret
      exact ⟨rtB_tb (tb_true HF.out), hb⟩

set_option maxHeartbeats 1600000 in
theorem impSubOk_any (sa : Option Addr) (ss : List SymD) (sc : Nat) (hsz : ∀ s ∈ ss, s.name.size ≤ maxLen) (us : List BindD) (a : Option Addr) (c hi : Nat) (w : World) (hpu : partsU us ≤ 1048576) (hs : RdS w sa ss) (hr : RdU w hi a us) (hhi : hi ≤ w.heap.size) :
    Calls Try.prog 23 #[.slice sa ss.length sc, .slice a us.length c] w fun e w' => e = .returned (.bool (tb (numP us ∧ tokP ss us ∧ goneP us))) ∧ Below w.heap.size w w' := by
  have hl : us.length ≤ 4194304 := by unfold partsU at hpu; omega
  have h0 : Below w.heap.size w (w.alloc (.cells #[.slice a us.length c] 78)) := (Below.refl _ _).alloc (Nat.le_refl _) _
  have cp : (w.alloc (.cells #[.slice a us.length c] 78)).cell? ⟨w.heap.size, 0, none⟩ = some (.slice a us.length c) := by simp [go_sem]
  have C1 := numbersOk_any w.heap.size us a c hi _ hl cp (hr.on (h0.mono hhi)) (Nat.le_trans hhi h0.size)
  have C2 := fun (W' : World) (h : Below (w.alloc (.cells #[.slice a us.length c] 78)).heap.size (w.alloc (.cells #[.slice a us.length c] 78)) W') => termsOk_any w.heap.size sa ss sc hsz us a c hi W' (by omega) (keepC h cp) (hs.below (h0.trans (h.mono h0.size))) (hr.on ((h0.trans (h.mono h0.size)).mono hhi)) (Nat.le_trans (Nat.le_trans hhi h0.size) h.size)
  have C3 := fun (W' : World) (h : Below (w.alloc (.cells #[.slice a us.length c] 78)).heap.size (w.alloc (.cells #[.slice a us.length c] 78)) W') => gone_any w.heap.size us a c hi W' hpu (keepC h cp) (hr.on ((h0.trans (h.mono h0.size)).mono hhi)) (Nat.le_trans (Nat.le_trans hhi h0.size) h.size)
  have H1 : Hid (tb (numP us ∧ tokP ss us ∧ goneP us) = (tb (numP us) && tb (tokP ss us) && tb (goneP us))) := by
    show _ = _
    by_cases h1 : numP us
    · by_cases h2 : tokP ss us
      · by_cases h3 : goneP us
        · rw [tb_true ⟨h1, h2, h3⟩, tb_true h1, tb_true h2, tb_true h3]; rfl
        · rw [tb_false (fun q => h3 q.2.2), tb_true h1, tb_true h2, tb_false h3]; rfl
      · rw [tb_false (fun q => h2 q.2.1), tb_true h1, tb_false h2]; rfl
    · rw [tb_false (fun q => h1 q.1), tb_false h1]; rfl
  rw [H1.out]
  generalize tb (numP us) = b1 at C1 ⊢
  generalize tb (tokP ss us) = b2 at C2 ⊢
  generalize tb (goneP us) = b3 at C3 ⊢
  clear H1 hr hs
  cases b1
  · go_enter Try.func23, Try.ntmps23
    go_wp2_with (go_at_call 50; refine C1.mono ?_; rintro e w1 ⟨rfl, hb1⟩; clear C1)
    go_ret
    exact ⟨rfl, h0.trans (hb1.mono h0.size)⟩
  · cases b2
    · go_enter Try.func23, Try.ntmps23
      go_wp2_with (first
        | (go_at_call 50; refine C1.mono ?_; rintro e w1 ⟨rfl, hb1⟩; clear C1)
        | (go_at_call 51; refine (C2 w1 hb1).mono ?_; rintro e w2 ⟨rfl, hb2⟩; have hB2 := hb1.trans (hb2.mono hb1.size); clear C2))
      go_ret
      exact ⟨rfl, h0.trans (hB2.mono h0.size)⟩
    · go_enter Try.func23, Try.ntmps23
      go_wp2_with (first
        | (go_at_call 50; refine C1.mono ?_; rintro e w1 ⟨rfl, hb1⟩; clear C1)
        | (go_at_call 51; refine (C2 w1 hb1).mono ?_; rintro e w2 ⟨rfl, hb2⟩; have hB2 := hb1.trans (hb2.mono hb1.size); clear C2)
        | (go_at_call 52; refine (C3 w2 hB2).mono ?_; rintro e w3 ⟨rfl, hb3⟩; have hB3 := hB2.trans (hb3.mono hB2.size); clear C3))
      go_ret
      exact ⟨by simp, h0.trans (hB3.mono h0.size)⟩
end Go.Proofs.Ytkjlldbgooogdab

/- Contracts of the specification's functions on lists of functions. Conditions: at most 1048577 functions, names of at most 1048576 bytes. -/
namespace Go.Proofs.Ytkjlldbgooogdab
set_option maxRecDepth 100000
open Go.RowKit

set_option maxHeartbeats 800000 in
theorem specSymOf_any (a : Option Addr) (ss : List SymD) (n cap : Nat) (nm : ByteArray) (w : World) (hn : n = ss.length) (hr : RdS w a ss) (hl : ss.length ≤ 1048577) :
    Calls Try.prog 77 #[.slice a n cap, .string nm] w fun e w' => e = .returned (.int .i64 (symOf ss nm)) ∧ w' = w := by
  subst hn
  rcases hr with rfl | ⟨b, off, rfl, hlt, hc⟩
  · go_enter Try.func77, Try.ntmps77
    go_wp2
    refine wp_loop_rounds 1 ?_
    rw [rounds_succ]
    go_wp2
    go_ret
    exact ⟨rfl, rfl⟩
  · go_enter Try.func77, Try.ntmps77
    go_wp2
    go_loop [5] (fun i => ∃ k : Nat, k ≤ ss.length ∧ i = .int .i64 k ∧ Hid (∀ j, (h : j < ss.length) → j < k → (ss[j].name.toList == nm.toList) = false)) (fun i => ss.length - (intOf i).toNat)
    case atStart => exact ⟨0, Nat.zero_le _, rfl, fun j _ hj => absurd hj (by omega)⟩
    case round =>
      obtain ⟨k, hk, rfl, H0⟩ := hrel
      by_cases hk' : k < ss.length
      · obtain ⟨c0, c1, c2⟩ := hc k hk'
        clear hc
        go_wp2
        · go_ret
          exact ⟨ret_int (symOf_hit hk' (fun j h hj => H0.out j h hj) (by assumption)).symm, rfl⟩
        · have hf : (ss[k].name.toList == nm.toList) = false := by assumption
          go_round
          case rel => exact ⟨k + 1, by omega, by go_num, fun j h hj => by
            by_cases e : j = k
            · subst e; exact hf
            · exact H0.out j h (by omega)⟩
          case measure => simp [intOf]; omega
      · go_wp2
        go_ret
        exact ⟨ret_int (symOf_none fun j hj => H0.out j hj (by omega)).symm, rfl⟩

set_option maxHeartbeats 1600000 in
theorem specNameOk_any (s : ByteArray) (w : World) (hs : s.size ≤ 9223372036854775806) :
    Calls Try.prog 76 #[.string s] w fun e w' => e = .returned (.bool (nameOk s)) ∧ w' = w := by
  go_enter Try.func76, Try.ntmps76
  go_wp2
  go_loop [3] (fun i => ∃ k : Nat, k ≤ s.size ∧ i = .int .i64 k ∧ Hid (chsOk s k = true)) (fun i => s.size - (intOf i).toNat)
  case atStart => exact ⟨0, Nat.zero_le _, rfl, rfl⟩
  case round =>
    obtain ⟨k, hk, rfl, HA⟩ := hrel
    by_cases hk' : k < s.size
    · have HG : Hid (chOk k s[k] = true → chsOk s (k + 1) = true) := fun h => by rw [chsOk, HA.out, dif_pos hk', h]; rfl
      have HB : Hid (chOk k s[k] = false → nameOk s = false) := chs_bad s hk'
      rcases (show ((97 : Int) ≤ (s[k].toNat : Int) ∧ (s[k].toNat : Int) ≤ 122) ∨ (122 : Int) < (s[k].toNat : Int) ∨ ((57 : Int) < (s[k].toNat : Int) ∧ (s[k].toNat : Int) < 97) ∨ ((48 : Int) ≤ (s[k].toNat : Int) ∧ (s[k].toNat : Int) ≤ 57) ∨ (s[k].toNat : Int) < 48 by omega) with ⟨h1, h2⟩ | h1 | ⟨h1, h2⟩ | ⟨h1, h2⟩ | h1
      · have HC : Hid (chsOk s (k + 1) = true) := HG.out (by simp [chOk]; omega)
        go_wp2
        go_round
        case rel => exact ⟨k + 1, by omega, by go_num, HC⟩
        case measure => simp [intOf]; omega
      · have HC : Hid (nameOk s = false) := HB.out (by simp [chOk]; omega)
        have hd1 : decide ((s[k].toNat : Int) ≤ 122) = false := by simp; omega
        have hd2 : decide ((s[k].toNat : Int) ≤ 57) = false := by simp; omega
        by_cases hk0 : (0 : Int) < (k : Int)
        all_goals
          go_wp2
          go_ret
          exact ⟨ret_bool HC.out.symm, rfl⟩
      · have HC : Hid (nameOk s = false) := HB.out (by simp [chOk]; omega)
        have hd2 : decide ((s[k].toNat : Int) ≤ 57) = false := by simp; omega
        by_cases hk0 : (0 : Int) < (k : Int)
        all_goals
          go_wp2
          go_ret
          exact ⟨ret_bool HC.out.symm, rfl⟩
      · by_cases hk0 : (0 : Int) < (k : Int)
        · have HC : Hid (chsOk s (k + 1) = true) := HG.out (by simp [chOk]; omega)
          have hd2 : decide ((s[k].toNat : Int) ≤ 57) = true := by simp; omega
          go_wp2
          go_round
          case rel => exact ⟨k + 1, by omega, by go_num, HC⟩
          case measure => simp [intOf]; omega
        · have HC : Hid (nameOk s = false) := HB.out (by simp [chOk]; omega)
          go_wp2
          go_ret
          exact ⟨ret_bool HC.out.symm, rfl⟩
      · have HC : Hid (nameOk s = false) := HB.out (by simp [chOk]; omega)
        by_cases hk0 : (0 : Int) < (k : Int)
        all_goals
          go_wp2
          go_ret
          exact ⟨ret_bool HC.out.symm, rfl⟩
    · have e : k = s.size := by omega
      have HC : Hid (chsOk s s.size = true) := by rw [← e]; exact HA
      clear e HA
      by_cases h1 : (1 : Int) ≤ (s.size : Int)
      · have HN : Hid (nameOk s = decide ((s.size : Int) ≤ 8)) := name_pos HC.out h1
        go_wp2_with go_in
        go_ret
        exact ⟨ret_bool HN.out.symm, rfl⟩
      · have HN : Hid (nameOk s = false) := name_neg h1
        go_wp2_with go_in
        go_ret
        exact ⟨ret_bool HN.out.symm, rfl⟩

set_option maxHeartbeats 3200000 in
theorem specSigOk_any (a : Option Addr) (ss : List SymD) (n cap : Nat) (w : World) (hn : n = ss.length) (hr : RdS w a ss) (hl : ss.length ≤ 1048577) (hnm : ∀ s ∈ ss, s.name.size ≤ 1048576) :
    Calls Try.prog 64 #[.slice a n cap] w fun e w' => e = .returned (.bool (sigOk ss)) ∧ w' = w := by
  subst hn
  have HR : Hid (RdS w a ss) := hr
  rcases hr with rfl | ⟨b, off, rfl, hlt, hc⟩
  · go_enter Try.func64, Try.ntmps64
    go_wp2
    refine wp_loop_rounds 1 ?_
    rw [rounds_succ]
    go_wp2_with go_in
    go_ret
    exact ⟨rfl, rfl⟩
  · go_enter Try.func64, Try.ntmps64
    go_wp2
    go_loop [3] (fun i => ∃ k : Nat, k ≤ ss.length ∧ i = .int .i64 k ∧ Hid (goodTo ss k = true)) (fun i => ss.length - (intOf i).toNat)
    case atStart => exact ⟨0, Nat.zero_le _, rfl, rfl⟩
    case round =>
      obtain ⟨k, hk, rfl, HA⟩ := hrel
      by_cases hk' : k < ss.length
      · obtain ⟨c0, c1, c2⟩ := hc k hk'
        have hsz := hnm ss[k] (List.getElem_mem hk')
        have NM := specNameOk_any ss[k].name w (by omega)
        have SO := specSymOf_any (some ⟨b, off, none⟩) ss _ cap ss[k].name w rfl HR.out hl
        have HB : Hid (goodAt ss k ss[k] = false → sigOk ss = false) := sig_bad hk'
        have HG : Hid (goodAt ss k ss[k] = true → goodTo ss (k + 1) = true) := good_next hk' HA.out
        have DG : Hid (goodAt ss k ss[k] = (nameOk ss[k].name && (symOf ss ss[k].name == (k : Int)) && (decide (0 ≤ ss[k].ar) && decide (ss[k].ar ≤ 3)) && (!ss[k].ac || ss[k].ar == 2))) := rfl
        generalize hav : ss[k].ar = av at c1 DG
        generalize hcv : ss[k].ac = cv at c2 DG
        generalize hnv : ss[k].name = nv at c0 NM SO DG
        clear hc hnm hsz hav hcv hnv
        cases hN : nameOk nv with
        | false =>
          rw [hN] at NM DG
          have HC : Hid (sigOk ss = false) := HB.out (by rw [DG.out]; rfl)
          clear HB HG DG SO hN
          go_wp2_with (go_at_call 76; refine NM.mono ?_; rintro e w' ⟨rfl, hw⟩; subst w')
          go_ret
          exact ⟨ret_bool HC.out.symm, rfl⟩
        | true =>
          rw [hN] at NM DG
          clear hN
          generalize symOf ss nv = so at SO DG
          by_cases hS : so = (k : Int)
          · subst hS
            by_cases h3 : 0 ≤ av ∧ av ≤ 3
            · obtain ⟨h31, h32⟩ := h3
              cases cv with
              | false =>
                have HC : Hid (goodTo ss (k + 1) = true) := HG.out (by rw [DG.out]; simp; omega)
                clear HB HG DG
                go_wp2_with (first | (go_at_call 76; refine NM.mono ?_; rintro e w' ⟨rfl, hw⟩; subst w') | (go_at_call 77; refine SO.mono ?_; rintro e w' ⟨rfl, hw⟩; subst w') | (go_at_call 35; go_in))
                go_round
                case rel => exact ⟨k + 1, by omega, by go_num, HC⟩
                case measure => simp [intOf]; omega
              | true =>
                by_cases h2 : av = 2
                · subst h2
                  have HC : Hid (goodTo ss (k + 1) = true) := HG.out (by rw [DG.out]; simp)
                  clear HB HG DG
                  go_wp2_with (first | (go_at_call 76; refine NM.mono ?_; rintro e w' ⟨rfl, hw⟩; subst w') | (go_at_call 77; refine SO.mono ?_; rintro e w' ⟨rfl, hw⟩; subst w') | (go_at_call 35; go_in))
                  go_round
                  case rel => exact ⟨k + 1, by omega, by go_num, HC⟩
                  case measure => simp [intOf]; omega
                · have HC : Hid (sigOk ss = false) := HB.out (by rw [DG.out]; simp [h2])
                  have h2' : (av != 2) = true := by simpa using h2
                  clear HB HG DG h2
                  go_wp2_with (first | (go_at_call 76; refine NM.mono ?_; rintro e w' ⟨rfl, hw⟩; subst w') | (go_at_call 77; refine SO.mono ?_; rintro e w' ⟨rfl, hw⟩; subst w') | (go_at_call 35; go_in))
                  go_ret
                  exact ⟨ret_bool HC.out.symm, rfl⟩
            · have HC : Hid (sigOk ss = false) := HB.out (by rw [DG.out]; simp; omega)
              clear HB HG DG
              rcases (show av < 0 ∨ 3 < av by omega) with h3 | h3
              all_goals
                go_wp2_with (first | (go_at_call 76; refine NM.mono ?_; rintro e w' ⟨rfl, hw⟩; subst w') | (go_at_call 77; refine SO.mono ?_; rintro e w' ⟨rfl, hw⟩; subst w') | (go_at_call 35; go_in))
                go_ret
                exact ⟨ret_bool HC.out.symm, rfl⟩
          · have HC : Hid (sigOk ss = false) := HB.out (by rw [DG.out]; simp [hS])
            have hS' : (so != (k : Int)) = true := by simpa using hS
            clear HB HG DG hS
            go_wp2_with (first | (go_at_call 76; refine NM.mono ?_; rintro e w' ⟨rfl, hw⟩; subst w') | (go_at_call 77; refine SO.mono ?_; rintro e w' ⟨rfl, hw⟩; subst w'))
            go_ret
            exact ⟨ret_bool HC.out.symm, rfl⟩
      · have e : k = ss.length := by omega
        have HC : Hid (goodTo ss ss.length = true) := by rw [← e]; exact HA
        clear e HA hnm
        by_cases h1 : (1 : Int) ≤ (ss.length : Int)
        · by_cases h8 : (ss.length : Int) ≤ 8
          · obtain ⟨c0, c1, c2⟩ := hc 0 (by omega)
            simp only [Nat.zero_mul, Nat.add_zero] at c0 c1 c2
            have hp : (0 : Int) < (ss.length : Int) := by omega
            have HE : Hid (sigOk ss = isTT ss[0]) := sig_end HC.out (by omega) (by omega)
            clear hc
            go_wp2_with (go_at_call 35; go_in)
            · have q3 : ss[0].ac = true := by assumption
              go_ret
              exact ⟨ret_bool (by rw [HE.out, isTT, q3]; simp), rfl⟩
            · have q1 : ss[0].name.toList = [116, 116] := by assumption
              have q2 : ss[0].ar = 0 := by assumption
              have q3 : ¬ ss[0].ac = true := by assumption
              go_ret
              exact ⟨ret_bool (by rw [HE.out, isTT, q1, q2]; simp [q3]), rfl⟩
            · have q2 : ¬ ss[0].ar = 0 := by assumption
              go_ret
              exact ⟨ret_bool (by rw [HE.out, isTT]; simp [q2]), rfl⟩
            · have q1 : ¬ ss[0].name.toList = [116, 116] := by assumption
              go_ret
              exact ⟨ret_bool (by rw [HE.out, isTT]; simp [q1]), rfl⟩
          · have HN : Hid (sigOk ss = false) := by show _ = _; rw [sigOk, decide_eq_false (show ¬ ss.length ≤ 8 by omega)]; simp
            clear hc
            go_wp2_with (go_at_call 35; go_in)
            go_ret
            exact ⟨ret_bool HN.out.symm, rfl⟩
        · have HN : Hid (sigOk ss = false) := by show _ = _; rw [sigOk, decide_eq_false (show ¬ 1 ≤ ss.length by omega)]; simp
          clear hc
          go_wp2_with (go_at_call 35; go_in)
          go_ret
          exact ⟨ret_bool HN.out.symm, rfl⟩
end Go.Proofs.Ytkjlldbgooogdab

/- Whether a term is right, as the specification tells it. Conditions: terms of at most 4194304 parts, at most 1048577 functions. -/
namespace Go.Proofs.Ytkjlldbgooogdab
set_option maxRecDepth 100000
open Go.RowKit Go.BigFrame

theorem rightT_mk (ss : List SymD) (f v : Int) (ks : List TermD) : rightT ss (.mk f v ks) = if f = -1 then decide (0 ≤ v ∧ v ≤ 99) && ks.isEmpty
    else decide (0 ≤ f ∧ f < ss.length) && v == 0 && (if blindAt ss f then decide (2 ≤ ks.length) else (ks.length : Int) == arityAt ss f) && rightL ss f none ks := by rw [rightT]

theorem l1In_any (x lo hi : Int) (w : World) : Calls Try.prog 35 #[.int .i64 x, .int .i64 lo, .int .i64 hi] w fun e w' => e = .returned (.bool (decide (lo ≤ x) && decide (x ≤ hi))) ∧ w' = w := by
  by_cases h : lo ≤ x
  · go_enter Try.func35, Try.ntmps35
    go_wp2
    go_ret
    exact ⟨rtB (by simp [h]), rfl⟩
  · go_enter Try.func35, Try.ntmps35
    go_wp2
    go_ret
    exact ⟨rtB (by simp; omega), rfl⟩

set_option maxHeartbeats 3200000 in
theorem l4Right_any (sa : Option Addr) (ss : List SymD) (sc : Nat) (hss : ss.length ≤ 1048577) (N : Nat) : ∀ (t : TermD) (a : Option Addr) (c hi : Nat) (w : World), isW t.f → RdS w sa ss → partsT t ≤ N → N ≤ 4194304 → RdK w hi a t.kids → hi ≤ w.heap.size →
    Calls Try.prog 66 #[.slice sa ss.length sc, .agg #[.int .i64 t.f, .int .i64 t.v, .slice a t.kids.length c]] w fun e w' => e = .returned (.bool (rightT ss t)) ∧ Below w.heap.size w w' := by
  induction N with
  | zero => intro t a c hi w _ _ h; rw [partsT_eq] at h; omega
  | succ N ih =>
    intro t a c hi w hf hs hN hM hr hhi
    obtain ⟨f, v, ks⟩ := t
    simp only [TermD.f, TermD.v, TermD.kids] at hf hr ⊢
    rw [partsT] at hN
    have hlen := partsL_len ks
    have HR : Hid (RdK w hi a ks) := hr
    have HS : Hid (RdS w sa ss) := hs
    have HW0 : Hid _ := rightT_mk ss f v ks
    obtain ⟨W, hW⟩ : ∃ W, W = w.alloc (.cells #[.int .i64 f, .int .i64 v, .slice a ks.length c] 28) := ⟨_, rfl⟩
    have hb0 : Below w.heap.size w W := by rw [hW]; exact (Below.refl w.heap.size w).alloc (Nat.le_refl _) _
    have p0 : W.cell? ⟨w.heap.size, 0, none⟩ = some (.int .i64 f) := by rw [hW]; simp [go_sem]
    have p1 : W.cell? ⟨w.heap.size, 1, none⟩ = some (.int .i64 v) := by rw [hW]; simp [go_sem]
    have p2 : W.cell? ⟨w.heap.size, 2, none⟩ = some (.slice a ks.length c) := by rw [hW]; simp [go_sem]
    have hwl0 : w.heap.size < W.heap.size := by rw [hW]; simp
    have hf0 := hf.1
    have hf1 := hf.2
    clear hf hr
    by_cases hv : f = -1
    · have HW : Hid (rightT ss (.mk f v ks) = (decide (0 ≤ v) && decide (v ≤ 99) && decide (ks.length = 0))) := by
        show _ = _
        rw [HW0.out, if_pos hv]
        cases ks <;> by_cases h1 : 0 ≤ v <;> by_cases h2 : v ≤ 99 <;> simp [h1, h2]
      have hfe : (f == -1) = true := by simp [hv]
      clear HW0 hs hv
      generalize ks.length = m at *
      go_enter Try.func66, Try.ntmps66
      go_wp2_with go_in
      all_goals
        go_ret
        refine ⟨rtB ?_, by rw [hW] at hb0; exact hb0⟩
        rw [HW.out]
        first
          | (simp; omega)
          | (simp; intros; omega)
          | (by_cases hm : m = 0 <;> simp [*] <;> omega)
          | (by_cases hm : m = 0 <;> simp [*])
    · have hfe : (f == -1) = false := by simp [hv]
      by_cases hin : 0 ≤ f ∧ f < (ss.length : Int)
      · obtain ⟨k, rfl⟩ := Int.eq_ofNat_of_zero_le hin.1
        have hk : k < ss.length := by omega
        have IN := fun w => l1In_any k 0 ((ss.length : Int) - 1) w
        rw [show (decide ((0 : Int) ≤ k) && decide ((k : Int) ≤ (ss.length : Int) - 1)) = true by simp; omega] at IN
        have hki : (k : Int) < (ss.length : Int) := by omega
        have hk0 : (0 : Int) ≤ (k : Int) := by omega
        have hsl : (ss.length : Int) ≤ 1048577 := by omega
        rcases hs with rfl | ⟨b0, o0, rfl, hbl, hcs⟩
        · simp at hk
        · obtain ⟨_, c1, c2⟩ := hcs k hk
          have c2o := c2
          have c1 := keepC hb0 c1
          have c2 := keepC hb0 c2
          have hwr : IntKind.i64.wrap ((ss.length : Int) - 1) = (ss.length : Int) - 1 := by rw [IntKind.wrap_i64]; omega
          have HA : Hid (blindAt ss k = ss[k].ac ∧ arityAt ss k = ss[k].ar) := ⟨blindAt_in hk, arityAt_in hk⟩
          clear hcs hin
          by_cases hv0 : v = 0
          · have hve : (v == 0) = true := by simp [hv0]
            have hvn : (v != 0) = false := by simp [hv0]
            cases hac : ss[k].ac with
            | false =>
              have hnac : (!ss[k].ac) = true := by rw [hac]; rfl
              rw [hac] at HA c2 c2o
              by_cases hea : (ks.length : Int) = ss[k].ar
              · have hne : ((ks.length : Int) == ss[k].ar) = true := by simp [hea]
                have hnn : ((ks.length : Int) != ss[k].ar) = false := by simp [hea]
                have HW : Hid (rightT ss (.mk k v ks) = rightL ss k none ks) := by show _ = _; rw [HW0.out, if_neg hv, HA.out.1, HA.out.2, hve, hne, decide_eq_true (by omega)]; simp
                have cc2 := c2o
                clear HW0 hv hv0 hea
                go_enter Try.func66, Try.ntmps66
                go_wp2_with fail
                rw [← hW]
                clear hW
                go_quiet ((go_at_call 35; refine Calls.quiet_of_same (IN _)))
                go_wp2_with fail
                go_loopw [5] (fun i wr => ∃ j : Nat, j ≤ ks.length ∧ i = .int .i64 j ∧ Hid (rightL ss k none ks = rightL ss k (if j = 0 then none else ks[j-1]?) (ks.drop j)) ∧ wr.cell? ⟨w.heap.size, 0, none⟩ = some (.int .i64 k) ∧ wr.cell? ⟨w.heap.size, 2, none⟩ = some (.slice a ks.length c) ∧ Below w.heap.size w wr ∧ w.heap.size < wr.heap.size) (fun i _ => ks.length - (intOf i).toNat)
                case atStart => exact ⟨0, Nat.zero_le _, rfl, by show _ = _; simp, p0, p2, below_drewN hb0 _, hwl0⟩
                case round =>
                  obtain ⟨j, hj, rfl, HK, hp0, hp2, hbr, hwl⟩ := hrel
                  clear p0 p1 p2 hb0 hwl0 c1
                  by_cases hj' : j < ks.length
                  · obtain ⟨b, off, a', c', rfl, hlt, d0, d1, d2, hkr⟩ := RdK.kid (HR.out.on (hbr.mono hhi)) hj'
                    have hji : (j : Int) < (ks.length : Int) := by omega
                    have hj0 : (0 : Int) ≤ (j : Int) := by omega
                    have hli : (ks.length : Int) ≤ 4194304 := by omega
                    have hpg := partsL_get hj'
                    have HD : Hid (ks.drop j = ks[j] :: ks.drop (j + 1)) := List.drop_eq_getElem_cons hj'
                    have g2 : wr.cell? ⟨b0, o0 + k * 3 + 2, none⟩ = some (.bool false) := hbr.cell (p := ⟨b0, o0 + k * 3 + 2, none⟩) hbl |>.trans cc2
                    have IR0 := fun W' (h : Below wr.heap.size wr W') => ih ks[j] a' c' hi W' (RdK.ints HR.out hj').1 (HS.out.below (hbr.trans (h.mono hbr.size))) (by omega) (by omega) (hkr.on (h.mono (Nat.le_trans hhi hbr.size))) (Nat.le_trans hhi (Nat.le_trans hbr.size h.size))
                    cases hrt : rightT ss ks[j] with
                    | false =>
                      have IR : ∀ W', Below wr.heap.size wr W' → Calls Try.prog 66 #[.slice (some ⟨b0, o0, none⟩) ss.length sc, .agg #[.int .i64 ks[j].f, .int .i64 ks[j].v, .slice a' ks[j].kids.length c']] W' fun e w' => e = .returned (.bool false) ∧ Below W'.heap.size W' w' := fun W' h => by have := IR0 W' h; rwa [hrt] at this
                      have HF : Hid (rightT ss (.mk k v ks) = false) := by show _ = _; rw [HW.out, HK.out, HD.out, rightL, hrt]; simp
                      clear IR0 HK HD hrt hkr
                      go_wp2_with fail
                      have k0 := cellB hp0
                      have k2 := cellB hp2
                      have k3 := cellB g2
                      have k4 := cellB d0
                      have k5 := cellB d1
                      have k6 := cellB d2
                      refine wp_region_below (by kernel_rfl) (by kernel_rfl) ?_
                      repeat (go_big_quiet_step ((first | (go_at_call 66; refine callsB (IR _ (BW.b _))))))
                      refine wpQuiet_nil ?_
                      intro w2 hw'
                      have hb2 : Below wr.heap.size wr w2 := by obtain ⟨p, rfl⟩ := hw'; exact p.b
                      clear hw'
                      have hB2 : Below w.heap.size w w2 := hbr.trans (hb2.mono hbr.size)
                      have q0 := keepC hb2 hp0
                      have q2 := keepC hb2 hp2
                      clear k0 k2 k3 k4 k5 k6
                      go_wp2_with fail
                      go_ret
                      exact ⟨rtB HF.out.symm, hB2⟩
                    | true =>
                      have IR : ∀ W', Below wr.heap.size wr W' → Calls Try.prog 66 #[.slice (some ⟨b0, o0, none⟩) ss.length sc, .agg #[.int .i64 ks[j].f, .int .i64 ks[j].v, .slice a' ks[j].kids.length c']] W' fun e w' => e = .returned (.bool true) ∧ Below W'.heap.size W' w' := fun W' h => by have := IR0 W' h; rwa [hrt] at this
                      have HN : Hid (rightL ss k none ks = rightL ss k (if j + 1 = 0 then none else ks[j + 1 - 1]?) (ks.drop (j + 1))) := by show _ = _; rw [HK.out, HD.out, rightL, hrt, if_neg (by omega : ¬ j + 1 = 0), show j + 1 - 1 = j by omega, List.getElem?_eq_getElem hj']; rw [HA.out.1]; simp
                      clear IR0 HK HD hrt hkr
                      go_wp2_with fail
                      have k0 := cellB hp0
                      have k2 := cellB hp2
                      have k3 := cellB g2
                      have k4 := cellB d0
                      have k5 := cellB d1
                      have k6 := cellB d2
                      refine wp_region_below (by kernel_rfl) (by kernel_rfl) ?_
                      repeat (go_big_quiet_step ((first | (go_at_call 66; refine callsB (IR _ (BW.b _))))))
                      refine wpQuiet_nil ?_
                      intro w2 hw'
                      have hb2 : Below wr.heap.size wr w2 := by obtain ⟨p, rfl⟩ := hw'; exact p.b
                      clear hw'
                      have hB2 : Below w.heap.size w w2 := hbr.trans (hb2.mono hbr.size)
                      have q0 := keepC hb2 hp0
                      have q2 := keepC hb2 hp2
                      clear k0 k2 k3 k4 k5 k6
                      go_wp2_with fail
                      go_roundw
                      case rel => exact ⟨j + 1, by omega, by go_num, HN, q0, q2, hB2, World.block_lt_of_cell? _ _ q0⟩
                      case measure => simp [intOf]; omega
                  · have HE : Hid (rightT ss (.mk k v ks) = true) := by show _ = _; rw [HW.out, HK.out, List.drop_eq_nil_of_le (by omega), rightL]
                    clear HK
                    go_wp2_with fail
                    go_ret
                    exact ⟨rtB HE.out.symm, hbr⟩
              · have hne : ((ks.length : Int) == ss[k].ar) = false := by simp [hea]
                have hnn : ((ks.length : Int) != ss[k].ar) = true := by simp [hea]
                have HW : Hid (rightT ss (.mk k v ks) = false) := by show _ = _; rw [HW0.out, if_neg hv, HA.out.1, HA.out.2, hne]; simp
                clear HW0 hv hv0 HA hea
                go_enter Try.func66, Try.ntmps66
                go_wp2_with fail
                rw [← hW]
                clear hW
                go_quiet ((go_at_call 35; refine Calls.quiet_of_same (IN _)))
                go_wp2_with fail
                go_ret
                exact ⟨rtB HW.out.symm, below_drewN hb0 _⟩
            | true =>
              have hnac : (!ss[k].ac) = false := by rw [hac]; rfl
              rw [hac] at HA c2 c2o
              by_cases hl2 : ks.length < 2
              · have hl2i : decide ((ks.length : Int) < 2) = true := by simp; omega
                have HW : Hid (rightT ss (.mk k v ks) = false) := by show _ = _; rw [HW0.out, if_neg hv, HA.out.1, if_pos rfl, decide_eq_false (by omega : ¬ 2 ≤ ks.length)]; simp
                clear HW0 hv hv0 HA hl2
                go_enter Try.func66, Try.ntmps66
                go_wp2_with fail
                rw [← hW]
                clear hW
                go_quiet ((go_at_call 35; refine Calls.quiet_of_same (IN _)))
                go_wp2_with fail
                go_ret
                exact ⟨rtB HW.out.symm, below_drewN hb0 _⟩
              · have hl2i : decide ((ks.length : Int) < 2) = false := by simp; omega
                have HW : Hid (rightT ss (.mk k v ks) = rightL ss k none ks) := by show _ = _; rw [HW0.out, if_neg hv, HA.out.1, if_pos rfl, hve, decide_eq_true (by omega : 2 ≤ ks.length), decide_eq_true (by omega)]; simp
                have cc2 := c2o
                clear HW0 hv hv0 hl2
                go_enter Try.func66, Try.ntmps66
                go_wp2_with fail
                rw [← hW]
                clear hW
                go_quiet ((go_at_call 35; refine Calls.quiet_of_same (IN _)))
                go_wp2_with fail
                go_loopw [5] (fun i wr => ∃ j : Nat, j ≤ ks.length ∧ i = .int .i64 j ∧ Hid (rightL ss k none ks = rightL ss k (if j = 0 then none else ks[j-1]?) (ks.drop j)) ∧ wr.cell? ⟨w.heap.size, 0, none⟩ = some (.int .i64 k) ∧ wr.cell? ⟨w.heap.size, 2, none⟩ = some (.slice a ks.length c) ∧ Below w.heap.size w wr ∧ w.heap.size < wr.heap.size) (fun i _ => ks.length - (intOf i).toNat)
                case atStart => exact ⟨0, Nat.zero_le _, rfl, by show _ = _; simp, p0, p2, below_drewN hb0 _, hwl0⟩
                case round =>
                  obtain ⟨j, hj, rfl, HK, hp0, hp2, hbr, hwl⟩ := hrel
                  clear p0 p1 p2 hb0 hwl0 c1
                  by_cases hj' : j < ks.length
                  · obtain ⟨b, off, a', c', rfl, hlt, d0, d1, d2, hkr⟩ := RdK.kid (HR.out.on (hbr.mono hhi)) hj'
                    have hji : (j : Int) < (ks.length : Int) := by omega
                    have hj0 : (0 : Int) ≤ (j : Int) := by omega
                    have hli : (ks.length : Int) ≤ 4194304 := by omega
                    have hpg := partsL_get hj'
                    have HD : Hid (ks.drop j = ks[j] :: ks.drop (j + 1)) := List.drop_eq_getElem_cons hj'
                    have g2 : wr.cell? ⟨b0, o0 + k * 3 + 2, none⟩ = some (.bool true) := hbr.cell (p := ⟨b0, o0 + k * 3 + 2, none⟩) hbl |>.trans cc2
                    have IR0 := fun W' (h : Below wr.heap.size wr W') => ih ks[j] a' c' hi W' (RdK.ints HR.out hj').1 (HS.out.below (hbr.trans (h.mono hbr.size))) (by omega) (by omega) (hkr.on (h.mono (Nat.le_trans hhi hbr.size))) (Nat.le_trans hhi (Nat.le_trans hbr.size h.size))
                    by_cases hkf : ks[j].f = k
                    · have hkfe : (ks[j].f == (k : Int)) = true := by simp [hkf]
                      have HF : Hid (rightT ss (.mk k v ks) = false) := by show _ = _; rw [HW.out, HK.out, HD.out, rightL, HA.out.1, hkfe]; simp
                      clear IR0 HK HD hkr hkf
                      go_wp2_with fail
                      go_quiet ((fail))
                      go_wp2_with fail
                      go_ret
                      exact ⟨rtB HF.out.symm, below_drewN hbr _⟩
                    · have hkfe : (ks[j].f == (k : Int)) = false := by simp [hkf]
                      by_cases hjz : j = 0
                      · have hjn : decide ((0 : Int) < (j : Int)) = false := by simp; omega
                        have hjn2 : decide (0 < j) = false := by simp; omega
                        have HJ : Hid ((if j = 0 then (none : Option TermD) else ks[j-1]?) = none) := by show _ = _; rw [if_pos hjz]
                        clear hjz hkf
                        cases hrt : rightT ss ks[j] with
                        | false =>
                          have IR : ∀ W', Below wr.heap.size wr W' → Calls Try.prog 66 #[.slice (some ⟨b0, o0, none⟩) ss.length sc, .agg #[.int .i64 ks[j].f, .int .i64 ks[j].v, .slice a' ks[j].kids.length c']] W' fun e w' => e = .returned (.bool false) ∧ Below W'.heap.size W' w' := fun W' h => by have := IR0 W' h; rwa [hrt] at this
                          have HF : Hid (rightT ss (.mk k v ks) = false) := by show _ = _; rw [HW.out, HK.out, HD.out, rightL, hrt]; simp
                          clear IR0 HK HD hrt hkr
                          go_wp2_with fail
                          have k0 := cellB hp0
                          have k2 := cellB hp2
                          have k3 := cellB g2
                          have k4 := cellB d0
                          have k5 := cellB d1
                          have k6 := cellB d2
                          refine wp_region_below (by kernel_rfl) (by kernel_rfl) ?_
                          repeat (go_big_quiet_step ((first | (go_at_call 66; refine callsB (IR _ (BW.b _))))))
                          refine wpQuiet_nil ?_
                          intro w2 hw'
                          have hb2 : Below wr.heap.size wr w2 := by obtain ⟨p, rfl⟩ := hw'; exact p.b
                          clear hw'
                          have hB2 : Below w.heap.size w w2 := hbr.trans (hb2.mono hbr.size)
                          have q0 := keepC hb2 hp0
                          have q2 := keepC hb2 hp2
                          clear k0 k2 k3 k4 k5 k6
                          go_wp2_with fail
                          go_ret
                          exact ⟨rtB HF.out.symm, hB2⟩
                        | true =>
                          have IR : ∀ W', Below wr.heap.size wr W' → Calls Try.prog 66 #[.slice (some ⟨b0, o0, none⟩) ss.length sc, .agg #[.int .i64 ks[j].f, .int .i64 ks[j].v, .slice a' ks[j].kids.length c']] W' fun e w' => e = .returned (.bool true) ∧ Below W'.heap.size W' w' := fun W' h => by have := IR0 W' h; rwa [hrt] at this
                          have HN : Hid (rightL ss k none ks = rightL ss k (if j + 1 = 0 then none else ks[j + 1 - 1]?) (ks.drop (j + 1))) := by show _ = _; rw [HK.out, HD.out, rightL, hrt, if_neg (by omega : ¬ j + 1 = 0), show j + 1 - 1 = j by omega, List.getElem?_eq_getElem hj']; rw [HJ.out, HA.out.1, hkfe]; simp [befO]
                          clear IR0 HK HD hrt hkr
                          go_wp2_with fail
                          have k0 := cellB hp0
                          have k2 := cellB hp2
                          have k3 := cellB g2
                          have k4 := cellB d0
                          have k5 := cellB d1
                          have k6 := cellB d2
                          refine wp_region_below (by kernel_rfl) (by kernel_rfl) ?_
                          repeat (go_big_quiet_step ((first | (go_at_call 66; refine callsB (IR _ (BW.b _))))))
                          refine wpQuiet_nil ?_
                          intro w2 hw'
                          have hb2 : Below wr.heap.size wr w2 := by obtain ⟨p, rfl⟩ := hw'; exact p.b
                          clear hw'
                          have hB2 : Below w.heap.size w w2 := hbr.trans (hb2.mono hbr.size)
                          have q0 := keepC hb2 hp0
                          have q2 := keepC hb2 hp2
                          clear k0 k2 k3 k4 k5 k6
                          go_wp2_with fail
                          go_roundw
                          case rel => exact ⟨j + 1, by omega, by go_num, HN, q0, q2, hB2, World.block_lt_of_cell? _ _ q0⟩
                          case measure => simp [intOf]; omega
                      · obtain ⟨i, rfl⟩ : ∃ i, j = i + 1 := ⟨j - 1, by omega⟩
                        have hi' : i < ks.length := by omega
                        obtain ⟨b9, off9, a9, c9, e9, hlt9, y0, y1, y2, hkr9⟩ := RdK.kid (HR.out.on (hbr.mono hhi)) hi'
                        cases e9
                        have hjn : (0 : Int) < ((i + 1 : Nat) : Int) := by omega
                        have hi0 : (0 : Int) ≤ (i : Int) := by omega
                        have hi1 : (i : Int) < (ks.length : Int) := by omega
                        have hsub : IntKind.i64.wrap (((i + 1 : Nat) : Int) - 1) = (i : Int) := by rw [IntKind.wrap_i64]; omega
                        have hsub2 : IntKind.i64.wrap ((i : Int) + 1 - 1) = (i : Int) := by rw [IntKind.wrap_i64]; omega
                        have hsub3 : IntKind.i64.wrap (i : Int) = (i : Int) := by rw [IntKind.wrap_i64]; omega
                        have HJ : Hid ((if i + 1 = 0 then (none : Option TermD) else ks[i + 1 - 1]?) = some ks[i]) := by show _ = _; rw [if_neg hjz, show i + 1 - 1 = i by omega, List.getElem?_eq_getElem hi']
                        have CB0 := fun W' (h : Below wr.heap.size wr W') => specBefore_any (partsT ks[i + 1]) ks[i + 1] ks[i] a' a9 c' c9 hi W' (Nat.le_refl _) (by omega) (hkr.on (h.mono (Nat.le_trans hhi hbr.size))) (hkr9.on (h.mono (Nat.le_trans hhi hbr.size))) (Nat.le_trans hhi (Nat.le_trans hbr.size h.size))
                        clear hjz hkf
                        cases hbf : befT ks[i + 1] ks[i] with
                        | true =>
                          have CB : ∀ W', Below wr.heap.size wr W' → Calls Try.prog 72 #[.agg #[.int .i64 ks[i + 1].f, .int .i64 ks[i + 1].v, .slice a' ks[i + 1].kids.length c'], .agg #[.int .i64 ks[i].f, .int .i64 ks[i].v, .slice a9 ks[i].kids.length c9]] W' fun e w' => e = .returned (.bool true) ∧ Below W'.heap.size W' w' := fun W' h => by have := CB0 W' h; rwa [hbf] at this
                          have HF : Hid (rightT ss (.mk k v ks) = false) := by show _ = _; rw [HW.out, HK.out, HD.out, rightL, HJ.out, HA.out.1, befO, hbf]; simp
                          clear IR0 CB0 HK HD hkr hkr9 hbf
                          go_wp2_with fail
                          have k0 := cellB hp0
                          have k2 := cellB hp2
                          have k3 := cellB g2
                          have k4 := cellB d0
                          have k5 := cellB d1
                          have k6 := cellB d2
                          have k7 := cellB y0
                          have k8 := cellB y1
                          have k9 := cellB y2
                          refine wp_region_below (by kernel_rfl) (by kernel_rfl) ?_
                          repeat (go_big_quiet_step ((go_at_call 72; refine callsB (CB _ (BW.b _)))))
                          refine wpQuiet_nil ?_
                          intro w2 hw'
                          have hb2 : Below wr.heap.size wr w2 := by obtain ⟨p, rfl⟩ := hw'; exact p.b
                          clear hw'
                          have hB2 : Below w.heap.size w w2 := hbr.trans (hb2.mono hbr.size)
                          clear k0 k2 k3 k4 k5 k6 k7 k8 k9
                          go_wp2_with fail
                          go_ret
                          exact ⟨rtB HF.out.symm, hB2⟩
                        | false =>
                          have CB : ∀ W', Below wr.heap.size wr W' → Calls Try.prog 72 #[.agg #[.int .i64 ks[i + 1].f, .int .i64 ks[i + 1].v, .slice a' ks[i + 1].kids.length c'], .agg #[.int .i64 ks[i].f, .int .i64 ks[i].v, .slice a9 ks[i].kids.length c9]] W' fun e w' => e = .returned (.bool false) ∧ Below W'.heap.size W' w' := fun W' h => by have := CB0 W' h; rwa [hbf] at this
                          clear CB0 hkr9
                          cases hrt : rightT ss ks[i + 1] with
                          | false =>
                            have IR : ∀ W', Below wr.heap.size wr W' → Calls Try.prog 66 #[.slice (some ⟨b0, o0, none⟩) ss.length sc, .agg #[.int .i64 ks[i + 1].f, .int .i64 ks[i + 1].v, .slice a' ks[i + 1].kids.length c']] W' fun e w' => e = .returned (.bool false) ∧ Below W'.heap.size W' w' := fun W' h => by have := IR0 W' h; rwa [hrt] at this
                            have HF : Hid (rightT ss (.mk k v ks) = false) := by show _ = _; rw [HW.out, HK.out, HD.out, rightL, hrt]; simp
                            clear IR0 HK HD hrt hkr hbf
                            go_wp2_with fail
                            have k0 := cellB hp0
                            have k2 := cellB hp2
                            have k3 := cellB g2
                            have k4 := cellB d0
                            have k5 := cellB d1
                            have k6 := cellB d2
                            have k7 := cellB y0
                            have k8 := cellB y1
                            have k9 := cellB y2
                            refine wp_region_below (by kernel_rfl) (by kernel_rfl) ?_
                            repeat (go_big_quiet_step ((first | (go_at_call 66; refine callsB (IR _ (BW.b _))) | (go_at_call 72; refine callsB (CB _ (BW.b _))))))
                            refine wpQuiet_nil ?_
                            intro w2 hw'
                            have hb2 : Below wr.heap.size wr w2 := by obtain ⟨p, rfl⟩ := hw'; exact p.b
                            clear hw'
                            have hB2 : Below w.heap.size w w2 := hbr.trans (hb2.mono hbr.size)
                            have q0 := keepC hb2 hp0
                            have q2 := keepC hb2 hp2
                            clear k0 k2 k3 k4 k5 k6
                            go_wp2_with fail
                            go_ret
                            exact ⟨rtB HF.out.symm, hB2⟩
                          | true =>
                            have IR : ∀ W', Below wr.heap.size wr W' → Calls Try.prog 66 #[.slice (some ⟨b0, o0, none⟩) ss.length sc, .agg #[.int .i64 ks[i + 1].f, .int .i64 ks[i + 1].v, .slice a' ks[i + 1].kids.length c']] W' fun e w' => e = .returned (.bool true) ∧ Below W'.heap.size W' w' := fun W' h => by have := IR0 W' h; rwa [hrt] at this
                            have HN : Hid (rightL ss k none ks = rightL ss k (if i + 1 + 1 = 0 then none else ks[i + 1 + 1 - 1]?) (ks.drop (i + 1 + 1))) := by show _ = _; rw [HK.out, HD.out, rightL, hrt, if_neg (by omega : ¬ i + 1 + 1 = 0), show i + 1 + 1 - 1 = i + 1 by omega, List.getElem?_eq_getElem hj']; rw [HJ.out, HA.out.1, hkfe, befO, hbf]; simp
                            clear IR0 HK HD hrt hkr hbf
                            go_wp2_with fail
                            have k0 := cellB hp0
                            have k2 := cellB hp2
                            have k3 := cellB g2
                            have k4 := cellB d0
                            have k5 := cellB d1
                            have k6 := cellB d2
                            have k7 := cellB y0
                            have k8 := cellB y1
                            have k9 := cellB y2
                            refine wp_region_below (by kernel_rfl) (by kernel_rfl) ?_
                            repeat (go_big_quiet_step ((first | (go_at_call 66; refine callsB (IR _ (BW.b _))) | (go_at_call 72; refine callsB (CB _ (BW.b _))))))
                            refine wpQuiet_nil ?_
                            intro w2 hw'
                            have hb2 : Below wr.heap.size wr w2 := by obtain ⟨p, rfl⟩ := hw'; exact p.b
                            clear hw'
                            have hB2 : Below w.heap.size w w2 := hbr.trans (hb2.mono hbr.size)
                            have q0 := keepC hb2 hp0
                            have q2 := keepC hb2 hp2
                            clear k0 k2 k3 k4 k5 k6
                            go_wp2_with fail
                            go_roundw
                            case rel => exact ⟨i + 1 + 1, by omega, by go_num, HN, q0, q2, hB2, World.block_lt_of_cell? _ _ q0⟩
                            case measure => simp [intOf]; omega
                  · have HE : Hid (rightT ss (.mk k v ks) = true) := by show _ = _; rw [HW.out, HK.out, List.drop_eq_nil_of_le (by omega), rightL]
                    clear HK
                    go_wp2_with fail
                    go_ret
                    exact ⟨rtB HE.out.symm, hbr⟩
          · have hve : (v == 0) = false := by simp [hv0]
            have hvn : (v != 0) = true := by simp [hv0]
            have HW : Hid (rightT ss (.mk k v ks) = false) := by show _ = _; rw [HW0.out, if_neg hv, hve]; simp
            clear HW0 hv hv0 HA
            go_enter Try.func66, Try.ntmps66
            go_wp2_with fail
            rw [← hW]
            clear hW
            go_quiet ((go_at_call 35; refine Calls.quiet_of_same (IN _)))
            go_wp2_with fail
            go_ret
            exact ⟨rtB HW.out.symm, below_drewN hb0 _⟩
      · have HW : Hid (rightT ss (.mk f v ks) = false) := by show _ = _; rw [HW0.out, if_neg hv, decide_eq_false hin]; simp
        have IN := fun w => l1In_any f 0 ((ss.length : Int) - 1) w
        rw [show (decide ((0 : Int) ≤ f) && decide (f ≤ (ss.length : Int) - 1)) = false by simp; omega] at IN
        have hsl : (ss.length : Int) ≤ 1048577 := by omega
        clear HW0 hv hs hin
        go_enter Try.func66, Try.ntmps66
        go_wp2_with fail
        rw [← hW]
        clear hW
        have hwr : IntKind.i64.wrap ((ss.length : Int) - 1) = (ss.length : Int) - 1 := by rw [IntKind.wrap_i64]; omega
        go_quiet ((go_at_call 35; refine Calls.quiet_of_same (IN _)))
        go_wp2_with fail
        go_ret
        exact ⟨rtB HW.out.symm, below_drewN hb0 _⟩
end Go.Proofs.Ytkjlldbgooogdab

/- Whether a term is right, its size too, as the specification tells it. Conditions: terms of at most 4194304 parts, at most 1048577 functions. -/
namespace Go.Proofs.Ytkjlldbgooogdab
set_option maxRecDepth 100000
open Go.RowKit

set_option maxHeartbeats 3200000 in
theorem specTermOk_any (sa : Option Addr) (ss : List SymD) (sc : Nat) (hss : ss.length ≤ 1048577) (hnm : ∀ s ∈ ss, s.name.size ≤ 1048576) (t : TermD) (a : Option Addr) (c hi : Nat) (w : World) (hf : isW t.f) (hs : RdS w sa ss) (hp : partsT t ≤ 4194304) (hr : RdK w hi a t.kids) (hhi : hi ≤ w.heap.size) :
    Calls Try.prog 47 #[.slice sa ss.length sc, .agg #[.int .i64 t.f, .int .i64 t.v, .slice a t.kids.length c]] w fun e w' => e = .returned (.bool (sigOk ss && decide (partsT t ≤ 60) && rightT ss t)) ∧ Below w.heap.size w w' := by
  obtain ⟨W, hW⟩ : ∃ W, W = w.alloc (.cells #[.int .i64 t.f, .int .i64 t.v, .slice a t.kids.length c] 28) := ⟨_, rfl⟩
  have hB : Below w.heap.size w W := by rw [hW]; exact (Below.refl _ _).alloc (Nat.le_refl _) _
  have p0 : W.cell? ⟨w.heap.size, 0, none⟩ = some (.int .i64 t.f) := by rw [hW]; simp [go_sem]
  have p1 : W.cell? ⟨w.heap.size, 1, none⟩ = some (.int .i64 t.v) := by rw [hW]; simp [go_sem]
  have p2 : W.cell? ⟨w.heap.size, 2, none⟩ = some (.slice a t.kids.length c) := by rw [hW]; simp [go_sem]
  have CS := fun W' (h : Below W.heap.size W W') => specSigOk_any sa ss ss.length sc W' rfl ((hs.below hB).below h) hss hnm
  have CP := fun W' (h : Below W.heap.size W W') => specParts_any (partsT t) t a c hi W' (Nat.le_refl _) hp (hr.on ((hB.trans (h.mono hB.size)).mono hhi)) (Nat.le_trans hhi (Nat.le_trans hB.size h.size))
  have CR := fun W' (h : Below W.heap.size W W') => l4Right_any sa ss sc hss (partsT t) t a c hi W' hf ((hs.below hB).below h) (Nat.le_refl _) hp (hr.on ((hB.trans (h.mono hB.size)).mono hhi)) (Nat.le_trans hhi (Nat.le_trans hB.size h.size))
  clear hs hr hf
  cases hsg : sigOk ss with
  | false =>
    simp only [hsg] at CS
    clear CP CR
    go_enter Try.func47, Try.ntmps47
    go_wp2_with (go_at_call 64; rw [← hW]; refine (CS _ (Below.refl _ _)).mono ?_; rintro e w1 ⟨rfl, hw⟩; subst w1; clear hW)
    go_ret
    exact ⟨rtB (by simp), hB⟩
  | true =>
    simp only [hsg] at CS
    by_cases h60 : partsT t ≤ 60
    · have h60i : ((partsT t : Nat) : Int) ≤ 60 := by omega
      rw [decide_eq_true h60]
      go_enter Try.func47, Try.ntmps47
      go_wp2_with (first
        | (go_at_call 64; rw [← hW]; refine (CS _ (Below.refl _ _)).mono ?_; rintro e w1 ⟨rfl, hw⟩; subst w1; clear hW)
        | (go_at_call 65; refine (CP _ (Below.refl _ _)).mono ?_; rintro e w2 ⟨rfl, hb2⟩; have q0 := keepC hb2 p0; have q1 := keepC hb2 p1; have q2 := keepC hb2 p2; have hB2 : Below w.heap.size w w2 := hB.trans (hb2.mono hB.size); clear p0 p1 p2)
        | (go_at_call 66; refine (CR _ hb2).mono ?_; rintro e w3 ⟨rfl, hb3⟩; have hB3 : Below w.heap.size w w3 := hB2.trans (hb3.mono hB2.size)))
      go_ret
      exact ⟨rtB (by simp), hB3⟩
    · have h60i : ¬ ((partsT t : Nat) : Int) ≤ 60 := by omega
      rw [decide_eq_false h60]
      clear CR
      go_enter Try.func47, Try.ntmps47
      go_wp2_with (first
        | (go_at_call 64; rw [← hW]; refine (CS _ (Below.refl _ _)).mono ?_; rintro e w1 ⟨rfl, hw⟩; subst w1; clear hW)
        | (go_at_call 65; refine (CP _ (Below.refl _ _)).mono ?_; rintro e w2 ⟨rfl, hb2⟩; have q0 := keepC hb2 p0; have q1 := keepC hb2 p1; have q2 := keepC hb2 p2; have hB2 : Below w.heap.size w w2 := hB.trans (hb2.mono hB.size); clear p0 p1 p2))
      go_ret
      exact ⟨rtB (by simp), hB2⟩
end Go.Proofs.Ytkjlldbgooogdab

