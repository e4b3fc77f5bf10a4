/- What the proof of FnOneForm stands on, part 9 of 11: each piece says what it proves and under which conditions. Conditions: as each piece says. -/
import Derived.Test.YtollijngiioonaaPackOneForm8
import Derived.Deep.LoopGhost
import Derived.Test.YtollijngiioonaaProg
/- The program's way to one form: a term whose Kids are all done is closed. Conditions: at most 549755813888 Kids, each of at most 549755813888 parts. -/
namespace Go.Proofs.Ytollijngiioonaa
set_option maxRecDepth 100000
open Go.RowKit Go.Sort Go.Lib

theorem cs3_at (L : List FE) (t : Nat) (h : t < L.length * 3) : (cs3 (L.map FE.cells))[t]? = some (encE L.toArray[t / 3]!)[t % 3]! := by
  obtain ⟨c0, c1, c2⟩ := cs3_get (L.map FE.cells) (t / 3) (by simp; omega)
  have hlt : t / 3 < L.length := by omega
  have e1 : L.toArray[t / 3]! = L[t / 3] := by simp [hlt]
  rw [e1]
  have h3 : t % 3 = 0 ∨ t % 3 = 1 ∨ t % 3 = 2 := by omega
  rcases h3 with q | q | q
  · rw [show t / 3 * 3 = t by omega] at c0; rw [c0, q]; simp [FE.cells, encE]
  · rw [show t / 3 * 3 + 1 = t by omega] at c1; rw [c1, q]; simp [FE.cells, encE]
  · rw [show t / 3 * 3 + 2 = t by omega] at c2; rw [c2, q]; simp [FE.cells, encE]

/-- A row of terms of which no two share a block is a list that owns its memory. -/
theorem owns_row {w : World} {g : Nat} {L : List FE} {S : Nat → Prop} (hg : g < w.heap.size) (hS : S g) (hl : L.length ≤ 9223372036854775807) (hc : ∀ i, (hi : i < L.length) → w.cell? ⟨g, i * 3, none⟩ = some (.int .i64 L[i].t.f) ∧ w.cell? ⟨g, i * 3 + 1, none⟩ = some (.int .i64 L[i].t.v) ∧ w.cell? ⟨g, i * 3 + 2, none⟩ = some (.slice L[i].a L[i].t.kids.length L[i].c)) (hf : ∀ j, w.frozen? ⟨g, j, none⟩ = false)
    (he : ∀ e ∈ L, OwnS w e.K e.a e.t.kids ∧ e.t.kids.length ≤ e.c ∧ (isW e.t.f ∧ isW e.t.v) ∧ ∀ k, e.K k → S k ∧ k ≠ g) (hd : L.Pairwise fun e d => ∀ k, e.K k → ¬ d.K k) : OwnS w S (some ⟨g, 0, none⟩) (L.map FE.t) := by
  refine .row S g 0 (L.map FE.t) (fun i => (L[i]?.map FE.a).getD none) (fun i => (L[i]?.map FE.c).getD 0) (fun i x => ∃ e, L[i]? = some e ∧ e.K x) hS hg ⟨by simpa using hl, fun i hi => ?_⟩ (fun i hi => ?_) (fun i hi => ?_) hf (fun i x hi hx => ?_) (fun i j x hi hj hne hx hy => ?_) (fun i hi => ?_)
  · have hi' : i < L.length := by simpa using hi
    simpa [hi'] using (he _ (List.getElem_mem hi')).2.1
  · have hi' : i < L.length := by simpa using hi
    simpa using (he _ (List.getElem_mem hi')).2.2.1
  · have hi' : i < L.length := by simpa using hi
    simpa [hi'] using hc i hi'
  · obtain ⟨e, q, hx⟩ := hx
    obtain ⟨hi', e0⟩ := List.getElem?_eq_some_iff.1 q
    exact (he e (e0 ▸ List.getElem_mem hi')).2.2.2 x hx
  · obtain ⟨e, q, hx⟩ := hx
    obtain ⟨d, q', hy⟩ := hy
    obtain ⟨hi', e0⟩ := List.getElem?_eq_some_iff.1 q
    obtain ⟨hj', e1⟩ := List.getElem?_eq_some_iff.1 q'
    rcases Nat.lt_or_gt_of_ne hne with hh | hh
    · exact (e0 ▸ e1 ▸ List.pairwise_iff_getElem.1 hd i j hi' hj' hh) x hx hy
    · exact (e1 ▸ e0 ▸ List.pairwise_iff_getElem.1 hd j i hj' hi' hh) x hy hx
  · have hi' : i < L.length := by simpa using hi
    have := (he _ (List.getElem_mem hi')).1
    simp only [hi', List.getElem?_eq_getElem, Option.map_some, Option.getD_some, List.getElem_map]
    exact this.mono (fun x hx => ⟨_, rfl, hx⟩)

theorem MR.owns {n0 B : Nat} {x : FM} {w : World} (h : MR n0 B x w) (hl : x.L.length ≤ 549755813888) : OwnS w x.S x.am (x.L.map FE.t) := by
  have hr := h.row
  cases hL : x.L with
  | nil => exact .nil _ _
  | cons e0 L0 =>
    have hL' : x.L.length = L0.length + 1 := by rw [hL]; simp
    rw [hL'] at hr
    obtain ⟨g, c, e, _, _, hgl⟩ := own_slot hr
    have ea : x.am = some ⟨g, 0, none⟩ := (Value.slice.inj e).1
    have hb : (Value.slice x.am x.L.length x.cm).ownBlock = some g := by rw [ea]; rfl
    rw [ea, ← hL]
    refine owns_row hgl (.inl hb) (by omega) (fun i hi => ?_) (fun j => by have := h.row; rw [ea] at this; exact this.frozenAt j) (fun d hd => ⟨(h.el d hd).1, (h.el d hd).2.1, (h.el d hd).2.2.1, fun k hk => ⟨.inr ⟨d, hd, hk⟩, fun q => h.ap g hb d hd (q ▸ hk)⟩⟩) h.dis
    have hrow := h.row
    rw [ea] at hrow
    obtain ⟨c0, c1, c2⟩ := cs3_cells (l := x.L.map FE.cells) (k := i) (by simp) (by simpa using hi) hrow
    simp only [List.getElem_map, FE.cells] at c0 c1 c2
    exact ⟨c0, c1, c2⟩

/-- What sort.Slice finds. -/
theorem MR.ko {n0 B g kb : Nat} {x : FM} {w W : World} (h : MR n0 B x w) (hb : Below w.heap.size w W) (ha : x.am = some ⟨g, 0, none⟩) (hk : W.cell? ⟨kb, 0, none⟩ = some (.slice (some ⟨g, 0, none⟩) x.L.length x.L.length)) (hp : ∀ e ∈ x.L, partsT e.t ≤ 549755813888) : KO g kb W.heap.size x.L.length x.L.toArray W := by
  have hrow := h.row
  rw [ha] at hrow
  have hgl := (hrow.lt g rfl).2
  have hr := own_on hrow hb
  refine ⟨fun t ht => ?_, by simp, fun i hi => ?_, fun j => hr.frozenAt j, hk, Nat.le_refl _⟩
  · have ht' : t < x.L.length * 3 := by simpa using ht
    refine ⟨?_, hr.frozenAt _⟩
    rw [Nat.zero_add, hr.cellAt t (by omega), cs3_at x.L t ht']
    have e1 := get_flatK encE 3 x.L.toArray t (by simpa using ht')
    rw [e1]; rfl
  · have e1 : x.L.toArray[i]! = x.L[i] := by simp [hi]
    rw [e1]
    have hm : x.L[i] ∈ x.L := List.getElem_mem hi
    have he := h.el _ hm
    refine ⟨he.1.frame (fun k hk => hb.block k (he.2.2.2 k hk).2) hb.size, he.2.1, hp _ hm, fun k hk => ⟨fun q => h.ap g (by rw [ha]; rfl) _ hm (q ▸ hk), Nat.lt_of_lt_of_le (he.2.2.2 k hk).2 hb.size⟩⟩

/-- What sort.Slice leaves. -/
theorem KO.owns {g kb base n : Nat} {d d0 : Array FE} {W : World} {S : Nat → Prop} (h : KO g kb base n d W) (hg : g < W.heap.size) (hn : n ≤ 549755813888) (hp : d.toList.Perm d0.toList) (hS : S g) (h0 : ∀ e ∈ d0.toList, (isW e.t.f ∧ isW e.t.v) ∧ ∀ k, e.K k → S k) (hd : d0.toList.Pairwise fun e d => ∀ k, e.K k → ¬ d.K k) : OwnS W S (some ⟨g, 0, none⟩) (d.toList.map FE.t) := by
  have hsz := h.sz
  refine owns_row hg hS (by simp; omega) (fun i hi => ?_) h.fr (fun e he => ?_) ((hp.pairwise_iff (fun hxy z hz hz' => hxy z hz' hz)).2 hd)
  · have hi' : i < d.size := by simpa using hi
    have c0 := (h.h.cell (i := i) (c := 0) hi' (by omega)).1
    have c1 := (h.h.cell (i := i) (c := 1) hi' (by omega)).1
    have c2 := (h.h.cell (i := i) (c := 2) hi' (by omega)).1
    have e1 : d[i]! = d.toList[i] := by simp [hi']
    rw [e1] at c0 c1 c2
    simp only [encE, List.getElem!_cons_zero, List.getElem!_cons_succ, Nat.zero_add, Nat.add_zero] at c0 c1 c2
    exact ⟨c0, c1, c2⟩
  · obtain ⟨i, hi, e1⟩ := List.getElem_of_mem he
    have hi' : i < d.size := by simpa using hi
    have e2 : d[i]! = e := by rw [← e1]; simp [hi']
    have o := h.own i (by omega)
    rw [e2] at o
    have m := h0 e (hp.subset he)
    exact ⟨o.1, o.2.1, m.1, fun k hk => ⟨m.2 k hk, (o.2.2.2 k hk).1⟩⟩

/-- The answer's three cells, stored behind all else. -/
theorem fin3 {n : Nat} {w W' : World} {S : Nat → Prop} {a : Option Addr} {ts : List TermD} {u v s : Value} (ho : OwnS W' S a ts) (hS : ∀ k, S k → k < n) (hst : Stay (fun k => ¬ S k) w W') (hw : n ≤ w.heap.size) :
    OwnS (((W'.setCell ⟨n + 1, 0, none⟩ u).setCell ⟨n + 1, 1, none⟩ v).setCell ⟨n + 1, 2, none⟩ s) S a ts ∧ Stay (fun k => k < n ∧ ¬ S k) w (((W'.setCell ⟨n + 1, 0, none⟩ u).setCell ⟨n + 1, 1, none⟩ v).setCell ⟨n + 1, 2, none⟩ s) := by
  have hn : ∀ j, ¬ S (⟨n + 1, j, none⟩ : Addr).block := fun j hk => by have := hS _ hk; simp only at this; omega
  have _ := hw
  exact ⟨((ho.setCell ⟨n + 1, 0, none⟩ (hn 0) u).setCell ⟨n + 1, 1, none⟩ (hn 1) v).setCell ⟨n + 1, 2, none⟩ (hn 2) s,
    (((hst.weak (fun _ _ hk => hk.2)).trans (.setCell _ _ (fun hk => by have := hk.1; simp only at this; omega))).trans (.setCell _ _ (fun hk => by have := hk.1; simp only at this; omega))).trans (.setCell _ _ (fun hk => by have := hk.1; simp only at this; omega))⟩

set_option maxHeartbeats 1600000 in
theorem closed_plain (sa : Option Addr) (ss : List SymD) (sc n0 B h : Nat) (x : FM) (w : World) (hs : RdS w sa ss) (M : MR n0 B x w) (hl : x.L.length ≤ 549755813888) (hbl : blindAt ss x.t.f = false) :
    Calls Try.prog 39 #[.agg #[.int .i64 x.t.f, .int .i64 x.t.v, .slice x.a x.t.kids.length x.c, .slice x.al x.left.length x.cl, .slice x.am x.L.length x.cm, .int .i64 h], .slice sa ss.length sc] w fun e w' => e = .returned (.agg #[.int .i64 x.t.f, .int .i64 x.t.v, .slice x.am x.L.length x.L.length]) ∧ OwnS w' x.S x.am (x.L.map FE.t) ∧ Stay (fun k => k < w.heap.size ∧ ¬ x.S k) w w' := by
  obtain ⟨W, hW⟩ : ∃ W, W = ((w.alloc (.cells #[.int .i64 x.t.f, .int .i64 x.t.v, .slice x.a x.t.kids.length x.c, .slice x.al x.left.length x.cl, .slice x.am x.L.length x.cm, .int .i64 h] 70)).alloc (.cells #[.int .i64 0, .int .i64 0, .slice none 0 0] 27)).alloc (.cells #[.slice x.am x.L.length x.L.length] 25) := ⟨_, rfl⟩
  have hB0 : Below w.heap.size w W := by rw [hW]; exact (((Below.refl _ _).alloc (Nat.le_refl _) _).alloc (by simp) _).alloc (by simp; omega) _
  have hz : W.heap.size = w.heap.size + 1 + 1 + 1 := by rw [hW]; simp
  have p0 : W.cell? ⟨w.heap.size, 0, none⟩ = some (.int .i64 x.t.f) := by rw [hW]; simp [go_sem]
  have p1 : W.cell? ⟨w.heap.size, 1, none⟩ = some (.int .i64 x.t.v) := by rw [hW]; simp [go_sem]
  have r0 : W.cell? ⟨w.heap.size + 1, 0, none⟩ = some (.int .i64 0) := by rw [hW]; simp [go_sem]
  have r1 : W.cell? ⟨w.heap.size + 1, 1, none⟩ = some (.int .i64 0) := by rw [hW]; simp [go_sem]
  have r2 : W.cell? ⟨w.heap.size + 1, 2, none⟩ = some (.slice none 0 0) := by rw [hW]; simp [go_sem]
  have fr : ∀ j, W.frozen? ⟨w.heap.size + 1, j, none⟩ = false := fun j => by rw [hW]; simp [go_sem]
  have q0 : W.cell? ⟨w.heap.size + 1 + 1, 0, none⟩ = some (.slice x.am x.L.length x.L.length) := by rw [hW]; simp [go_sem]
  have CB := impBlind_any sa ss ss.length sc x.t.f W rfl (hs.below hB0)
  have hcm : x.L.length ≤ x.cm := by obtain ⟨_, _, e, hh⟩ := own_form M.row; rw [(Value.slice.inj e).2.2]; exact hh
  have hcmz : (x.L.length : Int) ≤ (x.cm : Int) := by omega
  rw [hbl] at CB
  have HO : Hid (∀ W', Below w.heap.size w W' → OwnS W' x.S x.am (x.L.map FE.t)) := fun W' hb => (M.owns hl).frame (fun k hk => hb.block k (M.lt k hk).2) hb.size
  clear hs M hbl r0 r1 r2 fr
  generalize x.L.length = n at *
  generalize x.am = am at *
  go_enter Try.func39, Try.ntmps39
  go_wp2_with (go_at_call 14; rw [← hW]; refine CB.mono ?_; rintro e w1 ⟨rfl, hw1⟩; subst w1)
  refine bodyPost_ret (v := .agg #[.int .i64 x.t.f, .int .i64 x.t.v, .slice am n n]) (by simp [results, Try.results39, go_sem]) rfl ?_
  have hb : ∀ o1 o2 o3, Below w.heap.size w (((w.alloc o1).alloc o2).alloc o3) := fun o1 o2 o3 => (((Below.refl _ _).alloc (Nat.le_refl _) o1).alloc (by simp) o2).alloc (by simp; omega) o3
  exact ⟨rfl, HO.out _ (hb _ _ _), .of_below (hb _ _ _) (fun _ hk _ => hk)⟩

theorem perm_one {a : List TermD} (h : a.length ≤ 1) : sortT a = a := by
  match a, h with
  | [], _ => rfl
  | [x], _ => simp [sortT, putT]
  | _ :: _ :: _, h => simp at h

set_option maxHeartbeats 1600000 in
theorem closed_blind (sa : Option Addr) (ss : List SymD) (sc n0 B h : Nat) (x : FM) (w : World) (hs : RdS w sa ss) (M : MR n0 B x w) (hl : x.L.length ≤ 549755813888) (hp : ∀ e ∈ x.L, partsT e.t ≤ 549755813888) (hbl : blindAt ss x.t.f = true) :
    Calls Try.prog 39 #[.agg #[.int .i64 x.t.f, .int .i64 x.t.v, .slice x.a x.t.kids.length x.c, .slice x.al x.left.length x.cl, .slice x.am x.L.length x.cm, .int .i64 h], .slice sa ss.length sc] w fun e w' => e = .returned (.agg #[.int .i64 x.t.f, .int .i64 x.t.v, .slice x.am x.L.length x.L.length]) ∧ OwnS w' x.S x.am (sortT (x.L.map FE.t)) ∧ Stay (fun k => k < w.heap.size ∧ ¬ x.S k) w w' := by
  obtain ⟨W, hW⟩ : ∃ W, W = ((w.alloc (.cells #[.int .i64 x.t.f, .int .i64 x.t.v, .slice x.a x.t.kids.length x.c, .slice x.al x.left.length x.cl, .slice x.am x.L.length x.cm, .int .i64 h] 70)).alloc (.cells #[.int .i64 0, .int .i64 0, .slice none 0 0] 27)).alloc (.cells #[.slice x.am x.L.length x.L.length] 25) := ⟨_, rfl⟩
  have hB0 : Below w.heap.size w W := by rw [hW]; exact (((Below.refl _ _).alloc (Nat.le_refl _) _).alloc (by simp) _).alloc (by simp; omega) _
  have hz : W.heap.size = w.heap.size + 1 + 1 + 1 := by rw [hW]; simp
  have p0 : W.cell? ⟨w.heap.size, 0, none⟩ = some (.int .i64 x.t.f) := by rw [hW]; simp [go_sem]
  have p1 : W.cell? ⟨w.heap.size, 1, none⟩ = some (.int .i64 x.t.v) := by rw [hW]; simp [go_sem]
  have r0 : W.cell? ⟨w.heap.size + 1, 0, none⟩ = some (.int .i64 0) := by rw [hW]; simp [go_sem]
  have r1 : W.cell? ⟨w.heap.size + 1, 1, none⟩ = some (.int .i64 0) := by rw [hW]; simp [go_sem]
  have r2 : W.cell? ⟨w.heap.size + 1, 2, none⟩ = some (.slice none 0 0) := by rw [hW]; simp [go_sem]
  have fr : ∀ j, W.frozen? ⟨w.heap.size + 1, j, none⟩ = false := fun j => by rw [hW]; simp [go_sem]
  have q0 : W.cell? ⟨w.heap.size + 1 + 1, 0, none⟩ = some (.slice x.am x.L.length x.L.length) := by rw [hW]; simp [go_sem]
  have CB := impBlind_any sa ss ss.length sc x.t.f W rfl (hs.below hB0)
  have hcm : x.L.length ≤ x.cm := by obtain ⟨_, _, e, hh⟩ := own_form M.row; rw [(Value.slice.inj e).2.2]; exact hh
  have hcmz : (x.L.length : Int) ≤ (x.cm : Int) := by omega
  rw [hbl] at CB
  have hMlt : ∀ k, x.S k → k < w.heap.size := fun k hk => (M.lt k hk).2
  have CS : Calls Try.prog 67 #[.iface 25 (.slice x.am x.L.length x.L.length), .func (.func 68) #[] #[.pointer (some ⟨w.heap.size + 1 + 1, 0, none⟩)]] W fun e W' => e = .returned (.tuple #[]) ∧ OwnS W' x.S x.am (sortT (x.L.map FE.t)) ∧ Stay (fun k => ¬ x.S k) W W' := by
    by_cases h2 : 2 ≤ x.L.length
    · obtain ⟨m, hm⟩ : ∃ m, x.L.length = m + 1 := ⟨x.L.length - 1, by omega⟩
      have hr := M.row
      rw [hm] at hr
      obtain ⟨g, c, e, _, _, hgl⟩ := own_slot hr
      have ea : x.am = some ⟨g, 0, none⟩ := (Value.slice.inj e).1
      have hgS : x.S g := .inl (by rw [ea]; rfl)
      have ko := M.ko hB0 ea (by rw [← ea]; exact q0) hp
      have hgW : g < W.heap.size := by omega
      rw [ea]
      refine (sortKids_any (base := W.heap.size) hgW (by omega) (by omega) (by omega) h2 x.L.toArray W ko).mono ?_
      rintro e W' ⟨rfl, d', k', pp, ps, hst⟩
      refine ⟨rfl, ?_, hst.weak (fun k _ hk q => hk (q ▸ hgS))⟩
      have ho := k'.owns (S := x.S) (Nat.lt_of_lt_of_le hgW hst.size) hl pp hgS (fun e he => ⟨(M.el e (by simpa using he)).2.2.1, fun k hk => .inr ⟨e, by simpa using he, hk⟩⟩) (by simpa using M.dis)
      have e1 : d'.toList.map FE.t = sortT (x.L.map FE.t) := sortT_eq (by simpa using pp.map FE.t) ps
      rw [← e1]; exact ho
    · have hone : sortT (x.L.map FE.t) = x.L.map FE.t := perm_one (by simp; omega)
      rw [hone]
      have ho := (M.owns hl).frame (fun k hk => hB0.block k (M.lt k hk).2) hB0.size
      have tiny : ∀ f, Try.prog.funcs.findIdx? (·.name == "internal/reflectlite" ++ ".Swapper$" ++ toString (Lib.swapperK x.L.length svE 25)) = some f → Calls Try.prog 67 #[.iface 25 (.slice x.am x.L.length x.L.length), .func (.func 68) #[] #[.pointer (some ⟨w.heap.size + 1 + 1, 0, none⟩)]] W fun e W' => e = .returned (.tuple #[]) ∧ OwnS W' x.S x.am (x.L.map FE.t) ∧ Stay (fun k => ¬ x.S k) W W' := fun f hf => by
        refine (Any.sort_Slice_tiny Try.laysGg6 25 27 svT svE (by kernel_rfl) (by kernel_rfl) (by kernel_rfl) (by kernel_rfl) 25 (fun _ => by kernel_rfl) x.am x.L.length x.L.length (by omega) f hf (.func 68) #[] #[.pointer (some ⟨w.heap.size + 1 + 1, 0, none⟩)] W).mono ?_
        rintro e W' ⟨rfl, os, rfl⟩
        have hb : Below W.heap.size W (grow W os) := ⟨rfl, rfl, rfl, by rw [size_grow]; omega, fun k hk => by show (W.heap ++ os)[k]? = W.heap[k]?; rw [Array.getElem?_append_left hk]⟩
        exact ⟨rfl, ho.frame (fun k hk => hb.block k (Nat.lt_of_lt_of_le (M.lt k hk).2 hB0.size)) hb.size, .of_below hb (fun _ hk _ => hk)⟩
      by_cases h0 : x.L.length = 0
      · exact tiny 98 (by rw [h0]; kernel_rfl)
      · have h1 : x.L.length = 1 := by omega
        exact tiny 99 (by rw [h1]; kernel_rfl)
  have HS : Hid (∀ k, x.S k → k < w.heap.size) := hMlt
  have HBW : Hid (Below w.heap.size w W) := hB0
  clear hs M hbl hMlt hp
  generalize x.L.length = n at *
  generalize x.am = am at *
  generalize sortT (x.L.map FE.t) = ts at *
  have hNS : ∀ k, w.heap.size ≤ k → ¬ x.S k := fun k hk q => by have := HS.out k q; omega
  have n0' := hNS w.heap.size (Nat.le_refl _)
  have n1' := hNS (w.heap.size + 1) (by omega)
  have n2' := hNS (w.heap.size + 1 + 1) (by omega)
  clear hNS
  go_enter Try.func39, Try.ntmps39
  go_wp2_with (first
    | (go_at_call 14; rw [← hW]; refine CB.mono ?_; rintro e w1 ⟨rfl, hw1⟩; subst w1; clear hW)
    | (go_at_call 67; refine CS.mono ?_; rintro e W' ⟨rfl, ho, hst⟩; have P0 := hst.cell p0 n0'; have P1 := hst.cell p1 n0'; have R0 := hst.cell r0 n1'; have R1 := hst.cell r1 n1'; have R2 := hst.cell r2 n1'; have Q0 := hst.cell q0 n2'; have FR : ∀ j, W'.frozen? ⟨w.heap.size + 1, j, none⟩ = false := (fun j => (hst.frozen (p := ⟨w.heap.size + 1, j, none⟩) (by rw [hz]; show w.heap.size + 1 < _; omega) n1').trans (fr j)); clear p0 p1 r0 r1 r2 q0 fr CS))
  obtain ⟨z0, z1, z2⟩ := set3_cells (u := W') (r := w.heap.size + 1) (x := .int .i64 x.t.f) (y := .int .i64 x.t.v) (z := .slice am n n) R0 R1 R2
  obtain ⟨fo, fs⟩ := fin3 (u := .int .i64 x.t.f) (v := .int .i64 x.t.v) (s := .slice am n n) ho HS.out ((Stay.of_below HBW.out (fun _ hk _ => hk)).trans hst) (Nat.le_refl _)
  exact bodyPost_ret (v := .agg #[.int .i64 x.t.f, .int .i64 x.t.v, .slice am n n]) (by simp [results, Try.results39, go_sem, z0, z1, z2]) rfl ⟨rfl, fo, fs⟩
end Go.Proofs.Ytollijngiioonaa

/- One form of a term, as the program makes it. Conditions: terms of at most 549755813887 parts. -/
namespace Go.Proofs.Ytollijngiioonaa
set_option maxRecDepth 100000
open Go.RowKit

/-- Parts of what is made. -/
def bulkP (l : List FD) : Nat := (l.map fun x => 1 + partsL x.left + partsL x.made).sum
theorem bulkP_add (A : List TermD) : ∀ l, bulkP (addHome A l) ≤ bulkP l + partsL A
  | [] => by simp [addHome, bulkP]
  | x :: r => by
    have ih := bulkP_add A r
    unfold bulkP at *
    rw [addHome]
    split
    · simp only [List.map_cons, List.sum_cons, partsL_append]; omega
    · simp only [List.map_cons, List.sum_cons]; omega
theorem bulkP_len (l : List FD) : l.length ≤ bulkP l := by
  induction l with
  | nil => simp
  | cons x r ih => unfold bulkP at *; simp only [List.length_cons, List.map_cons, List.sum_cons]; omega
theorem bulkP_cons (x : FD) (r : List FD) : bulkP (x :: r) = 1 + partsL x.left + partsL x.made + bulkP r := by simp [bulkP]
theorem todo_cons (x : FD) (r : List FD) : todo (x :: r) = 1 + 2 * partsL x.left + todo r := by simp [todo]
theorem bulkP_mem {x : FD} {l : List FD} (h : x ∈ l) : partsL x.left + partsL x.made < bulkP l := by
  induction l with
  | nil => simp at h
  | cons y r ih =>
    rw [bulkP_cons]
    rcases List.mem_cons.1 h with rfl | h
    · omega
    · have := ih h; omega
theorem sortT_parts (l : List TermD) : partsL (sortT l) = partsL l := by unfold sortT; rw [foldP_parts]; simp [partsL]
theorem close_parts (bl : Int → Bool) (f v : Int) (m : List TermD) : partsT (closeT bl f v m) = partsL m + 1 := by
  unfold closeT
  rw [partsT]
  split <;> simp [sortT_parts]

/-- A term that is closed. -/
theorem closed_any (sa : Option Addr) (ss : List SymD) (sc n0 B h : Nat) (x : FM) (w : World) (hs : RdS w sa ss) (M : MR n0 B x w) (hp : partsL (x.L.map FE.t) ≤ 549755813888) :
    Calls Try.prog 39 #[.agg #[.int .i64 x.t.f, .int .i64 x.t.v, .slice x.a x.t.kids.length x.c, .slice x.al x.left.length x.cl, .slice x.am x.L.length x.cm, .int .i64 h], .slice sa ss.length sc] w fun e w' => ∃ T : TermD, T = closeT (blindAt ss) x.t.f x.t.v (x.L.map FE.t) ∧ e = .returned (.agg #[.int .i64 T.f, .int .i64 T.v, .slice x.am T.kids.length T.kids.length]) ∧ OwnS w' x.S x.am T.kids ∧ Stay (fun k => k < w.heap.size ∧ ¬ x.S k) w w' := by
  have hl : x.L.length ≤ 549755813888 := by have := partsL_len (x.L.map FE.t); simp at this; omega
  have hpe : ∀ e ∈ x.L, partsT e.t ≤ 549755813888 := fun e he => by have := parts_kid (List.mem_map_of_mem (f := FE.t) he); omega
  cases hbl : blindAt ss x.t.f with
  | false =>
    refine (closed_plain sa ss sc n0 B h x w hs M hl hbl).mono ?_
    rintro e w' ⟨rfl, ho, hst⟩
    have hT : closeT (blindAt ss) x.t.f x.t.v (x.L.map FE.t) = .mk x.t.f x.t.v (x.L.map FE.t) := by unfold closeT; rw [if_neg (by rw [hbl]; simp)]
    refine ⟨_, hT.symm, ?_, ho, hst⟩
    show _ = Ending.returned (Value.agg #[.int .i64 x.t.f, .int .i64 x.t.v, .slice x.am (x.L.map FE.t).length (x.L.map FE.t).length])
    rw [List.length_map]
  | true =>
    have hlen : (sortT (x.L.map FE.t)).length = x.L.length := by have := (sortT_perm (x.L.map FE.t)).length_eq; simpa using this
    refine (closed_blind sa ss sc n0 B h x w hs M hl hpe hbl).mono ?_
    rintro e w' ⟨rfl, ho, hst⟩
    have hT : closeT (blindAt ss) x.t.f x.t.v (x.L.map FE.t) = .mk x.t.f x.t.v (sortT (x.L.map FE.t)) := by unfold closeT; rw [if_pos hbl]
    refine ⟨_, hT.symm, ?_, ho, hst⟩
    show _ = Ending.returned (Value.agg #[.int .i64 x.t.f, .int .i64 x.t.v, .slice x.am (sortT (x.L.map FE.t)).length (sortT (x.L.map FE.t)).length])
    rw [hlen]
theorem NSt.keep {n0 B : Nat} {F : List FM} {v : Value} {wr wr' : World} {S : Nat → Prop} (h : NSt n0 B F v wr) (hs : Stay S wr wr') (hn : ∀ k, k < n0 → S k) (hx : ∀ x ∈ F, ∀ k, x.S k → S k) (hv : ∀ g, v.ownBlock = some g → S g) : NSt n0 B F v wr' :=
  ⟨own_stay h.row hs hv, h.frames hs hn hx, h.dis, h.vb, Nat.le_trans h.z hs.size, h.n⟩

/-- The call's own boxes: the answer's place. -/
structure NB (w wr : World) : Prop where
  be : Below w.heap.size w wr
  c0 : wr.cell? ⟨w.heap.size + 1, 0, none⟩ = some (.int .i64 0)
  c1 : wr.cell? ⟨w.heap.size + 1, 1, none⟩ = some (.int .i64 0)
  c2 : wr.cell? ⟨w.heap.size + 1, 2, none⟩ = some (.slice none 0 0)
  cf : ∀ j, wr.frozen? ⟨w.heap.size + 1, j, none⟩ = false
  z : w.heap.size + 1 + 1 ≤ wr.heap.size
theorem NB.stay {w wr wr' : World} (h : NB w wr) (hs : Stay (fun k => k < w.heap.size + 1 + 1) wr wr') : NB w wr' := by
  have hz := h.z
  exact ⟨h.be.trans (hs.below h.be.size (fun k hk => by omega)), hs.cell h.c0 (by simp only; omega), hs.cell h.c1 (by simp only; omega), hs.cell h.c2 (by simp only; omega), fun j => (hs.frozen (p := ⟨w.heap.size + 1, j, none⟩) (by simp only; omega) (by simp only; omega)).trans (h.cf j), Nat.le_trans hz hs.size⟩
theorem NB.on {w wr wr' : World} (h : NB w wr) (hb : Below wr.heap.size wr wr') : NB w wr' := h.stay (.of_below hb (fun _ hk _ => hk))

/-- The outermost one is its own home. -/
def botH : List FM → Prop
  | [] => False
  | x :: r => (r = [] ∧ x.hm = true) ∨ botH r
theorem botH_has : ∀ {F : List FM}, botH F → hasHome F
  | [], h => h
  | _ :: _, h => h.elim (fun q => .inl q.2) (fun q => .inr (botH_has q))
theorem botH_rest {x : FM} {r : List FM} (h : botH (x :: r)) (hr : r ≠ []) : botH r := h.resolve_left (fun q => hr q.1)
theorem botH_put (e : FE) (am : Option Addr) (cm : Nat) : ∀ {F : List FM}, botH F → botH (putHome e am cm F)
  | [], h => h
  | x :: r, h => by
    unfold putHome
    split
    · rename_i hx; exact h.imp (fun q => ⟨q.1, hx⟩) id
    · rename_i hx
      refine .inr (botH_put e am cm (h.resolve_left (fun q => hx q.2)))

/-- What holds between two rounds. -/
structure NI (w : World) (bl : Int → Bool) (t : TermD) (N m : Nat) (F : List FM) (g cv : Nat) (wr : World) : Prop where
  st : NSt w.heap.size (w.heap.size + 1 + 1) F (.slice (some ⟨g, 0, none⟩) F.length cv) wr
  hh : botH F
  md : todo (F.map FM.d) ≤ m
  bk : bulkP (F.map FM.d) ≤ N
  fin : finS bl (F.map FM.d) = normT bl t
  nb : NB w wr
namespace NI
variable {w : World} {bl : Int → Bool} {t : TermD} {N m g cv : Nat} {x : FM} {r : List FM} {wr wr' : World}
theorem drop (h : NI w bl t N m (x :: r) g cv wr) (hl : x.left = []) (hx : x.hm = false) (hb : Below wr.heap.size wr wr') : NI w bl t N (m - 1) r g cv wr' ∧ 1 ≤ m := by
  have h1 := h.md
  have h2 := h.bk
  have h3 := h.fin
  rw [List.map_cons] at h1 h2 h3
  rw [todo_cons] at h1
  rw [bulkP_cons] at h2
  rw [fin_drop (show x.d.left = [] from hl) (show x.d.home = false from hx)] at h3
  exact ⟨⟨h.st.pop.on hb, h.hh.resolve_left (fun q => by rw [hx] at q; simp at q), by omega, by omega, h3, h.nb.on hb⟩, by omega⟩
theorem opn {k : TermD} {ks : List TermD} {ak al : Option Addr} {ck cl g' cv' : Nat} (h : NI w bl t N m (x :: r) g cv wr) (hl : x.left = k :: ks) (hst : NSt w.heap.size (w.heap.size + 1 + 1) (Go.Proofs.Ytollijngiioonaa.opn k ak ck (isHome bl k ({ x with left := ks, al := al, cl := cl } :: r)) :: { x with left := ks, al := al, cl := cl } :: r) (.slice (some ⟨g', 0, none⟩) (r.length + 1 + 1) cv') wr') (hn : NB w wr') :
    NI w bl t N (m - 1) (Go.Proofs.Ytollijngiioonaa.opn k ak ck (isHome bl k ({ x with left := ks, al := al, cl := cl } :: r)) :: { x with left := ks, al := al, cl := cl } :: r) g' cv' wr' ∧ 1 ≤ m := by
  have h1 := h.md
  have h2 := h.bk
  have h3 := h.fin
  rw [List.map_cons] at h1 h2 h3
  rw [todo_cons] at h1
  rw [bulkP_cons] at h2
  have hk := partsT_eq k
  have e1 : x.d.left = k :: ks := hl
  rw [e1, partsL] at h1 h2
  refine ⟨⟨hst, ?_, ?_, ?_, ?_, hn⟩, by omega⟩
  · exact .inr (h.hh.imp (fun q => ⟨q.1, q.2⟩) id)
  · rw [List.map_cons, List.map_cons, todo_cons, todo_cons]
    show 1 + 2 * partsL k.kids + (1 + 2 * partsL ks + _) ≤ _
    omega
  · rw [List.map_cons, List.map_cons, bulkP_cons, bulkP_cons]
    show 1 + partsL k.kids + 0 + (1 + partsL ks + partsL (x.L.map FE.t) + _) ≤ _
    have : x.d.made = x.L.map FE.t := rfl
    rw [this] at h2
    omega
  · rw [← h3, ← fin_open (x := x.d) (r := r.map FM.d) (m := []) hl rfl]
    rfl
theorem close {T : TermD} {e : FE} {am : Option Addr} {cm : Nat} (h : NI w bl t N m (x :: r) g cv wr) (hl : x.left = []) (hx : x.hm = true) (hr : r ≠ []) (hT : T = closeT bl x.t.f x.t.v (x.L.map FE.t)) (he : e.t = T) (hst : NSt w.heap.size (w.heap.size + 1 + 1) (putHome e am cm r) (.slice (some ⟨g, 0, none⟩) r.length cv) wr') (hn : NB w wr') :
    NI w bl t N (m - 1) (putHome e am cm r) g cv wr' ∧ 1 ≤ m := by
  have h1 := h.md
  have h2 := h.bk
  have h3 := h.fin
  rw [List.map_cons] at h1 h2 h3
  rw [todo_cons] at h1
  rw [bulkP_cons] at h2
  rw [fin_close (show x.d.left = [] from hl) (show x.d.home = true from hx) (by simpa using hr)] at h3
  have e1 : closeT bl x.d.f x.d.v x.d.made = e.t := by rw [he, hT]; rfl
  rw [e1] at h3
  have hp := close_parts bl x.t.f x.t.v (x.L.map FE.t)
  rw [← hT, ← he] at hp
  have hb := bulkP_add [e.t] (r.map FM.d)
  have ht := todo_add [e.t] (r.map FM.d)
  have e2 : x.d.made = x.L.map FE.t := rfl
  rw [e2] at h2
  simp only [partsL] at hb
  exact ⟨⟨by rw [putHome_len]; exact hst, botH_put _ _ _ (botH_rest h.hh hr), by rw [putHome_d]; omega, by rw [putHome_d]; omega, by rw [putHome_d]; exact h3, hn⟩, by omega⟩
theorem len (h : NI w bl t N m (x :: r) g cv wr) : r.length < N := by
  have := bulkP_len ((x :: r).map FM.d)
  have := h.bk
  simp at *
  omega
theorem made (h : NI w bl t N m (x :: r) g cv wr) : ∀ y ∈ x :: r, partsL (y.L.map FE.t) < N := fun y hy => by
  have h1 := bulkP_mem (List.mem_map_of_mem (f := FM.d) hy)
  have h2 := h.bk
  have e2 : y.d.made = y.L.map FE.t := rfl
  rw [e2] at h1
  omega
theorem lefts (h : NI w bl t N m (x :: r) g cv wr) : x.left.length < N := by
  have h1 := bulkP_mem (List.mem_map_of_mem (f := FM.d) (List.mem_cons_self (a := x) (l := r)))
  have h2 := h.bk
  have h3 := partsL_len x.left
  have e2 : x.d.left = x.left := rfl
  rw [e2] at h1
  omega
end NI
end Go.Proofs.Ytollijngiioonaa

/- One form of a term, as the program makes it: the walk. Conditions: terms of at most 549755813888 parts. -/
namespace Go.Proofs.Ytollijngiioonaa
set_option maxRecDepth 100000
open Go.RowKit

set_option maxHeartbeats 6400000 in
set_option maxRecDepth 100000 in
theorem impNorm_any (sa : Option Addr) (ss : List SymD) (sc : Nat) (t : TermD) (a : Option Addr) (c hi : Nat) (w : World) (hs : RdS w sa ss) (hp : partsT t ≤ 549755813888) (hr : RdK w hi a t.kids) (hhi : hi ≤ w.heap.size) (hc : t.kids.length ≤ c) (hwf : isW t.f ∧ isW t.v) :
    Calls Try.prog 8 #[.slice sa ss.length sc, .agg #[.int .i64 t.f, .int .i64 t.v, .slice a t.kids.length c]] w fun e w' => ∃ a' c', e = .returned (.agg #[.int .i64 t.f, .int .i64 t.v, .slice a' (normT (blindAt ss) t).kids.length c']) ∧ OwnS w' (fun k => w.heap.size ≤ k ∧ k < w'.heap.size) a' (normT (blindAt ss) t).kids ∧ (normT (blindAt ss) t).kids.length ≤ c' ∧ Below w.heap.size w w' := by
  obtain ⟨W, hW⟩ : ∃ W, W = (w.alloc (.cells #[.int .i64 t.f, .int .i64 t.v, .slice a t.kids.length c] 27)).alloc (.cells #[.int .i64 0, .int .i64 0, .slice none 0 0] 27) := ⟨_, rfl⟩
  have hb0 : Below w.heap.size w W := by rw [hW]; exact ((Below.refl _ _).alloc (Nat.le_refl _) _).alloc (by simp) _
  have hz0 : W.heap.size = w.heap.size + 1 + 1 := by rw [hW]; simp
  have nb0 : NB w W := ⟨hb0, by rw [hW]; simp [go_sem], by rw [hW]; simp [go_sem], by rw [hW]; simp [go_sem], fun j => by rw [hW]; simp [go_sem], by omega⟩
  have CO := opened_any sa ss sc w.heap.size (w.heap.size + 1 + 1) [] none 0 t a c W (hs.below hb0) (.start (by omega) (by omega)) (by simp) ((hr.mono hhi).on hb0) hc hwf
  have HS : Hid (∀ W', Below w.heap.size w W' → RdS W' sa ss) := fun W' h => hs.below h
  have HR : Hid (∀ (f v : Int), (normT (blindAt ss) t).f = t.f ∧ (normT (blindAt ss) t).v = t.v) := fun _ _ => by rw [normT_eq]; exact ⟨rfl, rfl⟩
  have hpt := partsT_eq t
  clear hs hr hhi
  simp only [List.length_nil, Nat.zero_add] at CO
  go_enter Try.func8, Try.ntmps8
  go_wp2_with (go_at_call 37; rw [← hW]; refine CO.mono ?_; rintro e w1 ⟨g1, c1, rfl, st1, sy1⟩; clear CO hW)
  have I1 : NI w (blindAt ss) t (partsT t) (1 + 2 * partsL t.kids) [opn t a c (isHome (blindAt ss) t [])] g1 c1 w1 := ⟨st1, .inl ⟨rfl, rfl⟩, by simp [todo, FM.d, opn], by simp [bulkP, FM.d, opn, partsL]; omega, by
    have := fin_start (bl := blindAt ss) t
    exact this, nb0.stay sy1⟩
  clear st1 sy1 nb0 hb0 hz0 hc hwf
  go_loopg [5] (1 + 2 * partsL t.kids) (fun k s5 wr => ∃ (F : List FM) (g cv : Nat), s5 = .slice (some ⟨g, 0, none⟩) F.length cv ∧ NI w (blindAt ss) t (partsT t) k F g cv wr)
  case atStart => exact ⟨_, g1, c1, rfl, I1⟩
  case round =>
    obtain ⟨F, g, cv, rfl, I⟩ := hrel
    clear I1
    cases F with
    | nil => exact I.hh.elim
    | cons x r =>
      simp only [List.length_cons]
      have hlen := I.len
      have hmade := I.made
      have hlf := I.lefts
      have hgl := (I.st.row.lt g rfl)
      have hcv : r.length + 1 ≤ cv := by obtain ⟨_, _, e, hh⟩ := own_form I.st.row; rw [(Value.slice.inj e).2.2]; exact hh
      have hcvz : (r.length : Int) ≤ (cv : Int) := by omega
      obtain ⟨q0, q1, q2, q3, q4, q5⟩ := top_cells I.st
      cases hxl : x.left with
      | nil =>
        have CT := takeKid_none _ _ x r g cv wr I.st (by omega) hxl
        cases hxh : x.hm with
        | false =>
          have hrh : hasHome r := botH_has (I.hh.resolve_left (fun q => by rw [hxh] at q; simp at q))
          have hix := home_lt hrh
          have e5 : homeIx (x :: r) = homeIx r := by simp [homeIx, hxh]
          rw [e5] at q5
          have hixz : ((homeIx r : Nat) : Int) < (r.length : Int) := by omega
          generalize homeIx r = ix at *
          have HI : Hid _ := I
          have HX : Hid (x.left = [] ∧ x.hm = false) := ⟨hxl, hxh⟩
          rw [hxl] at q3
          clear I hmade hlf hxl hxh e5 hrh
          go_wp2_with (go_at_call 38; refine CT.mono ?_; rintro e w2 ⟨rfl, hb2⟩; clear CT; have k0 := keepC hb2 q0; have k1 := keepC hb2 q1; have k2 := keepC hb2 q2; have k3 := keepC hb2 q3; have k4 := keepC hb2 q4; have k5 := keepC hb2 q5; have hg2 := Nat.lt_of_lt_of_le hgl.2 hb2.size; clear q0 q1 q2 q3 q4 q5)
          have hbF : ∀ o1 o2, Below wr.heap.size wr ((w2.alloc o1).alloc o2) := fun o1 o2 => (hb2.alloc hb2.size o1).alloc (by have := hb2.size; simp; omega) o2
          obtain ⟨D1, D2⟩ := HI.out.drop HX.out.1 HX.out.2 (hbF _ _)
          go_roundg (gk - 1)
          case measure => omega
          case rel => exact ⟨r, g, cv, rfl, D1⟩
        | true =>
          have e5 : homeIx (x :: r) = r.length := by simp [homeIx, hxh]
          rw [e5] at q5
          rw [hxl] at q3
          simp only [List.length_nil] at q3
          have hxS : ∀ k, x.S k → w.heap.size + 1 + 1 ≤ k ∧ k < wr.heap.size := fun k hk => (I.st.fr x (by simp)).lt k hk
          have hwfx := (I.st.fr x (by simp)).wf
          have CC : ∀ W', Below wr.heap.size wr W' → Calls Try.prog 39 #[.agg #[.int .i64 x.t.f, .int .i64 x.t.v, .slice x.a x.t.kids.length x.c, .slice x.al 0 x.cl, .slice x.am x.L.length x.cm, .int .i64 (r.length : Nat)], .slice sa ss.length sc] W' fun e w' => ∃ T : TermD, T = closeT (blindAt ss) x.t.f x.t.v (x.L.map FE.t) ∧ e = .returned (.agg #[.int .i64 T.f, .int .i64 T.v, .slice x.am T.kids.length T.kids.length]) ∧ OwnS w' x.S x.am T.kids ∧ Stay (fun k => k < W'.heap.size ∧ ¬ x.S k) W' w' := fun W' hb => by
            have := closed_any sa ss sc _ _ r.length x W' (HS.out W' (I.nb.be.trans (hb.mono I.nb.be.size))) ((I.st.on hb).fr x (by simp)) (by have := hmade x (by simp); omega)
            rw [hxl] at this
            exact this
          have CN : ∀ W' w4, Below wr.heap.size wr W' → Stay (fun k => k < W'.heap.size ∧ ¬ x.S k) W' w4 → NB w w4 := fun W' w4 hb hs => (I.nb.on hb).stay (hs.weak (fun k hk hk2 => ⟨hk, fun q => by have := hxS k q; omega⟩))
          cases r with
          | nil =>
            have hfin := I.fin
            rw [List.map_cons, List.map_nil, fin_end (show x.d.left = [] from hxl) (show x.d.home = true from hxh)] at hfin
            have HF : Hid (closeT (blindAt ss) x.t.f x.t.v (x.L.map FE.t) = normT (blindAt ss) t) := hfin
            have HX : Hid (∀ k, x.S k → w.heap.size + 1 + 1 ≤ k ∧ k < wr.heap.size) := hxS
            clear I hmade hlf hxl hxh e5 hfin hxS
            simp only [List.length_nil] at *
            go_wp2_with (first
              | (go_at_call 38; refine CT.mono ?_; rintro e w2 ⟨rfl, hb2⟩; clear CT; have k0 := keepC hb2 q0; have k1 := keepC hb2 q1; have k2 := keepC hb2 q2; have k3 := keepC hb2 q3; have k4 := keepC hb2 q4; have k5 := keepC hb2 q5; have hg2 := Nat.lt_of_lt_of_le hgl.2 hb2.size; have hb3 : Below wr.heap.size wr ((w2.alloc (.cells #[.int .i64 0, .int .i64 0, .slice none 0 0] 27)).alloc (.cells #[.int .i64 x.t.f, .int .i64 x.t.v, .slice x.a x.t.kids.length x.c, .slice x.al 0 x.cl, .slice x.am x.L.length x.cm, .int .i64 0] 70)) := ((hb2.alloc hb2.size _).alloc (by have := hb2.size; simp; omega) _); clear q0 q1 q2 q3 q4 q5)
              | (go_at_call 39; refine (CC _ hb3).mono ?_; rintro e w4 ⟨TT, hTT, rfl, ho4, hs4⟩; have HT : Hid (TT = closeT (blindAt ss) x.t.f x.t.v (x.L.map FE.t)) := hTT; clear hTT; have nb4 := CN _ _ hb3 hs4; have d0 := nb4.c0; have d1 := nb4.c1; have d2 := nb4.c2; have df := nb4.cf; have hz4 : w.heap.size + 1 < w4.heap.size := nb4.z; clear k0 k1 k2 k3 k4 k5))
            obtain ⟨z0, z1, z2⟩ := set3_cells (u := w4) (r := w.heap.size + 1) (x := .int .i64 TT.f) (y := .int .i64 TT.v) (z := .slice x.am TT.kids.length TT.kids.length) d0 d1 d2
            have hTn : TT = normT (blindAt ss) t := HT.out.trans HF.out
            have hnS : ∀ j, ¬ x.S (⟨w.heap.size + 1, j, none⟩ : Addr).block := fun j q => by have := (HX.out _ q).1; simp only at this; omega
            have hoF := ((ho4.setCell ⟨w.heap.size + 1, 0, none⟩ (hnS 0) (.int .i64 TT.f)).setCell ⟨w.heap.size + 1, 1, none⟩ (hnS 1) (.int .i64 TT.v)).setCell ⟨w.heap.size + 1, 2, none⟩ (hnS 2) (.slice x.am TT.kids.length TT.kids.length)
            have hbF := ((nb4.be.setCell (p := ⟨w.heap.size + 1, 0, none⟩) (by simp) (.int .i64 TT.f)).setCell (p := ⟨w.heap.size + 1, 1, none⟩) (by simp) (.int .i64 TT.v)).setCell (p := ⟨w.heap.size + 1, 2, none⟩) (by simp) (.slice x.am TT.kids.length TT.kids.length)
            obtain ⟨W5, hW5⟩ : ∃ W5, W5 = ((w4.setCell ⟨w.heap.size + 1, 0, none⟩ (.int .i64 TT.f)).setCell ⟨w.heap.size + 1, 1, none⟩ (.int .i64 TT.v)).setCell ⟨w.heap.size + 1, 2, none⟩ (.slice x.am TT.kids.length TT.kids.length) := ⟨_, rfl⟩
            rw [← hW5] at z0 z1 z2 hoF hbF ⊢
            have hz5 : W5.heap.size = w4.heap.size := by rw [hW5]; simp
            have hb6 : Below W5.heap.size W5 (W5.alloc (.cells #[.int .i64 TT.f, .int .i64 TT.v, .slice x.am TT.kids.length TT.kids.length] 27)) := (Below.refl _ _).alloc (Nat.le_refl _) _
            have y0 := keepC hb6 z0
            have y1 := keepC hb6 z1
            have y2 := keepC hb6 z2
            have hlt : ∀ k, x.S k → w.heap.size ≤ k ∧ k < W5.heap.size := fun k hk => by have := HX.out k hk; have := hb3.size; have := hs4.size; omega
            obtain ⟨e1, e2⟩ := HR.out 0 0
            rw [← hTn] at e1 e2 ⊢
            rw [← e1, ← e2]
            refine bodyPost_ret (v := .agg #[.int .i64 TT.f, .int .i64 TT.v, .slice x.am TT.kids.length TT.kids.length]) (by simp [results, Try.results8, go_sem, y0, y1, y2]) rfl ⟨x.am, TT.kids.length, rfl, ?_, Nat.le_refl _, hbF.trans (hb6.mono hbF.size)⟩
            exact (hoF.frame (fun k hk => hb6.block k (hlt k hk).2) hb6.size).mono (fun k hk => ⟨(hlt k hk).1, Nat.lt_of_lt_of_le (hlt k hk).2 hb6.size⟩)
          | cons y r' =>
            have hrh : hasHome (y :: r') := botH_has (botH_rest I.hh (by simp))
            have hdis := (List.pairwise_cons.1 I.st.dis).1
            have hgx := I.st.vb g rfl x (by simp)
            have CP : ∀ W' w4 (TT : TermD), Below wr.heap.size wr W' → OwnS w4 x.S x.am TT.kids → Stay (fun k => k < W'.heap.size ∧ ¬ x.S k) W' w4 → Hid (TT = closeT (blindAt ss) x.t.f x.t.v (x.L.map FE.t)) → ∀ w5, Below w4.heap.size w4 w5 →
                Calls Try.prog 40 #[.slice (some ⟨g, 0, none⟩) (r'.length + 1) cv, .agg #[.int .i64 TT.f, .int .i64 TT.v, .slice x.am TT.kids.length TT.kids.length]] w5 fun e w6 => e = .returned (.tuple #[]) ∧ ∃ F', F'.length = r'.length + 1 ∧ NI w (blindAt ss) t (partsT t) (gk - 1) F' g cv w6 ∧ 1 ≤ gk := fun W' w4 TT hb ho hs hT w5 hb5 => by
              have hS := fun k hk => (I.st.fr x (by simp)).lt k hk
              have st1 := (I.st.on hb).pop.keep (S := fun k => k < W'.heap.size ∧ ¬ x.S k) hs (fun k hk => ⟨by have := I.nb.z; have := hb.size; omega, fun q => by have := (hS k q).1; omega⟩) (fun z hz k hk => ⟨(((I.st.on hb).fr z (List.mem_cons_of_mem _ hz)).lt k hk).2, fun q => hdis z hz k q hk⟩) (fun g' hg' => by
                have e0 : g = g' := by simpa [Value.ownBlock] using hg'
                subst e0
                exact ⟨Nat.lt_of_lt_of_le hgl.2 hb.size, hgx⟩)
              have st2 := st1.on hb5
              have nb5 := (CN W' w4 hb hs).on hb5
              have eT : TT.f = x.t.f ∧ TT.v = x.t.v := by rw [hT.out]; exact ⟨rfl, rfl⟩
              have hP := put_any w.heap.size (w.heap.size + 1 + 1) (y :: r') g cv ⟨TT, x.am, TT.kids.length, x.S⟩ w5 st2 hrh (by omega) ⟨ho.frame (fun k hk => hb5.block k (by have := (hS k hk).2; have := hb.size; have := hs.size; omega)) hb5.size, Nat.le_refl _, by rw [eT.1, eT.2]; exact hwfx, fun k hk => ⟨(hS k hk).1, by have := (hS k hk).2; have := hb.size; have := hs.size; have := hb5.size; omega⟩⟩ (fun z hz k hk => hdis z hz k hk) hgx (by
                have h1 := hmade _ (List.mem_cons_of_mem x (home_mem hrh))
                have h2 := partsL_len ((homeFr (y :: r')).L.map FE.t)
                simp at h2
                omega)
              refine hP.mono ?_
              rintro e w6 ⟨g2, c2, rfl, st3, sy3⟩
              obtain ⟨C1, C2⟩ := I.close hxl hxh (by simp) hT.out (e := ⟨TT, x.am, TT.kids.length, x.S⟩) rfl st3 (nb5.stay sy3)
              exact ⟨rfl, _, by rw [putHome_len]; simp, C1, C2⟩
            simp only [List.length_cons] at *
            clear I hmade hlf hxl hxh e5 hxS hdis hgx hrh HR
            go_wp2_with (first
              | (go_at_call 38; refine CT.mono ?_; rintro e w2 ⟨rfl, hb2⟩; clear CT; have k0 := keepC hb2 q0; have k1 := keepC hb2 q1; have k2 := keepC hb2 q2; have k3 := keepC hb2 q3; have k4 := keepC hb2 q4; have k5 := keepC hb2 q5; have hg2 := Nat.lt_of_lt_of_le hgl.2 hb2.size; have hb3 : Below wr.heap.size wr ((w2.alloc (.cells #[.int .i64 0, .int .i64 0, .slice none 0 0] 27)).alloc (.cells #[.int .i64 x.t.f, .int .i64 x.t.v, .slice x.a x.t.kids.length x.c, .slice x.al 0 x.cl, .slice x.am x.L.length x.cm, .int .i64 ((r'.length + 1 : Nat) : Int)] 70)) := ((hb2.alloc hb2.size _).alloc (by have := hb2.size; simp; omega) _); clear q0 q1 q2 q3 q4 q5)
              | (go_at_call 39; refine (CC _ hb3).mono ?_; rintro e w4 ⟨TT, hTT, rfl, ho4, hs4⟩; have HT : Hid (TT = closeT (blindAt ss) x.t.f x.t.v (x.L.map FE.t)) := hTT; clear hTT; have nb4 := CN _ _ hb3 hs4; have P5 := CP _ _ TT hb3 ho4 hs4 HT; clear k0 k1 k2 k3 k4 k5)
              | (go_at_call 40; refine (P5 _ ((Below.refl _ _).alloc (Nat.le_refl _) _)).mono ?_; rintro e w6 ⟨rfl, F', hF', J, hgk⟩))
            go_roundg (gk - 1)
            case measure => omega
            case rel => exact ⟨F', g, cv, by rw [hF'], J⟩
      | cons k ks =>
        have CT := takeKid_some _ _ x r g cv k ks wr I.st (by omega) hxl (by rw [hxl] at hlf; simp at hlf; omega)
        have CO : ∀ (ak : Option Addr) (ck : Nat) (al : Option Addr) (cl : Nat) w2, NSt w.heap.size (w.heap.size + 1 + 1) ({ x with left := ks, al := al, cl := cl } :: r) (.slice (some ⟨g, 0, none⟩) (r.length + 1) cv) w2 → RdK w2 w.heap.size ak k.kids → k.kids.length ≤ ck → (isW k.f ∧ isW k.v) → Stay (fun k => k < w.heap.size + 1 + 1) wr w2 → ∀ w3, Below w2.heap.size w2 w3 →
            Calls Try.prog 37 #[.slice (some ⟨g, 0, none⟩) (r.length + 1) cv, .slice sa ss.length sc, .agg #[.int .i64 k.f, .int .i64 k.v, .slice ak k.kids.length ck]] w3 fun e w4 => ∃ g' cv', e = .returned (.slice (some ⟨g', 0, none⟩) (r.length + 1 + 1) cv') ∧ ∃ F', F'.length = r.length + 1 + 1 ∧ NI w (blindAt ss) t (partsT t) (gk - 1) F' g' cv' w4 ∧ 1 ≤ gk := fun ak ck al cl w2 st hrk hck hwk hsy w3 hb3 => by
          have nb3 := (I.nb.stay hsy).on hb3
          refine (opened_any sa ss sc w.heap.size (w.heap.size + 1 + 1) ({ x with left := ks, al := al, cl := cl } :: r) (some ⟨g, 0, none⟩) cv k ak ck w3 (HS.out w3 nb3.be) (st.on hb3) (by simp; omega) (hrk.on (hb3.mono (by have := (I.nb.stay hsy).z; omega))) hck hwk).mono ?_
          rintro e w4 ⟨g', cv', rfl, st4, sy4⟩
          obtain ⟨C1, C2⟩ := I.opn hxl st4 (nb3.stay sy4)
          exact ⟨g', cv', rfl, _, by simp, C1, C2⟩
        clear I hmade hlf hxl q0 q1 q2 q3 q4 q5 HR
        go_wp2_with (first
          | (go_at_call 38; refine CT.mono ?_; rintro e w2 ⟨ak, ck, al, cl, rfl, st2, hrk2, hck2, hwk2, hsy2⟩; clear CT; have CO2 := CO ak ck al cl w2 st2 hrk2 hck2 hwk2 hsy2; clear CO st2 hrk2 hwk2 hsy2)
          | (go_at_call 37; refine (CO2 _ ((Below.refl _ _).alloc (Nat.le_refl _) _)).mono ?_; rintro e w4 ⟨g', cv', rfl, F', hF', J, hgk⟩))
        go_roundg (gk - 1)
        case measure => omega
        case rel => exact ⟨F', g', cv', by rw [hF'], J⟩
end Go.Proofs.Ytollijngiioonaa

/- The program's copy of a term: one form where no function is blind is the term itself. Conditions: terms of at most 549755813888 parts. -/
namespace Go.Proofs.Ytollijngiioonaa
set_option maxRecDepth 100000
open Go.RowKit

mutual
theorem normT_id (bl : Int → Bool) (h : ∀ f, bl f = false) : ∀ t, normT bl t = t
  | .mk f v ks => by rw [normT, normL_id bl h f ks []]; simp
theorem normL_id (bl : Int → Bool) (h : ∀ f, bl f = false) (f : Int) : ∀ ks out, normL bl f ks out = out ++ ks
  | [], out => by simp [normL]
  | k :: ks, out => by rw [normL, normT_id bl h k, stepN, h f, if_pos rfl, normL_id bl h f ks]; simp
end
theorem blindAt_none : ∀ f, blindAt [] f = false := by intro f; unfold blindAt; split <;> simp

theorem copyTerm_any (t : TermD) (a : Option Addr) (c hi : Nat) (w : World) (hp : partsT t ≤ 549755813888) (hr : RdK w hi a t.kids) (hhi : hi ≤ w.heap.size) (hc : t.kids.length ≤ c) (hwf : isW t.f ∧ isW t.v) :
    Calls Try.prog 44 #[.agg #[.int .i64 t.f, .int .i64 t.v, .slice a t.kids.length c]] w fun e w' => ∃ a' c', e = .returned (.agg #[.int .i64 t.f, .int .i64 t.v, .slice a' t.kids.length c']) ∧ OwnS w' (fun k => w.heap.size ≤ k ∧ k < w'.heap.size) a' t.kids ∧ t.kids.length ≤ c' ∧ Below w.heap.size w w' := by
  obtain ⟨W, hW⟩ : ∃ W, W = (w.alloc (.cells #[.int .i64 t.f, .int .i64 t.v, .slice a t.kids.length c] 27)).alloc (.cells #[.int .i64 0, .int .i64 0, .slice none 0 0] 27) := ⟨_, rfl⟩
  have hb0 : Below w.heap.size w W := by rw [hW]; exact ((Below.refl _ _).alloc (Nat.le_refl _) _).alloc (by simp) _
  have hz0 : W.heap.size = w.heap.size + 1 + 1 := by rw [hW]; simp
  have nb0 : NB w W := ⟨hb0, by rw [hW]; simp [go_sem], by rw [hW]; simp [go_sem], by rw [hW]; simp [go_sem], fun j => by rw [hW]; simp [go_sem], by omega⟩
  have C := impNorm_any none [] 0 t a c hi W (by simp [RdS]) hp (hr.on (hb0.mono hhi)) (Nat.le_trans hhi hb0.size) hc hwf
  rw [normT_id _ blindAt_none t] at C
  simp only [List.length_nil] at C
  clear hp hr hhi hc
  go_enter Try.func44, Try.ntmps44
  go_wp2_with (go_at_call 8; rw [← hW]; refine C.mono ?_; rintro e w4 ⟨a', c', rfl, ho4, hc4, hb4⟩; have nb4 := nb0.on hb4; have d0 := nb4.c0; have d1 := nb4.c1; have d2 := nb4.c2; have df := nb4.cf; have hz4 : w.heap.size + 1 < w4.heap.size := nb4.z; clear C hW)
  obtain ⟨z0, z1, z2⟩ := set3_cells (u := w4) (r := w.heap.size + 1) (x := .int .i64 t.f) (y := .int .i64 t.v) (z := .slice a' t.kids.length c') d0 d1 d2
  have hnS : ∀ j, ¬ (W.heap.size ≤ (⟨w.heap.size + 1, j, none⟩ : Addr).block ∧ (⟨w.heap.size + 1, j, none⟩ : Addr).block < w4.heap.size) := fun j q => by have := q.1; simp only at this; omega
  have hoF := ((ho4.setCell ⟨w.heap.size + 1, 0, none⟩ (hnS 0) (.int .i64 t.f)).setCell ⟨w.heap.size + 1, 1, none⟩ (hnS 1) (.int .i64 t.v)).setCell ⟨w.heap.size + 1, 2, none⟩ (hnS 2) (.slice a' t.kids.length c')
  have hbF := ((nb4.be.setCell (p := ⟨w.heap.size + 1, 0, none⟩) (by simp) (.int .i64 t.f)).setCell (p := ⟨w.heap.size + 1, 1, none⟩) (by simp) (.int .i64 t.v)).setCell (p := ⟨w.heap.size + 1, 2, none⟩) (by simp) (.slice a' t.kids.length c')
  refine bodyPost_ret (v := .agg #[.int .i64 t.f, .int .i64 t.v, .slice a' t.kids.length c']) (by simp [results, Try.results44, go_sem, z0, z1, z2]) rfl ⟨a', c', rfl, hoF.mono (fun k hk => ⟨by omega, by simpa using hk.2⟩), hc4, hbF⟩
end Go.Proofs.Ytollijngiioonaa

/- Weights as data. Conditions: none. -/
namespace Go.Proofs.Ytollijngiioonaa
set_option maxRecDepth 100000
open Go.RowKit

mutual
/-- The weight. -/
def wgtT (bl : Int → Bool) : TermD → Nat
  | .mk f _ ks => (if bl f && !ks.isEmpty then ks.length - 1 else 1) + wgtL bl ks
def wgtL (bl : Int → Bool) : List TermD → Nat
  | [] => 0
  | k :: ks => wgtT bl k + wgtL bl ks
end
theorem wgtT_eq (bl : Int → Bool) (t : TermD) : wgtT bl t = (if bl t.f && !t.kids.isEmpty then t.kids.length - 1 else 1) + wgtL bl t.kids := by cases t; rw [wgtT]; rfl
theorem wgtL_append (bl : Int → Bool) (a b : List TermD) : wgtL bl (a ++ b) = wgtL bl a + wgtL bl b := by
  induction a with
  | nil => simp [wgtL]
  | cons t ts ih => simp only [List.cons_append, wgtL, ih]; omega
theorem wgtL_next (bl : Int → Bool) {ts : List TermD} {k : Nat} (h : k < ts.length) : wgtL bl (ts.take (k + 1)) = wgtL bl (ts.take k) + wgtT bl ts[k] := by
  rw [List.take_succ_eq_append_getElem h, wgtL_append]
  simp [wgtL]
mutual
theorem wgtT_pos (bl : Int → Bool) : ∀ t : TermD, 1 ≤ wgtT bl t
  | .mk f v ks => by
    have h := wgtL_pos bl ks
    rw [wgtT]
    split
    · next hb =>
      have : ks ≠ [] := by intro e; subst e; simp at hb
      have := List.length_pos_iff.2 this
      omega
    · omega
theorem wgtL_pos (bl : Int → Bool) : ∀ ks : List TermD, ks.length ≤ wgtL bl ks
  | [] => by simp
  | k :: ks => by have := wgtT_pos bl k; have := wgtL_pos bl ks; rw [wgtL, List.length_cons]; omega
end
mutual
/-- A weight is less than twice the number of parts. -/
theorem wgtT_parts (bl : Int → Bool) : ∀ t : TermD, wgtT bl t + 1 ≤ 2 * partsT t
  | .mk f v ks => by
    have h := wgtL_parts bl ks
    rw [wgtT, partsT]
    split <;> omega
theorem wgtL_parts (bl : Int → Bool) : ∀ ks : List TermD, wgtL bl ks + ks.length ≤ 2 * partsL ks
  | [] => by simp [wgtL, partsL]
  | k :: ks => by have := wgtT_parts bl k; have := wgtL_parts bl ks; rw [wgtL, partsL, List.length_cons]; omega
end
end Go.Proofs.Ytollijngiioonaa

/- Right terms, weights, and terms that are made, as data; what a right term's form and weight are. Conditions: none. -/
namespace Go.Proofs.Ytollijngiioonaa
set_option maxRecDepth 100000
open Go.RowKit

/-- Before the one ahead of it, if there is one. -/
def befO (k : TermD) : Option TermD → Bool
  | some q => befT k q
  | none => false
mutual
/-- Right, of any size. -/
def rightT (ss : List SymD) : TermD → Bool
  | .mk f v ks => if f = -1 then decide (0 ≤ v ∧ v ≤ 99) && ks.isEmpty
    else decide (0 ≤ f ∧ f < ss.length) && v == 0 && (if blindAt ss f then decide (2 ≤ ks.length) else (ks.length : Int) == arityAt ss f) && rightL ss f none ks
/-- The Kids, the one ahead of them known. -/
def rightL (ss : List SymD) (f : Int) : Option TermD → List TermD → Bool
  | _, [] => true
  | p, k :: ks => !(blindAt ss f && (k.f == f || befO k p)) && rightT ss k && rightL ss f (some k) ks
end
theorem rightT_eq (ss : List SymD) (t : TermD) : rightT ss t = if t.f = -1 then decide (0 ≤ t.v ∧ t.v ≤ 99) && t.kids.isEmpty
    else decide (0 ≤ t.f ∧ t.f < ss.length) && t.v == 0 && (if blindAt ss t.f then decide (2 ≤ t.kids.length) else (t.kids.length : Int) == arityAt ss t.f) && rightL ss t.f none t.kids := by
  cases t; rw [rightT]; rfl
theorem rightL_all (ss : List SymD) (f : Int) : ∀ (ks : List TermD) (p : Option TermD), rightL ss f p ks = true → ∀ k ∈ ks, rightT ss k = true ∧ (blindAt ss f = true → k.f ≠ f)
  | [], _, _ => by simp
  | x :: xs, p, h => by
    rw [rightL, Bool.and_eq_true, Bool.and_eq_true] at h
    intro k hk
    rcases List.mem_cons.1 hk with rfl | hk
    · refine ⟨h.1.2, fun hb e => ?_⟩
      have := h.1.1
      rw [hb, e] at this
      simp at this
    · exact rightL_all ss f xs (some x) h.2 k hk
theorem rightL_from (ss : List SymD) (f : Int) (hb : blindAt ss f = true) : ∀ (ks : List TermD) (q : TermD), rightL ss f (some q) ks = true → (q :: ks).Pairwise leT
  | [], q, _ => by simp
  | x :: xs, q, h => by
    rw [rightL, Bool.and_eq_true, Bool.and_eq_true] at h
    have h0 : leT q x := by
      rw [← befT_leT]
      have := h.1.1
      rw [hb] at this
      simp only [Bool.true_and, Bool.not_eq_true', Bool.or_eq_false_iff] at this
      exact this.2
    have h1 := rightL_from ss f hb xs x h.2
    refine List.Pairwise.cons (fun y hy => ?_) h1
    rcases List.mem_cons.1 hy with rfl | hy
    · exact h0
    · exact leT_trans h0 ((List.pairwise_cons.1 h1).1 y hy)
theorem rightL_sorted (ss : List SymD) (f : Int) (hb : blindAt ss f = true) (ks : List TermD) (h : rightL ss f none ks = true) : ks.Pairwise leT := by
  cases ks with
  | nil => exact .nil
  | cons x xs =>
    rw [rightL, Bool.and_eq_true] at h
    exact rightL_from ss f hb xs x h.2
theorem right_isN (ss : List SymD) : ∀ (n : Nat) (t : TermD), partsT t ≤ n → rightT ss t = true → IsN (blindAt ss) t := by
  intro n
  induction n with
  | zero => intro t h; rw [partsT_eq] at h; omega
  | succ n ih =>
    intro t hn h
    rw [partsT_eq] at hn
    rw [rightT_eq] at h
    split at h
    · simp only [Bool.and_eq_true, List.isEmpty_iff] at h
      exact .mk t (by simp [h.2]) (fun _ => by simp [h.2])
    · simp only [Bool.and_eq_true] at h
      have ha := rightL_all ss t.f t.kids none h.2
      exact .mk t (fun k hk => ih k (by have := parts_kid hk; omega) (ha k hk).1) (fun hb => ⟨rightL_sorted ss t.f hb t.kids h.2, fun k hk => (ha k hk).2 hb⟩)
/-- One form of what is right is it. -/
theorem right_self (ss : List SymD) {t : TermD} (h : rightT ss t = true) : normT (blindAt ss) t = t := normT_self _ (right_isN ss _ t (Nat.le_refl _) h)


/-- A term that is made of a function and Kids. -/
def makeT (ss : List SymD) (f : Int) (ks : List TermD) : TermD :=
  if blindAt ss f = true ∧ ks = [] then .mk 0 0 []
  else if blindAt ss f = true ∧ ks.length = 1 then normT (blindAt ss) (ks.headD (.mk 0 0 []))
  else if ¬ (0 ≤ f ∧ f < ss.length) then .mk f 0 ks
  else normT (blindAt ss) (.mk f 0 ks)
theorem blindAt_lt {ss : List SymD} {f : Int} (h : blindAt ss f = true) : 0 ≤ f ∧ f < ss.length := by
  unfold blindAt at h
  split at h
  · next h0 =>
    refine ⟨h0, ?_⟩
    by_cases hl : f.toNat < ss.length
    · omega
    · rw [List.getElem?_eq_none (by omega)] at h; cases h
  · cases h
theorem makeT_blind {ss : List SymD} {f : Int} (h : blindAt ss f = true) {ks : List TermD} (hl : 2 ≤ ks.length) : makeT ss f ks = normT (blindAt ss) (.mk f 0 ks) := by
  unfold makeT
  rw [if_neg (by rintro ⟨_, rfl⟩; simp at hl), if_neg (by rintro ⟨_, e⟩; omega), if_neg (by simpa using blindAt_lt h)]
/-- In any order. -/
theorem makeT_perm {ss : List SymD} {f : Int} (h : blindAt ss f = true) {us bs : List TermD} (hl : 2 ≤ us.length) (hp : us.Perm bs) : makeT ss f us = makeT ss f bs := by
  rw [makeT_blind h hl, makeT_blind h (by rw [← hp.length_eq]; exact hl)]
  exact normT_perm _ h hp
/-- In brackets. -/
theorem makeT_in {ss : List SymD} {f : Int} (h : blindAt ss f = true) {us bs : List TermD} (ha : 2 ≤ us.length) (hb : 1 ≤ bs.length) : makeT ss f (makeT ss f us :: bs) = makeT ss f (us ++ bs) := by
  rw [makeT_blind h (by simp; omega), makeT_blind h ha, makeT_blind h (by simp; omega)]
  exact normT_in _ h us bs
end Go.Proofs.Ytollijngiioonaa

/- A term that is made, as the program makes it. Conditions: terms of at most 549755813888 parts. -/
namespace Go.Proofs.Ytollijngiioonaa
set_option maxRecDepth 100000
open Go.RowKit

/-- While Make goes on: its answer's place. -/
structure MB (w wr : World) : Prop where
  be : Below w.heap.size w wr
  c0 : wr.cell? ⟨w.heap.size, 0, none⟩ = some (.int .i64 0)
  c1 : wr.cell? ⟨w.heap.size, 1, none⟩ = some (.int .i64 0)
  c2 : wr.cell? ⟨w.heap.size, 2, none⟩ = some (.slice none 0 0)
  cf : ∀ j, wr.frozen? ⟨w.heap.size, j, none⟩ = false
  z : w.heap.size + 1 ≤ wr.heap.size
theorem MB.on {w wr wr' : World} (h : MB w wr) (hb : Below wr.heap.size wr wr') : MB w wr' :=
  ⟨h.be.trans (hb.mono h.be.size), keepC hb h.c0, keepC hb h.c1, keepC hb h.c2, fun j => (hb.frozen (p := ⟨w.heap.size, j, none⟩) h.z).trans (h.cf j), Nat.le_trans h.z hb.size⟩
theorem make_end {w w4 : World} {x y : Int} {us : List TermD} {a' : Option Addr} {c' : Nat} (nb4 : MB w w4) (ho4 : OwnS w4 (fun k => w.heap.size + 1 ≤ k ∧ k < w4.heap.size) a' us) :
    (((w4.setCell ⟨w.heap.size, 0, none⟩ (.int .i64 x)).setCell ⟨w.heap.size, 1, none⟩ (.int .i64 y)).setCell ⟨w.heap.size, 2, none⟩ (.slice a' us.length c')).cell? ⟨w.heap.size, 0, none⟩ = some (.int .i64 x) ∧ (((w4.setCell ⟨w.heap.size, 0, none⟩ (.int .i64 x)).setCell ⟨w.heap.size, 1, none⟩ (.int .i64 y)).setCell ⟨w.heap.size, 2, none⟩ (.slice a' us.length c')).cell? ⟨w.heap.size, 1, none⟩ = some (.int .i64 y) ∧ (((w4.setCell ⟨w.heap.size, 0, none⟩ (.int .i64 x)).setCell ⟨w.heap.size, 1, none⟩ (.int .i64 y)).setCell ⟨w.heap.size, 2, none⟩ (.slice a' us.length c')).cell? ⟨w.heap.size, 2, none⟩ = some (.slice a' us.length c') ∧
      OwnS (((w4.setCell ⟨w.heap.size, 0, none⟩ (.int .i64 x)).setCell ⟨w.heap.size, 1, none⟩ (.int .i64 y)).setCell ⟨w.heap.size, 2, none⟩ (.slice a' us.length c')) (fun k => w.heap.size ≤ k ∧ k < (((w4.setCell ⟨w.heap.size, 0, none⟩ (.int .i64 x)).setCell ⟨w.heap.size, 1, none⟩ (.int .i64 y)).setCell ⟨w.heap.size, 2, none⟩ (.slice a' us.length c')).heap.size) a' us ∧ Below w.heap.size w (((w4.setCell ⟨w.heap.size, 0, none⟩ (.int .i64 x)).setCell ⟨w.heap.size, 1, none⟩ (.int .i64 y)).setCell ⟨w.heap.size, 2, none⟩ (.slice a' us.length c')) := by
  obtain ⟨z0, z1, z2⟩ := set3_cells (u := w4) (r := w.heap.size) (x := .int .i64 x) (y := .int .i64 y) (z := .slice a' us.length c') nb4.c0 nb4.c1 nb4.c2
  have hnS : ∀ j, ¬ (w.heap.size + 1 ≤ (⟨w.heap.size, j, none⟩ : Addr).block ∧ (⟨w.heap.size, j, none⟩ : Addr).block < w4.heap.size) := fun j q => by have := q.1; simp only at this; omega
  have hoF := ((ho4.setCell ⟨w.heap.size, 0, none⟩ (hnS 0) (.int .i64 x)).setCell ⟨w.heap.size, 1, none⟩ (hnS 1) (.int .i64 y)).setCell ⟨w.heap.size, 2, none⟩ (hnS 2) (.slice a' us.length c')
  have hbF := ((nb4.be.setCell (p := ⟨w.heap.size, 0, none⟩) (by simp) (.int .i64 x)).setCell (p := ⟨w.heap.size, 1, none⟩) (by simp) (.int .i64 y)).setCell (p := ⟨w.heap.size, 2, none⟩) (by simp) (.slice a' us.length c')
  exact ⟨z0, z1, z2, hoF.mono (fun k hk => ⟨by omega, by simpa using hk.2⟩), hbF⟩

theorem impMake_any (sa : Option Addr) (ss : List SymD) (sc : Nat) (f : Int) (ks : List TermD) (ka : Option Addr) (kc hi : Nat) (w : World) (hs : RdS w sa ss) (hp : partsL ks + 1 ≤ 549755813888) (hr : RdK w hi ka ks) (hhi : hi ≤ w.heap.size) (hc : ks.length ≤ kc) (hf : isW f) :
    Calls Try.prog 10 #[.slice sa ss.length sc, .int .i64 f, .slice ka ks.length kc] w fun e w' => ∃ a' c', e = .returned (.agg #[.int .i64 (makeT ss f ks).f, .int .i64 (makeT ss f ks).v, .slice a' (makeT ss f ks).kids.length c']) ∧ OwnS w' (fun k => w.heap.size ≤ k ∧ k < w'.heap.size) a' (makeT ss f ks).kids ∧ (makeT ss f ks).kids.length ≤ c' ∧ Below w.heap.size w w' := by
  obtain ⟨W, hW⟩ : ∃ W, W = (w.alloc (.cells #[.int .i64 0, .int .i64 0, .slice none 0 0] 27)).alloc (.cells #[.int .i64 f, .int .i64 0, .slice ka ks.length kc] 27) := ⟨_, rfl⟩
  have hb0 : Below w.heap.size w W := by rw [hW]; exact ((Below.refl _ _).alloc (Nat.le_refl _) _).alloc (by simp) _
  have hz0 : W.heap.size = w.heap.size + 1 + 1 := by rw [hW]; simp
  have nb0 : MB w W := ⟨hb0, by rw [hW]; simp [go_sem], by rw [hW]; simp [go_sem], by rw [hW]; simp [go_sem], fun j => by rw [hW]; simp [go_sem], by omega⟩
  have t0 : W.cell? ⟨w.heap.size + 1, 0, none⟩ = some (.int .i64 f) := by rw [hW]; simp [go_sem]
  have t1 : W.cell? ⟨w.heap.size + 1, 1, none⟩ = some (.int .i64 0) := by rw [hW]; simp [go_sem]
  have t2 : W.cell? ⟨w.heap.size + 1, 2, none⟩ = some (.slice ka ks.length kc) := by rw [hW]; simp [go_sem]
  have hpm : partsT (.mk f 0 ks) ≤ 549755813888 := by rw [partsT]; omega
  have hrW := hr.on (hb0.mono hhi)
  have hsW := hs.below hb0
  have CB := impBlind_any sa ss ss.length sc f W rfl hsW
  have CI := isSym_any sa ss.length sc f W
  by_cases hsy : 0 ≤ f ∧ f < (ss.length : Int)
  · rw [decide_eq_true hsy.1, decide_eq_true hsy.2] at CI
    have hm0 : ¬ (blindAt ss f = true ∧ ks.length ≤ 1) → makeT ss f ks = normT (blindAt ss) (.mk f 0 ks) := by
      intro h
      unfold makeT
      rw [if_neg (fun q => h ⟨q.1, by rw [q.2]; simp⟩), if_neg (fun q => h ⟨q.1, by omega⟩), if_neg (fun q => q hsy)]
    have CT := impNorm_any sa ss sc (.mk f 0 ks) ka kc hi W hsW hpm hrW (Nat.le_trans hhi hb0.size) hc ⟨hf, by show isW 0; unfold isW; omega⟩
    by_cases hB : blindAt ss f = true
    · rw [hB] at CB
      rcases ks with _ | ⟨k, _ | ⟨k2, r⟩⟩
      · have hm : makeT ss f [] = .mk 0 0 [] := by unfold makeT; rw [if_pos ⟨hB, rfl⟩]
        rw [hm]
        simp only [List.length_nil] at hW
        clear hm0 CT hr hhi hc hs hsW hrW
        have d0 := nb0.c0; have d1 := nb0.c1; have d2 := nb0.c2; have df := nb0.cf
        have HW : Hid _ := hW
        clear hW
        go_enter Try.func10, Try.ntmps10
        go_wp2_with (first
          | (go_at_call 43; rw [← HW.out]; refine CI.mono ?_; rintro e w2 ⟨rfl, hw2⟩; subst hw2)
          | (go_at_call 14; refine CB.mono ?_; rintro e w2 ⟨rfl, hw2⟩; subst hw2))
        obtain ⟨z0, z1, z2, hoF, hbF⟩ := make_end (x := 0) (y := 0) (us := []) (a' := none) (c' := 0) nb0 (.nil _ _)
        simp only [List.length_nil] at z0 z1 z2 hoF hbF
        exact bodyPost_ret (v := .agg #[.int .i64 0, .int .i64 0, .slice none [].length 0]) (by simp [results, Try.results10, go_sem, z0, z1, z2]) rfl ⟨none, 0, rfl, hoF, (Nat.le_refl _), hbF⟩
      · have hm : makeT ss f [k] = normT (blindAt ss) k := by unfold makeT; rw [if_neg (by simp), if_pos ⟨hB, rfl⟩]; rfl
        rw [hm]
        obtain ⟨b, off, ak, ck, hka, hlt, q0, q1, q2, hck, hrk, hwk⟩ := hrW.head
        subst hka
        have C := impNorm_any sa ss sc k ak ck hi W hsW (by simp [partsL] at hp; omega) hrk (Nat.le_trans hhi hb0.size) hck hwk
        have e1 : (normT (blindAt ss) k).f = k.f := by rw [normT_eq]; rfl
        have e2 : (normT (blindAt ss) k).v = k.v := by rw [normT_eq]; rfl
        rw [e1, e2]
        generalize (normT (blindAt ss) k).kids = N at C ⊢
        simp only [List.length_cons, List.length_nil, Nat.zero_add] at hW
        clear hm0 CT hr hhi hc hs hsW hrW hrk hck hwk e1 e2 hm
        have HW : Hid _ := hW
        clear hW
        go_enter Try.func10, Try.ntmps10
        go_wp2_with (first
          | (go_at_call 43; rw [← HW.out]; refine CI.mono ?_; rintro e w2 ⟨rfl, hw2⟩; subst hw2)
          | (go_at_call 14; refine CB.mono ?_; rintro e w2 ⟨rfl, hw2⟩; subst hw2)
          | (go_at_call 8; refine C.mono ?_; rintro e w4 ⟨a', c', rfl, ho4, hc4, hb4⟩; have nb4 := nb0.on hb4; have d0 := nb4.c0; have d1 := nb4.c1; have d2 := nb4.c2; have df := nb4.cf; have hz4 : w.heap.size < w4.heap.size := nb4.z; clear C))
        obtain ⟨z0, z1, z2, hoF, hbF⟩ := make_end (x := k.f) (y := k.v) (us := N) (a' := a') (c' := c') nb4 (ho4.mono (fun k hk => ⟨by omega, hk.2⟩))
        exact bodyPost_ret (v := .agg #[.int .i64 k.f, .int .i64 k.v, .slice a' N.length c']) (by simp [results, Try.results10, go_sem, z0, z1, z2]) rfl ⟨a', c', rfl, hoF, hc4, hbF⟩
      · have hm := hm0 (fun q => by have := q.2; simp at this)
        rw [hm, normT_eq]
        rw [normT_eq] at CT
        dsimp only [TermD.f, TermD.v, TermD.kids] at CT ⊢
        generalize normL (blindAt ss) f (k :: k2 :: r) [] = N at CT ⊢
        simp only [List.length_cons] at hW CT t2 ⊢
        have hl0 : ((r.length : Int) + 1 + 1 == 0) = false := by simp; omega
        have hl1 : ((r.length : Int) + 1 + 1 == 1) = false := by simp; omega
        have hl2 : ¬ (r.length : Int) + 1 + 1 = 0 := by omega
        have hl3 : ¬ (r.length : Int) + 1 + 1 = 1 := by omega
        clear hm0 hr hhi hc hs hsW hrW hm hp hpm
        have HW : Hid _ := hW
        clear hW
        go_enter Try.func10, Try.ntmps10
        go_wp2_with (first
          | (go_at_call 43; rw [← HW.out]; refine CI.mono ?_; rintro e w2 ⟨rfl, hw2⟩; subst hw2)
          | (go_at_call 14; refine CB.mono ?_; rintro e w2 ⟨rfl, hw2⟩; subst hw2)
          | (go_at_call 8; refine CT.mono ?_; rintro e w4 ⟨a', c', rfl, ho4, hc4, hb4⟩; have nb4 := nb0.on hb4; have d0 := nb4.c0; have d1 := nb4.c1; have d2 := nb4.c2; have df := nb4.cf; have hz4 : w.heap.size < w4.heap.size := nb4.z; clear CT))
        obtain ⟨z0, z1, z2, hoF, hbF⟩ := make_end (x := f) (y := 0) (us := N) (a' := a') (c' := c') nb4 (ho4.mono (fun k hk => ⟨by omega, hk.2⟩))
        exact bodyPost_ret (v := .agg #[.int .i64 f, .int .i64 0, .slice a' N.length c']) (by simp [results, Try.results10, go_sem, z0, z1, z2]) rfl ⟨a', c', rfl, hoF, hc4, hbF⟩
    · have hBf : blindAt ss f = false := by simpa using hB
      rw [hBf] at CB
      have hm := hm0 (fun q => hB q.1)
      rw [hm, normT_eq]
      rw [normT_eq] at CT
      dsimp only [TermD.f, TermD.v, TermD.kids] at CT ⊢
      generalize normL (blindAt ss) f ks [] = N at CT ⊢
      clear hm0 hr hhi hc hs hsW hrW hm hp hpm
      have HW : Hid _ := hW
      clear hW
      go_enter Try.func10, Try.ntmps10
      go_wp2_with (first
        | (go_at_call 43; rw [← HW.out]; refine CI.mono ?_; rintro e w2 ⟨rfl, hw2⟩; subst hw2)
        | (go_at_call 14; refine CB.mono ?_; rintro e w2 ⟨rfl, hw2⟩; subst hw2)
        | (go_at_call 8; refine CT.mono ?_; rintro e w4 ⟨a', c', rfl, ho4, hc4, hb4⟩; have nb4 := nb0.on hb4; have d0 := nb4.c0; have d1 := nb4.c1; have d2 := nb4.c2; have df := nb4.cf; have hz4 : w.heap.size < w4.heap.size := nb4.z; clear CT))
      obtain ⟨z0, z1, z2, hoF, hbF⟩ := make_end (x := f) (y := 0) (us := N) (a' := a') (c' := c') nb4 (ho4.mono (fun k hk => ⟨by omega, hk.2⟩))
      exact bodyPost_ret (v := .agg #[.int .i64 f, .int .i64 0, .slice a' N.length c']) (by simp [results, Try.results10, go_sem, z0, z1, z2]) rfl ⟨a', c', rfl, hoF, hc4, hbF⟩
  · have hnb : blindAt ss f = false := by
      cases hB : blindAt ss f with
      | false => rfl
      | true => exact absurd (blindAt_lt hB) hsy
    have hm : makeT ss f ks = .mk f 0 ks := by unfold makeT; simp [hnb]; intro h1 h2; exact absurd ⟨h1, h2⟩ hsy
    rw [hm]
    have hdf : (decide (0 ≤ f) && decide (f < (ss.length : Int))) = false := by simp; omega
    rw [hdf] at CI
    have C := copyTerm_any (.mk f 0 ks) ka kc hi W hpm hrW (Nat.le_trans hhi hb0.size) hc ⟨hf, by show isW 0; unfold isW; omega⟩
    dsimp only [TermD.f, TermD.v, TermD.kids] at C ⊢
    clear CB hp hr hhi hc hs hsW hrW
    have HW : Hid _ := hW
    clear hW
    go_enter Try.func10, Try.ntmps10
    go_wp2_with (first
      | (go_at_call 43; rw [← HW.out]; refine CI.mono ?_; rintro e w2 ⟨rfl, hw2⟩; subst hw2)
      | (go_at_call 44; refine C.mono ?_; rintro e w4 ⟨a', c', rfl, ho4, hc4, hb4⟩; have nb4 := nb0.on hb4; have d0 := nb4.c0; have d1 := nb4.c1; have d2 := nb4.c2; have df := nb4.cf; have hz4 : w.heap.size < w4.heap.size := nb4.z; clear C))
    obtain ⟨z0, z1, z2, hoF, hbF⟩ := make_end (x := f) (y := 0) (us := ks) (a' := a') (c' := c') nb4 (ho4.mono (fun k hk => ⟨by omega, hk.2⟩))
    exact bodyPost_ret (v := .agg #[.int .i64 f, .int .i64 0, .slice a' ks.length c']) (by simp [results, Try.results10, go_sem, z0, z1, z2]) rfl ⟨a', c', rfl, hoF, hc4, hbF⟩
end Go.Proofs.Ytollijngiioonaa

/- Contracts of the specification's functions on lists of functions. Conditions: at most 1048577 functions, names of at most 1048576 bytes. -/
namespace Go.Proofs.Ytollijngiioonaa
set_option maxRecDepth 100000
open Go.RowKit

set_option maxHeartbeats 800000 in
theorem specSymOf_any (a : Option Addr) (ss : List SymD) (n cap : Nat) (nm : ByteArray) (w : World) (hn : n = ss.length) (hr : RdS w a ss) (hl : ss.length ≤ 1048577) :
    Calls Try.prog 91 #[.slice a n cap, .string nm] w fun e w' => e = .returned (.int .i64 (symOf ss nm)) ∧ w' = w := by
  subst hn
  rcases hr with rfl | ⟨b, off, rfl, hlt, hc⟩
  · go_enter Try.func91, Try.ntmps91
    go_wp2
    refine wp_loop_rounds 1 ?_
    rw [rounds_succ]
    go_wp2
    go_ret
    exact ⟨rfl, rfl⟩
  · go_enter Try.func91, Try.ntmps91
    go_wp2
    go_loop [5] (fun i => ∃ k : Nat, k ≤ ss.length ∧ i = .int .i64 k ∧ Hid (∀ j, (h : j < ss.length) → j < k → (ss[j].name.toList == nm.toList) = false)) (fun i => ss.length - (intOf i).toNat)
    case atStart => exact ⟨0, Nat.zero_le _, rfl, fun j _ hj => absurd hj (by omega)⟩
    case round =>
      obtain ⟨k, hk, rfl, H0⟩ := hrel
      by_cases hk' : k < ss.length
      · obtain ⟨c0, c1, c2⟩ := hc k hk'
        clear hc
        go_wp2
        · go_ret
          exact ⟨ret_int (symOf_hit hk' (fun j h hj => H0.out j h hj) (by assumption)).symm, rfl⟩
        · have hf : (ss[k].name.toList == nm.toList) = false := by assumption
          go_round
          case rel => exact ⟨k + 1, by omega, by go_num, fun j h hj => by
            by_cases e : j = k
            · subst e; exact hf
            · exact H0.out j h (by omega)⟩
          case measure => simp [intOf]; omega
      · go_wp2
        go_ret
        exact ⟨ret_int (symOf_none fun j hj => H0.out j hj (by omega)).symm, rfl⟩

set_option maxHeartbeats 1600000 in
theorem specNameOk_any (s : ByteArray) (w : World) (hs : s.size ≤ 9223372036854775806) :
    Calls Try.prog 90 #[.string s] w fun e w' => e = .returned (.bool (nameOk s)) ∧ w' = w := by
  go_enter Try.func90, Try.ntmps90
  go_wp2
  go_loop [3] (fun i => ∃ k : Nat, k ≤ s.size ∧ i = .int .i64 k ∧ Hid (chsOk s k = true)) (fun i => s.size - (intOf i).toNat)
  case atStart => exact ⟨0, Nat.zero_le _, rfl, rfl⟩
  case round =>
    obtain ⟨k, hk, rfl, HA⟩ := hrel
    by_cases hk' : k < s.size
    · have HG : Hid (chOk k s[k] = true → chsOk s (k + 1) = true) := fun h => by rw [chsOk, HA.out, dif_pos hk', h]; rfl
      have HB : Hid (chOk k s[k] = false → nameOk s = false) := chs_bad s hk'
      rcases (show ((97 : Int) ≤ (s[k].toNat : Int) ∧ (s[k].toNat : Int) ≤ 122) ∨ (122 : Int) < (s[k].toNat : Int) ∨ ((57 : Int) < (s[k].toNat : Int) ∧ (s[k].toNat : Int) < 97) ∨ ((48 : Int) ≤ (s[k].toNat : Int) ∧ (s[k].toNat : Int) ≤ 57) ∨ (s[k].toNat : Int) < 48 by omega) with ⟨h1, h2⟩ | h1 | ⟨h1, h2⟩ | ⟨h1, h2⟩ | h1
      · have HC : Hid (chsOk s (k + 1) = true) := HG.out (by simp [chOk]; omega)
        go_wp2
        go_round
        case rel => exact ⟨k + 1, by omega, by go_num, HC⟩
        case measure => simp [intOf]; omega
      · have HC : Hid (nameOk s = false) := HB.out (by simp [chOk]; omega)
        have hd1 : decide ((s[k].toNat : Int) ≤ 122) = false := by simp; omega
        have hd2 : decide ((s[k].toNat : Int) ≤ 57) = false := by simp; omega
        by_cases hk0 : (0 : Int) < (k : Int)
        all_goals
          go_wp2
          go_ret
          exact ⟨ret_bool HC.out.symm, rfl⟩
      · have HC : Hid (nameOk s = false) := HB.out (by simp [chOk]; omega)
        have hd2 : decide ((s[k].toNat : Int) ≤ 57) = false := by simp; omega
        by_cases hk0 : (0 : Int) < (k : Int)
        all_goals
          go_wp2
          go_ret
          exact ⟨ret_bool HC.out.symm, rfl⟩
      · by_cases hk0 : (0 : Int) < (k : Int)
        · have HC : Hid (chsOk s (k + 1) = true) := HG.out (by simp [chOk]; omega)
          have hd2 : decide ((s[k].toNat : Int) ≤ 57) = true := by simp; omega
          go_wp2
          go_round
          case rel => exact ⟨k + 1, by omega, by go_num, HC⟩
          case measure => simp [intOf]; omega
        · have HC : Hid (nameOk s = false) := HB.out (by simp [chOk]; omega)
          go_wp2
          go_ret
          exact ⟨ret_bool HC.out.symm, rfl⟩
      · have HC : Hid (nameOk s = false) := HB.out (by simp [chOk]; omega)
        by_cases hk0 : (0 : Int) < (k : Int)
        all_goals
          go_wp2
          go_ret
          exact ⟨ret_bool HC.out.symm, rfl⟩
    · have e : k = s.size := by omega
      have HC : Hid (chsOk s s.size = true) := by rw [← e]; exact HA
      clear e HA
      by_cases h1 : (1 : Int) ≤ (s.size : Int)
      · have HN : Hid (nameOk s = decide ((s.size : Int) ≤ 8)) := name_pos HC.out h1
        go_wp2_with go_in
        go_ret
        exact ⟨ret_bool HN.out.symm, rfl⟩
      · have HN : Hid (nameOk s = false) := name_neg h1
        go_wp2_with go_in
        go_ret
        exact ⟨ret_bool HN.out.symm, rfl⟩

set_option maxHeartbeats 3200000 in
theorem specSigOk_any (a : Option Addr) (ss : List SymD) (n cap : Nat) (w : World) (hn : n = ss.length) (hr : RdS w a ss) (hl : ss.length ≤ 1048577) (hnm : ∀ s ∈ ss, s.name.size ≤ 1048576) :
    Calls Try.prog 74 #[.slice a n cap] w fun e w' => e = .returned (.bool (sigOk ss)) ∧ w' = w := by
  subst hn
  have HR : Hid (RdS w a ss) := hr
  rcases hr with rfl | ⟨b, off, rfl, hlt, hc⟩
  · go_enter Try.func74, Try.ntmps74
    go_wp2
    refine wp_loop_rounds 1 ?_
    rw [rounds_succ]
    go_wp2_with go_in
    go_ret
    exact ⟨rfl, rfl⟩
  · go_enter Try.func74, Try.ntmps74
    go_wp2
    go_loop [3] (fun i => ∃ k : Nat, k ≤ ss.length ∧ i = .int .i64 k ∧ Hid (goodTo ss k = true)) (fun i => ss.length - (intOf i).toNat)
    case atStart => exact ⟨0, Nat.zero_le _, rfl, rfl⟩
    case round =>
      obtain ⟨k, hk, rfl, HA⟩ := hrel
      by_cases hk' : k < ss.length
      · obtain ⟨c0, c1, c2⟩ := hc k hk'
        have hsz := hnm ss[k] (List.getElem_mem hk')
        have NM := specNameOk_any ss[k].name w (by omega)
        have SO := specSymOf_any (some ⟨b, off, none⟩) ss _ cap ss[k].name w rfl HR.out hl
        have HB : Hid (goodAt ss k ss[k] = false → sigOk ss = false) := sig_bad hk'
        have HG : Hid (goodAt ss k ss[k] = true → goodTo ss (k + 1) = true) := good_next hk' HA.out
        have DG : Hid (goodAt ss k ss[k] = (nameOk ss[k].name && (symOf ss ss[k].name == (k : Int)) && (decide (0 ≤ ss[k].ar) && decide (ss[k].ar ≤ 3)) && (!ss[k].ac || ss[k].ar == 2))) := rfl
        generalize hav : ss[k].ar = av at c1 DG
        generalize hcv : ss[k].ac = cv at c2 DG
        generalize hnv : ss[k].name = nv at c0 NM SO DG
        clear hc hnm hsz hav hcv hnv
        cases hN : nameOk nv with
        | false =>
          rw [hN] at NM DG
          have HC : Hid (sigOk ss = false) := HB.out (by rw [DG.out]; rfl)
          clear HB HG DG SO hN
          go_wp2_with (go_at_call 90; refine NM.mono ?_; rintro e w' ⟨rfl, hw⟩; subst w')
          go_ret
          exact ⟨ret_bool HC.out.symm, rfl⟩
        | true =>
          rw [hN] at NM DG
          clear hN
          generalize symOf ss nv = so at SO DG
          by_cases hS : so = (k : Int)
          · subst hS
            by_cases h3 : 0 ≤ av ∧ av ≤ 3
            · obtain ⟨h31, h32⟩ := h3
              cases cv with
              | false =>
                have HC : Hid (goodTo ss (k + 1) = true) := HG.out (by rw [DG.out]; simp; omega)
                clear HB HG DG
                go_wp2_with (first | (go_at_call 90; refine NM.mono ?_; rintro e w' ⟨rfl, hw⟩; subst w') | (go_at_call 91; refine SO.mono ?_; rintro e w' ⟨rfl, hw⟩; subst w') | (go_at_call 48; go_in))
                go_round
                case rel => exact ⟨k + 1, by omega, by go_num, HC⟩
                case measure => simp [intOf]; omega
              | true =>
                by_cases h2 : av = 2
                · subst h2
                  have HC : Hid (goodTo ss (k + 1) = true) := HG.out (by rw [DG.out]; simp)
                  clear HB HG DG
                  go_wp2_with (first | (go_at_call 90; refine NM.mono ?_; rintro e w' ⟨rfl, hw⟩; subst w') | (go_at_call 91; refine SO.mono ?_; rintro e w' ⟨rfl, hw⟩; subst w') | (go_at_call 48; go_in))
                  go_round
                  case rel => exact ⟨k + 1, by omega, by go_num, HC⟩
                  case measure => simp [intOf]; omega
                · have HC : Hid (sigOk ss = false) := HB.out (by rw [DG.out]; simp [h2])
                  have h2' : (av != 2) = true := by simpa using h2
                  clear HB HG DG h2
                  go_wp2_with (first | (go_at_call 90; refine NM.mono ?_; rintro e w' ⟨rfl, hw⟩; subst w') | (go_at_call 91; refine SO.mono ?_; rintro e w' ⟨rfl, hw⟩; subst w') | (go_at_call 48; go_in))
                  go_ret
                  exact ⟨ret_bool HC.out.symm, rfl⟩
            · have HC : Hid (sigOk ss = false) := HB.out (by rw [DG.out]; simp; omega)
              clear HB HG DG
              rcases (show av < 0 ∨ 3 < av by omega) with h3 | h3
              all_goals
                go_wp2_with (first | (go_at_call 90; refine NM.mono ?_; rintro e w' ⟨rfl, hw⟩; subst w') | (go_at_call 91; refine SO.mono ?_; rintro e w' ⟨rfl, hw⟩; subst w') | (go_at_call 48; go_in))
                go_ret
                exact ⟨ret_bool HC.out.symm, rfl⟩
          · have HC : Hid (sigOk ss = false) := HB.out (by rw [DG.out]; simp [hS])
            have hS' : (so != (k : Int)) = true := by simpa using hS
            clear HB HG DG hS
            go_wp2_with (first | (go_at_call 90; refine NM.mono ?_; rintro e w' ⟨rfl, hw⟩; subst w') | (go_at_call 91; refine SO.mono ?_; rintro e w' ⟨rfl, hw⟩; subst w'))
            go_ret
            exact ⟨ret_bool HC.out.symm, rfl⟩
      · have e : k = ss.length := by omega
        have HC : Hid (goodTo ss ss.length = true) := by rw [← e]; exact HA
        clear e HA hnm
        by_cases h1 : (1 : Int) ≤ (ss.length : Int)
        · by_cases h8 : (ss.length : Int) ≤ 8
          · obtain ⟨c0, c1, c2⟩ := hc 0 (by omega)
            simp only [Nat.zero_mul, Nat.add_zero] at c0 c1 c2
            have hp : (0 : Int) < (ss.length : Int) := by omega
            have HE : Hid (sigOk ss = isTT ss[0]) := sig_end HC.out (by omega) (by omega)
            clear hc
            go_wp2_with (go_at_call 48; go_in)
            · have q3 : ss[0].ac = true := by assumption
              go_ret
              exact ⟨ret_bool (by rw [HE.out, isTT, q3]; simp), rfl⟩
            · have q1 : ss[0].name.toList = [116, 116] := by assumption
              have q2 : ss[0].ar = 0 := by assumption
              have q3 : ¬ ss[0].ac = true := by assumption
              go_ret
              exact ⟨ret_bool (by rw [HE.out, isTT, q1, q2]; simp [q3]), rfl⟩
            · have q2 : ¬ ss[0].ar = 0 := by assumption
              go_ret
              exact ⟨ret_bool (by rw [HE.out, isTT]; simp [q2]), rfl⟩
            · have q1 : ¬ ss[0].name.toList = [116, 116] := by assumption
              go_ret
              exact ⟨ret_bool (by rw [HE.out, isTT]; simp [q1]), rfl⟩
          · have HN : Hid (sigOk ss = false) := by show _ = _; rw [sigOk, decide_eq_false (show ¬ ss.length ≤ 8 by omega)]; simp
            clear hc
            go_wp2_with (go_at_call 48; go_in)
            go_ret
            exact ⟨ret_bool HN.out.symm, rfl⟩
        · have HN : Hid (sigOk ss = false) := by show _ = _; rw [sigOk, decide_eq_false (show ¬ 1 ≤ ss.length by omega)]; simp
          clear hc
          go_wp2_with (go_at_call 48; go_in)
          go_ret
          exact ⟨ret_bool HN.out.symm, rfl⟩
end Go.Proofs.Ytollijngiioonaa

