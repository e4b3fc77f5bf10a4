/- What the proof of FnExactOriented stands on, part 13 of 13: each piece says what it proves and under which conditions. Conditions: as each piece says. -/
import Derived.Test.YtollijngiioonaaGreatPackExactOriented12
import Derived.Test.YtollijngiioonaaGreatProg
import Derived.Deep.Slices
import Derived.Deep.RegionHeld3
import Derived.Deep.DeepMust
/- What lies in memory while the law on which side is greater goes on: which block belongs to what; its drawn region. Conditions: none. -/
namespace Go.Proofs.YtollijngiioonaaGreat
set_option maxRecDepth 100000
open Go.RowKit

structure OS (w1 : World) (x : TermD) (Bv : Nat) (av : Option Addr) (cv : Nat) (y : TermD) (Bz : Nat) (az : Option Addr) (cz : Nat) (o : Nat → Nat) (W : World) : Prop where
  tg : Tg w1 o W
  v : X3 o W 10 11 Bv x av cv
  z : X3 o W 12 13 Bz y az cz
structure OA1 (w1 : World) (x : TermD) (Bv : Nat) (av : Option Addr) (cv : Nat) (y : TermD) (Bz : Nat) (az : Option Addr) (cz : Nat) (ss : List SymD) (G : Nat) (o : Nat → Nat) (W : World) : Prop where
  q : OS w1 x Bv av cv y Bz az cz o W
  s : SR o W 14 G ss
structure OA2 (w1 : World) (x : TermD) (Bv : Nat) (av : Option Addr) (cv : Nat) (y : TermD) (Bz : Nat) (az : Option Addr) (cz : Nat) (ss : List SymD) (G : Nat) (t : TermD) (Bx : Nat) (ax : Option Addr) (cx : Nat) (o : Nat → Nat) (W : World) : Prop where
  q : OA1 w1 x Bv av cv y Bz az cz ss G o W
  bt : X3 o W 15 16 Bx t ax cx
structure OA3 (w1 : World) (x : TermD) (Bv : Nat) (av : Option Addr) (cv : Nat) (y : TermD) (Bz : Nat) (az : Option Addr) (cz : Nat) (ss : List SymD) (G : Nat) (t : TermD) (Bx : Nat) (ax : Option Addr) (cx : Nat) (u : TermD) (By : Nat) (ay : Option Addr) (cy : Nat) (o : Nat → Nat) (W : World) : Prop where
  q : OA2 w1 x Bv av cv y Bz az cz ss G t Bx ax cx o W
  bu : X3 o W 17 18 By u ay cy
structure OA4 (w1 : World) (x : TermD) (Bv : Nat) (av : Option Addr) (cv : Nat) (y : TermD) (Bz : Nat) (az : Option Addr) (cz : Nat) (ss : List SymD) (G : Nat) (t : TermD) (Bx : Nat) (ax : Option Addr) (cx : Nat) (u : TermD) (By : Nat) (ay : Option Addr) (cy : Nat) (Bg : Nat) (ag : Option Addr) (cg : Nat) (Bh : Nat) (ah : Option Addr) (ch : Nat) (o : Nat → Nat) (W : World) : Prop where
  q : OA3 w1 x Bv av cv y Bz az cz ss G t Bx ax cx u By ay cy o W
  g : X3 o W 19 20 Bg x ag cg
  h : X3 o W 21 22 Bh y ah ch
structure OB2 (w1 : World) (x : TermD) (Bv : Nat) (av : Option Addr) (cv : Nat) (y : TermD) (Bz : Nat) (az : Option Addr) (cz : Nat) (t : TermD) (Bx : Nat) (ax : Option Addr) (cx : Nat) (u : TermD) (By : Nat) (ay : Option Addr) (cy : Nat) (Bg : Nat) (ag : Option Addr) (cg : Nat) (Bh : Nat) (ah : Option Addr) (ch : Nat) (o : Nat → Nat) (W : World) : Prop where
  q : OS w1 x Bv av cv y Bz az cz o W
  bt : X3 o W 15 16 Bx t ax cx
  bu : X3 o W 17 18 By u ay cy
  g : X3 o W 19 20 Bg x ag cg
  h : X3 o W 21 22 Bh y ah ch
structure OB1 (w1 : World) (x : TermD) (Bv : Nat) (av : Option Addr) (cv : Nat) (y : TermD) (Bz : Nat) (az : Option Addr) (cz : Nat) (u : TermD) (By : Nat) (ay : Option Addr) (cy : Nat) (Bg : Nat) (ag : Option Addr) (cg : Nat) (Bh : Nat) (ah : Option Addr) (ch : Nat) (o : Nat → Nat) (W : World) : Prop where
  q : OS w1 x Bv av cv y Bz az cz o W
  bu : X3 o W 17 18 By u ay cy
  g : X3 o W 19 20 Bg x ag cg
  h : X3 o W 21 22 Bh y ah ch
structure OB0 (w1 : World) (x : TermD) (Bv : Nat) (av : Option Addr) (cv : Nat) (y : TermD) (Bz : Nat) (az : Option Addr) (cz : Nat) (Bg : Nat) (ag : Option Addr) (cg : Nat) (Bh : Nat) (ah : Option Addr) (ch : Nat) (o : Nat → Nat) (W : World) : Prop where
  q : OS w1 x Bv av cv y Bz az cz o W
  g : X3 o W 19 20 Bg x ag cg
  h : X3 o W 21 22 Bh y ah ch
structure OM1 (w1 : World) (x : TermD) (Bv : Nat) (av : Option Addr) (cv : Nat) (y : TermD) (Bz : Nat) (az : Option Addr) (cz : Nat) (Bg : Nat) (ag : Option Addr) (cg : Nat) (Bh : Nat) (ah : Option Addr) (ch : Nat) (o : Nat → Nat) (W : World) : Prop where
  q : OS w1 x Bv av cv y Bz az cz o W
  e : o Bg = 19
  b : C3 W Bg (.int .i64 x.f) (.int .i64 x.v) (.slice ag x.kids.length cg)
  m1 : Mk W (fun k => o k = 20) ag x.kids 1
  h : X3 o W 21 22 Bh y ah ch
structure OM2 (w1 : World) (x : TermD) (Bv : Nat) (av : Option Addr) (cv : Nat) (y : TermD) (Bz : Nat) (az : Option Addr) (cz : Nat) (Bg : Nat) (ag : Option Addr) (cg : Nat) (Bh : Nat) (ah : Option Addr) (ch : Nat) (o : Nat → Nat) (W : World) : Prop where
  q : OS w1 x Bv av cv y Bz az cz o W
  e : o Bg = 19
  b : C3 W Bg (.int .i64 x.f) (.int .i64 x.v) (.slice ag x.kids.length cg)
  m1 : Mk W (fun k => o k = 20) ag x.kids 1
  e2 : o Bh = 21
  b2 : C3 W Bh (.int .i64 y.f) (.int .i64 y.v) (.slice ah y.kids.length ch)
  m2 : Mk W (fun k => o k = 22) ah y.kids (1 + 2 * partsL x.kids)
section
variable {w1 : World} {x : TermD} {Bv : Nat} {av : Option Addr} {cv : Nat} {y : TermD} {Bz : Nat} {az : Option Addr} {cz : Nat} {ss : List SymD} {G : Nat} {t : TermD} {Bx : Nat} {ax : Option Addr} {cx : Nat} {u : TermD} {By : Nat} {ay : Option Addr} {cy : Nat} {Bg : Nat} {ag : Option Addr} {cg : Nat} {Bh : Nat} {ah : Option Addr} {ch : Nat} {o o' : Nat → Nat} {W W' : World}
theorem OS.tp {p : Nat → Prop} (h : OS w1 x Bv av cv y Bz az cz o W) (T : Tg w1 o' W') (F : TP p o W o' W') (hp : ¬ p 10 ∧ ¬ p 11 ∧ ¬ p 12 ∧ ¬ p 13) : OS w1 x Bv av cv y Bz az cz o' W' :=
  ⟨T, h.v.tp h.tg F (by decide) hp.1 hp.2.1, h.z.tp h.tg F (by decide) hp.2.2.1 hp.2.2.2⟩
theorem OA1.on (h : OA1 w1 x Bv av cv y Bz az cz ss G o W) (hb : Below W.heap.size W W') (T : Tg w1 o' W') (F : TP pNo o W o' W') : OA1 w1 x Bv av cv y Bz az cz ss G o' W' := ⟨h.q.tp T F ⟨id, id, id, id⟩, h.s.on hb F.old⟩
theorem OA2.on (h : OA2 w1 x Bv av cv y Bz az cz ss G t Bx ax cx o W) (hb : Below W.heap.size W W') (T : Tg w1 o' W') (F : TP pNo o W o' W') : OA2 w1 x Bv av cv y Bz az cz ss G t Bx ax cx o' W' := ⟨h.q.on hb T F, h.bt.tp h.q.q.tg F (by decide) id id⟩
theorem OA3.on (h : OA3 w1 x Bv av cv y Bz az cz ss G t Bx ax cx u By ay cy o W) (hb : Below W.heap.size W W') (T : Tg w1 o' W') (F : TP pNo o W o' W') : OA3 w1 x Bv av cv y Bz az cz ss G t Bx ax cx u By ay cy o' W' := ⟨h.q.on hb T F, h.bu.tp h.q.q.q.tg F (by decide) id id⟩
theorem OA4.on (h : OA4 w1 x Bv av cv y Bz az cz ss G t Bx ax cx u By ay cy Bg ag cg Bh ah ch o W) (hb : Below W.heap.size W W') : OA4 w1 x Bv av cv y Bz az cz ss G t Bx ax cx u By ay cy Bg ag cg Bh ah ch o W' :=
  ⟨h.q.on hb (h.q.q.q.q.tg.same hb) (TP.same _ o hb), h.g.tp h.q.q.q.q.tg (TP.same pNo o hb) (by decide) id id, h.h.tp h.q.q.q.q.tg (TP.same pNo o hb) (by decide) id id⟩
theorem OB0.on (h : OB0 w1 x Bv av cv y Bz az cz Bg ag cg Bh ah ch o W) (hb : Below W.heap.size W W') : OB0 w1 x Bv av cv y Bz az cz Bg ag cg Bh ah ch o W' :=
  ⟨h.q.tp (h.q.tg.same hb) (TP.same pNo o hb) ⟨id, id, id, id⟩, h.g.tp h.q.tg (TP.same pNo o hb) (by decide) id id, h.h.tp h.q.tg (TP.same pNo o hb) (by decide) id id⟩
theorem OM2.on (h : OM2 w1 x Bv av cv y Bz az cz Bg ag cg Bh ah ch o W) (hb : Below W.heap.size W W') : OM2 w1 x Bv av cv y Bz az cz Bg ag cg Bh ah ch o W' :=
  ⟨h.q.tp (h.q.tg.same hb) (TP.same pNo o hb) ⟨id, id, id, id⟩, h.e, h.b.on hb, h.m1.tp h.q.tg (TP.same pNo o hb) (by decide) id, h.e2, h.b2.on hb, h.m2.tp h.q.tg (TP.same pNo o hb) (by decide) id⟩
theorem OS.sym (h : OS w1 x Bv av cv y Bz az cz o W) (hb : Below W.heap.size W W') (hw : W'.ownsRow W.heap.size 103 3 (.slice (some ⟨W.heap.size, 0, none⟩) ss.length ss.length) ss.length (symCs ss)) : ∃ o', OA1 w1 x Bv av cv y Bz az cz ss W.heap.size o' W' :=
  ⟨_, h.tp (h.tg.grow hb 14) (TP.grow pNo o hb 14) ⟨id, id, id, id⟩, upd_new (Nat.le_refl _) (hw.lt _ rfl).2, hw⟩
theorem OA1.term (h : OA1 w1 x Bv av cv y Bz az cz ss G o W) (hb : Below W.heap.size W W') (hk : OwnS W' (fun k => W.heap.size ≤ k ∧ k < W'.heap.size) ax t.kids) (TT : TypeId) : ∃ o', OA2 w1 x Bv av cv y Bz az cz ss G t W'.heap.size ax cx o' (W'.alloc (.cells #[.int .i64 t.f, .int .i64 t.v, .slice ax t.kids.length cx] TT)) := by
  obtain ⟨o', F, T, hx⟩ := X3.new (cx := cx) h.q.tg hb hk 15 16 (by decide) TT
  exact ⟨o', h.on (hb.trans (Below.mono ((Below.refl _ _).alloc (Nat.le_refl _) _) hb.size)) T F, hx⟩
theorem OA2.term (h : OA2 w1 x Bv av cv y Bz az cz ss G t Bx ax cx o W) (hb : Below W.heap.size W W') (hk : OwnS W' (fun k => W.heap.size ≤ k ∧ k < W'.heap.size) ay u.kids) (TT : TypeId) : ∃ o', OA3 w1 x Bv av cv y Bz az cz ss G t Bx ax cx u W'.heap.size ay cy o' (W'.alloc (.cells #[.int .i64 u.f, .int .i64 u.v, .slice ay u.kids.length cy] TT)) := by
  obtain ⟨o', F, T, hx⟩ := X3.new (cx := cy) h.q.q.tg hb hk 17 18 (by decide) TT
  exact ⟨o', h.on (hb.trans (Below.mono ((Below.refl _ _).alloc (Nat.le_refl _) _) hb.size)) T F, hx⟩
/-- Two terms that came of one call, and a box for either. -/
theorem X3.pair {p : World} {m : Nat} (T : Tg p o W) (hO : Ori W x ag cg y ah ch m W') (g g1 h h1 : Nat) (n1 : g1 ≠ 0) (n2 : h1 ≠ 0) (TT : TypeId) : ∃ o', TP pNo o W o' ((W'.alloc (.cells #[.int .i64 x.f, .int .i64 x.v, .slice ag x.kids.length cg] TT)).alloc (.cells #[.int .i64 y.f, .int .i64 y.v, .slice ah y.kids.length ch] TT)) ∧ Tg p o' ((W'.alloc (.cells #[.int .i64 x.f, .int .i64 x.v, .slice ag x.kids.length cg] TT)).alloc (.cells #[.int .i64 y.f, .int .i64 y.v, .slice ah y.kids.length ch] TT)) ∧ X3 o' ((W'.alloc (.cells #[.int .i64 x.f, .int .i64 x.v, .slice ag x.kids.length cg] TT)).alloc (.cells #[.int .i64 y.f, .int .i64 y.v, .slice ah y.kids.length ch] TT)) g g1 W'.heap.size x ag cg ∧ X3 o' ((W'.alloc (.cells #[.int .i64 x.f, .int .i64 x.v, .slice ag x.kids.length cg] TT)).alloc (.cells #[.int .i64 y.f, .int .i64 y.v, .slice ah y.kids.length ch] TT)) h h1 (W'.heap.size + 1) y ah ch := by
  have hm := hO.hm
  have hz := hO.hz
  have hb2 : Below W'.heap.size W' (W'.alloc (.cells #[.int .i64 x.f, .int .i64 x.v, .slice ag x.kids.length cg] TT)) := (Below.refl _ _).alloc (Nat.le_refl _) _
  have hb3 : Below (W'.alloc (.cells #[.int .i64 x.f, .int .i64 x.v, .slice ag x.kids.length cg] TT)).heap.size (W'.alloc (.cells #[.int .i64 x.f, .int .i64 x.v, .slice ag x.kids.length cg] TT)) ((W'.alloc (.cells #[.int .i64 x.f, .int .i64 x.v, .slice ag x.kids.length cg] TT)).alloc (.cells #[.int .i64 y.f, .int .i64 y.v, .slice ah y.kids.length ch] TT)) := (Below.refl _ _).alloc (Nat.le_refl _) _
  have F1 := TP.two pNo o hO.bel (S1 := fun k => W.heap.size ≤ k ∧ k < m) (S2 := fun k => m ≤ k ∧ k < W'.heap.size) (fun k hk => hk.1) (fun k hk => by omega) g1 h1
  have T1 := T.two hO.bel (S1 := fun k => W.heap.size ≤ k ∧ k < m) (S2 := fun k => m ≤ k ∧ k < W'.heap.size) (fun k hk => by omega) (fun k hk => by omega) g1 h1
  have k1 : OwnS W' (fun k => upd2 o (fun k => W.heap.size ≤ k ∧ k < m) (fun k => m ≤ k ∧ k < W'.heap.size) g1 h1 k = g1) ag x.kids := hO.o1.mono fun k hk => upd2_1 hk
  have k2 : OwnS W' (fun k => upd2 o (fun k => W.heap.size ≤ k ∧ k < m) (fun k => m ≤ k ∧ k < W'.heap.size) g1 h1 k = h1) ah y.kids := hO.o2.mono fun k hk => upd2_2 hk (fun h => by omega)
  have F2 := TP.grow pNo (upd2 o (fun k => W.heap.size ≤ k ∧ k < m) (fun k => m ≤ k ∧ k < W'.heap.size) g1 h1) hb2 g
  have T2 := T1.grow hb2 g
  have F3 := TP.grow pNo (upd (upd2 o (fun k => W.heap.size ≤ k ∧ k < m) (fun k => m ≤ k ∧ k < W'.heap.size) g1 h1) W'.heap.size (W'.alloc (.cells #[.int .i64 x.f, .int .i64 x.v, .slice ag x.kids.length cg] TT)).heap.size g) hb3 h
  have T3 := T2.grow hb3 h
  have e2 : (W'.alloc (.cells #[.int .i64 x.f, .int .i64 x.v, .slice ag x.kids.length cg] TT)).heap.size = W'.heap.size + 1 := by simp
  have x2 : X3 _ _ g g1 W'.heap.size x ag cg := ⟨upd_new (o := upd2 o (fun k => W.heap.size ≤ k ∧ k < m) (fun k => m ≤ k ∧ k < W'.heap.size) g1 h1) (hi := (W'.alloc (.cells #[.int .i64 x.f, .int .i64 x.v, .slice ag x.kids.length cg] TT)).heap.size) (Nat.le_refl _) (by simp), C3.new W' _ _ _ TT, k1.tp T1 F2 n1 id⟩
  refine ⟨_, ⟨(F1.st.trans (.of_below hb2 (fun _ hk _ => hk))).trans (.of_below hb3 (fun _ hk _ => hk)), fun k hk => ?_⟩, T3, x2.tp T2 F3 n1 id id, ?_, C3.new' _ _ _ _ _ e2, (k2.tp T1 F2 n2 id).tp T2 F3 n2 id⟩
  · have h0 := hO.bel.size
    exact ((F3.old k (by omega)).trans (F2.old k (by omega))).trans (F1.old k hk)
  · exact upd_new (by omega) (by simp)
theorem OA3.two {m : Nat} (h : OA3 w1 x Bv av cv y Bz az cz ss G t Bx ax cx u By ay cy o W) (hO : Ori W x ag cg y ah ch m W') (TT : TypeId) : ∃ o', OA4 w1 x Bv av cv y Bz az cz ss G t Bx ax cx u By ay cy W'.heap.size ag cg (W'.heap.size + 1) ah ch o' ((W'.alloc (.cells #[.int .i64 x.f, .int .i64 x.v, .slice ag x.kids.length cg] TT)).alloc (.cells #[.int .i64 y.f, .int .i64 y.v, .slice ah y.kids.length ch] TT)) := by
  obtain ⟨o', F, T, hx, hy⟩ := X3.pair h.q.q.q.tg hO 19 20 21 22 (by decide) (by decide) TT
  have hb : Below W'.heap.size W' ((W'.alloc (.cells #[.int .i64 x.f, .int .i64 x.v, .slice ag x.kids.length cg] TT)).alloc (.cells #[.int .i64 y.f, .int .i64 y.v, .slice ah y.kids.length ch] TT)) := ((Below.refl _ _).alloc (Nat.le_refl _) _).alloc (by simp) _
  exact ⟨o', h.on (hO.bel.trans (hb.mono hO.bel.size)) T F, hx, hy⟩
theorem OA4.m1 (h : OA4 w1 x Bv av cv y Bz az cz ss G t Bx ax cx u By ay cy Bg ag cg Bh ah ch o W) (hs : Stay (fun k => k ≠ G) W W') : OB2 w1 x Bv av cv y Bz az cz t Bx ax cx u By ay cy Bg ag cg Bh ah ch o W' := by
  have st : Stay (fun k => ¬ (o k = 14)) W W' := hs.weak fun k _ hk e => hk (by rw [e]; exact h.q.q.q.s.e)
  have T := h.q.q.q.q.tg.write (t := fun g => g = 14) st (by decide)
  have F : TP (fun g => g = 14) o W o W' := ⟨st, fun _ _ => rfl⟩
  exact ⟨h.q.q.q.q.tp T F (by decide), h.q.q.bt.tp h.q.q.q.q.tg F (by decide) (by decide) (by decide), h.q.bu.tp h.q.q.q.q.tg F (by decide) (by decide) (by decide), h.g.tp h.q.q.q.q.tg F (by decide) (by decide) (by decide), h.h.tp h.q.q.q.q.tg F (by decide) (by decide) (by decide)⟩
theorem OB2.m2 {Z : World} (h : OB2 w1 x Bv av cv y Bz az cz t Bx ax cx u By ay cy Bg ag cg Bh ah ch o W) (hb : Below W.heap.size W Z) (ho : Only (fun k => o k = 16) Z W') : OB1 w1 x Bv av cv y Bz az cz u By ay cy Bg ag cg Bh ah ch o W' := by
  have st : Stay (fun k => ¬ (o k = 16)) W W' := only_stay hb ho (fun _ _ hk => hk)
  have T := h.q.tg.write (t := fun g => g = 16) st (by decide)
  have F : TP (fun g => g = 16) o W o W' := ⟨st, fun _ _ => rfl⟩
  exact ⟨h.q.tp T F (by decide), h.bu.tp h.q.tg F (by decide) (by decide) (by decide), h.g.tp h.q.tg F (by decide) (by decide) (by decide), h.h.tp h.q.tg F (by decide) (by decide) (by decide)⟩
theorem OB1.m3 {Z : World} (h : OB1 w1 x Bv av cv y Bz az cz u By ay cy Bg ag cg Bh ah ch o W) (hb : Below W.heap.size W Z) (ho : Only (fun k => o k = 18) Z W') : OB0 w1 x Bv av cv y Bz az cz Bg ag cg Bh ah ch o W' := by
  have st : Stay (fun k => ¬ (o k = 18)) W W' := only_stay hb ho (fun _ _ hk => hk)
  have T := h.q.tg.write (t := fun g => g = 18) st (by decide)
  have F : TP (fun g => g = 18) o W o W' := ⟨st, fun _ _ => rfl⟩
  exact ⟨h.q.tp T F (by decide), h.g.tp h.q.tg F (by decide) (by decide) (by decide), h.h.tp h.q.tg F (by decide) (by decide) (by decide)⟩
theorem OB0.m4 {Z : World} (h : OB0 w1 x Bv av cv y Bz az cz Bg ag cg Bh ah ch o W) (hb : Below W.heap.size W Z) (ho : Only (fun k => o k = 20) Z W') (hm : Mk W' (fun k => o k = 20) ag x.kids 1) : OM1 w1 x Bv av cv y Bz az cz Bg ag cg Bh ah ch o W' := by
  have st : Stay (fun k => ¬ (o k = 20)) W W' := only_stay hb ho (fun _ _ hk => hk)
  have T := h.q.tg.write (t := fun g => g = 20) st (by decide)
  have F : TP (fun g => g = 20) o W o W' := ⟨st, fun _ _ => rfl⟩
  exact ⟨h.q.tp T F (by decide), h.g.e, h.g.b.stay st (by rw [h.g.e]; decide), hm, h.h.tp h.q.tg F (by decide) (by decide) (by decide)⟩
theorem OM1.m5 {Z : World} (h : OM1 w1 x Bv av cv y Bz az cz Bg ag cg Bh ah ch o W) (hb : Below W.heap.size W Z) (ho : Only (fun k => o k = 22) Z W') (hm : Mk W' (fun k => o k = 22) ah y.kids (1 + 2 * partsL x.kids)) : OM2 w1 x Bv av cv y Bz az cz Bg ag cg Bh ah ch o W' := by
  have st : Stay (fun k => ¬ (o k = 22)) W W' := only_stay hb ho (fun _ _ hk => hk)
  have T := h.q.tg.write (t := fun g => g = 22) st (by decide)
  have F : TP (fun g => g = 22) o W o W' := ⟨st, fun _ _ => rfl⟩
  exact ⟨h.q.tp T F (by decide), h.e, h.b.stay st (by rw [h.e]; decide), h.m1.tp h.q.tg F (by decide) (by decide), h.h.e, h.h.b.stay st (by rw [h.h.e]; decide), hm⟩
end

/-- The drawn region: copies, a call that answers two terms and a sign, a box for either term. -/
structure LU (W1 : World) (ss : List SymD) (t u x y : TermD) (b : Bool) (L : Array Bool) (o : Nat → Nat) (W : World) (a1 : Option Addr) (c1 : Nat) (a2 : Option Addr) (c2 : Nat) (v1 v3 v5 v6 p1 p2 : Value) : Prop where
  tg : Tg W1 o W
  k1 : Dn L 1 → ¬ Dn L 13 → ∃ G, v1 = .slice (some ⟨G, 0, none⟩) ss.length ss.length ∧ RdS W (some ⟨G, 0, none⟩) ss
  k3 : Dn L 3 → ¬ Dn L 13 → ∃ e, v3 = .agg #[.int .i64 t.f, .int .i64 t.v, .slice e t.kids.length t.kids.length] ∧ RdK W W.heap.size e t.kids
  k5 : Dn L 5 → ¬ Dn L 13 → ∃ e, v5 = .agg #[.int .i64 u.f, .int .i64 u.v, .slice e u.kids.length u.kids.length] ∧ RdK W W.heap.size e u.kids
  k6 : Dn L 6 → v6 = .tuple #[.agg #[.int .i64 x.f, .int .i64 x.v, .slice a1 x.kids.length c1], .agg #[.int .i64 y.f, .int .i64 y.v, .slice a2 y.kids.length c2], .bool b] ∧ OwnS W (fun k => o k = 11) a1 x.kids ∧ OwnS W (fun k => o k = 13) a2 y.kids
  z1 : Dn L 11 → ¬ Dn L 13 → FZ o W 10 p1
  z2 : Dn L 12 → ¬ Dn L 14 → FZ o W 12 p2
  f1 : Dn L 13 → FB o W 10 p1 (.agg #[.int .i64 x.f, .int .i64 x.v, .slice a1 x.kids.length c1])
  f2 : Dn L 14 → FB o W 12 p2 (.agg #[.int .i64 y.f, .int .i64 y.v, .slice a2 y.kids.length c2])
section
variable {W1 : World} {ss : List SymD} {t u x y : TermD} {b : Bool} {L : Array Bool} {o : Nat → Nat} {W : World} {a1 : Option Addr} {c1 : Nat} {a2 : Option Addr} {c2 : Nat} {v1 v3 v5 v6 p1 p2 : Value}
theorem FB.tp {o o' : Nat → Nat} {W W' : World} {g : Nat} {q : Nat → Prop} {s v : Value} (h : FB o W g s v) (F : TP q o W o' W') (hq : ¬ q g) : FB o' W' g s v := by
  obtain ⟨B, x, y, z, rfl, rfl, hb, hz, hC⟩ := h
  have hn : ¬ q (o B) := by rw [hb]; exact hq
  exact ⟨B, x, y, z, rfl, rfl, (F.old B hC.lt).trans hb, fun j => (F.st.frozen (p := ⟨B, j, none⟩) hC.lt hn).trans (hz j), hC.stay F.st hn⟩
theorem LU.start (w : World) (ss : List SymD) (t u x y : TermD) (b : Bool) (n : Nat) (a1 : Option Addr) (c1 : Nat) (a2 : Option Addr) (c2 : Nat) (v1 v3 v5 v6 p1 p2 : Value) : LU w ss t u x y b (Array.replicate n false) (fun _ => 0) w.drew a1 c1 a2 c2 v1 v3 v5 v6 p1 p2 :=
  ⟨Tg.start w, fun h => absurd h dn_none, fun h => absurd h dn_none, fun h => absurd h dn_none, fun h => absurd h dn_none, fun h => absurd h dn_none, fun h => absurd h dn_none, fun h => absurd h dn_none, fun h => absurd h dn_none⟩
theorem LU.pure (h : LU W1 ss t u x y b L o W a1 c1 a2 c2 v1 v3 v5 v6 p1 p2) {i : Nat} (hi : i < L.size) (hn : i ≠ 1 ∧ i ≠ 3 ∧ i ≠ 5 ∧ i ≠ 6 ∧ i ≠ 11 ∧ i ≠ 12 ∧ i ≠ 13 ∧ i ≠ 14) : LU W1 ss t u x y b (L.setIfInBounds i true) o W a1 c1 a2 c2 v1 v3 v5 v6 p1 p2 :=
  ⟨h.tg, fun d n => h.k1 (dnb hi hn.1 d) (dnn hi n), fun d n => h.k3 (dnb hi hn.2.1 d) (dnn hi n), fun d n => h.k5 (dnb hi hn.2.2.1 d) (dnn hi n), fun d => h.k6 (dnb hi hn.2.2.2.1 d), fun d n => h.z1 (dnb hi hn.2.2.2.2.1 d) (dnn hi n), fun d n => h.z2 (dnb hi hn.2.2.2.2.2.1 d) (dnn hi n), fun d => h.f1 (dnb hi hn.2.2.2.2.2.2.1 d), fun d => h.f2 (dnb hi hn.2.2.2.2.2.2.2 d)⟩
theorem LU.old (h : LU W1 ss t u x y b L o W a1 c1 a2 c2 v1 v3 v5 v6 p1 p2) {o' : Nat → Nat} {W' : World} (hb : Below W.heap.size W W') (T : Tg W1 o' W') (F : TP pNo o W o' W') : LU W1 ss t u x y b L o' W' a1 c1 a2 c2 v1 v3 v5 v6 p1 p2 := by
  refine ⟨T, fun d n => ?_, fun d n => ?_, fun d n => ?_, fun d => ?_, fun d n => FB.tp (h.z1 d n) F id, fun d n => FB.tp (h.z2 d n) F id, fun d => (h.f1 d).tp F id, fun d => (h.f2 d).tp F id⟩
  · obtain ⟨G, e, hr⟩ := h.k1 d n
    exact ⟨G, e, hr.below hb⟩
  · obtain ⟨y, e, hr⟩ := h.k3 d n
    exact ⟨y, e, (hr.on hb).mono hb.size⟩
  · obtain ⟨y, e, hr⟩ := h.k5 d n
    exact ⟨y, e, (hr.on hb).mono hb.size⟩
  · obtain ⟨e, h1, h2⟩ := h.k6 d
    exact ⟨e, h1.tp h.tg F (by decide) id, h2.tp h.tg F (by decide) id⟩
theorem LU.sym (h : LU W1 ss t u x y b L o W a1 c1 a2 c2 v1 v3 v5 v6 p1 p2) (hi : 1 < L.size) {W' : World} (hb : Below W.heap.size W W') (hw : W'.ownsRow W.heap.size 103 3 (.slice (some ⟨W.heap.size, 0, none⟩) ss.length ss.length) ss.length (symCs ss)) :
    LU W1 ss t u x y b (L.setIfInBounds 1 true) o W' a1 c1 a2 c2 (.slice (some ⟨W.heap.size, 0, none⟩) ss.length ss.length) v3 v5 v6 p1 p2 := by
  have g := h.old hb (h.tg.same hb) (TP.same _ o hb)
  exact ⟨g.tg, fun _ _ => ⟨_, rfl, RdS.own rfl hw⟩, fun d n => g.k3 (dnb hi (by decide) d) (dnn hi n), fun d n => g.k5 (dnb hi (by decide) d) (dnn hi n), fun d => g.k6 (dnb hi (by decide) d), fun d n => g.z1 (dnb hi (by decide) d) (dnn hi n), fun d n => g.z2 (dnb hi (by decide) d) (dnn hi n), fun d => g.f1 (dnb hi (by decide) d), fun d => g.f2 (dnb hi (by decide) d)⟩
theorem LU.kidT (h : LU W1 ss t u x y b L o W a1 c1 a2 c2 v1 v3 v5 v6 p1 p2) (hi : 3 < L.size) {W' : World} (hb : Below W.heap.size W W') {e : Option Addr} (hk : OwnS W' (fun k => W.heap.size ≤ k ∧ k < W'.heap.size) e t.kids) :
    LU W1 ss t u x y b (L.setIfInBounds 3 true) o W' a1 c1 a2 c2 v1 (.agg #[.int .i64 t.f, .int .i64 t.v, .slice e t.kids.length t.kids.length]) v5 v6 p1 p2 := by
  have g := h.old hb (h.tg.same hb) (TP.same _ o hb)
  exact ⟨g.tg, fun d n => g.k1 (dnb hi (by decide) d) (dnn hi n), fun _ _ => ⟨_, rfl, hk.rd⟩, fun d n => g.k5 (dnb hi (by decide) d) (dnn hi n), fun d => g.k6 (dnb hi (by decide) d), fun d n => g.z1 (dnb hi (by decide) d) (dnn hi n), fun d n => g.z2 (dnb hi (by decide) d) (dnn hi n), fun d => g.f1 (dnb hi (by decide) d), fun d => g.f2 (dnb hi (by decide) d)⟩
theorem LU.kidU (h : LU W1 ss t u x y b L o W a1 c1 a2 c2 v1 v3 v5 v6 p1 p2) (hi : 5 < L.size) {W' : World} (hb : Below W.heap.size W W') {e : Option Addr} (hk : OwnS W' (fun k => W.heap.size ≤ k ∧ k < W'.heap.size) e u.kids) :
    LU W1 ss t u x y b (L.setIfInBounds 5 true) o W' a1 c1 a2 c2 v1 v3 (.agg #[.int .i64 u.f, .int .i64 u.v, .slice e u.kids.length u.kids.length]) v6 p1 p2 := by
  have g := h.old hb (h.tg.same hb) (TP.same _ o hb)
  exact ⟨g.tg, fun d n => g.k1 (dnb hi (by decide) d) (dnn hi n), fun d n => g.k3 (dnb hi (by decide) d) (dnn hi n), fun _ _ => ⟨_, rfl, hk.rd⟩, fun d => g.k6 (dnb hi (by decide) d), fun d n => g.z1 (dnb hi (by decide) d) (dnn hi n), fun d n => g.z2 (dnb hi (by decide) d) (dnn hi n), fun d => g.f1 (dnb hi (by decide) d), fun d => g.f2 (dnb hi (by decide) d)⟩
theorem LU.call (h : LU W1 ss t u x y b L o W a1 c1 a2 c2 v1 v3 v5 v6 p1 p2) (hi : 6 < L.size) (n13 : ¬ Dn L 13) (n14 : ¬ Dn L 14) {W' : World} {e1 : Option Addr} {m1 : Nat} {e2 : Option Addr} {m2 m : Nat} (hO : Ori W x e1 m1 y e2 m2 m W') :
    ∃ o', LU W1 ss t u x y b (L.setIfInBounds 6 true) o' W' e1 m1 e2 m2 v1 v3 v5 (.tuple #[.agg #[.int .i64 x.f, .int .i64 x.v, .slice e1 x.kids.length m1], .agg #[.int .i64 y.f, .int .i64 y.v, .slice e2 y.kids.length m2], .bool b]) p1 p2 := by
  have hm := hO.hm
  have hz := hO.hz
  have g := h.old hO.bel (h.tg.two hO.bel (S1 := fun k => W.heap.size ≤ k ∧ k < m) (S2 := fun k => m ≤ k ∧ k < W'.heap.size) (fun k hk => by omega) (fun k hk => by omega) 11 13) (TP.two pNo o hO.bel (fun k hk => hk.1) (fun k hk => by omega) 11 13)
  exact ⟨_, g.tg, fun d n => g.k1 (dnb hi (by decide) d) (dnn hi n), fun d n => g.k3 (dnb hi (by decide) d) (dnn hi n), fun d n => g.k5 (dnb hi (by decide) d) (dnn hi n), fun _ => ⟨rfl, hO.o1.mono fun k hk => upd2_1 hk, hO.o2.mono fun k hk => upd2_2 hk (fun h => by omega)⟩, fun d n => g.z1 (dnb hi (by decide) d) (dnn hi n), fun d n => g.z2 (dnb hi (by decide) d) (dnn hi n), fun d => absurd (dnb hi (by decide) d) n13, fun d => absurd (dnb hi (by decide) d) n14⟩
theorem LU.box1 (h : LU W1 ss t u x y b L o W a1 c1 a2 c2 v1 v3 v5 v6 p1 p2) (hi : 11 < L.size) (n13 : ¬ Dn L 13) (TT : TypeId) :
    ∃ o', LU W1 ss t u x y b (L.setIfInBounds 11 true) o' (W.alloc (.cells #[.int .i64 0, .int .i64 0, .slice none 0 0] TT)) a1 c1 a2 c2 v1 v3 v5 v6 (.pointer (some ⟨W.heap.size, 0, none⟩)) p2 := by
  have hb : Below W.heap.size W (W.alloc (.cells #[.int .i64 0, .int .i64 0, .slice none 0 0] TT)) := (Below.refl _ _).alloc (Nat.le_refl _) _
  have g := h.old hb (h.tg.grow hb 10) (TP.grow pNo o hb 10)
  exact ⟨_, g.tg, fun d n => g.k1 (dnb hi (by decide) d) (dnn hi n), fun d n => g.k3 (dnb hi (by decide) d) (dnn hi n), fun d n => g.k5 (dnb hi (by decide) d) (dnn hi n), fun d => g.k6 (dnb hi (by decide) d), fun _ _ => FZ.new o W 10 TT, fun d n => g.z2 (dnb hi (by decide) d) (dnn hi n), fun d => absurd (dnb hi (by decide) d) n13, fun d => g.f2 (dnb hi (by decide) d)⟩
theorem LU.box2 (h : LU W1 ss t u x y b L o W a1 c1 a2 c2 v1 v3 v5 v6 p1 p2) (hi : 12 < L.size) (n14 : ¬ Dn L 14) (TT : TypeId) :
    ∃ o', LU W1 ss t u x y b (L.setIfInBounds 12 true) o' (W.alloc (.cells #[.int .i64 0, .int .i64 0, .slice none 0 0] TT)) a1 c1 a2 c2 v1 v3 v5 v6 p1 (.pointer (some ⟨W.heap.size, 0, none⟩)) := by
  have hb : Below W.heap.size W (W.alloc (.cells #[.int .i64 0, .int .i64 0, .slice none 0 0] TT)) := (Below.refl _ _).alloc (Nat.le_refl _) _
  have g := h.old hb (h.tg.grow hb 12) (TP.grow pNo o hb 12)
  exact ⟨_, g.tg, fun d n => g.k1 (dnb hi (by decide) d) (dnn hi n), fun d n => g.k3 (dnb hi (by decide) d) (dnn hi n), fun d n => g.k5 (dnb hi (by decide) d) (dnn hi n), fun d => g.k6 (dnb hi (by decide) d), fun d n => g.z1 (dnb hi (by decide) d) (dnn hi n), fun _ _ => FZ.new o W 12 TT, fun d => g.f1 (dnb hi (by decide) d), fun d => absurd (dnb hi (by decide) d) n14⟩
theorem LU.put1 {B : Nat} {q0 q1 q2 : Value} (h : LU W1 ss t u x y b L o W a1 c1 a2 c2 v1 v3 v5 v6 (.pointer (some ⟨B, 0, none⟩)) p2) (hi : 13 < L.size) (hob : o B = 10) (hz : ∀ j, W.frozen? ⟨B, j, none⟩ = false) (hC : C3 W B q0 q1 q2) :
    LU W1 ss t u x y b (L.setIfInBounds 13 true) o (((W.setCell ⟨B, 0, none⟩ (.int .i64 x.f)).setCell ⟨B, 1, none⟩ (.int .i64 x.v)).setCell ⟨B, 2, none⟩ (.slice a1 x.kids.length c1)) a1 c1 a2 c2 v1 v3 v5 v6 (.pointer (some ⟨B, 0, none⟩)) p2 := by
  have st : Stay (fun k => ¬ (o k = 10)) W _ := (set3_stay W B (.int .i64 x.f) (.int .i64 x.v) (.slice a1 x.kids.length c1)).weak (fun k _ hk e => hk (e ▸ hob))
  have T := h.tg.write (t := fun g => g = 10) st (by decide)
  have F : TP (fun g => g = 10) o W o _ := ⟨st, fun _ _ => rfl⟩
  have h13 : Dn (L.setIfInBounds 13 true) 13 := (dn_set hi).2 (.inl rfl)
  refine ⟨T, fun _ n => absurd h13 n, fun _ n => absurd h13 n, fun _ n => absurd h13 n, fun d => ?_, fun _ n => absurd h13 n, fun d n => FB.tp (h.z2 (dnb hi (by decide) d) (dnn hi n)) F (by decide), fun _ => FB.put hob hz hC _ _ _, fun d => (h.f2 (dnb hi (by decide) d)).tp F (by decide)⟩
  obtain ⟨e, h1, h2⟩ := h.k6 (dnb hi (by decide) d)
  exact ⟨e, h1.tp h.tg F (by decide) (by decide), h2.tp h.tg F (by decide) (by decide)⟩
theorem LU.put2 {B : Nat} {q0 q1 q2 : Value} (h : LU W1 ss t u x y b L o W a1 c1 a2 c2 v1 v3 v5 v6 p1 (.pointer (some ⟨B, 0, none⟩))) (hi : 14 < L.size) (d13 : Dn L 13) (hob : o B = 12) (hz : ∀ j, W.frozen? ⟨B, j, none⟩ = false) (hC : C3 W B q0 q1 q2) :
    LU W1 ss t u x y b (L.setIfInBounds 14 true) o (((W.setCell ⟨B, 0, none⟩ (.int .i64 y.f)).setCell ⟨B, 1, none⟩ (.int .i64 y.v)).setCell ⟨B, 2, none⟩ (.slice a2 y.kids.length c2)) a1 c1 a2 c2 v1 v3 v5 v6 p1 (.pointer (some ⟨B, 0, none⟩)) := by
  have st : Stay (fun k => ¬ (o k = 12)) W _ := (set3_stay W B (.int .i64 y.f) (.int .i64 y.v) (.slice a2 y.kids.length c2)).weak (fun k _ hk e => hk (e ▸ hob))
  have T := h.tg.write (t := fun g => g = 12) st (by decide)
  have F : TP (fun g => g = 12) o W o _ := ⟨st, fun _ _ => rfl⟩
  have h13 : Dn (L.setIfInBounds 14 true) 13 := (dn_set hi).2 (.inr d13)
  have h14 : Dn (L.setIfInBounds 14 true) 14 := (dn_set hi).2 (.inl rfl)
  refine ⟨T, fun _ n => absurd h13 n, fun _ n => absurd h13 n, fun _ n => absurd h13 n, fun d => ?_, fun _ n => absurd h13 n, fun _ n => absurd h14 n, fun d => (h.f1 (dnb hi (by decide) d)).tp F (by decide), fun _ => FB.put hob hz hC _ _ _⟩
  obtain ⟨e, h1, h2⟩ := h.k6 (dnb hi (by decide) d)
  exact ⟨e, h1.tp h.tg F (by decide) (by decide), h2.tp h.tg F (by decide) (by decide)⟩
theorem LU.fin (h : LU W1 ss t u x y b L o W a1 c1 a2 c2 v1 v3 v5 v6 p1 p2) (d6 : Dn L 6) (d13 : Dn L 13) (d14 : Dn L 14) : ∃ B C, p1 = .pointer (some ⟨B, 0, none⟩) ∧ p2 = .pointer (some ⟨C, 0, none⟩) ∧ X3 o W 10 11 B x a1 c1 ∧ X3 o W 12 13 C y a2 c2 := by
  obtain ⟨e, h1, h2⟩ := h.k6 d6
  obtain ⟨B, q0, q1, q2, e1, e2, hb, hz, hC⟩ := h.f1 d13
  obtain ⟨C, r0, r1, r2, e3, e4, hc, hy, hD⟩ := h.f2 d14
  have a : q0 = .int .i64 x.f ∧ q1 = .int .i64 x.v ∧ q2 = .slice a1 x.kids.length c1 := by simpa using e2.symm
  have a' : r0 = .int .i64 y.f ∧ r1 = .int .i64 y.v ∧ r2 = .slice a2 y.kids.length c2 := by simpa using e4.symm
  obtain ⟨rfl, rfl, rfl⟩ := a
  obtain ⟨rfl, rfl, rfl⟩ := a'
  exact ⟨B, C, e1, e3, ⟨hb, hC, h1⟩, ⟨hc, hD, h2⟩⟩
end
end Go.Proofs.YtollijngiioonaaGreat

/- Which way round two terms stand: the specification's way. Conditions: terms of at most 1048577 parts. -/
namespace Go.Proofs.YtollijngiioonaaGreat
set_option maxRecDepth 100000
open Go.RowKit

set_option maxHeartbeats 3200000 in
set_option maxRecDepth 100000 in
theorem specOriented_any (sa : Option Addr) (ss : List SymD) (sc : Nat) (hss : ss.length ≤ 1048577) (hnm : ∀ s ∈ ss, s.name.size ≤ 1048576) (t u : TermD) (a a' : Option Addr) (c c' hi : Nat) (w : World) (hs : RdS w sa ss) (hp : partsT t ≤ 1048577) (hp' : partsT u ≤ 1048577) (hr : RdK w hi a t.kids) (hr' : RdK w hi a' u.kids) (hhi : hi ≤ w.heap.size) (hw : isW t.f ∧ isW t.v) (hw' : isW u.f ∧ isW u.v) :
    Calls Tryz.prog 34 #[.slice sa ss.length sc, .agg #[.int .i64 t.f, .int .i64 t.v, .slice a t.kids.length c], .agg #[.int .i64 u.f, .int .i64 u.v, .slice a' u.kids.length c']] w fun e w' => ∃ a1 c1 a2 c2 m, e = .returned (.tuple #[.agg #[.int .i64 (oriT ss t u).1.f, .int .i64 (oriT ss t u).1.v, .slice a1 (oriT ss t u).1.kids.length c1], .agg #[.int .i64 (oriT ss t u).2.1.f, .int .i64 (oriT ss t u).2.1.v, .slice a2 (oriT ss t u).2.1.kids.length c2], .bool (oriT ss t u).2.2]) ∧ Ori w (oriT ss t u).1 a1 c1 (oriT ss t u).2.1 a2 c2 m w' := by
  obtain ⟨W, hW⟩ : ∃ W, W = (((w.alloc (.cells #[.int .i64 t.f, .int .i64 t.v, .slice a t.kids.length c] 27)).alloc (.cells #[.int .i64 u.f, .int .i64 u.v, .slice a' u.kids.length c'] 27)).alloc (.cells #[.int .i64 0, .int .i64 0, .slice none 0 0] 27)).alloc (.cells #[.int .i64 0, .int .i64 0, .slice none 0 0] 27) := ⟨_, rfl⟩
  have B0 : Below w.heap.size w W := by rw [hW]; exact ((((Below.refl _ _).alloc (Nat.le_refl _) _).alloc (by simp) _).alloc (by simp; omega) _).alloc (by simp; omega) _
  have S0 : OB w t a c u a' c' W := by
    rw [hW]
    exact ⟨⟨by simp [go_sem], by simp [go_sem], by simp [go_sem]⟩, ⟨by simp [go_sem], by simp [go_sem], by simp [go_sem]⟩, ⟨by simp [go_sem], by simp [go_sem], by simp [go_sem]⟩, ⟨by simp [go_sem], by simp [go_sem], by simp [go_sem]⟩, fun j => by simp [go_sem], fun j => by simp [go_sem]⟩
  have hzW : w.heap.size + 1 + 1 + 1 < W.heap.size := S0.s.lt
  have HRX_t : Hid (RdK w hi a t.kids) := hr
  have HRX_u : Hid (RdK w hi a' u.kids) := hr'
  have HW : Hid _ := hW
  have G1 := specGreater_any sa ss sc hss hnm u t a' a c' c hi W hw'.1 hw.1 (hs.below B0) hp' hp (hr'.on (B0.mono hhi)) (hr.on (B0.mono hhi)) (Nat.le_trans hhi B0.size)
  have G2 := fun (W' : World) (h : Below w.heap.size w W') => specGreater_any sa ss sc hss hnm t u a a' c c' hi W' hw.1 hw'.1 (hs.below h) hp hp' (hr.on (h.mono hhi)) (hr'.on (h.mono hhi)) (Nat.le_trans hhi h.size)
  have HE : Hid (gtrT ss u t = true → gtrT ss t u = false) := gtr_asym
  unfold oriT
  obtain ⟨p0, p1, p2⟩ := S0.p
  obtain ⟨q0, q1, q2⟩ := S0.q
  clear hW hr hr' hs
  cases hg : gtrT ss u t
  · rw [hg] at G1
    generalize gtrT ss t u = g2 at G2 ⊢
    have e1 : (if g2 = true then (t, u, true) else if (false : Bool) = true then (u, t, true) else (t, u, false)) = (t, u, g2) := by cases g2 <;> rfl
    rw [e1]
    clear e1 hg HE
    go_enter Tryz.func34, Tryz.ntmps34
    go_wp2_with (go_at_call 11; rw [← HW.out]; refine G1.mono ?_; rintro e w2 ⟨rfl, hb⟩; have S2 := S0.on hb; have B2 := B0.trans (hb.mono B0.size); clear G1 HW S0 B0 hb p0 p1 p2 q0 q1 q2; obtain ⟨p0, p1, p2⟩ := S2.p; obtain ⟨q0, q1, q2⟩ := S2.q)
    have hz2 := S2.s.lt
    have D1 := l3Copy_any 549755813888 t a c hi w2.drew (by omega) (Nat.le_refl _) (HRX_t.out.on (B2.drew.mono hhi)) (Nat.le_trans hhi B2.size) hw.1 hw.2
    have D2 := fun (W' : World) (h : Below w.heap.size w W') => l3Copy_any 549755813888 u a' c' hi W' (by omega) (Nat.le_refl _) (HRX_u.out.on (h.mono hhi)) (Nat.le_trans hhi h.size) hw'.1 hw'.2
    have HS : Hid _ := S2
    clear S2
    go_region_held3 (fun w' => w'.cell? ⟨w.heap.size, 0, none⟩ = some (.int .i64 t.f) ∧ w'.cell? ⟨w.heap.size, 1, none⟩ = some (.int .i64 t.v) ∧ w'.cell? ⟨w.heap.size, 2, none⟩ = some (.slice a t.kids.length c) ∧ w'.cell? ⟨w.heap.size + 1, 0, none⟩ = some (.int .i64 u.f) ∧ w'.cell? ⟨w.heap.size + 1, 1, none⟩ = some (.int .i64 u.v) ∧ w'.cell? ⟨w.heap.size + 1, 2, none⟩ = some (.slice a' u.kids.length c')) (first | (go_keep; done) | exact ⟨set3k p0 (by omega), set3k p1 (by omega), set3k p2 (by omega), set3k q0 (by omega), set3k q1 (by omega), set3k q2 (by omega)⟩ | exact ⟨set3k (set3k p0 (by omega)) (by omega), set3k (set3k p1 (by omega)) (by omega), set3k (set3k p2 (by omega)) (by omega), set3k (set3k q0 (by omega)) (by omega), set3k (set3k q1 (by omega)) (by omega), set3k (set3k q2 (by omega)) (by omega)⟩)
      (first
        | (go_at_call 82; refine D1.mono ?_; rintro e w3 ⟨a1, c1, rfl, o3, l3, hb0⟩; have hb : Below w2.heap.size w2 w3 := (Below.refl _ _).drew.trans hb0; have S3 := HS.out.on hb; have B3 := B2.trans (hb.mono B2.size); have hz3 : w2.heap.size ≤ w3.heap.size := hb.size; clear D1 HS hb hb0 p0 p1 p2 q0 q1 q2; obtain ⟨p0, p1, p2⟩ := S3.p; obtain ⟨q0, q1, q2⟩ := S3.q; have HS3 : Hid _ := S3; clear S3)
        | (go_at_call 82; refine (D2 w3 B3).mono ?_; rintro e w4 ⟨a2, c2, rfl, o4, l4, hb⟩; have S4 := HS3.out.on hb; have B4 := B3.trans (hb.mono B3.size); have hz4 := hb.size; have o3' := o3.frame (fun k hk => hb.block k hk.2) hb.size; clear D2 HS3 hb o3 p0 p1 p2 q0 q1 q2; obtain ⟨p0, p1, p2⟩ := S4.p; obtain ⟨q0, q1, q2⟩ := S4.q; obtain ⟨r0, r1, r2⟩ := S4.r; obtain ⟨s0, s1, s2⟩ := S4.s; have fr := S4.fr; have fs := S4.fs; have HS4 : Hid _ := S4; have HO3 : Hid _ := o3'.s; have HO4 : Hid _ := o4.s; clear S4 o3' o4)
        | (go_at_call 11; refine (G2 w4 B4).mono ?_; rintro e w5 ⟨rfl, hb⟩; have S5 := HS4.out.on hb; have B5 := B4.trans (hb.mono B4.size); have hz5 := hb.size; have HP3 : Hid _ := HO3.out.frame (fun k hk => hb.block k (Nat.lt_of_lt_of_le hk.2 hz4)) hb.size; have HP4 : Hid _ := (HO4.out.frame (fun k hk => hb.block k hk.2) hb.size).mono (S' := fun k => w3.heap.size ≤ k ∧ k < w5.heap.size) (fun k hk => ⟨hk.1, Nat.lt_of_lt_of_le hk.2 hz5⟩); clear G2 HS4 hb p0 p1 p2 q0 q1 q2 r0 r1 r2 s0 s1 s2 fr fs; obtain ⟨p0, p1, p2⟩ := S5.p; obtain ⟨q0, q1, q2⟩ := S5.q; obtain ⟨r0, r1, r2⟩ := S5.r; obtain ⟨s0, s1, s2⟩ := S5.s; have fr := S5.fr; have fs := S5.fs; have HS5 : Hid _ := S5; clear S5))
    all_goals
      try go_wp2_with fail
      obtain ⟨c1', c2', hx⟩ := two_set (x := .int .i64 t.f) (y := .int .i64 t.v) (z := .slice a1 t.kids.length c1) (x' := .int .i64 u.f) (y' := .int .i64 u.v) (z' := .slice a2 u.kids.length c2) HS5.out.r HS5.out.s (by omega)
      exact bodyPost_ret (v := .tuple #[.agg #[.int .i64 t.f, .int .i64 t.v, .slice a1 t.kids.length c1], .agg #[.int .i64 u.f, .int .i64 u.v, .slice a2 u.kids.length c2], .bool g2]) (by simp [results, Tryz.results34, go_sem, c1'.1, c1'.2.1, c1'.2.2, c2'.1, c2'.2.1, c2'.2.2]) rfl ⟨a1, c1, a2, c2, w3.heap.size, rfl, ori_end HS5.out B5 HP3.out HP4.out l3 l4 hz2 hz3 (Nat.le_trans hz4 hz5) hx⟩
  · rw [hg] at G1
    have e0 := HE.out hg
    rw [e0]
    simp only [Bool.false_eq_true, if_false, if_true]
    clear hg HE e0 G2
    go_enter Tryz.func34, Tryz.ntmps34
    go_wp2_with (go_at_call 11; rw [← HW.out]; refine G1.mono ?_; rintro e w2 ⟨rfl, hb⟩; have S2 := S0.on hb; have B2 := B0.trans (hb.mono B0.size); clear G1 HW S0 B0 hb p0 p1 p2 q0 q1 q2; obtain ⟨p0, p1, p2⟩ := S2.p; obtain ⟨q0, q1, q2⟩ := S2.q)
    have hz2 := S2.s.lt
    have D1 := l3Copy_any 549755813888 u a' c' hi w2.drew (by omega) (Nat.le_refl _) (HRX_u.out.on (B2.drew.mono hhi)) (Nat.le_trans hhi B2.size) hw'.1 hw'.2
    have D2 := fun (W' : World) (h : Below w.heap.size w W') => l3Copy_any 549755813888 t a c hi W' (by omega) (Nat.le_refl _) (HRX_t.out.on (h.mono hhi)) (Nat.le_trans hhi h.size) hw.1 hw.2
    have HS : Hid _ := S2
    clear S2
    go_region_held3 (fun w' => w'.cell? ⟨w.heap.size, 0, none⟩ = some (.int .i64 t.f) ∧ w'.cell? ⟨w.heap.size, 1, none⟩ = some (.int .i64 t.v) ∧ w'.cell? ⟨w.heap.size, 2, none⟩ = some (.slice a t.kids.length c) ∧ w'.cell? ⟨w.heap.size + 1, 0, none⟩ = some (.int .i64 u.f) ∧ w'.cell? ⟨w.heap.size + 1, 1, none⟩ = some (.int .i64 u.v) ∧ w'.cell? ⟨w.heap.size + 1, 2, none⟩ = some (.slice a' u.kids.length c')) (first | (go_keep; done) | exact ⟨set3k p0 (by omega), set3k p1 (by omega), set3k p2 (by omega), set3k q0 (by omega), set3k q1 (by omega), set3k q2 (by omega)⟩ | exact ⟨set3k (set3k p0 (by omega)) (by omega), set3k (set3k p1 (by omega)) (by omega), set3k (set3k p2 (by omega)) (by omega), set3k (set3k q0 (by omega)) (by omega), set3k (set3k q1 (by omega)) (by omega), set3k (set3k q2 (by omega)) (by omega)⟩)
      (first
        | (go_at_call 82; refine D1.mono ?_; rintro e w3 ⟨a1, c1, rfl, o3, l3, hb0⟩; have hb : Below w2.heap.size w2 w3 := (Below.refl _ _).drew.trans hb0; have S3 := HS.out.on hb; have B3 := B2.trans (hb.mono B2.size); have hz3 : w2.heap.size ≤ w3.heap.size := hb.size; clear D1 HS hb hb0 p0 p1 p2 q0 q1 q2; obtain ⟨p0, p1, p2⟩ := S3.p; obtain ⟨q0, q1, q2⟩ := S3.q; have HS3 : Hid _ := S3; clear S3)
        | (go_at_call 82; refine (D2 w3 B3).mono ?_; rintro e w4 ⟨a2, c2, rfl, o4, l4, hb⟩; have S4 := HS3.out.on hb; have B4 := B3.trans (hb.mono B3.size); have hz4 := hb.size; have o3' := o3.frame (fun k hk => hb.block k hk.2) hb.size; clear D2 HS3 hb o3 p0 p1 p2 q0 q1 q2; obtain ⟨p0, p1, p2⟩ := S4.p; obtain ⟨q0, q1, q2⟩ := S4.q; obtain ⟨r0, r1, r2⟩ := S4.r; obtain ⟨s0, s1, s2⟩ := S4.s; have fr := S4.fr; have fs := S4.fs; have HS4 : Hid _ := S4; have HO3 : Hid _ := o3'.s; have HO4 : Hid _ := o4.s; clear S4 o3' o4))
    all_goals
      try go_wp2_with fail
      obtain ⟨c1', c2', hx⟩ := two_set (x := .int .i64 u.f) (y := .int .i64 u.v) (z := .slice a1 u.kids.length c1) (x' := .int .i64 t.f) (y' := .int .i64 t.v) (z' := .slice a2 t.kids.length c2) HS4.out.r HS4.out.s (by omega)
      exact bodyPost_ret (v := .tuple #[.agg #[.int .i64 u.f, .int .i64 u.v, .slice a1 u.kids.length c1], .agg #[.int .i64 t.f, .int .i64 t.v, .slice a2 t.kids.length c2], .bool true]) (by simp [results, Tryz.results34, go_sem, c1'.1, c1'.2.1, c1'.2.2, c2'.1, c2'.2.1, c2'.2.2]) rfl ⟨a1, c1, a2, c2, w3.heap.size, rfl, ori_end HS4.out B4 HO3.out HO4.out l3 l4 hz2 hz3 hz4 hx⟩
end Go.Proofs.YtollijngiioonaaGreat

/- How a list of functions that came in as an argument is opened: its cells, and that each part is in its bounds. Conditions: none. -/
namespace Go.Proofs.YtollijngiioonaaGreat
set_option maxRecDepth 100000
open Go.RowKit Go.ChangeShapes Go.WideShapes Go.ChangeAt

theorem cells38 : Tryz.prog.cellsOf 100 = 3 := by kernel_rfl
theorem cells9 : Tryz.prog.cellsOf 9 = 1 := by kernel_rfl
theorem cells3i : Tryz.prog.cellsOf 3 = 1 := by kernel_rfl
theorem cells4 : Tryz.prog.cellsOf 4 = 1 := by kernel_rfl

set_option maxRecDepth 100000 in
theorem sym_of_trod {H : Type} {enc : TypeId × Value → H} {w : World} {base : Nat} {spare : Nat → Bool} {held : Bool} {n : Nat} {cs : List Value} {x : DataW H × List MemPlace}
    (h : DataW.trod enc Tryz.prog w base spare held n 100 cs = some x) : ∃ s : SymD, cs = symC s ∧ s.name.size ≤ maxLen ∧ (Lit.int .i64 s.ar).wf = true := by
  obtain ⟨xs, m, rfl, rfl, hlen, hxl, hf⟩ := DataW.trod_struct Tryz.underlying100 h
  rw [cells38] at hlen
  match cs, hlen with
  | [c0, c1, c2], _ =>
    match xs, hxl with
    | [y0, y1, y2], _ =>
      have h0 : DataW.trod enc Tryz.prog w base spare held m 9 [c0] = some y0 := by have := hf 0 _ rfl; simpa [cells9] using this
      have h1 : DataW.trod enc Tryz.prog w base spare held m 3 [c1] = some y1 := by have := hf 1 _ rfl; simpa [cells3i] using this
      have h2 : DataW.trod enc Tryz.prog w base spare held m 4 [c2] = some y2 := by have := hf 2 _ rfl; simpa [cells4] using this
      obtain ⟨s, e0, _, hs⟩ := DataW.trod_string Tryz.underlying9 h0
      obtain ⟨z, e1, _, hz⟩ := DataW.trod_int Tryz.underlying3 h1
      obtain ⟨b, e2, _⟩ := DataW.trod_bool Tryz.underlying4 h2
      simp at e0 e1 e2
      subst e0 e1 e2
      exact ⟨⟨s, z, b⟩, rfl, hs, hz⟩

set_option maxRecDepth 100000 in
theorem open_syms {H : Type} {enc : TypeId × Value → H} {W : World} {base : Nat} {spare : Nat → Bool} {held : Bool} {v : Value} {d : DataW H} {p : List MemPlace} {a : Option Addr} {len cap : Nat} (hv : v = .slice a len cap)
    (h : DataW.Trod enc Tryz.prog W base spare held 52 v d p) : ∃ ss : List SymD, len = ss.length ∧ len ≤ maxLen ∧ RdS W a ss ∧ ∀ s ∈ ss, s.name.size ≤ maxLen ∧ (Lit.int .i64 s.ar).wf = true := by
  subst hv
  obtain ⟨fuel, hf⟩ := h
  rcases Deep.open_slice Tryz.underlying52 hf with ⟨hcs, _⟩ | ⟨x, l, c, m, n, Dd, Pl, hcs, _, hl, hm, hmm, _, hel⟩
  · simp [Value.cells] at hcs
    obtain ⟨rfl, rfl, rfl⟩ := hcs
    exact ⟨[], rfl, Nat.zero_le _, .inl rfl, fun s hs => by simp at hs⟩
  · simp [Value.cells] at hcs
    obtain ⟨rfl, rfl, rfl⟩ := hcs
    rw [cells38] at hel
    have hlm : len ≤ m := by rw [hmm]; split <;> omega
    have hall : ∀ i, i < len → ∃ s : SymD, W.cells? base (x.add (i * 3)) 3 = some (symC s) ∧ s.name.size ≤ maxLen ∧ (Lit.int .i64 s.ar).wf = true := by
      intro i hi
      obtain ⟨cs', h1, h2⟩ := hel i (by omega)
      obtain ⟨s, rfl, h3, h4⟩ := sym_of_trod h2
      exact ⟨s, h1, h3, h4⟩
    obtain ⟨F, hF⟩ := Deep.choose_lt hall
    refine ⟨(List.range len).map F, by simp, by omega, ?_, ?_⟩
    · by_cases h0 : len = 0
      · subst h0; exact .inl rfl
      · have hcell : ∀ i, (hi : i < len) → ∀ j, j < 3 → W.cell? ((x.add (i * 3)).add j) = (symC (F i))[j]? := fun i hi j hj => (World.cells?_some (hF i hi).1).2.2 j hj
        obtain ⟨b, off, spot⟩ := x
        have hc0 := hcell 0 (by omega) 0 (by omega)
        have hspot : spot = none := by
          have h1 : W.cell? (⟨b, off, spot⟩ : Addr) = some (.string (F 0).name) := by simpa [Addr.add, symC] using hc0
          simpa using World.cell?_spot h1
        subst hspot
        have hadd : ∀ i j, ((⟨b, off, none⟩ : Addr).add i).add j = ⟨b, off + i + j, none⟩ := by
          intro i j
          by_cases h1 : i = 0 <;> by_cases h2 : j = 0 <;> simp [Addr.add, h1, h2, Nat.add_assoc]
        have hb : b < W.heap.size := by
          have h1 : W.cell? (⟨b, off, none⟩ : Addr) = some (.string (F 0).name) := by simpa [Addr.add, symC] using hc0
          exact World.block_lt_of_cell? _ _ h1
        refine .inr ⟨b, off, rfl, hb, fun i hi => ?_⟩
        simp at hi
        have g0 := hcell i hi 0 (by omega)
        have g1 := hcell i hi 1 (by omega)
        have g2 := hcell i hi 2 (by omega)
        rw [hadd] at g0 g1 g2
        simp [symC] at g0 g1 g2
        simp [g0, g1, g2]
    · intro s hs
      simp at hs
      obtain ⟨i, hi, rfl⟩ := hs
      exact ⟨(hF i hi).2.1, (hF i hi).2.2⟩
end Go.Proofs.YtollijngiioonaaGreat

/- How a term that came in as an argument is opened: its cells, all the way down. Conditions: none. -/
namespace Go.Proofs.YtollijngiioonaaGreat
set_option maxRecDepth 100000
open Go.RowKit Go.ChangeShapes Go.WideShapes Go.ChangeAt

theorem cellsT : Tryz.prog.cellsOf 55 = 3 := by kernel_rfl
theorem cellsI : Tryz.prog.cellsOf 3 = 1 := by kernel_rfl
theorem cellsK : Tryz.prog.cellsOf 53 = 1 := by kernel_rfl

theorem isW_of {z : Int} (h : (Lit.int .i64 z).wf = true) : isW z := by
  simp [Lit.wf, IntKind.min, IntKind.max, IntKind.signed, IntKind.bits] at h
  exact ⟨by omega, by omega⟩

set_option maxRecDepth 100000 in
/-- The three cells of a term, given what its list of kids reads as. -/
theorem term_trod {H : Type} {enc : TypeId × Value → H} {W : World} {base : Nat} {spare : Nat → Bool} {held : Bool} {fuel : Nat} {cs : List Value} {x : DataW H × List MemPlace}
    (h : DataW.trod enc Tryz.prog W base spare held fuel 55 cs = some x)
    (K : ∀ m, m < fuel → ∀ (cs : List Value) (x : DataW H × List MemPlace), DataW.trod enc Tryz.prog W base spare held m 53 cs = some x → ∃ a n cap ts, cs = [.slice a n cap] ∧ n = ts.length ∧ (n ≤ maxLen ∧ n ≤ cap) ∧ RdK W W.heap.size a ts) :
    ∃ (t : TermD) (a : Option Addr) (c : Nat), cs = [.int .i64 t.f, .int .i64 t.v, .slice a t.kids.length c] ∧ isW t.f ∧ isW t.v ∧ (t.kids.length ≤ maxLen ∧ t.kids.length ≤ c) ∧ RdK W W.heap.size a t.kids := by
  obtain ⟨xs, m, rfl, rfl, hlen, hxl, hf⟩ := DataW.trod_struct Tryz.underlying55 h
  rw [cellsT] at hlen
  match cs, hlen with
  | [c0, c1, c2], _ =>
    match xs, hxl with
    | [y0, y1, y2], _ =>
      have h0 : DataW.trod enc Tryz.prog W base spare held m 3 [c0] = some y0 := by have := hf 0 _ rfl; simpa [cellsI] using this
      have h1 : DataW.trod enc Tryz.prog W base spare held m 3 [c1] = some y1 := by have := hf 1 _ rfl; simpa [cellsI] using this
      have h2 : DataW.trod enc Tryz.prog W base spare held m 53 [c2] = some y2 := by have := hf 2 _ rfl; simpa [cellsK] using this
      obtain ⟨z0, e0, _, w0⟩ := DataW.trod_int Tryz.underlying3 h0
      obtain ⟨z1, e1, _, w1⟩ := DataW.trod_int Tryz.underlying3 h1
      obtain ⟨a, n, cap, ts, e2, hn, hm, hr⟩ := K m (by omega) _ _ h2
      simp at e0 e1 e2
      subst e0 e1 e2 hn
      exact ⟨.mk z0 z1 ts, a, cap, rfl, isW_of w0, isW_of w1, hm, hr⟩

theorem kids_trod {H : Type} {enc : TypeId × Value → H} {W : World} {base : Nat} {spare : Nat → Bool} {held : Bool} : ∀ (fuel : Nat) (cs : List Value) (x : DataW H × List MemPlace),
    DataW.trod enc Tryz.prog W base spare held fuel 53 cs = some x → ∃ a n cap ts, cs = [.slice a n cap] ∧ n = ts.length ∧ (n ≤ maxLen ∧ n ≤ cap) ∧ RdK W W.heap.size a ts := by
  intro fuel
  induction fuel using Nat.strongRecOn with
  | ind fuel ih =>
    intro cs x h
    rcases DataW.trod_slice Tryz.underlying53 h with ⟨rfl, _⟩ | ⟨x0, len, cap, elems, rest, n, rfl, rfl, _, hb, hl, hm, hlen, hel, _, _⟩
    · exact ⟨none, 0, 0, [], rfl, rfl, ⟨Nat.zero_le _, Nat.zero_le _⟩, .nil _⟩
    · rw [cellsT] at hel
      have hall : ∀ i, i < len → ∃ y : TermD × Option Addr × Nat, W.cells? base (x0.add (i * 3)) 3 = some [.int .i64 y.1.f, .int .i64 y.1.v, .slice y.2.1 y.1.kids.length y.2.2] ∧ isW y.1.f ∧ isW y.1.v ∧ RdK W W.heap.size y.2.1 y.1.kids ∧ y.1.kids.length ≤ y.2.2 := by
        intro i hi
        have h1 := hel i hi
        rw [List.getElem?_eq_getElem (by omega)] at h1
        obtain ⟨cs', g1, g2⟩ := Option.bind_eq_some_iff.1 h1
        obtain ⟨t, a, c, rfl, q1, q2, ⟨_, q4⟩, q3⟩ := term_trod g2 (fun m hm cs x hx => ih m (by omega) cs x hx)
        exact ⟨⟨t, a, c⟩, g1, q1, q2, q3, q4⟩
      obtain ⟨F, hF⟩ := Deep.choose_lt hall
      refine ⟨some x0, len, cap, (List.range len).map (fun i => (F i).1), rfl, by simp, ⟨by omega, by omega⟩, ?_⟩
      by_cases h0 : len = 0
      · subst h0; exact .nil _
      · have hcell : ∀ i, (hi : i < len) → ∀ j, j < 3 → W.cell? ((x0.add (i * 3)).add j) = [Value.int .i64 (F i).1.f, .int .i64 (F i).1.v, .slice (F i).2.1 (F i).1.kids.length (F i).2.2][j]? := fun i hi j hj => (World.cells?_some (hF i hi).1).2.2 j hj
        obtain ⟨b, off, spot⟩ := x0
        have hc0 := hcell 0 (by omega) 0 (by omega)
        have h1 : W.cell? (⟨b, off, spot⟩ : Addr) = some (.int .i64 (F 0).1.f) := by simpa [Addr.add] using hc0
        have hspot : spot = none := by simpa using World.cell?_spot h1
        subst hspot
        have hadd : ∀ i j, ((⟨b, off, none⟩ : Addr).add i).add j = ⟨b, off + i + j, none⟩ := by
          intro i j
          by_cases h1 : i = 0 <;> by_cases h2 : j = 0 <;> simp [Addr.add, h1, h2, Nat.add_assoc]
        have hbl : b < W.heap.size := World.block_lt_of_cell? _ _ h1
        refine .row b off _ (fun i => (F i).2.1) (fun i => (F i).2.2) hbl ⟨by simp; unfold maxLen at hm; omega, fun i hi => by simp at hi; simp only [List.getElem_map, List.getElem_range]; exact (hF i hi).2.2.2.2⟩ (fun i hi => ?_) (fun i hi => ?_) (fun i hi => ?_)
        · simp at hi
          simp only [List.getElem_map, List.getElem_range]
          exact ⟨(hF i hi).2.1, (hF i hi).2.2.1⟩
        · simp at hi
          simp only [List.getElem_map, List.getElem_range]
          have g0 := hcell i hi 0 (by omega)
          have g1 := hcell i hi 1 (by omega)
          have g2 := hcell i hi 2 (by omega)
          rw [hadd] at g0 g1 g2
          exact ⟨by simpa using g0, by simpa using g1, by simpa using g2⟩
        · simp at hi
          simp only [List.getElem_map, List.getElem_range]
          exact (hF i hi).2.2.2.1

theorem open_term {H : Type} {enc : TypeId × Value → H} {W : World} {base : Nat} {spare : Nat → Bool} {held : Bool} {v : Value} {d : DataW H} {p : List MemPlace} {cs : Array Value} (hv : v = .agg cs)
    (h : DataW.Trod enc Tryz.prog W base spare held 55 v d p) : ∃ (t : TermD) (a : Option Addr) (c : Nat), v = .agg #[.int .i64 t.f, .int .i64 t.v, .slice a t.kids.length c] ∧ isW t.f ∧ isW t.v ∧ (t.kids.length ≤ maxLen ∧ t.kids.length ≤ c) ∧ RdK W W.heap.size a t.kids := by
  subst hv
  obtain ⟨fuel, hf⟩ := h
  obtain ⟨t, a, c, e, r⟩ := term_trod hf (fun m _ cs x hx => kids_trod m cs x hx)
  refine ⟨t, a, c, ?_, r⟩
  have e2 : cs.toList = [.int .i64 t.f, .int .i64 t.v, .slice a t.kids.length c] := by simpa [Value.cells] using e
  rw [show cs = #[.int .i64 t.f, .int .i64 t.v, .slice a t.kids.length c] from Array.toList_inj.1 e2]
end Go.Proofs.YtollijngiioonaaGreat

/- Contracts of the laws' helpers on terms: how much one holds. Conditions: none beyond the reading's. -/
namespace Go.Proofs.YtollijngiioonaaGreat
set_option maxRecDepth 100000
open Go.RowKit

theorem rt_int {a b : Int} (h : a = b) : Ending.returned (.int .i64 a) = .returned (.int .i64 b) := by rw [h]

set_option maxHeartbeats 1600000 in
theorem szTerm_of (t : TermD) (a : Option Addr) (c : Nat) (m : Int) (w : World)
    (H : ∀ w', Below w.heap.size w w' → Calls Tryz.prog 81 #[.slice a t.kids.length c, .int .i64 m] w' fun e w'' => e = .returned (.int .i64 (szR t.kids m)) ∧ Below w'.heap.size w' w'') :
    Calls Tryz.prog 33 #[.agg #[.int .i64 t.f, .int .i64 t.v, .slice a t.kids.length c], .int .i64 m] w fun e w' => e = .returned (.int .i64 (szR t.kids m)) ∧ Below w.heap.size w w' := by
  have h0 : Below w.heap.size w (w.alloc (.cells #[.int .i64 t.f, .int .i64 t.v, .slice a t.kids.length c] 55)) := (Below.refl w.heap.size w).alloc (Nat.le_refl _) _
  have H1 := H _ h0
  clear H
  have hr : szR t.kids m < 0 → szR t.kids m = -1 := by unfold szR; split <;> omega
  generalize szR t.kids m = r at *
  by_cases hn : r < 0
  · have hr1 := hr hn
    subst hr1
    clear hr
    go_enter Tryz.func33, Tryz.ntmps33
    go_wp2_with (go_at_call 81; refine H1.mono ?_; rintro e w1 ⟨rfl, hb1⟩; clear H1)
    go_ret
    exact ⟨rfl, h0.trans (hb1.mono h0.size)⟩
  · clear hr
    go_enter Tryz.func33, Tryz.ntmps33
    go_wp2_with (go_at_call 81; refine H1.mono ?_; rintro e w1 ⟨rfl, hb1⟩; clear H1)
    go_ret
    exact ⟨rfl, h0.trans (hb1.mono h0.size)⟩

set_option maxHeartbeats 1600000 in
theorem szTermS_any (N : Nat) : ∀ (ts : List TermD) (a : Option Addr) (c hi : Nat) (m : Int) (w : World), partsL ts ≤ N → 0 ≤ m → m ≤ 1048576 → RdK w hi a ts → hi ≤ w.heap.size →
    Calls Tryz.prog 81 #[.slice a ts.length c, .int .i64 m] w fun e w' => e = .returned (.int .i64 (szR ts m)) ∧ Below w.heap.size w w' := by
  induction N with
  | zero =>
    intro ts a c hi m w hN hm0 hm hr hhi
    have h1 := partsL_len ts
    have : ts = [] := List.length_eq_zero_iff.1 (by omega)
    subst this
    have HS : Hid (szR [] m = m) := by show _ = _; simp [szR, partsL, hm0]
    have hm0' : ¬ m < 0 := by omega
    go_enter Tryz.func81, Tryz.ntmps81
    go_wp2_with fail
    refine wp_loop_rounds 1 ?_
    rw [rounds_succ]
    go_wp2_with fail
    go_ret
    exact ⟨rt_int HS.out.symm, Below.refl _ _⟩
  | succ N ih =>
    intro ts a c hi m w hN hm0 hm hr hhi
    have hlen := hr.len
    by_cases hbig : m - (ts.length : Int) < 0
    · have HS : Hid (szR ts m = -1) := by show _ = _; have := partsL_len ts; unfold szR; rw [if_neg (by omega)]
      clear hr
      go_enter Tryz.func81, Tryz.ntmps81
      go_wp2_with fail
      go_ret
      exact ⟨rt_int HS.out.symm, Below.refl _ _⟩
    · have HR : Hid (RdK w hi a ts) := hr
      clear hr
      go_enter Tryz.func81, Tryz.ntmps81
      go_wp2_with fail
      go_loopw [1, 5] (fun l i wr => ∃ (k : Nat) (x : Int), k ≤ ts.length ∧ i = .int .i64 k ∧ l = .int .i64 x ∧ 0 ≤ x ∧ x ≤ m ∧ Hid (x = m - ts.length + k - partsL (ts.take k)) ∧ Below w.heap.size w wr) (fun _ i _ => ts.length - (intOf i).toNat)
      case atStart => exact ⟨0, m - ts.length, Nat.zero_le _, rfl, rfl, by omega, by omega, by show _ = _; simp [partsL], Below.refl _ _⟩
      case round =>
        obtain ⟨k, x, hk, rfl, rfl, hx0, hx1, HX, hbr⟩ := hrel
        by_cases hk' : k < ts.length
        · obtain ⟨b, off, a', c', rfl, hlt, d0, d1, d2, hkr⟩ := RdK.kid (HR.out.on (hbr.mono hhi)) hk'
          have hpg := partsL_get hk'
          have hpt := partsT_eq ts[k]
          have hki : (k : Int) < (ts.length : Int) := by omega
          have hwr := Nat.le_trans hhi hbr.size
          have S := szTerm_of ts[k] a' c' x wr (fun w' h => ih ts[k].kids a' c' hi x w' (by omega) hx0 (by omega) (hkr.on (h.mono hwr)) (Nat.le_trans hwr h.size))
          have HP := partsL_next hk'
          have HR2 := partsL_rest ts (k + 1)
          have hxo := HX.out
          by_cases hle : (partsL ts[k].kids : Int) ≤ x
          · have e : szR ts[k].kids x = x - partsL ts[k].kids := by unfold szR; rw [if_pos hle]
            rw [e] at S
            have hnn : ¬ x - (partsL ts[k].kids : Int) < 0 := by omega
            have HX' : Hid (x - (partsL ts[k].kids : Int) = m - ts.length + ((k + 1 : Nat) : Int) - partsL (ts.take (k + 1))) := by show _ = _; omega
            clear hkr hxo HP HR2 hpt e
            go_wp2_with (go_at_call 33; refine S.mono ?_; rintro e w1 ⟨rfl, hb1⟩; clear S)
            go_roundw
            case rel => exact ⟨k + 1, _, by omega, by go_num, rfl, by omega, by omega, HX', hbr.trans (hb1.mono hbr.size)⟩
            case measure => simp [intOf]; omega
          · have e : szR ts[k].kids x = -1 := by unfold szR; rw [if_neg hle]
            rw [e] at S
            have HS : Hid (szR ts m = -1) := by show _ = _; unfold szR; rw [if_neg (by omega)]
            clear hkr hxo HP HR2 hpt e
            go_wp2_with (go_at_call 33; refine S.mono ?_; rintro e w1 ⟨rfl, hb1⟩; clear S)
            go_ret
            exact ⟨rt_int HS.out.symm, hbr.trans (hb1.mono hbr.size)⟩
        · have HS : Hid (szR ts m = x) := by
            show _ = _
            have hxo := HX.out
            have e : k = ts.length := by omega
            rw [e, List.take_length] at hxo
            unfold szR; rw [if_pos (by omega)]; omega
          go_wp2_with fail
          go_ret
          exact ⟨rt_int HS.out.symm, hbr⟩

theorem szTerm_any (t : TermD) (a : Option Addr) (c hi : Nat) (m : Int) (w : World) (hm0 : 0 ≤ m) (hm : m ≤ 1048576) (hr : RdK w hi a t.kids) (hhi : hi ≤ w.heap.size) :
    Calls Tryz.prog 33 #[.agg #[.int .i64 t.f, .int .i64 t.v, .slice a t.kids.length c], .int .i64 m] w fun e w' => e = .returned (.int .i64 (szR t.kids m)) ∧ Below w.heap.size w w' :=
  szTerm_of t a c m w (fun w' h => szTermS_any (partsL t.kids) t.kids a c hi m w' (Nat.le_refl _) hm0 hm (hr.on (h.mono hhi)) (Nat.le_trans hhi h.size))
end Go.Proofs.YtollijngiioonaaGreat

