/- What the proof of FnExactLitApply stands on, part 9 of 13: each piece says what it proves and under which conditions. Conditions: as each piece says. -/
import Derived.Test.YtollijngiioonabGreatPackExactLitApply8
import Derived.Test.YtollijngiioonabGreatProg
import Derived.Tactics
import Derived.WalkKit
import Derived.Deep.RegionLaw
import Derived.ProofKit
import Derived.OpenShut
import Derived.WalkSmall
import Derived.Deep.QuietTactic
import Derived.BigQuiet
import Derived.Lib.Builder
/- What lies in memory while the law on making an equation goes on: which block belongs to what. Conditions: none. -/
namespace Go.Proofs.YtollijngiioonabGreat
set_option maxRecDepth 100000
open Go.RowKit

/-- A step that writes only into what belongs to some owners. -/
structure TP (t : Nat → Prop) (o : Nat → Nat) (W : World) (o' : Nat → Nat) (W' : World) : Prop where
  st : Stay (fun k => ¬ t (o k)) W W'
  old : ∀ k, k < W.heap.size → o' k = o k
theorem TP.same (t : Nat → Prop) (o : Nat → Nat) {W W' : World} (hb : Below W.heap.size W W') : TP t o W o W' := ⟨.of_below hb (fun _ hk _ => hk), fun _ _ => rfl⟩
theorem TP.grow (t : Nat → Prop) (o : Nat → Nat) {W W' : World} (hb : Below W.heap.size W W') (g : Nat) : TP t o W (upd o W.heap.size W'.heap.size g) W' := ⟨.of_below hb (fun _ hk _ => hk), fun _ hk => upd_old hk⟩
theorem Tg.same {w0 : World} {o : Nat → Nat} {W W' : World} (h : Tg w0 o W) (hb : Below W.heap.size W W') : Tg w0 o W' := by
  have hs := hb.size
  exact ⟨h.bel.trans (hb.mono h.bel.size), fun k hk => by have := h.own k hk; omega⟩
theorem Tg.write {w0 : World} {o : Nat → Nat} {W W' : World} {t : Nat → Prop} (h : Tg w0 o W) (hs : Stay (fun k => ¬ t (o k)) W W') (h0 : ¬ t 0) : Tg w0 o W' := by
  refine ⟨h.bel.trans (hs.below h.bel.size (fun k hk => ?_)), fun k hk => by have := h.own k hk; have := hs.size; omega⟩
  by_cases e : o k = 0
  · rw [e]; exact h0
  · have := h.own k e; omega
theorem Tg.base {w0 w1 : World} {o : Nat → Nat} {W : World} (h : Tg w1 o W) (hb : Below w0.heap.size w0 w1) : Tg w0 o W := by
  have := hb.size
  exact ⟨hb.trans (h.bel.mono hb.size), fun k hk => by have := h.own k hk; omega⟩
open Classical in
/-- Two new sets of blocks. -/
noncomputable def upd2 (o : Nat → Nat) (S1 S2 : Nat → Prop) (g1 g2 : Nat) : Nat → Nat := fun k => if S1 k then g1 else if S2 k then g2 else o k
theorem upd2_1 {o : Nat → Nat} {S1 S2 : Nat → Prop} {g1 g2 k : Nat} (h : S1 k) : upd2 o S1 S2 g1 g2 k = g1 := by unfold upd2; rw [if_pos h]
theorem upd2_2 {o : Nat → Nat} {S1 S2 : Nat → Prop} {g1 g2 k : Nat} (h : S2 k) (hn : ¬ S1 k) : upd2 o S1 S2 g1 g2 k = g2 := by unfold upd2; rw [if_neg hn, if_pos h]
theorem upd2_old {o : Nat → Nat} {S1 S2 : Nat → Prop} {g1 g2 k : Nat} (h1 : ¬ S1 k) (h2 : ¬ S2 k) : upd2 o S1 S2 g1 g2 k = o k := by unfold upd2; rw [if_neg h1, if_neg h2]
theorem TP.two (t : Nat → Prop) (o : Nat → Nat) {W W' : World} {S1 S2 : Nat → Prop} (hb : Below W.heap.size W W') (h1 : ∀ k, S1 k → W.heap.size ≤ k) (h2 : ∀ k, S2 k → W.heap.size ≤ k) (g1 g2 : Nat) : TP t o W (upd2 o S1 S2 g1 g2) W' :=
  ⟨.of_below hb (fun _ hk _ => hk), fun k hk => upd2_old (fun h => by have := h1 k h; omega) (fun h => by have := h2 k h; omega)⟩
theorem Tg.two {w0 : World} {o : Nat → Nat} {W W' : World} {S1 S2 : Nat → Prop} (h : Tg w0 o W) (hb : Below W.heap.size W W') (h1 : ∀ k, S1 k → W.heap.size ≤ k ∧ k < W'.heap.size) (h2 : ∀ k, S2 k → W.heap.size ≤ k ∧ k < W'.heap.size) (g1 g2 : Nat) : Tg w0 (upd2 o S1 S2 g1 g2) W' := by
  have hs := hb.size
  have hz := h.bel.size
  refine ⟨h.bel.trans (hb.mono hz), fun k hk => ?_⟩
  by_cases e1 : S1 k
  · have := h1 k e1; omega
  · by_cases e2 : S2 k
    · have := h2 k e2; omega
    · rw [upd2_old e1 e2] at hk
      have := h.own k hk
      omega
theorem OwnS.tp {w0 : World} {o o' : Nat → Nat} {W W' : World} {g : Nat} {t : Nat → Prop} {a : Option Addr} {ks : List TermD} (h : OwnS W (fun k => o k = g) a ks) (hT : Tg w0 o W) (F : TP t o W o' W') (h0 : g ≠ 0) (ht : ¬ t g) : OwnS W' (fun k => o' k = g) a ks := by
  have hl : ∀ k, o k = g → k < W.heap.size := fun k hk => (hT.own k (by rw [hk]; exact h0)).2
  exact (h.frame (fun k hk => F.st.block k (hl k hk) (by rw [hk]; exact ht)) F.st.size).mono fun k hk => (F.old k (hl k hk)).trans hk
theorem Mk.mono' {w : World} {S T : Nat → Prop} {a : Option Addr} {ts : List TermD} {k : Int} (h : Mk w S a ts k) (hs : ∀ x, S x → T x) : Mk w T a ts k := by
  cases h with
  | nil => exact .nil _ _ _
  | row S b off ts A C K k hb hc hsub hk => exact .row _ b off ts A C K k (hs b hb) hc (fun i x hx hk => hs x (hsub i x hx hk)) hk
theorem Mk.tp {w0 : World} {o o' : Nat → Nat} {W W' : World} {g : Nat} {t : Nat → Prop} {a : Option Addr} {ks : List TermD} {m : Int} (h : Mk W (fun k => o k = g) a ks m) (hT : Tg w0 o W) (F : TP t o W o' W') (h0 : g ≠ 0) (ht : ¬ t g) : Mk W' (fun k => o' k = g) a ks m := by
  have hl : ∀ k, o k = g → k < W.heap.size := fun k hk => (hT.own k (by rw [hk]; exact h0)).2
  exact (h.frame (fun k hk => F.st.block k (hl k hk) (by rw [hk]; exact ht))).mono' fun k hk => (F.old k (hl k hk)).trans hk
theorem C7.lt {W : World} {b : Nat} {x0 x1 x2 x3 x4 x5 x6 : Value} (h : C7 W b x0 x1 x2 x3 x4 x5 x6) : b < W.heap.size := World.block_lt_of_cell? _ _ h.1
theorem C7.stay {W W' : World} {b : Nat} {x0 x1 x2 x3 x4 x5 x6 : Value} {S : Nat → Prop} (h : C7 W b x0 x1 x2 x3 x4 x5 x6) (hs : Stay S W W') (hb : S b) : C7 W' b x0 x1 x2 x3 x4 x5 x6 :=
  ⟨hs.cell h.1 hb, hs.cell h.2.1 hb, hs.cell h.2.2.1 hb, hs.cell h.2.2.2.1 hb, hs.cell h.2.2.2.2.1 hb, hs.cell h.2.2.2.2.2.1 hb, hs.cell h.2.2.2.2.2.2 hb⟩
/-- A box that holds an equation. -/
def B7 (o : Nat → Nat) (W : World) (g B : Nat) (X : LitD) (a1 : Option Addr) (c1 : Nat) (a2 : Option Addr) (c2 : Nat) : Prop :=
  o B = g ∧ C7 W B (.bool X.p) (.int .i64 X.l.f) (.int .i64 X.l.v) (.slice a1 X.l.kids.length c1) (.int .i64 X.r.f) (.int .i64 X.r.v) (.slice a2 X.r.kids.length c2)
theorem B7.tp {o o' : Nat → Nat} {W W' : World} {g B : Nat} {t : Nat → Prop} {X : LitD} {a1 : Option Addr} {c1 : Nat} {a2 : Option Addr} {c2 : Nat} (h : B7 o W g B X a1 c1 a2 c2) (F : TP t o W o' W') (ht : ¬ t g) : B7 o' W' g B X a1 c1 a2 c2 :=
  ⟨(F.old B h.2.lt).trans h.1, h.2.stay F.st (by rw [h.1]; exact ht)⟩
/-- An equation in a box: either side owns its memory. -/
structure X7 (o : Nat → Nat) (W : World) (g g1 g2 B : Nat) (X : LitD) (a1 : Option Addr) (c1 : Nat) (a2 : Option Addr) (c2 : Nat) : Prop where
  b : B7 o W g B X a1 c1 a2 c2
  k1 : OwnS W (fun k => o k = g1) a1 X.l.kids
  k2 : OwnS W (fun k => o k = g2) a2 X.r.kids
theorem X7.tp {w0 : World} {o o' : Nat → Nat} {W W' : World} {g g1 g2 B : Nat} {t : Nat → Prop} {X : LitD} {a1 : Option Addr} {c1 : Nat} {a2 : Option Addr} {c2 : Nat} (h : X7 o W g g1 g2 B X a1 c1 a2 c2) (hT : Tg w0 o W) (F : TP t o W o' W') (h1 : g1 ≠ 0) (h2 : g2 ≠ 0) (ht : ¬ t g) (ht1 : ¬ t g1) (ht2 : ¬ t g2) : X7 o' W' g g1 g2 B X a1 c1 a2 c2 :=
  ⟨h.b.tp F ht, h.k1.tp hT F h1 ht1, h.k2.tp hT F h2 ht2⟩
/-- A term in a box: it owns its memory. -/
structure X3 (o : Nat → Nat) (W : World) (g g1 B : Nat) (x : TermD) (a : Option Addr) (c : Nat) : Prop where
  e : o B = g
  b : C3 W B (.int .i64 x.f) (.int .i64 x.v) (.slice a x.kids.length c)
  k : OwnS W (fun k => o k = g1) a x.kids
theorem X3.tp {w0 : World} {o o' : Nat → Nat} {W W' : World} {g g1 B : Nat} {t : Nat → Prop} {x : TermD} {a : Option Addr} {c : Nat} (h : X3 o W g g1 B x a c) (hT : Tg w0 o W) (F : TP t o W o' W') (h1 : g1 ≠ 0) (ht : ¬ t g) (ht1 : ¬ t g1) : X3 o' W' g g1 B x a c :=
  ⟨(F.old B h.b.lt).trans h.e, h.b.stay F.st (by rw [h.e]; exact ht), h.k.tp hT F h1 ht1⟩
/-- The copy of the list of functions. -/
structure SR (o : Nat → Nat) (W : World) (g G : Nat) (ss : List SymD) : Prop where
  e : o G = g
  w : W.ownsRow G 59 3 (.slice (some ⟨G, 0, none⟩) ss.length ss.length) ss.length (symCs ss)
theorem SR.on {o o' : Nat → Nat} {W W' : World} {g G : Nat} {ss : List SymD} (h : SR o W g G ss) (hb : Below W.heap.size W W') (ho : ∀ k, k < W.heap.size → o' k = o k) : SR o' W' g G ss := ⟨(ho G (h.w.lt _ rfl).2).trans h.e, own_on h.w hb⟩

/-- The wanted answer in its box (10 to 12). -/
structure LS (w1 : World) (X : LitD) (Bw : Nat) (aw : Option Addr) (cw : Nat) (bw : Option Addr) (dw : Nat) (o : Nat → Nat) (W : World) : Prop where
  tg : Tg w1 o W
  w : X7 o W 10 11 12 Bw X aw cw bw dw
/-- The copies of the arguments (13 to 17). -/
structure LA1 (w1 : World) (X : LitD) (Bw : Nat) (aw : Option Addr) (cw : Nat) (bw : Option Addr) (dw : Nat) (ss : List SymD) (G : Nat) (o : Nat → Nat) (W : World) : Prop where
  q : LS w1 X Bw aw cw bw dw o W
  s : SR o W 13 G ss
structure LA2 (w1 : World) (X : LitD) (Bw : Nat) (aw : Option Addr) (cw : Nat) (bw : Option Addr) (dw : Nat) (ss : List SymD) (G : Nat) (t : TermD) (Bx : Nat) (ax : Option Addr) (cx : Nat) (o : Nat → Nat) (W : World) : Prop where
  q : LA1 w1 X Bw aw cw bw dw ss G o W
  x : X3 o W 14 15 Bx t ax cx
structure LA3 (w1 : World) (X : LitD) (Bw : Nat) (aw : Option Addr) (cw : Nat) (bw : Option Addr) (dw : Nat) (ss : List SymD) (G : Nat) (t : TermD) (Bx : Nat) (ax : Option Addr) (cx : Nat) (u : TermD) (By : Nat) (ay : Option Addr) (cy : Nat) (o : Nat → Nat) (W : World) : Prop where
  q : LA2 w1 X Bw aw cw bw dw ss G t Bx ax cx o W
  y : X3 o W 16 17 By u ay cy
/-- And the answer in its box (18 to 20). -/
structure LA4 (w1 : World) (X : LitD) (Bw : Nat) (aw : Option Addr) (cw : Nat) (bw : Option Addr) (dw : Nat) (ss : List SymD) (G : Nat) (t : TermD) (Bx : Nat) (ax : Option Addr) (cx : Nat) (u : TermD) (By : Nat) (ay : Option Addr) (cy : Nat) (Bg : Nat) (ag : Option Addr) (cg : Nat) (bg : Option Addr) (dg : Nat) (o : Nat → Nat) (W : World) : Prop where
  q : LA3 w1 X Bw aw cw bw dw ss G t Bx ax cx u By ay cy o W
  g : X7 o W 18 19 20 Bg X ag cg bg dg
/-- The copies may be written over, one behind the other. -/
structure LB2 (w1 : World) (X : LitD) (Bw : Nat) (aw : Option Addr) (cw : Nat) (bw : Option Addr) (dw : Nat) (t : TermD) (Bx : Nat) (ax : Option Addr) (cx : Nat) (u : TermD) (By : Nat) (ay : Option Addr) (cy : Nat) (Bg : Nat) (ag : Option Addr) (cg : Nat) (bg : Option Addr) (dg : Nat) (o : Nat → Nat) (W : World) : Prop where
  q : LS w1 X Bw aw cw bw dw o W
  x : X3 o W 14 15 Bx t ax cx
  y : X3 o W 16 17 By u ay cy
  g : X7 o W 18 19 20 Bg X ag cg bg dg
structure LB1 (w1 : World) (X : LitD) (Bw : Nat) (aw : Option Addr) (cw : Nat) (bw : Option Addr) (dw : Nat) (u : TermD) (By : Nat) (ay : Option Addr) (cy : Nat) (Bg : Nat) (ag : Option Addr) (cg : Nat) (bg : Option Addr) (dg : Nat) (o : Nat → Nat) (W : World) : Prop where
  q : LS w1 X Bw aw cw bw dw o W
  y : X3 o W 16 17 By u ay cy
  g : X7 o W 18 19 20 Bg X ag cg bg dg
structure LB0 (w1 : World) (X : LitD) (Bw : Nat) (aw : Option Addr) (cw : Nat) (bw : Option Addr) (dw : Nat) (Bg : Nat) (ag : Option Addr) (cg : Nat) (bg : Option Addr) (dg : Nat) (o : Nat → Nat) (W : World) : Prop where
  q : LS w1 X Bw aw cw bw dw o W
  g : X7 o W 18 19 20 Bg X ag cg bg dg
/-- The answer bears marks. -/
structure LMk (w1 : World) (X : LitD) (Bw : Nat) (aw : Option Addr) (cw : Nat) (bw : Option Addr) (dw : Nat) (Bg : Nat) (ag : Option Addr) (cg : Nat) (bg : Option Addr) (dg : Nat) (o : Nat → Nat) (W : World) : Prop where
  q : LS w1 X Bw aw cw bw dw o W
  g : B7 o W 18 Bg X ag cg bg dg
  m1 : Mk W (fun k => o k = 19) ag X.l.kids 1
  m2 : Mk W (fun k => o k = 20) bg X.r.kids (1 + 2 * partsL X.l.kids)
section
variable {w1 : World} {X : LitD} {Bw : Nat} {aw : Option Addr} {cw : Nat} {bw : Option Addr} {dw : Nat} {ss : List SymD} {G : Nat} {t : TermD} {Bx : Nat} {ax : Option Addr} {cx : Nat} {u : TermD} {By : Nat} {ay : Option Addr} {cy : Nat} {Bg : Nat} {ag : Option Addr} {cg : Nat} {bg : Option Addr} {dg : Nat} {o o' : Nat → Nat} {W W' : World}
theorem LS.tp {p : Nat → Prop} (h : LS w1 X Bw aw cw bw dw o W) (T : Tg w1 o' W') (F : TP p o W o' W') (hp : ¬ p 10 ∧ ¬ p 11 ∧ ¬ p 12) : LS w1 X Bw aw cw bw dw o' W' :=
  ⟨T, h.w.tp h.tg F (by decide) (by decide) hp.1 hp.2.1 hp.2.2⟩
def pNo : Nat → Prop := fun _ => False
theorem LA1.on (h : LA1 w1 X Bw aw cw bw dw ss G o W) (hb : Below W.heap.size W W') (T : Tg w1 o' W') (F : TP pNo o W o' W') : LA1 w1 X Bw aw cw bw dw ss G o' W' := ⟨h.q.tp T F ⟨id, id, id⟩, h.s.on hb F.old⟩
theorem LA2.on (h : LA2 w1 X Bw aw cw bw dw ss G t Bx ax cx o W) (hb : Below W.heap.size W W') (T : Tg w1 o' W') (F : TP pNo o W o' W') : LA2 w1 X Bw aw cw bw dw ss G t Bx ax cx o' W' := ⟨h.q.on hb T F, h.x.tp h.q.q.tg F (by decide) id id⟩
theorem LA3.on (h : LA3 w1 X Bw aw cw bw dw ss G t Bx ax cx u By ay cy o W) (hb : Below W.heap.size W W') (T : Tg w1 o' W') (F : TP pNo o W o' W') : LA3 w1 X Bw aw cw bw dw ss G t Bx ax cx u By ay cy o' W' := ⟨h.q.on hb T F, h.y.tp h.q.q.q.tg F (by decide) id id⟩
theorem LA4.on (h : LA4 w1 X Bw aw cw bw dw ss G t Bx ax cx u By ay cy Bg ag cg bg dg o W) (hb : Below W.heap.size W W') : LA4 w1 X Bw aw cw bw dw ss G t Bx ax cx u By ay cy Bg ag cg bg dg o W' :=
  ⟨h.q.on hb (h.q.q.q.q.tg.same hb) (TP.same _ o hb), h.g.tp h.q.q.q.q.tg (TP.same pNo o hb) (by decide) (by decide) id id id⟩
theorem LMk.on (h : LMk w1 X Bw aw cw bw dw Bg ag cg bg dg o W) (hb : Below W.heap.size W W') : LMk w1 X Bw aw cw bw dw Bg ag cg bg dg o W' :=
  ⟨h.q.tp (h.q.tg.same hb) (TP.same pNo o hb) ⟨id, id, id⟩, h.g.tp (TP.same pNo o hb) id, h.m1.tp h.q.tg (TP.same pNo o hb) (by decide) id, h.m2.tp h.q.tg (TP.same pNo o hb) (by decide) id⟩
theorem LB0.on (h : LB0 w1 X Bw aw cw bw dw Bg ag cg bg dg o W) (hb : Below W.heap.size W W') : LB0 w1 X Bw aw cw bw dw Bg ag cg bg dg o W' :=
  ⟨h.q.tp (h.q.tg.same hb) (TP.same pNo o hb) ⟨id, id, id⟩, h.g.tp h.q.tg (TP.same pNo o hb) (by decide) (by decide) id id id⟩
/-- The list of functions is copied. -/
theorem LS.sym (h : LS w1 X Bw aw cw bw dw o W) (hb : Below W.heap.size W W') (hw : W'.ownsRow W.heap.size 59 3 (.slice (some ⟨W.heap.size, 0, none⟩) ss.length ss.length) ss.length (symCs ss)) : ∃ o', LA1 w1 X Bw aw cw bw dw ss W.heap.size o' W' :=
  ⟨_, h.tp (h.tg.grow hb 13) (TP.grow pNo o hb 13) ⟨id, id, id⟩, upd_new (Nat.le_refl _) (hw.lt _ rfl).2, hw⟩
/-- A term is copied, and its box laid. -/
theorem X3.new {p : World} (T : Tg p o W) (hb : Below W.heap.size W W') (hk : OwnS W' (fun k => W.heap.size ≤ k ∧ k < W'.heap.size) ax t.kids) (g g1 : Nat) (h1 : g1 ≠ 0) (TT : TypeId) : ∃ o', TP pNo o W o' (W'.alloc (.cells #[.int .i64 t.f, .int .i64 t.v, .slice ax t.kids.length cx] TT)) ∧ Tg p o' (W'.alloc (.cells #[.int .i64 t.f, .int .i64 t.v, .slice ax t.kids.length cx] TT)) ∧ X3 o' (W'.alloc (.cells #[.int .i64 t.f, .int .i64 t.v, .slice ax t.kids.length cx] TT)) g g1 W'.heap.size t ax cx := by
  have hb2 : Below W'.heap.size W' (W'.alloc (.cells #[.int .i64 t.f, .int .i64 t.v, .slice ax t.kids.length cx] TT)) := (Below.refl _ _).alloc (Nat.le_refl _) _
  have T1 := T.grow hb g1
  have hk1 : OwnS W' (fun k => upd o W.heap.size W'.heap.size g1 k = g1) ax t.kids := hk.mono fun k hk => upd_new hk.1 hk.2
  have F2 := TP.grow pNo (upd o W.heap.size W'.heap.size g1) hb2 g
  refine ⟨_, ⟨(TP.grow pNo o hb g1).st.trans (.of_below hb2 (fun _ hk _ => hk)), fun k hk => (F2.old k (Nat.lt_of_lt_of_le hk hb.size)).trans (upd_old hk)⟩, T1.grow hb2 g, upd_new (Nat.le_refl _) (by simp), C3.new _ _ _ _ _, hk1.tp T1 F2 h1 id⟩
theorem LA1.term (h : LA1 w1 X Bw aw cw bw dw ss G o W) (hb : Below W.heap.size W W') (hk : OwnS W' (fun k => W.heap.size ≤ k ∧ k < W'.heap.size) ax t.kids) (TT : TypeId) : ∃ o', LA2 w1 X Bw aw cw bw dw ss G t W'.heap.size ax cx o' (W'.alloc (.cells #[.int .i64 t.f, .int .i64 t.v, .slice ax t.kids.length cx] TT)) := by
  obtain ⟨o', F, T, hx⟩ := X3.new (cx := cx) h.q.tg hb hk 14 15 (by decide) TT
  exact ⟨o', h.on (hb.trans (Below.mono ((Below.refl _ _).alloc (Nat.le_refl _) _) hb.size)) T F, hx⟩
theorem LA2.term (h : LA2 w1 X Bw aw cw bw dw ss G t Bx ax cx o W) (hb : Below W.heap.size W W') (hk : OwnS W' (fun k => W.heap.size ≤ k ∧ k < W'.heap.size) ay u.kids) (TT : TypeId) : ∃ o', LA3 w1 X Bw aw cw bw dw ss G t Bx ax cx u W'.heap.size ay cy o' (W'.alloc (.cells #[.int .i64 u.f, .int .i64 u.v, .slice ay u.kids.length cy] TT)) := by
  obtain ⟨o', F, T, hx⟩ := X3.new (cx := cy) h.q.q.tg hb hk 16 17 (by decide) TT
  exact ⟨o', h.on (hb.trans (Below.mono ((Below.refl _ _).alloc (Nat.le_refl _) _) hb.size)) T F, hx⟩
/-- An equation that came of a call, and its box laid. -/
theorem X7.new {p : World} {S1 S2 : Nat → Prop} (T : Tg p o W) (hb : Below W.heap.size W W') (hX : OwnX W W' X ag cg bg dg S1 S2) (g g1 g2 : Nat) (h1 : g1 ≠ 0) (h2 : g2 ≠ 0) (TT : TypeId) : ∃ o', TP pNo o W o' (W'.alloc (.cells #[.bool X.p, .int .i64 X.l.f, .int .i64 X.l.v, .slice ag X.l.kids.length cg, .int .i64 X.r.f, .int .i64 X.r.v, .slice bg X.r.kids.length dg] TT)) ∧ Tg p o' (W'.alloc (.cells #[.bool X.p, .int .i64 X.l.f, .int .i64 X.l.v, .slice ag X.l.kids.length cg, .int .i64 X.r.f, .int .i64 X.r.v, .slice bg X.r.kids.length dg] TT)) ∧ X7 o' (W'.alloc (.cells #[.bool X.p, .int .i64 X.l.f, .int .i64 X.l.v, .slice ag X.l.kids.length cg, .int .i64 X.r.f, .int .i64 X.r.v, .slice bg X.r.kids.length dg] TT)) g g1 g2 W'.heap.size X ag cg bg dg := by
  have hb2 : Below W'.heap.size W' (W'.alloc (.cells #[.bool X.p, .int .i64 X.l.f, .int .i64 X.l.v, .slice ag X.l.kids.length cg, .int .i64 X.r.f, .int .i64 X.r.v, .slice bg X.r.kids.length dg] TT)) := (Below.refl _ _).alloc (Nat.le_refl _) _
  have F1 := TP.two pNo o hb (fun k hk => (hX.i1 k hk).1) (fun k hk => (hX.i2 k hk).1) g1 g2
  have T1 := T.two hb hX.i1 hX.i2 g1 g2
  have hk1 : OwnS W' (fun k => upd2 o S1 S2 g1 g2 k = g1) ag X.l.kids := hX.o1.mono fun k hk => upd2_1 hk
  have hk2 : OwnS W' (fun k => upd2 o S1 S2 g1 g2 k = g2) bg X.r.kids := hX.o2.mono fun k hk => upd2_2 hk (fun h => hX.dis k h hk)
  have F2 := TP.grow pNo (upd2 o S1 S2 g1 g2) hb2 g
  exact ⟨_, ⟨F1.st.trans (.of_below hb2 (fun _ hk _ => hk)), fun k hk => (F2.old k (Nat.lt_of_lt_of_le hk hb.size)).trans (F1.old k hk)⟩, T1.grow hb2 g, ⟨upd_new (Nat.le_refl _) (by simp), by simp [go_sem], by simp [go_sem], by simp [go_sem], by simp [go_sem], by simp [go_sem], by simp [go_sem], by simp [go_sem]⟩, hk1.tp T1 F2 h1 id, hk2.tp T1 F2 h2 id⟩
theorem LA3.lit {S1 S2 : Nat → Prop} (h : LA3 w1 X Bw aw cw bw dw ss G t Bx ax cx u By ay cy o W) (hb : Below W.heap.size W W') (hX : OwnX W W' X ag cg bg dg S1 S2) (TT : TypeId) : ∃ o', LA4 w1 X Bw aw cw bw dw ss G t Bx ax cx u By ay cy W'.heap.size ag cg bg dg o' (W'.alloc (.cells #[.bool X.p, .int .i64 X.l.f, .int .i64 X.l.v, .slice ag X.l.kids.length cg, .int .i64 X.r.f, .int .i64 X.r.v, .slice bg X.r.kids.length dg] TT)) := by
  obtain ⟨o', F, T, hx⟩ := X7.new h.q.q.q.tg hb hX 18 19 20 (by decide) (by decide) TT
  exact ⟨o', h.on (hb.trans (Below.mono ((Below.refl _ _).alloc (Nat.le_refl _) _) hb.size)) T F, hx⟩
/-- Marks are written. -/
theorem LA4.m1 (h : LA4 w1 X Bw aw cw bw dw ss G t Bx ax cx u By ay cy Bg ag cg bg dg o W) (hs : Stay (fun k => k ≠ G) W W') : LB2 w1 X Bw aw cw bw dw t Bx ax cx u By ay cy Bg ag cg bg dg o W' := by
  have st : Stay (fun k => ¬ (o k = 13)) W W' := hs.weak fun k _ hk e => hk (by rw [e]; exact h.q.q.q.s.e)
  have T := h.q.q.q.q.tg.write (t := fun g => g = 13) st (by decide)
  have F : TP (fun g => g = 13) o W o W' := ⟨st, fun _ _ => rfl⟩
  exact ⟨h.q.q.q.q.tp T F (by decide), h.q.q.x.tp h.q.q.q.q.tg F (by decide) (by decide) (by decide), h.q.y.tp h.q.q.q.q.tg F (by decide) (by decide) (by decide), h.g.tp h.q.q.q.q.tg F (by decide) (by decide) (by decide) (by decide) (by decide)⟩
theorem LB2.m2 {V : World} (h : LB2 w1 X Bw aw cw bw dw t Bx ax cx u By ay cy Bg ag cg bg dg o W) (hb : Below W.heap.size W V) (ho : Only (fun k => o k = 15) V W') : LB1 w1 X Bw aw cw bw dw u By ay cy Bg ag cg bg dg o W' := by
  have st : Stay (fun k => ¬ (o k = 15)) W W' := only_stay hb ho (fun _ _ hk => hk)
  have T := h.q.tg.write (t := fun g => g = 15) st (by decide)
  have F : TP (fun g => g = 15) o W o W' := ⟨st, fun _ _ => rfl⟩
  exact ⟨h.q.tp T F (by decide), h.y.tp h.q.tg F (by decide) (by decide) (by decide), h.g.tp h.q.tg F (by decide) (by decide) (by decide) (by decide) (by decide)⟩
theorem LB1.m3 {V : World} (h : LB1 w1 X Bw aw cw bw dw u By ay cy Bg ag cg bg dg o W) (hb : Below W.heap.size W V) (ho : Only (fun k => o k = 17) V W') : LB0 w1 X Bw aw cw bw dw Bg ag cg bg dg o W' := by
  have st : Stay (fun k => ¬ (o k = 17)) W W' := only_stay hb ho (fun _ _ hk => hk)
  have T := h.q.tg.write (t := fun g => g = 17) st (by decide)
  have F : TP (fun g => g = 17) o W o W' := ⟨st, fun _ _ => rfl⟩
  exact ⟨h.q.tp T F (by decide), h.g.tp h.q.tg F (by decide) (by decide) (by decide) (by decide) (by decide)⟩
theorem LB0.m4 (h : LB0 w1 X Bw aw cw bw dw Bg ag cg bg dg o W) (hs : Stay (fun k => ¬ o k = 19 ∧ ¬ o k = 20) W W') (hm1 : Mk W' (fun k => o k = 19) ag X.l.kids 1) (hm2 : Mk W' (fun k => o k = 20) bg X.r.kids (1 + 2 * partsL X.l.kids)) : LMk w1 X Bw aw cw bw dw Bg ag cg bg dg o W' := by
  have st : Stay (fun k => ¬ (o k = 19 ∨ o k = 20)) W W' := hs.weak fun k _ hk => ⟨fun e => hk (.inl e), fun e => hk (.inr e)⟩
  have T := h.q.tg.write (t := fun g => g = 19 ∨ g = 20) st (by decide)
  have F : TP (fun g => g = 19 ∨ g = 20) o W o W' := ⟨st, fun _ _ => rfl⟩
  exact ⟨h.q.tp T F (by decide), h.g.b.tp F (by decide), hm1, hm2⟩
end
end Go.Proofs.YtollijngiioonabGreat

/- An equation made of two terms, as the specification makes it. Conditions: at most 549755813888 parts; at most 1048577 functions. -/
namespace Go.Proofs.YtollijngiioonabGreat
set_option maxRecDepth 100000
open Go.RowKit

set_option maxHeartbeats 6400000 in
theorem specLitMake_any (sa : Option Addr) (ss : List SymD) (sc : Nat) (p : Bool) (t u : TermD) (a b : Option Addr) (c d hi : Nat) (w : World) (hsl : ss.length ≤ 1048577) (hs : RdS w sa ss) (hp1 : partsT t ≤ 549755813888) (hp2 : partsT u ≤ 549755813888) (hx1 : RdK w hi a t.kids) (hx2 : RdK w hi b u.kids) (hhi : hi ≤ w.heap.size) (hw1 : isW t.f ∧ isW t.v) (hw2 : isW u.f ∧ isW u.v) :
    Calls Tryz.prog 22 #[.slice sa ss.length sc, .bool p, .agg #[.int .i64 t.f, .int .i64 t.v, .slice a t.kids.length c], .agg #[.int .i64 u.f, .int .i64 u.v, .slice b u.kids.length d]] w fun e w' => ∃ a1 c1 a2 c2 S1 S2, e = .returned (litV (makeX ss p t u) a1 c1 a2 c2) ∧ OwnX w w' (makeX ss p t u) a1 c1 a2 c2 S1 S2 ∧ Below w.heap.size w w' := by
  obtain ⟨W0, hW0⟩ : ∃ W0, W0 = ((w.alloc (.cells #[.int .i64 t.f, .int .i64 t.v, .slice a t.kids.length c] 34)).alloc (.cells #[.int .i64 u.f, .int .i64 u.v, .slice b u.kids.length d] 34)).alloc (.cells #[.bool false, .int .i64 0, .int .i64 0, .slice none 0 0, .int .i64 0, .int .i64 0, .slice none 0 0] 36) := ⟨_, rfl⟩
  have hB0 : Below w.heap.size w W0 := by rw [hW0]; exact (((Below.refl _ _).alloc (Nat.le_refl _) _).alloc (by simp) _).alloc (by simp; omega) _
  have hz0 : W0.heap.size = w.heap.size + 1 + 1 + 1 := by rw [hW0]; simp
  have CT0 : C3 W0 w.heap.size (.int .i64 t.f) (.int .i64 t.v) (.slice a t.kids.length c) := by rw [hW0]; exact ⟨by simp [go_sem], by simp [go_sem], by simp [go_sem]⟩
  have CU0 : C3 W0 (w.heap.size + 1) (.int .i64 u.f) (.int .i64 u.v) (.slice b u.kids.length d) := by rw [hW0]; exact ⟨by simp [go_sem], by simp [go_sem], by simp [go_sem]⟩
  have RC0 : Hid (R7 W0 (w.heap.size + 1 + 1)) := by rw [hW0]; exact ⟨by simp [go_sem], by simp [go_sem], by simp [go_sem], by simp [go_sem], by simp [go_sem], by simp [go_sem], by simp [go_sem], fun j => by simp [go_sem]⟩
  have hnf : Hid (∀ x : TermD, (normT (blindAt ss) x).f = x.f ∧ (normT (blindAt ss) x).v = x.v) := fun x => by rw [normT_eq]; exact ⟨rfl, rfl⟩
  have E1 := fun (W' : World) (h : Below w.heap.size w W') => specNorm_any ss sa sc hsl 549755813888 t a c hi W' hp1 (Nat.le_refl _) (hx1.on (h.mono hhi)) (Nat.le_trans hhi h.size) hw1.1 hw1.2 (hs.below h)
  have E2 := fun (W' : World) (h : Below w.heap.size w W') => specNorm_any ss sa sc hsl 549755813888 u b d hi W' hp2 (Nat.le_refl _) (hx2.on (h.mono hhi)) (Nat.le_trans hhi h.size) hw2.1 hw2.2 (hs.below h)
  go_enter Tryz.func22, Tryz.ntmps22
  go_upto_region 1 with fail
  rw [← hW0]
  refine wp_region_keeps (by kernel_rfl) (rs := [0, 1, 2, 3, 4, 5, 6, 7, 8, 9]) (fun L a' W => ∃ (s9 s10 s11 s12 s13 s14 s15 s16 : Value) (o : Nat → Nat), a' = ({ tmps := #[.slice sa ss.length sc, .bool p, .agg #[.int .i64 t.f, .int .i64 t.v, .slice a t.kids.length c], .agg #[.int .i64 u.f, .int .i64 u.v, .slice b u.kids.length d], undef, undef, .pointer (some ⟨w.heap.size, 0, none⟩), .pointer (some ⟨w.heap.size + 1, 0, none⟩), .pointer (some ⟨w.heap.size + 1 + 1, 0, none⟩), s9, s10, s11, s12, s13, s14, s15, s16, undef, undef, undef, undef, undef, undef, undef, undef, undef, undef, undef], defers := [] } : Act) ∧ (Dn L 0 → s11 = .slice sa ss.length sc) ∧ (Dn L 1 → s12 = .agg #[.int .i64 t.f, .int .i64 t.v, .slice a t.kids.length c]) ∧ (Dn L 3 → s14 = .slice sa ss.length sc) ∧ (Dn L 4 → s15 = .agg #[.int .i64 u.f, .int .i64 u.v, .slice b u.kids.length d]) ∧ CB W0 (normT (blindAt ss) t) (normT (blindAt ss) u) 2 5 6 7 8 9 L o W s13 s16 s9 s10) (by kernel_rfl) (by kernel_rfl) ⟨_, _, _, _, _, _, _, _, fun _ => 0, rfl, fun h => absurd h dn_none, fun h => absurd h dn_none, fun h => absurd h dn_none, fun h => absurd h dn_none, CB.start W0 _ _ _ _ _ _ _ _ _ _ _ _ _⟩ (fun L a' W hd h => ?_) ?_
  · obtain ⟨s9, s10, s11, s12, s13, s14, s15, s16, o, rfl, -, -, -, -, hM⟩ := h
    have hT := hM.tg
    obtain ⟨a1, c1', rfl, ho1, hl1'⟩ := hM.c1 (hd 2 (by decide))
    obtain ⟨a2, c2', rfl, ho2, hl2'⟩ := hM.c2 (hd 5 (by decide))
    obtain ⟨B1, x1, y1, z1, rfl, hv1, hb1, hz1, hC1⟩ := hM.f1 (hd 8 (by decide))
    obtain ⟨B2, x2, y2, z2, rfl, hv2, hb2, hz2, hC2⟩ := hM.f2 (hd 9 (by decide))
    have e1 : x1 = .int .i64 (normT (blindAt ss) t).f ∧ y1 = .int .i64 (normT (blindAt ss) t).v ∧ z1 = .slice a1 (normT (blindAt ss) t).kids.length c1' := by simpa using hv1.symm
    have e2 : x2 = .int .i64 (normT (blindAt ss) u).f ∧ y2 = .int .i64 (normT (blindAt ss) u).v ∧ z2 = .slice a2 (normT (blindAt ss) u).kids.length c2' := by simpa using hv2.symm
    obtain ⟨rfl, rfl, rfl⟩ := e1
    obtain ⟨rfl, rfl, rfl⟩ := e2
    clear hv1 hv2
    have hbW : Below w.heap.size w W := hB0.trans (hT.bel.mono hB0.size)
    have hne : B1 ≠ B2 := fun e => by rw [e] at hb1; omega
    have hlo1 := (hT.own B1 (by omega)).1
    have hlo2 := (hT.own B2 (by omega)).1
    have CB2 := specBefore_any 549755813888 (normT (blindAt ss) t) (normT (blindAt ss) u) a1 a2 c1' c2' W.heap.size W (Nat.le_trans (normT_parts _ t) hp1) (by omega) ho1.rd ho2.rd (Nat.le_refl _)
    have HX : Hid (makeX ss p t u = if befT (normT (blindAt ss) t) (normT (blindAt ss) u) then ⟨p, normT (blindAt ss) u, normT (blindAt ss) t⟩ else ⟨p, normT (blindAt ss) t, normT (blindAt ss) u⟩) := rfl
    have hi1 : ∀ k, o k = 1 → w.heap.size ≤ k ∧ k < W.heap.size := fun k hk => by have := hT.own k (by omega); omega
    have hi2 : ∀ k, o k = 2 → w.heap.size ≤ k ∧ k < W.heap.size := fun k hk => by have := hT.own k (by omega); omega
    have HO : Hid (OwnS W (fun k => o k = 1) a1 (normT (blindAt ss) t).kids ∧ OwnS W (fun k => o k = 2) a2 (normT (blindAt ss) u).kids ∧ o B1 = 3 ∧ o B2 = 4 ∧ (∀ k, o k = 1 → w.heap.size + 1 + 1 + 1 ≤ k ∧ k < W.heap.size) ∧ (∀ k, o k = 2 → w.heap.size + 1 + 1 + 1 ≤ k ∧ k < W.heap.size)) := ⟨ho1, ho2, hb1, hb2, fun k hk => hz0 ▸ hT.own k (by omega), fun k hk => hz0 ▸ hT.own k (by omega)⟩
    have r0 : Hid (R7 W (w.heap.size + 1 + 1)) := RC0.out.stay (.of_below hT.bel (fun k hk _ => by omega)) (by omega : w.heap.size + 1 + 1 < W0.heap.size)
    have hX1 : Hid (o B1 = 3 ∧ o B2 = 4 ∧ (∀ j, W.frozen? ⟨B1, j, none⟩ = false) ∧ (∀ j, W.frozen? ⟨B2, j, none⟩ = false)) := ⟨hb1, hb2, hz1, hz2⟩
    generalize normT (blindAt ss) t = l at *
    generalize normT (blindAt ss) u = r at *
    generalize befT l r = q at *
    clear hM hT hb1 hb2 hz1 hz2 ho1 ho2 E1 E2 RC0
    obtain ⟨m0, m1, m2⟩ := hC1
    obtain ⟨n0, n1, n2⟩ := hC2
    have HC : Hid (C3 W B1 (.int .i64 l.f) (.int .i64 l.v) (.slice a1 l.kids.length c1') ∧ C3 W B2 (.int .i64 r.f) (.int .i64 r.v) (.slice a2 r.kids.length c2')) := ⟨⟨m0, m1, m2⟩, ⟨n0, n1, n2⟩⟩
    have hl1 : B1 < W.heap.size := HC.out.1.lt
    have hl2 : B2 < W.heap.size := HC.out.2.lt
    cases q
    · go_wp2_with (go_at_call 38; refine CB2.mono ?_; rintro e w1 ⟨rfl, hb⟩; have R1 := r0.out.stay (S := fun _ => True) (.of_below hb (fun k hk _ => hk)) trivial; obtain ⟨u0, u1, u2, u3, u4, u5, u6, uf⟩ := R1; have f0 := uf 0; have f1 := uf 1; have f2 := uf 2; have f3 := uf 3; have f4 := uf 4; have f5 := uf 5; have f6 := uf 6; have RW : R7 w1 (w.heap.size + 1 + 1) := ⟨u0, u1, u2, u3, u4, u5, u6, uf⟩; clear uf; have HC1 := HC.out.1.on hb; have HC2 := HC.out.2.on hb; clear m0 m1 m2 n0 n1 n2; obtain ⟨m0, m1, m2⟩ := HC1; obtain ⟨n0, n1, n2⟩ := HC2)
      obtain ⟨g0, g1, g2, g3, g4, g5, g6⟩ := R7.set RW (.bool p) (.int .i64 l.f) (.int .i64 l.v) (.slice a1 l.kids.length c1') (.int .i64 r.f) (.int .i64 r.v) (.slice a2 r.kids.length c2')
      refine bodyPost_ret (v := .agg #[.bool p, .int .i64 l.f, .int .i64 l.v, .slice a1 l.kids.length c1', .int .i64 r.f, .int .i64 r.v, .slice a2 r.kids.length c2']) (by simp [results, Tryz.results22, go_sem, g0, g1, g2, g3, g4, g5, g6]) rfl ?_
      clear g0 g1 g2 g3 g4 g5 g6
      have HXF : makeX ss p t u = ⟨p, l, r⟩ := HX.out.trans rfl
      have hst := set7_stay w1 (w.heap.size + 1 + 1) (.bool p) (.int .i64 l.f) (.int .i64 l.v) (.slice a1 l.kids.length c1') (.int .i64 r.f) (.int .i64 r.v) (.slice a2 r.kids.length c2')
      have hH := HO.out
      have hs0 := hb.size
      have hs1 := hst.size
      have hbw := hbW.size
      refine ⟨a1, c1', a2, c2', fun k => o k = 1, fun k => o k = 2, ?_, ?_, ?_⟩
      · rw [HXF]
        rfl
      · rw [HXF]
        exact ⟨(hH.1.frame (fun k hk => hb.block k (hi1 k hk).2) hb.size).frame (fun k hk => hst.block k (by have := hi1 k hk; omega) (by have := hH.2.2.2.2.1 k hk; omega)) hst.size, (hH.2.1.frame (fun k hk => hb.block k (hi2 k hk).2) hb.size).frame (fun k hk => hst.block k (by have := hi2 k hk; omega) (by have := hH.2.2.2.2.2 k hk; omega)) hst.size, fun k h1 h2 => by omega, fun k hk => by have := hi1 k hk; omega, fun k hk => by have := hi2 k hk; omega, hl1', hl2'⟩
      · exact (hbW.trans (hb.mono hbW.size)).trans (hst.below (by omega) (fun k hk => by omega))
    · go_wp2_with (go_at_call 38; refine CB2.mono ?_; rintro e w1 ⟨rfl, hb⟩; have R1 := r0.out.stay (S := fun _ => True) (.of_below hb (fun k hk _ => hk)) trivial; obtain ⟨u0, u1, u2, u3, u4, u5, u6, uf⟩ := R1; have f0 := uf 0; have f1 := uf 1; have f2 := uf 2; have f3 := uf 3; have f4 := uf 4; have f5 := uf 5; have f6 := uf 6; have RW : R7 w1 (w.heap.size + 1 + 1) := ⟨u0, u1, u2, u3, u4, u5, u6, uf⟩; clear uf; have z0 := (hb.frozen (p := ⟨B1, 0, none⟩) hl1).trans (hX1.out.2.2.1 0); have z1 := (hb.frozen (p := ⟨B1, 1, none⟩) hl1).trans (hX1.out.2.2.1 1); have z2 := (hb.frozen (p := ⟨B1, 2, none⟩) hl1).trans (hX1.out.2.2.1 2); have z3 := (hb.frozen (p := ⟨B2, 0, none⟩) hl2).trans (hX1.out.2.2.2 0); have z4 := (hb.frozen (p := ⟨B2, 1, none⟩) hl2).trans (hX1.out.2.2.2 1); have z5 := (hb.frozen (p := ⟨B2, 2, none⟩) hl2).trans (hX1.out.2.2.2 2); have HC1 := HC.out.1.on hb; have HC2 := HC.out.2.on hb; clear m0 m1 m2 n0 n1 n2; obtain ⟨m0, m1, m2⟩ := HC1; obtain ⟨n0, n1, n2⟩ := HC2)
      obtain ⟨hob1, hob2, -, -⟩ := hX1.out
      obtain ⟨g0, g1, g2, g3, g4, g5, g6⟩ := R7.set RW (.bool p) (.int .i64 r.f) (.int .i64 r.v) (.slice a2 r.kids.length c2') (.int .i64 l.f) (.int .i64 l.v) (.slice a1 l.kids.length c1')
      refine bodyPost_ret (v := .agg #[.bool p, .int .i64 r.f, .int .i64 r.v, .slice a2 r.kids.length c2', .int .i64 l.f, .int .i64 l.v, .slice a1 l.kids.length c1']) (by simp [results, Tryz.results22, go_sem, g0, g1, g2, g3, g4, g5, g6]) rfl ?_
      clear g0 g1 g2 g3 g4 g5 g6
      have HXF : makeX ss p t u = ⟨p, r, l⟩ := HX.out.trans rfl
      have hst := set7_stay w1 (w.heap.size + 1 + 1) (.bool p) (.int .i64 r.f) (.int .i64 r.v) (.slice a2 r.kids.length c2') (.int .i64 l.f) (.int .i64 l.v) (.slice a1 l.kids.length c1')
      have hH := HO.out
      have hs0 := hb.size
      have hs1 := hst.size
      have hbw := hbW.size
      refine ⟨a2, c2', a1, c1', fun k => o k = 2, fun k => o k = 1, ?_, ?_, ?_⟩
      · rw [HXF]
        rfl
      · rw [HXF]
        have k1 : ∀ k, o k = 1 → k ≠ B1 ∧ k ≠ B2 ∧ k ≠ w.heap.size + 1 + 1 := fun k hk => ⟨fun e => by rw [e] at hk; omega, fun e => by rw [e] at hk; omega, by have := hH.2.2.2.2.1 k hk; omega⟩
        have k2 : ∀ k, o k = 2 → k ≠ B1 ∧ k ≠ B2 ∧ k ≠ w.heap.size + 1 + 1 := fun k hk => ⟨fun e => by rw [e] at hk; omega, fun e => by rw [e] at hk; omega, by have := hH.2.2.2.2.2 k hk; omega⟩
        exact ⟨(hH.2.1.frame (fun k hk => hb.block k (hi2 k hk).2) hb.size).frame (fun k hk => hst.block k (by have := hi2 k hk; omega) (k2 k hk).2.2) hst.size, (hH.1.frame (fun k hk => hb.block k (hi1 k hk).2) hb.size).frame (fun k hk => hst.block k (by have := hi1 k hk; omega) (k1 k hk).2.2) hst.size, fun k h1 h2 => by omega, fun k hk => by have := hi2 k hk; omega, fun k hk => by have := hi1 k hk; omega, hl2', hl1'⟩
      · exact (hbW.trans (hb.mono hbW.size)).trans (hst.below (by omega) (fun k hk => by omega))

  refine KeepAll.cons (ds := []) rfl (by kernel_rfl) (fun L a' W K hK hL hcl hn hd hI => ?_) ?_
  · obtain ⟨s9, s10, s11, s12, s13, s14, s15, s16, o, rfl, h0, h1, h3, h4, hM⟩ := hI
    go_simp
    refine hK _ _ ⟨_, _, _, _, _, _, _, _, o, rfl, fun _ => rfl, (by first | exact fun _ => rfl | exact fun q => h1 (((dn_set hL).1 q).resolve_left (by decide))), (by first | exact fun _ => rfl | exact fun q => h3 (((dn_set hL).1 q).resolve_left (by decide))), (by first | exact fun _ => rfl | exact fun q => h4 (((dn_set hL).1 q).resolve_left (by decide))), hM.pure hL ⟨by decide, by decide, by decide, by decide, by decide, by decide⟩⟩
  refine KeepAll.cons (ds := []) rfl (by kernel_rfl) (fun L a' W K hK hL hcl hn hd hI => ?_) ?_
  · obtain ⟨s9, s10, s11, s12, s13, s14, s15, s16, o, rfl, h0, h1, h3, h4, hM⟩ := hI
    obtain ⟨k0, k1, k2⟩ := CT0.on hM.tg.bel
    go_simp
    refine hK _ _ ⟨_, _, _, _, _, _, _, _, o, rfl, (by first | exact fun _ => rfl | exact fun q => h0 (((dn_set hL).1 q).resolve_left (by decide))), fun _ => rfl, (by first | exact fun _ => rfl | exact fun q => h3 (((dn_set hL).1 q).resolve_left (by decide))), (by first | exact fun _ => rfl | exact fun q => h4 (((dn_set hL).1 q).resolve_left (by decide))), hM.pure hL ⟨by decide, by decide, by decide, by decide, by decide, by decide⟩⟩
  refine KeepAll.cons (ds := [0, 1]) rfl (by kernel_rfl) (fun L a' W K hK hL hcl hn hd hI => ?_) ?_
  · obtain ⟨s9, s10, s11, s12, s13, s14, s15, s16, o, rfl, h0, h1, h3, h4, hM⟩ := hI
    obtain rfl := h0 (hd _ (by simp))
    obtain rfl := h1 (hd _ (by simp))
    go_simp
    refine (E1 W (hB0.trans (hM.tg.bel.mono hB0.size))).mono ?_
    rintro e W' ⟨a1, c1', rfl, ho, hcc, hb⟩
    obtain ⟨o2, hM2⟩ := hM.call1 hL ⟨by decide, by decide, by decide, by decide, by decide⟩ (fun q => hn (hcl 8 _ rfl q 2 (by decide))) hb ho.s hcc
    rw [(hnf.out t).1, (hnf.out t).2] at hM2
    exact hK _ _ ⟨_, _, _, _, _, _, _, _, o2, rfl, (by first | exact fun _ => rfl | exact fun q => h0 (((dn_set hL).1 q).resolve_left (by decide))), (by first | exact fun _ => rfl | exact fun q => h1 (((dn_set hL).1 q).resolve_left (by decide))), (by first | exact fun _ => rfl | exact fun q => h3 (((dn_set hL).1 q).resolve_left (by decide))), (by first | exact fun _ => rfl | exact fun q => h4 (((dn_set hL).1 q).resolve_left (by decide))), hM2⟩
  refine KeepAll.cons (ds := []) rfl (by kernel_rfl) (fun L a' W K hK hL hcl hn hd hI => ?_) ?_
  · obtain ⟨s9, s10, s11, s12, s13, s14, s15, s16, o, rfl, h0, h1, h3, h4, hM⟩ := hI
    go_simp
    refine hK _ _ ⟨_, _, _, _, _, _, _, _, o, rfl, (by first | exact fun _ => rfl | exact fun q => h0 (((dn_set hL).1 q).resolve_left (by decide))), (by first | exact fun _ => rfl | exact fun q => h1 (((dn_set hL).1 q).resolve_left (by decide))), fun _ => rfl, (by first | exact fun _ => rfl | exact fun q => h4 (((dn_set hL).1 q).resolve_left (by decide))), hM.pure hL ⟨by decide, by decide, by decide, by decide, by decide, by decide⟩⟩
  refine KeepAll.cons (ds := []) rfl (by kernel_rfl) (fun L a' W K hK hL hcl hn hd hI => ?_) ?_
  · obtain ⟨s9, s10, s11, s12, s13, s14, s15, s16, o, rfl, h0, h1, h3, h4, hM⟩ := hI
    obtain ⟨k0, k1, k2⟩ := CU0.on hM.tg.bel
    go_simp
    refine hK _ _ ⟨_, _, _, _, _, _, _, _, o, rfl, (by first | exact fun _ => rfl | exact fun q => h0 (((dn_set hL).1 q).resolve_left (by decide))), (by first | exact fun _ => rfl | exact fun q => h1 (((dn_set hL).1 q).resolve_left (by decide))), (by first | exact fun _ => rfl | exact fun q => h3 (((dn_set hL).1 q).resolve_left (by decide))), fun _ => rfl, hM.pure hL ⟨by decide, by decide, by decide, by decide, by decide, by decide⟩⟩
  refine KeepAll.cons (ds := [3, 4, 2]) rfl (by kernel_rfl) (fun L a' W K hK hL hcl hn hd hI => ?_) ?_
  · obtain ⟨s9, s10, s11, s12, s13, s14, s15, s16, o, rfl, h0, h1, h3, h4, hM⟩ := hI
    obtain rfl := h3 (hd _ (by simp))
    obtain rfl := h4 (hd _ (by simp))
    go_simp
    refine (E2 W (hB0.trans (hM.tg.bel.mono hB0.size))).mono ?_
    rintro e W' ⟨a1, c1', rfl, ho, hcc, hb⟩
    obtain ⟨o2, hM2⟩ := hM.call2 hL ⟨by decide, by decide, by decide, by decide, by decide⟩ (fun q => hn (hcl 9 _ rfl q 5 (by decide))) hb ho.s hcc
    rw [(hnf.out u).1, (hnf.out u).2] at hM2
    exact hK _ _ ⟨_, _, _, _, _, _, _, _, o2, rfl, (by first | exact fun _ => rfl | exact fun q => h0 (((dn_set hL).1 q).resolve_left (by decide))), (by first | exact fun _ => rfl | exact fun q => h1 (((dn_set hL).1 q).resolve_left (by decide))), (by first | exact fun _ => rfl | exact fun q => h3 (((dn_set hL).1 q).resolve_left (by decide))), (by first | exact fun _ => rfl | exact fun q => h4 (((dn_set hL).1 q).resolve_left (by decide))), hM2⟩
  refine KeepAll.cons (ds := []) rfl (by kernel_rfl) (fun L a' W K hK hL hcl hn hd hI => ?_) ?_
  · obtain ⟨s9, s10, s11, s12, s13, s14, s15, s16, o, rfl, h0, h1, h3, h4, hM⟩ := hI
    go_simp
    obtain ⟨o2, hM2⟩ := hM.box1 hL ⟨by decide, by decide, by decide, by decide, by decide⟩ (fun q => hn (hcl 8 _ rfl q 6 (by decide))) 34
    exact hK _ _ ⟨_, _, _, _, _, _, _, _, o2, rfl, (by first | exact fun _ => rfl | exact fun q => h0 (((dn_set hL).1 q).resolve_left (by decide))), (by first | exact fun _ => rfl | exact fun q => h1 (((dn_set hL).1 q).resolve_left (by decide))), (by first | exact fun _ => rfl | exact fun q => h3 (((dn_set hL).1 q).resolve_left (by decide))), (by first | exact fun _ => rfl | exact fun q => h4 (((dn_set hL).1 q).resolve_left (by decide))), hM2⟩
  refine KeepAll.cons (ds := []) rfl (by kernel_rfl) (fun L a' W K hK hL hcl hn hd hI => ?_) ?_
  · obtain ⟨s9, s10, s11, s12, s13, s14, s15, s16, o, rfl, h0, h1, h3, h4, hM⟩ := hI
    go_simp
    obtain ⟨o2, hM2⟩ := hM.box2 hL ⟨by decide, by decide, by decide, by decide, by decide⟩ (fun q => hn (hcl 9 _ rfl q 7 (by decide))) 34
    exact hK _ _ ⟨_, _, _, _, _, _, _, _, o2, rfl, (by first | exact fun _ => rfl | exact fun q => h0 (((dn_set hL).1 q).resolve_left (by decide))), (by first | exact fun _ => rfl | exact fun q => h1 (((dn_set hL).1 q).resolve_left (by decide))), (by first | exact fun _ => rfl | exact fun q => h3 (((dn_set hL).1 q).resolve_left (by decide))), (by first | exact fun _ => rfl | exact fun q => h4 (((dn_set hL).1 q).resolve_left (by decide))), hM2⟩
  refine KeepAll.cons (ds := [6, 2, 5, 0, 1, 2, 6, 7]) rfl (by kernel_rfl) (fun L a' W K hK hL hcl hn hd hI => ?_) ?_
  · obtain ⟨s9, s10, s11, s12, s13, s14, s15, s16, o, rfl, h0, h1, h3, h4, hM⟩ := hI
    obtain ⟨a1, c1', rfl, hoo⟩ := hM.c1 (hd 2 (by simp))
    obtain ⟨B, x, y, z, rfl, hv, hob, hz, hC⟩ := hM.z1 (hd 6 (by simp)) hn
    obtain ⟨q0, q1, q2⟩ := hC
    have g0 := hz 0
    have g1 := hz 1
    have g2 := hz 2
    clear hv
    go_simp
    exact hK _ _ ⟨_, _, _, _, _, _, _, _, o, rfl, (by first | exact fun _ => rfl | exact fun q => h0 (((dn_set hL).1 q).resolve_left (by decide))), (by first | exact fun _ => rfl | exact fun q => h1 (((dn_set hL).1 q).resolve_left (by decide))), (by first | exact fun _ => rfl | exact fun q => h3 (((dn_set hL).1 q).resolve_left (by decide))), (by first | exact fun _ => rfl | exact fun q => h4 (((dn_set hL).1 q).resolve_left (by decide))), hM.put1 hL ⟨by decide, by decide, by decide, by decide, by decide⟩ hob hz ⟨q0, q1, q2⟩⟩
  refine KeepAll.cons (ds := [7, 5, 8, 0, 1, 2, 3, 4, 5, 6, 7, 8]) rfl (by kernel_rfl) (fun L a' W K hK hL hcl hn hd hI => ?_) ?_
  · obtain ⟨s9, s10, s11, s12, s13, s14, s15, s16, o, rfl, h0, h1, h3, h4, hM⟩ := hI
    obtain ⟨a1, c1', rfl, hoo⟩ := hM.c2 (hd 5 (by simp))
    obtain ⟨B, x, y, z, rfl, hv, hob, hz, hC⟩ := hM.z2 (hd 7 (by simp)) hn
    obtain ⟨q0, q1, q2⟩ := hC
    have g0 := hz 0
    have g1 := hz 1
    have g2 := hz 2
    clear hv
    go_simp
    exact hK _ _ ⟨_, _, _, _, _, _, _, _, o, rfl, (by first | exact fun _ => rfl | exact fun q => h0 (((dn_set hL).1 q).resolve_left (by decide))), (by first | exact fun _ => rfl | exact fun q => h1 (((dn_set hL).1 q).resolve_left (by decide))), (by first | exact fun _ => rfl | exact fun q => h3 (((dn_set hL).1 q).resolve_left (by decide))), (by first | exact fun _ => rfl | exact fun q => h4 (((dn_set hL).1 q).resolve_left (by decide))), hM.put2 hL ⟨by decide, by decide, by decide, by decide, by decide⟩ hob hz ⟨q0, q1, q2⟩⟩
  exact KeepAll.nil
end Go.Proofs.YtollijngiioonabGreat

/- What is put for variables, as data: a list of numbers and terms, how it lies in memory, how it came in as an argument. Conditions: none. -/
namespace Go.Proofs.YtollijngiioonabGreat
set_option maxRecDepth 100000
open Go.RowKit

structure BindD where
  n : Int
  t : TermD
instance : Inhabited BindD := ⟨⟨0, .mk 0 0 []⟩⟩

/-- The slice of Binds that begins at 'a' reads in w as us; all below hi. -/
inductive RdU (w : World) (hi : Nat) : Option Addr → List BindD → Prop
  | nil (a : Option Addr) : RdU w hi a []
  | row (b off : Nat) (us : List BindD) (A : Nat → Option Addr) (C : Nat → Nat) (hlt : b < hi) (hl : us.length ≤ 9223372036854775807 ∧ ∀ i, (h : i < us.length) → us[i].t.kids.length ≤ C i) (hz : ∀ i, (h : i < us.length) → isW us[i].n ∧ isW us[i].t.f ∧ isW us[i].t.v)
      (hc : ∀ i, (h : i < us.length) → w.cell? ⟨b, off + i * 4, none⟩ = some (.int .i64 us[i].n) ∧ w.cell? ⟨b, off + i * 4 + 1, none⟩ = some (.int .i64 us[i].t.f) ∧ w.cell? ⟨b, off + i * 4 + 2, none⟩ = some (.int .i64 us[i].t.v) ∧ w.cell? ⟨b, off + i * 4 + 3, none⟩ = some (.slice (A i) us[i].t.kids.length (C i)))
      (hk : ∀ i, (h : i < us.length) → RdK w hi (A i) us[i].t.kids) : RdU w hi (some ⟨b, off, none⟩) us
theorem RdU.on {w w' : World} {hi : Nat} {a : Option Addr} {us : List BindD} (h : RdU w hi a us) (hb : Below hi w w') : RdU w' hi a us := by
  cases h with
  | nil a => exact .nil a
  | row b off us A C hlt hl hz hc hk =>
    exact .row b off us A C hlt hl hz (fun i hi' => ⟨(hb.cell (p := ⟨b, _, none⟩) hlt).trans (hc i hi').1, (hb.cell (p := ⟨b, _, none⟩) hlt).trans (hc i hi').2.1, (hb.cell (p := ⟨b, _, none⟩) hlt).trans (hc i hi').2.2.1, (hb.cell (p := ⟨b, _, none⟩) hlt).trans (hc i hi').2.2.2⟩) (fun i hi' => (hk i hi').on hb)
theorem RdU.mono {w : World} {hi hi' : Nat} {a : Option Addr} {us : List BindD} (h : RdU w hi a us) (hh : hi ≤ hi') : RdU w hi' a us := by
  cases h with
  | nil a => exact .nil a
  | row b off us A C hlt hl hz hc hk => exact .row b off us A C (Nat.lt_of_lt_of_le hlt hh) hl hz hc (fun i hi' => (hk i hi').mono hh)
theorem RdU.get {w : World} {hi : Nat} {a : Option Addr} {us : List BindD} (h : RdU w hi a us) {i : Nat} (hi' : i < us.length) :
    ∃ b off a' c', a = some ⟨b, off, none⟩ ∧ b < hi ∧ w.cell? ⟨b, off + i * 4, none⟩ = some (.int .i64 us[i].n) ∧ w.cell? ⟨b, off + i * 4 + 1, none⟩ = some (.int .i64 us[i].t.f) ∧ w.cell? ⟨b, off + i * 4 + 2, none⟩ = some (.int .i64 us[i].t.v) ∧ w.cell? ⟨b, off + i * 4 + 3, none⟩ = some (.slice a' us[i].t.kids.length c') ∧ us[i].t.kids.length ≤ c' ∧ RdK w hi a' us[i].t.kids ∧ (isW us[i].n ∧ isW us[i].t.f ∧ isW us[i].t.v) := by
  cases h with
  | nil a => simp at hi'
  | row b off us A C hlt hl hz hc hk => exact ⟨b, off, A i, C i, rfl, hlt, (hc i hi').1, (hc i hi').2.1, (hc i hi').2.2.1, (hc i hi').2.2.2, hl.2 i hi', hk i hi', hz i hi'⟩

/-- It owns its memory: its blocks are among S, and no two of its parts share one. -/
inductive OwnU (w : World) : (Nat → Prop) → Option Addr → List BindD → Prop
  | nil (S : Nat → Prop) (a : Option Addr) : OwnU w S a []
  | row (S : Nat → Prop) (b off : Nat) (us : List BindD) (A : Nat → Option Addr) (C : Nat → Nat) (K : Nat → Nat → Prop) (hb : S b) (hlt : b < w.heap.size) (hl : us.length ≤ 9223372036854775807 ∧ ∀ i, (h : i < us.length) → us[i].t.kids.length ≤ C i) (hz : ∀ i, (h : i < us.length) → isW us[i].n ∧ isW us[i].t.f ∧ isW us[i].t.v)
      (hc : ∀ i, (h : i < us.length) → w.cell? ⟨b, off + i * 4, none⟩ = some (.int .i64 us[i].n) ∧ w.cell? ⟨b, off + i * 4 + 1, none⟩ = some (.int .i64 us[i].t.f) ∧ w.cell? ⟨b, off + i * 4 + 2, none⟩ = some (.int .i64 us[i].t.v) ∧ w.cell? ⟨b, off + i * 4 + 3, none⟩ = some (.slice (A i) us[i].t.kids.length (C i)))
      (hf : ∀ j, w.frozen? ⟨b, j, none⟩ = false)
      (hsub : ∀ i x, i < us.length → K i x → S x ∧ x ≠ b) (hdis : ∀ i j x, i < us.length → j < us.length → i ≠ j → K i x → ¬ K j x)
      (hk : ∀ i, (h : i < us.length) → OwnS w (K i) (A i) us[i].t.kids) : OwnU w S (some ⟨b, off, none⟩) us
theorem OwnU.frame {w w' : World} {S : Nat → Prop} {a : Option Addr} {us : List BindD} (h : OwnU w S a us) (hs : ∀ x, S x → w'.heap[x]? = w.heap[x]?) (hz : w.heap.size ≤ w'.heap.size) : OwnU w' S a us := by
  cases h with
  | nil a => exact .nil _ a
  | row b off us A C K hb hlt hl hz' hc hf hsub hdis hk =>
    have e := hs b hb
    exact .row _ b off us A C K hb (Nat.lt_of_lt_of_le hlt hz) hl hz' (fun i h => ⟨(World.cell?_of_block (a := ⟨b, _, none⟩) e).trans (hc i h).1, (World.cell?_of_block (a := ⟨b, _, none⟩) e).trans (hc i h).2.1, (World.cell?_of_block (a := ⟨b, _, none⟩) e).trans (hc i h).2.2.1, (World.cell?_of_block (a := ⟨b, _, none⟩) e).trans (hc i h).2.2.2⟩) (fun j => (World.frozen?_of_block (a := ⟨b, j, none⟩) e).trans (hf j)) hsub hdis (fun i h => (hk i h).frame (fun x hx => hs x (hsub i x h hx).1) hz)
theorem OwnU.rd {w : World} {S : Nat → Prop} {a : Option Addr} {us : List BindD} (h : OwnU w S a us) : RdU w w.heap.size a us := by
  cases h with
  | nil a => exact .nil a
  | row b off us A C K hb hlt hl hz hc hf hsub hdis hk => exact .row b off us A C hlt hl hz hc (fun i h => (hk i h).rd)

/-- How much it holds. -/
def partsU (us : List BindD) : Nat := us.length + (us.map (fun u => partsL u.t.kids)).sum
theorem sum_nextU {us : List BindD} {k : Nat} (h : k < us.length) : ((us.take (k + 1)).map (fun u => partsL u.t.kids)).sum = ((us.take k).map (fun u => partsL u.t.kids)).sum + partsL us[k].t.kids := by
  rw [List.take_succ_eq_append_getElem h, List.map_append, List.sum_append]; simp only [List.map_cons, List.map_nil, List.sum_cons, List.sum_nil, Nat.add_zero]
theorem sum_takeU (us : List BindD) (k : Nat) : ((us.take k).map (fun u => partsL u.t.kids)).sum ≤ (us.map (fun u => partsL u.t.kids)).sum := by
  conv => rhs; rw [← List.take_append_drop k us, List.map_append, List.sum_append]
  omega
theorem partsU_get {us : List BindD} {k : Nat} (h : k < us.length) : partsL us[k].t.kids + 1 ≤ partsU us := by
  have h1 := sum_nextU h
  have h2 := sum_takeU us (k + 1)
  unfold partsU
  omega
def szU (us : List BindD) (m : Int) : Int := if (partsU us : Int) ≤ m then m - partsU us else -1

/-- An argument, opened. -/
theorem cellsB : Tryz.prog.cellsOf 55 = 4 := by kernel_rfl
theorem bind_trod {H : Type} {enc : TypeId × Value → H} {W : World} {base : Nat} {spare : Nat → Bool} {held : Bool} {fuel : Nat} {cs : List Value} {x : DataW H × List MemPlace}
    (h : DataW.trod enc Tryz.prog W base spare held fuel 55 cs = some x) :
    ∃ (u : BindD) (a : Option Addr) (c : Nat), cs = [.int .i64 u.n, .int .i64 u.t.f, .int .i64 u.t.v, .slice a u.t.kids.length c] ∧ (isW u.n ∧ isW u.t.f ∧ isW u.t.v) ∧ u.t.kids.length ≤ c ∧ RdK W W.heap.size a u.t.kids := by
  obtain ⟨xs, m, rfl, rfl, hlen, hxl, hf⟩ := DataW.trod_struct Tryz.underlying55 h
  rw [cellsB] at hlen
  match cs, hlen with
  | [c0, c1, c2, c3], _ =>
    match xs, hxl with
    | [y0, y1], _ =>
      have h0 : DataW.trod enc Tryz.prog W base spare held m 3 [c0] = some y0 := by have := hf 0 _ rfl; simpa [cellsI] using this
      have h1 : DataW.trod enc Tryz.prog W base spare held m 26 [c1, c2, c3] = some y1 := by have := hf 1 _ rfl; simpa [cellsT] using this
      obtain ⟨z0, e0, _, w0⟩ := DataW.trod_int Tryz.underlying3 h0
      obtain ⟨t, a, c, e1, q1, q2, q3, q4⟩ := term_trod h1 (fun m _ cs x hx => kids_trod m cs x hx)
      simp at e0 e1
      obtain ⟨e1, e2, e3⟩ := e1
      subst e0 e1 e2 e3
      exact ⟨⟨z0, t⟩, a, c, rfl, ⟨isW_of w0, q1, q2⟩, q3.2, q4⟩
theorem open_binds {H : Type} {enc : TypeId × Value → H} {W : World} {base : Nat} {spare : Nat → Bool} {held : Bool} {v : Value} {d : DataW H} {p : List MemPlace} {a : Option Addr} {len cap : Nat} (hv : v = .slice a len cap)
    (h : DataW.Trod enc Tryz.prog W base spare held 23 v d p) : ∃ us : List BindD, len = us.length ∧ (len ≤ maxLen ∧ len ≤ cap) ∧ RdU W W.heap.size a us := by
  subst hv
  obtain ⟨fuel, hf⟩ := h
  rcases DataW.trod_slice Tryz.underlying23 hf with ⟨e, _⟩ | ⟨x0, l, c, elems, rest, n, rfl, e, _, hb, hl, hm, hlen, hel, _, _⟩
  · simp [Value.cells] at e
    obtain ⟨rfl, rfl, rfl⟩ := e
    exact ⟨[], rfl, ⟨Nat.zero_le _, Nat.zero_le _⟩, .nil _⟩
  · simp [Value.cells] at e
    obtain ⟨rfl, rfl, rfl⟩ := e
    rw [cellsB] at hel
    have hall : ∀ i, i < len → ∃ y : BindD × Option Addr × Nat, W.cells? base (x0.add (i * 4)) 4 = some [.int .i64 y.1.n, .int .i64 y.1.t.f, .int .i64 y.1.t.v, .slice y.2.1 y.1.t.kids.length y.2.2] ∧ (isW y.1.n ∧ isW y.1.t.f ∧ isW y.1.t.v) ∧ RdK W W.heap.size y.2.1 y.1.t.kids ∧ y.1.t.kids.length ≤ y.2.2 := by
      intro i hi
      have h1 := hel i hi
      rw [List.getElem?_eq_getElem (by omega)] at h1
      obtain ⟨cs', g1, g2⟩ := Option.bind_eq_some_iff.1 h1
      obtain ⟨u, a, c, rfl, q1, q2, q3⟩ := bind_trod g2
      exact ⟨⟨u, a, c⟩, g1, q1, q3, q2⟩
    obtain ⟨F, hF⟩ := Deep.choose_lt hall
    refine ⟨(List.range len).map (fun i => (F i).1), by simp, ⟨by omega, by omega⟩, ?_⟩
    by_cases h0 : len = 0
    · subst h0; exact .nil _
    · have hcell : ∀ i, (hi : i < len) → ∀ j, j < 4 → W.cell? ((x0.add (i * 4)).add j) = [Value.int .i64 (F i).1.n, .int .i64 (F i).1.t.f, .int .i64 (F i).1.t.v, .slice (F i).2.1 (F i).1.t.kids.length (F i).2.2][j]? := fun i hi j hj => (World.cells?_some (hF i hi).1).2.2 j hj
      obtain ⟨b, off, spot⟩ := x0
      have hc0 := hcell 0 (by omega) 0 (by omega)
      have h1 : W.cell? (⟨b, off, spot⟩ : Addr) = some (.int .i64 (F 0).1.n) := by simpa [Addr.add] using hc0
      have hspot : spot = none := by simpa using World.cell?_spot h1
      subst hspot
      have hadd : ∀ i j, ((⟨b, off, none⟩ : Addr).add i).add j = ⟨b, off + i + j, none⟩ := by
        intro i j
        by_cases h1 : i = 0 <;> by_cases h2 : j = 0 <;> simp [Addr.add, h1, h2, Nat.add_assoc]
      have hbl : b < W.heap.size := World.block_lt_of_cell? _ _ h1
      refine .row b off _ (fun i => (F i).2.1) (fun i => (F i).2.2) hbl ⟨by simp; unfold maxLen at hm; omega, fun i hi => by simp at hi; simp only [List.getElem_map, List.getElem_range]; exact (hF i hi).2.2.2⟩ (fun i hi => ?_) (fun i hi => ?_) (fun i hi => ?_)
      · simp at hi
        simp only [List.getElem_map, List.getElem_range]
        exact (hF i hi).2.1
      · simp at hi
        simp only [List.getElem_map, List.getElem_range]
        have g0 := hcell i hi 0 (by omega)
        have g1 := hcell i hi 1 (by omega)
        have g2 := hcell i hi 2 (by omega)
        have g3 := hcell i hi 3 (by omega)
        rw [hadd] at g0 g1 g2 g3
        exact ⟨by simpa using g0, by simpa using g1, by simpa using g2, by simpa using g3⟩
      · simp at hi
        simp only [List.getElem_map, List.getElem_range]
        exact (hF i hi).2.2.1
end Go.Proofs.YtollijngiioonabGreat

/- The one result of a function, where it lies in a cell. Conditions: none. -/
namespace Go.Proofs.YtollijngiioonabGreat
set_option maxRecDepth 100000
open Go.RowKit

theorem results_cell1 {fn : Func} {p : Tmp} {ty : TypeId} (h : fn.results = #[.cell p ty]) (tmps : Array Value) (P : Program) (w : World) :
    (results fn tmps).run P w = ((asAddr (tmps.getD p undef)).run P w).andThen fun a w₁ => (loadVar ty a).run P w₁ := by
  simp only [results, h]
  simp [Sem.run_bind, Result.andThen]
theorem load_bool {w : World} {p : Addr} {b : Bool} (h : w.cell? p = some (.bool b)) : (loadVar 4 p).run Tryz.prog w = .ok (.bool b) w := by
  simp [loadVar, go_sem, h]
theorem results_bool {fn : Func} {p : Tmp} (h : fn.results = #[.cell p 4]) {tmps : Array Value} {w : World} {a : Addr} (ha : tmps.getD p undef = .pointer (some a)) {b : Bool} (hc : w.cell? a = some (.bool b)) :
    (results fn tmps).run Tryz.prog w = .ok (.bool b) w := by
  rw [results_cell1 h, ha]
  simp [go_sem, hc, Result.andThen]
end Go.Proofs.YtollijngiioonabGreat

/- The program's copy of a term: one form where no function is blind is the term itself. Conditions: terms of at most 549755813888 parts. -/
namespace Go.Proofs.YtollijngiioonabGreat
set_option maxRecDepth 100000
open Go.RowKit

mutual
theorem normT_id (bl : Int → Bool) (h : ∀ f, bl f = false) : ∀ t, normT bl t = t
  | .mk f v ks => by rw [normT, normL_id bl h f ks []]; simp
theorem normL_id (bl : Int → Bool) (h : ∀ f, bl f = false) (f : Int) : ∀ ks out, normL bl f ks out = out ++ ks
  | [], out => by simp [normL]
  | k :: ks, out => by rw [normL, normT_id bl h k, stepN, h f, if_pos rfl, normL_id bl h f ks]; simp
end
theorem blindAt_none : ∀ f, blindAt [] f = false := by intro f; unfold blindAt; split <;> simp

theorem copyTerm_any (t : TermD) (a : Option Addr) (c hi : Nat) (w : World) (hp : partsT t ≤ 549755813888) (hr : RdK w hi a t.kids) (hhi : hi ≤ w.heap.size) (hc : t.kids.length ≤ c) (hwf : isW t.f ∧ isW t.v) :
    Calls Tryz.prog 55 #[.agg #[.int .i64 t.f, .int .i64 t.v, .slice a t.kids.length c]] w fun e w' => ∃ a' c', e = .returned (.agg #[.int .i64 t.f, .int .i64 t.v, .slice a' t.kids.length c']) ∧ OwnS w' (fun k => w.heap.size ≤ k ∧ k < w'.heap.size) a' t.kids ∧ t.kids.length ≤ c' ∧ Below w.heap.size w w' := by
  obtain ⟨W, hW⟩ : ∃ W, W = (w.alloc (.cells #[.int .i64 t.f, .int .i64 t.v, .slice a t.kids.length c] 34)).alloc (.cells #[.int .i64 0, .int .i64 0, .slice none 0 0] 34) := ⟨_, rfl⟩
  have hb0 : Below w.heap.size w W := by rw [hW]; exact ((Below.refl _ _).alloc (Nat.le_refl _) _).alloc (by simp) _
  have hz0 : W.heap.size = w.heap.size + 1 + 1 := by rw [hW]; simp
  have nb0 : NB w W := ⟨hb0, by rw [hW]; simp [go_sem], by rw [hW]; simp [go_sem], by rw [hW]; simp [go_sem], fun j => by rw [hW]; simp [go_sem], by omega⟩
  have C := impNorm_any none [] 0 t a c hi W (by simp [RdS]) hp (hr.on (hb0.mono hhi)) (Nat.le_trans hhi hb0.size) hc hwf
  rw [normT_id _ blindAt_none t] at C
  simp only [List.length_nil] at C
  clear hp hr hhi hc
  go_enter Tryz.func55, Tryz.ntmps55
  go_wp2_with (go_at_call 41; rw [← hW]; refine C.mono ?_; rintro e w4 ⟨a', c', rfl, ho4, hc4, hb4⟩; have nb4 := nb0.on hb4; have d0 := nb4.c0; have d1 := nb4.c1; have d2 := nb4.c2; have df := nb4.cf; have hz4 : w.heap.size + 1 < w4.heap.size := nb4.z; clear C hW)
  obtain ⟨z0, z1, z2⟩ := set3_cells (u := w4) (r := w.heap.size + 1) (x := .int .i64 t.f) (y := .int .i64 t.v) (z := .slice a' t.kids.length c') d0 d1 d2
  have hnS : ∀ j, ¬ (W.heap.size ≤ (⟨w.heap.size + 1, j, none⟩ : Addr).block ∧ (⟨w.heap.size + 1, j, none⟩ : Addr).block < w4.heap.size) := fun j q => by have := q.1; simp only at this; omega
  have hoF := ((ho4.setCell ⟨w.heap.size + 1, 0, none⟩ (hnS 0) (.int .i64 t.f)).setCell ⟨w.heap.size + 1, 1, none⟩ (hnS 1) (.int .i64 t.v)).setCell ⟨w.heap.size + 1, 2, none⟩ (hnS 2) (.slice a' t.kids.length c')
  have hbF := ((nb4.be.setCell (p := ⟨w.heap.size + 1, 0, none⟩) (by simp) (.int .i64 t.f)).setCell (p := ⟨w.heap.size + 1, 1, none⟩) (by simp) (.int .i64 t.v)).setCell (p := ⟨w.heap.size + 1, 2, none⟩) (by simp) (.slice a' t.kids.length c')
  refine bodyPost_ret (v := .agg #[.int .i64 t.f, .int .i64 t.v, .slice a' t.kids.length c']) (by simp [results, Tryz.results55, go_sem, z0, z1, z2]) rfl ⟨a', c', rfl, hoF.mono (fun k hk => ⟨by omega, by simpa using hk.2⟩), hc4, hbF⟩
end Go.Proofs.YtollijngiioonabGreat

/- The specification's copy of a term: it owns new memory. Conditions: terms of at most 549755813888 parts. -/
namespace Go.Proofs.YtollijngiioonabGreat
set_option maxRecDepth 100000
open Go.RowKit

/-- Behind the append of a copied Kid: the boxes and the row. -/
theorem cpy_app {w X w1 w5 : World} {t u : TermD} {a a1 av : Option Addr} {c c1 cv m g5 c5 : Nat} {vo : Value} {L : List FE}
    (C1 : NC w t a c vo w1) (R1 : NR (w.heap.size + 1 + 1 + 1) L [⟨u, a1, c1, fun x => m ≤ x ∧ x < w1.heap.size⟩] av cv w1) (hb : Below w1.heap.size w1 X)
    (hO : w5.ownsRow (w.heap.size + 1 + 1 + 1) 34 3 (.slice (some ⟨g5, 0, none⟩) (L.length + 1) c5) (L.length + 1) (cs3 (L.map FE.cells) ++ [.int .i64 u.f, .int .i64 u.v, .slice a1 u.kids.length c1])) (hG : X.grownBy w5 (Value.slice av L.length cv).ownBlock) (hat : (Value.slice (some ⟨g5, 0, none⟩) (L.length + 1) c5).ownBlock = (Value.slice av L.length cv).ownBlock ∨ (Value.slice (some ⟨g5, 0, none⟩) (L.length + 1) c5).ownBlock = some X.heap.size) :
    NC w t a c vo w5 ∧ NR (w.heap.size + 1 + 1 + 1) (L ++ [⟨u, a1, c1, fun x => m ≤ x ∧ x < w1.heap.size⟩]) [] (some ⟨g5, 0, none⟩) c5 w5 := by
  have R2 := R1.on hb
  obtain ⟨g, c', hv, R3⟩ := R2.app hG hO hat
  cases hv
  exact ⟨(C1.on hb).stay (.grown hG (fun k e hk => by have := (R2.row.lt k e).1; omega)), R3⟩

set_option maxHeartbeats 3200000 in
set_option maxRecDepth 100000 in
theorem l3Copy_any (N : Nat) : ∀ (t : TermD) (a : Option Addr) (c hi : Nat) (w : World), partsT t ≤ N → N ≤ 549755813888 → RdK w hi a t.kids → hi ≤ w.heap.size → isW t.f → isW t.v →
    Calls Tryz.prog 58 #[.agg #[.int .i64 t.f, .int .i64 t.v, .slice a t.kids.length c]] w fun e w' => ∃ a' c', e = .returned (.agg #[.int .i64 t.f, .int .i64 t.v, .slice a' t.kids.length c']) ∧ OwnR w' (fun x => w.heap.size ≤ x ∧ x < w'.heap.size) a' c' t.kids ∧ t.kids.length ≤ c' ∧ Below w.heap.size w w' := by
  induction N with
  | zero => intro t a c hi w h; rw [partsT_eq] at h; omega
  | succ N ih =>
    intro t a c hi w hN hM hr hhi hfw hvw
    rw [partsT_eq] at hN
    obtain ⟨i0, hi0, hz0, hz1, hz2⟩ := info_parts info29
    have hlen := partsL_len t.kids
    have HR : Hid (RdK w hi a t.kids) := hr
    clear hr hfw hvw
    have C0 : NC w t a c (.slice none 0 0) (((w.alloc (.cells #[.int .i64 t.f, .int .i64 t.v, .slice a t.kids.length c] 34)).alloc (.cells #[.int .i64 0, .int .i64 0, .slice none 0 0] 34)).alloc (.cells #[.int .i64 t.f, .int .i64 t.v, .slice none 0 0] 34)) := by
      refine ⟨?_, ?_, ?_, ?_, ?_, ?_, ?_, ?_, fun j => ?_, fun j => ?_, (((Below.refl _ _).alloc (Nat.le_refl _) _).alloc (by simp) _).alloc (by simp; omega) _, ?_⟩
      all_goals simp [go_sem]
    go_enter Tryz.func58, Tryz.ntmps58
    go_wp2_with fail
    go_loopw [4] (fun i wr => ∃ (k : Nat) (L : List FE) (av : Option Addr) (cv : Nat), k ≤ t.kids.length ∧ i = .int .i64 k ∧ NC w t a c (.slice av L.length cv) wr ∧ NR (w.heap.size + 1 + 1 + 1) L [] av cv wr ∧ Hid (L.map FE.t = t.kids.take k)) (fun i _ => t.kids.length - (intOf i).toNat)
    case atStart => exact ⟨0, [], none, 0, Nat.zero_le _, rfl, C0, NR.start _ _, by show _ = _; simp⟩
    case round =>
      obtain ⟨k, L, av, cv, hk, rfl, C, R, HL⟩ := hrel
      clear C0
      have p2 := C.p2
      have hz := C.z
      have hLl : L.length ≤ t.kids.length := by have := congrArg List.length HL.out; simp at this; omega
      by_cases hk' : k < t.kids.length
      · obtain ⟨b, off, a', c', rfl, hlt, d0, d1, d2, hkr⟩ := RdK.kid (HR.out.on (C.bel.mono hhi)) hk'
        have hints := HR.out.ints hk'
        have hpg := partsL_get hk'
        have hki : (k : Int) < (t.kids.length : Int) := by omega
        have hki0 : (0 : Int) ≤ (k : Int) := by omega
        have hkz : (L.length : Int) < (L.length : Int) + 1 := by omega
        have hLb : L.length ≤ 549755813888 := by omega
        have HK : Hid (L.map FE.t ++ [t.kids[k]] = t.kids.take (k + 1)) := by show _ = _; rw [HL.out, List.take_succ_eq_append_getElem hk']
        have I := fun (w' : World) (h : Below wr.heap.size wr w') => ih t.kids[k] a' c' hi w' (by omega) (by omega) (hkr.on (h.mono (Nat.le_trans hhi C.bel.size))) (Nat.le_trans (Nat.le_trans hhi C.bel.size) h.size) hints.1 hints.2
        have HI : Hid (isW t.kids[k].f ∧ isW t.kids[k].v) := hints
        generalize t.kids[k] = u at d0 d1 d2 I HK HI
        have q2 := C.q2
        clear hkr hints hpg ih hlt
        have hlb : b < wr.heap.size := World.block_lt_of_cell? _ _ d0
        have b1 : Below wr.heap.size wr (wr.alloc (.cells #[.int .i64 0, .int .i64 0, .slice none 0 0] 34)) := (Below.refl _ _).alloc (Nat.le_refl _) _
        have p2a := keepC b1 p2
        have q2a := keepC b1 q2
        have d0a := keepC b1 d0
        have d1a := keepC b1 d1
        have d2a := keepC b1 d2
        clear b1
        go_wp2_with fail
        go_region_law (first
          | (go_simp; go_at_call 58; refine (I (wr.drew.alloc (.cells #[.int .i64 0, .int .i64 0, .slice none 0 0] 34)) ((Below.refl _ _).drew.alloc (by simp) _)).mono ?_; rintro e1 w1 ⟨a1, c1, rfl, o1, hle1, hb1⟩; have C1 := (C.on ((Below.refl _ _).drew.alloc (by simp) _)).on hb1; have R1 := (R.on ((Below.refl _ _).drew.alloc (by simp) _)).join hb1 (fe_one o1 hle1 HI.out.1 HI.out.2 (Nat.le_of_lt_succ (by simp; omega))) (fun e he x hx => by simp only [List.mem_singleton] at he; subst he; exact hx.1); have z0 := keepC (p := ⟨wr.heap.size, 0, none⟩) (v := .int .i64 0) hb1 (by simp [go_sem]); have z1 := keepC (p := ⟨wr.heap.size, 1, none⟩) (v := .int .i64 0) hb1 (by simp [go_sem]); have z2 := keepC (p := ⟨wr.heap.size, 2, none⟩) (v := .slice none 0 0) hb1 (by simp [go_sem]); have c2' := C1.q2; have f2' := C1.fq 2; have hbw := C1.z; have hne : (Value.slice av L.length cv).ownBlock ≠ some (w.heap.size + 1 + 1) := (fun q => by have := (R1.row.lt _ q).1; omega); have hrow := R1.row; have hxl := hrow.1; have hsz1 := hb1.size; have HC : Hid _ := C1; have HRR : Hid _ := R1; clear C1 R1 hb1 o1)
          | (go_simp; go_at_call 58; refine (I wr.drew (Below.refl _ _).drew).mono ?_; rintro e1 w1 ⟨a1, c1, rfl, o1, hle1, hb1⟩; have C1 := (C.on (Below.refl _ _).drew).on hb1; have R1 := (R.on (Below.refl _ _).drew).join hb1 (fe_one o1 hle1 HI.out.1 HI.out.2 (Nat.le_of_lt_succ (by simp; omega))) (fun e he x hx => by simp only [List.mem_singleton] at he; subst he; exact hx.1); have zB : True := trivial; have c2' := C1.q2; have f2' := C1.fq 2; have hbw := C1.z; have hne : (Value.slice av L.length cv).ownBlock ≠ some (w.heap.size + 1 + 1) := (fun q => by have := (R1.row.lt _ q).1; omega); have hrow := R1.row; have hxl := hrow.1; have hsz1 := hb1.size; have HC : Hid _ := C1; have HRR : Hid _ := R1; clear C1 R1 hb1 o1)
          | (have _ := zB; refine step_append_own rfl (.tmp 18) (.tmp 25) 32 rfl (w.heap.size + 1 + 1 + 1) 34 i0 _ 3 40 Tryz.underlying32 hi0 hz0 hz1 hz2 rfl (by decide) (.slice av L.length cv) L.length (cs3 (L.map FE.cells)) (by first | (simp [Act.eval]; done) | simp [Act.eval, Act.put]) (own_on hrow (by repeat (first | exact Below.refl _ _ | refine Below.drew ?_ | refine Below.alloc ?_ (by simp) _))) ⟨w1.heap.size, 0, none⟩ 1 1 [.int .i64 u.f, .int .i64 u.v, .slice a1 u.kids.length c1] (by first | (simp [Act.eval]; done) | simp [Act.eval, Act.put]) rfl (three_at (by simp) (by simp) (by simp)) (three_cell _ _ _ _ _) (by unfold maxLen; omega) (by omega) (by simp <;> omega) ?_; intro v5 w5 hown5 hgrow5 hat5; have HA5 : Hid _ := hat5; obtain ⟨g5, c5, rfl, _⟩ := own_slot hown5; have HO5 : Hid _ := hown5; have HG5 : Hid _ := hgrow5; have A5 := cpy_app HC.out HRR.out (by repeat (first | exact Below.refl _ _ | refine Below.drew ?_ | refine Below.alloc ?_ (by simp) _)) hown5 hgrow5 hat5; have c4' := A5.1.q2; have f4' := A5.1.fq 2; have HA : Hid _ := A5; clear A5 hown5 hgrow5 hat5)
          | (refine step_append_own rfl (.tmp 18) (.tmp 25) 32 rfl (w.heap.size + 1 + 1 + 1) 34 i0 _ 3 40 Tryz.underlying32 hi0 hz0 hz1 hz2 rfl (by decide) (.slice av L.length cv) L.length (cs3 (L.map FE.cells)) (by first | (simp [Act.eval]; done) | simp [Act.eval, Act.put]) (own_on hrow (by repeat (first | exact Below.refl _ _ | refine Below.drew ?_ | refine Below.alloc ?_ (by simp) _))) ⟨wr.heap.size, 0, none⟩ 1 1 [.int .i64 0, .int .i64 0, .slice none 0 0] (by first | (simp [Act.eval]; done) | simp [Act.eval, Act.put]) rfl (three_at z0 z1 z2) (three_cell _ _ _ _ _) (by unfold maxLen; omega) (by omega) (by simp <;> omega) ?_; intro v5 w5 hown5 hgrow5 hat5; have PF := put_facts hrow.1 hown5 hgrow5 hat5 (by repeat (first | exact Below.refl _ _ | refine Below.drew ?_ | refine Below.alloc ?_ (by simp) _)) hbw c2' f2' hne; have HA5 : Hid _ := hat5; obtain ⟨g5, c5, rfl, ⟨e0, e1, e2⟩, ⟨f0, f1, f2⟩, c4', f4', hg5, hc5, hat'⟩ := PF; have HO5 : Hid _ := hown5; have HG5 : Hid _ := hgrow5; clear hown5 hgrow5 hat5))
        all_goals
          clear c4' f4'
          have A5 := HA.out
          have C6 := A5.1.set (.slice (some ⟨g5, 0, none⟩) (L.length + 1) c5)
          have R6 := A5.2.set (p := ⟨w.heap.size + 1 + 1, 2, none⟩) (.slice (some ⟨g5, 0, none⟩) (L.length + 1) c5) (by simp only; omega)
          clear A5 HA
          go_wp2_with fail
          refine ⟨⟨k + 1, L ++ [⟨u, a1, c1, _⟩], some ⟨g5, 0, none⟩, c5, by omega, by go_num, by simpa using C6, R6, ?_⟩, by simp [intOf]; omega⟩
          show _ = _
          rw [fe_snoc, HK.out]
      · have E : Hid (k = t.kids.length) := (by omega : k = t.kids.length)
        have q0 := C.q0
        have q1 := C.q1
        have q2 := C.q2
        have r0 := C.r0
        have r1 := C.r1
        have r2 := C.r2
        have fr := C.fr
        have hL : Hid (L.map FE.t = t.kids) := by
          show _ = _
          rw [HL.out, E.out, List.take_length]
        have O : OwnR wr (fun x => w.heap.size + 1 + 1 + 1 ≤ x ∧ x < wr.heap.size) av cv (L.map FE.t) := by
          rcases R.row.2 with ⟨hv, h0⟩ | ⟨g, cap, _, hv, _⟩
          · have : L = [] := List.length_eq_zero_iff.1 h0
            subst this; cases hv; exact .nil _
          · cases hv
            exact (by simpa using R.fo : Forest wr _ L).owns R.row (fun e he => R.ap g rfl e (by simpa using he)) (by omega)
        have hcl : L.length ≤ cv := by obtain ⟨_, _, h, hh⟩ := own_form R.row; cases h; exact hh
        have hbel := C.bel
        clear C R HL E ih
        go_wp2_with fail
        obtain ⟨z0, z1, z2⟩ := set3_cells (u := wr) (r := w.heap.size + 1) (x := .int .i64 t.f) (y := .int .i64 t.v) (z := .slice av L.length cv) r0 r1 r2
        have hn : ¬ (w.heap.size + 1 + 1 + 1 ≤ w.heap.size + 1 ∧ w.heap.size + 1 < wr.heap.size) := by omega
        have O3 := ((O.setCell ⟨w.heap.size + 1, 0, none⟩ hn (.int .i64 t.f)).setCell ⟨w.heap.size + 1, 1, none⟩ hn (.int .i64 t.v)).setCell ⟨w.heap.size + 1, 2, none⟩ hn (.slice av L.length cv)
        rw [← hL.out, List.length_map]
        refine bodyPost_ret (v := .agg #[.int .i64 t.f, .int .i64 t.v, .slice av L.length cv]) (by simp [results, Tryz.results58, go_sem, z0, z1, z2]) rfl ⟨av, cv, rfl, O3.mono (fun x hx => ⟨by omega, by simpa using hx.2⟩), hcl, ?_⟩
        exact ((hbel.setCell (p := ⟨w.heap.size + 1, 0, none⟩) (by simp) _).setCell (p := ⟨w.heap.size + 1, 1, none⟩) (by simp) _).setCell (p := ⟨w.heap.size + 1, 2, none⟩) (by simp) _
end Go.Proofs.YtollijngiioonabGreat

/- A term that is made, as the program makes it. Conditions: terms of at most 549755813888 parts. -/
namespace Go.Proofs.YtollijngiioonabGreat
set_option maxRecDepth 100000
open Go.RowKit

/-- While Make goes on: its answer's place. -/
structure MB (w wr : World) : Prop where
  be : Below w.heap.size w wr
  c0 : wr.cell? ⟨w.heap.size, 0, none⟩ = some (.int .i64 0)
  c1 : wr.cell? ⟨w.heap.size, 1, none⟩ = some (.int .i64 0)
  c2 : wr.cell? ⟨w.heap.size, 2, none⟩ = some (.slice none 0 0)
  cf : ∀ j, wr.frozen? ⟨w.heap.size, j, none⟩ = false
  z : w.heap.size + 1 ≤ wr.heap.size
theorem MB.on {w wr wr' : World} (h : MB w wr) (hb : Below wr.heap.size wr wr') : MB w wr' :=
  ⟨h.be.trans (hb.mono h.be.size), keepC hb h.c0, keepC hb h.c1, keepC hb h.c2, fun j => (hb.frozen (p := ⟨w.heap.size, j, none⟩) h.z).trans (h.cf j), Nat.le_trans h.z hb.size⟩
theorem make_end {w w4 : World} {x y : Int} {us : List TermD} {a' : Option Addr} {c' : Nat} (nb4 : MB w w4) (ho4 : OwnS w4 (fun k => w.heap.size + 1 ≤ k ∧ k < w4.heap.size) a' us) :
    (((w4.setCell ⟨w.heap.size, 0, none⟩ (.int .i64 x)).setCell ⟨w.heap.size, 1, none⟩ (.int .i64 y)).setCell ⟨w.heap.size, 2, none⟩ (.slice a' us.length c')).cell? ⟨w.heap.size, 0, none⟩ = some (.int .i64 x) ∧ (((w4.setCell ⟨w.heap.size, 0, none⟩ (.int .i64 x)).setCell ⟨w.heap.size, 1, none⟩ (.int .i64 y)).setCell ⟨w.heap.size, 2, none⟩ (.slice a' us.length c')).cell? ⟨w.heap.size, 1, none⟩ = some (.int .i64 y) ∧ (((w4.setCell ⟨w.heap.size, 0, none⟩ (.int .i64 x)).setCell ⟨w.heap.size, 1, none⟩ (.int .i64 y)).setCell ⟨w.heap.size, 2, none⟩ (.slice a' us.length c')).cell? ⟨w.heap.size, 2, none⟩ = some (.slice a' us.length c') ∧
      OwnS (((w4.setCell ⟨w.heap.size, 0, none⟩ (.int .i64 x)).setCell ⟨w.heap.size, 1, none⟩ (.int .i64 y)).setCell ⟨w.heap.size, 2, none⟩ (.slice a' us.length c')) (fun k => w.heap.size ≤ k ∧ k < (((w4.setCell ⟨w.heap.size, 0, none⟩ (.int .i64 x)).setCell ⟨w.heap.size, 1, none⟩ (.int .i64 y)).setCell ⟨w.heap.size, 2, none⟩ (.slice a' us.length c')).heap.size) a' us ∧ Below w.heap.size w (((w4.setCell ⟨w.heap.size, 0, none⟩ (.int .i64 x)).setCell ⟨w.heap.size, 1, none⟩ (.int .i64 y)).setCell ⟨w.heap.size, 2, none⟩ (.slice a' us.length c')) := by
  obtain ⟨z0, z1, z2⟩ := set3_cells (u := w4) (r := w.heap.size) (x := .int .i64 x) (y := .int .i64 y) (z := .slice a' us.length c') nb4.c0 nb4.c1 nb4.c2
  have hnS : ∀ j, ¬ (w.heap.size + 1 ≤ (⟨w.heap.size, j, none⟩ : Addr).block ∧ (⟨w.heap.size, j, none⟩ : Addr).block < w4.heap.size) := fun j q => by have := q.1; simp only at this; omega
  have hoF := ((ho4.setCell ⟨w.heap.size, 0, none⟩ (hnS 0) (.int .i64 x)).setCell ⟨w.heap.size, 1, none⟩ (hnS 1) (.int .i64 y)).setCell ⟨w.heap.size, 2, none⟩ (hnS 2) (.slice a' us.length c')
  have hbF := ((nb4.be.setCell (p := ⟨w.heap.size, 0, none⟩) (by simp) (.int .i64 x)).setCell (p := ⟨w.heap.size, 1, none⟩) (by simp) (.int .i64 y)).setCell (p := ⟨w.heap.size, 2, none⟩) (by simp) (.slice a' us.length c')
  exact ⟨z0, z1, z2, hoF.mono (fun k hk => ⟨by omega, by simpa using hk.2⟩), hbF⟩

end Go.Proofs.YtollijngiioonabGreat

/- The cursor from which the laws draw, and how memory stands behind a draw. Conditions: none. -/
namespace Go.Proofs.YtollijngiioonabGreat
set_option maxRecDepth 100000
open Go.RowKit

def isInt (z : Int) : Prop := -9223372036854775808 ≤ z ∧ z ≤ 9223372036854775807
def intsD (zs : List Int) : List Value := zs.map (Value.int .i64)

/-- The slice of bytes that begins at 'a' reads in w as bs, and no cell of it lies in block c. -/
def RdB (w : World) (c : Nat) (a : Option Addr) (bs : List Int) : Prop :=
  (∀ z ∈ bs, 0 ≤ z ∧ z ≤ 255) ∧ (bs = [] ∨ ∃ b off, a = some ⟨b, off, none⟩ ∧ b < w.heap.size ∧ b ≠ c ∧ ∀ i, i < bs.length → w.cell? ⟨b, off + i, none⟩ = some (.int .u8 (bs[i]?.getD 0)))

/-- Block c is a cursor over the code bs. -/
def Cur (T : TypeId) (w : World) (c : Nat) (a : Option Addr) (bs : List Int) (cap : Nat) : Prop :=
  RdB w c a bs ∧ ∃ (i : Nat) (h : Int), i ≤ bs.length ∧ isInt h ∧ w.heap[c]? = some (.cells #[.slice a bs.length cap, .int .i64 i, .int .i64 h] T (0, 0))

theorem and_le (x : Int) (m : Nat) (hm : m < 4611686018427387904) : 0 ≤ bits .and .i64 x (m : Int) ∧ bits .and .i64 x (m : Int) ≤ (m : Int) := by
  have h2 : (BitVec.ofInt 64 (m : Int)).toNat = m := by
    rw [BitVec.ofInt_natCast, BitVec.toNat_ofNat]; exact Nat.mod_eq_of_lt (by omega)
  have h : bits .and .i64 x (m : Int) = IntKind.i64.wrap (((BitVec.ofInt 64 x).toNat &&& m : Nat) : Int) := by
    show IntKind.i64.wrap ((BitVec.ofInt 64 x &&& BitVec.ofInt 64 (m : Int)).toNat : Int) = _
    rw [BitVec.toNat_and, h2]
  have h3 : (BitVec.ofInt 64 x).toNat &&& m ≤ m := Nat.and_le_right
  rw [h, IntKind.wrap_i64]
  omega

theorem and_255 (x : Int) : 0 ≤ bits .and .i64 x 255 ∧ bits .and .i64 x 255 ≤ 255 := and_le x 255 (by omega)

theorem grown_refl (w : World) (row : Option Nat) : w.grownBy w row := ⟨rfl, rfl, rfl, Nat.le_refl _, fun _ _ _ => rfl⟩

theorem grown_then {a w w' : World} {row : Option Nat} (h : a.grownBy w row) (k : w.grownBy w' row) : a.grownBy w' row :=
  ⟨k.os.trans h.os, k.tape.trans h.tape, k.output.trans h.output, Nat.le_trans h.size k.size, fun i hi hr => (k.block i (Nat.lt_of_lt_of_le hi h.size) hr).trans (h.block i hi hr)⟩

theorem grown_draw {a w : World} {row : Option Nat} (h : a.grownBy w row) (n : Nat) : a.grownBy (w.drewN n) row := ⟨h.os, h.tape, h.output, h.size, h.block⟩

theorem grown_set (w : World) (c j : Nat) (v : Value) : w.grownBy (w.setCell ⟨c, j, none⟩ v) (some c) :=
  ⟨rfl, rfl, rfl, by simp [World.setCell], fun k _ hk => Below.heap_setCell w ⟨c, j, none⟩ v k (fun e => hk (by simp [e]))⟩

theorem RdB.grown {w w' : World} {c : Nat} {a : Option Addr} {bs : List Int} (h : RdB w c a bs) (hg : w.grownBy w' (some c)) : RdB w' c a bs := by
  refine ⟨h.1, ?_⟩
  rcases h.2 with h | ⟨b, off, rfl, hlt, hne, hc⟩
  · exact .inl h
  · refine .inr ⟨b, off, rfl, Nat.lt_of_lt_of_le hlt hg.size, hne, fun i hi => ?_⟩
    rw [← hc i hi]
    exact World.cell?_of_block (w := w) (hg.block b hlt (by simp [hne]))

theorem isInt_wrap (x : Int) : isInt (wrap64 x) := bounds_i64 (wrap64_wf x)

theorem Rd.grown {w w' : World} {c g o : Nat} {zs : List Int} (h : ∀ i, i < zs.length → w.cell? ⟨g, o + i, none⟩ = some (.int .i64 (zs[i]?.getD 0))) (hlt : g < w.heap.size) (hne : g ≠ c) (hg : w.grownBy w' (some c)) :
    ∀ i, i < zs.length → w'.cell? ⟨g, o + i, none⟩ = some (.int .i64 (zs[i]?.getD 0)) := by
  intro i hi
  rw [← h i hi]
  exact World.cell?_of_block (w := w) (hg.block g hlt (by simp [hne]))

theorem cell_pick {w : World} {g k : Nat} {zs : List Int} (hk : k < zs.length) (h : ∀ i, i < zs.length → w.cell? ⟨g, 0 + i, none⟩ = some (.int .i64 (zs[i]?.getD 0))) : w.cell? ⟨g, k, none⟩ = some (.int .i64 zs[k]) := by
  have := h k hk
  rw [show 0 + k = k by omega] at this
  rw [this]; simp [hk]

theorem RdB.below {w w' : World} {c : Nat} {a : Option Addr} {bs : List Int} (h : RdB w c a bs) (hg : Below w.heap.size w w') : RdB w' c a bs := by
  refine ⟨h.1, ?_⟩
  rcases h.2 with h | ⟨b, off, rfl, hlt, hne, hc⟩
  · exact .inl h
  · exact .inr ⟨b, off, rfl, Nat.lt_of_lt_of_le hlt hg.size, hne, fun i hi => (hg.cell (p := ⟨b, off + i, none⟩) hlt).trans (hc i hi)⟩

theorem cur_new {T : TypeId} {w : World} {a : Option Addr} {bs : List Int} {cap : Nat} {h : Int} (hr : RdB w w.heap.size a bs) (hh : isInt h) :
    Cur T (w.alloc (.cells #[.slice a bs.length cap, .int .i64 0, .int .i64 h] T)) w.heap.size a bs cap :=
  ⟨hr.below ((Below.refl _ _).alloc (Nat.le_refl _) _), 0, h, Nat.zero_le _, hh, heap_alloc_new w _⟩

theorem Cur.below {T : TypeId} {w w' : World} {c : Nat} {a : Option Addr} {bs : List Int} {cap : Nat} (h : Cur T w c a bs cap) (hb : Below w.heap.size w w') : Cur T w' c a bs cap := by
  obtain ⟨hr, i, x, hi, hx, hk⟩ := h
  have hlt : c < w.heap.size := by
    rcases Nat.lt_or_ge c w.heap.size with h' | h'
    · exact h'
    · simp [Array.getElem?_eq_none h'] at hk
  exact ⟨hr.below hb, i, x, hi, hx, by rw [hb.block c hlt]; exact hk⟩

theorem Cur.lt {T : TypeId} {w : World} {c : Nat} {a : Option Addr} {bs : List Int} {cap : Nat} (h : Cur T w c a bs cap) : c < w.heap.size := by
  obtain ⟨hr, i, x, hi, hx, hk⟩ := h
  rcases Nat.lt_or_ge c w.heap.size with h' | h'
  · exact h'
  · simp [Array.getElem?_eq_none h'] at hk
theorem lit_cells (w : World) (zs : List Int) : ∀ i, i < zs.length → (w.alloc (.cells (intsD zs).toArray 3)).cell? ⟨w.heap.size, 0 + i, none⟩ = some (.int .i64 (zs[i]?.getD 0)) := by
  intro i hi
  rw [World.cell?_alloc_at _ _ _ _ rfl]
  simp [intsD, hi]
theorem lit_strs (w : World) (ss : List ByteArray) : ∀ i, i < ss.length → (w.alloc (.cells (ss.map Value.string).toArray 9)).cell? ⟨w.heap.size, i, none⟩ = some (.string (ss[i]?.getD ByteArray.empty)) := by
  intro i hi
  rw [World.cell?_alloc_at _ _ _ _ rfl]
  simp [hi]
theorem grown_below {w w' : World} {B c : Nat} (hg : w.grownBy w' (some c)) (hB : B ≤ w.heap.size) (hc : B ≤ c) : Below B w w' :=
  (Below.refl B w).grown hg hB (fun k hk => by cases hk; exact hc)
theorem grown_alloc {a w : World} {row : Option Nat} (h : a.grownBy w row) (o : Obj) : a.grownBy (w.alloc o) row :=
  ⟨h.os, h.tape, h.output, Nat.le_trans h.size (by simp), fun i hi hr => (Below.heap_alloc w o i (Nat.lt_of_lt_of_le hi h.size)).trans (h.block i hi hr)⟩
theorem grown_own {a w w' : World} {c g : Nat} (h : a.grownBy w (some c)) (k : w.grownBy w' (some g)) (hg : a.heap.size ≤ g) : a.grownBy w' (some c) :=
  ⟨k.os.trans h.os, k.tape.trans h.tape, k.output.trans h.output, Nat.le_trans h.size k.size, fun i hi hr => (k.block i (Nat.lt_of_lt_of_le hi h.size) (by simp; omega)).trans (h.block i hi hr)⟩
theorem Rd_new {w : World} {a : Option Addr} {bs : List Int} (hr : ∀ c, w.heap.size ≤ c → RdB w c a bs) : bs = [] ∨ ∀ x, a = some x → x.block < w.heap.size := by
  rcases (hr _ (Nat.le_refl _)).2 with h | ⟨b, off, rfl, hlt, _⟩
  · exact .inl h
  · exact .inr fun x hx => by cases hx; exact hlt
theorem codeOn {w w' : World} {a : Option Addr} {bs : List Int} (hr : ∀ c, w.heap.size ≤ c → RdB w c a bs) (hb : Below w.heap.size w w') : ∀ c, w'.heap.size ≤ c → RdB w' c a bs :=
  fun c hc => (hr c (Nat.le_trans hb.size hc)).below hb
theorem Cur.grown {T : TypeId} {w w' : World} {c g : Nat} {a : Option Addr} {bs : List Int} {cap : Nat} {B : Nat} (h : Cur T w c a bs cap) (hg : w.grownBy w' (some g)) (hc : c < B) (hB : B ≤ g) (hbs : bs = [] ∨ ∀ x, a = some x → x.block < B) : Cur T w' c a bs cap := by
  have hlt := h.lt
  obtain ⟨hr, i, x, hi, hx, hk⟩ := h
  refine ⟨⟨hr.1, ?_⟩, i, x, hi, hx, by rw [hg.block c hlt (by simp; omega)]; exact hk⟩
  rcases hr.2 with h | ⟨b, off, rfl, hlt, hne, hcs⟩
  · exact .inl h
  · rcases hbs with rfl | hbs
    · exact .inl rfl
    have hb := hbs _ rfl
    simp at hb
    refine .inr ⟨b, off, rfl, Nat.lt_of_lt_of_le hlt hg.size, hne, fun j hj => ?_⟩
    rw [← hcs j hj]
    exact World.cell?_of_block (w := w) (hg.block b hlt (by simp; omega))
end Go.Proofs.YtollijngiioonabGreat

/- Contracts of the functions by which the laws draw their inputs from a code. Conditions: the code has at most 1048576 bytes. -/
namespace Go.Proofs.YtollijngiioonabGreat
set_option maxRecDepth 100000
open Go.RowKit

end Go.Proofs.YtollijngiioonabGreat

/- A drawn term: whatever the bytes, it owns its memory and is small; only the cursor has turned. Conditions: at most 1048576 bytes. -/
namespace Go.Proofs.YtollijngiioonabGreat
set_option maxRecDepth 100000
open Go.RowKit

set_option maxHeartbeats 800000 in
theorem l3Var_any (v : Int) (w : World) : Calls Tryz.prog 59 #[.int .i64 v] w fun e w' => e = .returned (.agg #[.int .i64 (-1), .int .i64 v, .slice none 0 0]) ∧ Below w.heap.size w w' := by
  go_enter Tryz.func59, Tryz.ntmps59
  go_wp2
  exact bodyPost_ret (v := .agg #[.int .i64 (-1), .int .i64 v, .slice none 0 0]) (by simp [results, Tryz.results59, go_sem]) rfl ⟨rfl, (Below.refl _ _).alloc (Nat.le_refl _) _⟩

theorem stay_of_grown {w w' : World} {c : Nat} (h : w.grownBy w' (some c)) : Stay (fun k => k ≠ c) w w' := .grown h (fun k e => by cases e; simp)
end Go.Proofs.YtollijngiioonabGreat

