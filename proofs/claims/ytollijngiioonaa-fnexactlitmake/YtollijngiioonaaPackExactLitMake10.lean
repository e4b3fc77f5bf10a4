/- What the proof of FnExactLitMake stands on, part 10 of 10: each piece says what it proves and under which conditions. Conditions: as each piece says. -/
import Derived.Test.YtollijngiioonaaPackExactLitMake9
import Derived.Test.YtollijngiioonaaProg
import Derived.Deep.Slices
/- What lies in memory while the law on making an equation goes on: which block belongs to what. Conditions: none. -/
namespace Go.Proofs.Ytollijngiioonaa
set_option maxRecDepth 100000
open Go.RowKit

/-- A step that writes only into what belongs to some owners. -/
structure TP (t : Nat → Prop) (o : Nat → Nat) (W : World) (o' : Nat → Nat) (W' : World) : Prop where
  st : Stay (fun k => ¬ t (o k)) W W'
  old : ∀ k, k < W.heap.size → o' k = o k
theorem TP.same (t : Nat → Prop) (o : Nat → Nat) {W W' : World} (hb : Below W.heap.size W W') : TP t o W o W' := ⟨.of_below hb (fun _ hk _ => hk), fun _ _ => rfl⟩
theorem TP.grow (t : Nat → Prop) (o : Nat → Nat) {W W' : World} (hb : Below W.heap.size W W') (g : Nat) : TP t o W (upd o W.heap.size W'.heap.size g) W' := ⟨.of_below hb (fun _ hk _ => hk), fun _ hk => upd_old hk⟩
theorem Tg.same {w0 : World} {o : Nat → Nat} {W W' : World} (h : Tg w0 o W) (hb : Below W.heap.size W W') : Tg w0 o W' := by
  have hs := hb.size
  exact ⟨h.bel.trans (hb.mono h.bel.size), fun k hk => by have := h.own k hk; omega⟩
theorem Tg.write {w0 : World} {o : Nat → Nat} {W W' : World} {t : Nat → Prop} (h : Tg w0 o W) (hs : Stay (fun k => ¬ t (o k)) W W') (h0 : ¬ t 0) : Tg w0 o W' := by
  refine ⟨h.bel.trans (hs.below h.bel.size (fun k hk => ?_)), fun k hk => by have := h.own k hk; have := hs.size; omega⟩
  by_cases e : o k = 0
  · rw [e]; exact h0
  · have := h.own k e; omega
theorem Tg.base {w0 w1 : World} {o : Nat → Nat} {W : World} (h : Tg w1 o W) (hb : Below w0.heap.size w0 w1) : Tg w0 o W := by
  have := hb.size
  exact ⟨hb.trans (h.bel.mono hb.size), fun k hk => by have := h.own k hk; omega⟩
open Classical in
/-- Two new sets of blocks. -/
noncomputable def upd2 (o : Nat → Nat) (S1 S2 : Nat → Prop) (g1 g2 : Nat) : Nat → Nat := fun k => if S1 k then g1 else if S2 k then g2 else o k
theorem upd2_1 {o : Nat → Nat} {S1 S2 : Nat → Prop} {g1 g2 k : Nat} (h : S1 k) : upd2 o S1 S2 g1 g2 k = g1 := by unfold upd2; rw [if_pos h]
theorem upd2_2 {o : Nat → Nat} {S1 S2 : Nat → Prop} {g1 g2 k : Nat} (h : S2 k) (hn : ¬ S1 k) : upd2 o S1 S2 g1 g2 k = g2 := by unfold upd2; rw [if_neg hn, if_pos h]
theorem upd2_old {o : Nat → Nat} {S1 S2 : Nat → Prop} {g1 g2 k : Nat} (h1 : ¬ S1 k) (h2 : ¬ S2 k) : upd2 o S1 S2 g1 g2 k = o k := by unfold upd2; rw [if_neg h1, if_neg h2]
theorem TP.two (t : Nat → Prop) (o : Nat → Nat) {W W' : World} {S1 S2 : Nat → Prop} (hb : Below W.heap.size W W') (h1 : ∀ k, S1 k → W.heap.size ≤ k) (h2 : ∀ k, S2 k → W.heap.size ≤ k) (g1 g2 : Nat) : TP t o W (upd2 o S1 S2 g1 g2) W' :=
  ⟨.of_below hb (fun _ hk _ => hk), fun k hk => upd2_old (fun h => by have := h1 k h; omega) (fun h => by have := h2 k h; omega)⟩
theorem Tg.two {w0 : World} {o : Nat → Nat} {W W' : World} {S1 S2 : Nat → Prop} (h : Tg w0 o W) (hb : Below W.heap.size W W') (h1 : ∀ k, S1 k → W.heap.size ≤ k ∧ k < W'.heap.size) (h2 : ∀ k, S2 k → W.heap.size ≤ k ∧ k < W'.heap.size) (g1 g2 : Nat) : Tg w0 (upd2 o S1 S2 g1 g2) W' := by
  have hs := hb.size
  have hz := h.bel.size
  refine ⟨h.bel.trans (hb.mono hz), fun k hk => ?_⟩
  by_cases e1 : S1 k
  · have := h1 k e1; omega
  · by_cases e2 : S2 k
    · have := h2 k e2; omega
    · rw [upd2_old e1 e2] at hk
      have := h.own k hk
      omega
theorem OwnS.tp {w0 : World} {o o' : Nat → Nat} {W W' : World} {g : Nat} {t : Nat → Prop} {a : Option Addr} {ks : List TermD} (h : OwnS W (fun k => o k = g) a ks) (hT : Tg w0 o W) (F : TP t o W o' W') (h0 : g ≠ 0) (ht : ¬ t g) : OwnS W' (fun k => o' k = g) a ks := by
  have hl : ∀ k, o k = g → k < W.heap.size := fun k hk => (hT.own k (by rw [hk]; exact h0)).2
  exact (h.frame (fun k hk => F.st.block k (hl k hk) (by rw [hk]; exact ht)) F.st.size).mono fun k hk => (F.old k (hl k hk)).trans hk
theorem Mk.mono' {w : World} {S T : Nat → Prop} {a : Option Addr} {ts : List TermD} {k : Int} (h : Mk w S a ts k) (hs : ∀ x, S x → T x) : Mk w T a ts k := by
  cases h with
  | nil => exact .nil _ _ _
  | row S b off ts A C K k hb hc hsub hk => exact .row _ b off ts A C K k (hs b hb) hc (fun i x hx hk => hs x (hsub i x hx hk)) hk
theorem Mk.tp {w0 : World} {o o' : Nat → Nat} {W W' : World} {g : Nat} {t : Nat → Prop} {a : Option Addr} {ks : List TermD} {m : Int} (h : Mk W (fun k => o k = g) a ks m) (hT : Tg w0 o W) (F : TP t o W o' W') (h0 : g ≠ 0) (ht : ¬ t g) : Mk W' (fun k => o' k = g) a ks m := by
  have hl : ∀ k, o k = g → k < W.heap.size := fun k hk => (hT.own k (by rw [hk]; exact h0)).2
  exact (h.frame (fun k hk => F.st.block k (hl k hk) (by rw [hk]; exact ht))).mono' fun k hk => (F.old k (hl k hk)).trans hk
theorem C7.lt {W : World} {b : Nat} {x0 x1 x2 x3 x4 x5 x6 : Value} (h : C7 W b x0 x1 x2 x3 x4 x5 x6) : b < W.heap.size := World.block_lt_of_cell? _ _ h.1
theorem C7.stay {W W' : World} {b : Nat} {x0 x1 x2 x3 x4 x5 x6 : Value} {S : Nat → Prop} (h : C7 W b x0 x1 x2 x3 x4 x5 x6) (hs : Stay S W W') (hb : S b) : C7 W' b x0 x1 x2 x3 x4 x5 x6 :=
  ⟨hs.cell h.1 hb, hs.cell h.2.1 hb, hs.cell h.2.2.1 hb, hs.cell h.2.2.2.1 hb, hs.cell h.2.2.2.2.1 hb, hs.cell h.2.2.2.2.2.1 hb, hs.cell h.2.2.2.2.2.2 hb⟩
/-- A box that holds an equation. -/
def B7 (o : Nat → Nat) (W : World) (g B : Nat) (X : LitD) (a1 : Option Addr) (c1 : Nat) (a2 : Option Addr) (c2 : Nat) : Prop :=
  o B = g ∧ C7 W B (.bool X.p) (.int .i64 X.l.f) (.int .i64 X.l.v) (.slice a1 X.l.kids.length c1) (.int .i64 X.r.f) (.int .i64 X.r.v) (.slice a2 X.r.kids.length c2)
theorem B7.tp {o o' : Nat → Nat} {W W' : World} {g B : Nat} {t : Nat → Prop} {X : LitD} {a1 : Option Addr} {c1 : Nat} {a2 : Option Addr} {c2 : Nat} (h : B7 o W g B X a1 c1 a2 c2) (F : TP t o W o' W') (ht : ¬ t g) : B7 o' W' g B X a1 c1 a2 c2 :=
  ⟨(F.old B h.2.lt).trans h.1, h.2.stay F.st (by rw [h.1]; exact ht)⟩
/-- An equation in a box: either side owns its memory. -/
structure X7 (o : Nat → Nat) (W : World) (g g1 g2 B : Nat) (X : LitD) (a1 : Option Addr) (c1 : Nat) (a2 : Option Addr) (c2 : Nat) : Prop where
  b : B7 o W g B X a1 c1 a2 c2
  k1 : OwnS W (fun k => o k = g1) a1 X.l.kids
  k2 : OwnS W (fun k => o k = g2) a2 X.r.kids
theorem X7.tp {w0 : World} {o o' : Nat → Nat} {W W' : World} {g g1 g2 B : Nat} {t : Nat → Prop} {X : LitD} {a1 : Option Addr} {c1 : Nat} {a2 : Option Addr} {c2 : Nat} (h : X7 o W g g1 g2 B X a1 c1 a2 c2) (hT : Tg w0 o W) (F : TP t o W o' W') (h1 : g1 ≠ 0) (h2 : g2 ≠ 0) (ht : ¬ t g) (ht1 : ¬ t g1) (ht2 : ¬ t g2) : X7 o' W' g g1 g2 B X a1 c1 a2 c2 :=
  ⟨h.b.tp F ht, h.k1.tp hT F h1 ht1, h.k2.tp hT F h2 ht2⟩
/-- A term in a box: it owns its memory. -/
structure X3 (o : Nat → Nat) (W : World) (g g1 B : Nat) (x : TermD) (a : Option Addr) (c : Nat) : Prop where
  e : o B = g
  b : C3 W B (.int .i64 x.f) (.int .i64 x.v) (.slice a x.kids.length c)
  k : OwnS W (fun k => o k = g1) a x.kids
theorem X3.tp {w0 : World} {o o' : Nat → Nat} {W W' : World} {g g1 B : Nat} {t : Nat → Prop} {x : TermD} {a : Option Addr} {c : Nat} (h : X3 o W g g1 B x a c) (hT : Tg w0 o W) (F : TP t o W o' W') (h1 : g1 ≠ 0) (ht : ¬ t g) (ht1 : ¬ t g1) : X3 o' W' g g1 B x a c :=
  ⟨(F.old B h.b.lt).trans h.e, h.b.stay F.st (by rw [h.e]; exact ht), h.k.tp hT F h1 ht1⟩
/-- The copy of the list of functions. -/
structure SR (o : Nat → Nat) (W : World) (g G : Nat) (ss : List SymD) : Prop where
  e : o G = g
  w : W.ownsRow G 83 3 (.slice (some ⟨G, 0, none⟩) ss.length ss.length) ss.length (symCs ss)
theorem SR.on {o o' : Nat → Nat} {W W' : World} {g G : Nat} {ss : List SymD} (h : SR o W g G ss) (hb : Below W.heap.size W W') (ho : ∀ k, k < W.heap.size → o' k = o k) : SR o' W' g G ss := ⟨(ho G (h.w.lt _ rfl).2).trans h.e, own_on h.w hb⟩

/-- The wanted answer in its box (10 to 12). -/
structure LS (w1 : World) (X : LitD) (Bw : Nat) (aw : Option Addr) (cw : Nat) (bw : Option Addr) (dw : Nat) (o : Nat → Nat) (W : World) : Prop where
  tg : Tg w1 o W
  w : X7 o W 10 11 12 Bw X aw cw bw dw
/-- The copies of the arguments (13 to 17). -/
structure LA1 (w1 : World) (X : LitD) (Bw : Nat) (aw : Option Addr) (cw : Nat) (bw : Option Addr) (dw : Nat) (ss : List SymD) (G : Nat) (o : Nat → Nat) (W : World) : Prop where
  q : LS w1 X Bw aw cw bw dw o W
  s : SR o W 13 G ss
structure LA2 (w1 : World) (X : LitD) (Bw : Nat) (aw : Option Addr) (cw : Nat) (bw : Option Addr) (dw : Nat) (ss : List SymD) (G : Nat) (t : TermD) (Bx : Nat) (ax : Option Addr) (cx : Nat) (o : Nat → Nat) (W : World) : Prop where
  q : LA1 w1 X Bw aw cw bw dw ss G o W
  x : X3 o W 14 15 Bx t ax cx
structure LA3 (w1 : World) (X : LitD) (Bw : Nat) (aw : Option Addr) (cw : Nat) (bw : Option Addr) (dw : Nat) (ss : List SymD) (G : Nat) (t : TermD) (Bx : Nat) (ax : Option Addr) (cx : Nat) (u : TermD) (By : Nat) (ay : Option Addr) (cy : Nat) (o : Nat → Nat) (W : World) : Prop where
  q : LA2 w1 X Bw aw cw bw dw ss G t Bx ax cx o W
  y : X3 o W 16 17 By u ay cy
/-- And the answer in its box (18 to 20). -/
structure LA4 (w1 : World) (X : LitD) (Bw : Nat) (aw : Option Addr) (cw : Nat) (bw : Option Addr) (dw : Nat) (ss : List SymD) (G : Nat) (t : TermD) (Bx : Nat) (ax : Option Addr) (cx : Nat) (u : TermD) (By : Nat) (ay : Option Addr) (cy : Nat) (Bg : Nat) (ag : Option Addr) (cg : Nat) (bg : Option Addr) (dg : Nat) (o : Nat → Nat) (W : World) : Prop where
  q : LA3 w1 X Bw aw cw bw dw ss G t Bx ax cx u By ay cy o W
  g : X7 o W 18 19 20 Bg X ag cg bg dg
/-- The copies may be written over, one behind the other. -/
structure LB2 (w1 : World) (X : LitD) (Bw : Nat) (aw : Option Addr) (cw : Nat) (bw : Option Addr) (dw : Nat) (t : TermD) (Bx : Nat) (ax : Option Addr) (cx : Nat) (u : TermD) (By : Nat) (ay : Option Addr) (cy : Nat) (Bg : Nat) (ag : Option Addr) (cg : Nat) (bg : Option Addr) (dg : Nat) (o : Nat → Nat) (W : World) : Prop where
  q : LS w1 X Bw aw cw bw dw o W
  x : X3 o W 14 15 Bx t ax cx
  y : X3 o W 16 17 By u ay cy
  g : X7 o W 18 19 20 Bg X ag cg bg dg
structure LB1 (w1 : World) (X : LitD) (Bw : Nat) (aw : Option Addr) (cw : Nat) (bw : Option Addr) (dw : Nat) (u : TermD) (By : Nat) (ay : Option Addr) (cy : Nat) (Bg : Nat) (ag : Option Addr) (cg : Nat) (bg : Option Addr) (dg : Nat) (o : Nat → Nat) (W : World) : Prop where
  q : LS w1 X Bw aw cw bw dw o W
  y : X3 o W 16 17 By u ay cy
  g : X7 o W 18 19 20 Bg X ag cg bg dg
structure LB0 (w1 : World) (X : LitD) (Bw : Nat) (aw : Option Addr) (cw : Nat) (bw : Option Addr) (dw : Nat) (Bg : Nat) (ag : Option Addr) (cg : Nat) (bg : Option Addr) (dg : Nat) (o : Nat → Nat) (W : World) : Prop where
  q : LS w1 X Bw aw cw bw dw o W
  g : X7 o W 18 19 20 Bg X ag cg bg dg
/-- The answer bears marks. -/
structure LMk (w1 : World) (X : LitD) (Bw : Nat) (aw : Option Addr) (cw : Nat) (bw : Option Addr) (dw : Nat) (Bg : Nat) (ag : Option Addr) (cg : Nat) (bg : Option Addr) (dg : Nat) (o : Nat → Nat) (W : World) : Prop where
  q : LS w1 X Bw aw cw bw dw o W
  g : B7 o W 18 Bg X ag cg bg dg
  m1 : Mk W (fun k => o k = 19) ag X.l.kids 1
  m2 : Mk W (fun k => o k = 20) bg X.r.kids (1 + 2 * partsL X.l.kids)
section
variable {w1 : World} {X : LitD} {Bw : Nat} {aw : Option Addr} {cw : Nat} {bw : Option Addr} {dw : Nat} {ss : List SymD} {G : Nat} {t : TermD} {Bx : Nat} {ax : Option Addr} {cx : Nat} {u : TermD} {By : Nat} {ay : Option Addr} {cy : Nat} {Bg : Nat} {ag : Option Addr} {cg : Nat} {bg : Option Addr} {dg : Nat} {o o' : Nat → Nat} {W W' : World}
theorem LS.tp {p : Nat → Prop} (h : LS w1 X Bw aw cw bw dw o W) (T : Tg w1 o' W') (F : TP p o W o' W') (hp : ¬ p 10 ∧ ¬ p 11 ∧ ¬ p 12) : LS w1 X Bw aw cw bw dw o' W' :=
  ⟨T, h.w.tp h.tg F (by decide) (by decide) hp.1 hp.2.1 hp.2.2⟩
def pNo : Nat → Prop := fun _ => False
theorem LA1.on (h : LA1 w1 X Bw aw cw bw dw ss G o W) (hb : Below W.heap.size W W') (T : Tg w1 o' W') (F : TP pNo o W o' W') : LA1 w1 X Bw aw cw bw dw ss G o' W' := ⟨h.q.tp T F ⟨id, id, id⟩, h.s.on hb F.old⟩
theorem LA2.on (h : LA2 w1 X Bw aw cw bw dw ss G t Bx ax cx o W) (hb : Below W.heap.size W W') (T : Tg w1 o' W') (F : TP pNo o W o' W') : LA2 w1 X Bw aw cw bw dw ss G t Bx ax cx o' W' := ⟨h.q.on hb T F, h.x.tp h.q.q.tg F (by decide) id id⟩
theorem LA3.on (h : LA3 w1 X Bw aw cw bw dw ss G t Bx ax cx u By ay cy o W) (hb : Below W.heap.size W W') (T : Tg w1 o' W') (F : TP pNo o W o' W') : LA3 w1 X Bw aw cw bw dw ss G t Bx ax cx u By ay cy o' W' := ⟨h.q.on hb T F, h.y.tp h.q.q.q.tg F (by decide) id id⟩
theorem LA4.on (h : LA4 w1 X Bw aw cw bw dw ss G t Bx ax cx u By ay cy Bg ag cg bg dg o W) (hb : Below W.heap.size W W') : LA4 w1 X Bw aw cw bw dw ss G t Bx ax cx u By ay cy Bg ag cg bg dg o W' :=
  ⟨h.q.on hb (h.q.q.q.q.tg.same hb) (TP.same _ o hb), h.g.tp h.q.q.q.q.tg (TP.same pNo o hb) (by decide) (by decide) id id id⟩
theorem LMk.on (h : LMk w1 X Bw aw cw bw dw Bg ag cg bg dg o W) (hb : Below W.heap.size W W') : LMk w1 X Bw aw cw bw dw Bg ag cg bg dg o W' :=
  ⟨h.q.tp (h.q.tg.same hb) (TP.same pNo o hb) ⟨id, id, id⟩, h.g.tp (TP.same pNo o hb) id, h.m1.tp h.q.tg (TP.same pNo o hb) (by decide) id, h.m2.tp h.q.tg (TP.same pNo o hb) (by decide) id⟩
theorem LB0.on (h : LB0 w1 X Bw aw cw bw dw Bg ag cg bg dg o W) (hb : Below W.heap.size W W') : LB0 w1 X Bw aw cw bw dw Bg ag cg bg dg o W' :=
  ⟨h.q.tp (h.q.tg.same hb) (TP.same pNo o hb) ⟨id, id, id⟩, h.g.tp h.q.tg (TP.same pNo o hb) (by decide) (by decide) id id id⟩
/-- The list of functions is copied. -/
theorem LS.sym (h : LS w1 X Bw aw cw bw dw o W) (hb : Below W.heap.size W W') (hw : W'.ownsRow W.heap.size 83 3 (.slice (some ⟨W.heap.size, 0, none⟩) ss.length ss.length) ss.length (symCs ss)) : ∃ o', LA1 w1 X Bw aw cw bw dw ss W.heap.size o' W' :=
  ⟨_, h.tp (h.tg.grow hb 13) (TP.grow pNo o hb 13) ⟨id, id, id⟩, upd_new (Nat.le_refl _) (hw.lt _ rfl).2, hw⟩
/-- A term is copied, and its box laid. -/
theorem X3.new {p : World} (T : Tg p o W) (hb : Below W.heap.size W W') (hk : OwnS W' (fun k => W.heap.size ≤ k ∧ k < W'.heap.size) ax t.kids) (g g1 : Nat) (h1 : g1 ≠ 0) (TT : TypeId) : ∃ o', TP pNo o W o' (W'.alloc (.cells #[.int .i64 t.f, .int .i64 t.v, .slice ax t.kids.length cx] TT)) ∧ Tg p o' (W'.alloc (.cells #[.int .i64 t.f, .int .i64 t.v, .slice ax t.kids.length cx] TT)) ∧ X3 o' (W'.alloc (.cells #[.int .i64 t.f, .int .i64 t.v, .slice ax t.kids.length cx] TT)) g g1 W'.heap.size t ax cx := by
  have hb2 : Below W'.heap.size W' (W'.alloc (.cells #[.int .i64 t.f, .int .i64 t.v, .slice ax t.kids.length cx] TT)) := (Below.refl _ _).alloc (Nat.le_refl _) _
  have T1 := T.grow hb g1
  have hk1 : OwnS W' (fun k => upd o W.heap.size W'.heap.size g1 k = g1) ax t.kids := hk.mono fun k hk => upd_new hk.1 hk.2
  have F2 := TP.grow pNo (upd o W.heap.size W'.heap.size g1) hb2 g
  refine ⟨_, ⟨(TP.grow pNo o hb g1).st.trans (.of_below hb2 (fun _ hk _ => hk)), fun k hk => (F2.old k (Nat.lt_of_lt_of_le hk hb.size)).trans (upd_old hk)⟩, T1.grow hb2 g, upd_new (Nat.le_refl _) (by simp), C3.new _ _ _ _ _, hk1.tp T1 F2 h1 id⟩
theorem LA1.term (h : LA1 w1 X Bw aw cw bw dw ss G o W) (hb : Below W.heap.size W W') (hk : OwnS W' (fun k => W.heap.size ≤ k ∧ k < W'.heap.size) ax t.kids) (TT : TypeId) : ∃ o', LA2 w1 X Bw aw cw bw dw ss G t W'.heap.size ax cx o' (W'.alloc (.cells #[.int .i64 t.f, .int .i64 t.v, .slice ax t.kids.length cx] TT)) := by
  obtain ⟨o', F, T, hx⟩ := X3.new (cx := cx) h.q.tg hb hk 14 15 (by decide) TT
  exact ⟨o', h.on (hb.trans (Below.mono ((Below.refl _ _).alloc (Nat.le_refl _) _) hb.size)) T F, hx⟩
theorem LA2.term (h : LA2 w1 X Bw aw cw bw dw ss G t Bx ax cx o W) (hb : Below W.heap.size W W') (hk : OwnS W' (fun k => W.heap.size ≤ k ∧ k < W'.heap.size) ay u.kids) (TT : TypeId) : ∃ o', LA3 w1 X Bw aw cw bw dw ss G t Bx ax cx u W'.heap.size ay cy o' (W'.alloc (.cells #[.int .i64 u.f, .int .i64 u.v, .slice ay u.kids.length cy] TT)) := by
  obtain ⟨o', F, T, hx⟩ := X3.new (cx := cy) h.q.q.tg hb hk 16 17 (by decide) TT
  exact ⟨o', h.on (hb.trans (Below.mono ((Below.refl _ _).alloc (Nat.le_refl _) _) hb.size)) T F, hx⟩
/-- An equation that came of a call, and its box laid. -/
theorem X7.new {p : World} {S1 S2 : Nat → Prop} (T : Tg p o W) (hb : Below W.heap.size W W') (hX : OwnX W W' X ag cg bg dg S1 S2) (g g1 g2 : Nat) (h1 : g1 ≠ 0) (h2 : g2 ≠ 0) (TT : TypeId) : ∃ o', TP pNo o W o' (W'.alloc (.cells #[.bool X.p, .int .i64 X.l.f, .int .i64 X.l.v, .slice ag X.l.kids.length cg, .int .i64 X.r.f, .int .i64 X.r.v, .slice bg X.r.kids.length dg] TT)) ∧ Tg p o' (W'.alloc (.cells #[.bool X.p, .int .i64 X.l.f, .int .i64 X.l.v, .slice ag X.l.kids.length cg, .int .i64 X.r.f, .int .i64 X.r.v, .slice bg X.r.kids.length dg] TT)) ∧ X7 o' (W'.alloc (.cells #[.bool X.p, .int .i64 X.l.f, .int .i64 X.l.v, .slice ag X.l.kids.length cg, .int .i64 X.r.f, .int .i64 X.r.v, .slice bg X.r.kids.length dg] TT)) g g1 g2 W'.heap.size X ag cg bg dg := by
  have hb2 : Below W'.heap.size W' (W'.alloc (.cells #[.bool X.p, .int .i64 X.l.f, .int .i64 X.l.v, .slice ag X.l.kids.length cg, .int .i64 X.r.f, .int .i64 X.r.v, .slice bg X.r.kids.length dg] TT)) := (Below.refl _ _).alloc (Nat.le_refl _) _
  have F1 := TP.two pNo o hb (fun k hk => (hX.i1 k hk).1) (fun k hk => (hX.i2 k hk).1) g1 g2
  have T1 := T.two hb hX.i1 hX.i2 g1 g2
  have hk1 : OwnS W' (fun k => upd2 o S1 S2 g1 g2 k = g1) ag X.l.kids := hX.o1.mono fun k hk => upd2_1 hk
  have hk2 : OwnS W' (fun k => upd2 o S1 S2 g1 g2 k = g2) bg X.r.kids := hX.o2.mono fun k hk => upd2_2 hk (fun h => hX.dis k h hk)
  have F2 := TP.grow pNo (upd2 o S1 S2 g1 g2) hb2 g
  exact ⟨_, ⟨F1.st.trans (.of_below hb2 (fun _ hk _ => hk)), fun k hk => (F2.old k (Nat.lt_of_lt_of_le hk hb.size)).trans (F1.old k hk)⟩, T1.grow hb2 g, ⟨upd_new (Nat.le_refl _) (by simp), by simp [go_sem], by simp [go_sem], by simp [go_sem], by simp [go_sem], by simp [go_sem], by simp [go_sem], by simp [go_sem]⟩, hk1.tp T1 F2 h1 id, hk2.tp T1 F2 h2 id⟩
theorem LA3.lit {S1 S2 : Nat → Prop} (h : LA3 w1 X Bw aw cw bw dw ss G t Bx ax cx u By ay cy o W) (hb : Below W.heap.size W W') (hX : OwnX W W' X ag cg bg dg S1 S2) (TT : TypeId) : ∃ o', LA4 w1 X Bw aw cw bw dw ss G t Bx ax cx u By ay cy W'.heap.size ag cg bg dg o' (W'.alloc (.cells #[.bool X.p, .int .i64 X.l.f, .int .i64 X.l.v, .slice ag X.l.kids.length cg, .int .i64 X.r.f, .int .i64 X.r.v, .slice bg X.r.kids.length dg] TT)) := by
  obtain ⟨o', F, T, hx⟩ := X7.new h.q.q.q.tg hb hX 18 19 20 (by decide) (by decide) TT
  exact ⟨o', h.on (hb.trans (Below.mono ((Below.refl _ _).alloc (Nat.le_refl _) _) hb.size)) T F, hx⟩
/-- Marks are written. -/
theorem LA4.m1 (h : LA4 w1 X Bw aw cw bw dw ss G t Bx ax cx u By ay cy Bg ag cg bg dg o W) (hs : Stay (fun k => k ≠ G) W W') : LB2 w1 X Bw aw cw bw dw t Bx ax cx u By ay cy Bg ag cg bg dg o W' := by
  have st : Stay (fun k => ¬ (o k = 13)) W W' := hs.weak fun k _ hk e => hk (by rw [e]; exact h.q.q.q.s.e)
  have T := h.q.q.q.q.tg.write (t := fun g => g = 13) st (by decide)
  have F : TP (fun g => g = 13) o W o W' := ⟨st, fun _ _ => rfl⟩
  exact ⟨h.q.q.q.q.tp T F (by decide), h.q.q.x.tp h.q.q.q.q.tg F (by decide) (by decide) (by decide), h.q.y.tp h.q.q.q.q.tg F (by decide) (by decide) (by decide), h.g.tp h.q.q.q.q.tg F (by decide) (by decide) (by decide) (by decide) (by decide)⟩
theorem LB2.m2 {V : World} (h : LB2 w1 X Bw aw cw bw dw t Bx ax cx u By ay cy Bg ag cg bg dg o W) (hb : Below W.heap.size W V) (ho : Only (fun k => o k = 15) V W') : LB1 w1 X Bw aw cw bw dw u By ay cy Bg ag cg bg dg o W' := by
  have st : Stay (fun k => ¬ (o k = 15)) W W' := only_stay hb ho (fun _ _ hk => hk)
  have T := h.q.tg.write (t := fun g => g = 15) st (by decide)
  have F : TP (fun g => g = 15) o W o W' := ⟨st, fun _ _ => rfl⟩
  exact ⟨h.q.tp T F (by decide), h.y.tp h.q.tg F (by decide) (by decide) (by decide), h.g.tp h.q.tg F (by decide) (by decide) (by decide) (by decide) (by decide)⟩
theorem LB1.m3 {V : World} (h : LB1 w1 X Bw aw cw bw dw u By ay cy Bg ag cg bg dg o W) (hb : Below W.heap.size W V) (ho : Only (fun k => o k = 17) V W') : LB0 w1 X Bw aw cw bw dw Bg ag cg bg dg o W' := by
  have st : Stay (fun k => ¬ (o k = 17)) W W' := only_stay hb ho (fun _ _ hk => hk)
  have T := h.q.tg.write (t := fun g => g = 17) st (by decide)
  have F : TP (fun g => g = 17) o W o W' := ⟨st, fun _ _ => rfl⟩
  exact ⟨h.q.tp T F (by decide), h.g.tp h.q.tg F (by decide) (by decide) (by decide) (by decide) (by decide)⟩
theorem LB0.m4 (h : LB0 w1 X Bw aw cw bw dw Bg ag cg bg dg o W) (hs : Stay (fun k => ¬ o k = 19 ∧ ¬ o k = 20) W W') (hm1 : Mk W' (fun k => o k = 19) ag X.l.kids 1) (hm2 : Mk W' (fun k => o k = 20) bg X.r.kids (1 + 2 * partsL X.l.kids)) : LMk w1 X Bw aw cw bw dw Bg ag cg bg dg o W' := by
  have st : Stay (fun k => ¬ (o k = 19 ∨ o k = 20)) W W' := hs.weak fun k _ hk => ⟨fun e => hk (.inl e), fun e => hk (.inr e)⟩
  have T := h.q.tg.write (t := fun g => g = 19 ∨ g = 20) st (by decide)
  have F : TP (fun g => g = 19 ∨ g = 20) o W o W' := ⟨st, fun _ _ => rfl⟩
  exact ⟨h.q.tp T F (by decide), h.g.b.tp F (by decide), hm1, hm2⟩
end
end Go.Proofs.Ytollijngiioonaa

/- A region that draws its order: copies of a list of functions and of two terms, an equation made of them, a box for it: what lies in memory, whatever has been done so far. Conditions: none. -/
namespace Go.Proofs.Ytollijngiioonaa
set_option maxRecDepth 100000
open Go.RowKit

structure LW (W1 : World) (ss : List SymD) (t u : TermD) (X : LitD) (L : Array Bool) (o : Nat → Nat) (W : World) (v1 v4 v6 v7 v8 : Value) : Prop where
  tg : Tg W1 o W
  c1 : Dn L 1 → ¬ Dn L 9 → ∃ G, v1 = .slice (some ⟨G, 0, none⟩) ss.length ss.length ∧ RdS W (some ⟨G, 0, none⟩) ss
  c4 : Dn L 4 → ¬ Dn L 9 → ∃ y, v4 = .agg #[.int .i64 t.f, .int .i64 t.v, .slice y t.kids.length t.kids.length] ∧ RdK W W.heap.size y t.kids
  c6 : Dn L 6 → ¬ Dn L 9 → ∃ y, v6 = .agg #[.int .i64 u.f, .int .i64 u.v, .slice y u.kids.length u.kids.length] ∧ RdK W W.heap.size y u.kids
  c7 : Dn L 7 → ∃ a1 c1 a2 c2, v7 = litV X a1 c1 a2 c2 ∧ OwnS W (fun k => o k = 11) a1 X.l.kids ∧ OwnS W (fun k => o k = 12) a2 X.r.kids ∧ X.l.kids.length ≤ c1 ∧ X.r.kids.length ≤ c2
  z8 : Dn L 8 → ¬ Dn L 9 → ∃ B, v8 = .pointer (some ⟨B, 0, none⟩) ∧ o B = 10 ∧ R7 W B
  f9 : Dn L 9 → ∃ B a1 c1 a2 c2, v8 = .pointer (some ⟨B, 0, none⟩) ∧ v7 = litV X a1 c1 a2 c2 ∧ B7 o W 10 B X a1 c1 a2 c2
section
variable {W1 : World} {ss : List SymD} {t u : TermD} {X : LitD} {L : Array Bool} {o : Nat → Nat} {W : World} {v1 v4 v6 v7 v8 : Value}
theorem LW.start (w : World) (ss : List SymD) (t u : TermD) (X : LitD) (n : Nat) (v1 v4 v6 v7 v8 : Value) : LW w ss t u X (Array.replicate n false) (fun _ => 0) w.drew v1 v4 v6 v7 v8 :=
  ⟨Tg.start w, fun h => absurd h dn_none, fun h => absurd h dn_none, fun h => absurd h dn_none, fun h => absurd h dn_none, fun h => absurd h dn_none, fun h => absurd h dn_none⟩
theorem dn_back {L : Array Bool} {i j : Nat} (hi : i < L.size) (hj : i ≠ j) (h : Dn (L.setIfInBounds i true) j) : Dn L j := ((dn_set hi).1 h).resolve_left (fun e => hj e.symm)
theorem dn_not {L : Array Bool} {i j : Nat} (hi : i < L.size) (h : ¬ Dn (L.setIfInBounds i true) j) : ¬ Dn L j := fun hx => h ((dn_set hi).2 (.inr hx))
theorem LW.pure (h : LW W1 ss t u X L o W v1 v4 v6 v7 v8) {i : Nat} (hi : i < L.size) (hn : i ≠ 1 ∧ i ≠ 4 ∧ i ≠ 6 ∧ i ≠ 7 ∧ i ≠ 8 ∧ i ≠ 9) : LW W1 ss t u X (L.setIfInBounds i true) o W v1 v4 v6 v7 v8 :=
  ⟨h.tg, fun d n => h.c1 (dn_back hi hn.1 d) (dn_not hi n), fun d n => h.c4 (dn_back hi hn.2.1 d) (dn_not hi n), fun d n => h.c6 (dn_back hi hn.2.2.1 d) (dn_not hi n), fun d => h.c7 (dn_back hi hn.2.2.2.1 d), fun d n => h.z8 (dn_back hi hn.2.2.2.2.1 d) (dn_not hi n), fun d => h.f9 (dn_back hi hn.2.2.2.2.2 d)⟩
/-- A step that only lays blocks. -/
theorem LW.old (h : LW W1 ss t u X L o W v1 v4 v6 v7 v8) {o' : Nat → Nat} {W' : World} (hb : Below W.heap.size W W') (T : Tg W1 o' W') (F : TP pNo o W o' W') : LW W1 ss t u X L o' W' v1 v4 v6 v7 v8 := by
  refine ⟨T, fun d n => ?_, fun d n => ?_, fun d n => ?_, fun d => ?_, fun d n => ?_, fun d => ?_⟩
  · obtain ⟨G, e, hr⟩ := h.c1 d n
    exact ⟨G, e, hr.below hb⟩
  · obtain ⟨y, e, hr⟩ := h.c4 d n
    exact ⟨y, e, (hr.on hb).mono hb.size⟩
  · obtain ⟨y, e, hr⟩ := h.c6 d n
    exact ⟨y, e, (hr.on hb).mono hb.size⟩
  · obtain ⟨a1, c1, a2, c2, e, h1, h2, h3⟩ := h.c7 d
    exact ⟨a1, c1, a2, c2, e, h1.tp h.tg F (by decide) id, h2.tp h.tg F (by decide) id, h3⟩
  · obtain ⟨B, e, hB, hR⟩ := h.z8 d n
    exact ⟨B, e, (F.old B hR.lt).trans hB, hR.stay F.st id⟩
  · obtain ⟨B, a1, c1, a2, c2, e1, e2, hB⟩ := h.f9 d
    exact ⟨B, a1, c1, a2, c2, e1, e2, hB.tp F id⟩
theorem LW.sym (h : LW W1 ss t u X L o W v1 v4 v6 v7 v8) (hi : 1 < L.size) {W' : World} (hb : Below W.heap.size W W') (hw : W'.ownsRow W.heap.size 83 3 (.slice (some ⟨W.heap.size, 0, none⟩) ss.length ss.length) ss.length (symCs ss)) :
    LW W1 ss t u X (L.setIfInBounds 1 true) o W' (.slice (some ⟨W.heap.size, 0, none⟩) ss.length ss.length) v4 v6 v7 v8 := by
  have g := h.old hb (h.tg.same hb) (TP.same _ o hb)
  exact ⟨g.tg, fun _ _ => ⟨_, rfl, RdS.own rfl hw⟩, fun d n => g.c4 (dn_back hi (by decide) d) (dn_not hi n), fun d n => g.c6 (dn_back hi (by decide) d) (dn_not hi n), fun d => g.c7 (dn_back hi (by decide) d), fun d n => g.z8 (dn_back hi (by decide) d) (dn_not hi n), fun d => g.f9 (dn_back hi (by decide) d)⟩
theorem LW.kidT (h : LW W1 ss t u X L o W v1 v4 v6 v7 v8) (hi : 4 < L.size) {W' : World} (hb : Below W.heap.size W W') {y : Option Addr} (hk : OwnS W' (fun k => W.heap.size ≤ k ∧ k < W'.heap.size) y t.kids) :
    LW W1 ss t u X (L.setIfInBounds 4 true) o W' v1 (.agg #[.int .i64 t.f, .int .i64 t.v, .slice y t.kids.length t.kids.length]) v6 v7 v8 := by
  have g := h.old hb (h.tg.same hb) (TP.same _ o hb)
  exact ⟨g.tg, fun d n => g.c1 (dn_back hi (by decide) d) (dn_not hi n), fun _ _ => ⟨_, rfl, hk.rd⟩, fun d n => g.c6 (dn_back hi (by decide) d) (dn_not hi n), fun d => g.c7 (dn_back hi (by decide) d), fun d n => g.z8 (dn_back hi (by decide) d) (dn_not hi n), fun d => g.f9 (dn_back hi (by decide) d)⟩
theorem LW.kidU (h : LW W1 ss t u X L o W v1 v4 v6 v7 v8) (hi : 6 < L.size) {W' : World} (hb : Below W.heap.size W W') {y : Option Addr} (hk : OwnS W' (fun k => W.heap.size ≤ k ∧ k < W'.heap.size) y u.kids) :
    LW W1 ss t u X (L.setIfInBounds 6 true) o W' v1 v4 (.agg #[.int .i64 u.f, .int .i64 u.v, .slice y u.kids.length u.kids.length]) v7 v8 := by
  have g := h.old hb (h.tg.same hb) (TP.same _ o hb)
  exact ⟨g.tg, fun d n => g.c1 (dn_back hi (by decide) d) (dn_not hi n), fun d n => g.c4 (dn_back hi (by decide) d) (dn_not hi n), fun _ _ => ⟨_, rfl, hk.rd⟩, fun d => g.c7 (dn_back hi (by decide) d), fun d n => g.z8 (dn_back hi (by decide) d) (dn_not hi n), fun d => g.f9 (dn_back hi (by decide) d)⟩
theorem LW.call (h : LW W1 ss t u X L o W v1 v4 v6 v7 v8) (hi : 7 < L.size) (hn9 : ¬ Dn L 9) {W' : World} (hb : Below W.heap.size W W') {a1 : Option Addr} {c1 : Nat} {a2 : Option Addr} {c2 : Nat} {S1 S2 : Nat → Prop} (hX : OwnX W W' X a1 c1 a2 c2 S1 S2) :
    ∃ o', LW W1 ss t u X (L.setIfInBounds 7 true) o' W' v1 v4 v6 (litV X a1 c1 a2 c2) v8 := by
  have g := h.old hb (h.tg.two hb hX.i1 hX.i2 11 12) (TP.two pNo o hb (fun k hk => (hX.i1 k hk).1) (fun k hk => (hX.i2 k hk).1) 11 12)
  exact ⟨_, g.tg, fun d n => g.c1 (dn_back hi (by decide) d) (dn_not hi n), fun d n => g.c4 (dn_back hi (by decide) d) (dn_not hi n), fun d n => g.c6 (dn_back hi (by decide) d) (dn_not hi n), fun _ => ⟨_, _, _, _, rfl, hX.o1.mono fun k hk => upd2_1 hk, hX.o2.mono fun k hk => upd2_2 hk (fun h => hX.dis k h hk), hX.l1, hX.l2⟩, fun d n => g.z8 (dn_back hi (by decide) d) (dn_not hi n), fun d => absurd (dn_back hi (by decide) d) hn9⟩
theorem LW.box (h : LW W1 ss t u X L o W v1 v4 v6 v7 v8) (hi : 8 < L.size) (hn9 : ¬ Dn L 9) (TT : TypeId) :
    ∃ o', LW W1 ss t u X (L.setIfInBounds 8 true) o' (W.alloc (.cells #[.bool false, .int .i64 0, .int .i64 0, .slice none 0 0, .int .i64 0, .int .i64 0, .slice none 0 0] TT)) v1 v4 v6 v7 (.pointer (some ⟨W.heap.size, 0, none⟩)) := by
  have hb : Below W.heap.size W (W.alloc (.cells #[.bool false, .int .i64 0, .int .i64 0, .slice none 0 0, .int .i64 0, .int .i64 0, .slice none 0 0] TT)) := (Below.refl _ _).alloc (Nat.le_refl _) _
  have g := h.old hb (h.tg.grow hb 10) (TP.grow pNo o hb 10)
  exact ⟨_, g.tg, fun d n => g.c1 (dn_back hi (by decide) d) (dn_not hi n), fun d n => g.c4 (dn_back hi (by decide) d) (dn_not hi n), fun d n => g.c6 (dn_back hi (by decide) d) (dn_not hi n), fun d => g.c7 (dn_back hi (by decide) d), fun _ _ => ⟨_, rfl, upd_new (Nat.le_refl _) (by simp), by simp [go_sem], by simp [go_sem], by simp [go_sem], by simp [go_sem], by simp [go_sem], by simp [go_sem], by simp [go_sem], fun j => by simp [go_sem]⟩, fun d => absurd (dn_back hi (by decide) d) hn9⟩
theorem LW.put {B : Nat} {a1 : Option Addr} {c1 : Nat} {a2 : Option Addr} {c2 : Nat} (h : LW W1 ss t u X L o W v1 v4 v6 (litV X a1 c1 a2 c2) (.pointer (some ⟨B, 0, none⟩))) (hi : 9 < L.size) (hob : o B = 10) (hR : R7 W B) :
    LW W1 ss t u X (L.setIfInBounds 9 true) o (((((((W.setCell ⟨B, 0, none⟩ (.bool X.p)).setCell ⟨B, 1, none⟩ (.int .i64 X.l.f)).setCell ⟨B, 2, none⟩ (.int .i64 X.l.v)).setCell ⟨B, 3, none⟩ (.slice a1 X.l.kids.length c1)).setCell ⟨B, 4, none⟩ (.int .i64 X.r.f)).setCell ⟨B, 5, none⟩ (.int .i64 X.r.v)).setCell ⟨B, 6, none⟩ (.slice a2 X.r.kids.length c2)) v1 v4 v6 (litV X a1 c1 a2 c2) (.pointer (some ⟨B, 0, none⟩)) := by
  have st : Stay (fun k => ¬ (o k = 10)) W _ := (set7_stay W B (.bool X.p) (.int .i64 X.l.f) (.int .i64 X.l.v) (.slice a1 X.l.kids.length c1) (.int .i64 X.r.f) (.int .i64 X.r.v) (.slice a2 X.r.kids.length c2)).weak (fun k _ hk e => hk (e ▸ hob))
  have T := h.tg.write (t := fun g => g = 10) st (by decide)
  have F : TP (fun g => g = 10) o W o _ := ⟨st, fun _ _ => rfl⟩
  have h9 : Dn (L.setIfInBounds 9 true) 9 := (dn_set hi).2 (.inl rfl)
  refine ⟨T, fun _ n => absurd h9 n, fun _ n => absurd h9 n, fun _ n => absurd h9 n, fun d => ?_, fun _ n => absurd h9 n, fun _ => ⟨B, a1, c1, a2, c2, rfl, rfl, hob, R7.set hR _ _ _ _ _ _ _⟩⟩
  obtain ⟨e1, k1, e2, k2, e, h1, h2, h3⟩ := h.c7 (dn_back hi (by decide) d)
  exact ⟨e1, k1, e2, k2, e, h1.tp h.tg F (by decide) (by decide), h2.tp h.tg F (by decide) (by decide), h3⟩
/-- At its end. -/
theorem LW.fin (h : LW W1 ss t u X L o W v1 v4 v6 v7 v8) (h7 : Dn L 7) (h9 : Dn L 9) : ∃ B a1 c1 a2 c2, v8 = .pointer (some ⟨B, 0, none⟩) ∧ X7 o W 10 11 12 B X a1 c1 a2 c2 := by
  obtain ⟨e1, k1, e2, k2, rfl, h1, h2, h3⟩ := h.c7 h7
  obtain ⟨B, a1, c1, a2, c2, e, e', hB⟩ := h.f9 h9
  unfold litV at e'
  have q : e1 = a1 ∧ k1 = c1 ∧ e2 = a2 ∧ k2 = c2 := by
    injection e' with e'
    have := congrArg Array.toList e'
    simp at this
    exact ⟨this.1.1, this.1.2, this.2.1, this.2.2⟩
  obtain ⟨rfl, rfl, rfl, rfl⟩ := q
  exact ⟨B, e1, k1, e2, k2, e, hB, h1, h2⟩
end
end Go.Proofs.Ytollijngiioonaa

/- An equation made of two terms, as the specification makes it. Conditions: at most 549755813888 parts; at most 1048577 functions. -/
namespace Go.Proofs.Ytollijngiioonaa
set_option maxRecDepth 100000
open Go.RowKit

set_option maxHeartbeats 6400000 in
theorem specLitMake_any (sa : Option Addr) (ss : List SymD) (sc : Nat) (p : Bool) (t u : TermD) (a b : Option Addr) (c d hi : Nat) (w : World) (hsl : ss.length ≤ 1048577) (hs : RdS w sa ss) (hp1 : partsT t ≤ 549755813888) (hp2 : partsT u ≤ 549755813888) (hx1 : RdK w hi a t.kids) (hx2 : RdK w hi b u.kids) (hhi : hi ≤ w.heap.size) (hw1 : isW t.f ∧ isW t.v) (hw2 : isW u.f ∧ isW u.v) :
    Calls Try.prog 17 #[.slice sa ss.length sc, .bool p, .agg #[.int .i64 t.f, .int .i64 t.v, .slice a t.kids.length c], .agg #[.int .i64 u.f, .int .i64 u.v, .slice b u.kids.length d]] w fun e w' => ∃ a1 c1 a2 c2 S1 S2, e = .returned (litV (makeX ss p t u) a1 c1 a2 c2) ∧ OwnX w w' (makeX ss p t u) a1 c1 a2 c2 S1 S2 ∧ Below w.heap.size w w' := by
  obtain ⟨W0, hW0⟩ : ∃ W0, W0 = ((w.alloc (.cells #[.int .i64 t.f, .int .i64 t.v, .slice a t.kids.length c] 27)).alloc (.cells #[.int .i64 u.f, .int .i64 u.v, .slice b u.kids.length d] 27)).alloc (.cells #[.bool false, .int .i64 0, .int .i64 0, .slice none 0 0, .int .i64 0, .int .i64 0, .slice none 0 0] 43) := ⟨_, rfl⟩
  have hB0 : Below w.heap.size w W0 := by rw [hW0]; exact (((Below.refl _ _).alloc (Nat.le_refl _) _).alloc (by simp) _).alloc (by simp; omega) _
  have hz0 : W0.heap.size = w.heap.size + 1 + 1 + 1 := by rw [hW0]; simp
  have CT0 : C3 W0 w.heap.size (.int .i64 t.f) (.int .i64 t.v) (.slice a t.kids.length c) := by rw [hW0]; exact ⟨by simp [go_sem], by simp [go_sem], by simp [go_sem]⟩
  have CU0 : C3 W0 (w.heap.size + 1) (.int .i64 u.f) (.int .i64 u.v) (.slice b u.kids.length d) := by rw [hW0]; exact ⟨by simp [go_sem], by simp [go_sem], by simp [go_sem]⟩
  have RC0 : Hid (R7 W0 (w.heap.size + 1 + 1)) := by rw [hW0]; exact ⟨by simp [go_sem], by simp [go_sem], by simp [go_sem], by simp [go_sem], by simp [go_sem], by simp [go_sem], by simp [go_sem], fun j => by simp [go_sem]⟩
  have hnf : Hid (∀ x : TermD, (normT (blindAt ss) x).f = x.f ∧ (normT (blindAt ss) x).v = x.v) := fun x => by rw [normT_eq]; exact ⟨rfl, rfl⟩
  have E1 := fun (W' : World) (h : Below w.heap.size w W') => specNorm_any ss sa sc hsl 549755813888 t a c hi W' hp1 (Nat.le_refl _) (hx1.on (h.mono hhi)) (Nat.le_trans hhi h.size) hw1.1 hw1.2 (hs.below h)
  have E2 := fun (W' : World) (h : Below w.heap.size w W') => specNorm_any ss sa sc hsl 549755813888 u b d hi W' hp2 (Nat.le_refl _) (hx2.on (h.mono hhi)) (Nat.le_trans hhi h.size) hw2.1 hw2.2 (hs.below h)
  go_enter Try.func17, Try.ntmps17
  go_upto_region 1 with fail
  rw [← hW0]
  refine wp_region_keeps (by kernel_rfl) (rs := [0, 1, 2, 3, 4, 5, 6, 7, 8, 9]) (fun L a' W => ∃ (s9 s10 s11 s12 s13 s14 s15 s16 : Value) (o : Nat → Nat), a' = ({ tmps := #[.slice sa ss.length sc, .bool p, .agg #[.int .i64 t.f, .int .i64 t.v, .slice a t.kids.length c], .agg #[.int .i64 u.f, .int .i64 u.v, .slice b u.kids.length d], undef, undef, .pointer (some ⟨w.heap.size, 0, none⟩), .pointer (some ⟨w.heap.size + 1, 0, none⟩), .pointer (some ⟨w.heap.size + 1 + 1, 0, none⟩), s9, s10, s11, s12, s13, s14, s15, s16, undef, undef, undef, undef, undef, undef, undef, undef, undef, undef, undef], defers := [] } : Act) ∧ (Dn L 0 → s11 = .slice sa ss.length sc) ∧ (Dn L 1 → s12 = .agg #[.int .i64 t.f, .int .i64 t.v, .slice a t.kids.length c]) ∧ (Dn L 3 → s14 = .slice sa ss.length sc) ∧ (Dn L 4 → s15 = .agg #[.int .i64 u.f, .int .i64 u.v, .slice b u.kids.length d]) ∧ CB W0 (normT (blindAt ss) t) (normT (blindAt ss) u) 2 5 6 7 8 9 L o W s13 s16 s9 s10) (by kernel_rfl) (by kernel_rfl) ⟨_, _, _, _, _, _, _, _, fun _ => 0, rfl, fun h => absurd h dn_none, fun h => absurd h dn_none, fun h => absurd h dn_none, fun h => absurd h dn_none, CB.start W0 _ _ _ _ _ _ _ _ _ _ _ _ _⟩ (fun L a' W hd h => ?_) ?_
  · obtain ⟨s9, s10, s11, s12, s13, s14, s15, s16, o, rfl, -, -, -, -, hM⟩ := h
    have hT := hM.tg
    obtain ⟨a1, c1', rfl, ho1, hl1'⟩ := hM.c1 (hd 2 (by decide))
    obtain ⟨a2, c2', rfl, ho2, hl2'⟩ := hM.c2 (hd 5 (by decide))
    obtain ⟨B1, x1, y1, z1, rfl, hv1, hb1, hz1, hC1⟩ := hM.f1 (hd 8 (by decide))
    obtain ⟨B2, x2, y2, z2, rfl, hv2, hb2, hz2, hC2⟩ := hM.f2 (hd 9 (by decide))
    have e1 : x1 = .int .i64 (normT (blindAt ss) t).f ∧ y1 = .int .i64 (normT (blindAt ss) t).v ∧ z1 = .slice a1 (normT (blindAt ss) t).kids.length c1' := by simpa using hv1.symm
    have e2 : x2 = .int .i64 (normT (blindAt ss) u).f ∧ y2 = .int .i64 (normT (blindAt ss) u).v ∧ z2 = .slice a2 (normT (blindAt ss) u).kids.length c2' := by simpa using hv2.symm
    obtain ⟨rfl, rfl, rfl⟩ := e1
    obtain ⟨rfl, rfl, rfl⟩ := e2
    clear hv1 hv2
    have hbW : Below w.heap.size w W := hB0.trans (hT.bel.mono hB0.size)
    have hne : B1 ≠ B2 := fun e => by rw [e] at hb1; omega
    have hlo1 := (hT.own B1 (by omega)).1
    have hlo2 := (hT.own B2 (by omega)).1
    have CB2 := specBefore_any 549755813888 (normT (blindAt ss) t) (normT (blindAt ss) u) a1 a2 c1' c2' W.heap.size W (Nat.le_trans (normT_parts _ t) hp1) (by omega) ho1.rd ho2.rd (Nat.le_refl _)
    have HX : Hid (makeX ss p t u = if befT (normT (blindAt ss) t) (normT (blindAt ss) u) then ⟨p, normT (blindAt ss) u, normT (blindAt ss) t⟩ else ⟨p, normT (blindAt ss) t, normT (blindAt ss) u⟩) := rfl
    have hi1 : ∀ k, o k = 1 → w.heap.size ≤ k ∧ k < W.heap.size := fun k hk => by have := hT.own k (by omega); omega
    have hi2 : ∀ k, o k = 2 → w.heap.size ≤ k ∧ k < W.heap.size := fun k hk => by have := hT.own k (by omega); omega
    have HO : Hid (OwnS W (fun k => o k = 1) a1 (normT (blindAt ss) t).kids ∧ OwnS W (fun k => o k = 2) a2 (normT (blindAt ss) u).kids ∧ o B1 = 3 ∧ o B2 = 4 ∧ (∀ k, o k = 1 → w.heap.size + 1 + 1 + 1 ≤ k ∧ k < W.heap.size) ∧ (∀ k, o k = 2 → w.heap.size + 1 + 1 + 1 ≤ k ∧ k < W.heap.size)) := ⟨ho1, ho2, hb1, hb2, fun k hk => hz0 ▸ hT.own k (by omega), fun k hk => hz0 ▸ hT.own k (by omega)⟩
    have r0 : Hid (R7 W (w.heap.size + 1 + 1)) := RC0.out.stay (.of_below hT.bel (fun k hk _ => by omega)) (by omega : w.heap.size + 1 + 1 < W0.heap.size)
    have hX1 : Hid (o B1 = 3 ∧ o B2 = 4 ∧ (∀ j, W.frozen? ⟨B1, j, none⟩ = false) ∧ (∀ j, W.frozen? ⟨B2, j, none⟩ = false)) := ⟨hb1, hb2, hz1, hz2⟩
    generalize normT (blindAt ss) t = l at *
    generalize normT (blindAt ss) u = r at *
    generalize befT l r = q at *
    clear hM hT hb1 hb2 hz1 hz2 ho1 ho2 E1 E2 RC0
    obtain ⟨m0, m1, m2⟩ := hC1
    obtain ⟨n0, n1, n2⟩ := hC2
    have HC : Hid (C3 W B1 (.int .i64 l.f) (.int .i64 l.v) (.slice a1 l.kids.length c1') ∧ C3 W B2 (.int .i64 r.f) (.int .i64 r.v) (.slice a2 r.kids.length c2')) := ⟨⟨m0, m1, m2⟩, ⟨n0, n1, n2⟩⟩
    have hl1 : B1 < W.heap.size := HC.out.1.lt
    have hl2 : B2 < W.heap.size := HC.out.2.lt
    cases q
    · go_wp2_with (go_at_call 53; refine CB2.mono ?_; rintro e w1 ⟨rfl, hb⟩; have R1 := r0.out.stay (S := fun _ => True) (.of_below hb (fun k hk _ => hk)) trivial; obtain ⟨u0, u1, u2, u3, u4, u5, u6, uf⟩ := R1; have f0 := uf 0; have f1 := uf 1; have f2 := uf 2; have f3 := uf 3; have f4 := uf 4; have f5 := uf 5; have f6 := uf 6; have RW : R7 w1 (w.heap.size + 1 + 1) := ⟨u0, u1, u2, u3, u4, u5, u6, uf⟩; clear uf; have HC1 := HC.out.1.on hb; have HC2 := HC.out.2.on hb; clear m0 m1 m2 n0 n1 n2; obtain ⟨m0, m1, m2⟩ := HC1; obtain ⟨n0, n1, n2⟩ := HC2)
      obtain ⟨g0, g1, g2, g3, g4, g5, g6⟩ := R7.set RW (.bool p) (.int .i64 l.f) (.int .i64 l.v) (.slice a1 l.kids.length c1') (.int .i64 r.f) (.int .i64 r.v) (.slice a2 r.kids.length c2')
      refine bodyPost_ret (v := .agg #[.bool p, .int .i64 l.f, .int .i64 l.v, .slice a1 l.kids.length c1', .int .i64 r.f, .int .i64 r.v, .slice a2 r.kids.length c2']) (by simp [results, Try.results17, go_sem, g0, g1, g2, g3, g4, g5, g6]) rfl ?_
      clear g0 g1 g2 g3 g4 g5 g6
      have HXF : makeX ss p t u = ⟨p, l, r⟩ := HX.out.trans rfl
      have hst := set7_stay w1 (w.heap.size + 1 + 1) (.bool p) (.int .i64 l.f) (.int .i64 l.v) (.slice a1 l.kids.length c1') (.int .i64 r.f) (.int .i64 r.v) (.slice a2 r.kids.length c2')
      have hH := HO.out
      have hs0 := hb.size
      have hs1 := hst.size
      have hbw := hbW.size
      refine ⟨a1, c1', a2, c2', fun k => o k = 1, fun k => o k = 2, ?_, ?_, ?_⟩
      · rw [HXF]
        rfl
      · rw [HXF]
        exact ⟨(hH.1.frame (fun k hk => hb.block k (hi1 k hk).2) hb.size).frame (fun k hk => hst.block k (by have := hi1 k hk; omega) (by have := hH.2.2.2.2.1 k hk; omega)) hst.size, (hH.2.1.frame (fun k hk => hb.block k (hi2 k hk).2) hb.size).frame (fun k hk => hst.block k (by have := hi2 k hk; omega) (by have := hH.2.2.2.2.2 k hk; omega)) hst.size, fun k h1 h2 => by omega, fun k hk => by have := hi1 k hk; omega, fun k hk => by have := hi2 k hk; omega, hl1', hl2'⟩
      · exact (hbW.trans (hb.mono hbW.size)).trans (hst.below (by omega) (fun k hk => by omega))
    · go_wp2_with (go_at_call 53; refine CB2.mono ?_; rintro e w1 ⟨rfl, hb⟩; have R1 := r0.out.stay (S := fun _ => True) (.of_below hb (fun k hk _ => hk)) trivial; obtain ⟨u0, u1, u2, u3, u4, u5, u6, uf⟩ := R1; have f0 := uf 0; have f1 := uf 1; have f2 := uf 2; have f3 := uf 3; have f4 := uf 4; have f5 := uf 5; have f6 := uf 6; have RW : R7 w1 (w.heap.size + 1 + 1) := ⟨u0, u1, u2, u3, u4, u5, u6, uf⟩; clear uf; have z0 := (hb.frozen (p := ⟨B1, 0, none⟩) hl1).trans (hX1.out.2.2.1 0); have z1 := (hb.frozen (p := ⟨B1, 1, none⟩) hl1).trans (hX1.out.2.2.1 1); have z2 := (hb.frozen (p := ⟨B1, 2, none⟩) hl1).trans (hX1.out.2.2.1 2); have z3 := (hb.frozen (p := ⟨B2, 0, none⟩) hl2).trans (hX1.out.2.2.2 0); have z4 := (hb.frozen (p := ⟨B2, 1, none⟩) hl2).trans (hX1.out.2.2.2 1); have z5 := (hb.frozen (p := ⟨B2, 2, none⟩) hl2).trans (hX1.out.2.2.2 2); have HC1 := HC.out.1.on hb; have HC2 := HC.out.2.on hb; clear m0 m1 m2 n0 n1 n2; obtain ⟨m0, m1, m2⟩ := HC1; obtain ⟨n0, n1, n2⟩ := HC2)
      obtain ⟨hob1, hob2, -, -⟩ := hX1.out
      obtain ⟨g0, g1, g2, g3, g4, g5, g6⟩ := R7.set RW (.bool p) (.int .i64 r.f) (.int .i64 r.v) (.slice a2 r.kids.length c2') (.int .i64 l.f) (.int .i64 l.v) (.slice a1 l.kids.length c1')
      refine bodyPost_ret (v := .agg #[.bool p, .int .i64 r.f, .int .i64 r.v, .slice a2 r.kids.length c2', .int .i64 l.f, .int .i64 l.v, .slice a1 l.kids.length c1']) (by simp [results, Try.results17, go_sem, g0, g1, g2, g3, g4, g5, g6]) rfl ?_
      clear g0 g1 g2 g3 g4 g5 g6
      have HXF : makeX ss p t u = ⟨p, r, l⟩ := HX.out.trans rfl
      have hst := set7_stay w1 (w.heap.size + 1 + 1) (.bool p) (.int .i64 r.f) (.int .i64 r.v) (.slice a2 r.kids.length c2') (.int .i64 l.f) (.int .i64 l.v) (.slice a1 l.kids.length c1')
      have hH := HO.out
      have hs0 := hb.size
      have hs1 := hst.size
      have hbw := hbW.size
      refine ⟨a2, c2', a1, c1', fun k => o k = 2, fun k => o k = 1, ?_, ?_, ?_⟩
      · rw [HXF]
        rfl
      · rw [HXF]
        have k1 : ∀ k, o k = 1 → k ≠ B1 ∧ k ≠ B2 ∧ k ≠ w.heap.size + 1 + 1 := fun k hk => ⟨fun e => by rw [e] at hk; omega, fun e => by rw [e] at hk; omega, by have := hH.2.2.2.2.1 k hk; omega⟩
        have k2 : ∀ k, o k = 2 → k ≠ B1 ∧ k ≠ B2 ∧ k ≠ w.heap.size + 1 + 1 := fun k hk => ⟨fun e => by rw [e] at hk; omega, fun e => by rw [e] at hk; omega, by have := hH.2.2.2.2.2 k hk; omega⟩
        exact ⟨(hH.2.1.frame (fun k hk => hb.block k (hi2 k hk).2) hb.size).frame (fun k hk => hst.block k (by have := hi2 k hk; omega) (k2 k hk).2.2) hst.size, (hH.1.frame (fun k hk => hb.block k (hi1 k hk).2) hb.size).frame (fun k hk => hst.block k (by have := hi1 k hk; omega) (k1 k hk).2.2) hst.size, fun k h1 h2 => by omega, fun k hk => by have := hi2 k hk; omega, fun k hk => by have := hi1 k hk; omega, hl2', hl1'⟩
      · exact (hbW.trans (hb.mono hbW.size)).trans (hst.below (by omega) (fun k hk => by omega))

  refine KeepAll.cons (ds := []) rfl (by kernel_rfl) (fun L a' W K hK hL hcl hn hd hI => ?_) ?_
  · obtain ⟨s9, s10, s11, s12, s13, s14, s15, s16, o, rfl, h0, h1, h3, h4, hM⟩ := hI
    go_simp
    refine hK _ _ ⟨_, _, _, _, _, _, _, _, o, rfl, fun _ => rfl, (by first | exact fun _ => rfl | exact fun q => h1 (((dn_set hL).1 q).resolve_left (by decide))), (by first | exact fun _ => rfl | exact fun q => h3 (((dn_set hL).1 q).resolve_left (by decide))), (by first | exact fun _ => rfl | exact fun q => h4 (((dn_set hL).1 q).resolve_left (by decide))), hM.pure hL ⟨by decide, by decide, by decide, by decide, by decide, by decide⟩⟩
  refine KeepAll.cons (ds := []) rfl (by kernel_rfl) (fun L a' W K hK hL hcl hn hd hI => ?_) ?_
  · obtain ⟨s9, s10, s11, s12, s13, s14, s15, s16, o, rfl, h0, h1, h3, h4, hM⟩ := hI
    obtain ⟨k0, k1, k2⟩ := CT0.on hM.tg.bel
    go_simp
    refine hK _ _ ⟨_, _, _, _, _, _, _, _, o, rfl, (by first | exact fun _ => rfl | exact fun q => h0 (((dn_set hL).1 q).resolve_left (by decide))), fun _ => rfl, (by first | exact fun _ => rfl | exact fun q => h3 (((dn_set hL).1 q).resolve_left (by decide))), (by first | exact fun _ => rfl | exact fun q => h4 (((dn_set hL).1 q).resolve_left (by decide))), hM.pure hL ⟨by decide, by decide, by decide, by decide, by decide, by decide⟩⟩
  refine KeepAll.cons (ds := [0, 1]) rfl (by kernel_rfl) (fun L a' W K hK hL hcl hn hd hI => ?_) ?_
  · obtain ⟨s9, s10, s11, s12, s13, s14, s15, s16, o, rfl, h0, h1, h3, h4, hM⟩ := hI
    obtain rfl := h0 (hd _ (by simp))
    obtain rfl := h1 (hd _ (by simp))
    go_simp
    refine (E1 W (hB0.trans (hM.tg.bel.mono hB0.size))).mono ?_
    rintro e W' ⟨a1, c1', rfl, ho, hcc, hb⟩
    obtain ⟨o2, hM2⟩ := hM.call1 hL ⟨by decide, by decide, by decide, by decide, by decide⟩ (fun q => hn (hcl 8 _ rfl q 2 (by decide))) hb ho.s hcc
    rw [(hnf.out t).1, (hnf.out t).2] at hM2
    exact hK _ _ ⟨_, _, _, _, _, _, _, _, o2, rfl, (by first | exact fun _ => rfl | exact fun q => h0 (((dn_set hL).1 q).resolve_left (by decide))), (by first | exact fun _ => rfl | exact fun q => h1 (((dn_set hL).1 q).resolve_left (by decide))), (by first | exact fun _ => rfl | exact fun q => h3 (((dn_set hL).1 q).resolve_left (by decide))), (by first | exact fun _ => rfl | exact fun q => h4 (((dn_set hL).1 q).resolve_left (by decide))), hM2⟩
  refine KeepAll.cons (ds := []) rfl (by kernel_rfl) (fun L a' W K hK hL hcl hn hd hI => ?_) ?_
  · obtain ⟨s9, s10, s11, s12, s13, s14, s15, s16, o, rfl, h0, h1, h3, h4, hM⟩ := hI
    go_simp
    refine hK _ _ ⟨_, _, _, _, _, _, _, _, o, rfl, (by first | exact fun _ => rfl | exact fun q => h0 (((dn_set hL).1 q).resolve_left (by decide))), (by first | exact fun _ => rfl | exact fun q => h1 (((dn_set hL).1 q).resolve_left (by decide))), fun _ => rfl, (by first | exact fun _ => rfl | exact fun q => h4 (((dn_set hL).1 q).resolve_left (by decide))), hM.pure hL ⟨by decide, by decide, by decide, by decide, by decide, by decide⟩⟩
  refine KeepAll.cons (ds := []) rfl (by kernel_rfl) (fun L a' W K hK hL hcl hn hd hI => ?_) ?_
  · obtain ⟨s9, s10, s11, s12, s13, s14, s15, s16, o, rfl, h0, h1, h3, h4, hM⟩ := hI
    obtain ⟨k0, k1, k2⟩ := CU0.on hM.tg.bel
    go_simp
    refine hK _ _ ⟨_, _, _, _, _, _, _, _, o, rfl, (by first | exact fun _ => rfl | exact fun q => h0 (((dn_set hL).1 q).resolve_left (by decide))), (by first | exact fun _ => rfl | exact fun q => h1 (((dn_set hL).1 q).resolve_left (by decide))), (by first | exact fun _ => rfl | exact fun q => h3 (((dn_set hL).1 q).resolve_left (by decide))), fun _ => rfl, hM.pure hL ⟨by decide, by decide, by decide, by decide, by decide, by decide⟩⟩
  refine KeepAll.cons (ds := [3, 4, 2]) rfl (by kernel_rfl) (fun L a' W K hK hL hcl hn hd hI => ?_) ?_
  · obtain ⟨s9, s10, s11, s12, s13, s14, s15, s16, o, rfl, h0, h1, h3, h4, hM⟩ := hI
    obtain rfl := h3 (hd _ (by simp))
    obtain rfl := h4 (hd _ (by simp))
    go_simp
    refine (E2 W (hB0.trans (hM.tg.bel.mono hB0.size))).mono ?_
    rintro e W' ⟨a1, c1', rfl, ho, hcc, hb⟩
    obtain ⟨o2, hM2⟩ := hM.call2 hL ⟨by decide, by decide, by decide, by decide, by decide⟩ (fun q => hn (hcl 9 _ rfl q 5 (by decide))) hb ho.s hcc
    rw [(hnf.out u).1, (hnf.out u).2] at hM2
    exact hK _ _ ⟨_, _, _, _, _, _, _, _, o2, rfl, (by first | exact fun _ => rfl | exact fun q => h0 (((dn_set hL).1 q).resolve_left (by decide))), (by first | exact fun _ => rfl | exact fun q => h1 (((dn_set hL).1 q).resolve_left (by decide))), (by first | exact fun _ => rfl | exact fun q => h3 (((dn_set hL).1 q).resolve_left (by decide))), (by first | exact fun _ => rfl | exact fun q => h4 (((dn_set hL).1 q).resolve_left (by decide))), hM2⟩
  refine KeepAll.cons (ds := []) rfl (by kernel_rfl) (fun L a' W K hK hL hcl hn hd hI => ?_) ?_
  · obtain ⟨s9, s10, s11, s12, s13, s14, s15, s16, o, rfl, h0, h1, h3, h4, hM⟩ := hI
    go_simp
    obtain ⟨o2, hM2⟩ := hM.box1 hL ⟨by decide, by decide, by decide, by decide, by decide⟩ (fun q => hn (hcl 8 _ rfl q 6 (by decide))) 27
    exact hK _ _ ⟨_, _, _, _, _, _, _, _, o2, rfl, (by first | exact fun _ => rfl | exact fun q => h0 (((dn_set hL).1 q).resolve_left (by decide))), (by first | exact fun _ => rfl | exact fun q => h1 (((dn_set hL).1 q).resolve_left (by decide))), (by first | exact fun _ => rfl | exact fun q => h3 (((dn_set hL).1 q).resolve_left (by decide))), (by first | exact fun _ => rfl | exact fun q => h4 (((dn_set hL).1 q).resolve_left (by decide))), hM2⟩
  refine KeepAll.cons (ds := []) rfl (by kernel_rfl) (fun L a' W K hK hL hcl hn hd hI => ?_) ?_
  · obtain ⟨s9, s10, s11, s12, s13, s14, s15, s16, o, rfl, h0, h1, h3, h4, hM⟩ := hI
    go_simp
    obtain ⟨o2, hM2⟩ := hM.box2 hL ⟨by decide, by decide, by decide, by decide, by decide⟩ (fun q => hn (hcl 9 _ rfl q 7 (by decide))) 27
    exact hK _ _ ⟨_, _, _, _, _, _, _, _, o2, rfl, (by first | exact fun _ => rfl | exact fun q => h0 (((dn_set hL).1 q).resolve_left (by decide))), (by first | exact fun _ => rfl | exact fun q => h1 (((dn_set hL).1 q).resolve_left (by decide))), (by first | exact fun _ => rfl | exact fun q => h3 (((dn_set hL).1 q).resolve_left (by decide))), (by first | exact fun _ => rfl | exact fun q => h4 (((dn_set hL).1 q).resolve_left (by decide))), hM2⟩
  refine KeepAll.cons (ds := [6, 2, 5, 0, 1, 2, 6, 7]) rfl (by kernel_rfl) (fun L a' W K hK hL hcl hn hd hI => ?_) ?_
  · obtain ⟨s9, s10, s11, s12, s13, s14, s15, s16, o, rfl, h0, h1, h3, h4, hM⟩ := hI
    obtain ⟨a1, c1', rfl, hoo⟩ := hM.c1 (hd 2 (by simp))
    obtain ⟨B, x, y, z, rfl, hv, hob, hz, hC⟩ := hM.z1 (hd 6 (by simp)) hn
    obtain ⟨q0, q1, q2⟩ := hC
    have g0 := hz 0
    have g1 := hz 1
    have g2 := hz 2
    clear hv
    go_simp
    exact hK _ _ ⟨_, _, _, _, _, _, _, _, o, rfl, (by first | exact fun _ => rfl | exact fun q => h0 (((dn_set hL).1 q).resolve_left (by decide))), (by first | exact fun _ => rfl | exact fun q => h1 (((dn_set hL).1 q).resolve_left (by decide))), (by first | exact fun _ => rfl | exact fun q => h3 (((dn_set hL).1 q).resolve_left (by decide))), (by first | exact fun _ => rfl | exact fun q => h4 (((dn_set hL).1 q).resolve_left (by decide))), hM.put1 hL ⟨by decide, by decide, by decide, by decide, by decide⟩ hob hz ⟨q0, q1, q2⟩⟩
  refine KeepAll.cons (ds := [7, 5, 8, 0, 1, 2, 3, 4, 5, 6, 7, 8]) rfl (by kernel_rfl) (fun L a' W K hK hL hcl hn hd hI => ?_) ?_
  · obtain ⟨s9, s10, s11, s12, s13, s14, s15, s16, o, rfl, h0, h1, h3, h4, hM⟩ := hI
    obtain ⟨a1, c1', rfl, hoo⟩ := hM.c2 (hd 5 (by simp))
    obtain ⟨B, x, y, z, rfl, hv, hob, hz, hC⟩ := hM.z2 (hd 7 (by simp)) hn
    obtain ⟨q0, q1, q2⟩ := hC
    have g0 := hz 0
    have g1 := hz 1
    have g2 := hz 2
    clear hv
    go_simp
    exact hK _ _ ⟨_, _, _, _, _, _, _, _, o, rfl, (by first | exact fun _ => rfl | exact fun q => h0 (((dn_set hL).1 q).resolve_left (by decide))), (by first | exact fun _ => rfl | exact fun q => h1 (((dn_set hL).1 q).resolve_left (by decide))), (by first | exact fun _ => rfl | exact fun q => h3 (((dn_set hL).1 q).resolve_left (by decide))), (by first | exact fun _ => rfl | exact fun q => h4 (((dn_set hL).1 q).resolve_left (by decide))), hM.put2 hL ⟨by decide, by decide, by decide, by decide, by decide⟩ hob hz ⟨q0, q1, q2⟩⟩
  exact KeepAll.nil
end Go.Proofs.Ytollijngiioonaa

/- How a list of functions that came in as an argument is opened: its cells, and that each part is in its bounds. Conditions: none. -/
namespace Go.Proofs.Ytollijngiioonaa
set_option maxRecDepth 100000
open Go.RowKit Go.ChangeShapes Go.WideShapes Go.ChangeAt

theorem cells38 : Try.prog.cellsOf 85 = 3 := by kernel_rfl
theorem cells9 : Try.prog.cellsOf 9 = 1 := by kernel_rfl
theorem cells3i : Try.prog.cellsOf 3 = 1 := by kernel_rfl
theorem cells4 : Try.prog.cellsOf 4 = 1 := by kernel_rfl

set_option maxRecDepth 100000 in
theorem sym_of_trod {H : Type} {enc : TypeId × Value → H} {w : World} {base : Nat} {spare : Nat → Bool} {held : Bool} {n : Nat} {cs : List Value} {x : DataW H × List MemPlace}
    (h : DataW.trod enc Try.prog w base spare held n 85 cs = some x) : ∃ s : SymD, cs = symC s ∧ s.name.size ≤ maxLen ∧ (Lit.int .i64 s.ar).wf = true := by
  obtain ⟨xs, m, rfl, rfl, hlen, hxl, hf⟩ := DataW.trod_struct Try.underlying85 h
  rw [cells38] at hlen
  match cs, hlen with
  | [c0, c1, c2], _ =>
    match xs, hxl with
    | [y0, y1, y2], _ =>
      have h0 : DataW.trod enc Try.prog w base spare held m 9 [c0] = some y0 := by have := hf 0 _ rfl; simpa [cells9] using this
      have h1 : DataW.trod enc Try.prog w base spare held m 3 [c1] = some y1 := by have := hf 1 _ rfl; simpa [cells3i] using this
      have h2 : DataW.trod enc Try.prog w base spare held m 4 [c2] = some y2 := by have := hf 2 _ rfl; simpa [cells4] using this
      obtain ⟨s, e0, _, hs⟩ := DataW.trod_string Try.underlying9 h0
      obtain ⟨z, e1, _, hz⟩ := DataW.trod_int Try.underlying3 h1
      obtain ⟨b, e2, _⟩ := DataW.trod_bool Try.underlying4 h2
      simp at e0 e1 e2
      subst e0 e1 e2
      exact ⟨⟨s, z, b⟩, rfl, hs, hz⟩

set_option maxRecDepth 100000 in
theorem open_syms {H : Type} {enc : TypeId × Value → H} {W : World} {base : Nat} {spare : Nat → Bool} {held : Bool} {v : Value} {d : DataW H} {p : List MemPlace} {a : Option Addr} {len cap : Nat} (hv : v = .slice a len cap)
    (h : DataW.Trod enc Try.prog W base spare held 36 v d p) : ∃ ss : List SymD, len = ss.length ∧ len ≤ maxLen ∧ RdS W a ss ∧ ∀ s ∈ ss, s.name.size ≤ maxLen ∧ (Lit.int .i64 s.ar).wf = true := by
  subst hv
  obtain ⟨fuel, hf⟩ := h
  rcases Deep.open_slice Try.underlying36 hf with ⟨hcs, _⟩ | ⟨x, l, c, m, n, Dd, Pl, hcs, _, hl, hm, hmm, _, hel⟩
  · simp [Value.cells] at hcs
    obtain ⟨rfl, rfl, rfl⟩ := hcs
    exact ⟨[], rfl, Nat.zero_le _, .inl rfl, fun s hs => by simp at hs⟩
  · simp [Value.cells] at hcs
    obtain ⟨rfl, rfl, rfl⟩ := hcs
    rw [cells38] at hel
    have hlm : len ≤ m := by rw [hmm]; split <;> omega
    have hall : ∀ i, i < len → ∃ s : SymD, W.cells? base (x.add (i * 3)) 3 = some (symC s) ∧ s.name.size ≤ maxLen ∧ (Lit.int .i64 s.ar).wf = true := by
      intro i hi
      obtain ⟨cs', h1, h2⟩ := hel i (by omega)
      obtain ⟨s, rfl, h3, h4⟩ := sym_of_trod h2
      exact ⟨s, h1, h3, h4⟩
    obtain ⟨F, hF⟩ := Deep.choose_lt hall
    refine ⟨(List.range len).map F, by simp, by omega, ?_, ?_⟩
    · by_cases h0 : len = 0
      · subst h0; exact .inl rfl
      · have hcell : ∀ i, (hi : i < len) → ∀ j, j < 3 → W.cell? ((x.add (i * 3)).add j) = (symC (F i))[j]? := fun i hi j hj => (World.cells?_some (hF i hi).1).2.2 j hj
        obtain ⟨b, off, spot⟩ := x
        have hc0 := hcell 0 (by omega) 0 (by omega)
        have hspot : spot = none := by
          have h1 : W.cell? (⟨b, off, spot⟩ : Addr) = some (.string (F 0).name) := by simpa [Addr.add, symC] using hc0
          simpa using World.cell?_spot h1
        subst hspot
        have hadd : ∀ i j, ((⟨b, off, none⟩ : Addr).add i).add j = ⟨b, off + i + j, none⟩ := by
          intro i j
          by_cases h1 : i = 0 <;> by_cases h2 : j = 0 <;> simp [Addr.add, h1, h2, Nat.add_assoc]
        have hb : b < W.heap.size := by
          have h1 : W.cell? (⟨b, off, none⟩ : Addr) = some (.string (F 0).name) := by simpa [Addr.add, symC] using hc0
          exact World.block_lt_of_cell? _ _ h1
        refine .inr ⟨b, off, rfl, hb, fun i hi => ?_⟩
        simp at hi
        have g0 := hcell i hi 0 (by omega)
        have g1 := hcell i hi 1 (by omega)
        have g2 := hcell i hi 2 (by omega)
        rw [hadd] at g0 g1 g2
        simp [symC] at g0 g1 g2
        simp [g0, g1, g2]
    · intro s hs
      simp at hs
      obtain ⟨i, hi, rfl⟩ := hs
      exact ⟨(hF i hi).2.1, (hF i hi).2.2⟩
end Go.Proofs.Ytollijngiioonaa

