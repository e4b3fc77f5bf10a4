/- What the proof of FnOneForm stands on, part 4 of 11: each piece says what it proves and under which conditions. Conditions: as each piece says. -/
import Derived.Test.YtollijngiioonaaPackOneForm3
import Derived.Test.YtollijngiioonaaProg
import Derived.Deep.QuietTactic
import Derived.BigQuiet
import Derived.Below
import Derived.WalkKit
import Derived.Deep.RegionHeld3
import Derived.Maps.AppendAt
/- One more Kid laid into a place within a drawn term. Conditions: none. -/
namespace Go.Proofs.Ytollijngiioonaa
set_option maxRecDepth 100000
open Go.RowKit

theorem OwnR.tight {w : World} {S : Nat → Prop} {a : Option Addr} {c : Nat} {ts : List TermD} (h : OwnR w S a c ts) : OwnR w (fun x => S x ∧ x < w.heap.size) a c ts := by
  induction h with
  | nil S => exact .nil _
  | row S g c ts A C K xs hb hrow hl hz hc hsub hdis hk ih =>
    exact .row _ g c ts A C (fun i x => K i x ∧ x < w.heap.size) xs ⟨hb, (hrow.lt g rfl).2⟩ hrow hl hz hc (fun i x hi hx => ⟨⟨(hsub i x hi hx.1).1, hx.2⟩, (hsub i x hi hx.1).2⟩) (fun i j x hi hj hne hx hy => hdis i j x hi hj hne hx.1 hy.1) ih

theorem app_now {w w1 wt wp X w5 : World} {c : Nat} {a : Option Addr} {bs : List Int} {cap : Nat} {T : TermD} {b o : Nat} {u : TermD} {ua : Option Addr} {uc : Nat} {U : Nat → Prop} {M : Nat} {t2 : TermD} {ta2 : Option Addr} {tc2 : Nat} {v5 : Value} {xs : List Value}
    (F1 : Foc (w1.heap.size + 1) w1.heap.size (fun x => w.heap.size + 1 ≤ x ∧ x < w1.heap.size) T b o u ua uc U wp) (D1 : DC w c a bs cap wp) (T9 : DrawT wt c a bs cap M t2 ta2 tc2 wp) (hwt : w1.heap.size + 1 ≤ wt.heap.size) (hT : partsT T ≤ 7) (hbs : bs = [] ∨ ∀ x, a = some x → x.block < w.heap.size) (hb : w.heap.size + 1 ≤ b)
    (hbX : Below wp.heap.size wp X) (hrow : X.ownsRow 0 27 3 (.slice ua u.kids.length uc) u.kids.length xs)
    (hown5 : w5.ownsRow 0 27 3 v5 (u.kids.length + 1) (xs ++ [.int .i64 t2.f, .int .i64 t2.v, .slice ta2 t2.kids.length tc2]))
    (hgrow5 : X.grownBy w5 (Value.slice ua u.kids.length uc).ownBlock)
    (hat5 : v5.ownBlock = (Value.slice ua u.kids.length uc).ownBlock ∨ v5.ownBlock = some X.heap.size) :
    ∃ g5 c5 T5 ta5 tc5, v5 = .slice (some ⟨g5, 0, none⟩) (u.kids.length + 1) c5 ∧ DC w c a bs cap (w5.setCell ⟨b, o + 2, none⟩ (.slice (some ⟨g5, 0, none⟩) (u.kids.length + 1) c5)) ∧ w5.cell? ⟨b, o + 2, none⟩ = some (.slice ua u.kids.length uc) ∧ w5.frozen? ⟨b, o + 2, none⟩ = false ∧
      ((w5.setCell ⟨b, o + 2, none⟩ (.slice (some ⟨g5, 0, none⟩) (u.kids.length + 1) c5)).cell? ⟨w1.heap.size, 0, none⟩ = some (.int .i64 (TermD.f T5)) ∧ (w5.setCell ⟨b, o + 2, none⟩ (.slice (some ⟨g5, 0, none⟩) (u.kids.length + 1) c5)).cell? ⟨w1.heap.size, 1, none⟩ = some (.int .i64 T5.v) ∧ (w5.setCell ⟨b, o + 2, none⟩ (.slice (some ⟨g5, 0, none⟩) (u.kids.length + 1) c5)).cell? ⟨w1.heap.size, 2, none⟩ = some (.slice ta5 T5.kids.length tc5)) ∧
      OwnR (w5.setCell ⟨b, o + 2, none⟩ (.slice (some ⟨g5, 0, none⟩) (u.kids.length + 1) c5)) (fun x => ((w.heap.size + 1 ≤ x ∧ x < w1.heap.size) ∨ w1.heap.size + 1 ≤ x) ∧ x < (w5.setCell ⟨b, o + 2, none⟩ (.slice (some ⟨g5, 0, none⟩) (u.kids.length + 1) c5)).heap.size) ta5 tc5 T5.kids ∧ (isW T5.f ∧ isW T5.v) ∧ partsT T5 ≤ partsT T + partsT t2 := by
  have F2 := F1.below hbX
  have hul := F2.len
  have hsz9 := T9.st.size
  obtain ⟨A, C, K, _, _, _, _, hbU, _⟩ := F2.own.each
  have hUlt : ∀ x, U x → x < wt.heap.size := fun x hx => by have := (F2.US x hx).2; omega
  obtain ⟨g5, c5, rfl, hO⟩ := F2.own.app hrow hgrow5 hown5 hat5 (T9.own.frame (fun x hx => hbX.block x hx.2) hbX.size) T9.wf (fun x hx => ⟨fun hu => by have := hUlt x hu; omega, Nat.lt_of_lt_of_le hx.2 hbX.size⟩) (fun x hx => F2.lt x hx) (by omega)
  have hgb : ∀ x, (w.heap.size + 1 ≤ x ∧ x < w1.heap.size) ∨ x = w1.heap.size → ¬ U x → w5.heap[x]? = X.heap[x]? := fun x hx hu => hgrow5.block x (by have := F2.SN x hx; have := F2.Nw; omega) (fun e => hu (hbU x e.symm))
  have NW := F2.setK (w5 := w5) hgrow5.size hgb hO.tight (fun x hx => ⟨hx.1.elim .inl (fun h => .inr (h.elim (fun h => by omega) (fun h => by have := hbX.size; omega))), hx.2⟩)
  obtain ⟨T5, ta5, tc5, h1, h2, h3, h4⟩ := NW
  have eb := hgb b F2.bin F2.bU
  obtain ⟨g0, hg0, hgr⟩ := grow_any (B := w.heap.size + 1) hgrow5 (fun k e => (F2.US k (hbU k e)).1)
  refine ⟨g5, c5, T5, ta5, tc5, rfl, ((D1.on hbX).grow hgr hg0 hbs).grow (grown_set w5 b (o + 2) _) hb hbs, (World.cell?_of_block (a := ⟨b, o + 2, none⟩) eb).trans F2.c2, (World.frozen?_of_block (a := ⟨b, o + 2, none⟩) eb).trans (F2.fr _), h1, h2, h3, h4⟩
end Go.Proofs.Ytollijngiioonaa

/- The program's way to one form, as data: a stack of terms whose Kids are still to come, each of which puts its Kids into its home. Conditions: none. -/
namespace Go.Proofs.Ytollijngiioonaa
set_option maxRecDepth 100000
open Go.RowKit

mutual
/-- What one Kid brings to a home of function f: itself in one form, or what its own Kids bring where it is of the same blind function. -/
def addsT (bl : Int → Bool) (f : Int) : TermD → List TermD
  | .mk g v ks => if (bl f && g == f) = true then addsL bl f ks else [normT bl (.mk g v ks)]
def addsL (bl : Int → Bool) (f : Int) : List TermD → List TermD
  | [] => []
  | k :: ks => addsT bl f k ++ addsL bl f ks
end
theorem addsT_in (bl : Int → Bool) {f : Int} {k : TermD} (h : (bl f && k.f == f) = true) : addsT bl f k = addsL bl f k.kids := by
  cases k with | mk g v ks => rw [addsT, if_pos (show (bl f && g == f) = true from h)]; rfl
theorem addsT_out (bl : Int → Bool) {f : Int} {k : TermD} (h : (bl f && k.f == f) = false) : addsT bl f k = [normT bl k] := by
  cases k with | mk g v ks => rw [addsT, if_neg (by rw [show ((bl f && g == f) = false) from h]; exact Bool.false_ne_true)]
theorem addsL_map (bl : Int → Bool) {f : Int} (h : bl f = false) : ∀ ks, addsL bl f ks = ks.map (normT bl)
  | [] => rfl
  | k :: ks => by rw [addsL, addsT_out bl (by rw [h]; rfl), addsL_map bl h ks]; rfl
mutual
theorem addsT_perm (bl : Int → Bool) {f : Int} (h : bl f = true) : ∀ k, (addsT bl f k).Perm (flatK f (normT bl k))
  | .mk g v ks => by
    by_cases e : g = f
    · rw [addsT_in bl (by simp [h, TermD.f, e])]
      have e1 : flatK f (normT bl (.mk g v ks)) = normL bl f ks [] := by rw [normT]; simp [flatK, TermD.f, TermD.kids, e]
      rw [e1]
      exact ((addsL_perm bl h ks).trans (by simpa using (normL_perm bl f h ks []).symm))
    · rw [addsT_out bl (by simp [h, TermD.f, e])]
      have e1 : flatK f (normT bl (.mk g v ks)) = [normT bl (.mk g v ks)] := by unfold flatK; rw [if_pos (by rw [normT]; exact e)]
      rw [e1]
theorem addsL_perm (bl : Int → Bool) {f : Int} (h : bl f = true) : ∀ ks, (addsL bl f ks).Perm (ks.flatMap fun k => flatK f (normT bl k))
  | [] => by simp [addsL]
  | k :: ks => by rw [addsL, List.flatMap_cons]; exact (addsT_perm bl h k).append (addsL_perm bl h ks)
end

/-- In order. -/
def sortT (ks : List TermD) : List TermD := ks.foldl (fun o x => putT x o) []
theorem sortT_perm (ks : List TermD) : (sortT ks).Perm ks := by have := foldP_perm ks []; simpa [sortT] using this
theorem sortT_sorted (ks : List TermD) : (sortT ks).Pairwise leT := foldP_sorted ks .nil
theorem sortT_eq {ks us : List TermD} (hp : us.Perm ks) (hs : us.Pairwise leT) : us = sortT ks := sorted_ext hs (sortT_sorted ks) (hp.trans (sortT_perm ks).symm)
/-- A term whose Kids have all come. -/
def closeT (bl : Int → Bool) (f v : Int) (made : List TermD) : TermD := .mk f v (if bl f = true then sortT made else made)
theorem close_norm (bl : Int → Bool) (t : TermD) : closeT bl t.f t.v (addsL bl t.f t.kids) = normT bl t := by
  rw [normT_eq]
  unfold closeT
  congr 1
  cases h : bl t.f with
  | false => rw [if_neg (by simp), addsL_map bl h, normL_map bl _ h]; simp
  | true =>
    rw [if_pos rfl]
    exact (sortT_eq ((normL_perm bl _ h t.kids []).trans (by simpa using (addsL_perm bl h t.kids).symm)) (normL_sorted bl _ h t.kids .nil)).symm

/-- A term on whose Kids the program is at work. -/
structure FD where
  f : Int
  v : Int
  left : List TermD
  made : List TermD
  home : Bool
/-- Kids that are done, put into the home of the innermost one. -/
def addHome (A : List TermD) : List FD → List FD
  | [] => []
  | x :: r => if x.home = true then { x with made := x.made ++ A } :: r else x :: addHome A r
theorem addHome_len (A : List TermD) : ∀ l, (addHome A l).length = l.length
  | [] => rfl
  | x :: r => by unfold addHome; split <;> simp [addHome_len A r]
theorem addHome_nil : ∀ l, addHome [] l = l
  | [] => rfl
  | x :: r => by unfold addHome; split <;> simp [addHome_nil r]
theorem addHome_two (A B : List TermD) : ∀ l, addHome B (addHome A l) = addHome (A ++ B) l
  | [] => rfl
  | x :: r => by
    rw [addHome, addHome]
    split
    · rename_i h; rw [addHome, if_pos h]; simp
    · rename_i h; rw [addHome, if_neg h, addHome_two A B r]
/-- What comes out in the end. -/
def finN (bl : Int → Bool) : Nat → List FD → TermD
  | 0, _ => default
  | _ + 1, [] => default
  | n + 1, x :: r => if x.home = true then (if r.length = 0 then closeT bl x.f x.v (x.made ++ addsL bl x.f x.left) else finN bl n (addHome [closeT bl x.f x.v (x.made ++ addsL bl x.f x.left)] r)) else finN bl n (addHome (addsL bl x.f x.left) r)
def finS (bl : Int → Bool) (l : List FD) : TermD := finN bl l.length l
variable {bl : Int → Bool}
theorem fin_last {x : FD} (h : x.home = true) : finS bl [x] = closeT bl x.f x.v (x.made ++ addsL bl x.f x.left) := by simp [finS, finN, h]
theorem fin_home {x : FD} {r : List FD} (h : x.home = true) (hr : r ≠ []) : finS bl (x :: r) = finS bl (addHome [closeT bl x.f x.v (x.made ++ addsL bl x.f x.left)] r) := by
  have h0 : r.length ≠ 0 := fun e => hr (List.length_eq_zero_iff.1 e)
  simp [finS, finN, h, h0, addHome_len]
theorem fin_in {x : FD} {r : List FD} (h : x.home = false) : finS bl (x :: r) = finS bl (addHome (addsL bl x.f x.left) r) := by
  simp [finS, finN, h, addHome_len]

/-- Kids that come one after another. -/
theorem fin_part {x : FD} {r : List FD} {A l ks : List TermD} (he : addsL bl x.f l = A ++ addsL bl x.f ks) : finS bl (addHome A ({ x with left := ks } :: r)) = finS bl ({ x with left := l } :: r) := by
  obtain ⟨f, v, l0, made, home⟩ := x
  cases home with
  | true =>
    simp only [addHome, if_true]
    by_cases hr : r = []
    · subst hr
      rw [fin_last (by rfl), fin_last (by rfl)]
      simp only at he ⊢
      rw [he, List.append_assoc]
    · rw [fin_home (by rfl) hr, fin_home (by rfl) hr]
      simp only at he ⊢
      rw [he, List.append_assoc]
  | false =>
    simp only [addHome, Bool.false_eq_true, if_false]
    rw [fin_in (by rfl), fin_in (by rfl), addHome_two]
    simp only at he ⊢
    rw [he]
/-- One more term is opened. -/
theorem fin_open {x : FD} {r : List FD} {k : TermD} {ks : List TermD} {m : List TermD} (hl : x.left = k :: ks) (hm : m = []) : finS bl ({ f := k.f, v := k.v, left := k.kids, made := m, home := !(bl k.f && k.f == x.f) } :: { x with left := ks } :: r) = finS bl (x :: r) := by
  subst hm
  have hx : ({ x with left := k :: ks } : FD) = x := by cases x; simp_all
  cases h : (bl k.f && k.f == x.f) with
  | false =>
    have h' : (bl x.f && k.f == x.f) = false := by
      by_cases e : k.f = x.f
      · rw [← e]; simpa [e] using h
      · simp [e]
    rw [fin_home (by rfl) (by simp)]
    simp only [List.nil_append]
    rw [close_norm bl k, fin_part (l := k :: ks) (by rw [addsL, addsT_out bl h']), hx]
  | true =>
    have e : k.f = x.f := by simp at h; exact h.2
    have h' : (bl x.f && k.f == x.f) = true := by rw [← e]; simpa [e] using h
    rw [fin_in (by rfl)]
    show finS bl (addHome (addsL bl k.f k.kids) _) = _
    rw [e, fin_part (l := k :: ks) (by rw [addsL, addsT_in bl h']), hx]
theorem fin_drop {x : FD} {r : List FD} (hl : x.left = []) (h : x.home = false) : finS bl (x :: r) = finS bl r := by
  rw [fin_in h, hl, addsL, addHome_nil]
theorem fin_close {x : FD} {r : List FD} (hl : x.left = []) (h : x.home = true) (hr : r ≠ []) : finS bl (x :: r) = finS bl (addHome [closeT bl x.f x.v x.made] r) := by
  rw [fin_home h hr, hl, addsL, List.append_nil]
theorem fin_end {x : FD} (hl : x.left = []) (h : x.home = true) : finS bl [x] = closeT bl x.f x.v x.made := by
  rw [fin_last h, hl, addsL, List.append_nil]
theorem fin_start (t : TermD) : finS bl [{ f := t.f, v := t.v, left := t.kids, made := [], home := true }] = normT bl t := by
  rw [fin_last rfl, List.nil_append, close_norm]

/-- How much is still to be done. -/
def todo (l : List FD) : Nat := (l.map fun x => 1 + 2 * partsL x.left).sum
/-- How much there is. -/
def bulk (l : List FD) : Nat := (l.map fun x => 1 + partsL x.left + x.made.length).sum
theorem todo_add (A : List TermD) : ∀ l, todo (addHome A l) = todo l
  | [] => rfl
  | x :: r => by
    have ih := todo_add A r
    unfold todo at *
    rw [addHome]
    split
    · simp
    · simp only [List.map_cons, List.sum_cons, ih]
theorem bulk_add (A : List TermD) : ∀ l, bulk (addHome A l) ≤ bulk l + A.length
  | [] => by simp [addHome, bulk]
  | x :: r => by
    have ih := bulk_add A r
    unfold bulk at *
    rw [addHome]
    split
    · simp only [List.map_cons, List.sum_cons, List.length_append]; omega
    · simp only [List.map_cons, List.sum_cons]; omega
end Go.Proofs.Ytollijngiioonaa

/- What lies in memory while the program makes one form of a term: a row of terms that are at work, each with a row of Kids that are done. Conditions: none. -/
namespace Go.Proofs.Ytollijngiioonaa
set_option maxRecDepth 100000
open Go.RowKit

/-- A term at work: its Kids that are left, those that are done (with the row that holds them), whether it is its own home. -/
structure FM where
  t : TermD
  a : Option Addr
  c : Nat
  left : List TermD
  al : Option Addr
  cl : Nat
  L : List FE
  am : Option Addr
  cm : Nat
  hm : Bool
def FM.d (x : FM) : FD := { f := x.t.f, v := x.t.v, left := x.left, made := x.L.map FE.t, home := x.hm }
/-- Where the home of the innermost one stands. -/
def homeIx : List FM → Nat
  | [] => 0
  | x :: r => if x.hm = true then r.length else homeIx r
def FM.cells (x : FM) (h : Nat) : List Value := [.int .i64 x.t.f, .int .i64 x.t.v, .slice x.a x.t.kids.length x.c, .slice x.al x.left.length x.cl, .slice x.am x.L.length x.cm, .int .i64 h]
/-- The row's cells, the outermost one's first. -/
def cellsF : List FM → List Value
  | [] => []
  | x :: r => cellsF r ++ x.cells (homeIx (x :: r))
theorem cellsF_len : ∀ F, (cellsF F).length = F.length * 6
  | [] => rfl
  | x :: r => by rw [cellsF, List.length_append, cellsF_len r]; simp [FM.cells]; omega
/-- The blocks of a term at work. -/
def FM.S (x : FM) (k : Nat) : Prop := (Value.slice x.am x.L.length x.cm).ownBlock = some k ∨ ∃ e ∈ x.L, e.K k

/-- One term at work. -/
structure MR (n0 B : Nat) (x : FM) (wr : World) : Prop where
  rd : RdK wr n0 x.al x.left
  le : x.left.length ≤ x.cl
  wf : isW x.t.f ∧ isW x.t.v
  row : wr.ownsRow B 27 3 (.slice x.am x.L.length x.cm) x.L.length (cs3 (x.L.map FE.cells))
  el : ∀ e ∈ x.L, OwnS wr e.K e.a e.t.kids ∧ e.t.kids.length ≤ e.c ∧ (isW e.t.f ∧ isW e.t.v) ∧ ∀ k, e.K k → B ≤ k ∧ k < wr.heap.size
  dis : x.L.Pairwise fun e d => ∀ k, e.K k → ¬ d.K k
  ap : ∀ g, (Value.slice x.am x.L.length x.cm).ownBlock = some g → ∀ e ∈ x.L, ¬ e.K g
theorem MR.lt {n0 B : Nat} {x : FM} {wr : World} (h : MR n0 B x wr) (k : Nat) (hk : x.S k) : B ≤ k ∧ k < wr.heap.size := by
  rcases hk with e | ⟨e, he, hk⟩
  · exact h.row.lt k e
  · exact (h.el e he).2.2.2 k hk
theorem MR.stay {n0 B : Nat} {x : FM} {wr wr' : World} {S : Nat → Prop} (h : MR n0 B x wr) (hs : Stay S wr wr') (hn : ∀ k, k < n0 → S k) (hx : ∀ k, x.S k → S k) (hz : n0 ≤ wr.heap.size) : MR n0 B x wr' :=
  ⟨h.rd.on (hs.below hz hn), h.le, h.wf, own_stay h.row hs (fun g hg => hx g (.inl hg)), fun e he => ⟨(h.el e he).1.frame (fun k hk => hs.block k ((h.el e he).2.2.2 k hk).2 (hx k (.inr ⟨e, he, hk⟩))) hs.size, (h.el e he).2.1, (h.el e he).2.2.1, fun k hk => ⟨((h.el e he).2.2.2 k hk).1, Nat.lt_of_lt_of_le ((h.el e he).2.2.2 k hk).2 hs.size⟩⟩, h.dis, h.ap⟩
/-- A Kid more that is done, at the end of its row. -/
theorem MR.app {n0 B : Nat} {x : FM} {e : FE} {v : Value} {wr wr' : World} (h : MR n0 B x wr) (hB : B ≤ wr.heap.size) (hn : n0 ≤ B) (he : OwnS wr e.K e.a e.t.kids ∧ e.t.kids.length ≤ e.c ∧ (isW e.t.f ∧ isW e.t.v) ∧ ∀ k, e.K k → B ≤ k ∧ k < wr.heap.size) (hd : ∀ k, e.K k → ¬ x.S k)
    (hg : wr.grownBy wr' (Value.slice x.am x.L.length x.cm).ownBlock) (hrow : wr'.ownsRow B 27 3 v (x.L.length + 1) (cs3 (x.L.map FE.cells) ++ [.int .i64 e.t.f, .int .i64 e.t.v, .slice e.a e.t.kids.length e.c])) (hat : v.ownBlock = (Value.slice x.am x.L.length x.cm).ownBlock ∨ ∃ k, v.ownBlock = some k ∧ wr.heap.size ≤ k) :
    ∃ g c, v = .slice (some ⟨g, 0, none⟩) (x.L.length + 1) c ∧ MR n0 B { x with L := x.L ++ [e], am := some ⟨g, 0, none⟩, cm := c } wr' := by
  obtain ⟨g, c, rfl, _⟩ := own_slot hrow
  have hst : Stay (fun k => (Value.slice x.am x.L.length x.cm).ownBlock ≠ some k) wr wr' := .grown hg (fun k e h => h e)
  have hout : ∀ d ∈ x.L ++ [e], OwnS wr d.K d.a d.t.kids ∧ d.t.kids.length ≤ d.c ∧ (isW d.t.f ∧ isW d.t.v) ∧ (∀ k, d.K k → B ≤ k ∧ k < wr.heap.size) ∧ ∀ k, d.K k → (Value.slice x.am x.L.length x.cm).ownBlock ≠ some k := fun d hd' => by
    rcases List.mem_append.1 hd' with h1 | h1
    · exact ⟨(h.el d h1).1, (h.el d h1).2.1, (h.el d h1).2.2.1, (h.el d h1).2.2.2, fun k hk e => h.ap k e d h1 hk⟩
    · obtain rfl : d = e := by simpa using h1
      exact ⟨he.1, he.2.1, he.2.2.1, he.2.2.2, fun k hk e => hd k hk (.inl e)⟩
  refine ⟨g, c, rfl, ⟨h.rd.on (hst.below (Nat.le_trans hn hB) (fun k hk e => by have := (h.row.lt k e).1; omega)), h.le, h.wf, ?_, fun d hd' => ?_, ?_, fun g' hg' d hd' hk => ?_⟩⟩
  · have e1 : cs3 ((x.L ++ [e]).map FE.cells) = cs3 (x.L.map FE.cells) ++ [.int .i64 e.t.f, .int .i64 e.t.v, .slice e.a e.t.kids.length e.c] := by simp [cs3, FE.cells]
    show wr'.ownsRow _ _ _ (.slice _ (x.L ++ [e]).length c) (x.L ++ [e]).length (cs3 ((x.L ++ [e]).map FE.cells))
    rw [e1, List.length_append]; exact hrow
  · obtain ⟨o1, o2, o3, o4, o5⟩ := hout d hd'
    exact ⟨o1.frame (fun k hk => hst.block k (o4 k hk).2 (o5 k hk)) hst.size, o2, o3, fun k hk => ⟨(o4 k hk).1, Nat.lt_of_lt_of_le (o4 k hk).2 hst.size⟩⟩
  · refine List.pairwise_append.2 ⟨h.dis, by simp, fun d hd' d2 hd2 k hk hk2 => ?_⟩
    obtain rfl : d2 = e := by simpa using hd2
    exact hd k hk2 (.inr ⟨d, hd', hk⟩)
  · have e0 : g = g' := by simpa [Value.ownBlock] using hg'
    subst e0
    obtain ⟨_, _, _, o4, o5⟩ := hout d hd'
    rcases hat with q | ⟨k, q, hk'⟩
    · exact o5 g hk q.symm
    · have : g = k := by simpa [Value.ownBlock] using q
      have := (o4 g hk).2
      omega

/-- The home of the innermost one. -/
instance : Inhabited FM := ⟨⟨default, none, 0, [], none, 0, [], none, 0, true⟩⟩
def homeFr : List FM → FM
  | [] => default
  | x :: r => if x.hm = true then x else homeFr r
def hasHome : List FM → Prop
  | [] => False
  | x :: r => x.hm = true ∨ hasHome r
/-- A Kid that is done, put into the home of the innermost one. -/
def putHome (e : FE) (am : Option Addr) (cm : Nat) : List FM → List FM
  | [] => []
  | x :: r => if x.hm = true then { x with L := x.L ++ [e], am := am, cm := cm } :: r else x :: putHome e am cm r
theorem putHome_len (e : FE) (am : Option Addr) (cm : Nat) : ∀ F, (putHome e am cm F).length = F.length
  | [] => rfl
  | x :: r => by unfold putHome; split <;> simp [putHome_len e am cm r]
theorem putHome_ix (e : FE) (am : Option Addr) (cm : Nat) : ∀ F, homeIx (putHome e am cm F) = homeIx F
  | [] => rfl
  | x :: r => by
    unfold putHome
    split
    · rename_i h; simp [homeIx, h]
    · rename_i h; simp [homeIx, h, putHome_ix e am cm r]
theorem putHome_d (e : FE) (am : Option Addr) (cm : Nat) : ∀ F, (putHome e am cm F).map FM.d = addHome [e.t] (F.map FM.d)
  | [] => rfl
  | x :: r => by
    unfold putHome
    rw [List.map_cons, addHome]
    split
    · rename_i h; rw [if_pos (show x.d.home = true from h)]; simp [FM.d]
    · rename_i h; rw [if_neg (show ¬ x.d.home = true from h), List.map_cons, putHome_d e am cm r]
theorem putHome_has (e : FE) (am : Option Addr) (cm : Nat) : ∀ {F}, hasHome F → hasHome (putHome e am cm F)
  | [], h => h
  | x :: r, h => by
    unfold putHome
    split
    · rename_i hx; exact .inl hx
    · rename_i hx; exact .inr (putHome_has e am cm (h.resolve_left hx))
theorem home_lt : ∀ {F : List FM}, hasHome F → homeIx F < F.length
  | [], h => h.elim
  | x :: r, h => by
    unfold homeIx
    split
    · simp
    · rename_i hx; have := home_lt (h.resolve_left hx); simp; omega
theorem home_mem : ∀ {F : List FM}, hasHome F → homeFr F ∈ F
  | [], h => h.elim
  | x :: r, h => by
    unfold homeFr
    split
    · simp
    · rename_i hx; exact List.mem_cons_of_mem _ (home_mem (h.resolve_left hx))
theorem home_cell : ∀ {F : List FM}, hasHome F → (cellsF F)[homeIx F * 6 + 4]? = some (.slice (homeFr F).am (homeFr F).L.length (homeFr F).cm)
  | [], h => h.elim
  | x :: r, h => by
    have hl := cellsF_len r
    rw [cellsF, homeIx, homeFr]
    split
    · rw [List.getElem?_append_right (by omega)]; simp [hl, FM.cells]
    · rename_i hx
      have h1 := home_lt (h.resolve_left hx)
      rw [List.getElem?_append_left (by omega)]; exact home_cell (h.resolve_left hx)
theorem putHome_cells (e : FE) (am : Option Addr) (cm : Nat) : ∀ {F : List FM}, hasHome F → cellsF (putHome e am cm F) = (cellsF F).set (homeIx F * 6 + 4) (.slice am ((homeFr F).L.length + 1) cm)
  | [], h => h.elim
  | x :: r, h => by
    have hl := cellsF_len r
    by_cases hx : x.hm = true
    · simp only [putHome, if_pos hx, cellsF, homeIx, homeFr]
      rw [List.set_append_right _ _ (by omega)]
      simp [hl, FM.cells]
    · have h1 := home_lt (h.resolve_left hx)
      have h2 := putHome_cells e am cm (h.resolve_left hx)
      have h3 := putHome_ix e am cm r
      simp only [putHome, if_neg hx, cellsF, homeIx, homeFr]
      rw [List.set_append_left _ _ (by omega), h2, h3]
/-- Who stands there behind it. -/
theorem putHome_mem (e : FE) (am : Option Addr) (cm : Nat) : ∀ {F : List FM} {y : FM}, hasHome F → (F.Pairwise fun x y => ∀ k, x.S k → ¬ y.S k) → y ∈ putHome e am cm F → (y ∈ F ∧ ∀ k, y.S k → ¬ (homeFr F).S k) ∨ y = { homeFr F with L := (homeFr F).L ++ [e], am := am, cm := cm }
  | [], _, h, _, _ => h.elim
  | x :: r, y, h, hd, hy => by
    obtain ⟨h1, h2⟩ := List.pairwise_cons.1 hd
    by_cases hx : x.hm = true
    · simp only [putHome, if_pos hx, homeFr] at hy ⊢
      rcases List.mem_cons.1 hy with rfl | hy
      · exact .inr rfl
      · exact .inl ⟨List.mem_cons_of_mem _ hy, fun k hk hk2 => h1 y hy k hk2 hk⟩
    · simp only [putHome, if_neg hx, homeFr] at hy ⊢
      have hr := h.resolve_left hx
      rcases List.mem_cons.1 hy with rfl | hy
      · exact .inl ⟨by simp, fun k hk hk2 => h1 _ (home_mem hr) k hk hk2⟩
      · exact (putHome_mem e am cm hr h2 hy).imp (fun q => ⟨List.mem_cons_of_mem _ q.1, q.2⟩) id
theorem putHome_dis (e : FE) (am : Option Addr) (cm : Nat) (N : Nat → Prop) : ∀ {F : List FM}, hasHome F → (F.Pairwise fun x y => ∀ k, x.S k → ¬ y.S k) → (∀ k, FM.S { homeFr F with L := (homeFr F).L ++ [e], am := am, cm := cm } k → (homeFr F).S k ∨ N k) → (∀ x ∈ F, ∀ k, N k → ¬ x.S k) →
    (putHome e am cm F).Pairwise fun x y => ∀ k, x.S k → ¬ y.S k
  | [], h, _, _, _ => h.elim
  | x :: r, h, hd, hS, hN => by
    obtain ⟨h1, h2⟩ := List.pairwise_cons.1 hd
    by_cases hx : x.hm = true
    · simp only [putHome, if_pos hx, homeFr] at hS ⊢
      refine List.pairwise_cons.2 ⟨fun y hy k hk => ?_, h2⟩
      rcases hS k hk with h3 | h3
      · exact h1 y hy k h3
      · exact hN y (List.mem_cons_of_mem _ hy) k h3
    · simp only [putHome, if_neg hx, homeFr] at hS ⊢
      have hr := h.resolve_left hx
      refine List.pairwise_cons.2 ⟨fun y hy k hk hk2 => ?_, putHome_dis e am cm N hr h2 hS (fun y hy => hN y (List.mem_cons_of_mem _ hy))⟩
      rcases putHome_mem e am cm hr h2 hy with h3 | rfl
      · exact h1 y h3.1 k hk hk2
      · rcases hS k hk2 with h3 | h3
        · exact h1 _ (home_mem hr) k hk h3
        · exact hN x (by simp) k h3 hk

/-- All terms at work, and the row that holds them. -/
structure NSt (n0 B : Nat) (F : List FM) (v : Value) (wr : World) : Prop where
  row : wr.ownsRow B 70 6 v F.length (cellsF F)
  fr : ∀ x ∈ F, MR n0 B x wr
  dis : F.Pairwise fun x y => ∀ k, x.S k → ¬ y.S k
  vb : ∀ g, v.ownBlock = some g → ∀ x ∈ F, ¬ x.S g
  z : B ≤ wr.heap.size
  n : n0 ≤ B
namespace NSt
variable {n0 B : Nat} {F : List FM} {v : Value} {wr wr' : World}
theorem start (hz : B ≤ wr.heap.size) (hn : n0 ≤ B) : NSt n0 B [] (.slice none 0 0) wr := ⟨World.ownsRow_nil wr B _ 6, (fun x h => by simp at h), .nil, (fun g h => by cases h), hz, hn⟩
theorem on (h : NSt n0 B F v wr) (hb : Below wr.heap.size wr wr') : NSt n0 B F v wr' :=
  ⟨own_stay h.row (.of_below (S := fun k => k < wr.heap.size) hb (fun _ _ hk => hk)) (fun g hg => (h.row.lt g hg).2), fun x hx => (h.fr x hx).stay (.of_below (S := fun k => k < wr.heap.size) hb (fun _ _ hk => hk)) (fun _ hk => Nat.lt_of_lt_of_le hk (Nat.le_trans h.n h.z)) (fun k hk => ((h.fr x hx).lt k hk).2) (Nat.le_trans h.n h.z), h.dis, h.vb, Nat.le_trans h.z hb.size, h.n⟩
/-- The frames when the row's own block, and what is none of theirs, turns. -/
theorem frames (h : NSt n0 B F v wr) {S : Nat → Prop} (hs : Stay S wr wr') (hn : ∀ k, k < n0 → S k) (hx : ∀ x ∈ F, ∀ k, x.S k → S k) : ∀ x ∈ F, MR n0 B x wr' := fun x hx' => (h.fr x hx').stay hs hn (hx x hx') (Nat.le_trans h.n h.z)
theorem push {x : FM} {v' : Value} (h : NSt n0 B F v wr) (hL : x.L = []) (ham : x.am = none) (hcm : x.cm = 0) (hrd : RdK wr n0 x.al x.left) (hle : x.left.length ≤ x.cl) (hwf : isW x.t.f ∧ isW x.t.v)
    (hrow : wr'.ownsRow B 70 6 v' (F.length + 1) (cellsF (x :: F))) (hg : wr.grownBy wr' v.ownBlock) (hat : v'.ownBlock = v.ownBlock ∨ ∃ k, v'.ownBlock = some k ∧ wr.heap.size ≤ k) : NSt n0 B (x :: F) v' wr' := by
  have hst : Stay (fun k => v.ownBlock ≠ some k) wr wr' := .grown hg (fun k e h => h e)
  have hnv : ∀ k, k < n0 → v.ownBlock ≠ some k := fun k hk e => by have := (h.row.lt k e).1; have := h.n; omega
  have hxS : ∀ k, ¬ x.S k := fun k hk => by
    rcases hk with e | ⟨e, he, _⟩
    · rw [ham] at e; cases e
    · rw [hL] at he; simp at he
  refine ⟨hrow, fun y hy => ?_, List.pairwise_cons.2 ⟨fun y hy k hk => absurd hk (hxS k), h.dis⟩, fun g hg' y hy hk => ?_, Nat.le_trans h.z hst.size, h.n⟩
  · rcases List.mem_cons.1 hy with rfl | hy
    · exact ⟨hrd.on (hst.below (Nat.le_trans h.n h.z) hnv), hle, hwf, by rw [hL, ham, hcm]; exact World.ownsRow_nil wr' B _ 3, fun e he => by rw [hL] at he; simp at he, by rw [hL]; exact .nil, fun g hg' => by rw [ham] at hg'; cases hg'⟩
    · exact h.frames hst hnv (fun y hy k hk e => h.vb k e y hy hk) y hy
  · rcases List.mem_cons.1 hy with rfl | hy
    · exact hxS g hk
    · rcases hat with q | ⟨k, q, hk'⟩
      · exact h.vb g (q.symm.trans hg') y hy hk
      · have e : k = g := by rw [q] at hg'; simpa using hg'
        have := ((h.fr y hy).lt g hk).2
        omega
theorem pop {x : FM} {g c : Nat} (h : NSt n0 B (x :: F) (.slice (some ⟨g, 0, none⟩) (F.length + 1) c) wr) : NSt n0 B F (.slice (some ⟨g, 0, none⟩) F.length c) wr :=
  ⟨ownsRow_pop (cellsF_len F) h.row, fun y hy => h.fr y (List.mem_cons_of_mem _ hy), (List.pairwise_cons.1 h.dis).2, fun g' hg' y hy => h.vb g' hg' y (List.mem_cons_of_mem _ hy), h.z, h.n⟩
theorem take {x : FM} {g c : Nat} {ks : List TermD} {al : Option Addr} {cl : Nat} (h : NSt n0 B (x :: F) (.slice (some ⟨g, 0, none⟩) (F.length + 1) c) wr) (hrd : RdK wr n0 al ks) (hle : ks.length ≤ cl) :
    NSt n0 B ({ x with left := ks, al := al, cl := cl } :: F) (.slice (some ⟨g, 0, none⟩) (F.length + 1) c) (wr.setCell ⟨g, F.length * 6 + 3, none⟩ (.slice al ks.length cl)) := by
  have hl := cellsF_len F
  have hgB := h.row.lt g rfl
  have hst : Stay (fun k => k ≠ g) wr (wr.setCell ⟨g, F.length * 6 + 3, none⟩ (.slice al ks.length cl)) := .setCell _ _ (by simp)
  have hng : ∀ k, k < n0 → k ≠ g := fun k hk => by have := h.n; omega
  have hx0 := h.fr x (by simp)
  refine ⟨?_, fun y hy => ?_, ?_, fun g' hg' y hy => ?_, by simpa using h.z, h.n⟩
  · have h1 := (h.row.stored (F.length * 6 + 3) (.slice al ks.length cl)).1
    have e1 : (cellsF (x :: F)).set (F.length * 6 + 3) (.slice al ks.length cl) = cellsF ({ x with left := ks, al := al, cl := cl } :: F) := by
      simp only [cellsF, homeIx]
      rw [List.set_append_right _ _ (by omega)]
      simp [hl, FM.cells]
    rwa [e1] at h1
  · have hy' : ∀ z ∈ x :: F, MR n0 B z (wr.setCell ⟨g, F.length * 6 + 3, none⟩ (.slice al ks.length cl)) := h.frames hst hng (fun z hz k hk e => h.vb g rfl z hz (e ▸ hk))
    rcases List.mem_cons.1 hy with rfl | hy
    · have q := hy' x (by simp)
      exact ⟨hrd.on (hst.below (Nat.le_trans h.n h.z) hng), hle, q.wf, q.row, q.el, q.dis, q.ap⟩
    · exact hy' y (List.mem_cons_of_mem _ hy)
  · obtain ⟨h1, h2⟩ := List.pairwise_cons.1 h.dis
    exact List.pairwise_cons.2 ⟨h1, h2⟩
  · rcases List.mem_cons.1 hy with rfl | hy
    · exact h.vb g' hg' x (by simp)
    · exact h.vb g' hg' y (List.mem_cons_of_mem _ hy)
theorem put {g c g2 c2 : Nat} {e : FE} {w2 : World} (h : NSt n0 B F (.slice (some ⟨g, 0, none⟩) F.length c) wr) (hh : hasHome F) (he : OwnS wr e.K e.a e.t.kids ∧ e.t.kids.length ≤ e.c ∧ (isW e.t.f ∧ isW e.t.v) ∧ ∀ k, e.K k → B ≤ k ∧ k < wr.heap.size) (hd : ∀ x ∈ F, ∀ k, e.K k → ¬ x.S k) (hdg : ¬ e.K g)
    (hg : wr.grownBy w2 (Value.slice (homeFr F).am (homeFr F).L.length (homeFr F).cm).ownBlock) (hrow : w2.ownsRow B 27 3 (.slice (some ⟨g2, 0, none⟩) ((homeFr F).L.length + 1) c2) ((homeFr F).L.length + 1) (cs3 ((homeFr F).L.map FE.cells) ++ [.int .i64 e.t.f, .int .i64 e.t.v, .slice e.a e.t.kids.length e.c]))
    (hat : some g2 = (Value.slice (homeFr F).am (homeFr F).L.length (homeFr F).cm).ownBlock ∨ wr.heap.size ≤ g2) :
    NSt n0 B (putHome e (some ⟨g2, 0, none⟩) c2 F) (.slice (some ⟨g, 0, none⟩) F.length c) (w2.setCell ⟨g, homeIx F * 6 + 4, none⟩ (.slice (some ⟨g2, 0, none⟩) ((homeFr F).L.length + 1) c2)) := by
  have hm := home_mem hh
  have hgB := h.row.lt g rfl
  have hst : Stay (fun k => (Value.slice (homeFr F).am (homeFr F).L.length (homeFr F).cm).ownBlock ≠ some k) wr w2 := .grown hg (fun k e h => h e)
  have hst2 : Stay (fun k => k ≠ g) w2 (w2.setCell ⟨g, homeIx F * 6 + 4, none⟩ (.slice (some ⟨g2, 0, none⟩) ((homeFr F).L.length + 1) c2)) := .setCell _ _ (by simp)
  have hng : ∀ k, k < n0 → k ≠ g := fun k hk => by have := h.n; omega
  have hgh : (Value.slice (homeFr F).am (homeFr F).L.length (homeFr F).cm).ownBlock ≠ some g := fun e => h.vb g rfl _ hm (.inl e)
  obtain ⟨g3, c3, e3, hM⟩ := (h.fr _ hm).app h.z h.n he (hd _ hm) hg hrow (hat.imp id (fun h => ⟨g2, rfl, h⟩))
  obtain ⟨rfl, rfl⟩ : g2 = g3 ∧ c2 = c3 := by cases e3; exact ⟨rfl, rfl⟩
  have hg2g : g2 ≠ g := fun e => hat.elim (fun q => hgh (e ▸ q.symm)) (fun q => by omega)
  have hS : ∀ k, FM.S { homeFr F with L := (homeFr F).L ++ [e], am := some ⟨g2, 0, none⟩, cm := c2 } k → (homeFr F).S k ∨ (e.K k ∨ wr.heap.size ≤ k) := fun k hk => by
    rcases hk with q | ⟨d, hd', hk⟩
    · have : g2 = k := by simpa [Value.ownBlock] using q
      subst this
      exact hat.elim (fun q => .inl (.inl q.symm)) (fun q => .inr (.inr q))
    · rcases List.mem_append.1 hd' with h1 | h1
      · exact .inl (.inr ⟨d, h1, hk⟩)
      · obtain rfl : d = e := by simpa using h1
        exact .inr (.inl hk)
  have hN : ∀ x ∈ F, ∀ k, (e.K k ∨ wr.heap.size ≤ k) → ¬ x.S k := fun x hx k hk hk2 => hk.elim (fun q => hd x hx k q hk2) (fun q => by have := ((h.fr x hx).lt k hk2).2; omega)
  have hnew : ∀ k, FM.S { homeFr F with L := (homeFr F).L ++ [e], am := some ⟨g2, 0, none⟩, cm := c2 } k → k ≠ g := fun k hk e' => by
    subst e'
    rcases hS k hk with q | q | q
    · exact h.vb k rfl _ hm q
    · exact hdg q
    · omega
  refine ⟨?_, fun y hy => ?_, putHome_dis _ _ _ _ hh h.dis hS hN, fun g' hg' y hy hk => ?_, by simpa using Nat.le_trans h.z hst.size, h.n⟩
  · rw [putHome_len, putHome_cells e _ _ hh]
    exact ((own_stay h.row hst (fun g' hg' => by cases hg'; exact hgh)).stored (homeIx F * 6 + 4) _).1
  · rcases putHome_mem e _ _ hh h.dis hy with ⟨hy, hyd⟩ | rfl
    · exact ((h.fr y hy).stay hst (fun k hk e => by have := ((h.fr _ hm).row.lt k e).1; have := h.n; omega) (fun k hk e => hyd k hk (.inl e)) (Nat.le_trans h.n h.z)).stay hst2 hng (fun k hk e => h.vb g rfl y hy (e ▸ hk)) (Nat.le_trans (Nat.le_trans h.n h.z) hst.size)
    · exact hM.stay hst2 hng hnew (Nat.le_trans (Nat.le_trans h.n h.z) hst.size)
  · have e0 : g = g' := by simpa [Value.ownBlock] using hg'
    subst e0
    rcases putHome_mem e _ _ hh h.dis hy with ⟨hy, _⟩ | rfl
    · exact h.vb g rfl y hy hk
    · exact hnew g hk rfl
end NSt
end Go.Proofs.Ytollijngiioonaa

/- Contracts of the program's functions on names, and of those that ask one function of a list. Conditions: at most 1048577 functions. -/
namespace Go.Proofs.Ytollijngiioonaa
set_option maxRecDepth 100000
open Go.RowKit

def lowB (c : UInt8) : Bool := decide ((97 : Int) ≤ (c.toNat : Int)) && decide ((c.toNat : Int) ≤ 122)
def digB (c : UInt8) : Bool := decide ((48 : Int) ≤ (c.toNat : Int)) && decide ((c.toNat : Int) ≤ 57)

theorem chOk_zero (c : UInt8) : chOk 0 c = lowB c := by
  simp only [chOk, lowB, Nat.lt_irrefl, decide_false, Bool.false_and, Bool.or_false]
  congr 1 <;> exact decide_eq_decide.2 (by omega)

theorem chOk_pos {k : Nat} (hk : 0 < k) (c : UInt8) : chOk k c = (lowB c || digB c) := by
  simp only [chOk, lowB, digB, hk, decide_true, Bool.true_and]
  congr 2 <;> exact decide_eq_decide.2 (by omega)

set_option maxHeartbeats 800000 in
theorem isLetter_any (c : UInt8) (w : World) : Calls Try.prog 125 #[.int .u8 c.toNat] w fun e w' => e = .returned (.bool (lowB c)) ∧ w' = w := by
  rw [lowB]
  by_cases h : (97 : Int) ≤ (c.toNat : Int)
  · rw [decide_eq_true h]
    go_enter Try.func125, Try.ntmps125
    go_wp2
    go_ret
    exact ⟨ret_bool (by simp), rfl⟩
  · rw [decide_eq_false h]
    go_enter Try.func125, Try.ntmps125
    go_wp2
    go_ret
    exact ⟨ret_bool (by simp), rfl⟩

set_option maxHeartbeats 800000 in
theorem isDigit_any (c : UInt8) (w : World) : Calls Try.prog 126 #[.int .u8 c.toNat] w fun e w' => e = .returned (.bool (digB c)) ∧ w' = w := by
  rw [digB]
  by_cases h : (48 : Int) ≤ (c.toNat : Int)
  · rw [decide_eq_true h]
    go_enter Try.func126, Try.ntmps126
    go_wp2
    go_ret
    exact ⟨ret_bool (by simp), rfl⟩
  · rw [decide_eq_false h]
    go_enter Try.func126, Try.ntmps126
    go_wp2
    go_ret
    exact ⟨ret_bool (by simp), rfl⟩

theorem name_long {s : ByteArray} (h : (8 : Int) < (s.size : Int)) : nameOk s = false := by
  rw [nameOk, decide_eq_false (show ¬ s.size ≤ 8 by omega)]; simp

theorem chs_one {s : ByteArray} (h : 0 < s.size) (h0 : lowB s[0] = true) : chsOk s 1 = true := by
  rw [chsOk, chsOk, dif_pos h, chOk_zero, h0]; rfl

theorem name_end {s : ByteArray} (h : chsOk s s.size = true) (h1 : 0 < s.size) (h8 : s.size ≤ 8) : nameOk s = true := by
  rw [nameOk, h, decide_eq_true (show 1 ≤ s.size by omega), decide_eq_true h8]; rfl

set_option maxHeartbeats 1600000 in
theorem impNameOk_any (s : ByteArray) (w : World) :
    Calls Try.prog 118 #[.string s] w fun e w' => e = .returned (.bool (nameOk s)) ∧ w' = w := by
  by_cases h1 : (s.size : Int) < 1
  · have HN : Hid (nameOk s = false) := name_neg (by omega)
    go_enter Try.func118, Try.ntmps118
    go_wp2
    go_ret
    exact ⟨ret_bool HN.out.symm, rfl⟩
  by_cases h8 : (8 : Int) < (s.size : Int)
  · have HN : Hid (nameOk s = false) := name_long h8
    go_enter Try.func118, Try.ntmps118
    go_wp2
    go_ret
    exact ⟨ret_bool HN.out.symm, rfl⟩
  have hz : 0 < s.size := by omega
  have hz' : (0 : Int) < (s.size : Int) := by omega
  have I0 := fun w => isLetter_any s[0] w
  by_cases hL : lowB s[0] = true
  · have HA1 : Hid (chsOk s 1 = true) := chs_one hz hL
    rw [hL] at I0
    go_enter Try.func118, Try.ntmps118
    go_wp2_with (go_at_call 125; refine (I0 _).mono ?_; rintro e w2 ⟨rfl, hw⟩; subst w2)
    go_loop [3] (fun i => ∃ k : Nat, 1 ≤ k ∧ k ≤ s.size ∧ i = .int .i64 k ∧ Hid (chsOk s k = true)) (fun i => s.size - (intOf i).toNat)
    case atStart => exact ⟨1, by omega, by omega, rfl, HA1⟩
    case round =>
      obtain ⟨k, hk1, hk, rfl, HA⟩ := hrel
      by_cases hk' : k < s.size
      · have hki : (k : Int) < (s.size : Int) := by omega
        have HG : Hid (chOk k s[k] = true → chsOk s (k + 1) = true) := fun h => by rw [chsOk, HA.out, dif_pos hk', h]; rfl
        have HB : Hid (chOk k s[k] = false → nameOk s = false) := chs_bad s hk'
        have HP : Hid (chOk k s[k] = (lowB s[k] || digB s[k])) := chOk_pos hk1 s[k]
        have IL := fun w => isLetter_any s[k] w
        have ID := fun w => isDigit_any s[k] w
        by_cases e1 : lowB s[k] = true
        · rw [e1] at IL
          have HC : Hid (chsOk s (k + 1) = true) := HG.out (by rw [HP.out, e1]; rfl)
          go_wp2_with (go_at_call 125; refine (IL _).mono ?_; rintro e w2 ⟨rfl, hw⟩; subst w2)
          go_round
          case rel => exact ⟨k + 1, by omega, by omega, by go_num, HC⟩
          case measure => simp [intOf]; omega
        · rw [Bool.not_eq_true] at e1
          rw [e1] at IL
          by_cases e2 : digB s[k] = true
          · rw [e2] at ID
            have HC : Hid (chsOk s (k + 1) = true) := HG.out (by rw [HP.out, e1, e2]; rfl)
            go_wp2_with (first | (go_at_call 125; refine (IL _).mono ?_; rintro e w2 ⟨rfl, hw⟩; subst w2) | (go_at_call 126; refine (ID _).mono ?_; rintro e w2 ⟨rfl, hw⟩; subst w2))
            go_round
            case rel => exact ⟨k + 1, by omega, by omega, by go_num, HC⟩
            case measure => simp [intOf]; omega
          · rw [Bool.not_eq_true] at e2
            rw [e2] at ID
            have HC : Hid (nameOk s = false) := HB.out (by rw [HP.out, e1, e2]; rfl)
            go_wp2_with (first | (go_at_call 125; refine (IL _).mono ?_; rintro e w2 ⟨rfl, hw⟩; subst w2) | (go_at_call 126; refine (ID _).mono ?_; rintro e w2 ⟨rfl, hw⟩; subst w2))
            go_ret
            exact ⟨ret_bool HC.out.symm, rfl⟩
      · have e : k = s.size := by omega
        have HC : Hid (nameOk s = true) := name_end (e ▸ HA.out) hz (by omega)
        clear e
        go_wp2
        go_ret
        exact ⟨ret_bool HC.out.symm, rfl⟩
  · rw [Bool.not_eq_true] at hL
    have HN : Hid (nameOk s = false) := chs_bad s hz (by rw [chOk_zero, hL])
    rw [hL] at I0
    go_enter Try.func118, Try.ntmps118
    go_wp2_with (go_at_call 125; refine (I0 _).mono ?_; rintro e w2 ⟨rfl, hw⟩; subst w2)
    go_ret
    exact ⟨ret_bool HN.out.symm, rfl⟩

set_option maxHeartbeats 800000 in
theorem isSym_any (a : Option Addr) (n cap : Nat) (f : Int) (w : World) :
    Calls Try.prog 43 #[.slice a n cap, .int .i64 f] w fun e w' => e = .returned (.bool (decide (0 ≤ f) && decide (f < (n : Int)))) ∧ w' = w := by
  by_cases h : 0 ≤ f
  · go_enter Try.func43, Try.ntmps43
    go_wp2
    go_ret
    exact ⟨ret_bool (by simp [h]), rfl⟩
  · go_enter Try.func43, Try.ntmps43
    go_wp2
    go_ret
    exact ⟨ret_bool (by simp; omega), rfl⟩

set_option maxHeartbeats 800000 in
theorem impBlind_any (a : Option Addr) (ss : List SymD) (n cap : Nat) (f : Int) (w : World) (hn : n = ss.length) (hr : RdS w a ss) :
    Calls Try.prog 14 #[.slice a n cap, .int .i64 f] w fun e w' => e = .returned (.bool (blindAt ss f)) ∧ w' = w := by
  subst hn
  have I := fun w => isSym_any a ss.length cap f w
  by_cases h0 : 0 ≤ f ∧ f < (ss.length : Int)
  · obtain ⟨h0, h1⟩ := h0
    obtain ⟨k, rfl⟩ := Int.eq_ofNat_of_zero_le h0
    have hk : k < ss.length := by omega
    have HB : Hid (blindAt ss k = ss[k].ac) := blindAt_in hk
    rw [decide_eq_true h0, decide_eq_true h1] at I
    rcases hr with rfl | ⟨b, off, rfl, hlt, hc⟩
    · simp at hk
    · obtain ⟨c0, c1, c2⟩ := hc k hk
      clear hc
      go_enter Try.func14, Try.ntmps14
      go_wp2_with (go_at_call 43; refine (I _).mono ?_; rintro e w2 ⟨rfl, hw⟩; subst w2)
      go_ret
      exact ⟨ret_bool HB.out.symm, rfl⟩
  · have HB : Hid (blindAt ss f = false) := (at_out (by omega)).1
    have e : (decide (0 ≤ f) && decide (f < (ss.length : Int))) = false := by simp; omega
    rw [e] at I
    go_enter Try.func14, Try.ntmps14
    go_wp2_with (go_at_call 43; refine (I _).mono ?_; rintro e w2 ⟨rfl, hw⟩; subst w2)
    go_ret
    exact ⟨ret_bool HB.out.symm, rfl⟩

set_option maxHeartbeats 800000 in
theorem impArity_any (a : Option Addr) (ss : List SymD) (n cap : Nat) (f : Int) (w : World) (hn : n = ss.length) (hr : RdS w a ss) :
    Calls Try.prog 97 #[.slice a n cap, .int .i64 f] w fun e w' => e = .returned (.int .i64 (arityAt ss f)) ∧ w' = w := by
  subst hn
  have I := fun w => isSym_any a ss.length cap f w
  by_cases h0 : 0 ≤ f ∧ f < (ss.length : Int)
  · obtain ⟨h0, h1⟩ := h0
    obtain ⟨k, rfl⟩ := Int.eq_ofNat_of_zero_le h0
    have hk : k < ss.length := by omega
    have HB : Hid (arityAt ss k = ss[k].ar) := arityAt_in hk
    rw [decide_eq_true h0, decide_eq_true h1] at I
    rcases hr with rfl | ⟨b, off, rfl, hlt, hc⟩
    · simp at hk
    · obtain ⟨c0, c1, c2⟩ := hc k hk
      clear hc
      go_enter Try.func97, Try.ntmps97
      go_wp2_with (go_at_call 43; refine (I _).mono ?_; rintro e w2 ⟨rfl, hw⟩; subst w2)
      go_ret
      exact ⟨ret_int HB.out.symm, rfl⟩
  · have HB : Hid (arityAt ss f = -1) := (at_out (by omega)).2
    have e : (decide (0 ≤ f) && decide (f < (ss.length : Int))) = false := by simp; omega
    rw [e] at I
    go_enter Try.func97, Try.ntmps97
    go_wp2_with (go_at_call 43; refine (I _).mono ?_; rintro e w2 ⟨rfl, hw⟩; subst w2)
    go_ret
    exact ⟨ret_int HB.out.symm, rfl⟩
end Go.Proofs.Ytollijngiioonaa

/- A region that draws its order, whose operations only read and whose callees may lay blocks of their own, walked once, in the order of the text: the class of worlds in which all that was there lies as it lay. Conditions: none. -/
namespace Go.Proofs.Ytollijngiioonaa
set_option maxRecDepth 100000
open Go.RowKit

/-- A world in which all that lay in w lies as it lay. -/
structure BW (w : World) where
  u : World
  b : Below w.heap.size w u
instance (w : World) : Inhabited (BW w) := ⟨⟨w, Below.refl _ _⟩⟩
theorem wp_region_below {P : Program} {id : Nat} {Q : Exit → Act → World → Prop} {a : Act} {w : World} {l : List Oper} (hm : P.follows .mixedOrders = true) (hB : Region.lexB .any l.toArray = true)
    (h : wpQuiet P l.toArray (fun w' => ∃ p : BW w, w' = p.u) (fun a' => ∀ w', (∃ p : BW w, w' = p.u) → Q .normal a' w') l a) : (Code.region id l.toArray true).wp P Q a w :=
  wp_region_quiet (C := fun w' => ∃ p : BW w, w' = p.u) hm hB ⟨⟨w.drew, (Below.refl _ _).drew⟩, rfl⟩ (by simpa using h)
/-- What was there is there. -/
theorem cellB {w : World} {a : Addr} {v : Value} (h : w.cell? a = some v) (p : BW w) : p.u.cell? a = some v := (p.b.cell (World.block_lt_of_cell? w a h)).trans h
/-- A callee's contract, met in a world of the class. -/
theorem callsB {P : Program} {f : FuncId} {args : Array Value} {w : World} {p : BW w} {v : Value}
    (h : Calls P f args p.u fun e w' => e = .returned v ∧ Below p.u.heap.size p.u w') : Calls P f args p.u fun e w'' => e = .returned v ∧ ∃ q : BW w, w'' = q.u :=
  h.mono fun _ w' ⟨he, hb⟩ => ⟨he, ⟨w', p.b.trans (hb.mono p.b.size)⟩, rfl⟩
end Go.Proofs.Ytollijngiioonaa

/- How the program holds the heads of two terms against each other. Conditions: none. -/
namespace Go.Proofs.Ytollijngiioonaa
set_option maxRecDepth 100000
open Go.RowKit

theorem isNaN_any (x : Int) (w : World) : Calls Try.prog 117 #[.int .i64 x] w fun e w' => e = .returned (.bool false) ∧ w' = w := by
  have h : (x != x) = false := by simp
  go_enter Try.func117, Try.ntmps117
  go_wp2
  go_ret
  exact ⟨rfl, rfl⟩

theorem compare_any (x y : Int) (w : World) : Calls Try.prog 89 #[.int .i64 x, .int .i64 y] w fun e w' => e = .returned (.int .i64 (cmpI x y)) ∧ w' = w := by
  by_cases h1 : x < y
  · have HC : Hid (cmpI x y = -1) := by show _ = _; unfold cmpI; rw [if_pos h1]
    go_enter Try.func89, Try.ntmps89
    go_wp2_with (go_at_call 117; refine (isNaN_any _ _).mono ?_; rintro e w' ⟨rfl, rfl⟩)
    go_ret
    exact ⟨rtI HC.out.symm, rfl⟩
  · by_cases h2 : y < x
    · have HC : Hid (cmpI x y = 1) := by show _ = _; unfold cmpI; rw [if_neg h1, if_pos h2]
      go_enter Try.func89, Try.ntmps89
      go_wp2_with (go_at_call 117; refine (isNaN_any _ _).mono ?_; rintro e w' ⟨rfl, rfl⟩)
      go_ret
      exact ⟨rtI HC.out.symm, rfl⟩
    · have HC : Hid (cmpI x y = 0) := by show _ = _; unfold cmpI; rw [if_neg h1, if_neg h2]
      go_enter Try.func89, Try.ntmps89
      go_wp2_with (go_at_call 117; refine (isNaN_any _ _).mono ?_; rintro e w' ⟨rfl, rfl⟩)
      go_ret
      exact ⟨rtI HC.out.symm, rfl⟩

theorem or3_any (g : Nat) (x y z : Int) (w : World) (h0 : w.cell? ⟨g, 0, none⟩ = some (.int .i64 x)) (h1 : w.cell? ⟨g, 1, none⟩ = some (.int .i64 y)) (h2 : w.cell? ⟨g, 2, none⟩ = some (.int .i64 z)) :
    Calls Try.prog 88 #[.slice (some ⟨g, 0, none⟩) 3 3] w fun e w' => e = .returned (.int .i64 (or3 x y z)) ∧ w' = w := by
  go_enter Try.func88, Try.ntmps88
  go_wp2
  refine wp_loop_rounds 4 ?_
  rw [rounds_succ]
  by_cases e0 : x = 0
  · have b0 : (x != 0) = false := by simp [e0]
    go_wp2
    rw [rounds_succ]
    by_cases e1 : y = 0
    · have b1 : (y != 0) = false := by simp [e1]
      go_wp2
      rw [rounds_succ]
      by_cases e2 : z = 0
      · have b2 : (z != 0) = false := by simp [e2]
        have HC : Hid (or3 x y z = 0) := by show _ = _; unfold or3; simp [e0, e1, e2]
        clear e0 e1 e2
        go_wp2
        rw [rounds_succ]
        go_wp2
        go_ret
        exact ⟨rtI HC.out.symm, rfl⟩
      · have b2 : (z != 0) = true := by simp [e2]
        have HC : Hid (or3 x y z = z) := by show _ = _; unfold or3; simp [e0, e1]
        clear e0 e1 e2
        go_wp2
        go_ret
        exact ⟨rtI HC.out.symm, rfl⟩
    · have b1 : (y != 0) = true := by simp [e1]
      have HC : Hid (or3 x y z = y) := by show _ = _; unfold or3; simp [e0, e1]
      clear e0 e1
      go_wp2
      go_ret
      exact ⟨rtI HC.out.symm, rfl⟩
  · have b0 : (x != 0) = true := by simp [e0]
    have HC : Hid (or3 x y z = x) := by show _ = _; unfold or3; simp [e0]
    clear e0
    go_wp2
    go_ret
    exact ⟨rtI HC.out.symm, rfl⟩

set_option maxHeartbeats 1600000 in
theorem headOrder_any (t u : TermD) (a a' : Option Addr) (c c' : Nat) (w : World) :
    Calls Try.prog 70 #[.agg #[.int .i64 t.f, .int .i64 t.v, .slice a t.kids.length c], .agg #[.int .i64 u.f, .int .i64 u.v, .slice a' u.kids.length c']] w fun e w' => e = .returned (.int .i64 (headO t u)) ∧ Below w.heap.size w w' := by
  have HC : Hid (headO t u = or3 (cmpI t.f u.f) (cmpI t.v u.v) (cmpI t.kids.length u.kids.length)) := rfl
  generalize t.kids.length = n at *
  generalize u.kids.length = m at *
  go_enter Try.func70, Try.ntmps70
  go_wp2_with fail
  go_region_held3 (fun w' => w'.cell? ⟨w.heap.size, 0, none⟩ = some (.int .i64 t.f) ∧ w'.cell? ⟨w.heap.size, 1, none⟩ = some (.int .i64 t.v) ∧ w'.cell? ⟨w.heap.size, 2, none⟩ = some (.slice a n c) ∧ w'.cell? ⟨w.heap.size + 1, 0, none⟩ = some (.int .i64 u.f) ∧ w'.cell? ⟨w.heap.size + 1, 1, none⟩ = some (.int .i64 u.v) ∧ w'.cell? ⟨w.heap.size + 1, 2, none⟩ = some (.slice a' m c')) (first | go_keep | skip)
    (first | (go_at_call 89; refine (compare_any _ _ _).mono ?_; rintro e w' ⟨rfl, hw⟩; subst w') | (go_at_call 88; refine (or3_any _ (cmpI t.f u.f) (cmpI t.v u.v) (cmpI n m) _ ?_ ?_ ?_).mono ?_; (simp [go_sem]); (simp [go_sem]); (simp [go_sem]); rintro e w' ⟨rfl, hw⟩; subst w'))
  go_wp2_with fail
  go_ret
  exact ⟨rtI HC.out.symm, (((((Below.refl w.heap.size w).alloc (Nat.le_refl _) _).alloc (by simp) _).alloc (by simp; omega) _).drew)⟩
end Go.Proofs.Ytollijngiioonaa

/- The rest of a slice of terms behind its first. Conditions: none. -/
namespace Go.Proofs.Ytollijngiioonaa
set_option maxRecDepth 100000
open Go.RowKit

theorem slice_tail (b off n c : Nat) (w : World) : (Instr.slice 25 (.slice (some ⟨b, off, none⟩) (n + 1) c) (some (.int .i64 1)) none none).run Try.prog w = .ok (.slice (tailA b off c) n (c - 1)) w := by
  have h0 : (sizeOf 27).run Try.prog w = .ok 3 w := by simp [go_sem]
  simp only [Instr.slice, Sem.run_bind, run_underlying Try.underlying25, Result.andThen]
  have hb : (Instr.sliceBounds true (n + 1) c (some (.int .i64 1)) none none).run Try.prog w = .ok (1, n + 1, c) w := by
    simp [Instr.sliceBounds, Instr.sliceBound, asIntOf, go_sem]
    omega
  simp only [hb, h0, Sem.run_pure]
  unfold tailA
  split <;> simp [Addr.add]
theorem sliceAt_tail (b off n c : Nat) (w : World) : (Instr.sliceAt 25 (.slice (some ⟨b, off, none⟩) (n + 1) c) (some (.int .i64 1)) none none).run Try.prog w = .ok (.slice (tailA b off c) n (c - 1)) w := by
  simp only [Instr.sliceAt, Sem.run_bind, run_underlying Try.underlying25, Result.andThen, slice_tail b off n c w]

end Go.Proofs.Ytollijngiioonaa

/- How the program holds two terms against each other. Conditions: terms of at most 549755813888 parts. -/
namespace Go.Proofs.Ytollijngiioonaa
set_option maxRecDepth 100000
open Go.RowKit

theorem info99 : (Try.prog.info? 105).map (fun i => (i.zero, i.size, i.bytes)) = some (some (.agg #[.slice none 0 0, .slice none 0 0]), 2, 48) := by kernel_rfl

theorem far2 (w : World) {g j j' : Nat} {v v' : Value} {p : Addr} (h : p.block ≠ g) : ((w.setCell ⟨g, j, none⟩ v).setCell ⟨g, j', none⟩ v').drew.cell? p = w.cell? p := by
  show World.cell? ((w.setCell ⟨g, j, none⟩ v).setCell ⟨g, j', none⟩ v') p = _
  refine World.cell?_of_block ?_
  rw [Below.heap_setCell _ _ _ _ h, Below.heap_setCell _ _ _ _ h]

/-- The stack as it is laid at first. -/
theorem ord_start {t u : TermD} {a a' : Option Addr} {c c' hi : Nat} {w w1 w2 : World} {v : Value} {cap g : Nat} (hr : RdK w hi a t.kids) (hr' : RdK w hi a' u.kids) (hle : t.kids.length ≤ c) (hle' : u.kids.length ≤ c') (hhi : hi ≤ w.heap.size) (hb1 : Below w.heap.size w w1) (hg : g < w1.heap.size)
    (hown : w2.ownsRow w.heap.size 105 2 v (0 + 1) ([] ++ [.slice (some ⟨w1.heap.size, 0, none⟩) 1 1, .slice (some ⟨w1.heap.size + 1, 0, none⟩) 1 1]))
    (hgrow : (((w1.alloc (.cells #[.int .i64 t.f, .int .i64 t.v, .slice a t.kids.length c] 27)).alloc (.cells #[.int .i64 u.f, .int .i64 u.v, .slice a' u.kids.length c'] 27)).alloc (.cells #[.slice (some ⟨w1.heap.size, 0, none⟩) 1 1, .slice (some ⟨w1.heap.size + 1, 0, none⟩) 1 1] 105)).grownBy w2 (Value.slice (some ⟨g, 0, none⟩) 0 cap).ownBlock)
    (hbase : w.heap.size ≤ g) : ∃ E, OrdSt w w1.heap.size 105 27 (ordT t u) (2 * partsT t + 1) E v w2 := by
  have hx : w1.heap.size ≠ g ∧ w1.heap.size + 1 ≠ g := by omega
  have hs1 := hb1.size
  have hc : ∀ k, k < w1.heap.size + 3 → k ≠ g → w2.heap[k]? = ((((w1.alloc (.cells #[.int .i64 t.f, .int .i64 t.v, .slice a t.kids.length c] 27)).alloc (.cells #[.int .i64 u.f, .int .i64 u.v, .slice a' u.kids.length c'] 27)).alloc (.cells #[.slice (some ⟨w1.heap.size, 0, none⟩) 1 1, .slice (some ⟨w1.heap.size + 1, 0, none⟩) 1 1] 105)).heap[k]? : Option Obj) :=
    fun k hk hne => hgrow.block k (by simp; omega) (fun e => hne (by simpa [Value.ownBlock] using e))
  have b0 : w2.heap[w1.heap.size]? = some (.cells #[.int .i64 t.f, .int .i64 t.v, .slice a t.kids.length c] 27) := by
    rw [hc _ (by omega) hx.1, Below.heap_alloc _ _ _ (by simp; omega), Below.heap_alloc _ _ _ (by simp)]; exact World.alloc_heap_new _ _
  have b1 : w2.heap[w1.heap.size + 1]? = some (.cells #[.int .i64 u.f, .int .i64 u.v, .slice a' u.kids.length c'] 27) := by
    rw [hc _ (by omega) hx.2, Below.heap_alloc _ _ _ (by simp)]
    have := World.alloc_heap_new (w1.alloc (.cells #[.int .i64 t.f, .int .i64 t.v, .slice a t.kids.length c] 27)) (.cells #[.int .i64 u.f, .int .i64 u.v, .slice a' u.kids.length c'] 27)
    rwa [World.size_alloc] at this
  have hb2 : Below w.heap.size w w2 := by
    refine ((((hb1.alloc hs1 _).alloc (by simp; omega) _).alloc (by simp; omega) _).grown hgrow (by simp; omega) (fun k e => ?_))
    have : g = k := by simpa [Value.ownBlock] using e
    omega
  have cell : ∀ {b : Nat} {cs : Array Value} {T : Nat} (j : Nat), w2.heap[b]? = some (.cells cs T) → w2.cell? ⟨b, j, none⟩ = cs[j]? := fun j h => by simp [World.cell?, h]
  have hk : ∀ {b : Nat} {x : TermD} {y : Option Addr} {z : Nat}, Fx w.heap.size w1.heap.size b → w2.heap[b]? = some (.cells #[.int .i64 x.f, .int .i64 x.v, .slice y x.kids.length z] 27) → x.kids.length ≤ z → RdK w hi y x.kids → RdP w2 (Fx w.heap.size w1.heap.size) (some ⟨b, 0, none⟩) [x] := by
    intro b x y z hb h hz hr
    refine .row b 0 [x] (fun _ => y) (fun _ => z) hb (fun i hi => ?_) (fun i hi => ?_) (fun i hi => ?_)
    all_goals
      have e : i = 0 := by simp at hi; omega
      subst e
      simp only [List.getElem_cons_zero]
    · exact hz
    · refine ⟨?_, ?_, ?_⟩
      all_goals rw [cell _ h]; simp
    · exact (hr.on (hb2.mono hhi)).p (fun k hk => .inl (by omega))
  refine ⟨[⟨some ⟨w1.heap.size, 0, none⟩, 1, [t], some ⟨w1.heap.size + 1, 0, none⟩, 1, [u]⟩], hown, ⟨_, _, b0⟩, ⟨_, _, b1⟩, by decide, hs1, fun e he => ?_, ?_, ?_, hb2⟩
  · simp only [List.mem_singleton] at he
    subst he
    exact ⟨hk (.inr (.inl rfl)) b0 hle hr, hk (.inr (.inr rfl)) b1 hle' hr', Nat.le_refl _, Nat.le_refl _, rfl⟩
  · simp only [dataP, List.map_cons, List.map_nil, ordS, ordL_cons, ordL_nil]; by_cases e : ordT t u = 0 <;> simp [e]
  · simp [dataP, sizeS, partsL]

set_option maxHeartbeats 3200000 in
set_option maxRecDepth 100000 in
theorem termOrder_any (t u : TermD) (a a' : Option Addr) (c c' hi : Nat) (w : World) (hp : partsT t ≤ 549755813888) (hr : RdK w hi a t.kids) (hr' : RdK w hi a' u.kids) (hle : t.kids.length ≤ c) (hle' : u.kids.length ≤ c') (hhi : hi ≤ w.heap.size) :
    Calls Try.prog 45 #[.agg #[.int .i64 t.f, .int .i64 t.v, .slice a t.kids.length c], .agg #[.int .i64 u.f, .int .i64 u.v, .slice a' u.kids.length c']] w fun e w' => e = .returned (.int .i64 (ordT t u)) ∧ Below w.heap.size w w' := by
  obtain ⟨i0, hi0, hz0, hz1, hz2⟩ := info_parts info99
  obtain ⟨W, hW⟩ : ∃ W, W = (w.alloc (.cells #[.int .i64 t.f, .int .i64 t.v, .slice a t.kids.length c] 27)).alloc (.cells #[.int .i64 u.f, .int .i64 u.v, .slice a' u.kids.length c'] 27) := ⟨_, rfl⟩
  have hWs : W.heap.size = w.heap.size + 1 + 1 := by rw [hW]; simp
  have hWb : Below w.heap.size w W := by rw [hW]; exact ((Below.refl _ _).alloc (Nat.le_refl _) _).alloc (by simp) _
  have P0 : W.cell? ⟨w.heap.size, 0, none⟩ = some (.int .i64 t.f) ∧ W.cell? ⟨w.heap.size, 1, none⟩ = some (.int .i64 t.v) ∧ W.cell? ⟨w.heap.size, 2, none⟩ = some (.slice a t.kids.length c) ∧ W.cell? ⟨w.heap.size + 1, 0, none⟩ = some (.int .i64 u.f) ∧ W.cell? ⟨w.heap.size + 1, 1, none⟩ = some (.int .i64 u.v) ∧ W.cell? ⟨w.heap.size + 1, 2, none⟩ = some (.slice a' u.kids.length c') := by rw [hW]; simp [go_sem]
  obtain ⟨r, hrr⟩ : ∃ r, r = ordT t u := ⟨_, rfl⟩
  rw [← hrr]
  have HRR : Hid (r = ordT t u) := hrr
  clear hrr
  go_enter Try.func45, Try.ntmps45
  go_wp2_with (first
    | (at_make; rw [← hW]; refine wpList_make_own _ rfl _ _ 103 rfl w.heap.size 105 i0 _ 2 Try.underlying103 hi0 hz0 hz1 _ _ _ 8 rfl rfl (by omega) (by rw [hz2]; omega) (by unfold maxLen; omega) (by omega) ?_; intro w1 hown1 hgrow1; rw [hWs] at hown1 ⊢; have hb1 : Below W.heap.size W w1 := (Below.refl _ _).grown hgrow1 (Nat.le_refl _) (fun k e => by cases e); have hg1 : w.heap.size + 1 + 1 < w1.heap.size := (hown1.lt _ rfl).2; have hg2 : w.heap.size + 1 < w1.heap.size := (by omega); have hg3 : w.heap.size < w1.heap.size := (by omega); obtain ⟨p0, p1, p2, p3, p4, p5⟩ := P0; have p0 := keepC hb1 p0; have p1 := keepC hb1 p1; have p2 := keepC hb1 p2; have p3 := keepC hb1 p3; have p4 := keepC hb1 p4; have p5 := keepC hb1 p5; have hB1 : Below w.heap.size w w1 := hWb.trans (hb1.mono hWb.size); clear hW hWb hgrow1 hb1 hWs)
    | (at_builtin; refine wpList_append_own _ rfl (.tmp 12) (.tmp 18) 103 rfl w.heap.size 105 i0 _ 2 48 Try.underlying103 hi0 hz0 hz1 hz2 rfl (by decide) _ _ _ rfl (((hown1.alloc _).alloc _).alloc _) ⟨w1.heap.size + 1 + 1, 0, none⟩ 1 1 _ rfl rfl (two_new _ _ _ _ _ (by simp)) (two_cell _ _ _ _ _ _) (by unfold maxLen; omega) (by omega) (by simp; omega) ?_; intro v2 w2 hown2 hgrow2 hnil2; clear hnil2; obtain ⟨E0, st0⟩ := ord_start hr hr' hle hle' hhi hB1 hg1 hown2 hgrow2 (by omega); rw [← HRR.out] at st0; clear hown2 hgrow2 hown1 p0 p1 p2 p3 p4 p5))
  have hS : w.heap.size ≤ w1.heap.size := hB1.size
  have HM : Hid (2 * partsT t + 1 ≤ 1099511627777) := (by omega : 2 * partsT t + 1 ≤ 1099511627777)
  generalize 2 * partsT t + 1 = M at *
  clear hg1 hg2 hg3 p0 p1 p2 p3 p4 p5 hB1 hr hr' hle hle' hhi hp HRR
  generalize w1.heap.size = B at *
  go_loopw [5] (fun v wr => ∃ E, OrdSt w B 105 27 r M E v wr) (fun v wr => leastN (fun n => ∃ E, OrdSt w B 105 27 r M E v wr ∧ sizeS (dataP E) = n))
  case atStart => exact ⟨E0, st0⟩
  case round =>
    obtain ⟨E1, st1⟩ := hrel
    obtain ⟨n0, ⟨E, st, hn0⟩, hmin⟩ := leastN_spec (p := fun n => ∃ E, OrdSt w B 105 27 r M E u5 wr ∧ sizeS (dataP E) = n) ⟨_, E1, st1, rfl⟩
    clear st1 st0
    cases E with
    | nil =>
      have HZ : Hid (r = 0) := by show _ = _; have := st.ord; simpa [dataP, ordS] using this.symm
      have hb := st.below
      obtain ⟨a5, c5, rfl, _⟩ := own_form st.row
      clear st hmin hn0
      go_wp2_with fail
      go_ret
      exact ⟨rtI HZ.out.symm, hb⟩
    | cons e E =>
      obtain ⟨g, cap, rfl, hcap, hg0, hgl⟩ := own_slot st.row
      obtain ⟨q0, q1⟩ := cellsP_top st.row
      have ok := st.good e (by simp)
      have hlen := sizeS_len (dataP (e :: E))
      have hsz := st.size
      have HM' := HM.out
      have hEl : E.length ≤ 1099511627776 := by simp [dataP] at hlen; simp [dataP] at hsz; omega
      have hEi : (E.length : Int) ≤ cap := by omega
      clear hlen hsz HM' HM
      obtain ⟨ea, ec, ets, ea', ec', eus⟩ := e
      cases ets with
      | nil =>
        have st' := (st.pop rfl).on ((Below.refl wr.heap.size wr).alloc (Nat.le_refl _) (.cells #[.slice ea 0 ec, .slice ea' eus.length ec'] 105))
        simp only [List.length_nil] at q0
        have Q0 : Hid (sizeS (dataP E) < n0) := by show _ < _; rw [← hn0]; simp [dataP, sizeS]
        clear st ok hn0
        go_wp2_with fail
        go_roundw
        case rel => exact ⟨E, st'⟩
        case measure => exact Nat.lt_of_le_of_lt (leastN_le ⟨E, st', rfl⟩) (by rw [hmin]; exact Q0.out)
      | cons x xs =>
        cases eus with
        | nil => have := ok.eq; simp at this
        | cons y ys =>
          obtain ⟨b, off, xa, xc, hb, hSb, x0, x1, x2, hxc, hxr⟩ := ok.r.head
          obtain ⟨b', off', ya, yc, hb', hSb', y0, y1, y2, hyc, hyr⟩ := ok.r'.head
          simp only at hb hb'
          subst hb
          subst hb'
          have hle1 := ok.le
          have hle2 := ok.le'
          simp only [List.length_cons] at hle1 hle2 q0 q1
          have hgg := st.own g rfl
          have hbg : b ≠ g := fun e => hgg (e ▸ hSb)
          have hbg' : b' ≠ g := fun e => hgg (e ▸ hSb')
          obtain ⟨W2, hW2⟩ : ∃ W2, W2 = wr.alloc (.cells #[.slice (some ⟨b, off, none⟩) (xs.length + 1) ec, .slice (some ⟨b', off', none⟩) (ys.length + 1) ec'] 105) := ⟨_, rfl⟩
          have hb2 : Below wr.heap.size wr W2 := by rw [hW2]; exact (Below.refl _ _).alloc (Nat.le_refl _) _
          have hz2' : W2.heap.size = wr.heap.size + 1 := by rw [hW2]; simp
          have c0 : W2.cell? ⟨wr.heap.size, 0, none⟩ = some (.slice (some ⟨b, off, none⟩) (xs.length + 1) ec) := by rw [hW2]; simp [go_sem]
          have c1 : W2.cell? ⟨wr.heap.size, 1, none⟩ = some (.slice (some ⟨b', off', none⟩) (ys.length + 1) ec') := by rw [hW2]; simp [go_sem]
          have x0' := keepC hb2 x0
          have x1' := keepC hb2 x1
          have x2' := keepC hb2 x2
          have y0' := keepC hb2 y0
          have y1' := keepC hb2 y1
          have y2' := keepC hb2 y2
          clear x0 x1 x2 y0 y1 y2
          go_wp2_with fail
          rw [← hW2]
          clear hW2
          go_region_held3 (fun w' => w'.cell? ⟨wr.heap.size, 0, none⟩ = some (.slice (some ⟨b, off, none⟩) (xs.length + 1) ec) ∧ w'.cell? ⟨wr.heap.size, 1, none⟩ = some (.slice (some ⟨b', off', none⟩) (ys.length + 1) ec') ∧ w'.cell? ⟨b, off, none⟩ = some (.int .i64 x.f) ∧ w'.cell? ⟨b, off + 1, none⟩ = some (.int .i64 x.v) ∧ w'.cell? ⟨b, off + 2, none⟩ = some (.slice xa x.kids.length xc) ∧ w'.cell? ⟨b', off', none⟩ = some (.int .i64 y.f) ∧ w'.cell? ⟨b', off' + 1, none⟩ = some (.int .i64 y.v) ∧ w'.cell? ⟨b', off' + 2, none⟩ = some (.slice ya y.kids.length yc)) (first | go_keep | skip) (fail)
          all_goals clear x0' x1' x2' y0' y1' y2'
          all_goals
            first
            | (obtain ⟨W3, hW3⟩ : ∃ W3, W3 = ((W2.alloc (.cells #[.int .i64 x.f, .int .i64 x.v, .slice xa x.kids.length xc] 27)).alloc (.cells #[.int .i64 y.f, .int .i64 y.v, .slice ya y.kids.length yc] 27)).drew := ⟨_, rfl⟩
               rw [← hW3]
               have hB3 : Below W2.heap.size W2 W3 := by rw [hW3]; exact ((((Below.refl _ _).alloc (Nat.le_refl _) _).alloc (by simp) _).drew)
               obtain ⟨bq, hbq⟩ : ∃ bq, bq = wr.heap.size + 1 + 1 := ⟨_, rfl⟩
               obtain ⟨bx, hbx⟩ : ∃ bx, bx = wr.heap.size + 1 := ⟨_, rfl⟩
               rw [← hbq, ← hbx]
               have X0 : W3.cell? ⟨bx, 0, none⟩ = some (.int .i64 x.f) ∧ W3.cell? ⟨bx, 1, none⟩ = some (.int .i64 x.v) ∧ W3.cell? ⟨bx, 2, none⟩ = some (.slice xa x.kids.length xc) := by rw [hW3, hbx]; simp [go_sem, hz2']
               have Y0 : W3.cell? ⟨bq, 0, none⟩ = some (.int .i64 y.f) ∧ W3.cell? ⟨bq, 1, none⟩ = some (.int .i64 y.v) ∧ W3.cell? ⟨bq, 2, none⟩ = some (.slice ya y.kids.length yc) := by rw [hW3, hbq]; simp [go_sem, hz2']
               have nx : bx ≠ g := by omega
               have ny : bq ≠ g := by omega
               clear hbx hbq hW3)
            | (obtain ⟨W3, hW3⟩ : ∃ W3, W3 = ((W2.alloc (.cells #[.int .i64 y.f, .int .i64 y.v, .slice ya y.kids.length yc] 27)).alloc (.cells #[.int .i64 x.f, .int .i64 x.v, .slice xa x.kids.length xc] 27)).drew := ⟨_, rfl⟩
               rw [← hW3]
               have hB3 : Below W2.heap.size W2 W3 := by rw [hW3]; exact ((((Below.refl _ _).alloc (Nat.le_refl _) _).alloc (by simp) _).drew)
               obtain ⟨bx, hbx⟩ : ∃ bx, bx = wr.heap.size + 1 + 1 := ⟨_, rfl⟩
               obtain ⟨bq, hbq⟩ : ∃ bq, bq = wr.heap.size + 1 := ⟨_, rfl⟩
               rw [← hbx, ← hbq]
               have X0 : W3.cell? ⟨bx, 0, none⟩ = some (.int .i64 x.f) ∧ W3.cell? ⟨bx, 1, none⟩ = some (.int .i64 x.v) ∧ W3.cell? ⟨bx, 2, none⟩ = some (.slice xa x.kids.length xc) := by rw [hW3, hbx]; simp [go_sem, hz2']
               have Y0 : W3.cell? ⟨bq, 0, none⟩ = some (.int .i64 y.f) ∧ W3.cell? ⟨bq, 1, none⟩ = some (.int .i64 y.v) ∧ W3.cell? ⟨bq, 2, none⟩ = some (.slice ya y.kids.length yc) := by rw [hW3, hbq]; simp [go_sem, hz2']
               have nx : bx ≠ g := by omega
               have ny : bq ≠ g := by omega
               clear hbx hbq hW3)
            obtain ⟨X0, X1, X2⟩ := X0
            obtain ⟨Y0, Y1, Y2⟩ := Y0
          all_goals
            have c0' := keepC hB3 c0
            have c1' := keepC hB3 c1
            have st3 := st.on (hb2.trans (hB3.mono (by omega)))
            have fz : ∀ j, W3.frozen? ⟨g, j, none⟩ = false := fun j => st3.row.frozenAt j
            have hs1 := slice_tail b off xs.length ec
            have hs2 := slice_tail b' off' ys.length ec'
            have hs3 := sliceAt_tail b off xs.length ec
            have hs4 := sliceAt_tail b' off' ys.length ec'
            obtain ⟨d0, d1⟩ := cellsP_top st3.row
            simp only [List.length_cons] at d0 d1
            have hk0 : (0 : Int) ≤ E.length := by omega
            have hk1 : (E.length : Int) < ((E.length + 1 : Nat) : Int) := by omega
            have hk2 : (E.length : Int) < (E.length : Int) + 1 := by omega
            have ng : g ≠ wr.heap.size := by omega
            have ng' : wr.heap.size ≠ g := by omega
            go_wp2_with fail
            go_region_held3 (fun w' => w'.cell? ⟨wr.heap.size, 0, none⟩ = some (.slice (some ⟨b, off, none⟩) (xs.length + 1) ec) ∧ w'.cell? ⟨wr.heap.size, 1, none⟩ = some (.slice (some ⟨b', off', none⟩) (ys.length + 1) ec')) (first | go_keep | skip) (fail)
            obtain ⟨W4, hW4⟩ : ∃ W4, W4 = ((W3.setCell ⟨g, E.length * 2, none⟩ (.slice (tailA b off ec) xs.length (ec - 1))).setCell ⟨g, E.length * 2 + 1, none⟩ (.slice (tailA b' off' ec') ys.length (ec' - 1))).drew := ⟨_, rfl⟩
            rw [← hW4]
            have ok3 := st3.good _ (List.mem_cons_self ..)
            have hsz0 := st.size
            have st4 : OrdSt w B 105 27 (ordS ((xs, ys) :: dataP E)) M (⟨tailA b off ec, ec - 1, xs, tailA b' off' ec', ec' - 1, ys⟩ :: E) (.slice (some ⟨g, 0, none⟩) (E.length + 1) cap) W4 := by
              rw [hW4]
              refine (st3.set (d := ⟨tailA b off ec, ec - 1, xs, tailA b' off' ec', ec' - 1, ys⟩) ⟨ok3.r.tailA hle1, ok3.r'.tailA hle2, by simp only; omega, by simp only; omega, by have := ok3.eq; simpa using this⟩ rfl ?_).on ((Below.refl _ _).drew)
              simp only [dataP, List.map_cons, sizeS, partsL] at hsz0 ⊢
              omega
            have sW : Stay (Fx w.heap.size B) wr W4 := by
              rw [hW4]
              exact (((Stay.of_below (hb2.trans (hB3.mono (by omega))) (fun k hk _ => hk)).trans (Stay.setCell _ _ hgg)).trans (Stay.setCell _ _ hgg)).trans (.drew _ _)
            have hxr4 := hxr.stay sW
            have hyr4 := hyr.stay sW
            have X0 : W4.cell? ⟨bx, 0, none⟩ = some (.int .i64 x.f) ∧ W4.cell? ⟨bx, 1, none⟩ = some (.int .i64 x.v) ∧ W4.cell? ⟨bx, 2, none⟩ = some (.slice xa x.kids.length xc) := by rw [hW4]; exact ⟨(far2 _ nx).trans X0, (far2 _ nx).trans X1, (far2 _ nx).trans X2⟩
            have Y0 : W4.cell? ⟨bq, 0, none⟩ = some (.int .i64 y.f) ∧ W4.cell? ⟨bq, 1, none⟩ = some (.int .i64 y.v) ∧ W4.cell? ⟨bq, 2, none⟩ = some (.slice ya y.kids.length yc) := by rw [hW4]; exact ⟨(far2 _ ny).trans Y0, (far2 _ ny).trans Y1, (far2 _ ny).trans Y2⟩
            have hkl : x.kids.length = y.kids.length ∨ headO x y ≠ 0 := by
              by_cases e : headO x y = 0
              · exact .inl (headO_zero.1 e).2.2
              · exact .inr e
            have HO : Hid (headO x y ≠ 0 → r = headO x y) := fun e => by have := st.ord; rw [← this]; exact ordS_hit e
            have HP : Hid (headO x y = 0 → ordS ((x.kids, y.kids) :: (xs, ys) :: dataP E) = r) := fun e => by have := st.ord; rw [← this]; exact (ordS_push e).symm
            have HS : Hid (sizeS ((x.kids, y.kids) :: (xs, ys) :: dataP E) < n0) := by show _ < _; rw [← hn0]; exact sizeS_push x y xs ys _
            have HS2 : Hid (n0 ≤ M) := by show _ ≤ _; rw [← hn0]; exact hsz0
            have hE2 : E.length + 1 + 1 ≤ 1099511627778 := by omega
            obtain ⟨X0, X1, X2⟩ := X0
            obtain ⟨Y0, Y1, Y2⟩ := Y0
            have C := headOrder_any x y xa ya xc yc W4
            clear hW4 sW ok3 hsz0 hn0 st st3 c0 c1 c0' c1' fz hs1 hs2 hs3 hs4 hB3 hb2 hxr hyr ok q0 q1 d0 d1 hSb hSb' hle1 hle2
            by_cases e0 : headO x y = 0
            · have HP := HP.out e0
              have hkl' : x.kids.length = y.kids.length := hkl.resolve_right (fun h => h e0)
              rw [e0] at C
              have HPh : Hid (ordS ((x.kids, y.kids) :: (xs, ys) :: dataP E) = r) := HP
              have HK : Hid (x.kids.length = y.kids.length) := hkl'
              have HMI : Hid ((leastN fun n => ∃ E_1, OrdSt w B 105 27 r M E_1 (Value.slice (some ⟨g, 0, none⟩) (E.length + 1) cap) wr ∧ sizeS (dataP E_1) = n) = n0) := hmin
              clear HP HO hkl hkl' e0 hmin
              go_wp2_with (first
                | (go_at_call 70; refine C.mono ?_; rintro e w5 ⟨rfl, hb5⟩; have X0 := keepC hb5 X0; have X1 := keepC hb5 X1; have X2 := keepC hb5 X2; have Y0 := keepC hb5 Y0; have Y1 := keepC hb5 Y1; have Y2 := keepC hb5 Y2; have st5 := st4.on hb5; have hxr5 := hxr4.stay (.of_below hb5 (fun k hk _ => hk)); have hyr5 := hyr4.stay (.of_below hb5 (fun k hk _ => hk)); clear C st4 hxr4 hyr4 hb5)
                | (at_builtin; refine wpList_append_own _ rfl (.tmp 61) (.tmp 67) 103 rfl w.heap.size 105 i0 _ 2 48 Try.underlying103 hi0 hz0 hz1 hz2 rfl (by decide) _ _ _ rfl (st5.row.alloc _) ⟨w5.heap.size, 0, none⟩ 1 1 _ rfl rfl (two_new _ _ _ _ _ rfl) (two_cell _ _ _ _ _ _) (by unfold maxLen; simp only [List.length_cons]; omega) (by simp only [List.length_cons]; omega) (by have := st5.below.size; simp; omega) ?_; intro v6 w6 hown6 hgrow6 hnil6; clear hnil6))
              have st6 := (st5.on ((Below.refl _ _).alloc (Nat.le_refl _) _)).push (d := ⟨xa, xc, x.kids, ya, yc, y.kids⟩) (M' := M) hown6 hgrow6 ⟨hxr5.stay (.alloc _ _ _), hyr5.stay (.alloc _ _ _), hxc, hyc, HK.out⟩ HPh.out (by have h1 := HS.out; have h2 := HS2.out; exact Nat.le_of_lt (Nat.lt_of_lt_of_le h1 h2))
              clear st5 hown6 hgrow6 hxr5 hyr5
              go_roundw
              case rel => exact ⟨_, st6⟩
              case measure => exact Nat.lt_of_le_of_lt (leastN_le ⟨_, st6, rfl⟩) (by rw [HMI.out]; exact HS.out)
            · have HOh : Hid (r = headO x y) := HO.out e0
              have hne : (headO x y != 0) = true := by simp [e0]
              have hb4 := st4.below
              clear HO HP hkl e0 hmin hxr4 hyr4 st4
              go_wp2_with (go_at_call 70; refine C.mono ?_; rintro e w5 ⟨rfl, hb5⟩; clear C)
              go_ret
              exact ⟨rtI HOh.out.symm, hb4.trans (hb5.mono hb4.size)⟩
end Go.Proofs.Ytollijngiioonaa

/- The program's way to one form: a term is opened; its next Kid is taken. Conditions: at most 549755813888 terms at work. -/
namespace Go.Proofs.Ytollijngiioonaa
set_option maxRecDepth 100000
open Go.RowKit

theorem infoOT : (Try.prog.info? 70).map (fun i => (i.zero, i.size, i.bytes)) = some (some (.agg #[.int .i64 0, .int .i64 0, .slice none 0 0, .slice none 0 0, .slice none 0 0, .int .i64 0]), 6, 96) := by kernel_rfl
theorem six_new (w : World) (x y z p q r : Value) (t : TypeId) (n : Nat) (hn : n = w.heap.size) : ∀ j v, [x, y, z, p, q, r][j]? = some v → (w.alloc (.cells #[x, y, z, p, q, r] t)).cell? ((⟨n, 0, none⟩ : Addr).add j) = some v := by
  subst hn
  intro j v hj
  match j, hj with
  | 0, hj => simp at hj; subst hj; simp [Addr.add]
  | 1, hj => simp at hj; subst hj; simp [Addr.add]
  | 2, hj => simp at hj; subst hj; simp [Addr.add]
  | 3, hj => simp at hj; subst hj; simp [Addr.add]
  | 4, hj => simp at hj; subst hj; simp [Addr.add]
  | 5, hj => simp at hj; subst hj; simp [Addr.add]
  | j + 6, hj => simp at hj
theorem six_cell (f v h : Int) (a a' a'' : Option Addr) (n n' n'' c c' c'' : Nat) : ∀ u ∈ [Value.int .i64 f, .int .i64 v, .slice a n c, .slice a' n' c', .slice a'' n'' c'', .int .i64 h], u.oneCell' = true := by
  intro u hu
  simp at hu
  rcases hu with rfl | rfl | rfl | rfl | rfl | rfl <;> rfl

/-- A term that is opened. -/
def opn (t : TermD) (a : Option Addr) (c : Nat) (h : Bool) : FM := { t := t, a := a, c := c, left := t.kids, al := a, cl := c, L := [], am := none, cm := 0, hm := h }
/-- Whether the next one is its own home. -/
def isHome (bl : Int → Bool) (t : TermD) : List FM → Bool
  | [] => true
  | x :: _ => !(bl t.f && t.f == x.t.f)

theorem NSt.opened {n0 B : Nat} {F : List FM} {v v' : Value} {wr wr1 wr' : World} {t : TermD} {a : Option Addr} {c : Nat} {h : Bool} (H : NSt n0 B F v wr) (hb : Below wr.heap.size wr wr1) (hrd : RdK wr1 n0 a t.kids) (hle : t.kids.length ≤ c) (hwf : isW t.f ∧ isW t.v)
    (hown : wr'.ownsRow B 70 6 v' (F.length + 1) (cellsF F ++ [.int .i64 t.f, .int .i64 t.v, .slice a t.kids.length c, .slice a t.kids.length c, .slice none 0 0, .int .i64 (homeIx (opn t a c h :: F) : Nat)])) (hg : wr1.grownBy wr' v.ownBlock) (hat : v'.ownBlock = v.ownBlock ∨ v'.ownBlock = some wr1.heap.size) :
    NSt n0 B (opn t a c h :: F) v' wr' :=
  (H.on hb).push rfl rfl rfl hrd hle hwf hown hg (hat.imp id (fun q => ⟨_, q, Nat.le_refl _⟩))

set_option maxHeartbeats 3200000 in
theorem opened_any (sa : Option Addr) (ss : List SymD) (sc n0 B : Nat) (F : List FM) (av : Option Addr) (cv : Nat) (t : TermD) (a : Option Addr) (c : Nat) (w : World) (hs : RdS w sa ss) (H : NSt n0 B F (.slice av F.length cv) w) (hF : F.length ≤ 549755813888) (hrd : RdK w n0 a t.kids) (hle : t.kids.length ≤ c) (hwf : isW t.f ∧ isW t.v) :
    Calls Try.prog 37 #[.slice av F.length cv, .slice sa ss.length sc, .agg #[.int .i64 t.f, .int .i64 t.v, .slice a t.kids.length c]] w fun e w' => ∃ g c', e = .returned (.slice (some ⟨g, 0, none⟩) (F.length + 1) c') ∧ NSt n0 B (opn t a c (isHome (blindAt ss) t F) :: F) (.slice (some ⟨g, 0, none⟩) (F.length + 1) c') w' ∧ Stay (fun k => k < B) w w' := by
  obtain ⟨i0, hi0, hz0, hz1, hz2⟩ := info_parts infoOT
  obtain ⟨W, hW⟩ : ∃ W, W = w.alloc (.cells #[.int .i64 t.f, .int .i64 t.v, .slice a t.kids.length c] 27) := ⟨_, rfl⟩
  have hB0 : Below w.heap.size w W := by rw [hW]; exact (Below.refl _ _).alloc (Nat.le_refl _) _
  have p0 : W.cell? ⟨w.heap.size, 0, none⟩ = some (.int .i64 t.f) := by rw [hW]; simp [go_sem]
  have p1 : W.cell? ⟨w.heap.size, 1, none⟩ = some (.int .i64 t.v) := by rw [hW]; simp [go_sem]
  have p2 : W.cell? ⟨w.heap.size, 2, none⟩ = some (.slice a t.kids.length c) := by rw [hW]; simp [go_sem]
  have HO : Hid (NSt n0 B F (.slice av F.length cv) w) := H
  have HR : Hid (RdK w n0 a t.kids) := hrd
  have hn0 : n0 ≤ B := H.n
  have hBz : B ≤ w.heap.size := H.z
  have CB : ∀ W', Below W.heap.size W W' → Calls Try.prog 14 #[.slice sa ss.length sc, .int .i64 t.f] W' fun e w' => e = .returned (.bool (blindAt ss t.f)) ∧ Below W'.heap.size W' w' := fun W' h => (impBlind_any sa ss ss.length sc t.f W' rfl (hs.below (hB0.trans (h.mono hB0.size)))).mono (by rintro e w' ⟨rfl, rfl⟩; exact ⟨rfl, Below.refl _ _⟩)
  clear hs hrd
  cases F with
  | nil =>
    simp only [List.length_nil] at *
    have HH : Hid (isHome (blindAt ss) t [] = true) := rfl
    clear H CB
    go_enter Try.func37, Try.ntmps37
    go_wp2
    rw [← hW]
    have k0 := cellB p0
    refine wp_region_below (by kernel_rfl) (by kernel_rfl) ?_
    repeat (go_big_quiet_step (fail))
    refine wpQuiet_nil ?_
    intro w1 hw'
    have hb1 : Below W.heap.size W w1 := by obtain ⟨p, rfl⟩ := hw'; exact p.b
    clear hw'
    have hB1 : Below w.heap.size w w1 := hB0.trans (hb1.mono hB0.size)
    have R1 := (HO.out.on hB1).row
    have z1 := hB1.size
    have P0 := keepC hb1 p0
    have P1 := keepC hb1 p1
    have P2 := keepC hb1 p2
    clear k0 hb1 p0 p1 p2 hW
    go_wp2_with ((at_builtin; (refine wpList_append_own_at _ rfl (.tmp 36) (.tmp 42) 65 rfl B 70 i0 _ 6 96 Try.underlying65 hi0 hz0 hz1 hz2 rfl (by decide) _ (0) _ rfl (R1.alloc _) ⟨w1.heap.size, 0, none⟩ 1 1 [.int .i64 t.f, .int .i64 t.v, .slice a t.kids.length c, .slice a t.kids.length c, .slice none 0 0, .int .i64 (0)] rfl rfl (six_new _ _ _ _ _ _ _ _ _ rfl) (six_cell _ _ _ _ _ _ _ _ _ _ _ _) (by unfold maxLen; omega) (by omega) (by simp; omega) ?_; intro v6 w6 hown6 hgrow6 hnil6 hat6; clear hnil6)))
    have hb2 : Below w.heap.size w (w1.alloc (.cells #[.int .i64 t.f, .int .i64 t.v, .slice a t.kids.length c, .slice a t.kids.length c, .slice none 0 0, .int .i64 (0)] 70)) := hB1.alloc hB1.size _
    have H6 := HO.out.opened (h := true) hb2 (HR.out.on (hb2.mono (by omega))) hle hwf (by simpa [homeIx, opn] using hown6) hgrow6 hat6
    obtain ⟨g6, c6, rfl, _⟩ := own_slot hown6
    go_ret
    exact ⟨g6, c6, rfl, by rw [HH.out]; exact H6, (Stay.of_below (S := fun k => k < B) hb2 (fun k hk _ => hk)).trans (.grown hgrow6 (fun k e hk => by have := (HO.out.row.lt k e).1; omega))⟩
  | cons x r =>
    simp only [List.length_cons] at *
    obtain ⟨g, cap, hv, hcap, hg0, hgl⟩ := own_slot H.row
    cases hv
    have hl := cellsF_len r
    have q0 : W.cell? ⟨g, r.length * 6, none⟩ = some (.int .i64 x.t.f) := keepC hB0 ((H.row.cellAt _ (by omega)).trans (by rw [cellsF, List.getElem?_append_right (by omega)]; simp [hl, FM.cells]))
    have q5 : W.cell? ⟨g, r.length * 6 + 5, none⟩ = some (.int .i64 (homeIx (x :: r))) := keepC hB0 ((H.row.cellAt _ (by omega)).trans (by rw [cellsF, List.getElem?_append_right (by omega)]; simp [hl, FM.cells]))
    have hpos : (0 : Int) < (r.length : Int) + 1 := by omega
    clear H
    cases hbl : blindAt ss t.f with
    | false =>
      rw [hbl] at CB
      have HH : Hid (isHome (blindAt ss) t (x :: r) = true) := by show _ = _; simp [isHome, hbl]
      clear hbl q5
      go_enter Try.func37, Try.ntmps37
      go_wp2
      rw [← hW]
      have k0 := cellB p0
      have k1 := cellB q0
      refine wp_region_below (by kernel_rfl) (by kernel_rfl) ?_
      repeat (go_big_quiet_step ((go_at_call 14; refine callsB (CB _ (BW.b _)))))
      refine wpQuiet_nil ?_
      intro w1 hw'
      have hb1 : Below W.heap.size W w1 := by obtain ⟨p, rfl⟩ := hw'; exact p.b
      clear hw'
      have hB1 : Below w.heap.size w w1 := hB0.trans (hb1.mono hB0.size)
      have R1 := (HO.out.on hB1).row
      have z1 := hB1.size
      have P0 := keepC hb1 p0
      have P1 := keepC hb1 p1
      have P2 := keepC hb1 p2
      clear k0 k1 hb1 p0 p1 p2 hW q0 CB
      go_wp2_with ((at_builtin; (refine wpList_append_own_at _ rfl (.tmp 36) (.tmp 42) 65 rfl B 70 i0 _ 6 96 Try.underlying65 hi0 hz0 hz1 hz2 rfl (by decide) _ (r.length + 1) _ rfl (R1.alloc _) ⟨w1.heap.size, 0, none⟩ 1 1 [.int .i64 t.f, .int .i64 t.v, .slice a t.kids.length c, .slice a t.kids.length c, .slice none 0 0, .int .i64 (((r.length + 1 : Nat) : Int))] rfl rfl (six_new _ _ _ _ _ _ _ _ _ rfl) (six_cell _ _ _ _ _ _ _ _ _ _ _ _) (by unfold maxLen; omega) (by omega) (by simp; omega) ?_; intro v6 w6 hown6 hgrow6 hnil6 hat6; clear hnil6)))
      have hb2 : Below w.heap.size w (w1.alloc (.cells #[.int .i64 t.f, .int .i64 t.v, .slice a t.kids.length c, .slice a t.kids.length c, .slice none 0 0, .int .i64 (((r.length + 1 : Nat) : Int))] 70)) := hB1.alloc hB1.size _
      have H6 := HO.out.opened (h := true) hb2 (HR.out.on (hb2.mono (by omega))) hle hwf (by simpa [homeIx, opn] using hown6) hgrow6 hat6
      obtain ⟨g6, c6, rfl, _⟩ := own_slot hown6
      go_ret
      exact ⟨g6, c6, rfl, by rw [HH.out]; exact H6, (Stay.of_below (S := fun k => k < B) hb2 (fun k hk _ => hk)).trans (.grown hgrow6 (fun k e hk => by have := (HO.out.row.lt k e).1; omega))⟩
    | true =>
      rw [hbl] at CB
      by_cases hfe : t.f = x.t.f
      · have HH : Hid (isHome (blindAt ss) t (x :: r) = false) := by show _ = _; simp only [isHome, hbl]; simp [hfe]
        rw [← hfe] at q0
        have hfe' : (t.f == t.f) = true := by simp
        clear hbl hfe
        generalize hix : homeIx (x :: r) = ix at q5
        have HX : Hid (homeIx (x :: r) = ix) := hix
        clear hix
        go_enter Try.func37, Try.ntmps37
        go_wp2
        rw [← hW]
        have k0 := cellB p0
        have k1 := cellB q0
        refine wp_region_below (by kernel_rfl) (by kernel_rfl) ?_
        repeat (go_big_quiet_step ((go_at_call 14; refine callsB (CB _ (BW.b _)))))
        refine wpQuiet_nil ?_
        intro w1 hw'
        have hb1 : Below W.heap.size W w1 := by obtain ⟨p, rfl⟩ := hw'; exact p.b
        clear hw'
        have hB1 : Below w.heap.size w w1 := hB0.trans (hb1.mono hB0.size)
        have R1 := (HO.out.on hB1).row
        have z1 := hB1.size
        have P0 := keepC hb1 p0
        have P1 := keepC hb1 p1
        have P2 := keepC hb1 p2
        have Q5 := keepC hb1 q5
        clear k0 k1 hb1 p0 p1 p2 hW q0 CB q5
        go_wp2_with ((at_builtin; (refine wpList_append_own_at _ rfl (.tmp 36) (.tmp 42) 65 rfl B 70 i0 _ 6 96 Try.underlying65 hi0 hz0 hz1 hz2 rfl (by decide) _ (r.length + 1) _ rfl (R1.alloc _) ⟨w1.heap.size, 0, none⟩ 1 1 [.int .i64 t.f, .int .i64 t.v, .slice a t.kids.length c, .slice a t.kids.length c, .slice none 0 0, .int .i64 ((ix : Int))] rfl rfl (six_new _ _ _ _ _ _ _ _ _ rfl) (six_cell _ _ _ _ _ _ _ _ _ _ _ _) (by unfold maxLen; omega) (by omega) (by simp; omega) ?_; intro v6 w6 hown6 hgrow6 hnil6 hat6; clear hnil6)))
        have hb2 : Below w.heap.size w (w1.alloc (.cells #[.int .i64 t.f, .int .i64 t.v, .slice a t.kids.length c, .slice a t.kids.length c, .slice none 0 0, .int .i64 ((ix : Int))] 70)) := hB1.alloc hB1.size _
        have H6 := HO.out.opened (h := false) hb2 (HR.out.on (hb2.mono (by omega))) hle hwf (by have e : homeIx (opn t a c false :: x :: r) = ix := HX.out; rw [e]; exact hown6) hgrow6 hat6
        obtain ⟨g6, c6, rfl, _⟩ := own_slot hown6
        go_ret
        exact ⟨g6, c6, rfl, by rw [HH.out]; exact H6, (Stay.of_below (S := fun k => k < B) hb2 (fun k hk _ => hk)).trans (.grown hgrow6 (fun k e hk => by have := (HO.out.row.lt k e).1; omega))⟩
      · have HH : Hid (isHome (blindAt ss) t (x :: r) = true) := by show _ = _; simp [isHome, hbl, hfe]
        have hfe' : (x.t.f == t.f) = false := by simp; exact fun e => hfe e.symm
        clear hbl q5 hfe
        go_enter Try.func37, Try.ntmps37
        go_wp2
        rw [← hW]
        have k0 := cellB p0
        have k1 := cellB q0
        refine wp_region_below (by kernel_rfl) (by kernel_rfl) ?_
        repeat (go_big_quiet_step ((go_at_call 14; refine callsB (CB _ (BW.b _)))))
        refine wpQuiet_nil ?_
        intro w1 hw'
        have hb1 : Below W.heap.size W w1 := by obtain ⟨p, rfl⟩ := hw'; exact p.b
        clear hw'
        have hB1 : Below w.heap.size w w1 := hB0.trans (hb1.mono hB0.size)
        have R1 := (HO.out.on hB1).row
        have z1 := hB1.size
        have P0 := keepC hb1 p0
        have P1 := keepC hb1 p1
        have P2 := keepC hb1 p2
        clear k0 k1 hb1 p0 p1 p2 hW q0 CB
        go_wp2_with ((at_builtin; (refine wpList_append_own_at _ rfl (.tmp 36) (.tmp 42) 65 rfl B 70 i0 _ 6 96 Try.underlying65 hi0 hz0 hz1 hz2 rfl (by decide) _ (r.length + 1) _ rfl (R1.alloc _) ⟨w1.heap.size, 0, none⟩ 1 1 [.int .i64 t.f, .int .i64 t.v, .slice a t.kids.length c, .slice a t.kids.length c, .slice none 0 0, .int .i64 (((r.length + 1 : Nat) : Int))] rfl rfl (six_new _ _ _ _ _ _ _ _ _ rfl) (six_cell _ _ _ _ _ _ _ _ _ _ _ _) (by unfold maxLen; omega) (by omega) (by simp; omega) ?_; intro v6 w6 hown6 hgrow6 hnil6 hat6; clear hnil6)))
        have hb2 : Below w.heap.size w (w1.alloc (.cells #[.int .i64 t.f, .int .i64 t.v, .slice a t.kids.length c, .slice a t.kids.length c, .slice none 0 0, .int .i64 (((r.length + 1 : Nat) : Int))] 70)) := hB1.alloc hB1.size _
        have H6 := HO.out.opened (h := true) hb2 (HR.out.on (hb2.mono (by omega))) hle hwf (by simpa [homeIx, opn] using hown6) hgrow6 hat6
        obtain ⟨g6, c6, rfl, _⟩ := own_slot hown6
        go_ret
        exact ⟨g6, c6, rfl, by rw [HH.out]; exact H6, (Stay.of_below (S := fun k => k < B) hb2 (fun k hk _ => hk)).trans (.grown hgrow6 (fun k e hk => by have := (HO.out.row.lt k e).1; omega))⟩
end Go.Proofs.Ytollijngiioonaa

