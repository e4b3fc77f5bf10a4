/- What the proof of FnExactOriented stands on, part 6 of 13: each piece says what it proves and under which conditions. Conditions: as each piece says. -/
import Derived.Test.YtollijngiioonaaGreatPackExactOriented5
import Derived.Test.YtollijngiioonaaGreatProg
import Derived.Maps.AppendAt
import Derived.Deep.RegionHeld3
/- What lies in memory while the program makes one form of a term: a row of terms that are at work, each with a row of Kids that are done. Conditions: none. -/
namespace Go.Proofs.YtollijngiioonaaGreat
set_option maxRecDepth 100000
open Go.RowKit

/-- A term at work: its Kids that are left, those that are done (with the row that holds them), whether it is its own home. -/
structure FM where
  t : TermD
  a : Option Addr
  c : Nat
  left : List TermD
  al : Option Addr
  cl : Nat
  L : List FE
  am : Option Addr
  cm : Nat
  hm : Bool
def FM.d (x : FM) : FD := { f := x.t.f, v := x.t.v, left := x.left, made := x.L.map FE.t, home := x.hm }
/-- Where the home of the innermost one stands. -/
def homeIx : List FM → Nat
  | [] => 0
  | x :: r => if x.hm = true then r.length else homeIx r
def FM.cells (x : FM) (h : Nat) : List Value := [.int .i64 x.t.f, .int .i64 x.t.v, .slice x.a x.t.kids.length x.c, .slice x.al x.left.length x.cl, .slice x.am x.L.length x.cm, .int .i64 h]
/-- The row's cells, the outermost one's first. -/
def cellsF : List FM → List Value
  | [] => []
  | x :: r => cellsF r ++ x.cells (homeIx (x :: r))
theorem cellsF_len : ∀ F, (cellsF F).length = F.length * 6
  | [] => rfl
  | x :: r => by rw [cellsF, List.length_append, cellsF_len r]; simp [FM.cells]; omega
/-- The blocks of a term at work. -/
def FM.S (x : FM) (k : Nat) : Prop := (Value.slice x.am x.L.length x.cm).ownBlock = some k ∨ ∃ e ∈ x.L, e.K k

/-- One term at work. -/
structure MR (n0 B : Nat) (x : FM) (wr : World) : Prop where
  rd : RdK wr n0 x.al x.left
  le : x.left.length ≤ x.cl
  wf : isW x.t.f ∧ isW x.t.v
  row : wr.ownsRow B 27 3 (.slice x.am x.L.length x.cm) x.L.length (cs3 (x.L.map FE.cells))
  el : ∀ e ∈ x.L, OwnS wr e.K e.a e.t.kids ∧ e.t.kids.length ≤ e.c ∧ (isW e.t.f ∧ isW e.t.v) ∧ ∀ k, e.K k → B ≤ k ∧ k < wr.heap.size
  dis : x.L.Pairwise fun e d => ∀ k, e.K k → ¬ d.K k
  ap : ∀ g, (Value.slice x.am x.L.length x.cm).ownBlock = some g → ∀ e ∈ x.L, ¬ e.K g
theorem MR.lt {n0 B : Nat} {x : FM} {wr : World} (h : MR n0 B x wr) (k : Nat) (hk : x.S k) : B ≤ k ∧ k < wr.heap.size := by
  rcases hk with e | ⟨e, he, hk⟩
  · exact h.row.lt k e
  · exact (h.el e he).2.2.2 k hk
theorem MR.stay {n0 B : Nat} {x : FM} {wr wr' : World} {S : Nat → Prop} (h : MR n0 B x wr) (hs : Stay S wr wr') (hn : ∀ k, k < n0 → S k) (hx : ∀ k, x.S k → S k) (hz : n0 ≤ wr.heap.size) : MR n0 B x wr' :=
  ⟨h.rd.on (hs.below hz hn), h.le, h.wf, own_stay h.row hs (fun g hg => hx g (.inl hg)), fun e he => ⟨(h.el e he).1.frame (fun k hk => hs.block k ((h.el e he).2.2.2 k hk).2 (hx k (.inr ⟨e, he, hk⟩))) hs.size, (h.el e he).2.1, (h.el e he).2.2.1, fun k hk => ⟨((h.el e he).2.2.2 k hk).1, Nat.lt_of_lt_of_le ((h.el e he).2.2.2 k hk).2 hs.size⟩⟩, h.dis, h.ap⟩
/-- A Kid more that is done, at the end of its row. -/
theorem MR.app {n0 B : Nat} {x : FM} {e : FE} {v : Value} {wr wr' : World} (h : MR n0 B x wr) (hB : B ≤ wr.heap.size) (hn : n0 ≤ B) (he : OwnS wr e.K e.a e.t.kids ∧ e.t.kids.length ≤ e.c ∧ (isW e.t.f ∧ isW e.t.v) ∧ ∀ k, e.K k → B ≤ k ∧ k < wr.heap.size) (hd : ∀ k, e.K k → ¬ x.S k)
    (hg : wr.grownBy wr' (Value.slice x.am x.L.length x.cm).ownBlock) (hrow : wr'.ownsRow B 27 3 v (x.L.length + 1) (cs3 (x.L.map FE.cells) ++ [.int .i64 e.t.f, .int .i64 e.t.v, .slice e.a e.t.kids.length e.c])) (hat : v.ownBlock = (Value.slice x.am x.L.length x.cm).ownBlock ∨ ∃ k, v.ownBlock = some k ∧ wr.heap.size ≤ k) :
    ∃ g c, v = .slice (some ⟨g, 0, none⟩) (x.L.length + 1) c ∧ MR n0 B { x with L := x.L ++ [e], am := some ⟨g, 0, none⟩, cm := c } wr' := by
  obtain ⟨g, c, rfl, _⟩ := own_slot hrow
  have hst : Stay (fun k => (Value.slice x.am x.L.length x.cm).ownBlock ≠ some k) wr wr' := .grown hg (fun k e h => h e)
  have hout : ∀ d ∈ x.L ++ [e], OwnS wr d.K d.a d.t.kids ∧ d.t.kids.length ≤ d.c ∧ (isW d.t.f ∧ isW d.t.v) ∧ (∀ k, d.K k → B ≤ k ∧ k < wr.heap.size) ∧ ∀ k, d.K k → (Value.slice x.am x.L.length x.cm).ownBlock ≠ some k := fun d hd' => by
    rcases List.mem_append.1 hd' with h1 | h1
    · exact ⟨(h.el d h1).1, (h.el d h1).2.1, (h.el d h1).2.2.1, (h.el d h1).2.2.2, fun k hk e => h.ap k e d h1 hk⟩
    · obtain rfl : d = e := by simpa using h1
      exact ⟨he.1, he.2.1, he.2.2.1, he.2.2.2, fun k hk e => hd k hk (.inl e)⟩
  refine ⟨g, c, rfl, ⟨h.rd.on (hst.below (Nat.le_trans hn hB) (fun k hk e => by have := (h.row.lt k e).1; omega)), h.le, h.wf, ?_, fun d hd' => ?_, ?_, fun g' hg' d hd' hk => ?_⟩⟩
  · have e1 : cs3 ((x.L ++ [e]).map FE.cells) = cs3 (x.L.map FE.cells) ++ [.int .i64 e.t.f, .int .i64 e.t.v, .slice e.a e.t.kids.length e.c] := by simp [cs3, FE.cells]
    show wr'.ownsRow _ _ _ (.slice _ (x.L ++ [e]).length c) (x.L ++ [e]).length (cs3 ((x.L ++ [e]).map FE.cells))
    rw [e1, List.length_append]; exact hrow
  · obtain ⟨o1, o2, o3, o4, o5⟩ := hout d hd'
    exact ⟨o1.frame (fun k hk => hst.block k (o4 k hk).2 (o5 k hk)) hst.size, o2, o3, fun k hk => ⟨(o4 k hk).1, Nat.lt_of_lt_of_le (o4 k hk).2 hst.size⟩⟩
  · refine List.pairwise_append.2 ⟨h.dis, by simp, fun d hd' d2 hd2 k hk hk2 => ?_⟩
    obtain rfl : d2 = e := by simpa using hd2
    exact hd k hk2 (.inr ⟨d, hd', hk⟩)
  · have e0 : g = g' := by simpa [Value.ownBlock] using hg'
    subst e0
    obtain ⟨_, _, _, o4, o5⟩ := hout d hd'
    rcases hat with q | ⟨k, q, hk'⟩
    · exact o5 g hk q.symm
    · have : g = k := by simpa [Value.ownBlock] using q
      have := (o4 g hk).2
      omega

/-- The home of the innermost one. -/
instance : Inhabited FM := ⟨⟨default, none, 0, [], none, 0, [], none, 0, true⟩⟩
def homeFr : List FM → FM
  | [] => default
  | x :: r => if x.hm = true then x else homeFr r
def hasHome : List FM → Prop
  | [] => False
  | x :: r => x.hm = true ∨ hasHome r
/-- A Kid that is done, put into the home of the innermost one. -/
def putHome (e : FE) (am : Option Addr) (cm : Nat) : List FM → List FM
  | [] => []
  | x :: r => if x.hm = true then { x with L := x.L ++ [e], am := am, cm := cm } :: r else x :: putHome e am cm r
theorem putHome_len (e : FE) (am : Option Addr) (cm : Nat) : ∀ F, (putHome e am cm F).length = F.length
  | [] => rfl
  | x :: r => by unfold putHome; split <;> simp [putHome_len e am cm r]
theorem putHome_ix (e : FE) (am : Option Addr) (cm : Nat) : ∀ F, homeIx (putHome e am cm F) = homeIx F
  | [] => rfl
  | x :: r => by
    unfold putHome
    split
    · rename_i h; simp [homeIx, h]
    · rename_i h; simp [homeIx, h, putHome_ix e am cm r]
theorem putHome_d (e : FE) (am : Option Addr) (cm : Nat) : ∀ F, (putHome e am cm F).map FM.d = addHome [e.t] (F.map FM.d)
  | [] => rfl
  | x :: r => by
    unfold putHome
    rw [List.map_cons, addHome]
    split
    · rename_i h; rw [if_pos (show x.d.home = true from h)]; simp [FM.d]
    · rename_i h; rw [if_neg (show ¬ x.d.home = true from h), List.map_cons, putHome_d e am cm r]
theorem putHome_has (e : FE) (am : Option Addr) (cm : Nat) : ∀ {F}, hasHome F → hasHome (putHome e am cm F)
  | [], h => h
  | x :: r, h => by
    unfold putHome
    split
    · rename_i hx; exact .inl hx
    · rename_i hx; exact .inr (putHome_has e am cm (h.resolve_left hx))
theorem home_lt : ∀ {F : List FM}, hasHome F → homeIx F < F.length
  | [], h => h.elim
  | x :: r, h => by
    unfold homeIx
    split
    · simp
    · rename_i hx; have := home_lt (h.resolve_left hx); simp; omega
theorem home_mem : ∀ {F : List FM}, hasHome F → homeFr F ∈ F
  | [], h => h.elim
  | x :: r, h => by
    unfold homeFr
    split
    · simp
    · rename_i hx; exact List.mem_cons_of_mem _ (home_mem (h.resolve_left hx))
theorem home_cell : ∀ {F : List FM}, hasHome F → (cellsF F)[homeIx F * 6 + 4]? = some (.slice (homeFr F).am (homeFr F).L.length (homeFr F).cm)
  | [], h => h.elim
  | x :: r, h => by
    have hl := cellsF_len r
    rw [cellsF, homeIx, homeFr]
    split
    · rw [List.getElem?_append_right (by omega)]; simp [hl, FM.cells]
    · rename_i hx
      have h1 := home_lt (h.resolve_left hx)
      rw [List.getElem?_append_left (by omega)]; exact home_cell (h.resolve_left hx)
theorem putHome_cells (e : FE) (am : Option Addr) (cm : Nat) : ∀ {F : List FM}, hasHome F → cellsF (putHome e am cm F) = (cellsF F).set (homeIx F * 6 + 4) (.slice am ((homeFr F).L.length + 1) cm)
  | [], h => h.elim
  | x :: r, h => by
    have hl := cellsF_len r
    by_cases hx : x.hm = true
    · simp only [putHome, if_pos hx, cellsF, homeIx, homeFr]
      rw [List.set_append_right _ _ (by omega)]
      simp [hl, FM.cells]
    · have h1 := home_lt (h.resolve_left hx)
      have h2 := putHome_cells e am cm (h.resolve_left hx)
      have h3 := putHome_ix e am cm r
      simp only [putHome, if_neg hx, cellsF, homeIx, homeFr]
      rw [List.set_append_left _ _ (by omega), h2, h3]
/-- Who stands there behind it. -/
theorem putHome_mem (e : FE) (am : Option Addr) (cm : Nat) : ∀ {F : List FM} {y : FM}, hasHome F → (F.Pairwise fun x y => ∀ k, x.S k → ¬ y.S k) → y ∈ putHome e am cm F → (y ∈ F ∧ ∀ k, y.S k → ¬ (homeFr F).S k) ∨ y = { homeFr F with L := (homeFr F).L ++ [e], am := am, cm := cm }
  | [], _, h, _, _ => h.elim
  | x :: r, y, h, hd, hy => by
    obtain ⟨h1, h2⟩ := List.pairwise_cons.1 hd
    by_cases hx : x.hm = true
    · simp only [putHome, if_pos hx, homeFr] at hy ⊢
      rcases List.mem_cons.1 hy with rfl | hy
      · exact .inr rfl
      · exact .inl ⟨List.mem_cons_of_mem _ hy, fun k hk hk2 => h1 y hy k hk2 hk⟩
    · simp only [putHome, if_neg hx, homeFr] at hy ⊢
      have hr := h.resolve_left hx
      rcases List.mem_cons.1 hy with rfl | hy
      · exact .inl ⟨by simp, fun k hk hk2 => h1 _ (home_mem hr) k hk hk2⟩
      · exact (putHome_mem e am cm hr h2 hy).imp (fun q => ⟨List.mem_cons_of_mem _ q.1, q.2⟩) id
theorem putHome_dis (e : FE) (am : Option Addr) (cm : Nat) (N : Nat → Prop) : ∀ {F : List FM}, hasHome F → (F.Pairwise fun x y => ∀ k, x.S k → ¬ y.S k) → (∀ k, FM.S { homeFr F with L := (homeFr F).L ++ [e], am := am, cm := cm } k → (homeFr F).S k ∨ N k) → (∀ x ∈ F, ∀ k, N k → ¬ x.S k) →
    (putHome e am cm F).Pairwise fun x y => ∀ k, x.S k → ¬ y.S k
  | [], h, _, _, _ => h.elim
  | x :: r, h, hd, hS, hN => by
    obtain ⟨h1, h2⟩ := List.pairwise_cons.1 hd
    by_cases hx : x.hm = true
    · simp only [putHome, if_pos hx, homeFr] at hS ⊢
      refine List.pairwise_cons.2 ⟨fun y hy k hk => ?_, h2⟩
      rcases hS k hk with h3 | h3
      · exact h1 y hy k h3
      · exact hN y (List.mem_cons_of_mem _ hy) k h3
    · simp only [putHome, if_neg hx, homeFr] at hS ⊢
      have hr := h.resolve_left hx
      refine List.pairwise_cons.2 ⟨fun y hy k hk hk2 => ?_, putHome_dis e am cm N hr h2 hS (fun y hy => hN y (List.mem_cons_of_mem _ hy))⟩
      rcases putHome_mem e am cm hr h2 hy with h3 | rfl
      · exact h1 y h3.1 k hk hk2
      · rcases hS k hk2 with h3 | h3
        · exact h1 _ (home_mem hr) k hk h3
        · exact hN x (by simp) k h3 hk

/-- All terms at work, and the row that holds them. -/
structure NSt (n0 B : Nat) (F : List FM) (v : Value) (wr : World) : Prop where
  row : wr.ownsRow B 140 6 v F.length (cellsF F)
  fr : ∀ x ∈ F, MR n0 B x wr
  dis : F.Pairwise fun x y => ∀ k, x.S k → ¬ y.S k
  vb : ∀ g, v.ownBlock = some g → ∀ x ∈ F, ¬ x.S g
  z : B ≤ wr.heap.size
  n : n0 ≤ B
namespace NSt
variable {n0 B : Nat} {F : List FM} {v : Value} {wr wr' : World}
theorem start (hz : B ≤ wr.heap.size) (hn : n0 ≤ B) : NSt n0 B [] (.slice none 0 0) wr := ⟨World.ownsRow_nil wr B _ 6, (fun x h => by simp at h), .nil, (fun g h => by cases h), hz, hn⟩
theorem on (h : NSt n0 B F v wr) (hb : Below wr.heap.size wr wr') : NSt n0 B F v wr' :=
  ⟨own_stay h.row (.of_below (S := fun k => k < wr.heap.size) hb (fun _ _ hk => hk)) (fun g hg => (h.row.lt g hg).2), fun x hx => (h.fr x hx).stay (.of_below (S := fun k => k < wr.heap.size) hb (fun _ _ hk => hk)) (fun _ hk => Nat.lt_of_lt_of_le hk (Nat.le_trans h.n h.z)) (fun k hk => ((h.fr x hx).lt k hk).2) (Nat.le_trans h.n h.z), h.dis, h.vb, Nat.le_trans h.z hb.size, h.n⟩
/-- The frames when the row's own block, and what is none of theirs, turns. -/
theorem frames (h : NSt n0 B F v wr) {S : Nat → Prop} (hs : Stay S wr wr') (hn : ∀ k, k < n0 → S k) (hx : ∀ x ∈ F, ∀ k, x.S k → S k) : ∀ x ∈ F, MR n0 B x wr' := fun x hx' => (h.fr x hx').stay hs hn (hx x hx') (Nat.le_trans h.n h.z)
theorem push {x : FM} {v' : Value} (h : NSt n0 B F v wr) (hL : x.L = []) (ham : x.am = none) (hcm : x.cm = 0) (hrd : RdK wr n0 x.al x.left) (hle : x.left.length ≤ x.cl) (hwf : isW x.t.f ∧ isW x.t.v)
    (hrow : wr'.ownsRow B 140 6 v' (F.length + 1) (cellsF (x :: F))) (hg : wr.grownBy wr' v.ownBlock) (hat : v'.ownBlock = v.ownBlock ∨ ∃ k, v'.ownBlock = some k ∧ wr.heap.size ≤ k) : NSt n0 B (x :: F) v' wr' := by
  have hst : Stay (fun k => v.ownBlock ≠ some k) wr wr' := .grown hg (fun k e h => h e)
  have hnv : ∀ k, k < n0 → v.ownBlock ≠ some k := fun k hk e => by have := (h.row.lt k e).1; have := h.n; omega
  have hxS : ∀ k, ¬ x.S k := fun k hk => by
    rcases hk with e | ⟨e, he, _⟩
    · rw [ham] at e; cases e
    · rw [hL] at he; simp at he
  refine ⟨hrow, fun y hy => ?_, List.pairwise_cons.2 ⟨fun y hy k hk => absurd hk (hxS k), h.dis⟩, fun g hg' y hy hk => ?_, Nat.le_trans h.z hst.size, h.n⟩
  · rcases List.mem_cons.1 hy with rfl | hy
    · exact ⟨hrd.on (hst.below (Nat.le_trans h.n h.z) hnv), hle, hwf, by rw [hL, ham, hcm]; exact World.ownsRow_nil wr' B _ 3, fun e he => by rw [hL] at he; simp at he, by rw [hL]; exact .nil, fun g hg' => by rw [ham] at hg'; cases hg'⟩
    · exact h.frames hst hnv (fun y hy k hk e => h.vb k e y hy hk) y hy
  · rcases List.mem_cons.1 hy with rfl | hy
    · exact hxS g hk
    · rcases hat with q | ⟨k, q, hk'⟩
      · exact h.vb g (q.symm.trans hg') y hy hk
      · have e : k = g := by rw [q] at hg'; simpa using hg'
        have := ((h.fr y hy).lt g hk).2
        omega
theorem pop {x : FM} {g c : Nat} (h : NSt n0 B (x :: F) (.slice (some ⟨g, 0, none⟩) (F.length + 1) c) wr) : NSt n0 B F (.slice (some ⟨g, 0, none⟩) F.length c) wr :=
  ⟨ownsRow_pop (cellsF_len F) h.row, fun y hy => h.fr y (List.mem_cons_of_mem _ hy), (List.pairwise_cons.1 h.dis).2, fun g' hg' y hy => h.vb g' hg' y (List.mem_cons_of_mem _ hy), h.z, h.n⟩
theorem take {x : FM} {g c : Nat} {ks : List TermD} {al : Option Addr} {cl : Nat} (h : NSt n0 B (x :: F) (.slice (some ⟨g, 0, none⟩) (F.length + 1) c) wr) (hrd : RdK wr n0 al ks) (hle : ks.length ≤ cl) :
    NSt n0 B ({ x with left := ks, al := al, cl := cl } :: F) (.slice (some ⟨g, 0, none⟩) (F.length + 1) c) (wr.setCell ⟨g, F.length * 6 + 3, none⟩ (.slice al ks.length cl)) := by
  have hl := cellsF_len F
  have hgB := h.row.lt g rfl
  have hst : Stay (fun k => k ≠ g) wr (wr.setCell ⟨g, F.length * 6 + 3, none⟩ (.slice al ks.length cl)) := .setCell _ _ (by simp)
  have hng : ∀ k, k < n0 → k ≠ g := fun k hk => by have := h.n; omega
  have hx0 := h.fr x (by simp)
  refine ⟨?_, fun y hy => ?_, ?_, fun g' hg' y hy => ?_, by simpa using h.z, h.n⟩
  · have h1 := (h.row.stored (F.length * 6 + 3) (.slice al ks.length cl)).1
    have e1 : (cellsF (x :: F)).set (F.length * 6 + 3) (.slice al ks.length cl) = cellsF ({ x with left := ks, al := al, cl := cl } :: F) := by
      simp only [cellsF, homeIx]
      rw [List.set_append_right _ _ (by omega)]
      simp [hl, FM.cells]
    rwa [e1] at h1
  · have hy' : ∀ z ∈ x :: F, MR n0 B z (wr.setCell ⟨g, F.length * 6 + 3, none⟩ (.slice al ks.length cl)) := h.frames hst hng (fun z hz k hk e => h.vb g rfl z hz (e ▸ hk))
    rcases List.mem_cons.1 hy with rfl | hy
    · have q := hy' x (by simp)
      exact ⟨hrd.on (hst.below (Nat.le_trans h.n h.z) hng), hle, q.wf, q.row, q.el, q.dis, q.ap⟩
    · exact hy' y (List.mem_cons_of_mem _ hy)
  · obtain ⟨h1, h2⟩ := List.pairwise_cons.1 h.dis
    exact List.pairwise_cons.2 ⟨h1, h2⟩
  · rcases List.mem_cons.1 hy with rfl | hy
    · exact h.vb g' hg' x (by simp)
    · exact h.vb g' hg' y (List.mem_cons_of_mem _ hy)
theorem put {g c g2 c2 : Nat} {e : FE} {w2 : World} (h : NSt n0 B F (.slice (some ⟨g, 0, none⟩) F.length c) wr) (hh : hasHome F) (he : OwnS wr e.K e.a e.t.kids ∧ e.t.kids.length ≤ e.c ∧ (isW e.t.f ∧ isW e.t.v) ∧ ∀ k, e.K k → B ≤ k ∧ k < wr.heap.size) (hd : ∀ x ∈ F, ∀ k, e.K k → ¬ x.S k) (hdg : ¬ e.K g)
    (hg : wr.grownBy w2 (Value.slice (homeFr F).am (homeFr F).L.length (homeFr F).cm).ownBlock) (hrow : w2.ownsRow B 27 3 (.slice (some ⟨g2, 0, none⟩) ((homeFr F).L.length + 1) c2) ((homeFr F).L.length + 1) (cs3 ((homeFr F).L.map FE.cells) ++ [.int .i64 e.t.f, .int .i64 e.t.v, .slice e.a e.t.kids.length e.c]))
    (hat : some g2 = (Value.slice (homeFr F).am (homeFr F).L.length (homeFr F).cm).ownBlock ∨ wr.heap.size ≤ g2) :
    NSt n0 B (putHome e (some ⟨g2, 0, none⟩) c2 F) (.slice (some ⟨g, 0, none⟩) F.length c) (w2.setCell ⟨g, homeIx F * 6 + 4, none⟩ (.slice (some ⟨g2, 0, none⟩) ((homeFr F).L.length + 1) c2)) := by
  have hm := home_mem hh
  have hgB := h.row.lt g rfl
  have hst : Stay (fun k => (Value.slice (homeFr F).am (homeFr F).L.length (homeFr F).cm).ownBlock ≠ some k) wr w2 := .grown hg (fun k e h => h e)
  have hst2 : Stay (fun k => k ≠ g) w2 (w2.setCell ⟨g, homeIx F * 6 + 4, none⟩ (.slice (some ⟨g2, 0, none⟩) ((homeFr F).L.length + 1) c2)) := .setCell _ _ (by simp)
  have hng : ∀ k, k < n0 → k ≠ g := fun k hk => by have := h.n; omega
  have hgh : (Value.slice (homeFr F).am (homeFr F).L.length (homeFr F).cm).ownBlock ≠ some g := fun e => h.vb g rfl _ hm (.inl e)
  obtain ⟨g3, c3, e3, hM⟩ := (h.fr _ hm).app h.z h.n he (hd _ hm) hg hrow (hat.imp id (fun h => ⟨g2, rfl, h⟩))
  obtain ⟨rfl, rfl⟩ : g2 = g3 ∧ c2 = c3 := by cases e3; exact ⟨rfl, rfl⟩
  have hg2g : g2 ≠ g := fun e => hat.elim (fun q => hgh (e ▸ q.symm)) (fun q => by omega)
  have hS : ∀ k, FM.S { homeFr F with L := (homeFr F).L ++ [e], am := some ⟨g2, 0, none⟩, cm := c2 } k → (homeFr F).S k ∨ (e.K k ∨ wr.heap.size ≤ k) := fun k hk => by
    rcases hk with q | ⟨d, hd', hk⟩
    · have : g2 = k := by simpa [Value.ownBlock] using q
      subst this
      exact hat.elim (fun q => .inl (.inl q.symm)) (fun q => .inr (.inr q))
    · rcases List.mem_append.1 hd' with h1 | h1
      · exact .inl (.inr ⟨d, h1, hk⟩)
      · obtain rfl : d = e := by simpa using h1
        exact .inr (.inl hk)
  have hN : ∀ x ∈ F, ∀ k, (e.K k ∨ wr.heap.size ≤ k) → ¬ x.S k := fun x hx k hk hk2 => hk.elim (fun q => hd x hx k q hk2) (fun q => by have := ((h.fr x hx).lt k hk2).2; omega)
  have hnew : ∀ k, FM.S { homeFr F with L := (homeFr F).L ++ [e], am := some ⟨g2, 0, none⟩, cm := c2 } k → k ≠ g := fun k hk e' => by
    subst e'
    rcases hS k hk with q | q | q
    · exact h.vb k rfl _ hm q
    · exact hdg q
    · omega
  refine ⟨?_, fun y hy => ?_, putHome_dis _ _ _ _ hh h.dis hS hN, fun g' hg' y hy hk => ?_, by simpa using Nat.le_trans h.z hst.size, h.n⟩
  · rw [putHome_len, putHome_cells e _ _ hh]
    exact ((own_stay h.row hst (fun g' hg' => by cases hg'; exact hgh)).stored (homeIx F * 6 + 4) _).1
  · rcases putHome_mem e _ _ hh h.dis hy with ⟨hy, hyd⟩ | rfl
    · exact ((h.fr y hy).stay hst (fun k hk e => by have := ((h.fr _ hm).row.lt k e).1; have := h.n; omega) (fun k hk e => hyd k hk (.inl e)) (Nat.le_trans h.n h.z)).stay hst2 hng (fun k hk e => h.vb g rfl y hy (e ▸ hk)) (Nat.le_trans (Nat.le_trans h.n h.z) hst.size)
    · exact hM.stay hst2 hng hnew (Nat.le_trans (Nat.le_trans h.n h.z) hst.size)
  · have e0 : g = g' := by simpa [Value.ownBlock] using hg'
    subst e0
    rcases putHome_mem e _ _ hh h.dis hy with ⟨hy, _⟩ | rfl
    · exact h.vb g rfl y hy hk
    · exact hnew g hk rfl
end NSt
end Go.Proofs.YtollijngiioonaaGreat

/- Contracts of the program's functions on names, and of those that ask one function of a list. Conditions: at most 1048577 functions. -/
namespace Go.Proofs.YtollijngiioonaaGreat
set_option maxRecDepth 100000
open Go.RowKit

def lowB (c : UInt8) : Bool := decide ((97 : Int) ≤ (c.toNat : Int)) && decide ((c.toNat : Int) ≤ 122)
def digB (c : UInt8) : Bool := decide ((48 : Int) ≤ (c.toNat : Int)) && decide ((c.toNat : Int) ≤ 57)

theorem chOk_zero (c : UInt8) : chOk 0 c = lowB c := by
  simp only [chOk, lowB, Nat.lt_irrefl, decide_false, Bool.false_and, Bool.or_false]
  congr 1 <;> exact decide_eq_decide.2 (by omega)

theorem chOk_pos {k : Nat} (hk : 0 < k) (c : UInt8) : chOk k c = (lowB c || digB c) := by
  simp only [chOk, lowB, digB, hk, decide_true, Bool.true_and]
  congr 2 <;> exact decide_eq_decide.2 (by omega)

set_option maxHeartbeats 800000 in
theorem isLetter_any (c : UInt8) (w : World) : Calls Tryz.prog 152 #[.int .u8 c.toNat] w fun e w' => e = .returned (.bool (lowB c)) ∧ w' = w := by
  rw [lowB]
  by_cases h : (97 : Int) ≤ (c.toNat : Int)
  · rw [decide_eq_true h]
    go_enter Tryz.func152, Tryz.ntmps152
    go_wp2
    go_ret
    exact ⟨ret_bool (by simp), rfl⟩
  · rw [decide_eq_false h]
    go_enter Tryz.func152, Tryz.ntmps152
    go_wp2
    go_ret
    exact ⟨ret_bool (by simp), rfl⟩

set_option maxHeartbeats 800000 in
theorem isDigit_any (c : UInt8) (w : World) : Calls Tryz.prog 153 #[.int .u8 c.toNat] w fun e w' => e = .returned (.bool (digB c)) ∧ w' = w := by
  rw [digB]
  by_cases h : (48 : Int) ≤ (c.toNat : Int)
  · rw [decide_eq_true h]
    go_enter Tryz.func153, Tryz.ntmps153
    go_wp2
    go_ret
    exact ⟨ret_bool (by simp), rfl⟩
  · rw [decide_eq_false h]
    go_enter Tryz.func153, Tryz.ntmps153
    go_wp2
    go_ret
    exact ⟨ret_bool (by simp), rfl⟩

theorem name_long {s : ByteArray} (h : (8 : Int) < (s.size : Int)) : nameOk s = false := by
  rw [nameOk, decide_eq_false (show ¬ s.size ≤ 8 by omega)]; simp

theorem chs_one {s : ByteArray} (h : 0 < s.size) (h0 : lowB s[0] = true) : chsOk s 1 = true := by
  rw [chsOk, chsOk, dif_pos h, chOk_zero, h0]; rfl

theorem name_end {s : ByteArray} (h : chsOk s s.size = true) (h1 : 0 < s.size) (h8 : s.size ≤ 8) : nameOk s = true := by
  rw [nameOk, h, decide_eq_true (show 1 ≤ s.size by omega), decide_eq_true h8]; rfl

set_option maxHeartbeats 1600000 in
theorem impNameOk_any (s : ByteArray) (w : World) :
    Calls Tryz.prog 143 #[.string s] w fun e w' => e = .returned (.bool (nameOk s)) ∧ w' = w := by
  by_cases h1 : (s.size : Int) < 1
  · have HN : Hid (nameOk s = false) := name_neg (by omega)
    go_enter Tryz.func143, Tryz.ntmps143
    go_wp2
    go_ret
    exact ⟨ret_bool HN.out.symm, rfl⟩
  by_cases h8 : (8 : Int) < (s.size : Int)
  · have HN : Hid (nameOk s = false) := name_long h8
    go_enter Tryz.func143, Tryz.ntmps143
    go_wp2
    go_ret
    exact ⟨ret_bool HN.out.symm, rfl⟩
  have hz : 0 < s.size := by omega
  have hz' : (0 : Int) < (s.size : Int) := by omega
  have I0 := fun w => isLetter_any s[0] w
  by_cases hL : lowB s[0] = true
  · have HA1 : Hid (chsOk s 1 = true) := chs_one hz hL
    rw [hL] at I0
    go_enter Tryz.func143, Tryz.ntmps143
    go_wp2_with (go_at_call 152; refine (I0 _).mono ?_; rintro e w2 ⟨rfl, hw⟩; subst w2)
    go_loop [3] (fun i => ∃ k : Nat, 1 ≤ k ∧ k ≤ s.size ∧ i = .int .i64 k ∧ Hid (chsOk s k = true)) (fun i => s.size - (intOf i).toNat)
    case atStart => exact ⟨1, by omega, by omega, rfl, HA1⟩
    case round =>
      obtain ⟨k, hk1, hk, rfl, HA⟩ := hrel
      by_cases hk' : k < s.size
      · have hki : (k : Int) < (s.size : Int) := by omega
        have HG : Hid (chOk k s[k] = true → chsOk s (k + 1) = true) := fun h => by rw [chsOk, HA.out, dif_pos hk', h]; rfl
        have HB : Hid (chOk k s[k] = false → nameOk s = false) := chs_bad s hk'
        have HP : Hid (chOk k s[k] = (lowB s[k] || digB s[k])) := chOk_pos hk1 s[k]
        have IL := fun w => isLetter_any s[k] w
        have ID := fun w => isDigit_any s[k] w
        by_cases e1 : lowB s[k] = true
        · rw [e1] at IL
          have HC : Hid (chsOk s (k + 1) = true) := HG.out (by rw [HP.out, e1]; rfl)
          go_wp2_with (go_at_call 152; refine (IL _).mono ?_; rintro e w2 ⟨rfl, hw⟩; subst w2)
          go_round
          case rel => exact ⟨k + 1, by omega, by omega, by go_num, HC⟩
          case measure => simp [intOf]; omega
        · rw [Bool.not_eq_true] at e1
          rw [e1] at IL
          by_cases e2 : digB s[k] = true
          · rw [e2] at ID
            have HC : Hid (chsOk s (k + 1) = true) := HG.out (by rw [HP.out, e1, e2]; rfl)
            go_wp2_with (first | (go_at_call 152; refine (IL _).mono ?_; rintro e w2 ⟨rfl, hw⟩; subst w2) | (go_at_call 153; refine (ID _).mono ?_; rintro e w2 ⟨rfl, hw⟩; subst w2))
            go_round
            case rel => exact ⟨k + 1, by omega, by omega, by go_num, HC⟩
            case measure => simp [intOf]; omega
          · rw [Bool.not_eq_true] at e2
            rw [e2] at ID
            have HC : Hid (nameOk s = false) := HB.out (by rw [HP.out, e1, e2]; rfl)
            go_wp2_with (first | (go_at_call 152; refine (IL _).mono ?_; rintro e w2 ⟨rfl, hw⟩; subst w2) | (go_at_call 153; refine (ID _).mono ?_; rintro e w2 ⟨rfl, hw⟩; subst w2))
            go_ret
            exact ⟨ret_bool HC.out.symm, rfl⟩
      · have e : k = s.size := by omega
        have HC : Hid (nameOk s = true) := name_end (e ▸ HA.out) hz (by omega)
        clear e
        go_wp2
        go_ret
        exact ⟨ret_bool HC.out.symm, rfl⟩
  · rw [Bool.not_eq_true] at hL
    have HN : Hid (nameOk s = false) := chs_bad s hz (by rw [chOk_zero, hL])
    rw [hL] at I0
    go_enter Tryz.func143, Tryz.ntmps143
    go_wp2_with (go_at_call 152; refine (I0 _).mono ?_; rintro e w2 ⟨rfl, hw⟩; subst w2)
    go_ret
    exact ⟨ret_bool HN.out.symm, rfl⟩

set_option maxHeartbeats 800000 in
theorem isSym_any (a : Option Addr) (n cap : Nat) (f : Int) (w : World) :
    Calls Tryz.prog 111 #[.slice a n cap, .int .i64 f] w fun e w' => e = .returned (.bool (decide (0 ≤ f) && decide (f < (n : Int)))) ∧ w' = w := by
  by_cases h : 0 ≤ f
  · go_enter Tryz.func111, Tryz.ntmps111
    go_wp2
    go_ret
    exact ⟨ret_bool (by simp [h]), rfl⟩
  · go_enter Tryz.func111, Tryz.ntmps111
    go_wp2
    go_ret
    exact ⟨ret_bool (by simp; omega), rfl⟩

set_option maxHeartbeats 800000 in
theorem impBlind_any (a : Option Addr) (ss : List SymD) (n cap : Nat) (f : Int) (w : World) (hn : n = ss.length) (hr : RdS w a ss) :
    Calls Tryz.prog 112 #[.slice a n cap, .int .i64 f] w fun e w' => e = .returned (.bool (blindAt ss f)) ∧ w' = w := by
  subst hn
  have I := fun w => isSym_any a ss.length cap f w
  by_cases h0 : 0 ≤ f ∧ f < (ss.length : Int)
  · obtain ⟨h0, h1⟩ := h0
    obtain ⟨k, rfl⟩ := Int.eq_ofNat_of_zero_le h0
    have hk : k < ss.length := by omega
    have HB : Hid (blindAt ss k = ss[k].ac) := blindAt_in hk
    rw [decide_eq_true h0, decide_eq_true h1] at I
    rcases hr with rfl | ⟨b, off, rfl, hlt, hc⟩
    · simp at hk
    · obtain ⟨c0, c1, c2⟩ := hc k hk
      clear hc
      go_enter Tryz.func112, Tryz.ntmps112
      go_wp2_with (go_at_call 111; refine (I _).mono ?_; rintro e w2 ⟨rfl, hw⟩; subst w2)
      go_ret
      exact ⟨ret_bool HB.out.symm, rfl⟩
  · have HB : Hid (blindAt ss f = false) := (at_out (by omega)).1
    have e : (decide (0 ≤ f) && decide (f < (ss.length : Int))) = false := by simp; omega
    rw [e] at I
    go_enter Tryz.func112, Tryz.ntmps112
    go_wp2_with (go_at_call 111; refine (I _).mono ?_; rintro e w2 ⟨rfl, hw⟩; subst w2)
    go_ret
    exact ⟨ret_bool HB.out.symm, rfl⟩

set_option maxHeartbeats 800000 in
theorem impArity_any (a : Option Addr) (ss : List SymD) (n cap : Nat) (f : Int) (w : World) (hn : n = ss.length) (hr : RdS w a ss) :
    Calls Tryz.prog 114 #[.slice a n cap, .int .i64 f] w fun e w' => e = .returned (.int .i64 (arityAt ss f)) ∧ w' = w := by
  subst hn
  have I := fun w => isSym_any a ss.length cap f w
  by_cases h0 : 0 ≤ f ∧ f < (ss.length : Int)
  · obtain ⟨h0, h1⟩ := h0
    obtain ⟨k, rfl⟩ := Int.eq_ofNat_of_zero_le h0
    have hk : k < ss.length := by omega
    have HB : Hid (arityAt ss k = ss[k].ar) := arityAt_in hk
    rw [decide_eq_true h0, decide_eq_true h1] at I
    rcases hr with rfl | ⟨b, off, rfl, hlt, hc⟩
    · simp at hk
    · obtain ⟨c0, c1, c2⟩ := hc k hk
      clear hc
      go_enter Tryz.func114, Tryz.ntmps114
      go_wp2_with (go_at_call 111; refine (I _).mono ?_; rintro e w2 ⟨rfl, hw⟩; subst w2)
      go_ret
      exact ⟨ret_int HB.out.symm, rfl⟩
  · have HB : Hid (arityAt ss f = -1) := (at_out (by omega)).2
    have e : (decide (0 ≤ f) && decide (f < (ss.length : Int))) = false := by simp; omega
    rw [e] at I
    go_enter Tryz.func114, Tryz.ntmps114
    go_wp2_with (go_at_call 111; refine (I _).mono ?_; rintro e w2 ⟨rfl, hw⟩; subst w2)
    go_ret
    exact ⟨ret_int HB.out.symm, rfl⟩
end Go.Proofs.YtollijngiioonaaGreat

/- The program's way to one form: a term is opened; its next Kid is taken. Conditions: at most 549755813888 terms at work. -/
namespace Go.Proofs.YtollijngiioonaaGreat
set_option maxRecDepth 100000
open Go.RowKit

theorem infoOT : (Tryz.prog.info? 140).map (fun i => (i.zero, i.size, i.bytes)) = some (some (.agg #[.int .i64 0, .int .i64 0, .slice none 0 0, .slice none 0 0, .slice none 0 0, .int .i64 0]), 6, 96) := by kernel_rfl
theorem six_new (w : World) (x y z p q r : Value) (t : TypeId) (n : Nat) (hn : n = w.heap.size) : ∀ j v, [x, y, z, p, q, r][j]? = some v → (w.alloc (.cells #[x, y, z, p, q, r] t)).cell? ((⟨n, 0, none⟩ : Addr).add j) = some v := by
  subst hn
  intro j v hj
  match j, hj with
  | 0, hj => simp at hj; subst hj; simp [Addr.add]
  | 1, hj => simp at hj; subst hj; simp [Addr.add]
  | 2, hj => simp at hj; subst hj; simp [Addr.add]
  | 3, hj => simp at hj; subst hj; simp [Addr.add]
  | 4, hj => simp at hj; subst hj; simp [Addr.add]
  | 5, hj => simp at hj; subst hj; simp [Addr.add]
  | j + 6, hj => simp at hj
theorem six_cell (f v h : Int) (a a' a'' : Option Addr) (n n' n'' c c' c'' : Nat) : ∀ u ∈ [Value.int .i64 f, .int .i64 v, .slice a n c, .slice a' n' c', .slice a'' n'' c'', .int .i64 h], u.oneCell' = true := by
  intro u hu
  simp at hu
  rcases hu with rfl | rfl | rfl | rfl | rfl | rfl <;> rfl

/-- A term that is opened. -/
def opn (t : TermD) (a : Option Addr) (c : Nat) (h : Bool) : FM := { t := t, a := a, c := c, left := t.kids, al := a, cl := c, L := [], am := none, cm := 0, hm := h }
/-- Whether the next one is its own home. -/
def isHome (bl : Int → Bool) (t : TermD) : List FM → Bool
  | [] => true
  | x :: _ => !(bl t.f && t.f == x.t.f)

theorem NSt.opened {n0 B : Nat} {F : List FM} {v v' : Value} {wr wr1 wr' : World} {t : TermD} {a : Option Addr} {c : Nat} {h : Bool} (H : NSt n0 B F v wr) (hb : Below wr.heap.size wr wr1) (hrd : RdK wr1 n0 a t.kids) (hle : t.kids.length ≤ c) (hwf : isW t.f ∧ isW t.v)
    (hown : wr'.ownsRow B 140 6 v' (F.length + 1) (cellsF F ++ [.int .i64 t.f, .int .i64 t.v, .slice a t.kids.length c, .slice a t.kids.length c, .slice none 0 0, .int .i64 (homeIx (opn t a c h :: F) : Nat)])) (hg : wr1.grownBy wr' v.ownBlock) (hat : v'.ownBlock = v.ownBlock ∨ v'.ownBlock = some wr1.heap.size) :
    NSt n0 B (opn t a c h :: F) v' wr' :=
  (H.on hb).push rfl rfl rfl hrd hle hwf hown hg (hat.imp id (fun q => ⟨_, q, Nat.le_refl _⟩))

set_option maxHeartbeats 3200000 in
theorem opened_any (sa : Option Addr) (ss : List SymD) (sc n0 B : Nat) (F : List FM) (av : Option Addr) (cv : Nat) (t : TermD) (a : Option Addr) (c : Nat) (w : World) (hs : RdS w sa ss) (H : NSt n0 B F (.slice av F.length cv) w) (hF : F.length ≤ 549755813888) (hrd : RdK w n0 a t.kids) (hle : t.kids.length ≤ c) (hwf : isW t.f ∧ isW t.v) :
    Calls Tryz.prog 117 #[.slice av F.length cv, .slice sa ss.length sc, .agg #[.int .i64 t.f, .int .i64 t.v, .slice a t.kids.length c]] w fun e w' => ∃ g c', e = .returned (.slice (some ⟨g, 0, none⟩) (F.length + 1) c') ∧ NSt n0 B (opn t a c (isHome (blindAt ss) t F) :: F) (.slice (some ⟨g, 0, none⟩) (F.length + 1) c') w' ∧ Stay (fun k => k < B) w w' := by
  obtain ⟨i0, hi0, hz0, hz1, hz2⟩ := info_parts infoOT
  obtain ⟨W, hW⟩ : ∃ W, W = w.alloc (.cells #[.int .i64 t.f, .int .i64 t.v, .slice a t.kids.length c] 27) := ⟨_, rfl⟩
  have hB0 : Below w.heap.size w W := by rw [hW]; exact (Below.refl _ _).alloc (Nat.le_refl _) _
  have p0 : W.cell? ⟨w.heap.size, 0, none⟩ = some (.int .i64 t.f) := by rw [hW]; simp [go_sem]
  have p1 : W.cell? ⟨w.heap.size, 1, none⟩ = some (.int .i64 t.v) := by rw [hW]; simp [go_sem]
  have p2 : W.cell? ⟨w.heap.size, 2, none⟩ = some (.slice a t.kids.length c) := by rw [hW]; simp [go_sem]
  have HO : Hid (NSt n0 B F (.slice av F.length cv) w) := H
  have HR : Hid (RdK w n0 a t.kids) := hrd
  have hn0 : n0 ≤ B := H.n
  have hBz : B ≤ w.heap.size := H.z
  have CB : ∀ W', Below W.heap.size W W' → Calls Tryz.prog 112 #[.slice sa ss.length sc, .int .i64 t.f] W' fun e w' => e = .returned (.bool (blindAt ss t.f)) ∧ Below W'.heap.size W' w' := fun W' h => (impBlind_any sa ss ss.length sc t.f W' rfl (hs.below (hB0.trans (h.mono hB0.size)))).mono (by rintro e w' ⟨rfl, rfl⟩; exact ⟨rfl, Below.refl _ _⟩)
  clear hs hrd
  cases F with
  | nil =>
    simp only [List.length_nil] at *
    have HH : Hid (isHome (blindAt ss) t [] = true) := rfl
    clear H CB
    go_enter Tryz.func117, Tryz.ntmps117
    go_wp2
    rw [← hW]
    have k0 := cellB p0
    refine wp_region_below (by kernel_rfl) (by kernel_rfl) ?_
    repeat (go_big_quiet_step (fail))
    refine wpQuiet_nil ?_
    intro w1 hw'
    have hb1 : Below W.heap.size W w1 := by obtain ⟨p, rfl⟩ := hw'; exact p.b
    clear hw'
    have hB1 : Below w.heap.size w w1 := hB0.trans (hb1.mono hB0.size)
    have R1 := (HO.out.on hB1).row
    have z1 := hB1.size
    have P0 := keepC hb1 p0
    have P1 := keepC hb1 p1
    have P2 := keepC hb1 p2
    clear k0 hb1 p0 p1 p2 hW
    go_wp2_with ((at_builtin; (refine wpList_append_own_at _ rfl (.tmp 36) (.tmp 42) 135 rfl B 140 i0 _ 6 96 Tryz.underlying135 hi0 hz0 hz1 hz2 rfl (by decide) _ (0) _ rfl (R1.alloc _) ⟨w1.heap.size, 0, none⟩ 1 1 [.int .i64 t.f, .int .i64 t.v, .slice a t.kids.length c, .slice a t.kids.length c, .slice none 0 0, .int .i64 (0)] rfl rfl (six_new _ _ _ _ _ _ _ _ _ rfl) (six_cell _ _ _ _ _ _ _ _ _ _ _ _) (by unfold maxLen; omega) (by omega) (by simp; omega) ?_; intro v6 w6 hown6 hgrow6 hnil6 hat6; clear hnil6)))
    have hb2 : Below w.heap.size w (w1.alloc (.cells #[.int .i64 t.f, .int .i64 t.v, .slice a t.kids.length c, .slice a t.kids.length c, .slice none 0 0, .int .i64 (0)] 140)) := hB1.alloc hB1.size _
    have H6 := HO.out.opened (h := true) hb2 (HR.out.on (hb2.mono (by omega))) hle hwf (by simpa [homeIx, opn] using hown6) hgrow6 hat6
    obtain ⟨g6, c6, rfl, _⟩ := own_slot hown6
    go_ret
    exact ⟨g6, c6, rfl, by rw [HH.out]; exact H6, (Stay.of_below (S := fun k => k < B) hb2 (fun k hk _ => hk)).trans (.grown hgrow6 (fun k e hk => by have := (HO.out.row.lt k e).1; omega))⟩
  | cons x r =>
    simp only [List.length_cons] at *
    obtain ⟨g, cap, hv, hcap, hg0, hgl⟩ := own_slot H.row
    cases hv
    have hl := cellsF_len r
    have q0 : W.cell? ⟨g, r.length * 6, none⟩ = some (.int .i64 x.t.f) := keepC hB0 ((H.row.cellAt _ (by omega)).trans (by rw [cellsF, List.getElem?_append_right (by omega)]; simp [hl, FM.cells]))
    have q5 : W.cell? ⟨g, r.length * 6 + 5, none⟩ = some (.int .i64 (homeIx (x :: r))) := keepC hB0 ((H.row.cellAt _ (by omega)).trans (by rw [cellsF, List.getElem?_append_right (by omega)]; simp [hl, FM.cells]))
    have hpos : (0 : Int) < (r.length : Int) + 1 := by omega
    clear H
    cases hbl : blindAt ss t.f with
    | false =>
      rw [hbl] at CB
      have HH : Hid (isHome (blindAt ss) t (x :: r) = true) := by show _ = _; simp [isHome, hbl]
      clear hbl q5
      go_enter Tryz.func117, Tryz.ntmps117
      go_wp2
      rw [← hW]
      have k0 := cellB p0
      have k1 := cellB q0
      refine wp_region_below (by kernel_rfl) (by kernel_rfl) ?_
      repeat (go_big_quiet_step ((go_at_call 112; refine callsB (CB _ (BW.b _)))))
      refine wpQuiet_nil ?_
      intro w1 hw'
      have hb1 : Below W.heap.size W w1 := by obtain ⟨p, rfl⟩ := hw'; exact p.b
      clear hw'
      have hB1 : Below w.heap.size w w1 := hB0.trans (hb1.mono hB0.size)
      have R1 := (HO.out.on hB1).row
      have z1 := hB1.size
      have P0 := keepC hb1 p0
      have P1 := keepC hb1 p1
      have P2 := keepC hb1 p2
      clear k0 k1 hb1 p0 p1 p2 hW q0 CB
      go_wp2_with ((at_builtin; (refine wpList_append_own_at _ rfl (.tmp 36) (.tmp 42) 135 rfl B 140 i0 _ 6 96 Tryz.underlying135 hi0 hz0 hz1 hz2 rfl (by decide) _ (r.length + 1) _ rfl (R1.alloc _) ⟨w1.heap.size, 0, none⟩ 1 1 [.int .i64 t.f, .int .i64 t.v, .slice a t.kids.length c, .slice a t.kids.length c, .slice none 0 0, .int .i64 (((r.length + 1 : Nat) : Int))] rfl rfl (six_new _ _ _ _ _ _ _ _ _ rfl) (six_cell _ _ _ _ _ _ _ _ _ _ _ _) (by unfold maxLen; omega) (by omega) (by simp; omega) ?_; intro v6 w6 hown6 hgrow6 hnil6 hat6; clear hnil6)))
      have hb2 : Below w.heap.size w (w1.alloc (.cells #[.int .i64 t.f, .int .i64 t.v, .slice a t.kids.length c, .slice a t.kids.length c, .slice none 0 0, .int .i64 (((r.length + 1 : Nat) : Int))] 140)) := hB1.alloc hB1.size _
      have H6 := HO.out.opened (h := true) hb2 (HR.out.on (hb2.mono (by omega))) hle hwf (by simpa [homeIx, opn] using hown6) hgrow6 hat6
      obtain ⟨g6, c6, rfl, _⟩ := own_slot hown6
      go_ret
      exact ⟨g6, c6, rfl, by rw [HH.out]; exact H6, (Stay.of_below (S := fun k => k < B) hb2 (fun k hk _ => hk)).trans (.grown hgrow6 (fun k e hk => by have := (HO.out.row.lt k e).1; omega))⟩
    | true =>
      rw [hbl] at CB
      by_cases hfe : t.f = x.t.f
      · have HH : Hid (isHome (blindAt ss) t (x :: r) = false) := by show _ = _; simp only [isHome, hbl]; simp [hfe]
        rw [← hfe] at q0
        have hfe' : (t.f == t.f) = true := by simp
        clear hbl hfe
        generalize hix : homeIx (x :: r) = ix at q5
        have HX : Hid (homeIx (x :: r) = ix) := hix
        clear hix
        go_enter Tryz.func117, Tryz.ntmps117
        go_wp2
        rw [← hW]
        have k0 := cellB p0
        have k1 := cellB q0
        refine wp_region_below (by kernel_rfl) (by kernel_rfl) ?_
        repeat (go_big_quiet_step ((go_at_call 112; refine callsB (CB _ (BW.b _)))))
        refine wpQuiet_nil ?_
        intro w1 hw'
        have hb1 : Below W.heap.size W w1 := by obtain ⟨p, rfl⟩ := hw'; exact p.b
        clear hw'
        have hB1 : Below w.heap.size w w1 := hB0.trans (hb1.mono hB0.size)
        have R1 := (HO.out.on hB1).row
        have z1 := hB1.size
        have P0 := keepC hb1 p0
        have P1 := keepC hb1 p1
        have P2 := keepC hb1 p2
        have Q5 := keepC hb1 q5
        clear k0 k1 hb1 p0 p1 p2 hW q0 CB q5
        go_wp2_with ((at_builtin; (refine wpList_append_own_at _ rfl (.tmp 36) (.tmp 42) 135 rfl B 140 i0 _ 6 96 Tryz.underlying135 hi0 hz0 hz1 hz2 rfl (by decide) _ (r.length + 1) _ rfl (R1.alloc _) ⟨w1.heap.size, 0, none⟩ 1 1 [.int .i64 t.f, .int .i64 t.v, .slice a t.kids.length c, .slice a t.kids.length c, .slice none 0 0, .int .i64 ((ix : Int))] rfl rfl (six_new _ _ _ _ _ _ _ _ _ rfl) (six_cell _ _ _ _ _ _ _ _ _ _ _ _) (by unfold maxLen; omega) (by omega) (by simp; omega) ?_; intro v6 w6 hown6 hgrow6 hnil6 hat6; clear hnil6)))
        have hb2 : Below w.heap.size w (w1.alloc (.cells #[.int .i64 t.f, .int .i64 t.v, .slice a t.kids.length c, .slice a t.kids.length c, .slice none 0 0, .int .i64 ((ix : Int))] 140)) := hB1.alloc hB1.size _
        have H6 := HO.out.opened (h := false) hb2 (HR.out.on (hb2.mono (by omega))) hle hwf (by have e : homeIx (opn t a c false :: x :: r) = ix := HX.out; rw [e]; exact hown6) hgrow6 hat6
        obtain ⟨g6, c6, rfl, _⟩ := own_slot hown6
        go_ret
        exact ⟨g6, c6, rfl, by rw [HH.out]; exact H6, (Stay.of_below (S := fun k => k < B) hb2 (fun k hk _ => hk)).trans (.grown hgrow6 (fun k e hk => by have := (HO.out.row.lt k e).1; omega))⟩
      · have HH : Hid (isHome (blindAt ss) t (x :: r) = true) := by show _ = _; simp [isHome, hbl, hfe]
        have hfe' : (x.t.f == t.f) = false := by simp; exact fun e => hfe e.symm
        clear hbl q5 hfe
        go_enter Tryz.func117, Tryz.ntmps117
        go_wp2
        rw [← hW]
        have k0 := cellB p0
        have k1 := cellB q0
        refine wp_region_below (by kernel_rfl) (by kernel_rfl) ?_
        repeat (go_big_quiet_step ((go_at_call 112; refine callsB (CB _ (BW.b _)))))
        refine wpQuiet_nil ?_
        intro w1 hw'
        have hb1 : Below W.heap.size W w1 := by obtain ⟨p, rfl⟩ := hw'; exact p.b
        clear hw'
        have hB1 : Below w.heap.size w w1 := hB0.trans (hb1.mono hB0.size)
        have R1 := (HO.out.on hB1).row
        have z1 := hB1.size
        have P0 := keepC hb1 p0
        have P1 := keepC hb1 p1
        have P2 := keepC hb1 p2
        clear k0 k1 hb1 p0 p1 p2 hW q0 CB
        go_wp2_with ((at_builtin; (refine wpList_append_own_at _ rfl (.tmp 36) (.tmp 42) 135 rfl B 140 i0 _ 6 96 Tryz.underlying135 hi0 hz0 hz1 hz2 rfl (by decide) _ (r.length + 1) _ rfl (R1.alloc _) ⟨w1.heap.size, 0, none⟩ 1 1 [.int .i64 t.f, .int .i64 t.v, .slice a t.kids.length c, .slice a t.kids.length c, .slice none 0 0, .int .i64 (((r.length + 1 : Nat) : Int))] rfl rfl (six_new _ _ _ _ _ _ _ _ _ rfl) (six_cell _ _ _ _ _ _ _ _ _ _ _ _) (by unfold maxLen; omega) (by omega) (by simp; omega) ?_; intro v6 w6 hown6 hgrow6 hnil6 hat6; clear hnil6)))
        have hb2 : Below w.heap.size w (w1.alloc (.cells #[.int .i64 t.f, .int .i64 t.v, .slice a t.kids.length c, .slice a t.kids.length c, .slice none 0 0, .int .i64 (((r.length + 1 : Nat) : Int))] 140)) := hB1.alloc hB1.size _
        have H6 := HO.out.opened (h := true) hb2 (HR.out.on (hb2.mono (by omega))) hle hwf (by simpa [homeIx, opn] using hown6) hgrow6 hat6
        obtain ⟨g6, c6, rfl, _⟩ := own_slot hown6
        go_ret
        exact ⟨g6, c6, rfl, by rw [HH.out]; exact H6, (Stay.of_below (S := fun k => k < B) hb2 (fun k hk _ => hk)).trans (.grown hgrow6 (fun k e hk => by have := (HO.out.row.lt k e).1; omega))⟩
end Go.Proofs.YtollijngiioonaaGreat

/- The program's way to one form: the next Kid of the innermost term is taken. Conditions: at most 549755813888 terms at work. -/
namespace Go.Proofs.YtollijngiioonaaGreat
set_option maxRecDepth 100000
open Go.RowKit

theorem RdK.tail {w : World} {hi b off : Nat} {t : TermD} {ts : List TermD} (h : RdK w hi (some ⟨b, off, none⟩) (t :: ts)) {c : Nat} (hc : ts.length + 1 ≤ c) : RdK w hi (tailA b off c) ts := by
  by_cases h1 : ts = []
  · subst h1; exact .nil _
  · have hl0 : ts.length ≠ 0 := fun e => h1 (List.length_eq_zero_iff.1 e)
    rw [tailA, if_neg (by omega)]
    cases h with
    | row b off ts' A C hlt hl hz hc' hk =>
      refine .row b (off + 3) ts (fun i => A (i + 1)) (fun i => C (i + 1)) hlt ⟨by have := hl.1; simp at this; omega, fun i hi => hl.2 (i + 1) (by simpa using hi)⟩ (fun i hi => hz (i + 1) (by simpa using hi)) (fun i hi => ?_) (fun i hi => hk (i + 1) (by simpa using hi))
      have := hc' (i + 1) (by simpa using hi)
      simpa [show off + (i + 1) * 3 = off + 3 + i * 3 by omega] using this
/-- The first one of a list that is read. -/
theorem RdK.head {w : World} {hi : Nat} {a : Option Addr} {t : TermD} {ts : List TermD} (h : RdK w hi a (t :: ts)) :
    ∃ b off a' c', a = some ⟨b, off, none⟩ ∧ b < hi ∧ w.cell? ⟨b, off, none⟩ = some (.int .i64 t.f) ∧ w.cell? ⟨b, off + 1, none⟩ = some (.int .i64 t.v) ∧ w.cell? ⟨b, off + 2, none⟩ = some (.slice a' t.kids.length c') ∧ t.kids.length ≤ c' ∧ RdK w hi a' t.kids ∧ (isW t.f ∧ isW t.v) := by
  obtain ⟨b, off, a', c', e, h1, h2, h3, h4, h5, h6⟩ := h.kidc (i := 0) (by simp)
  exact ⟨b, off, a', c', e, h1, by simpa using h2, by simpa using h3, by simpa using h4, by simpa using h5, by simpa using h6, h.ints (i := 0) (by simp)⟩

theorem NSt.other {n0 B : Nat} {F : List FM} {v : Value} {wr : World} (h : NSt n0 B F v wr) (p : Addr) (u : Value) (hp : n0 ≤ p.block) (hx : ∀ x ∈ F, ¬ x.S p.block) (hv : v.ownBlock ≠ some p.block) : NSt n0 B F v (wr.setCell p u) := by
  have hst : Stay (fun k => k ≠ p.block) wr (wr.setCell p u) := .setCell _ _ (by simp)
  exact ⟨own_stay h.row hst (fun g hg e => hv (e ▸ hg)), h.frames hst (fun k hk => by omega) (fun x hx' k hk e => hx x hx' (e ▸ hk)), h.dis, h.vb, by simpa using h.z, h.n⟩

theorem top_cells {n0 B : Nat} {x : FM} {r : List FM} {g c : Nat} {w : World} (H : NSt n0 B (x :: r) (.slice (some ⟨g, 0, none⟩) (r.length + 1) c) w) :
    w.cell? ⟨g, r.length * 6, none⟩ = some (.int .i64 x.t.f) ∧ w.cell? ⟨g, r.length * 6 + 1, none⟩ = some (.int .i64 x.t.v) ∧ w.cell? ⟨g, r.length * 6 + 2, none⟩ = some (.slice x.a x.t.kids.length x.c) ∧ w.cell? ⟨g, r.length * 6 + 3, none⟩ = some (.slice x.al x.left.length x.cl) ∧ w.cell? ⟨g, r.length * 6 + 4, none⟩ = some (.slice x.am x.L.length x.cm) ∧ w.cell? ⟨g, r.length * 6 + 5, none⟩ = some (.int .i64 (homeIx (x :: r))) := by
  have hl := cellsF_len r
  refine ⟨?_, ?_, ?_, ?_, ?_, ?_⟩
  all_goals
    refine (H.row.cellAt _ (by omega)).trans ?_
    rw [cellsF, List.getElem?_append_right (by omega)]
    simp [hl, FM.cells]

set_option maxHeartbeats 1600000 in
theorem takeKid_none (n0 B : Nat) (x : FM) (r : List FM) (g c : Nat) (w : World) (H : NSt n0 B (x :: r) (.slice (some ⟨g, 0, none⟩) (r.length + 1) c) w) (hF : r.length ≤ 549755813888) (hx : x.left = []) :
    Calls Tryz.prog 118 #[.slice (some ⟨g, 0, none⟩) (r.length + 1) c] w fun e w' => e = .returned (.tuple #[.agg #[.int .i64 0, .int .i64 0, .slice none 0 0], .bool false]) ∧ Below w.heap.size w w' := by
  obtain ⟨_, _, _, q3, _, _⟩ := top_cells H
  have hgl := (H.row.lt g rfl).2
  rw [hx] at q3
  simp only [List.length_nil] at q3
  clear H
  go_enter Tryz.func118, Tryz.ntmps118
  go_wp2
  exact bodyPost_ret (v := .tuple #[.agg #[.int .i64 0, .int .i64 0, .slice none 0 0], .bool false]) (by simp [results, Tryz.results118, go_sem]) rfl ⟨rfl, (Below.refl w.heap.size w).alloc (Nat.le_refl _) _⟩

set_option maxHeartbeats 3200000 in
theorem takeKid_some (n0 B : Nat) (x : FM) (r : List FM) (g c : Nat) (k : TermD) (ks : List TermD) (w : World) (H : NSt n0 B (x :: r) (.slice (some ⟨g, 0, none⟩) (r.length + 1) c) w) (hF : r.length ≤ 549755813888) (hx : x.left = k :: ks) (hbig : ks.length ≤ 549755813888) :
    Calls Tryz.prog 118 #[.slice (some ⟨g, 0, none⟩) (r.length + 1) c] w fun e w' => ∃ ak ck al cl, e = .returned (.tuple #[.agg #[.int .i64 k.f, .int .i64 k.v, .slice ak k.kids.length ck], .bool true]) ∧ NSt n0 B ({ x with left := ks, al := al, cl := cl } :: r) (.slice (some ⟨g, 0, none⟩) (r.length + 1) c) w' ∧ RdK w' n0 ak k.kids ∧ k.kids.length ≤ ck ∧ (isW k.f ∧ isW k.v) ∧ Stay (fun k => k < B) w w' := by
  obtain ⟨_, _, _, q3, _, _⟩ := top_cells H
  have hgl := H.row.lt g rfl
  have hn := H.n
  have hz := H.z
  have hx0 := H.fr x (by simp)
  have hrd := hx0.rd
  have hle := hx0.le
  rw [hx] at q3 hrd hle
  obtain ⟨b, off, ak, ck, hal, hb, k0, k1, k2, hck, hrk, hwk⟩ := hrd.head
  rw [hal] at q3 hrd
  simp only [List.length_cons] at q3 hle
  have hrt := hrd.tail (c := x.cl) hle
  have hclz : (1 : Int) ≤ (x.cl : Int) := by omega
  have hcb : (ks.length : Int) + 1 ≤ (x.cl : Int) := by omega
  have hbg : b ≠ g := by omega
  have hbl : b < w.heap.size := by omega
  have hgl2 : g < w.heap.size := hgl.2
  have fr : w.frozen? ⟨g, r.length * 6 + 3, none⟩ = false := H.row.frozenAt _
  have hst : Stay (fun k => k < B) w (w.setCell ⟨g, r.length * 6 + 3, none⟩ (.slice (tailA b off x.cl) ks.length (x.cl - 1))) := .setCell _ _ (fun h => by simp only at h; omega)
  have hT := H.take hrt (cl := x.cl - 1) (by omega)
  obtain ⟨W1, hW1⟩ : ∃ W1, W1 = w.setCell ⟨g, r.length * 6 + 3, none⟩ (.slice (tailA b off x.cl) ks.length (x.cl - 1)) := ⟨_, rfl⟩
  rw [← hW1] at hst hT
  have hb1 : Below W1.heap.size W1 ((W1.alloc (.cells #[.int .i64 k.f, .int .i64 k.v, .slice ak k.kids.length ck] 27)).alloc (.cells #[.int .i64 k.f, .int .i64 k.v, .slice ak k.kids.length ck] 27)) := ((Below.refl _ _).alloc (Nat.le_refl _) _).alloc (by simp) _
  have hst2 := hst.trans (.of_below (S := fun k => k < B) hb1 (fun k hk _ => hk))
  have FIN : Hid (∃ ak' ck' al cl, Ending.returned (Value.tuple #[.agg #[.int .i64 k.f, .int .i64 k.v, .slice ak k.kids.length ck], .bool true]) = .returned (.tuple #[.agg #[.int .i64 k.f, .int .i64 k.v, .slice ak' k.kids.length ck'], .bool true]) ∧ NSt n0 B ({ x with left := ks, al := al, cl := cl } :: r) (.slice (some ⟨g, 0, none⟩) (r.length + 1) c) ((W1.alloc (.cells #[.int .i64 k.f, .int .i64 k.v, .slice ak k.kids.length ck] 27)).alloc (.cells #[.int .i64 k.f, .int .i64 k.v, .slice ak k.kids.length ck] 27)) ∧ RdK ((W1.alloc (.cells #[.int .i64 k.f, .int .i64 k.v, .slice ak k.kids.length ck] 27)).alloc (.cells #[.int .i64 k.f, .int .i64 k.v, .slice ak k.kids.length ck] 27)) n0 ak' k.kids ∧ k.kids.length ≤ ck' ∧ (isW k.f ∧ isW k.v) ∧ Stay (fun k => k < B) w ((W1.alloc (.cells #[.int .i64 k.f, .int .i64 k.v, .slice ak k.kids.length ck] 27)).alloc (.cells #[.int .i64 k.f, .int .i64 k.v, .slice ak k.kids.length ck] 27))) :=
    ⟨ak, ck, _, _, rfl, hT.on hb1, hrk.on (hst2.below (by omega) (fun k hk => by omega)), hck, hwk, hst2⟩
  clear H hx0 hrd hrt hrk hal hst hT hb1 hst2
  by_cases h1 : x.cl = 1
  · have hk0 : ks.length = 0 := by omega
    rw [h1] at q3 hle hclz hcb hW1
    rw [tailA, if_pos rfl, hk0, Nat.sub_self] at hW1
    subst hW1
    go_enter Tryz.func118, Tryz.ntmps118
    go_wp2
    exact bodyPost_ret (v := .tuple #[.agg #[.int .i64 k.f, .int .i64 k.v, .slice ak k.kids.length ck], .bool true]) (by simp [results, Tryz.results118, go_sem]) rfl FIN.out
  · have h1i : ¬ (x.cl : Int) = 1 := by omega
    have hw1 : ((x.cl : Int) - 1).toNat = x.cl - 1 := by omega
    rw [tailA, if_neg h1] at hW1
    subst hW1
    go_enter Tryz.func118, Tryz.ntmps118
    go_wp2
    exact bodyPost_ret (v := .tuple #[.agg #[.int .i64 k.f, .int .i64 k.v, .slice ak k.kids.length ck], .bool true]) (by simp [results, Tryz.results118, go_sem]) rfl FIN.out
end Go.Proofs.YtollijngiioonaaGreat

/- The program's way to one form: a term whose Kids are all done is closed. Conditions: at most 549755813888 Kids, each of at most 549755813888 parts. -/
namespace Go.Proofs.YtollijngiioonaaGreat
set_option maxRecDepth 100000
open Go.RowKit Go.Sort Go.Lib

theorem cs3_at (L : List FE) (t : Nat) (h : t < L.length * 3) : (cs3 (L.map FE.cells))[t]? = some (encE L.toArray[t / 3]!)[t % 3]! := by
  obtain ⟨c0, c1, c2⟩ := cs3_get (L.map FE.cells) (t / 3) (by simp; omega)
  have hlt : t / 3 < L.length := by omega
  have e1 : L.toArray[t / 3]! = L[t / 3] := by simp [hlt]
  rw [e1]
  have h3 : t % 3 = 0 ∨ t % 3 = 1 ∨ t % 3 = 2 := by omega
  rcases h3 with q | q | q
  · rw [show t / 3 * 3 = t by omega] at c0; rw [c0, q]; simp [FE.cells, encE]
  · rw [show t / 3 * 3 + 1 = t by omega] at c1; rw [c1, q]; simp [FE.cells, encE]
  · rw [show t / 3 * 3 + 2 = t by omega] at c2; rw [c2, q]; simp [FE.cells, encE]

/-- A row of terms of which no two share a block is a list that owns its memory. -/
theorem owns_row {w : World} {g : Nat} {L : List FE} {S : Nat → Prop} (hg : g < w.heap.size) (hS : S g) (hl : L.length ≤ 9223372036854775807) (hc : ∀ i, (hi : i < L.length) → w.cell? ⟨g, i * 3, none⟩ = some (.int .i64 L[i].t.f) ∧ w.cell? ⟨g, i * 3 + 1, none⟩ = some (.int .i64 L[i].t.v) ∧ w.cell? ⟨g, i * 3 + 2, none⟩ = some (.slice L[i].a L[i].t.kids.length L[i].c)) (hf : ∀ j, w.frozen? ⟨g, j, none⟩ = false)
    (he : ∀ e ∈ L, OwnS w e.K e.a e.t.kids ∧ e.t.kids.length ≤ e.c ∧ (isW e.t.f ∧ isW e.t.v) ∧ ∀ k, e.K k → S k ∧ k ≠ g) (hd : L.Pairwise fun e d => ∀ k, e.K k → ¬ d.K k) : OwnS w S (some ⟨g, 0, none⟩) (L.map FE.t) := by
  refine .row S g 0 (L.map FE.t) (fun i => (L[i]?.map FE.a).getD none) (fun i => (L[i]?.map FE.c).getD 0) (fun i x => ∃ e, L[i]? = some e ∧ e.K x) hS hg ⟨by simpa using hl, fun i hi => ?_⟩ (fun i hi => ?_) (fun i hi => ?_) hf (fun i x hi hx => ?_) (fun i j x hi hj hne hx hy => ?_) (fun i hi => ?_)
  · have hi' : i < L.length := by simpa using hi
    simpa [hi'] using (he _ (List.getElem_mem hi')).2.1
  · have hi' : i < L.length := by simpa using hi
    simpa using (he _ (List.getElem_mem hi')).2.2.1
  · have hi' : i < L.length := by simpa using hi
    simpa [hi'] using hc i hi'
  · obtain ⟨e, q, hx⟩ := hx
    obtain ⟨hi', e0⟩ := List.getElem?_eq_some_iff.1 q
    exact (he e (e0 ▸ List.getElem_mem hi')).2.2.2 x hx
  · obtain ⟨e, q, hx⟩ := hx
    obtain ⟨d, q', hy⟩ := hy
    obtain ⟨hi', e0⟩ := List.getElem?_eq_some_iff.1 q
    obtain ⟨hj', e1⟩ := List.getElem?_eq_some_iff.1 q'
    rcases Nat.lt_or_gt_of_ne hne with hh | hh
    · exact (e0 ▸ e1 ▸ List.pairwise_iff_getElem.1 hd i j hi' hj' hh) x hx hy
    · exact (e1 ▸ e0 ▸ List.pairwise_iff_getElem.1 hd j i hj' hi' hh) x hy hx
  · have hi' : i < L.length := by simpa using hi
    have := (he _ (List.getElem_mem hi')).1
    simp only [hi', List.getElem?_eq_getElem, Option.map_some, Option.getD_some, List.getElem_map]
    exact this.mono (fun x hx => ⟨_, rfl, hx⟩)

theorem MR.owns {n0 B : Nat} {x : FM} {w : World} (h : MR n0 B x w) (hl : x.L.length ≤ 549755813888) : OwnS w x.S x.am (x.L.map FE.t) := by
  have hr := h.row
  cases hL : x.L with
  | nil => exact .nil _ _
  | cons e0 L0 =>
    have hL' : x.L.length = L0.length + 1 := by rw [hL]; simp
    rw [hL'] at hr
    obtain ⟨g, c, e, _, _, hgl⟩ := own_slot hr
    have ea : x.am = some ⟨g, 0, none⟩ := (Value.slice.inj e).1
    have hb : (Value.slice x.am x.L.length x.cm).ownBlock = some g := by rw [ea]; rfl
    rw [ea, ← hL]
    refine owns_row hgl (.inl hb) (by omega) (fun i hi => ?_) (fun j => by have := h.row; rw [ea] at this; exact this.frozenAt j) (fun d hd => ⟨(h.el d hd).1, (h.el d hd).2.1, (h.el d hd).2.2.1, fun k hk => ⟨.inr ⟨d, hd, hk⟩, fun q => h.ap g hb d hd (q ▸ hk)⟩⟩) h.dis
    have hrow := h.row
    rw [ea] at hrow
    obtain ⟨c0, c1, c2⟩ := cs3_cells (l := x.L.map FE.cells) (k := i) (by simp) (by simpa using hi) hrow
    simp only [List.getElem_map, FE.cells] at c0 c1 c2
    exact ⟨c0, c1, c2⟩

/-- What sort.Slice finds. -/
theorem MR.ko {n0 B g kb : Nat} {x : FM} {w W : World} (h : MR n0 B x w) (hb : Below w.heap.size w W) (ha : x.am = some ⟨g, 0, none⟩) (hk : W.cell? ⟨kb, 0, none⟩ = some (.slice (some ⟨g, 0, none⟩) x.L.length x.L.length)) (hp : ∀ e ∈ x.L, partsT e.t ≤ 549755813888) : KO g kb W.heap.size x.L.length x.L.toArray W := by
  have hrow := h.row
  rw [ha] at hrow
  have hgl := (hrow.lt g rfl).2
  have hr := own_on hrow hb
  refine ⟨fun t ht => ?_, by simp, fun i hi => ?_, fun j => hr.frozenAt j, hk, Nat.le_refl _⟩
  · have ht' : t < x.L.length * 3 := by simpa using ht
    refine ⟨?_, hr.frozenAt _⟩
    rw [Nat.zero_add, hr.cellAt t (by omega), cs3_at x.L t ht']
    have e1 := get_flatK encE 3 x.L.toArray t (by simpa using ht')
    rw [e1]; rfl
  · have e1 : x.L.toArray[i]! = x.L[i] := by simp [hi]
    rw [e1]
    have hm : x.L[i] ∈ x.L := List.getElem_mem hi
    have he := h.el _ hm
    refine ⟨he.1.frame (fun k hk => hb.block k (he.2.2.2 k hk).2) hb.size, he.2.1, hp _ hm, fun k hk => ⟨fun q => h.ap g (by rw [ha]; rfl) _ hm (q ▸ hk), Nat.lt_of_lt_of_le (he.2.2.2 k hk).2 hb.size⟩⟩

/-- What sort.Slice leaves. -/
theorem KO.owns {g kb base n : Nat} {d d0 : Array FE} {W : World} {S : Nat → Prop} (h : KO g kb base n d W) (hg : g < W.heap.size) (hn : n ≤ 549755813888) (hp : d.toList.Perm d0.toList) (hS : S g) (h0 : ∀ e ∈ d0.toList, (isW e.t.f ∧ isW e.t.v) ∧ ∀ k, e.K k → S k) (hd : d0.toList.Pairwise fun e d => ∀ k, e.K k → ¬ d.K k) : OwnS W S (some ⟨g, 0, none⟩) (d.toList.map FE.t) := by
  have hsz := h.sz
  refine owns_row hg hS (by simp; omega) (fun i hi => ?_) h.fr (fun e he => ?_) ((hp.pairwise_iff (fun hxy z hz hz' => hxy z hz' hz)).2 hd)
  · have hi' : i < d.size := by simpa using hi
    have c0 := (h.h.cell (i := i) (c := 0) hi' (by omega)).1
    have c1 := (h.h.cell (i := i) (c := 1) hi' (by omega)).1
    have c2 := (h.h.cell (i := i) (c := 2) hi' (by omega)).1
    have e1 : d[i]! = d.toList[i] := by simp [hi']
    rw [e1] at c0 c1 c2
    simp only [encE, List.getElem!_cons_zero, List.getElem!_cons_succ, Nat.zero_add, Nat.add_zero] at c0 c1 c2
    exact ⟨c0, c1, c2⟩
  · obtain ⟨i, hi, e1⟩ := List.getElem_of_mem he
    have hi' : i < d.size := by simpa using hi
    have e2 : d[i]! = e := by rw [← e1]; simp [hi']
    have o := h.own i (by omega)
    rw [e2] at o
    have m := h0 e (hp.subset he)
    exact ⟨o.1, o.2.1, m.1, fun k hk => ⟨m.2 k hk, (o.2.2.2 k hk).1⟩⟩

/-- The answer's three cells, stored behind all else. -/
theorem fin3 {n : Nat} {w W' : World} {S : Nat → Prop} {a : Option Addr} {ts : List TermD} {u v s : Value} (ho : OwnS W' S a ts) (hS : ∀ k, S k → k < n) (hst : Stay (fun k => ¬ S k) w W') (hw : n ≤ w.heap.size) :
    OwnS (((W'.setCell ⟨n + 1, 0, none⟩ u).setCell ⟨n + 1, 1, none⟩ v).setCell ⟨n + 1, 2, none⟩ s) S a ts ∧ Stay (fun k => k < n ∧ ¬ S k) w (((W'.setCell ⟨n + 1, 0, none⟩ u).setCell ⟨n + 1, 1, none⟩ v).setCell ⟨n + 1, 2, none⟩ s) := by
  have hn : ∀ j, ¬ S (⟨n + 1, j, none⟩ : Addr).block := fun j hk => by have := hS _ hk; simp only at this; omega
  have _ := hw
  exact ⟨((ho.setCell ⟨n + 1, 0, none⟩ (hn 0) u).setCell ⟨n + 1, 1, none⟩ (hn 1) v).setCell ⟨n + 1, 2, none⟩ (hn 2) s,
    (((hst.weak (fun _ _ hk => hk.2)).trans (.setCell _ _ (fun hk => by have := hk.1; simp only at this; omega))).trans (.setCell _ _ (fun hk => by have := hk.1; simp only at this; omega))).trans (.setCell _ _ (fun hk => by have := hk.1; simp only at this; omega))⟩

set_option maxHeartbeats 1600000 in
theorem closed_plain (sa : Option Addr) (ss : List SymD) (sc n0 B h : Nat) (x : FM) (w : World) (hs : RdS w sa ss) (M : MR n0 B x w) (hl : x.L.length ≤ 549755813888) (hbl : blindAt ss x.t.f = false) :
    Calls Tryz.prog 119 #[.agg #[.int .i64 x.t.f, .int .i64 x.t.v, .slice x.a x.t.kids.length x.c, .slice x.al x.left.length x.cl, .slice x.am x.L.length x.cm, .int .i64 h], .slice sa ss.length sc] w fun e w' => e = .returned (.agg #[.int .i64 x.t.f, .int .i64 x.t.v, .slice x.am x.L.length x.L.length]) ∧ OwnS w' x.S x.am (x.L.map FE.t) ∧ Stay (fun k => k < w.heap.size ∧ ¬ x.S k) w w' := by
  obtain ⟨W, hW⟩ : ∃ W, W = ((w.alloc (.cells #[.int .i64 x.t.f, .int .i64 x.t.v, .slice x.a x.t.kids.length x.c, .slice x.al x.left.length x.cl, .slice x.am x.L.length x.cm, .int .i64 h] 140)).alloc (.cells #[.int .i64 0, .int .i64 0, .slice none 0 0] 27)).alloc (.cells #[.slice x.am x.L.length x.L.length] 25) := ⟨_, rfl⟩
  have hB0 : Below w.heap.size w W := by rw [hW]; exact (((Below.refl _ _).alloc (Nat.le_refl _) _).alloc (by simp) _).alloc (by simp; omega) _
  have hz : W.heap.size = w.heap.size + 1 + 1 + 1 := by rw [hW]; simp
  have p0 : W.cell? ⟨w.heap.size, 0, none⟩ = some (.int .i64 x.t.f) := by rw [hW]; simp [go_sem]
  have p1 : W.cell? ⟨w.heap.size, 1, none⟩ = some (.int .i64 x.t.v) := by rw [hW]; simp [go_sem]
  have r0 : W.cell? ⟨w.heap.size + 1, 0, none⟩ = some (.int .i64 0) := by rw [hW]; simp [go_sem]
  have r1 : W.cell? ⟨w.heap.size + 1, 1, none⟩ = some (.int .i64 0) := by rw [hW]; simp [go_sem]
  have r2 : W.cell? ⟨w.heap.size + 1, 2, none⟩ = some (.slice none 0 0) := by rw [hW]; simp [go_sem]
  have fr : ∀ j, W.frozen? ⟨w.heap.size + 1, j, none⟩ = false := fun j => by rw [hW]; simp [go_sem]
  have q0 : W.cell? ⟨w.heap.size + 1 + 1, 0, none⟩ = some (.slice x.am x.L.length x.L.length) := by rw [hW]; simp [go_sem]
  have CB := impBlind_any sa ss ss.length sc x.t.f W rfl (hs.below hB0)
  have hcm : x.L.length ≤ x.cm := by obtain ⟨_, _, e, hh⟩ := own_form M.row; rw [(Value.slice.inj e).2.2]; exact hh
  have hcmz : (x.L.length : Int) ≤ (x.cm : Int) := by omega
  rw [hbl] at CB
  have HO : Hid (∀ W', Below w.heap.size w W' → OwnS W' x.S x.am (x.L.map FE.t)) := fun W' hb => (M.owns hl).frame (fun k hk => hb.block k (M.lt k hk).2) hb.size
  clear hs M hbl r0 r1 r2 fr
  generalize x.L.length = n at *
  generalize x.am = am at *
  go_enter Tryz.func119, Tryz.ntmps119
  go_wp2_with (go_at_call 112; rw [← hW]; refine CB.mono ?_; rintro e w1 ⟨rfl, hw1⟩; subst w1)
  refine bodyPost_ret (v := .agg #[.int .i64 x.t.f, .int .i64 x.t.v, .slice am n n]) (by simp [results, Tryz.results119, go_sem]) rfl ?_
  have hb : ∀ o1 o2 o3, Below w.heap.size w (((w.alloc o1).alloc o2).alloc o3) := fun o1 o2 o3 => (((Below.refl _ _).alloc (Nat.le_refl _) o1).alloc (by simp) o2).alloc (by simp; omega) o3
  exact ⟨rfl, HO.out _ (hb _ _ _), .of_below (hb _ _ _) (fun _ hk _ => hk)⟩

theorem perm_one {a : List TermD} (h : a.length ≤ 1) : sortT a = a := by
  match a, h with
  | [], _ => rfl
  | [x], _ => simp [sortT, putT]
  | _ :: _ :: _, h => simp at h

set_option maxHeartbeats 1600000 in
theorem closed_blind (sa : Option Addr) (ss : List SymD) (sc n0 B h : Nat) (x : FM) (w : World) (hs : RdS w sa ss) (M : MR n0 B x w) (hl : x.L.length ≤ 549755813888) (hp : ∀ e ∈ x.L, partsT e.t ≤ 549755813888) (hbl : blindAt ss x.t.f = true) :
    Calls Tryz.prog 119 #[.agg #[.int .i64 x.t.f, .int .i64 x.t.v, .slice x.a x.t.kids.length x.c, .slice x.al x.left.length x.cl, .slice x.am x.L.length x.cm, .int .i64 h], .slice sa ss.length sc] w fun e w' => e = .returned (.agg #[.int .i64 x.t.f, .int .i64 x.t.v, .slice x.am x.L.length x.L.length]) ∧ OwnS w' x.S x.am (sortT (x.L.map FE.t)) ∧ Stay (fun k => k < w.heap.size ∧ ¬ x.S k) w w' := by
  obtain ⟨W, hW⟩ : ∃ W, W = ((w.alloc (.cells #[.int .i64 x.t.f, .int .i64 x.t.v, .slice x.a x.t.kids.length x.c, .slice x.al x.left.length x.cl, .slice x.am x.L.length x.cm, .int .i64 h] 140)).alloc (.cells #[.int .i64 0, .int .i64 0, .slice none 0 0] 27)).alloc (.cells #[.slice x.am x.L.length x.L.length] 25) := ⟨_, rfl⟩
  have hB0 : Below w.heap.size w W := by rw [hW]; exact (((Below.refl _ _).alloc (Nat.le_refl _) _).alloc (by simp) _).alloc (by simp; omega) _
  have hz : W.heap.size = w.heap.size + 1 + 1 + 1 := by rw [hW]; simp
  have p0 : W.cell? ⟨w.heap.size, 0, none⟩ = some (.int .i64 x.t.f) := by rw [hW]; simp [go_sem]
  have p1 : W.cell? ⟨w.heap.size, 1, none⟩ = some (.int .i64 x.t.v) := by rw [hW]; simp [go_sem]
  have r0 : W.cell? ⟨w.heap.size + 1, 0, none⟩ = some (.int .i64 0) := by rw [hW]; simp [go_sem]
  have r1 : W.cell? ⟨w.heap.size + 1, 1, none⟩ = some (.int .i64 0) := by rw [hW]; simp [go_sem]
  have r2 : W.cell? ⟨w.heap.size + 1, 2, none⟩ = some (.slice none 0 0) := by rw [hW]; simp [go_sem]
  have fr : ∀ j, W.frozen? ⟨w.heap.size + 1, j, none⟩ = false := fun j => by rw [hW]; simp [go_sem]
  have q0 : W.cell? ⟨w.heap.size + 1 + 1, 0, none⟩ = some (.slice x.am x.L.length x.L.length) := by rw [hW]; simp [go_sem]
  have CB := impBlind_any sa ss ss.length sc x.t.f W rfl (hs.below hB0)
  have hcm : x.L.length ≤ x.cm := by obtain ⟨_, _, e, hh⟩ := own_form M.row; rw [(Value.slice.inj e).2.2]; exact hh
  have hcmz : (x.L.length : Int) ≤ (x.cm : Int) := by omega
  rw [hbl] at CB
  have hMlt : ∀ k, x.S k → k < w.heap.size := fun k hk => (M.lt k hk).2
  have CS : Calls Tryz.prog 144 #[.iface 25 (.slice x.am x.L.length x.L.length), .func (.func 145) #[] #[.pointer (some ⟨w.heap.size + 1 + 1, 0, none⟩)]] W fun e W' => e = .returned (.tuple #[]) ∧ OwnS W' x.S x.am (sortT (x.L.map FE.t)) ∧ Stay (fun k => ¬ x.S k) W W' := by
    by_cases h2 : 2 ≤ x.L.length
    · obtain ⟨m, hm⟩ : ∃ m, x.L.length = m + 1 := ⟨x.L.length - 1, by omega⟩
      have hr := M.row
      rw [hm] at hr
      obtain ⟨g, c, e, _, _, hgl⟩ := own_slot hr
      have ea : x.am = some ⟨g, 0, none⟩ := (Value.slice.inj e).1
      have hgS : x.S g := .inl (by rw [ea]; rfl)
      have ko := M.ko hB0 ea (by rw [← ea]; exact q0) hp
      have hgW : g < W.heap.size := by omega
      rw [ea]
      refine (sortKids_any (base := W.heap.size) hgW (by omega) (by omega) (by omega) h2 x.L.toArray W ko).mono ?_
      rintro e W' ⟨rfl, d', k', pp, ps, hst⟩
      refine ⟨rfl, ?_, hst.weak (fun k _ hk q => hk (q ▸ hgS))⟩
      have ho := k'.owns (S := x.S) (Nat.lt_of_lt_of_le hgW hst.size) hl pp hgS (fun e he => ⟨(M.el e (by simpa using he)).2.2.1, fun k hk => .inr ⟨e, by simpa using he, hk⟩⟩) (by simpa using M.dis)
      have e1 : d'.toList.map FE.t = sortT (x.L.map FE.t) := sortT_eq (by simpa using pp.map FE.t) ps
      rw [← e1]; exact ho
    · have hone : sortT (x.L.map FE.t) = x.L.map FE.t := perm_one (by simp; omega)
      rw [hone]
      have ho := (M.owns hl).frame (fun k hk => hB0.block k (M.lt k hk).2) hB0.size
      have tiny : ∀ f, Tryz.prog.funcs.findIdx? (·.name == "internal/reflectlite" ++ ".Swapper$" ++ toString (Lib.swapperK x.L.length svE 25)) = some f → Calls Tryz.prog 144 #[.iface 25 (.slice x.am x.L.length x.L.length), .func (.func 145) #[] #[.pointer (some ⟨w.heap.size + 1 + 1, 0, none⟩)]] W fun e W' => e = .returned (.tuple #[]) ∧ OwnS W' x.S x.am (x.L.map FE.t) ∧ Stay (fun k => ¬ x.S k) W W' := fun f hf => by
        refine (Any.sort_Slice_tiny Tryz.laysGg6 25 27 svT svE (by kernel_rfl) (by kernel_rfl) (by kernel_rfl) (by kernel_rfl) 25 (fun _ => by kernel_rfl) x.am x.L.length x.L.length (by omega) f hf (.func 145) #[] #[.pointer (some ⟨w.heap.size + 1 + 1, 0, none⟩)] W).mono ?_
        rintro e W' ⟨rfl, os, rfl⟩
        have hb : Below W.heap.size W (grow W os) := ⟨rfl, rfl, rfl, by rw [size_grow]; omega, fun k hk => by show (W.heap ++ os)[k]? = W.heap[k]?; rw [Array.getElem?_append_left hk]⟩
        exact ⟨rfl, ho.frame (fun k hk => hb.block k (Nat.lt_of_lt_of_le (M.lt k hk).2 hB0.size)) hb.size, .of_below hb (fun _ hk _ => hk)⟩
      by_cases h0 : x.L.length = 0
      · exact tiny 170 (by rw [h0]; kernel_rfl)
      · have h1 : x.L.length = 1 := by omega
        exact tiny 171 (by rw [h1]; kernel_rfl)
  have HS : Hid (∀ k, x.S k → k < w.heap.size) := hMlt
  have HBW : Hid (Below w.heap.size w W) := hB0
  clear hs M hbl hMlt hp
  generalize x.L.length = n at *
  generalize x.am = am at *
  generalize sortT (x.L.map FE.t) = ts at *
  have hNS : ∀ k, w.heap.size ≤ k → ¬ x.S k := fun k hk q => by have := HS.out k q; omega
  have n0' := hNS w.heap.size (Nat.le_refl _)
  have n1' := hNS (w.heap.size + 1) (by omega)
  have n2' := hNS (w.heap.size + 1 + 1) (by omega)
  clear hNS
  go_enter Tryz.func119, Tryz.ntmps119
  go_wp2_with (first
    | (go_at_call 112; rw [← hW]; refine CB.mono ?_; rintro e w1 ⟨rfl, hw1⟩; subst w1; clear hW)
    | (go_at_call 144; refine CS.mono ?_; rintro e W' ⟨rfl, ho, hst⟩; have P0 := hst.cell p0 n0'; have P1 := hst.cell p1 n0'; have R0 := hst.cell r0 n1'; have R1 := hst.cell r1 n1'; have R2 := hst.cell r2 n1'; have Q0 := hst.cell q0 n2'; have FR : ∀ j, W'.frozen? ⟨w.heap.size + 1, j, none⟩ = false := (fun j => (hst.frozen (p := ⟨w.heap.size + 1, j, none⟩) (by rw [hz]; show w.heap.size + 1 < _; omega) n1').trans (fr j)); clear p0 p1 r0 r1 r2 q0 fr CS))
  obtain ⟨z0, z1, z2⟩ := set3_cells (u := W') (r := w.heap.size + 1) (x := .int .i64 x.t.f) (y := .int .i64 x.t.v) (z := .slice am n n) R0 R1 R2
  obtain ⟨fo, fs⟩ := fin3 (u := .int .i64 x.t.f) (v := .int .i64 x.t.v) (s := .slice am n n) ho HS.out ((Stay.of_below HBW.out (fun _ hk _ => hk)).trans hst) (Nat.le_refl _)
  exact bodyPost_ret (v := .agg #[.int .i64 x.t.f, .int .i64 x.t.v, .slice am n n]) (by simp [results, Tryz.results119, go_sem, z0, z1, z2]) rfl ⟨rfl, fo, fs⟩
end Go.Proofs.YtollijngiioonaaGreat

/- Contracts of the specification's functions on terms: how many parts, how often a variable, whether two are the same, which is before. Conditions: terms of at most 549755813888 parts. -/
namespace Go.Proofs.YtollijngiioonaaGreat
set_option maxRecDepth 100000
open Go.RowKit


set_option maxHeartbeats 1600000 in
theorem specParts_any (N : Nat) : ∀ (t : TermD) (a : Option Addr) (c hi : Nat) (w : World), partsT t ≤ N → N ≤ 549755813888 → RdK w hi a t.kids → hi ≤ w.heap.size →
    Calls Tryz.prog 102 #[.agg #[.int .i64 t.f, .int .i64 t.v, .slice a t.kids.length c]] w fun e w' => e = .returned (.int .i64 (partsT t)) ∧ Below w.heap.size w w' := by
  induction N with
  | zero => intro t a c hi w h; rw [partsT_eq] at h; omega
  | succ N ih =>
    intro t a c hi w hN hM hr hhi
    rw [partsT_eq] at hN ⊢
    have hlen := partsL_len t.kids
    generalize t.kids = ks at *
    have HR : Hid (RdK w hi a ks) := hr
    clear hr
    have hb0 : Below w.heap.size w (w.alloc (.cells #[.int .i64 t.f, .int .i64 t.v, .slice a ks.length c] 27)) := (Below.refl w.heap.size w).alloc (Nat.le_refl _) _
    go_enter Tryz.func102, Tryz.ntmps102
    go_wp2_with fail
    go_loopw [3, 4] (fun n i wr => ∃ k : Nat, k ≤ ks.length ∧ i = .int .i64 k ∧ n = .int .i64 ((partsL (ks.take k) + 1 : Nat) : Int) ∧ wr.cell? ⟨w.heap.size, 2, none⟩ = some (.slice a ks.length c) ∧ Below w.heap.size w wr ∧ w.heap.size < wr.heap.size) (fun _ i _ => ks.length - (intOf i).toNat)
    case atStart => exact ⟨0, Nat.zero_le _, rfl, by simp [partsL], by simp [go_sem], hb0, by simp⟩
    case round =>
      obtain ⟨k, hk, rfl, rfl, hct, hbr, hwl⟩ := hrel
      have hpk := partsL_take ks k
      clear hb0
      by_cases hk' : k < ks.length
      · obtain ⟨b, off, a', c', rfl, hlt, d0, d1, d2, hkr⟩ := RdK.kid (HR.out.on (hbr.mono hhi)) hk'
        have hpg := partsL_get hk'
        have hki : (k : Int) < (ks.length : Int) := by omega
        have HP : Hid (partsL (ks.take (k + 1)) = partsL (ks.take k) + partsT ks[k]) := partsL_next hk'
        have I := ih ks[k] a' c' hi wr (by omega) (by omega) hkr (Nat.le_trans hhi hbr.size)
        clear hkr
        go_wp2_with (go_at_call 102; refine I.mono ?_; rintro e w1 ⟨rfl, hb1⟩; clear I; have hct1 := (hb1.cell (p := ⟨w.heap.size, 2, none⟩) hwl).trans hct; have hbb := hbr.trans (hb1.mono hbr.size); have hwl1 : w.heap.size < w1.heap.size := (Nat.lt_of_lt_of_le hwl hb1.size); clear hbr hb1)
        go_roundw
        case rel => exact ⟨k + 1, by omega, by go_num, by rw [HP.out]; go_num, hct1, hbb, hwl1⟩
        case measure => simp [intOf]; omega
      · have E : Hid (k = ks.length) := (by omega : k = ks.length)
        go_wp2_with fail
        go_ret
        refine ⟨rtI ?_, hbr⟩
        rw [E.out, List.take_length]

set_option maxHeartbeats 1600000 in
theorem l1Bit_any (b : Bool) (w : World) : Calls Tryz.prog 105 #[.bool b] w fun e w' => e = .returned (.int .i64 (if b = true then 1 else 0)) ∧ w' = w := by
  cases b <;>
  · go_enter Tryz.func105, Tryz.ntmps105
    go_wp2_with fail
    go_ret
    exact ⟨rfl, rfl⟩

set_option maxHeartbeats 1600000 in
theorem specCount_any (N : Nat) : ∀ (t : TermD) (a : Option Addr) (c hi : Nat) (x : Int) (w : World), partsT t ≤ N → N ≤ 549755813888 → RdK w hi a t.kids → hi ≤ w.heap.size →
    Calls Tryz.prog 58 #[.agg #[.int .i64 t.f, .int .i64 t.v, .slice a t.kids.length c], .int .i64 x] w fun e w' => e = .returned (.int .i64 (cntT x t)) ∧ Below w.heap.size w w' := by
  induction N with
  | zero => intro t a c hi x w h; rw [partsT_eq] at h; omega
  | succ N ih =>
    intro t a c hi x w hN hM hr hhi
    rw [partsT_eq] at hN
    rw [cntT_eq]
    have hlen := partsL_len t.kids
    generalize t.kids = ks at *
    have HR : Hid (RdK w hi a ks) := hr
    clear hr
    obtain ⟨m, hm⟩ : ∃ m : Nat, m = (if t.f = -1 ∧ t.v = x then 1 else 0) := ⟨_, rfl⟩
    have hm1 : m ≤ 1 := by rw [hm]; split <;> omega
    obtain ⟨q, hq⟩ : ∃ q : Bool, q = (if t.f = -1 then (t.v == x) else false) := ⟨_, rfl⟩
    have L : ∀ w, Calls Tryz.prog 105 #[.bool q] w fun e w' => e = .returned (.int .i64 (m : Int)) ∧ w' = w := by
      intro w
      refine (l1Bit_any q w).mono ?_
      rintro e w' ⟨rfl, rfl⟩
      refine ⟨rtI ?_, rfl⟩
      rw [hm, hq]
      by_cases h : t.f = -1 <;> by_cases h' : t.v = x <;> simp [h, h']
    have HM : Hid (m = (if t.f = -1 ∧ t.v = x then 1 else 0)) := hm
    clear hm
    rw [← HM.out]
    have hf : (t.f = -1 ∧ q = (t.v == x)) ∨ ((t.f == -1) = false ∧ q = false) := by
      by_cases h : t.f = -1
      · exact .inl ⟨h, by rw [hq, if_pos h]⟩
      · exact .inr ⟨by simp [h], by rw [hq, if_neg h]⟩
    clear hq
    rcases hf with ⟨hf, rfl⟩ | ⟨hf, rfl⟩
    all_goals
      go_enter Tryz.func58, Tryz.ntmps58
      go_wp2_with (go_at_call 105; refine (L _).mono ?_; rintro e w' ⟨rfl, hw⟩; subst w')
      go_loopw [5, 6] (fun n i wr => ∃ k : Nat, k ≤ ks.length ∧ i = .int .i64 k ∧ n = .int .i64 ((m + cntL x (ks.take k) : Nat) : Int) ∧ wr.cell? ⟨w.heap.size, 2, none⟩ = some (.slice a ks.length c) ∧ Below w.heap.size w wr ∧ w.heap.size < wr.heap.size) (fun _ i _ => ks.length - (intOf i).toNat)
      case atStart => exact ⟨0, Nat.zero_le _, rfl, by simp [cntL], by simp [go_sem], (Below.refl w.heap.size w).alloc (Nat.le_refl _) _, by simp⟩
      case round =>
        obtain ⟨k, hk, rfl, rfl, hct, hbr, hwl⟩ := hrel
        have hpk := partsL_take ks k
        have hck := cntL_le x (ks.take k)
        clear L
        by_cases hk' : k < ks.length
        · obtain ⟨b, off, a', c', rfl, hlt, d0, d1, d2, hkr⟩ := RdK.kid (HR.out.on (hbr.mono hhi)) hk'
          have hpg := partsL_get hk'
          have hcg := cntT_le x ks[k]
          have hki : (k : Int) < (ks.length : Int) := by omega
          have HP : Hid (cntL x (ks.take (k + 1)) = cntL x (ks.take k) + cntT x ks[k]) := cntL_next x hk'
          have I := ih ks[k] a' c' hi x wr (by omega) (by omega) hkr (Nat.le_trans hhi hbr.size)
          clear hkr
          go_wp2_with (go_at_call 58; refine I.mono ?_; rintro e w1 ⟨rfl, hb1⟩; clear I; have hct1 := (hb1.cell (p := ⟨w.heap.size, 2, none⟩) hwl).trans hct; have hbb := hbr.trans (hb1.mono hbr.size); have hwl1 : w.heap.size < w1.heap.size := (Nat.lt_of_lt_of_le hwl hb1.size); clear hbr hb1)
          go_roundw
          case rel => exact ⟨k + 1, by omega, by go_num, by rw [HP.out]; go_num, hct1, hbb, hwl1⟩
          case measure => simp [intOf]; omega
        · have E : Hid (k = ks.length) := (by omega : k = ks.length)
          go_wp2_with fail
          go_ret
          refine ⟨rtI ?_, hbr⟩
          rw [E.out, List.take_length]

set_option maxHeartbeats 1600000 in
theorem specSame_any (N : Nat) : ∀ (t u : TermD) (a a' : Option Addr) (c c' hi : Nat) (w : World), partsT t ≤ N → N ≤ 549755813888 → RdK w hi a t.kids → RdK w hi a' u.kids → hi ≤ w.heap.size →
    Calls Tryz.prog 77 #[.agg #[.int .i64 t.f, .int .i64 t.v, .slice a t.kids.length c], .agg #[.int .i64 u.f, .int .i64 u.v, .slice a' u.kids.length c']] w fun e w' => e = .returned (.bool (sameT t u)) ∧ Below w.heap.size w w' := by
  induction N with
  | zero => intro t u a a' c c' hi w h; rw [partsT_eq] at h; omega
  | succ N ih =>
    intro t u a a' c c' hi w hN hM hr hr' hhi
    rw [partsT_eq] at hN
    have HS : Hid (sameT t u = (t.f == u.f && t.v == u.v && t.kids.length == u.kids.length && sameL t.kids u.kids)) := sameT_eq t u
    have hlen := partsL_len t.kids
    generalize t.kids = ks at *
    generalize u.kids = us at *
    have hB : ∀ o1 o2, Below w.heap.size w ((w.alloc o1).alloc o2) := fun o1 o2 => ((Below.refl _ _).alloc (Nat.le_refl _) o1).alloc (by simp) o2
    by_cases hf : t.f = u.f ∧ t.v = u.v ∧ ks.length = us.length
    · obtain ⟨h1, h2, h3⟩ := hf
      have HS2 : Hid (sameT t u = sameL ks us) := by show _ = _; rw [HS.out, h1, h2, h3]; simp
      have HR : Hid (RdK w hi a ks) := hr
      have HR' : Hid (RdK w hi a' us) := hr'
      have q1 : (t.f != u.f) = false := by simp [h1]
      have q2 : (t.v != u.v) = false := by simp [h2]
      have q3 : ((ks.length : Int) != (us.length : Int)) = false := by simp [h3]
      have H3 : Hid (ks.length = us.length) := h3
      clear hr hr' HS h1 h2 h3
      go_enter Tryz.func77, Tryz.ntmps77
      go_wp2_with fail
      go_loopw [5] (fun i wr => ∃ k : Nat, k ≤ ks.length ∧ i = .int .i64 k ∧ wr.cell? ⟨w.heap.size, 2, none⟩ = some (.slice a ks.length c) ∧ wr.cell? ⟨w.heap.size + 1, 2, none⟩ = some (.slice a' us.length c') ∧ Below w.heap.size w wr ∧ w.heap.size + 1 < wr.heap.size ∧ Hid (∀ j, (h : j < ks.length) → (h' : j < us.length) → j < k → sameT ks[j] us[j] = true)) (fun i _ => ks.length - (intOf i).toNat)
      case atStart => exact ⟨0, Nat.zero_le _, rfl, by simp [go_sem], by simp [go_sem], hB _ _, by simp, fun j _ _ h => absurd h (by omega)⟩
      case round =>
        obtain ⟨k, hk, rfl, hct, hcu, hbr, hwl, HA⟩ := hrel
        clear hB
        by_cases hk' : k < ks.length
        · have hku : k < us.length := by have := H3.out; omega
          obtain ⟨b, off, e1, c1, rfl, hlt, d0, d1, d2, hkr⟩ := RdK.kid (HR.out.on (hbr.mono hhi)) hk'
          obtain ⟨b', off', e2, c2, rfl, hlt', g0, g1, g2, hkr'⟩ := RdK.kid (HR'.out.on (hbr.mono hhi)) hku
          have hpg := partsL_get hk'
          have hki : (k : Int) < (ks.length : Int) := by omega
          have hkj : (k : Int) < (us.length : Int) := by omega
          have hwr := Nat.le_trans hhi hbr.size
          have I := fun (w' : World) (h : Below wr.heap.size wr w') => ih ks[k] us[k] e1 e2 c1 c2 hi w' (by omega) (by omega) (hkr.on (h.mono hwr)) (hkr'.on (h.mono hwr)) (Nat.le_trans hwr h.size)
          clear HR HR' hkr hkr'
          cases hsm : sameT ks[k] us[k] with
          | true =>
            rw [hsm] at I
            have HA' : Hid (∀ j, (h : j < ks.length) → (h' : j < us.length) → j < k + 1 → sameT ks[j] us[j] = true) := fun j h h' hj => by
              by_cases e : j = k
              · subst e; exact hsm
              · exact HA.out j h h' (by omega)
            clear HA hsm
            go_wp2_with fail
            go_region_held3 (fun w' => w'.cell? ⟨w.heap.size, 2, none⟩ = some (.slice (some ⟨b, off, none⟩) ks.length c) ∧ w'.cell? ⟨w.heap.size + 1, 2, none⟩ = some (.slice (some ⟨b', off', none⟩) us.length c') ∧ w'.cell? ⟨b, off + k * 3, none⟩ = some (.int .i64 ks[k].f) ∧ w'.cell? ⟨b, off + k * 3 + 1, none⟩ = some (.int .i64 ks[k].v) ∧ w'.cell? ⟨b, off + k * 3 + 2, none⟩ = some (.slice e1 ks[k].kids.length c1) ∧ w'.cell? ⟨b', off' + k * 3, none⟩ = some (.int .i64 us[k].f) ∧ w'.cell? ⟨b', off' + k * 3 + 1, none⟩ = some (.int .i64 us[k].v) ∧ w'.cell? ⟨b', off' + k * 3 + 2, none⟩ = some (.slice e2 us[k].kids.length c2)) (first | go_keep | exact ⟨keepC hbb hct, keepC hbb hcu, keepC hbb d0, keepC hbb d1, keepC hbb d2, keepC hbb g0, keepC hbb g1, keepC hbb g2⟩)
              (first | (go_at_call 77; refine (I _ ?_).mono ?_; exact (Below.refl _ _).drew; rintro e w1 ⟨rfl, hb1⟩; have hbb : Below wr.heap.size wr w1 := (Below.refl _ _).drew.trans hb1; clear hb1))
            go_wp2_with fail
            go_roundw
            case rel => exact ⟨k + 1, by omega, by go_num, keepC hbb hct, keepC hbb hcu, hbr.trans (hbb.mono hbr.size), Nat.lt_of_lt_of_le hwl hbb.size, HA'⟩
            case measure => simp [intOf]; omega
          | false =>
            rw [hsm] at I
            have HF : Hid (sameT t u = false) := by show _ = _; rw [HS2.out]; exact sameL_hit hk' hku hsm
            clear HA hsm
            go_wp2_with fail
            go_region_held3 (fun w' => w'.cell? ⟨w.heap.size, 2, none⟩ = some (.slice (some ⟨b, off, none⟩) ks.length c) ∧ w'.cell? ⟨w.heap.size + 1, 2, none⟩ = some (.slice (some ⟨b', off', none⟩) us.length c') ∧ w'.cell? ⟨b, off + k * 3, none⟩ = some (.int .i64 ks[k].f) ∧ w'.cell? ⟨b, off + k * 3 + 1, none⟩ = some (.int .i64 ks[k].v) ∧ w'.cell? ⟨b, off + k * 3 + 2, none⟩ = some (.slice e1 ks[k].kids.length c1) ∧ w'.cell? ⟨b', off' + k * 3, none⟩ = some (.int .i64 us[k].f) ∧ w'.cell? ⟨b', off' + k * 3 + 1, none⟩ = some (.int .i64 us[k].v) ∧ w'.cell? ⟨b', off' + k * 3 + 2, none⟩ = some (.slice e2 us[k].kids.length c2)) (first | go_keep | exact ⟨keepC hbb hct, keepC hbb hcu, keepC hbb d0, keepC hbb d1, keepC hbb d2, keepC hbb g0, keepC hbb g1, keepC hbb g2⟩)
              (first | (go_at_call 77; refine (I _ ?_).mono ?_; exact (Below.refl _ _).drew; rintro e w1 ⟨rfl, hb1⟩; have hbb : Below wr.heap.size wr w1 := (Below.refl _ _).drew.trans hb1; clear hb1))
            go_wp2_with fail
            go_ret
            exact ⟨rtB HF.out.symm, hbr.trans (hbb.mono hbr.size)⟩
        · have HT : Hid (sameT t u = true) := by show _ = _; rw [HS2.out]; exact sameL_all H3.out (fun j h h' => HA.out j h h' (by omega))
          go_wp2_with fail
          go_ret
          exact ⟨rtB HT.out.symm, hbr⟩
    · have HF : Hid (sameT t u = false) := by
        show _ = _
        rw [HS.out]
        by_cases h1 : t.f = u.f <;> by_cases h2 : t.v = u.v <;> by_cases h3 : ks.length = us.length <;> simp [h1, h2, h3] <;> exact absurd ⟨h1, h2, h3⟩ hf
      have hq : (t.f != u.f) = true ∨ ((t.f != u.f) = false ∧ (t.v != u.v) = true) ∨ ((t.f != u.f) = false ∧ (t.v != u.v) = false ∧ ((ks.length : Int) != (us.length : Int)) = true) := by
        by_cases h1 : t.f = u.f <;> by_cases h2 : t.v = u.v <;> simp [h1, h2]
        intro h3
        exact hf ⟨h1, h2, by omega⟩
      clear hr hr' HS hf
      rcases hq with q1 | ⟨q1, q2⟩ | ⟨q1, q2, q3⟩
      all_goals
        go_enter Tryz.func77, Tryz.ntmps77
        go_wp2_with fail
        go_ret
        exact ⟨rtB HF.out.symm, hB _ _⟩
end Go.Proofs.YtollijngiioonaaGreat

