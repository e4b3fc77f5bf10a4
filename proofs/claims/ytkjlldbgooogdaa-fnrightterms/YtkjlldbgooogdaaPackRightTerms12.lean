/- What the proof of FnRightTerms stands on, part 12 of 12: each piece says what it proves and under which conditions. Conditions: as each piece says. -/
import Derived.Test.YtkjlldbgooogdaaPackRightTerms11
import Derived.Deep.LoopGhost
/- One form of a term, as the program makes it. Conditions: terms of at most 4194303 parts. -/
namespace Go.Proofs.Ytkjlldbgooogdaa
set_option maxRecDepth 100000
open Go.RowKit

/-- Parts of what is made. -/
def bulkP (l : List FD) : Nat := (l.map fun x => 1 + partsL x.left + partsL x.made).sum
theorem bulkP_add (A : List TermD) : ∀ l, bulkP (addHome A l) ≤ bulkP l + partsL A
  | [] => by simp [addHome, bulkP]
  | x :: r => by
    have ih := bulkP_add A r
    unfold bulkP at *
    rw [addHome]
    split
    · simp only [List.map_cons, List.sum_cons, partsL_append]; omega
    · simp only [List.map_cons, List.sum_cons]; omega
theorem bulkP_len (l : List FD) : l.length ≤ bulkP l := by
  induction l with
  | nil => simp
  | cons x r ih => unfold bulkP at *; simp only [List.length_cons, List.map_cons, List.sum_cons]; omega
theorem bulkP_cons (x : FD) (r : List FD) : bulkP (x :: r) = 1 + partsL x.left + partsL x.made + bulkP r := by simp [bulkP]
theorem todo_cons (x : FD) (r : List FD) : todo (x :: r) = 1 + 2 * partsL x.left + todo r := by simp [todo]
theorem bulkP_mem {x : FD} {l : List FD} (h : x ∈ l) : partsL x.left + partsL x.made < bulkP l := by
  induction l with
  | nil => simp at h
  | cons y r ih =>
    rw [bulkP_cons]
    rcases List.mem_cons.1 h with rfl | h
    · omega
    · have := ih h; omega
theorem sortT_parts (l : List TermD) : partsL (sortT l) = partsL l := by unfold sortT; rw [foldP_parts]; simp [partsL]
theorem close_parts (bl : Int → Bool) (f v : Int) (m : List TermD) : partsT (closeT bl f v m) = partsL m + 1 := by
  unfold closeT
  rw [partsT]
  split <;> simp [sortT_parts]

/-- A term that is closed. -/
theorem closed_any (sa : Option Addr) (ss : List SymD) (sc n0 B h : Nat) (x : FM) (w : World) (hs : RdS w sa ss) (M : MR n0 B x w) (hp : partsL (x.L.map FE.t) ≤ 4194304) :
    Calls Try.prog 39 #[.agg #[.int .i64 x.t.f, .int .i64 x.t.v, .slice x.a x.t.kids.length x.c, .slice x.al x.left.length x.cl, .slice x.am x.L.length x.cm, .int .i64 h], .slice sa ss.length sc] w fun e w' => ∃ T : TermD, T = closeT (blindAt ss) x.t.f x.t.v (x.L.map FE.t) ∧ e = .returned (.agg #[.int .i64 T.f, .int .i64 T.v, .slice x.am T.kids.length T.kids.length]) ∧ OwnS w' x.S x.am T.kids ∧ Stay (fun k => k < w.heap.size ∧ ¬ x.S k) w w' := by
  have hl : x.L.length ≤ 4194304 := by have := partsL_len (x.L.map FE.t); simp at this; omega
  have hpe : ∀ e ∈ x.L, partsT e.t ≤ 4194304 := fun e he => by have := parts_kid (List.mem_map_of_mem (f := FE.t) he); omega
  cases hbl : blindAt ss x.t.f with
  | false =>
    refine (closed_plain sa ss sc n0 B h x w hs M hl hbl).mono ?_
    rintro e w' ⟨rfl, ho, hst⟩
    have hT : closeT (blindAt ss) x.t.f x.t.v (x.L.map FE.t) = .mk x.t.f x.t.v (x.L.map FE.t) := by unfold closeT; rw [if_neg (by rw [hbl]; simp)]
    refine ⟨_, hT.symm, ?_, ho, hst⟩
    show _ = Ending.returned (Value.agg #[.int .i64 x.t.f, .int .i64 x.t.v, .slice x.am (x.L.map FE.t).length (x.L.map FE.t).length])
    rw [List.length_map]
  | true =>
    have hlen : (sortT (x.L.map FE.t)).length = x.L.length := by have := (sortT_perm (x.L.map FE.t)).length_eq; simpa using this
    refine (closed_blind sa ss sc n0 B h x w hs M hl hpe hbl).mono ?_
    rintro e w' ⟨rfl, ho, hst⟩
    have hT : closeT (blindAt ss) x.t.f x.t.v (x.L.map FE.t) = .mk x.t.f x.t.v (sortT (x.L.map FE.t)) := by unfold closeT; rw [if_pos hbl]
    refine ⟨_, hT.symm, ?_, ho, hst⟩
    show _ = Ending.returned (Value.agg #[.int .i64 x.t.f, .int .i64 x.t.v, .slice x.am (sortT (x.L.map FE.t)).length (sortT (x.L.map FE.t)).length])
    rw [hlen]
theorem NSt.keep {n0 B : Nat} {F : List FM} {v : Value} {wr wr' : World} {S : Nat → Prop} (h : NSt n0 B F v wr) (hs : Stay S wr wr') (hn : ∀ k, k < n0 → S k) (hx : ∀ x ∈ F, ∀ k, x.S k → S k) (hv : ∀ g, v.ownBlock = some g → S g) : NSt n0 B F v wr' :=
  ⟨own_stay h.row hs hv, h.frames hs hn hx, h.dis, h.vb, Nat.le_trans h.z hs.size, h.n⟩

/-- The call's own boxes: the answer's place. -/
structure NB (w wr : World) : Prop where
  be : Below w.heap.size w wr
  c0 : wr.cell? ⟨w.heap.size + 1, 0, none⟩ = some (.int .i64 0)
  c1 : wr.cell? ⟨w.heap.size + 1, 1, none⟩ = some (.int .i64 0)
  c2 : wr.cell? ⟨w.heap.size + 1, 2, none⟩ = some (.slice none 0 0)
  cf : ∀ j, wr.frozen? ⟨w.heap.size + 1, j, none⟩ = false
  z : w.heap.size + 1 + 1 ≤ wr.heap.size
theorem NB.stay {w wr wr' : World} (h : NB w wr) (hs : Stay (fun k => k < w.heap.size + 1 + 1) wr wr') : NB w wr' := by
  have hz := h.z
  exact ⟨h.be.trans (hs.below h.be.size (fun k hk => by omega)), hs.cell h.c0 (by simp only; omega), hs.cell h.c1 (by simp only; omega), hs.cell h.c2 (by simp only; omega), fun j => (hs.frozen (p := ⟨w.heap.size + 1, j, none⟩) (by simp only; omega) (by simp only; omega)).trans (h.cf j), Nat.le_trans hz hs.size⟩
theorem NB.on {w wr wr' : World} (h : NB w wr) (hb : Below wr.heap.size wr wr') : NB w wr' := h.stay (.of_below hb (fun _ hk _ => hk))

/-- The outermost one is its own home. -/
def botH : List FM → Prop
  | [] => False
  | x :: r => (r = [] ∧ x.hm = true) ∨ botH r
theorem botH_has : ∀ {F : List FM}, botH F → hasHome F
  | [], h => h
  | _ :: _, h => h.elim (fun q => .inl q.2) (fun q => .inr (botH_has q))
theorem botH_rest {x : FM} {r : List FM} (h : botH (x :: r)) (hr : r ≠ []) : botH r := h.resolve_left (fun q => hr q.1)
theorem botH_put (e : FE) (am : Option Addr) (cm : Nat) : ∀ {F : List FM}, botH F → botH (putHome e am cm F)
  | [], h => h
  | x :: r, h => by
    unfold putHome
    split
    · rename_i hx; exact h.imp (fun q => ⟨q.1, hx⟩) id
    · rename_i hx
      refine .inr (botH_put e am cm (h.resolve_left (fun q => hx q.2)))

/-- What holds between two rounds. -/
structure NI (w : World) (bl : Int → Bool) (t : TermD) (N m : Nat) (F : List FM) (g cv : Nat) (wr : World) : Prop where
  st : NSt w.heap.size (w.heap.size + 1 + 1) F (.slice (some ⟨g, 0, none⟩) F.length cv) wr
  hh : botH F
  md : todo (F.map FM.d) ≤ m
  bk : bulkP (F.map FM.d) ≤ N
  fin : finS bl (F.map FM.d) = normT bl t
  nb : NB w wr
namespace NI
variable {w : World} {bl : Int → Bool} {t : TermD} {N m g cv : Nat} {x : FM} {r : List FM} {wr wr' : World}
theorem drop (h : NI w bl t N m (x :: r) g cv wr) (hl : x.left = []) (hx : x.hm = false) (hb : Below wr.heap.size wr wr') : NI w bl t N (m - 1) r g cv wr' ∧ 1 ≤ m := by
  have h1 := h.md
  have h2 := h.bk
  have h3 := h.fin
  rw [List.map_cons] at h1 h2 h3
  rw [todo_cons] at h1
  rw [bulkP_cons] at h2
  rw [fin_drop (show x.d.left = [] from hl) (show x.d.home = false from hx)] at h3
  exact ⟨⟨h.st.pop.on hb, h.hh.resolve_left (fun q => by rw [hx] at q; simp at q), by omega, by omega, h3, h.nb.on hb⟩, by omega⟩
theorem opn {k : TermD} {ks : List TermD} {ak al : Option Addr} {ck cl g' cv' : Nat} (h : NI w bl t N m (x :: r) g cv wr) (hl : x.left = k :: ks) (hst : NSt w.heap.size (w.heap.size + 1 + 1) (Go.Proofs.Ytkjlldbgooogdaa.opn k ak ck (isHome bl k ({ x with left := ks, al := al, cl := cl } :: r)) :: { x with left := ks, al := al, cl := cl } :: r) (.slice (some ⟨g', 0, none⟩) (r.length + 1 + 1) cv') wr') (hn : NB w wr') :
    NI w bl t N (m - 1) (Go.Proofs.Ytkjlldbgooogdaa.opn k ak ck (isHome bl k ({ x with left := ks, al := al, cl := cl } :: r)) :: { x with left := ks, al := al, cl := cl } :: r) g' cv' wr' ∧ 1 ≤ m := by
  have h1 := h.md
  have h2 := h.bk
  have h3 := h.fin
  rw [List.map_cons] at h1 h2 h3
  rw [todo_cons] at h1
  rw [bulkP_cons] at h2
  have hk := partsT_eq k
  have e1 : x.d.left = k :: ks := hl
  rw [e1, partsL] at h1 h2
  refine ⟨⟨hst, ?_, ?_, ?_, ?_, hn⟩, by omega⟩
  · exact .inr (h.hh.imp (fun q => ⟨q.1, q.2⟩) id)
  · rw [List.map_cons, List.map_cons, todo_cons, todo_cons]
    show 1 + 2 * partsL k.kids + (1 + 2 * partsL ks + _) ≤ _
    omega
  · rw [List.map_cons, List.map_cons, bulkP_cons, bulkP_cons]
    show 1 + partsL k.kids + 0 + (1 + partsL ks + partsL (x.L.map FE.t) + _) ≤ _
    have : x.d.made = x.L.map FE.t := rfl
    rw [this] at h2
    omega
  · rw [← h3, ← fin_open (x := x.d) (r := r.map FM.d) (m := []) hl rfl]
    rfl
theorem close {T : TermD} {e : FE} {am : Option Addr} {cm : Nat} (h : NI w bl t N m (x :: r) g cv wr) (hl : x.left = []) (hx : x.hm = true) (hr : r ≠ []) (hT : T = closeT bl x.t.f x.t.v (x.L.map FE.t)) (he : e.t = T) (hst : NSt w.heap.size (w.heap.size + 1 + 1) (putHome e am cm r) (.slice (some ⟨g, 0, none⟩) r.length cv) wr') (hn : NB w wr') :
    NI w bl t N (m - 1) (putHome e am cm r) g cv wr' ∧ 1 ≤ m := by
  have h1 := h.md
  have h2 := h.bk
  have h3 := h.fin
  rw [List.map_cons] at h1 h2 h3
  rw [todo_cons] at h1
  rw [bulkP_cons] at h2
  rw [fin_close (show x.d.left = [] from hl) (show x.d.home = true from hx) (by simpa using hr)] at h3
  have e1 : closeT bl x.d.f x.d.v x.d.made = e.t := by rw [he, hT]; rfl
  rw [e1] at h3
  have hp := close_parts bl x.t.f x.t.v (x.L.map FE.t)
  rw [← hT, ← he] at hp
  have hb := bulkP_add [e.t] (r.map FM.d)
  have ht := todo_add [e.t] (r.map FM.d)
  have e2 : x.d.made = x.L.map FE.t := rfl
  rw [e2] at h2
  simp only [partsL] at hb
  exact ⟨⟨by rw [putHome_len]; exact hst, botH_put _ _ _ (botH_rest h.hh hr), by rw [putHome_d]; omega, by rw [putHome_d]; omega, by rw [putHome_d]; exact h3, hn⟩, by omega⟩
theorem len (h : NI w bl t N m (x :: r) g cv wr) : r.length < N := by
  have := bulkP_len ((x :: r).map FM.d)
  have := h.bk
  simp at *
  omega
theorem made (h : NI w bl t N m (x :: r) g cv wr) : ∀ y ∈ x :: r, partsL (y.L.map FE.t) < N := fun y hy => by
  have h1 := bulkP_mem (List.mem_map_of_mem (f := FM.d) hy)
  have h2 := h.bk
  have e2 : y.d.made = y.L.map FE.t := rfl
  rw [e2] at h1
  omega
theorem lefts (h : NI w bl t N m (x :: r) g cv wr) : x.left.length < N := by
  have h1 := bulkP_mem (List.mem_map_of_mem (f := FM.d) (List.mem_cons_self (a := x) (l := r)))
  have h2 := h.bk
  have h3 := partsL_len x.left
  have e2 : x.d.left = x.left := rfl
  rw [e2] at h1
  omega
end NI
end Go.Proofs.Ytkjlldbgooogdaa

/- One form of a term, as the program makes it: the walk. Conditions: terms of at most 4194304 parts. -/
namespace Go.Proofs.Ytkjlldbgooogdaa
set_option maxRecDepth 100000
open Go.RowKit

set_option maxHeartbeats 6400000 in
set_option maxRecDepth 100000 in
theorem impNorm_any (sa : Option Addr) (ss : List SymD) (sc : Nat) (t : TermD) (a : Option Addr) (c hi : Nat) (w : World) (hs : RdS w sa ss) (hp : partsT t ≤ 4194304) (hr : RdK w hi a t.kids) (hhi : hi ≤ w.heap.size) (hc : t.kids.length ≤ c) (hwf : isW t.f ∧ isW t.v) :
    Calls Try.prog 9 #[.slice sa ss.length sc, .agg #[.int .i64 t.f, .int .i64 t.v, .slice a t.kids.length c]] w fun e w' => ∃ a' c', e = .returned (.agg #[.int .i64 t.f, .int .i64 t.v, .slice a' (normT (blindAt ss) t).kids.length c']) ∧ OwnS w' (fun k => w.heap.size ≤ k ∧ k < w'.heap.size) a' (normT (blindAt ss) t).kids ∧ (normT (blindAt ss) t).kids.length ≤ c' ∧ Below w.heap.size w w' := by
  obtain ⟨W, hW⟩ : ∃ W, W = (w.alloc (.cells #[.int .i64 t.f, .int .i64 t.v, .slice a t.kids.length c] 27)).alloc (.cells #[.int .i64 0, .int .i64 0, .slice none 0 0] 27) := ⟨_, rfl⟩
  have hb0 : Below w.heap.size w W := by rw [hW]; exact ((Below.refl _ _).alloc (Nat.le_refl _) _).alloc (by simp) _
  have hz0 : W.heap.size = w.heap.size + 1 + 1 := by rw [hW]; simp
  have nb0 : NB w W := ⟨hb0, by rw [hW]; simp [go_sem], by rw [hW]; simp [go_sem], by rw [hW]; simp [go_sem], fun j => by rw [hW]; simp [go_sem], by omega⟩
  have CO := opened_any sa ss sc w.heap.size (w.heap.size + 1 + 1) [] none 0 t a c W (hs.below hb0) (.start (by omega) (by omega)) (by simp) ((hr.mono hhi).on hb0) hc hwf
  have HS : Hid (∀ W', Below w.heap.size w W' → RdS W' sa ss) := fun W' h => hs.below h
  have HR : Hid (∀ (f v : Int), (normT (blindAt ss) t).f = t.f ∧ (normT (blindAt ss) t).v = t.v) := fun _ _ => by rw [normT_eq]; exact ⟨rfl, rfl⟩
  have hpt := partsT_eq t
  clear hs hr hhi
  simp only [List.length_nil, Nat.zero_add] at CO
  go_enter Try.func9, Try.ntmps9
  go_wp2_with (go_at_call 37; rw [← hW]; refine CO.mono ?_; rintro e w1 ⟨g1, c1, rfl, st1, sy1⟩; clear CO hW)
  have I1 : NI w (blindAt ss) t (partsT t) (1 + 2 * partsL t.kids) [opn t a c (isHome (blindAt ss) t [])] g1 c1 w1 := ⟨st1, .inl ⟨rfl, rfl⟩, by simp [todo, FM.d, opn], by simp [bulkP, FM.d, opn, partsL]; omega, by
    have := fin_start (bl := blindAt ss) t
    exact this, nb0.stay sy1⟩
  clear st1 sy1 nb0 hb0 hz0 hc hwf
  go_loopg [5] (1 + 2 * partsL t.kids) (fun k s5 wr => ∃ (F : List FM) (g cv : Nat), s5 = .slice (some ⟨g, 0, none⟩) F.length cv ∧ NI w (blindAt ss) t (partsT t) k F g cv wr)
  case atStart => exact ⟨_, g1, c1, rfl, I1⟩
  case round =>
    obtain ⟨F, g, cv, rfl, I⟩ := hrel
    clear I1
    cases F with
    | nil => exact I.hh.elim
    | cons x r =>
      simp only [List.length_cons]
      have hlen := I.len
      have hmade := I.made
      have hlf := I.lefts
      have hgl := (I.st.row.lt g rfl)
      have hcv : r.length + 1 ≤ cv := by obtain ⟨_, _, e, hh⟩ := own_form I.st.row; rw [(Value.slice.inj e).2.2]; exact hh
      have hcvz : (r.length : Int) ≤ (cv : Int) := by omega
      obtain ⟨q0, q1, q2, q3, q4, q5⟩ := top_cells I.st
      cases hxl : x.left with
      | nil =>
        have CT := takeKid_none _ _ x r g cv wr I.st (by omega) hxl
        cases hxh : x.hm with
        | false =>
          have hrh : hasHome r := botH_has (I.hh.resolve_left (fun q => by rw [hxh] at q; simp at q))
          have hix := home_lt hrh
          have e5 : homeIx (x :: r) = homeIx r := by simp [homeIx, hxh]
          rw [e5] at q5
          have hixz : ((homeIx r : Nat) : Int) < (r.length : Int) := by omega
          generalize homeIx r = ix at *
          have HI : Hid _ := I
          have HX : Hid (x.left = [] ∧ x.hm = false) := ⟨hxl, hxh⟩
          rw [hxl] at q3
          clear I hmade hlf hxl hxh e5 hrh
          go_wp2_with (go_at_call 38; refine CT.mono ?_; rintro e w2 ⟨rfl, hb2⟩; clear CT; have k0 := keepC hb2 q0; have k1 := keepC hb2 q1; have k2 := keepC hb2 q2; have k3 := keepC hb2 q3; have k4 := keepC hb2 q4; have k5 := keepC hb2 q5; have hg2 := Nat.lt_of_lt_of_le hgl.2 hb2.size; clear q0 q1 q2 q3 q4 q5)
          have hbF : ∀ o1 o2, Below wr.heap.size wr ((w2.alloc o1).alloc o2) := fun o1 o2 => (hb2.alloc hb2.size o1).alloc (by have := hb2.size; simp; omega) o2
          obtain ⟨D1, D2⟩ := HI.out.drop HX.out.1 HX.out.2 (hbF _ _)
          go_roundg (gk - 1)
          case measure => omega
          case rel => exact ⟨r, g, cv, rfl, D1⟩
        | true =>
          have e5 : homeIx (x :: r) = r.length := by simp [homeIx, hxh]
          rw [e5] at q5
          rw [hxl] at q3
          simp only [List.length_nil] at q3
          have hxS : ∀ k, x.S k → w.heap.size + 1 + 1 ≤ k ∧ k < wr.heap.size := fun k hk => (I.st.fr x (by simp)).lt k hk
          have hwfx := (I.st.fr x (by simp)).wf
          have CC : ∀ W', Below wr.heap.size wr W' → Calls Try.prog 39 #[.agg #[.int .i64 x.t.f, .int .i64 x.t.v, .slice x.a x.t.kids.length x.c, .slice x.al 0 x.cl, .slice x.am x.L.length x.cm, .int .i64 (r.length : Nat)], .slice sa ss.length sc] W' fun e w' => ∃ T : TermD, T = closeT (blindAt ss) x.t.f x.t.v (x.L.map FE.t) ∧ e = .returned (.agg #[.int .i64 T.f, .int .i64 T.v, .slice x.am T.kids.length T.kids.length]) ∧ OwnS w' x.S x.am T.kids ∧ Stay (fun k => k < W'.heap.size ∧ ¬ x.S k) W' w' := fun W' hb => by
            have := closed_any sa ss sc _ _ r.length x W' (HS.out W' (I.nb.be.trans (hb.mono I.nb.be.size))) ((I.st.on hb).fr x (by simp)) (by have := hmade x (by simp); omega)
            rw [hxl] at this
            exact this
          have CN : ∀ W' w4, Below wr.heap.size wr W' → Stay (fun k => k < W'.heap.size ∧ ¬ x.S k) W' w4 → NB w w4 := fun W' w4 hb hs => (I.nb.on hb).stay (hs.weak (fun k hk hk2 => ⟨hk, fun q => by have := hxS k q; omega⟩))
          cases r with
          | nil =>
            have hfin := I.fin
            rw [List.map_cons, List.map_nil, fin_end (show x.d.left = [] from hxl) (show x.d.home = true from hxh)] at hfin
            have HF : Hid (closeT (blindAt ss) x.t.f x.t.v (x.L.map FE.t) = normT (blindAt ss) t) := hfin
            have HX : Hid (∀ k, x.S k → w.heap.size + 1 + 1 ≤ k ∧ k < wr.heap.size) := hxS
            clear I hmade hlf hxl hxh e5 hfin hxS
            simp only [List.length_nil] at *
            go_wp2_with (first
              | (go_at_call 38; refine CT.mono ?_; rintro e w2 ⟨rfl, hb2⟩; clear CT; have k0 := keepC hb2 q0; have k1 := keepC hb2 q1; have k2 := keepC hb2 q2; have k3 := keepC hb2 q3; have k4 := keepC hb2 q4; have k5 := keepC hb2 q5; have hg2 := Nat.lt_of_lt_of_le hgl.2 hb2.size; have hb3 : Below wr.heap.size wr ((w2.alloc (.cells #[.int .i64 0, .int .i64 0, .slice none 0 0] 27)).alloc (.cells #[.int .i64 x.t.f, .int .i64 x.t.v, .slice x.a x.t.kids.length x.c, .slice x.al 0 x.cl, .slice x.am x.L.length x.cm, .int .i64 0] 59)) := ((hb2.alloc hb2.size _).alloc (by have := hb2.size; simp; omega) _); clear q0 q1 q2 q3 q4 q5)
              | (go_at_call 39; refine (CC _ hb3).mono ?_; rintro e w4 ⟨TT, hTT, rfl, ho4, hs4⟩; have HT : Hid (TT = closeT (blindAt ss) x.t.f x.t.v (x.L.map FE.t)) := hTT; clear hTT; have nb4 := CN _ _ hb3 hs4; have d0 := nb4.c0; have d1 := nb4.c1; have d2 := nb4.c2; have df := nb4.cf; have hz4 : w.heap.size + 1 < w4.heap.size := nb4.z; clear k0 k1 k2 k3 k4 k5))
            obtain ⟨z0, z1, z2⟩ := set3_cells (u := w4) (r := w.heap.size + 1) (x := .int .i64 TT.f) (y := .int .i64 TT.v) (z := .slice x.am TT.kids.length TT.kids.length) d0 d1 d2
            have hTn : TT = normT (blindAt ss) t := HT.out.trans HF.out
            have hnS : ∀ j, ¬ x.S (⟨w.heap.size + 1, j, none⟩ : Addr).block := fun j q => by have := (HX.out _ q).1; simp only at this; omega
            have hoF := ((ho4.setCell ⟨w.heap.size + 1, 0, none⟩ (hnS 0) (.int .i64 TT.f)).setCell ⟨w.heap.size + 1, 1, none⟩ (hnS 1) (.int .i64 TT.v)).setCell ⟨w.heap.size + 1, 2, none⟩ (hnS 2) (.slice x.am TT.kids.length TT.kids.length)
            have hbF := ((nb4.be.setCell (p := ⟨w.heap.size + 1, 0, none⟩) (by simp) (.int .i64 TT.f)).setCell (p := ⟨w.heap.size + 1, 1, none⟩) (by simp) (.int .i64 TT.v)).setCell (p := ⟨w.heap.size + 1, 2, none⟩) (by simp) (.slice x.am TT.kids.length TT.kids.length)
            obtain ⟨W5, hW5⟩ : ∃ W5, W5 = ((w4.setCell ⟨w.heap.size + 1, 0, none⟩ (.int .i64 TT.f)).setCell ⟨w.heap.size + 1, 1, none⟩ (.int .i64 TT.v)).setCell ⟨w.heap.size + 1, 2, none⟩ (.slice x.am TT.kids.length TT.kids.length) := ⟨_, rfl⟩
            rw [← hW5] at z0 z1 z2 hoF hbF ⊢
            have hz5 : W5.heap.size = w4.heap.size := by rw [hW5]; simp
            have hb6 : Below W5.heap.size W5 (W5.alloc (.cells #[.int .i64 TT.f, .int .i64 TT.v, .slice x.am TT.kids.length TT.kids.length] 27)) := (Below.refl _ _).alloc (Nat.le_refl _) _
            have y0 := keepC hb6 z0
            have y1 := keepC hb6 z1
            have y2 := keepC hb6 z2
            have hlt : ∀ k, x.S k → w.heap.size ≤ k ∧ k < W5.heap.size := fun k hk => by have := HX.out k hk; have := hb3.size; have := hs4.size; omega
            obtain ⟨e1, e2⟩ := HR.out 0 0
            rw [← hTn] at e1 e2 ⊢
            rw [← e1, ← e2]
            refine bodyPost_ret (v := .agg #[.int .i64 TT.f, .int .i64 TT.v, .slice x.am TT.kids.length TT.kids.length]) (by simp [results, Try.results9, go_sem, y0, y1, y2]) rfl ⟨x.am, TT.kids.length, rfl, ?_, Nat.le_refl _, hbF.trans (hb6.mono hbF.size)⟩
            exact (hoF.frame (fun k hk => hb6.block k (hlt k hk).2) hb6.size).mono (fun k hk => ⟨(hlt k hk).1, Nat.lt_of_lt_of_le (hlt k hk).2 hb6.size⟩)
          | cons y r' =>
            have hrh : hasHome (y :: r') := botH_has (botH_rest I.hh (by simp))
            have hdis := (List.pairwise_cons.1 I.st.dis).1
            have hgx := I.st.vb g rfl x (by simp)
            have CP : ∀ W' w4 (TT : TermD), Below wr.heap.size wr W' → OwnS w4 x.S x.am TT.kids → Stay (fun k => k < W'.heap.size ∧ ¬ x.S k) W' w4 → Hid (TT = closeT (blindAt ss) x.t.f x.t.v (x.L.map FE.t)) → ∀ w5, Below w4.heap.size w4 w5 →
                Calls Try.prog 40 #[.slice (some ⟨g, 0, none⟩) (r'.length + 1) cv, .agg #[.int .i64 TT.f, .int .i64 TT.v, .slice x.am TT.kids.length TT.kids.length]] w5 fun e w6 => e = .returned (.tuple #[]) ∧ ∃ F', F'.length = r'.length + 1 ∧ NI w (blindAt ss) t (partsT t) (gk - 1) F' g cv w6 ∧ 1 ≤ gk := fun W' w4 TT hb ho hs hT w5 hb5 => by
              have hS := fun k hk => (I.st.fr x (by simp)).lt k hk
              have st1 := (I.st.on hb).pop.keep (S := fun k => k < W'.heap.size ∧ ¬ x.S k) hs (fun k hk => ⟨by have := I.nb.z; have := hb.size; omega, fun q => by have := (hS k q).1; omega⟩) (fun z hz k hk => ⟨(((I.st.on hb).fr z (List.mem_cons_of_mem _ hz)).lt k hk).2, fun q => hdis z hz k q hk⟩) (fun g' hg' => by
                have e0 : g = g' := by simpa [Value.ownBlock] using hg'
                subst e0
                exact ⟨Nat.lt_of_lt_of_le hgl.2 hb.size, hgx⟩)
              have st2 := st1.on hb5
              have nb5 := (CN W' w4 hb hs).on hb5
              have eT : TT.f = x.t.f ∧ TT.v = x.t.v := by rw [hT.out]; exact ⟨rfl, rfl⟩
              have hP := put_any w.heap.size (w.heap.size + 1 + 1) (y :: r') g cv ⟨TT, x.am, TT.kids.length, x.S⟩ w5 st2 hrh (by omega) ⟨ho.frame (fun k hk => hb5.block k (by have := (hS k hk).2; have := hb.size; have := hs.size; omega)) hb5.size, Nat.le_refl _, by rw [eT.1, eT.2]; exact hwfx, fun k hk => ⟨(hS k hk).1, by have := (hS k hk).2; have := hb.size; have := hs.size; have := hb5.size; omega⟩⟩ (fun z hz k hk => hdis z hz k hk) hgx (by
                have h1 := hmade _ (List.mem_cons_of_mem x (home_mem hrh))
                have h2 := partsL_len ((homeFr (y :: r')).L.map FE.t)
                simp at h2
                omega)
              refine hP.mono ?_
              rintro e w6 ⟨g2, c2, rfl, st3, sy3⟩
              obtain ⟨C1, C2⟩ := I.close hxl hxh (by simp) hT.out (e := ⟨TT, x.am, TT.kids.length, x.S⟩) rfl st3 (nb5.stay sy3)
              exact ⟨rfl, _, by rw [putHome_len]; simp, C1, C2⟩
            simp only [List.length_cons] at *
            clear I hmade hlf hxl hxh e5 hxS hdis hgx hrh HR
            go_wp2_with (first
              | (go_at_call 38; refine CT.mono ?_; rintro e w2 ⟨rfl, hb2⟩; clear CT; have k0 := keepC hb2 q0; have k1 := keepC hb2 q1; have k2 := keepC hb2 q2; have k3 := keepC hb2 q3; have k4 := keepC hb2 q4; have k5 := keepC hb2 q5; have hg2 := Nat.lt_of_lt_of_le hgl.2 hb2.size; have hb3 : Below wr.heap.size wr ((w2.alloc (.cells #[.int .i64 0, .int .i64 0, .slice none 0 0] 27)).alloc (.cells #[.int .i64 x.t.f, .int .i64 x.t.v, .slice x.a x.t.kids.length x.c, .slice x.al 0 x.cl, .slice x.am x.L.length x.cm, .int .i64 ((r'.length + 1 : Nat) : Int)] 59)) := ((hb2.alloc hb2.size _).alloc (by have := hb2.size; simp; omega) _); clear q0 q1 q2 q3 q4 q5)
              | (go_at_call 39; refine (CC _ hb3).mono ?_; rintro e w4 ⟨TT, hTT, rfl, ho4, hs4⟩; have HT : Hid (TT = closeT (blindAt ss) x.t.f x.t.v (x.L.map FE.t)) := hTT; clear hTT; have nb4 := CN _ _ hb3 hs4; have P5 := CP _ _ TT hb3 ho4 hs4 HT; clear k0 k1 k2 k3 k4 k5)
              | (go_at_call 40; refine (P5 _ ((Below.refl _ _).alloc (Nat.le_refl _) _)).mono ?_; rintro e w6 ⟨rfl, F', hF', J, hgk⟩))
            go_roundg (gk - 1)
            case measure => omega
            case rel => exact ⟨F', g, cv, by rw [hF'], J⟩
      | cons k ks =>
        have CT := takeKid_some _ _ x r g cv k ks wr I.st (by omega) hxl (by rw [hxl] at hlf; simp at hlf; omega)
        have CO : ∀ (ak : Option Addr) (ck : Nat) (al : Option Addr) (cl : Nat) w2, NSt w.heap.size (w.heap.size + 1 + 1) ({ x with left := ks, al := al, cl := cl } :: r) (.slice (some ⟨g, 0, none⟩) (r.length + 1) cv) w2 → RdK w2 w.heap.size ak k.kids → k.kids.length ≤ ck → (isW k.f ∧ isW k.v) → Stay (fun k => k < w.heap.size + 1 + 1) wr w2 → ∀ w3, Below w2.heap.size w2 w3 →
            Calls Try.prog 37 #[.slice (some ⟨g, 0, none⟩) (r.length + 1) cv, .slice sa ss.length sc, .agg #[.int .i64 k.f, .int .i64 k.v, .slice ak k.kids.length ck]] w3 fun e w4 => ∃ g' cv', e = .returned (.slice (some ⟨g', 0, none⟩) (r.length + 1 + 1) cv') ∧ ∃ F', F'.length = r.length + 1 + 1 ∧ NI w (blindAt ss) t (partsT t) (gk - 1) F' g' cv' w4 ∧ 1 ≤ gk := fun ak ck al cl w2 st hrk hck hwk hsy w3 hb3 => by
          have nb3 := (I.nb.stay hsy).on hb3
          refine (opened_any sa ss sc w.heap.size (w.heap.size + 1 + 1) ({ x with left := ks, al := al, cl := cl } :: r) (some ⟨g, 0, none⟩) cv k ak ck w3 (HS.out w3 nb3.be) (st.on hb3) (by simp; omega) (hrk.on (hb3.mono (by have := (I.nb.stay hsy).z; omega))) hck hwk).mono ?_
          rintro e w4 ⟨g', cv', rfl, st4, sy4⟩
          obtain ⟨C1, C2⟩ := I.opn hxl st4 (nb3.stay sy4)
          exact ⟨g', cv', rfl, _, by simp, C1, C2⟩
        clear I hmade hlf hxl q0 q1 q2 q3 q4 q5 HR
        go_wp2_with (first
          | (go_at_call 38; refine CT.mono ?_; rintro e w2 ⟨ak, ck, al, cl, rfl, st2, hrk2, hck2, hwk2, hsy2⟩; clear CT; have CO2 := CO ak ck al cl w2 st2 hrk2 hck2 hwk2 hsy2; clear CO st2 hrk2 hwk2 hsy2)
          | (go_at_call 37; refine (CO2 _ ((Below.refl _ _).alloc (Nat.le_refl _) _)).mono ?_; rintro e w4 ⟨g', cv', rfl, F', hF', J, hgk⟩))
        go_roundg (gk - 1)
        case measure => omega
        case rel => exact ⟨F', g', cv', by rw [hF'], J⟩
end Go.Proofs.Ytkjlldbgooogdaa

