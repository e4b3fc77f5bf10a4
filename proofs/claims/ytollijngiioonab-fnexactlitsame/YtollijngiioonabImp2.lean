/- How the program holds two terms against each other. Conditions: terms of at most 549755813888 parts. -/
import Derived.Test.YtollijngiioonabImp1
import Derived.Test.YtollijngiioonabTail
namespace Go.Proofs.Ytollijngiioonab
set_option maxRecDepth 100000
open Go.RowKit

theorem info99 : (Try.prog.info? 65).map (fun i => (i.zero, i.size, i.bytes)) = some (some (.agg #[.slice none 0 0, .slice none 0 0]), 2, 48) := by kernel_rfl

theorem far2 (w : World) {g j j' : Nat} {v v' : Value} {p : Addr} (h : p.block ≠ g) : ((w.setCell ⟨g, j, none⟩ v).setCell ⟨g, j', none⟩ v').drew.cell? p = w.cell? p := by
  show World.cell? ((w.setCell ⟨g, j, none⟩ v).setCell ⟨g, j', none⟩ v') p = _
  refine World.cell?_of_block ?_
  rw [Below.heap_setCell _ _ _ _ h, Below.heap_setCell _ _ _ _ h]

/-- The stack as it is laid at first. -/
theorem ord_start {t u : TermD} {a a' : Option Addr} {c c' hi : Nat} {w w1 w2 : World} {v : Value} {cap g : Nat} (hr : RdK w hi a t.kids) (hr' : RdK w hi a' u.kids) (hle : t.kids.length ≤ c) (hle' : u.kids.length ≤ c') (hhi : hi ≤ w.heap.size) (hb1 : Below w.heap.size w w1) (hg : g < w1.heap.size)
    (hown : w2.ownsRow w.heap.size 65 2 v (0 + 1) ([] ++ [.slice (some ⟨w1.heap.size, 0, none⟩) 1 1, .slice (some ⟨w1.heap.size + 1, 0, none⟩) 1 1]))
    (hgrow : (((w1.alloc (.cells #[.int .i64 t.f, .int .i64 t.v, .slice a t.kids.length c] 31)).alloc (.cells #[.int .i64 u.f, .int .i64 u.v, .slice a' u.kids.length c'] 31)).alloc (.cells #[.slice (some ⟨w1.heap.size, 0, none⟩) 1 1, .slice (some ⟨w1.heap.size + 1, 0, none⟩) 1 1] 65)).grownBy w2 (Value.slice (some ⟨g, 0, none⟩) 0 cap).ownBlock)
    (hbase : w.heap.size ≤ g) : ∃ E, OrdSt w w1.heap.size 65 31 (ordT t u) (2 * partsT t + 1) E v w2 := by
  have hx : w1.heap.size ≠ g ∧ w1.heap.size + 1 ≠ g := by omega
  have hs1 := hb1.size
  have hc : ∀ k, k < w1.heap.size + 3 → k ≠ g → w2.heap[k]? = ((((w1.alloc (.cells #[.int .i64 t.f, .int .i64 t.v, .slice a t.kids.length c] 31)).alloc (.cells #[.int .i64 u.f, .int .i64 u.v, .slice a' u.kids.length c'] 31)).alloc (.cells #[.slice (some ⟨w1.heap.size, 0, none⟩) 1 1, .slice (some ⟨w1.heap.size + 1, 0, none⟩) 1 1] 65)).heap[k]? : Option Obj) :=
    fun k hk hne => hgrow.block k (by simp; omega) (fun e => hne (by simpa [Value.ownBlock] using e))
  have b0 : w2.heap[w1.heap.size]? = some (.cells #[.int .i64 t.f, .int .i64 t.v, .slice a t.kids.length c] 31) := by
    rw [hc _ (by omega) hx.1, Below.heap_alloc _ _ _ (by simp; omega), Below.heap_alloc _ _ _ (by simp)]; exact World.alloc_heap_new _ _
  have b1 : w2.heap[w1.heap.size + 1]? = some (.cells #[.int .i64 u.f, .int .i64 u.v, .slice a' u.kids.length c'] 31) := by
    rw [hc _ (by omega) hx.2, Below.heap_alloc _ _ _ (by simp)]
    have := World.alloc_heap_new (w1.alloc (.cells #[.int .i64 t.f, .int .i64 t.v, .slice a t.kids.length c] 31)) (.cells #[.int .i64 u.f, .int .i64 u.v, .slice a' u.kids.length c'] 31)
    rwa [World.size_alloc] at this
  have hb2 : Below w.heap.size w w2 := by
    refine ((((hb1.alloc hs1 _).alloc (by simp; omega) _).alloc (by simp; omega) _).grown hgrow (by simp; omega) (fun k e => ?_))
    have : g = k := by simpa [Value.ownBlock] using e
    omega
  have cell : ∀ {b : Nat} {cs : Array Value} {T : Nat} (j : Nat), w2.heap[b]? = some (.cells cs T) → w2.cell? ⟨b, j, none⟩ = cs[j]? := fun j h => by simp [World.cell?, h]
  have hk : ∀ {b : Nat} {x : TermD} {y : Option Addr} {z : Nat}, Fx w.heap.size w1.heap.size b → w2.heap[b]? = some (.cells #[.int .i64 x.f, .int .i64 x.v, .slice y x.kids.length z] 31) → x.kids.length ≤ z → RdK w hi y x.kids → RdP w2 (Fx w.heap.size w1.heap.size) (some ⟨b, 0, none⟩) [x] := by
    intro b x y z hb h hz hr
    refine .row b 0 [x] (fun _ => y) (fun _ => z) hb (fun i hi => ?_) (fun i hi => ?_) (fun i hi => ?_)
    all_goals
      have e : i = 0 := by simp at hi; omega
      subst e
      simp only [List.getElem_cons_zero]
    · exact hz
    · refine ⟨?_, ?_, ?_⟩
      all_goals rw [cell _ h]; simp
    · exact (hr.on (hb2.mono hhi)).p (fun k hk => .inl (by omega))
  refine ⟨[⟨some ⟨w1.heap.size, 0, none⟩, 1, [t], some ⟨w1.heap.size + 1, 0, none⟩, 1, [u]⟩], hown, ⟨_, _, b0⟩, ⟨_, _, b1⟩, by decide, hs1, fun e he => ?_, ?_, ?_, hb2⟩
  · simp only [List.mem_singleton] at he
    subst he
    exact ⟨hk (.inr (.inl rfl)) b0 hle hr, hk (.inr (.inr rfl)) b1 hle' hr', Nat.le_refl _, Nat.le_refl _, rfl⟩
  · simp only [dataP, List.map_cons, List.map_nil, ordS, ordL_cons, ordL_nil]; by_cases e : ordT t u = 0 <;> simp [e]
  · simp [dataP, sizeS, partsL]

set_option maxHeartbeats 3200000 in
set_option maxRecDepth 100000 in
theorem termOrder_any (t u : TermD) (a a' : Option Addr) (c c' hi : Nat) (w : World) (hp : partsT t ≤ 549755813888) (hr : RdK w hi a t.kids) (hr' : RdK w hi a' u.kids) (hle : t.kids.length ≤ c) (hle' : u.kids.length ≤ c') (hhi : hi ≤ w.heap.size) :
    Calls Try.prog 25 #[.agg #[.int .i64 t.f, .int .i64 t.v, .slice a t.kids.length c], .agg #[.int .i64 u.f, .int .i64 u.v, .slice a' u.kids.length c']] w fun e w' => e = .returned (.int .i64 (ordT t u)) ∧ Below w.heap.size w w' := by
  obtain ⟨i0, hi0, hz0, hz1, hz2⟩ := info_parts info99
  obtain ⟨W, hW⟩ : ∃ W, W = (w.alloc (.cells #[.int .i64 t.f, .int .i64 t.v, .slice a t.kids.length c] 31)).alloc (.cells #[.int .i64 u.f, .int .i64 u.v, .slice a' u.kids.length c'] 31) := ⟨_, rfl⟩
  have hWs : W.heap.size = w.heap.size + 1 + 1 := by rw [hW]; simp
  have hWb : Below w.heap.size w W := by rw [hW]; exact ((Below.refl _ _).alloc (Nat.le_refl _) _).alloc (by simp) _
  have P0 : W.cell? ⟨w.heap.size, 0, none⟩ = some (.int .i64 t.f) ∧ W.cell? ⟨w.heap.size, 1, none⟩ = some (.int .i64 t.v) ∧ W.cell? ⟨w.heap.size, 2, none⟩ = some (.slice a t.kids.length c) ∧ W.cell? ⟨w.heap.size + 1, 0, none⟩ = some (.int .i64 u.f) ∧ W.cell? ⟨w.heap.size + 1, 1, none⟩ = some (.int .i64 u.v) ∧ W.cell? ⟨w.heap.size + 1, 2, none⟩ = some (.slice a' u.kids.length c') := by rw [hW]; simp [go_sem]
  obtain ⟨r, hrr⟩ : ∃ r, r = ordT t u := ⟨_, rfl⟩
  rw [← hrr]
  have HRR : Hid (r = ordT t u) := hrr
  clear hrr
  go_enter Try.func25, Try.ntmps25
  go_wp2_with (first
    | (at_make; rw [← hW]; refine wpList_make_own _ rfl _ _ 63 rfl w.heap.size 65 i0 _ 2 Try.underlying63 hi0 hz0 hz1 _ _ _ 8 rfl rfl (by omega) (by rw [hz2]; omega) (by unfold maxLen; omega) (by omega) ?_; intro w1 hown1 hgrow1; rw [hWs] at hown1 ⊢; have hb1 : Below W.heap.size W w1 := (Below.refl _ _).grown hgrow1 (Nat.le_refl _) (fun k e => by cases e); have hg1 : w.heap.size + 1 + 1 < w1.heap.size := (hown1.lt _ rfl).2; have hg2 : w.heap.size + 1 < w1.heap.size := (by omega); have hg3 : w.heap.size < w1.heap.size := (by omega); obtain ⟨p0, p1, p2, p3, p4, p5⟩ := P0; have p0 := keepC hb1 p0; have p1 := keepC hb1 p1; have p2 := keepC hb1 p2; have p3 := keepC hb1 p3; have p4 := keepC hb1 p4; have p5 := keepC hb1 p5; have hB1 : Below w.heap.size w w1 := hWb.trans (hb1.mono hWb.size); clear hW hWb hgrow1 hb1 hWs)
    | (at_builtin; refine wpList_append_own _ rfl (.tmp 12) (.tmp 18) 63 rfl w.heap.size 65 i0 _ 2 48 Try.underlying63 hi0 hz0 hz1 hz2 rfl (by decide) _ _ _ rfl (((hown1.alloc _).alloc _).alloc _) ⟨w1.heap.size + 1 + 1, 0, none⟩ 1 1 _ rfl rfl (two_new _ _ _ _ _ (by simp)) (two_cell _ _ _ _ _ _) (by unfold maxLen; omega) (by omega) (by simp; omega) ?_; intro v2 w2 hown2 hgrow2 hnil2; clear hnil2; obtain ⟨E0, st0⟩ := ord_start hr hr' hle hle' hhi hB1 hg1 hown2 hgrow2 (by omega); rw [← HRR.out] at st0; clear hown2 hgrow2 hown1 p0 p1 p2 p3 p4 p5))
  have hS : w.heap.size ≤ w1.heap.size := hB1.size
  have HM : Hid (2 * partsT t + 1 ≤ 1099511627777) := (by omega : 2 * partsT t + 1 ≤ 1099511627777)
  generalize 2 * partsT t + 1 = M at *
  clear hg1 hg2 hg3 p0 p1 p2 p3 p4 p5 hB1 hr hr' hle hle' hhi hp HRR
  generalize w1.heap.size = B at *
  go_loopw [5] (fun v wr => ∃ E, OrdSt w B 65 31 r M E v wr) (fun v wr => leastN (fun n => ∃ E, OrdSt w B 65 31 r M E v wr ∧ sizeS (dataP E) = n))
  case atStart => exact ⟨E0, st0⟩
  case round =>
    obtain ⟨E1, st1⟩ := hrel
    obtain ⟨n0, ⟨E, st, hn0⟩, hmin⟩ := leastN_spec (p := fun n => ∃ E, OrdSt w B 65 31 r M E u5 wr ∧ sizeS (dataP E) = n) ⟨_, E1, st1, rfl⟩
    clear st1 st0
    cases E with
    | nil =>
      have HZ : Hid (r = 0) := by show _ = _; have := st.ord; simpa [dataP, ordS] using this.symm
      have hb := st.below
      obtain ⟨a5, c5, rfl, _⟩ := own_form st.row
      clear st hmin hn0
      go_wp2_with fail
      go_ret
      exact ⟨rtI HZ.out.symm, hb⟩
    | cons e E =>
      obtain ⟨g, cap, rfl, hcap, hg0, hgl⟩ := own_slot st.row
      obtain ⟨q0, q1⟩ := cellsP_top st.row
      have ok := st.good e (by simp)
      have hlen := sizeS_len (dataP (e :: E))
      have hsz := st.size
      have HM' := HM.out
      have hEl : E.length ≤ 1099511627776 := by simp [dataP] at hlen; simp [dataP] at hsz; omega
      have hEi : (E.length : Int) ≤ cap := by omega
      clear hlen hsz HM' HM
      obtain ⟨ea, ec, ets, ea', ec', eus⟩ := e
      cases ets with
      | nil =>
        have st' := (st.pop rfl).on ((Below.refl wr.heap.size wr).alloc (Nat.le_refl _) (.cells #[.slice ea 0 ec, .slice ea' eus.length ec'] 65))
        simp only [List.length_nil] at q0
        have Q0 : Hid (sizeS (dataP E) < n0) := by show _ < _; rw [← hn0]; simp [dataP, sizeS]
        clear st ok hn0
        go_wp2_with fail
        go_roundw
        case rel => exact ⟨E, st'⟩
        case measure => exact Nat.lt_of_le_of_lt (leastN_le ⟨E, st', rfl⟩) (by rw [hmin]; exact Q0.out)
      | cons x xs =>
        cases eus with
        | nil => have := ok.eq; simp at this
        | cons y ys =>
          obtain ⟨b, off, xa, xc, hb, hSb, x0, x1, x2, hxc, hxr⟩ := ok.r.head
          obtain ⟨b', off', ya, yc, hb', hSb', y0, y1, y2, hyc, hyr⟩ := ok.r'.head
          simp only at hb hb'
          subst hb
          subst hb'
          have hle1 := ok.le
          have hle2 := ok.le'
          simp only [List.length_cons] at hle1 hle2 q0 q1
          have hgg := st.own g rfl
          have hbg : b ≠ g := fun e => hgg (e ▸ hSb)
          have hbg' : b' ≠ g := fun e => hgg (e ▸ hSb')
          obtain ⟨W2, hW2⟩ : ∃ W2, W2 = wr.alloc (.cells #[.slice (some ⟨b, off, none⟩) (xs.length + 1) ec, .slice (some ⟨b', off', none⟩) (ys.length + 1) ec'] 65) := ⟨_, rfl⟩
          have hb2 : Below wr.heap.size wr W2 := by rw [hW2]; exact (Below.refl _ _).alloc (Nat.le_refl _) _
          have hz2' : W2.heap.size = wr.heap.size + 1 := by rw [hW2]; simp
          have c0 : W2.cell? ⟨wr.heap.size, 0, none⟩ = some (.slice (some ⟨b, off, none⟩) (xs.length + 1) ec) := by rw [hW2]; simp [go_sem]
          have c1 : W2.cell? ⟨wr.heap.size, 1, none⟩ = some (.slice (some ⟨b', off', none⟩) (ys.length + 1) ec') := by rw [hW2]; simp [go_sem]
          have x0' := keepC hb2 x0
          have x1' := keepC hb2 x1
          have x2' := keepC hb2 x2
          have y0' := keepC hb2 y0
          have y1' := keepC hb2 y1
          have y2' := keepC hb2 y2
          clear x0 x1 x2 y0 y1 y2
          go_wp2_with fail
          rw [← hW2]
          clear hW2
          go_region_held3 (fun w' => w'.cell? ⟨wr.heap.size, 0, none⟩ = some (.slice (some ⟨b, off, none⟩) (xs.length + 1) ec) ∧ w'.cell? ⟨wr.heap.size, 1, none⟩ = some (.slice (some ⟨b', off', none⟩) (ys.length + 1) ec') ∧ w'.cell? ⟨b, off, none⟩ = some (.int .i64 x.f) ∧ w'.cell? ⟨b, off + 1, none⟩ = some (.int .i64 x.v) ∧ w'.cell? ⟨b, off + 2, none⟩ = some (.slice xa x.kids.length xc) ∧ w'.cell? ⟨b', off', none⟩ = some (.int .i64 y.f) ∧ w'.cell? ⟨b', off' + 1, none⟩ = some (.int .i64 y.v) ∧ w'.cell? ⟨b', off' + 2, none⟩ = some (.slice ya y.kids.length yc)) (first | go_keep | skip) (fail)
          all_goals clear x0' x1' x2' y0' y1' y2'
          all_goals
            first
            | (obtain ⟨W3, hW3⟩ : ∃ W3, W3 = ((W2.alloc (.cells #[.int .i64 x.f, .int .i64 x.v, .slice xa x.kids.length xc] 31)).alloc (.cells #[.int .i64 y.f, .int .i64 y.v, .slice ya y.kids.length yc] 31)).drew := ⟨_, rfl⟩
               rw [← hW3]
               have hB3 : Below W2.heap.size W2 W3 := by rw [hW3]; exact ((((Below.refl _ _).alloc (Nat.le_refl _) _).alloc (by simp) _).drew)
               obtain ⟨bq, hbq⟩ : ∃ bq, bq = wr.heap.size + 1 + 1 := ⟨_, rfl⟩
               obtain ⟨bx, hbx⟩ : ∃ bx, bx = wr.heap.size + 1 := ⟨_, rfl⟩
               rw [← hbq, ← hbx]
               have X0 : W3.cell? ⟨bx, 0, none⟩ = some (.int .i64 x.f) ∧ W3.cell? ⟨bx, 1, none⟩ = some (.int .i64 x.v) ∧ W3.cell? ⟨bx, 2, none⟩ = some (.slice xa x.kids.length xc) := by rw [hW3, hbx]; simp [go_sem, hz2']
               have Y0 : W3.cell? ⟨bq, 0, none⟩ = some (.int .i64 y.f) ∧ W3.cell? ⟨bq, 1, none⟩ = some (.int .i64 y.v) ∧ W3.cell? ⟨bq, 2, none⟩ = some (.slice ya y.kids.length yc) := by rw [hW3, hbq]; simp [go_sem, hz2']
               have nx : bx ≠ g := by omega
               have ny : bq ≠ g := by omega
               clear hbx hbq hW3)
            | (obtain ⟨W3, hW3⟩ : ∃ W3, W3 = ((W2.alloc (.cells #[.int .i64 y.f, .int .i64 y.v, .slice ya y.kids.length yc] 31)).alloc (.cells #[.int .i64 x.f, .int .i64 x.v, .slice xa x.kids.length xc] 31)).drew := ⟨_, rfl⟩
               rw [← hW3]
               have hB3 : Below W2.heap.size W2 W3 := by rw [hW3]; exact ((((Below.refl _ _).alloc (Nat.le_refl _) _).alloc (by simp) _).drew)
               obtain ⟨bx, hbx⟩ : ∃ bx, bx = wr.heap.size + 1 + 1 := ⟨_, rfl⟩
               obtain ⟨bq, hbq⟩ : ∃ bq, bq = wr.heap.size + 1 := ⟨_, rfl⟩
               rw [← hbx, ← hbq]
               have X0 : W3.cell? ⟨bx, 0, none⟩ = some (.int .i64 x.f) ∧ W3.cell? ⟨bx, 1, none⟩ = some (.int .i64 x.v) ∧ W3.cell? ⟨bx, 2, none⟩ = some (.slice xa x.kids.length xc) := by rw [hW3, hbx]; simp [go_sem, hz2']
               have Y0 : W3.cell? ⟨bq, 0, none⟩ = some (.int .i64 y.f) ∧ W3.cell? ⟨bq, 1, none⟩ = some (.int .i64 y.v) ∧ W3.cell? ⟨bq, 2, none⟩ = some (.slice ya y.kids.length yc) := by rw [hW3, hbq]; simp [go_sem, hz2']
               have nx : bx ≠ g := by omega
               have ny : bq ≠ g := by omega
               clear hbx hbq hW3)
            obtain ⟨X0, X1, X2⟩ := X0
            obtain ⟨Y0, Y1, Y2⟩ := Y0
          all_goals
            have c0' := keepC hB3 c0
            have c1' := keepC hB3 c1
            have st3 := st.on (hb2.trans (hB3.mono (by omega)))
            have fz : ∀ j, W3.frozen? ⟨g, j, none⟩ = false := fun j => st3.row.frozenAt j
            have hs1 := slice_tail b off xs.length ec
            have hs2 := slice_tail b' off' ys.length ec'
            have hs3 := sliceAt_tail b off xs.length ec
            have hs4 := sliceAt_tail b' off' ys.length ec'
            obtain ⟨d0, d1⟩ := cellsP_top st3.row
            simp only [List.length_cons] at d0 d1
            have hk0 : (0 : Int) ≤ E.length := by omega
            have hk1 : (E.length : Int) < ((E.length + 1 : Nat) : Int) := by omega
            have hk2 : (E.length : Int) < (E.length : Int) + 1 := by omega
            have ng : g ≠ wr.heap.size := by omega
            have ng' : wr.heap.size ≠ g := by omega
            go_wp2_with fail
            go_region_held3 (fun w' => w'.cell? ⟨wr.heap.size, 0, none⟩ = some (.slice (some ⟨b, off, none⟩) (xs.length + 1) ec) ∧ w'.cell? ⟨wr.heap.size, 1, none⟩ = some (.slice (some ⟨b', off', none⟩) (ys.length + 1) ec')) (first | go_keep | skip) (fail)
            obtain ⟨W4, hW4⟩ : ∃ W4, W4 = ((W3.setCell ⟨g, E.length * 2, none⟩ (.slice (tailA b off ec) xs.length (ec - 1))).setCell ⟨g, E.length * 2 + 1, none⟩ (.slice (tailA b' off' ec') ys.length (ec' - 1))).drew := ⟨_, rfl⟩
            rw [← hW4]
            have ok3 := st3.good _ (List.mem_cons_self ..)
            have hsz0 := st.size
            have st4 : OrdSt w B 65 31 (ordS ((xs, ys) :: dataP E)) M (⟨tailA b off ec, ec - 1, xs, tailA b' off' ec', ec' - 1, ys⟩ :: E) (.slice (some ⟨g, 0, none⟩) (E.length + 1) cap) W4 := by
              rw [hW4]
              refine (st3.set (d := ⟨tailA b off ec, ec - 1, xs, tailA b' off' ec', ec' - 1, ys⟩) ⟨ok3.r.tailA hle1, ok3.r'.tailA hle2, by simp only; omega, by simp only; omega, by have := ok3.eq; simpa using this⟩ rfl ?_).on ((Below.refl _ _).drew)
              simp only [dataP, List.map_cons, sizeS, partsL] at hsz0 ⊢
              omega
            have sW : Stay (Fx w.heap.size B) wr W4 := by
              rw [hW4]
              exact (((Stay.of_below (hb2.trans (hB3.mono (by omega))) (fun k hk _ => hk)).trans (Stay.setCell _ _ hgg)).trans (Stay.setCell _ _ hgg)).trans (.drew _ _)
            have hxr4 := hxr.stay sW
            have hyr4 := hyr.stay sW
            have X0 : W4.cell? ⟨bx, 0, none⟩ = some (.int .i64 x.f) ∧ W4.cell? ⟨bx, 1, none⟩ = some (.int .i64 x.v) ∧ W4.cell? ⟨bx, 2, none⟩ = some (.slice xa x.kids.length xc) := by rw [hW4]; exact ⟨(far2 _ nx).trans X0, (far2 _ nx).trans X1, (far2 _ nx).trans X2⟩
            have Y0 : W4.cell? ⟨bq, 0, none⟩ = some (.int .i64 y.f) ∧ W4.cell? ⟨bq, 1, none⟩ = some (.int .i64 y.v) ∧ W4.cell? ⟨bq, 2, none⟩ = some (.slice ya y.kids.length yc) := by rw [hW4]; exact ⟨(far2 _ ny).trans Y0, (far2 _ ny).trans Y1, (far2 _ ny).trans Y2⟩
            have hkl : x.kids.length = y.kids.length ∨ headO x y ≠ 0 := by
              by_cases e : headO x y = 0
              · exact .inl (headO_zero.1 e).2.2
              · exact .inr e
            have HO : Hid (headO x y ≠ 0 → r = headO x y) := fun e => by have := st.ord; rw [← this]; exact ordS_hit e
            have HP : Hid (headO x y = 0 → ordS ((x.kids, y.kids) :: (xs, ys) :: dataP E) = r) := fun e => by have := st.ord; rw [← this]; exact (ordS_push e).symm
            have HS : Hid (sizeS ((x.kids, y.kids) :: (xs, ys) :: dataP E) < n0) := by show _ < _; rw [← hn0]; exact sizeS_push x y xs ys _
            have HS2 : Hid (n0 ≤ M) := by show _ ≤ _; rw [← hn0]; exact hsz0
            have hE2 : E.length + 1 + 1 ≤ 1099511627778 := by omega
            obtain ⟨X0, X1, X2⟩ := X0
            obtain ⟨Y0, Y1, Y2⟩ := Y0
            have C := headOrder_any x y xa ya xc yc W4
            clear hW4 sW ok3 hsz0 hn0 st st3 c0 c1 c0' c1' fz hs1 hs2 hs3 hs4 hB3 hb2 hxr hyr ok q0 q1 d0 d1 hSb hSb' hle1 hle2
            by_cases e0 : headO x y = 0
            · have HP := HP.out e0
              have hkl' : x.kids.length = y.kids.length := hkl.resolve_right (fun h => h e0)
              rw [e0] at C
              have HPh : Hid (ordS ((x.kids, y.kids) :: (xs, ys) :: dataP E) = r) := HP
              have HK : Hid (x.kids.length = y.kids.length) := hkl'
              have HMI : Hid ((leastN fun n => ∃ E_1, OrdSt w B 65 31 r M E_1 (Value.slice (some ⟨g, 0, none⟩) (E.length + 1) cap) wr ∧ sizeS (dataP E_1) = n) = n0) := hmin
              clear HP HO hkl hkl' e0 hmin
              go_wp2_with (first
                | (go_at_call 37; refine C.mono ?_; rintro e w5 ⟨rfl, hb5⟩; have X0 := keepC hb5 X0; have X1 := keepC hb5 X1; have X2 := keepC hb5 X2; have Y0 := keepC hb5 Y0; have Y1 := keepC hb5 Y1; have Y2 := keepC hb5 Y2; have st5 := st4.on hb5; have hxr5 := hxr4.stay (.of_below hb5 (fun k hk _ => hk)); have hyr5 := hyr4.stay (.of_below hb5 (fun k hk _ => hk)); clear C st4 hxr4 hyr4 hb5)
                | (at_builtin; refine wpList_append_own _ rfl (.tmp 61) (.tmp 67) 63 rfl w.heap.size 65 i0 _ 2 48 Try.underlying63 hi0 hz0 hz1 hz2 rfl (by decide) _ _ _ rfl (st5.row.alloc _) ⟨w5.heap.size, 0, none⟩ 1 1 _ rfl rfl (two_new _ _ _ _ _ rfl) (two_cell _ _ _ _ _ _) (by unfold maxLen; simp only [List.length_cons]; omega) (by simp only [List.length_cons]; omega) (by have := st5.below.size; simp; omega) ?_; intro v6 w6 hown6 hgrow6 hnil6; clear hnil6))
              have st6 := (st5.on ((Below.refl _ _).alloc (Nat.le_refl _) _)).push (d := ⟨xa, xc, x.kids, ya, yc, y.kids⟩) (M' := M) hown6 hgrow6 ⟨hxr5.stay (.alloc _ _ _), hyr5.stay (.alloc _ _ _), hxc, hyc, HK.out⟩ HPh.out (by have h1 := HS.out; have h2 := HS2.out; exact Nat.le_of_lt (Nat.lt_of_lt_of_le h1 h2))
              clear st5 hown6 hgrow6 hxr5 hyr5
              go_roundw
              case rel => exact ⟨_, st6⟩
              case measure => exact Nat.lt_of_le_of_lt (leastN_le ⟨_, st6, rfl⟩) (by rw [HMI.out]; exact HS.out)
            · have HOh : Hid (r = headO x y) := HO.out e0
              have hne : (headO x y != 0) = true := by simp [e0]
              have hb4 := st4.below
              clear HO HP hkl e0 hmin hxr4 hyr4 st4
              go_wp2_with (go_at_call 37; refine C.mono ?_; rintro e w5 ⟨rfl, hb5⟩; clear C)
              go_ret
              exact ⟨rtI HOh.out.symm, hb4.trans (hb5.mono hb4.size)⟩
end Go.Proofs.Ytollijngiioonab
