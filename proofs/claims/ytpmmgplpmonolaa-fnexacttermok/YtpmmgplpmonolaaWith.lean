/- The program's iterator over all terms within a term: its contract. Conditions: terms of at most 4194304 parts. -/
import Derived.RangeFuncNested
import Derived.RangeFuncBound
import Derived.RangeFuncCalls
import Derived.RangeFuncLeaves
import Derived.Shelf.Abstract
import Derived.Shelf.RegionOpen
import Derived.WalkKit
import Derived.OwnWalkIn
import Derived.TacticsInMore
import Derived.LoopNIn
import Derived.LoopIn
import Derived.Maps.OwnIn
import Derived.Test.YtpmmgplpmonolaaTail
import Derived.Test.YtpmmgplpmonolaaWithA
namespace Go.Proofs.Ytpmmgplpmonolaa
set_option maxRecDepth 100000
open Go.RowKit Go.Shelf
attribute [local go_sem] Oper.semAt_some

theorem info24 : (Try.prog.info? 25).map (fun i => (i.zero, i.size, i.bytes)) = some (some (.slice none 0 0), 1, 24) := by kernel_rfl

/-- What comes next: a term within t, all ahead of it having come; its Kids read. -/
def InT (w : World) (n₀ : Nat) (t : TermD) (pre : List El) (x : El) : Prop := (∃ r, pre.map El.t ++ x.t :: r = preT t) ∧ RdK w n₀ x.a x.t.kids ∧ x.t.kids.length ≤ x.c

/-- What holds between two rounds. -/
structure WRel (w0 : World) (n B M : Nat) (t : TermD) (J : List El → (Nat → Prop) → World → Prop) (pre : List El) (S : Nat → Prop) (E : List LE) (v : Value) (wr : World) : Prop where
  st : WSt w0 n B 25 S E v wr
  j : J pre S wr
  got : pre.map El.t ++ preS E = preT t
  size : sizeL E ≤ M

theorem with_start {t : TermD} {a : Option Addr} {c hi n : Nat} {w W : World} {S : Nat → Prop} (hc : t.kids.length ≤ c) (hr : RdK w hi a t.kids) (hhi : hi ≤ n) (hn : n ≤ w.heap.size) (hbW : Below w.heap.size w W) (hS : ∀ k, S k → k < W.heap.size) :
    WSt w n W.heap.size 25 S [⟨some ⟨W.heap.size, 0, none⟩, 1, [t]⟩] (.slice (some ⟨W.heap.size + 1, 0, none⟩) 1 1) ((W.alloc (.cells #[.int .i64 t.f, .int .i64 t.v, .slice a t.kids.length c] 27)).alloc (.cells #[.slice (some ⟨W.heap.size, 0, none⟩) 1 1] 25)) := by
  have hrow := World.ownsRow_lit (base := n) (size := 1) (e := 25) (W.alloc (.cells #[.int .i64 t.f, .int .i64 t.v, .slice a t.kids.length c] 27)) #[.slice (some ⟨W.heap.size, 0, none⟩) 1 1] 1 (by simp; have := hbW.size; omega) (by unfold maxLen; omega) rfl
  rw [World.size_alloc] at hrow
  have hb : Below W.heap.size W ((W.alloc (.cells #[.int .i64 t.f, .int .i64 t.v, .slice a t.kids.length c] 27)).alloc (.cells #[.slice (some ⟨W.heap.size, 0, none⟩) 1 1] 25)) := ((Below.refl _ _).alloc (Nat.le_refl _) _).alloc (by simp) _
  refine ⟨hrow, fun g hg => ?_, fun h => by have := hS _ h; omega, by simp; omega, Nat.le_trans hn hbW.size, fun e he => ?_, fun k hk => (hb.block k (by have := hbW.size; omega)).trans (hbW.block k (by omega))⟩
  · have e : W.heap.size + 1 = g := by simpa [Value.ownBlock] using hg
    subst e
    exact ⟨fun h => by have := hS _ h; omega, by omega⟩
  · simp only [List.mem_singleton] at he
    subst he
    refine ⟨.inr ⟨W.heap.size, 0, fun _ => a, fun _ => c, rfl, .inr rfl, fun i hi => ?_, fun i hi => ?_, fun i hi => ?_⟩, Nat.le_refl _⟩
    all_goals
      have e : i = 0 := by simp at hi; omega
      subst e
      simp only [List.getElem_cons_zero]
    · exact hc
    · simp [go_sem]
    · exact hr.mono hhi

set_option maxHeartbeats 3200000 in
set_option maxRecDepth 100000 in
theorem within_seq (F : Fence) (n : Nat) (h64 : F.fn 90) (hro : F.round = none) (hn : 1 ≤ n) (w : World) (t : TermD) (a : Option Addr) (c hi n₀ Bt : Nat) (hp : partsT t ≤ 4194304) (hc : t.kids.length ≤ c) (hr : RdK w hi a t.kids) (hhi : hi ≤ n₀) (hn₀ : n₀ ≤ w.heap.size)
    (b0 : w.cell? ⟨Bt, 0, none⟩ = some (.int .i64 t.f)) (b1 : w.cell? ⟨Bt, 1, none⟩ = some (.int .i64 t.v)) (b2 : w.cell? ⟨Bt, 2, none⟩ = some (.slice a t.kids.length c)) :
    SeqPriv F n Try.prog 90 #[.pointer (some ⟨Bt, 0, none⟩)] El.enc n₀ (fun xs => xs.map El.t = preT t) (fun pre => ∃ r, pre.map El.t ++ r = preT t) (InT w n₀ t) (partsT t) w := by
  intro l J Jx S₀ W hbW hJ hJx hJb hY h0
  obtain ⟨i0, hi0, hz0, hz1, hz2⟩ := info_parts info24
  have c0 := keepC hbW b0
  have c1 := keepC hbW b1
  have c2 := keepC hbW b2
  refine callsIn_of_wp Try.func90 rfl h64 ?_ hro
  simp only [Try.ntmps90, List.size_toArray, List.length_cons, List.length_nil, Nat.reduceAdd, Nat.reduceSub, Array.replicate_succ, Array.replicate_zero, List.push_toArray, List.append_toArray, List.nil_append, List.cons_append]
  have st0 := with_start (S := S₀) hc hr hhi hn₀ hbW (hJb _ _ _ h0)
  have R0 : WRel w n₀ W.heap.size (2 * partsT t + 1) t J [] S₀ [⟨some ⟨W.heap.size, 0, none⟩, 1, [t]⟩] (.slice (some ⟨W.heap.size + 1, 0, none⟩) 1 1) ((W.alloc (.cells #[.int .i64 t.f, .int .i64 t.v, .slice a t.kids.length c] 27)).alloc (.cells #[.slice (some ⟨W.heap.size, 0, none⟩) 1 1] 25)) :=
    ⟨st0, hJ _ _ _ _ (hJ _ _ _ _ h0 (.alloc _ _ _)) (.alloc _ _ _), by simp [preS, preL], by simp [sizeL, partsL]⟩
  have HM : Hid (2 * partsT t + 1 ≤ 8388609) := (by omega : 2 * partsT t + 1 ≤ 8388609)
  have HJ : Hid (∀ pre S A B, J pre S A → Stay S A B → J pre S B) := hJ
  have HJB : Hid (∀ pre S A, J pre S A → ∀ k, S k → k < A.heap.size) := hJb
  have HY : Hid (∀ pre x S A, J pre S A → pre.length < partsT t → InT w n₀ t pre x → YieldAt F (n - 1) Try.prog l (El.enc x) A fun e B =>
      (e = .returned (.bool true) ∧ ∃ S', J (pre ++ [x]) S' B ∧ (∀ k, S' k → S k ∨ A.heap.size ≤ k) ∧ Stay (fun k => k < n₀ ∨ ¬ S k) A B) ∨
      (e = .returned (.bool false) ∧ ∃ S', Jx (pre ++ [x]) S' B)) := hY
  clear hJ hJx hJb hY h0 st0 b0 b1 b2 hr hp hc hhi
  have HPT : Hid ((preT t).length = partsT t) := preT_len t
  generalize 2 * partsT t + 1 = M at *
  gi_wp2
  clear c0 c1 c2
  generalize W.heap.size = B at *
  gi_loopw [3] (fun v wr => ∃ pre S E, WRel w n₀ B M t J pre S E v wr) (fun v wr => leastN (fun m => ∃ pre S E, WRel w n₀ B M t J pre S E v wr ∧ sizeL E = m))
  case atStart => exact ⟨_, _, _, R0⟩
  case round =>
    obtain ⟨pre1, S1, E1, R1⟩ := hrel
    obtain ⟨m0, ⟨pre, S, E, R, hm0⟩, hmin⟩ := leastN_spec (p := fun m => ∃ pre S E, WRel w n₀ B M t J pre S E u3 wr ∧ sizeL E = m) ⟨_, pre1, S1, E1, R1, rfl⟩
    clear R1 R0
    obtain ⟨st, hj, hgot, hsz⟩ := R
    cases E with
    | nil =>
      obtain ⟨a5, c5, rfl, _⟩ := own_form st.row
      have HG : Hid (pre.map El.t = preT t) := by show _ = _; simpa [preS] using hgot
      clear st hmin hm0 hgot
      gi_wp2
      go_end0
      exact ⟨⟨_, rfl⟩, .inl ⟨pre, S, HG.out, hj⟩⟩
    | cons e E =>
      obtain ⟨g, cap, rfl, hcap, hg0, hgl⟩ := own_slot st.row
      have q0 := cellsL_top st.row
      obtain ⟨hrd, hlec⟩ := st.good e (by simp)
      have hlen := sizeL_len (e :: E)
      have HM' := HM.out
      have hEl : E.length ≤ 8388608 := by simp only [List.length_cons] at hlen; omega
      have hEi : (E.length : Int) ≤ cap := by omega
      clear hlen HM'
      obtain ⟨ea, ec, ets⟩ := e
      cases ets with
      | nil =>
        have R' : WRel w n₀ B M t J pre S E (.slice (some ⟨g, 0, none⟩) E.length cap) wr := ⟨st.pop, hj, by simpa [preS, preL] using hgot, by simp only [sizeL] at hsz; omega⟩
        have Q0 : Hid (sizeL E < m0) := by show _ < _; rw [← hm0]; simp only [sizeL]; omega
        simp only [List.length_nil] at q0
        clear st hgot hj hsz hm0 hrd hlec
        gi_wp2
        go_roundw
        case rel => exact ⟨_, _, _, R'⟩
        case measure => exact Nat.lt_of_le_of_lt (leastN_le ⟨_, _, _, R', rfl⟩) (by rw [hmin]; exact Q0.out)
      | cons x xs =>
        obtain ⟨b, off, xa, xc, hb, hSb, x0, x1, x2, hxc, hxr⟩ := hrd.head
        simp only at hb
        subst hb
        simp only [List.length_cons] at q0 hlec
        have hgg := st.out g rfl
        have hSg := (st.own g rfl).1
        have hbg : b ≠ g := fun e => hgg (e ▸ hSb)
        have hbl : b < wr.heap.size := World.block_lt_of_cell? _ _ x0
        have hbk : (0 : Int) ≤ E.length := by omega
        have hs1 := slice_tail b off xs.length ec
        have hs3 := sliceAt_tail b off xs.length ec
        have fz : ∀ j, wr.frozen? ⟨g, j, none⟩ = false := fun j => st.row.frozenAt j
        obtain ⟨W2, hW2⟩ : ∃ W2, W2 = wr.setCell ⟨g, E.length, none⟩ (.slice (tailA b off ec) xs.length (ec - 1)) := ⟨_, rfl⟩
        have hz2' : W2.heap.size = wr.heap.size := by rw [hW2]; simp
        have st2 : WSt w n₀ B 25 S (⟨tailA b off ec, ec - 1, xs⟩ :: E) (.slice (some ⟨g, 0, none⟩) (E.length + 1) cap) W2 := by
          rw [hW2]; exact st.set (d := ⟨tailA b off ec, ec - 1, xs⟩) ⟨hrd.tailA hlec, by simp only; omega⟩
        obtain ⟨W3, hW3⟩ : ∃ W3, W3 = W2.alloc (.cells #[.int .i64 x.f, .int .i64 x.v, .slice xa x.kids.length xc] 27) := ⟨_, rfl⟩
        have hb3 : Below W2.heap.size W2 W3 := by rw [hW3]; exact (Below.refl _ _).alloc (Nat.le_refl _) _
        have hz3 : W3.heap.size = wr.heap.size + 1 := by rw [hW3, ← hz2']; simp
        have st3 := st2.on hb3
        have hj3 : J pre S W3 := by
          rw [hW3, hW2]; exact HJ.out _ _ _ _ (HJ.out _ _ _ _ hj (.setCell _ _ hSg)) (.alloc _ _ _)
        have hSk := HJB.out _ _ _ hj
        have nbn : ¬ S wr.heap.size := fun h => by have := hSk _ h; omega
        have X0 : W3.cell? ⟨wr.heap.size, 0, none⟩ = some (.int .i64 x.f) ∧ W3.cell? ⟨wr.heap.size, 1, none⟩ = some (.int .i64 x.v) ∧ W3.cell? ⟨wr.heap.size, 2, none⟩ = some (.slice xa x.kids.length xc) := by
          rw [hW3, ← hz2']; simp [go_sem]
        have hxr3 : Hid (RdK w n₀ xa x.kids) := hxr
        have hin : InT w n₀ t pre ⟨x, xa, xc⟩ := ⟨⟨preL x.kids ++ (preL xs ++ preS E), by rw [← hgot]; simp [preS, preL, preT_eq]⟩, hxr, hxc⟩
        have HG : Hid ((pre ++ [(⟨x, xa, xc⟩ : El)]).map El.t ++ (preL x.kids ++ (preL xs ++ preS E)) = preT t) := by
          show _ = _
          rw [← hgot]; simp [preS, preL, preT_eq]
        have HS : Hid (sizeL (⟨xa, xc, x.kids⟩ :: ⟨tailA b off ec, ec - 1, xs⟩ :: E) < m0) := by show _ < _; rw [← hm0]; simp only [sizeL, partsL, partsT_eq]; omega
        have HS2 : Hid (m0 ≤ M) := by show _ ≤ _; rw [← hm0]; exact hsz
        have hpl : pre.length < partsT t := by rw [← HPT.out, ← hgot]; simp [preS, preL, preT_eq]
        obtain ⟨fn, tmps, assign, body, hy, hR⟩ := HY.out pre ⟨x, xa, xc⟩ S W3 hj3 hpl hin
        clear hin
        dsimp only [El.enc] at hy
        rw [hW2] at hW3
        rw [hW3] at hy
        clear st hj hgot hsz hm0 hrd st2 hxr hj3 hSk hb3 hz2' hW2
        gi_wp2
        rw [← hW3]
        refine hR.mono ?_
        rintro e W4 (⟨rfl, S', hj4, hsub, hst4⟩ | ⟨rfl, S', hjx⟩)
        · have st4 := st3.round hst4 hsub
          have X0 := hst4.cell X0.2.2 (.inr nbn)
          have HSk : Hid (∀ k, S' k → k < W4.heap.size) := HJB.out _ _ _ hj4
          have hE2 : E.length + 1 + 1 ≤ 8388610 := by omega
          have hn4 : n₀ ≤ W4.heap.size := Nat.le_trans st4.nle (Nat.le_of_lt st4.lB)
          clear hy hR hW3 hsub hst4 st3 q0 hs1 hs3 fz hz3
          gi_wp2_with (gi_at_builtin; refine wpListIn_append_own_at _ rfl (.tmp 42) (.tmp 45) 113 rfl n₀ 25 i0 _ 1 24 Try.underlying113 hi0 hz0 hz1 hz2 rfl (by decide) _ _ _ rfl (st4.row.alloc _) ⟨W4.heap.size, 0, none⟩ 1 1 _ rfl rfl (one_new1 _ _ _ _ rfl) (one_slice _ _ _) (by unfold maxLen; simp only [List.length_cons]; omega) (by simp only [List.length_cons]; omega) (by simp; omega) ?_; intro v6 w6 hown6 hgrow6 hnil6 hat6; clear hnil6)
          have st6 := (st4.on ((Below.refl _ _).alloc (Nat.le_refl _) _)).push (d := ⟨xa, xc, x.kids⟩) (fun k h => by have := HSk.out k h; simp; omega) hown6 hgrow6 hat6 ⟨hxr3.out.f (st4.on ((Below.refl _ _).alloc (Nat.le_refl _) _)).same (fun k hk => .inl hk), hxc⟩
          have hj6 := HJ.out _ _ _ _ (HJ.out _ _ _ _ hj4 (.alloc _ _ _)) (.grown hgrow6 (fun k hk => (st4.own k hk).1))
          have R6 : WRel w n₀ B M t J _ S' _ v6 w6 := ⟨st6, hj6, HG.out, by have h1 := HS.out; have h2 := HS2.out; exact Nat.le_of_lt (Nat.lt_of_lt_of_le h1 h2)⟩
          clear st4 st6 hj6 hown6 hgrow6 hat6 hxr3
          go_roundw
          case rel => exact ⟨_, _, _, R6⟩
          case measure => exact Nat.lt_of_le_of_lt (leastN_le ⟨_, _, _, R6, rfl⟩) (by rw [hmin]; exact HS.out)
        · clear hy hR hW3 st3 hxr3 q0 hs1 hs3 fz hz3
          gi_wp2
          refine bodyPost_ret (results_none rfl _ _ _) rfl ?_
          exact ⟨⟨_, rfl⟩, .inr ⟨_, S', ⟨_, HG.out⟩, hjx⟩⟩
end Go.Proofs.Ytpmmgplpmonolaa
