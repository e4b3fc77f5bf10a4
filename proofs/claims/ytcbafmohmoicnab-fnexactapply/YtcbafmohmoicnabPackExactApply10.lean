/- What the proof of FnExactApply stands on, part 10 of 10: each piece says what it proves and under which conditions. Conditions: as each piece says. -/
import Derived.Test.YtcbafmohmoicnabPackExactApply9
import Derived.Deep.LoopGhost
import Derived.Test.YtcbafmohmoicnabProg
import Derived.Deep.Slices
/- The program puts what is put for variables into a copy, over a list of places that are left. Conditions: terms of at most 1048577 parts, at most 1048577 things put. -/
namespace Go.Proofs.Ytcbafmohmoicnab
set_option maxRecDepth 100000
open Go.RowKit

theorem Try.infoP : (Try.prog.info? 98).map (fun i => (i.zero, i.size, i.bytes)) = some (some (.pointer none), 1, 8) := by kernel_rfl

def sizeP (L : List PL) : Nat := (L.map (fun e => partsT e.t)).sum
theorem sizeP_snoc (L : List PL) (e : PL) : sizeP (L ++ [e]) = sizeP L + partsT e.t := by simp [sizeP]
theorem sizeP_app (L M : List PL) : sizeP (L ++ M) = sizeP L + sizeP M := by simp [sizeP]
theorem sizeP_len (L : List PL) : L.length ≤ sizeP L := by
  induction L with
  | nil => simp
  | cons e L ih =>
    have := partsT_eq e.t
    simp only [sizeP, List.map_cons, List.sum_cons, List.length_cons] at *
    omega
theorem sizeP_kids : ∀ (M : List PL) (ts : List TermD), M.length = ts.length → (∀ i, (h : i < M.length) → (h' : i < ts.length) → M[i].t = ts[i]) → sizeP M = partsL ts
  | [], [], _, _ => by simp [sizeP, partsL]
  | e :: M, t :: ts, hl, h => by
    have h0 : e.t = t := h 0 (by simp) (by simp)
    have ih := sizeP_kids M ts (by simpa using hl) (fun i h1 h2 => by have := h (i + 1) (by simpa using h1) (by simpa using h2); simpa using this)
    simp only [sizeP, List.map_cons, List.sum_cons, partsL] at *
    rw [h0, ih]
  | [], _ :: _, hl, _ => by simp at hl
  | _ :: _, [], hl, _ => by simp at hl
/-- The list of places as its row holds it. -/
def ptrs (L : List PL) : List Value := L.map (fun e => Value.pointer (some ⟨e.b, e.o, none⟩))
theorem ptrs_len (L : List PL) : (ptrs L).length = L.length := by simp [ptrs]
theorem ptrs_snoc (L : List PL) (e : PL) : ptrs (L ++ [e]) = ptrs L ++ [Value.pointer (some ⟨e.b, e.o, none⟩)] := by simp [ptrs]
theorem ptr_one (a : Option Addr) : ∀ u ∈ [Value.pointer a], u.oneCell' = true := by intro u hu; simp at hu; subst hu; rfl
theorem own_ptr {W : World} {N n : Nat} {a : Option Addr} {T : TypeId} (hN : N ≤ W.heap.size) (hn : n = W.heap.size) : (W.alloc (.cells #[.pointer a] T)).ownsRow N T 1 (.slice (some ⟨n, 0, none⟩) 1 1) 1 [.pointer a] := by
  subst hn
  exact ⟨rfl, .inr ⟨W.heap.size, 1, #[.pointer a], rfl, hN, heap_alloc_new W _, Nat.le_refl _, by unfold maxLen; omega, rfl, rfl⟩⟩

theorem var_tests (t : TermD) : (vofB t = true ∧ t.kids = [] → t.f = -1 ∧ t.kids = [] ∧ vofI t = t.v) ∧ (¬ (t.f = -1 ∧ t.kids = []) → vofB t = false ∨ (vofB t = true ∧ ((t.kids.length : Int) == 0) = false)) := by
  refine ⟨fun h => ?_, fun h => ?_⟩
  · by_cases q : t.f = -1
    · exact ⟨q, h.2, by simp [vofI, q]⟩
    · simp [vofB, q] at h
  · by_cases q : t.f = -1
    · refine .inr ⟨by simp [vofB, q], ?_⟩
      have : t.kids.length ≠ 0 := fun e => h ⟨q, List.length_eq_zero_iff.1 e⟩
      rw [beq_eq_false_iff_ne]; omega
    · exact .inl (by simp [vofB, q])

theorem set3_at {u : World} {b o : Nat} {x y z p q s : Value} (h0 : u.cell? ⟨b, o, none⟩ = some p) (h1 : u.cell? ⟨b, o + 1, none⟩ = some q) (h2 : u.cell? ⟨b, o + 2, none⟩ = some s) :
    (((u.setCell ⟨b, o, none⟩ x).setCell ⟨b, o + 1, none⟩ y).setCell ⟨b, o + 2, none⟩ z).cell? ⟨b, o, none⟩ = some x ∧ (((u.setCell ⟨b, o, none⟩ x).setCell ⟨b, o + 1, none⟩ y).setCell ⟨b, o + 2, none⟩ z).cell? ⟨b, o + 1, none⟩ = some y ∧ (((u.setCell ⟨b, o, none⟩ x).setCell ⟨b, o + 1, none⟩ y).setCell ⟨b, o + 2, none⟩ z).cell? ⟨b, o + 2, none⟩ = some z := by
  refine ⟨?_, ?_, ?_⟩
  · rw [World.cell?_setCell_other _ _ _ _ (by simp), World.cell?_setCell_other _ _ _ _ (by simp)]
    exact World.cell?_setCell_same _ _ _ h0
  · rw [World.cell?_setCell_other _ _ _ _ (by simp)]
    exact World.cell?_setCell_same _ _ _ (by rw [World.cell?_setCell_other _ _ _ _ (by simp)]; exact h1)
  · exact World.cell?_setCell_same _ _ _ (by rw [World.cell?_setCell_other _ _ _ _ (by simp), World.cell?_setCell_other _ _ _ _ (by simp)]; exact h2)
theorem set3_far {u : World} {b o j : Nat} {x y z : Value} (h : j < o ∨ o + 3 ≤ j) : (((u.setCell ⟨b, o, none⟩ x).setCell ⟨b, o + 1, none⟩ y).setCell ⟨b, o + 2, none⟩ z).cell? ⟨b, j, none⟩ = u.cell? ⟨b, j, none⟩ := by
  have e : ∀ i, i < 3 → (⟨b, o + i, none⟩ : Addr) ≠ ⟨b, j, none⟩ := fun i hi q => by injection q with _ q2; omega
  rw [World.cell?_setCell_other _ _ _ _ (e 2 (by omega)), World.cell?_setCell_other _ _ _ _ (e 1 (by omega)), World.cell?_setCell_other _ _ _ _ (show (⟨b, o, none⟩ : Addr) ≠ ⟨b, j, none⟩ from e 0 (by omega))]
theorem set3_heap {u : World} {b o k : Nat} {x y z : Value} (h : k ≠ b) : (((u.setCell ⟨b, o, none⟩ x).setCell ⟨b, o + 1, none⟩ y).setCell ⟨b, o + 2, none⟩ z).heap[k]? = u.heap[k]? := by
  simp only [World.setCell, Array.getElem?_modify]
  rw [if_neg (fun e => h e.symm), if_neg (fun e => h e.symm), if_neg (fun e => h e.symm)]
theorem own_frA {w w' : World} {base g n c : Nat} {e : TypeId} {size : Nat} {xs : List Value} (h : w.ownsRow base e size (.slice (some ⟨g, 0, none⟩) n c) n xs) (hb : w'.heap[g]? = w.heap[g]?) : w'.ownsRow base e size (.slice (some ⟨g, 0, none⟩) n c) n xs := by
  obtain ⟨h1, h2⟩ := h
  refine ⟨h1, ?_⟩
  rcases h2 with ⟨h, _⟩ | ⟨g', cap, cur, h, hg, hh, r⟩
  · simp at h
  · cases h
    exact .inr ⟨g, c, cur, rfl, hg, hb.trans hh, r⟩
/-- A variable's place has what is put. -/
theorem AP.put3 {us : List BindD} {Z : Nat → Prop} {lo N r : Nat} {T : TermD} {L : List PL} {e : PL} {w w3 : World} {q : Option Addr} {cq : Nat} (h : AP us Z lo N r T (L ++ [e]) w) (hf : e.t.f = -1) (hk : e.t.kids = []) (hb : Below w.heap.size w w3)
    (hq : RdK w3 lo q (lookT us e.t.v).kids) (hle : (lookT us e.t.v).kids.length ≤ cq) (hw : isW (lookT us e.t.v).f ∧ isW (lookT us e.t.v).v) (hloN : lo ≤ N) :
    AP us Z lo N r T L (((w3.setCell ⟨e.b, e.o, none⟩ (.int .i64 (lookT us e.t.v).f)).setCell ⟨e.b, e.o + 1, none⟩ (.int .i64 (lookT us e.t.v).v)).setCell ⟨e.b, e.o + 2, none⟩ (.slice q (lookT us e.t.v).kids.length cq)) := by
  have K := h.ok e (by simp)
  have hN := h.Nw
  obtain ⟨x0, x1, x2⟩ := set3_at (x := .int .i64 (lookT us e.t.v).f) (y := .int .i64 (lookT us e.t.v).v) (z := .slice q (lookT us e.t.v).kids.length cq) (keepC hb K.c0) (keepC hb K.c1) (keepC hb K.c2)
  have hbl : e.b < w.heap.size := World.block_lt_of_cell? _ _ K.c0
  refine h.put hf hk (by simpa using hb.size) (fun k hkN hne => (set3_heap hne).trans (hb.block k (by omega))) (fun j hj => (set3_far hj).trans (hb.cell (p := ⟨e.b, j, none⟩) hbl)) (fun j => ?_) x0 x1 x2 (hq.frameB (fun k hk => (hb.block k (by omega)).symm)) hle hw hloN
  simp only [World.frozen?_setCell]
  exact (hb.frozen (p := ⟨e.b, j, none⟩) hbl).trans (K.fr j)

theorem ptr_ge {N g k n c : Nat} (h : N ≤ g) (e : (Value.slice (some ⟨g, 0, none⟩) n c).ownBlock = some k) : ¬ k < N := by
  have e2 : g = k := by simpa [Value.ownBlock] using e
  omega
set_option maxHeartbeats 3200000 in
set_option maxRecDepth 100000 in
theorem putInto_any (p : Nat) (us : List BindD) (ua : Option Addr) (uc lo r : Nat) (T : TermD) (a : Option Addr) (c : Nat) (U Z : Nat → Prop) (w : World) (hul : us.length ≤ 549755813888) (hpT : partsT T ≤ 549755813888) (hp : w.cell? ⟨p, 0, none⟩ = some (.slice ua us.length uc)) (hplo : p < lo) (hu : RdU w lo ua us)
    (hk : (PL.mk r 0 T a c U).Ok w) (hU : ∀ x, U x → Z x) (hr : Z r) (hZ : ∀ x, Z x → lo ≤ x ∧ x < w.heap.size) :
    Calls Try.prog 68 #[.pointer (some ⟨p, 0, none⟩), .pointer (some ⟨r, 0, none⟩)] w fun e w' => e = .returned (.tuple #[]) ∧ RdT w' r 0 (putV us T) ∧ Stay (fun k => k < w.heap.size ∧ ¬ Z k) w w' := by
  obtain ⟨i0, hi, hz0, hz1, hz2⟩ := info_parts Try.infoP
  obtain ⟨N, hN⟩ : ∃ N, N = w.heap.size := ⟨_, rfl⟩
  have A0 := AP.start (us := us) (Z := Z) (lo := lo) (N := N) hk hU hr (by rw [hN]; exact hZ) (by omega)
  obtain ⟨W, hW⟩ : ∃ W, W = w.alloc (.cells #[.pointer (some ⟨r, 0, none⟩)] 98) := ⟨_, rfl⟩
  have b0 : Below w.heap.size w W := by rw [hW]; exact (Below.refl _ _).alloc (Nat.le_refl _) _
  have HA0 : Hid (AP us Z lo N r T [⟨r, 0, T, a, c, U⟩] W) := A0.on b0.size (fun k hk => b0.block k (by omega))
  have HO0 : Hid (W.ownsRow N 98 1 (.slice (some ⟨w.heap.size, 0, none⟩) 1 1) 1 (ptrs [⟨r, 0, T, a, c, U⟩])) := by show World.ownsRow _ _ _ _ _ _ _; rw [hW]; exact own_ptr (by omega) rfl
  have HB0 : Hid (Stay (fun k => k < N ∧ ¬ Z k) w W) := .of_below b0 (fun k hk _ => hk)
  have HU : Hid (RdU w lo ua us) := hu
  have HP : Hid (w.cell? ⟨p, 0, none⟩ = some (.slice ua us.length uc)) := hp
  have hloN : lo ≤ N := by have := hZ r hr; omega
  have HZ : Hid (∀ x, Z x → lo ≤ x ∧ x < N) := by rw [hN]; exact hZ
  have HW : Hid (W = w.alloc (.cells #[.pointer (some ⟨r, 0, none⟩)] 98)) := hW
  have HN : Hid (N = w.heap.size) := hN
  clear A0 hu hp hk hU hr hN b0 hW hZ
  go_enter Try.func68, Try.ntmps68
  go_wp2_with fail
  rw [← HW.out]
  clear HW
  go_loopg [4] (partsT T) (fun gh v wr => ∃ (L : List PL) (g cc : Nat), v = .slice (some ⟨g, 0, none⟩) L.length cc ∧ Hid (wr.ownsRow N 98 1 (.slice (some ⟨g, 0, none⟩) L.length cc) L.length (ptrs L)) ∧ Hid (AP us Z lo N r T L wr) ∧ Hid (Stay (fun k => k < N ∧ ¬ Z k) w wr) ∧ sizeP L ≤ gh ∧ gh ≤ partsT T)
  case atStart => exact ⟨[⟨r, 0, T, a, c, U⟩], w.heap.size, 1, rfl, HO0, HA0, HB0, by simp [sizeP], Nat.le_refl _⟩
  case round =>
    obtain ⟨L, g, cc, rfl, HO, HA, HB, hsz, hgk⟩ := hrel
    clear HA0 HO0 HB0
    rcases List.eq_nil_or_concat L with rfl | ⟨L0, e, rfl⟩
    · have HR : Hid (RdT wr r 0 (putV us T)) := HA.out.cl wr ⟨Nat.le_refl _, fun _ _ _ => rfl, fun _ _ _ _ => rfl⟩ (fun e he => by simp at he)
      have hb : Stay (fun k => k < w.heap.size ∧ ¬ Z k) w wr := by have := HB.out; rwa [HN.out] at this
      have HBX : Hid _ := hb
      clear HA HO HU HP HN hb
      simp only [List.length_nil] at *
      go_wp2_with fail
      go_end0
      exact ⟨rfl, HR.out, HBX.out⟩
    · rw [List.concat_eq_append] at HO HA hsz ⊢
      have hln : (L0 ++ [e]).length = L0.length + 1 := by simp
      rw [hln] at HO ⊢
      rw [sizeP_snoc] at hsz
      have hL0 := sizeP_len L0
      have hpe := partsT_eq e.t
      have K := HA.out.ok e (by simp)
      have LW := HA.out.low e (by simp)
      have IZ : Hid (Z e.b) := (HA.out.inz e (by simp)).2
      have BLO : Hid (Below lo w wr) := HB.out.below (by have := HN.out; omega) (fun k hk => ⟨by omega, fun q => by have := (HZ.out k q).1; omega⟩)
      have HNw : N ≤ wr.heap.size := HA.out.Nw
      have hO : wr.ownsRow N 98 1 (.slice (some ⟨g, 0, none⟩) (L0.length + 1) cc) (L0.length + 1) (ptrs (L0 ++ [e])) := HO.out
      have hO2 := hO
      rw [ptrs_snoc] at hO2
      have hcc := own_cap hO
      have hm1 : IntKind.i64.wrap (((L0.length + 1 : Nat) : Int) - 1) = (L0.length : Int) := by rw [IntKind.wrap_i64]; omega
      have hge : (0 : Int) < ((L0.length + 1 : Nat) : Int) := by omega
      have hlt : (L0.length : Int) < ((L0.length + 1 : Nat) : Int) := by omega
      have hl0 : (0 : Int) ≤ (L0.length : Int) := by omega
      have hlc : (L0.length : Int) ≤ (cc : Int) := by omega
      have ctop : wr.cell? ⟨g, L0.length, none⟩ = some (.pointer (some ⟨e.b, e.o, none⟩)) := (hO2.cellAt L0.length (by omega)).trans (by rw [List.getElem?_append_right (by simp [ptrs])]; simp [ptrs])
      have HO1 : Hid (wr.ownsRow N 98 1 (.slice (some ⟨g, 0, none⟩) L0.length cc) L0.length (ptrs L0)) := ownsRow_pop (by simp [ptrs]) hO2
      have k0 := K.c0
      have k1 := K.c1
      have k2 := K.c2
      have C := variableOf_any e.t e.a e.t.kids.length e.c wr
      have hfz := K.fr
      have hbl : e.b < wr.heap.size := World.block_lt_of_cell? _ _ k0
      have hgN := hO.lt g rfl
      have HK : Hid (e.Ok wr) := K
      have hwfv := K.wf.2
      clear hO hO2 HO hln K
      by_cases hv : e.t.f = -1 ∧ e.t.kids = []
      · have vB : vofB e.t = true := by simp [vofB, hv.1]
        have vI : vofI e.t = e.t.v := by simp [vofI, hv.1]
        have hk0 : e.t.kids.length = 0 := by rw [hv.2]; rfl
        rw [vB, vI] at C
        rw [hk0] at C k2
        have hwl := look_wf HU.out hwfv
        have HV : Hid (e.t.f = -1 ∧ e.t.kids = []) := hv
        clear hv vB vI hk0
        go_wp2_with (first
          | (go_at_call 82; refine C.mono ?_; rintro e1 w2 ⟨rfl, hb2⟩; have B2 := hb2; have hBlo : Below lo w w2 := BLO.out.trans (hb2.mono (Nat.le_trans hloN HNw)); have C2 := termFor_any p us ua uc lo e.t.v w2 hul ((hBlo.cell (p := ⟨p, 0, none⟩) hplo).trans HP.out) (HU.out.on hBlo) (Nat.le_trans (Nat.le_trans hloN HNw) hb2.size); have q0 := keepC hb2 k0; have q1 := keepC hb2 k1; have q2 := keepC hb2 k2; clear C hb2 k0 k1 k2)
          | (go_at_call 83; refine C2.mono ?_; rintro e2 w3 ⟨a3, c3, rfl, hr3, hc3, hb3⟩; have B3 : Below wr.heap.size wr w3 := B2.trans (hb3.mono B2.size); have p0 := keepC hb3 q0; have p1 := keepC hb3 q1; have p2 := keepC hb3 q2; have hf3 := fun j => (B3.frozen (p := ⟨e.b, j, none⟩) hbl).trans (HK.out.fr j); have HR3 : Hid _ := hr3; clear C2 hb3 q0 q1 q2 hr3))
        have P := HA.out.put3 HV.out.1 HV.out.2 B3 HR3.out hc3 hwl hloN
        have HPP : Hid _ := P
        have hsz2 : sizeP L0 ≤ gk - 1 := by omega
        have HOF : Hid ((((w3.setCell ⟨e.b, e.o, none⟩ (.int .i64 (lookT us e.t.v).f)).setCell ⟨e.b, e.o + 1, none⟩ (.int .i64 (lookT us e.t.v).v)).setCell ⟨e.b, e.o + 2, none⟩ (.slice a3 (lookT us e.t.v).kids.length c3)).ownsRow N 98 1 (.slice (some ⟨g, 0, none⟩) L0.length cc) L0.length (ptrs L0)) := own_frA HO1.out ((set3_heap (by omega)).trans (B3.block g hgN.2))
        have HBF : Hid (Stay (fun k => k < N ∧ ¬ Z k) w (((w3.setCell ⟨e.b, e.o, none⟩ (.int .i64 (lookT us e.t.v).f)).setCell ⟨e.b, e.o + 1, none⟩ (.int .i64 (lookT us e.t.v).v)).setCell ⟨e.b, e.o + 2, none⟩ (.slice a3 (lookT us e.t.v).kids.length c3))) := (((HB.out.trans (.of_below B3 (fun k hk _ => hk))).trans (.setCell _ _ (fun q => q.2 IZ.out))).trans (.setCell _ _ (fun q => q.2 IZ.out))).trans (.setCell _ _ (fun q => q.2 IZ.out))
        clear P HA HK HV HN LW hL0 hbl ctop HO1 HB B2 B3 HU HP HR3 hwl IZ BLO HZ
        go_wp2_with fail
        go_roundg (gk - 1)
        case measure => omega
        case rel => exact ⟨L0, g, cc, rfl, HOF, HPP, HBF, hsz2, by omega⟩
      · have VT := (var_tests e.t).2 hv
        obtain ⟨M, hM1, hM2, hM3, hMA⟩ := HA.out.kids hv
        have hMs := sizeP_kids M e.t.kids hM1 hM3
        have HMA : Hid (AP us Z lo N r T (L0 ++ M) wr) := hMA
        have HM2 : Hid (∀ j, (h : j < M.length) → ∃ b off, e.a = some ⟨b, off, none⟩ ∧ M[j].b = b ∧ M[j].o = off + j * 3) := fun j hj => by
          rcases hM2 with h0 | ⟨b, off, ha, hb⟩
          · rw [hM1, h0] at hj; simp at hj
          · exact ⟨b, off, ha, hb j hj⟩
        have HM1 : Hid (M.length = e.t.kids.length) := hM1
        have hsz2 : sizeP (L0 ++ M) ≤ gk - 1 := by rw [sizeP_app, hMs]; omega
        have hlm : L0.length + M.length ≤ 549755813888 := by have := sizeP_len (L0 ++ M); rw [List.length_append] at this; omega
        clear HA hMA hM2 hM3 hv hMs hL0 hwfv HK
        generalize vofI e.t = vi at C
        generalize vofB e.t = vb at C VT
        rw [← hM1] at VT C k2
        clear hM1
        rcases VT with rfl | ⟨rfl, hne⟩
        all_goals
          go_wp2_with (go_at_call 82; refine C.mono ?_; rintro e1 w2 ⟨rfl, hb2⟩; have B2 : Hid (Below wr.heap.size wr w2) := hb2; have q0 := keepC hb2 k0; have q1 := keepC hb2 k1; have q2 := keepC hb2 k2; have HO2 : Hid (w2.ownsRow N 98 1 (.slice (some ⟨g, 0, none⟩) L0.length cc) L0.length (ptrs L0)) := own_frA HO1.out (hb2.block g hgN.2); have hz2' := hb2.size; clear C hb2 k0 k1 k2)
          obtain ⟨W0, hW0⟩ : ∃ W0, W0 = w2 := ⟨_, rfl⟩
          go_loopw [4, 51] (fun v i wr => ∃ (j g cc : Nat), j ≤ M.length ∧ i = .int .i64 j ∧ v = .slice (some ⟨g, 0, none⟩) (L0.length + j) cc ∧ Hid (wr.ownsRow N 98 1 (.slice (some ⟨g, 0, none⟩) (L0.length + j) cc) (L0.length + j) (ptrs (L0 ++ M.take j))) ∧ Hid (Stay (fun k => k < N) w2 wr)) (fun _ i _ => M.length - (intOf i).toNat)
          case atStart => exact ⟨0, g, cc, Nat.zero_le _, rfl, rfl, by simpa using HO2, Stay.refl _ _⟩
          case round =>
            obtain ⟨j, g1, cc1, hj, rfl, rfl, HOJ, HS⟩ := hrel
            by_cases hj' : j < M.length
            · obtain ⟨b, off, ha, hMb, hMo⟩ := HM2.out j hj'
              have p2 := HS.out.cell q2 LW.2.2
              rw [ha] at p2
              have hji : (j : Int) < (M.length : Int) := by omega
              have hji0 : (0 : Int) ≤ (j : Int) := by omega
              have hown : wr.ownsRow N 98 1 (.slice (some ⟨g1, 0, none⟩) (L0.length + j) cc1) (L0.length + j) (ptrs (L0 ++ M.take j)) := HOJ.out
              have hg1 := hown.lt g1 rfl
              have HX : Hid (ptrs (L0 ++ M.take j) ++ [Value.pointer (some ⟨b, off + j * 3, none⟩)] = ptrs (L0 ++ M.take (j + 1))) := by
                show _ = _
                rw [List.take_succ_eq_append_getElem hj', ← List.append_assoc, ptrs_snoc, hMb, hMo]
              have hNs : N ≤ wr.heap.size := by have := HS.out.size; omega
              clear HOJ ha hMb hMo
              go_wp2_with (at_builtin; refine wpList_append_own _ rfl (.tmp 54) (.tmp 61) 114 rfl N 98 i0 (.pointer none) 1 8 Try.underlying114 hi hz0 hz1 hz2 rfl (by decide) _ (L0.length + j) _ rfl (hown.alloc _) ⟨wr.heap.size, 0, none⟩ 1 1 [.pointer (some ⟨b, off + j * 3, none⟩)] rfl rfl (one_new _ _ _) (ptr_one _) (by unfold maxLen; omega) (by omega) (by simp; omega) ?_; intro v3 w3 hown3 hgrow3 hnil3; obtain ⟨g3, c3, rfl⟩ := own_some hown3 hnil3; have HO3 : Hid _ := hown3; have HS3 : Hid (Stay (fun k => k < N) w2 w3) := (HS.out.trans (Stay.alloc _ _ _)).trans (Stay.grown hgrow3 (fun k ek => ptr_ge hg1.1 ek)); clear hnil3 hgrow3 hown hown3)
              go_roundw
              case rel => exact ⟨j + 1, g3, c3, by omega, by go_num, rfl, by have := HO3.out; rw [HX.out] at this; exact this, HS3⟩
              case measure => simp [intOf]; omega
            · have hji : ¬ (j : Int) < (M.length : Int) := by omega
              have e1 : j = M.length := by omega
              subst e1
              have HOF : Hid (wr.ownsRow N 98 1 (.slice (some ⟨g1, 0, none⟩) (L0 ++ M).length cc1) (L0 ++ M).length (ptrs (L0 ++ M))) := by have := HOJ.out; rw [List.take_length] at this; rw [List.length_append]; exact this
              have HAF : Hid (AP us Z lo N r T (L0 ++ M) wr) := HMA.out.on (Nat.le_trans B2.out.size HS.out.size) (fun k hk => (HS.out.block k (by omega) hk).trans (B2.out.block k (by omega)))
              have HBF : Hid (Stay (fun k => k < N ∧ ¬ Z k) w wr) := (HB.out.trans (.of_below B2.out (fun k hk _ => hk))).trans (HS.out.weak (fun k _ hk => hk.1))
              clear HOJ HS HMA B2 HB HO2 HO1 HN HU HP HM1 HM2 LW IZ BLO HZ
              go_wp2_with fail
              go_roundg (gk - 1)
              case measure => omega
              case rel => exact ⟨L0 ++ M, g1, cc1, by rw [List.length_append], HOF, HAF, HBF, hsz2, by omega⟩
end Go.Proofs.Ytcbafmohmoicnab

/- A term with what is put for its variables, in one form: the program's way. Conditions: as its size is told. -/
namespace Go.Proofs.Ytcbafmohmoicnab
set_option maxRecDepth 100000
open Go.RowKit

theorem parts_put (us : List BindD) (m : Nat) (hm : 1 ≤ m) (hu : ∀ v, partsT (lookT us v) ≤ m) : ∀ (n : Nat) (t : TermD), partsT t ≤ n → partsT (putV us t) ≤ partsT t * m
  | 0, t, h => by rw [partsT_eq] at h; omega
  | n + 1, t, h => by
    by_cases hv : t.f = -1 ∧ t.kids = []
    · rw [putV_var hv.1 hv.2, partsT_eq t, hv.2]
      show _ ≤ (partsL [] + 1) * m
      simp only [partsL]
      have := hu t.v
      omega
    · rw [putV_not hv, partsT_eq, partsT_eq t]
      show partsL (t.kids.map (putV us)) + 1 ≤ _
      have hk : ∀ ts : List TermD, partsL ts ≤ n → partsL (ts.map (putV us)) ≤ partsL ts * m := by
        intro ts
        induction ts with
        | nil => intro _; simp [partsL]
        | cons u ts ih =>
          intro h2
          simp only [partsL, List.map_cons] at *
          have h3 := parts_put us m hm hu n u (by omega)
          have h4 := ih (by omega)
          rw [Nat.add_mul]; omega
      rw [partsT_eq] at h
      have := hk t.kids (by omega)
      rw [Nat.add_mul]; omega
theorem look_le {us : List BindD} (v : Int) : partsT (lookT us v) ≤ partsU us + 1 := by
  rcases look_cases us v with ⟨k, hk, _, _, e⟩ | ⟨_, e⟩
  · rw [e, partsT_eq]
    have := partsU_get hk
    omega
  · rw [e, partsT_eq]
    show partsL [] + 1 ≤ _
    simp [partsL]
theorem prod_small {x y : Nat} (h : x + y ≤ 1048580) : x * y ≤ 549755813888 := by
  by_cases h1 : x ≤ 349526
  · exact Nat.le_trans (Nat.mul_le_mul h1 (show y ≤ 1048580 by omega)) (by decide)
  · by_cases h2 : x ≤ 699054
    · exact Nat.le_trans (Nat.mul_le_mul h2 (show y ≤ 699054 by omega)) (by decide)
    · exact Nat.le_trans (Nat.mul_le_mul (show x ≤ 1048580 by omega) (show y ≤ 349526 by omega)) (by decide)
theorem put_small {us : List BindD} {t : TermD} (h : partsU us + partsT t ≤ 1048579) : partsT (putV us t) ≤ 549755813888 :=
  Nat.le_trans (parts_put us (partsU us + 1) (by omega) (fun v => look_le v) _ t (Nat.le_refl _)) (prod_small (by omega))

/-- Between the copy and its one form. -/
theorem applied_mid {w W w1 : World} {p : Nat} {us : List BindD} {ua : Option Addr} {uc : Nat} {t : TermD} {a1 : Option Addr} {c1 : Nat} (hul : us.length ≤ 549755813888) (hpt : partsT t ≤ 549755813888) (hz0 : W.heap.size = w.heap.size + 1 + 1) (hp : w.cell? ⟨p, 0, none⟩ = some (.slice ua us.length uc)) (hplt : p < w.heap.size) (hu : RdU w w.heap.size ua us)
    (nb1 : NB w w1) (x0 : w1.cell? ⟨w.heap.size, 0, none⟩ = some (.int .i64 t.f)) (x1 : w1.cell? ⟨w.heap.size, 1, none⟩ = some (.int .i64 t.v)) {v : Value} (x2 : w1.cell? ⟨w.heap.size, 2, none⟩ = some v) (xf : ∀ j, w1.frozen? ⟨w.heap.size, j, none⟩ = false) (ho1 : OwnS w1 (fun k => W.heap.size ≤ k ∧ k < w1.heap.size) a1 t.kids) (hle : t.kids.length ≤ c1) (hwf : isW t.f ∧ isW t.v) :
    Calls Try.prog 68 #[.pointer (some ⟨p, 0, none⟩), .pointer (some ⟨w.heap.size, 0, none⟩)] (((w1.setCell ⟨w.heap.size, 0, none⟩ (.int .i64 t.f)).setCell ⟨w.heap.size, 1, none⟩ (.int .i64 t.v)).setCell ⟨w.heap.size, 2, none⟩ (.slice a1 t.kids.length c1)) fun e w' => e = .returned (.tuple #[]) ∧ RdT w' w.heap.size 0 (putV us t) ∧ NB w w' := by
  have hz := nb1.z
  have hn : ∀ j, ¬ (W.heap.size ≤ (⟨w.heap.size, j, none⟩ : Addr).block ∧ (⟨w.heap.size, j, none⟩ : Addr).block < w1.heap.size) := fun j q => by have := q.1; simp only at this; omega
  have ho2 := ((ho1.setCell ⟨w.heap.size, 0, none⟩ (hn 0) (.int .i64 t.f)).setCell ⟨w.heap.size, 1, none⟩ (hn 1) (.int .i64 t.v)).setCell ⟨w.heap.size, 2, none⟩ (hn 2) (.slice a1 t.kids.length c1)
  obtain ⟨z0, z1, z2⟩ := set3_at (u := w1) (b := w.heap.size) (o := 0) (x := .int .i64 t.f) (y := .int .i64 t.v) (z := .slice a1 t.kids.length c1) x0 x1 x2
  have nb2 : NB w (((w1.setCell ⟨w.heap.size, 0, none⟩ (.int .i64 t.f)).setCell ⟨w.heap.size, 1, none⟩ (.int .i64 t.v)).setCell ⟨w.heap.size, 2, none⟩ (.slice a1 t.kids.length c1)) := by
    have hne : ∀ j : Nat, w.heap.size + 1 ≠ w.heap.size := fun _ => by omega
    have hc : ∀ j, (((w1.setCell ⟨w.heap.size, 0, none⟩ (.int .i64 t.f)).setCell ⟨w.heap.size, 1, none⟩ (.int .i64 t.v)).setCell ⟨w.heap.size, 2, none⟩ (.slice a1 t.kids.length c1)).cell? ⟨w.heap.size + 1, j, none⟩ = w1.cell? ⟨w.heap.size + 1, j, none⟩ := fun j => World.cell?_of_block (a := ⟨w.heap.size + 1, j, none⟩) (set3_heap (o := 0) (hne 0))
    exact ⟨((nb1.be.setCell (p := ⟨w.heap.size, 0, none⟩) (Nat.le_refl _) _).setCell (p := ⟨w.heap.size, 1, none⟩) (Nat.le_refl _) _).setCell (p := ⟨w.heap.size, 2, none⟩) (Nat.le_refl _) _, (hc 0).trans nb1.c0, (hc 1).trans nb1.c1, (hc 2).trans nb1.c2, fun j => by simp only [World.frozen?_setCell]; exact nb1.cf j, by simpa using hz⟩
  have hxf : ∀ j, (((w1.setCell ⟨w.heap.size, 0, none⟩ (.int .i64 t.f)).setCell ⟨w.heap.size, 1, none⟩ (.int .i64 t.v)).setCell ⟨w.heap.size, 2, none⟩ (.slice a1 t.kids.length c1)).frozen? ⟨w.heap.size, j, none⟩ = false := fun j => by simp only [World.frozen?_setCell]; exact xf j
  have hs2 : (((w1.setCell ⟨w.heap.size, 0, none⟩ (.int .i64 t.f)).setCell ⟨w.heap.size, 1, none⟩ (.int .i64 t.v)).setCell ⟨w.heap.size, 2, none⟩ (.slice a1 t.kids.length c1)).heap.size = w1.heap.size := by simp
  generalize (((w1.setCell ⟨w.heap.size, 0, none⟩ (.int .i64 t.f)).setCell ⟨w.heap.size, 1, none⟩ (.int .i64 t.v)).setCell ⟨w.heap.size, 2, none⟩ (.slice a1 t.kids.length c1)) = W2 at *
  have hB2 := nb2.be
  have hfr2 : ∀ j, W2.frozen? ⟨w.heap.size, j, none⟩ = false := fun j => hxf j
  have hk : (PL.mk w.heap.size 0 t a1 c1 (fun k => W.heap.size ≤ k ∧ k < w1.heap.size)).Ok W2 := ⟨z0, z1, z2, hfr2, ho2, hle, hwf, fun q => by have := q.1; simp only at this; omega⟩
  refine (putInto_any p us ua uc w.heap.size w.heap.size t a1 c1 (fun k => W.heap.size ≤ k ∧ k < w1.heap.size) (fun k => k = w.heap.size ∨ W.heap.size ≤ k ∧ k < w1.heap.size) W2 hul hpt ((hB2.cell (p := ⟨p, 0, none⟩) hplt).trans hp) hplt (hu.on hB2) hk (fun x hx => .inr hx) (.inl rfl) (fun x hx => by omega)).mono fun e w3 ⟨h1, h2, h3⟩ => ⟨h1, h2, ?_⟩
  have hsz := h3.size
  have hc3 : ∀ j v, W2.cell? ⟨w.heap.size + 1, j, none⟩ = some v → w3.cell? ⟨w.heap.size + 1, j, none⟩ = some v := fun j v hv => h3.cell hv ⟨by simp only; omega, by simp only; omega⟩
  exact ⟨hB2.trans (h3.below hB2.size (fun k hk => ⟨by omega, by omega⟩)), hc3 0 _ nb2.c0, hc3 1 _ nb2.c1, hc3 2 _ nb2.c2, fun j => (h3.frozen (p := ⟨w.heap.size + 1, j, none⟩) (by simp only; omega) ⟨by simp only; omega, by simp only; omega⟩).trans (nb2.cf j), by omega⟩

set_option maxHeartbeats 3200000 in
set_option maxRecDepth 100000 in
theorem applied_any (p : Nat) (us : List BindD) (ua : Option Addr) (uc lo : Nat) (sa : Option Addr) (ss : List SymD) (sc : Nat) (t : TermD) (a : Option Addr) (c hi : Nat) (w : World) (hul : us.length ≤ 549755813888) (hp : w.cell? ⟨p, 0, none⟩ = some (.slice ua us.length uc)) (hu : RdU w lo ua us) (hlo : lo ≤ w.heap.size) (hs : RdS w sa ss)
    (hpt : partsT t ≤ 549755813888) (hpp : partsT (putV us t) ≤ 549755813888) (hr : RdK w hi a t.kids) (hhi : hi ≤ w.heap.size) (hc : t.kids.length ≤ c) (hwf : isW t.f ∧ isW t.v) :
    Calls Try.prog 48 #[.pointer (some ⟨p, 0, none⟩), .slice sa ss.length sc, .agg #[.int .i64 t.f, .int .i64 t.v, .slice a t.kids.length c]] w fun e w' => ∃ a' c', e = .returned (.agg #[.int .i64 (putV us t).f, .int .i64 (putV us t).v, .slice a' (normT (blindAt ss) (putV us t)).kids.length c']) ∧ OwnS w' (fun k => w.heap.size ≤ k ∧ k < w'.heap.size) a' (normT (blindAt ss) (putV us t)).kids ∧ (normT (blindAt ss) (putV us t)).kids.length ≤ c' ∧ Below w.heap.size w w' := by
  obtain ⟨W, hW⟩ : ∃ W, W = (w.alloc (.cells #[.int .i64 t.f, .int .i64 t.v, .slice a t.kids.length c] 32)).alloc (.cells #[.int .i64 0, .int .i64 0, .slice none 0 0] 32) := ⟨_, rfl⟩
  have hb0 : Below w.heap.size w W := by rw [hW]; exact ((Below.refl _ _).alloc (Nat.le_refl _) _).alloc (by simp) _
  have hz0 : W.heap.size = w.heap.size + 1 + 1 := by rw [hW]; simp
  have nb0 : NB w W := ⟨hb0, by rw [hW]; simp [go_sem], by rw [hW]; simp [go_sem], by rw [hW]; simp [go_sem], fun j => by rw [hW]; simp [go_sem], by omega⟩
  have t0 : W.cell? ⟨w.heap.size, 0, none⟩ = some (.int .i64 t.f) := by rw [hW]; simp [go_sem]
  have t1 : W.cell? ⟨w.heap.size, 1, none⟩ = some (.int .i64 t.v) := by rw [hW]; simp [go_sem]
  have t2 : W.cell? ⟨w.heap.size, 2, none⟩ = some (.slice a t.kids.length c) := by rw [hW]; simp [go_sem]
  have tf : ∀ j, W.frozen? ⟨w.heap.size, j, none⟩ = false := fun j => by rw [hW]; simp [go_sem]
  have hBW : w.heap.size < W.heap.size := by omega
  have hplt : p < w.heap.size := World.block_lt_of_cell? _ _ hp
  have C1 := copyTerm_any t a c hi W hpt (hr.on (hb0.mono hhi)) (Nat.le_trans hhi hb0.size) hc hwf
  obtain ⟨P, hP⟩ : ∃ P, P = putV us t := ⟨_, rfl⟩
  rw [← hP] at hpp ⊢
  have HP : Hid (w.cell? ⟨p, 0, none⟩ = some (.slice ua us.length uc)) := hp
  have HU : Hid (RdU w w.heap.size ua us) := hu.mono hlo
  have HS : Hid (RdS w sa ss) := hs
  have HW : Hid _ := hW
  have HZ0 : Hid (W.heap.size = w.heap.size + 1 + 1) := hz0
  have HWF : Hid (isW t.f ∧ isW t.v) := hwf
  have HPE : Hid (P = putV us t) := hP
  clear hp hu hs hr hc hW hz0 hb0 hwf hP
  go_enter Try.func48, Try.ntmps48
  go_wp2_with (go_at_call 67; rw [← HW.out]; refine C1.mono ?_; rintro e w1 ⟨a1, c1, rfl, ho1, hle1, hb1⟩; have nb1 := nb0.on hb1; have x0 := keepC hb1 t0; have x1 := keepC hb1 t1; have x2 := keepC hb1 t2; have xf := fun j => (hb1.frozen (p := ⟨w.heap.size, j, none⟩) hBW).trans (tf j); have HO1 : Hid (OwnS w1 (fun k => W.heap.size ≤ k ∧ k < w1.heap.size) a1 t.kids) := ho1; have HB1 : Hid (Below W.heap.size W w1) := hb1; clear C1 t0 t1 t2 tf nb0 ho1 hb1)
  have C2 := applied_mid hul hpt HZ0.out HP.out hplt HU.out nb1 x0 x1 x2 xf HO1.out hle1 HWF.out
  rw [← HPE.out] at C2
  clear nb1 xf HO1 HPE HP
  go_wp2_with (first
    | (go_at_call 68; refine C2.mono ?_; rintro e w3 ⟨rfl, HT3, nb3⟩; obtain ⟨a3, c3, t0, t1, t2, hr3, hle3, hw3⟩ := HT3; have C3 := impNorm_any sa ss sc P a3 c3 w3.heap.size w3 (HS.out.below nb3.be) hpp hr3 (Nat.le_refl _) hle3 hw3; clear C2 x0 x1 x2 hr3)
    | (go_at_call 69; refine C3.mono ?_; rintro e w4 ⟨a', c', rfl, ho4, hc4, hb4⟩; have nb4 := nb3.on hb4; have d0 := nb4.c0; have d1 := nb4.c1; have d2 := nb4.c2; have df := nb4.cf; have hz4 := nb4.z; have hz34 := nb3.z; clear C3))
  obtain ⟨z0, z1, z2⟩ := set3_cells (u := w4) (r := w.heap.size + 1) (x := .int .i64 P.f) (y := .int .i64 P.v) (z := .slice a' (normT (blindAt ss) P).kids.length c') d0 d1 d2
  have hnS : ∀ j, ¬ (w3.heap.size ≤ (⟨w.heap.size + 1, j, none⟩ : Addr).block ∧ (⟨w.heap.size + 1, j, none⟩ : Addr).block < w4.heap.size) := fun j q => by have := q.1; simp only at this; omega
  have hoF := ((ho4.setCell ⟨w.heap.size + 1, 0, none⟩ (hnS 0) (.int .i64 P.f)).setCell ⟨w.heap.size + 1, 1, none⟩ (hnS 1) (.int .i64 P.v)).setCell ⟨w.heap.size + 1, 2, none⟩ (hnS 2) (.slice a' (normT (blindAt ss) P).kids.length c')
  have hbF := ((nb4.be.setCell (p := ⟨w.heap.size + 1, 0, none⟩) (by simp) (.int .i64 P.f)).setCell (p := ⟨w.heap.size + 1, 1, none⟩) (by simp) (.int .i64 P.v)).setCell (p := ⟨w.heap.size + 1, 2, none⟩) (by simp) (.slice a' (normT (blindAt ss) P).kids.length c')
  refine bodyPost_ret (v := .agg #[.int .i64 P.f, .int .i64 P.v, .slice a' (normT (blindAt ss) P).kids.length c']) (by simp [results, Try.results48, go_sem, z0, z1, z2]) rfl ⟨a', c', rfl, hoF.mono (fun k hk => ⟨by omega, by simpa using hk.2⟩), hc4, hbF⟩

set_option maxHeartbeats 1600000 in
theorem impApply_any (sa : Option Addr) (ss : List SymD) (sc : Nat) (us : List BindD) (ua : Option Addr) (uc lo : Nat) (t : TermD) (a : Option Addr) (c hi : Nat) (w : World) (hul : us.length ≤ 549755813888) (hu : RdU w lo ua us) (hlo : lo ≤ w.heap.size) (hs : RdS w sa ss)
    (hpt : partsT t ≤ 549755813888) (hpp : partsT (putV us t) ≤ 549755813888) (hr : RdK w hi a t.kids) (hhi : hi ≤ w.heap.size) (hc : t.kids.length ≤ c) (hwf : isW t.f ∧ isW t.v) :
    Calls Try.prog 15 #[.slice sa ss.length sc, .slice ua us.length uc, .agg #[.int .i64 t.f, .int .i64 t.v, .slice a t.kids.length c]] w fun e w' => ∃ a' c', e = .returned (.agg #[.int .i64 (putV us t).f, .int .i64 (putV us t).v, .slice a' (normT (blindAt ss) (putV us t)).kids.length c']) ∧ OwnS w' (fun k => w.heap.size ≤ k ∧ k < w'.heap.size) a' (normT (blindAt ss) (putV us t)).kids ∧ (normT (blindAt ss) (putV us t)).kids.length ≤ c' ∧ Below w.heap.size w w' := by
  obtain ⟨W0, hW0⟩ : ∃ W0, W0 = (w.alloc (.cells #[.int .i64 t.f, .int .i64 t.v, .slice a t.kids.length c] 32)).alloc (.cells #[.int .i64 0, .int .i64 0, .slice none 0 0] 32) := ⟨_, rfl⟩
  obtain ⟨W, hW⟩ : ∃ W, W = W0.alloc (.cells #[.slice ua us.length uc] 76) := ⟨_, rfl⟩
  have hb0 : Below w.heap.size w W0 := by rw [hW0]; exact ((Below.refl _ _).alloc (Nat.le_refl _) _).alloc (by simp) _
  have hz0 : W0.heap.size = w.heap.size + 1 + 1 := by rw [hW0]; simp
  have nbw : NB w W0 := ⟨hb0, by rw [hW0]; simp [go_sem], by rw [hW0]; simp [go_sem], by rw [hW0]; simp [go_sem], fun j => by rw [hW0]; simp [go_sem], by omega⟩
  have hbW : Below W0.heap.size W0 W := by rw [hW]; exact (Below.refl _ _).alloc (Nat.le_refl _) _
  have nb0 := nbw.on hbW
  have t0 : W.cell? ⟨w.heap.size, 0, none⟩ = some (.int .i64 t.f) := keepC hbW (by rw [hW0]; simp [go_sem])
  have t1 : W.cell? ⟨w.heap.size, 1, none⟩ = some (.int .i64 t.v) := keepC hbW (by rw [hW0]; simp [go_sem])
  have t2 : W.cell? ⟨w.heap.size, 2, none⟩ = some (.slice a t.kids.length c) := keepC hbW (by rw [hW0]; simp [go_sem])
  have tp : W.cell? ⟨w.heap.size + 1 + 1, 0, none⟩ = some (.slice ua us.length uc) := by rw [hW, ← hz0]; simp [go_sem]
  have hB := nb0.be
  have C1 := applied_any (w.heap.size + 1 + 1) us ua uc lo sa ss sc t a c hi W hul tp (hu.on (hB.mono hlo)) (Nat.le_trans hlo hB.size) (hs.below hB) hpt hpp (hr.on (hB.mono hhi)) (Nat.le_trans hhi hB.size) hc hwf
  obtain ⟨P, hP⟩ : ∃ P, P = putV us t := ⟨_, rfl⟩
  rw [← hP] at C1 ⊢
  have HW : Hid (W = ((w.alloc (.cells #[.int .i64 t.f, .int .i64 t.v, .slice a t.kids.length c] 32)).alloc (.cells #[.int .i64 0, .int .i64 0, .slice none 0 0] 32)).alloc (.cells #[.slice ua us.length uc] 76)) := by show _ = _; rw [hW, hW0]
  have hWz : w.heap.size + 1 + 1 ≤ W.heap.size := nb0.z
  clear hu hs hr hW hW0 hz0 hb0 hbW nbw hP tp hB
  go_enter Try.func15, Try.ntmps15
  go_wp2_with fail
  rw [← HW.out]
  go_wp2_with (go_at_call 48; refine C1.mono ?_; rintro e w4 ⟨a', c', rfl, ho4, hc4, hb4⟩; have nb4 := nb0.on hb4; have d0 := nb4.c0; have d1 := nb4.c1; have d2 := nb4.c2; have df := nb4.cf; have hz4 := nb4.z; clear C1)
  obtain ⟨z0, z1, z2⟩ := set3_cells (u := w4) (r := w.heap.size + 1) (x := .int .i64 P.f) (y := .int .i64 P.v) (z := .slice a' (normT (blindAt ss) P).kids.length c') d0 d1 d2
  have hnS : ∀ j, ¬ (W.heap.size ≤ (⟨w.heap.size + 1, j, none⟩ : Addr).block ∧ (⟨w.heap.size + 1, j, none⟩ : Addr).block < w4.heap.size) := fun j q => by have := q.1; simp only at this; omega
  have hoF := ((ho4.setCell ⟨w.heap.size + 1, 0, none⟩ (hnS 0) (.int .i64 P.f)).setCell ⟨w.heap.size + 1, 1, none⟩ (hnS 1) (.int .i64 P.v)).setCell ⟨w.heap.size + 1, 2, none⟩ (hnS 2) (.slice a' (normT (blindAt ss) P).kids.length c')
  have hbF := ((nb4.be.setCell (p := ⟨w.heap.size + 1, 0, none⟩) (by simp) (.int .i64 P.f)).setCell (p := ⟨w.heap.size + 1, 1, none⟩) (by simp) (.int .i64 P.v)).setCell (p := ⟨w.heap.size + 1, 2, none⟩) (by simp) (.slice a' (normT (blindAt ss) P).kids.length c')
  refine bodyPost_ret (v := .agg #[.int .i64 P.f, .int .i64 P.v, .slice a' (normT (blindAt ss) P).kids.length c']) (by simp [results, Try.results15, go_sem, z0, z1, z2]) rfl ⟨a', c', rfl, hoF.mono (fun k hk => ⟨by omega, by simpa using hk.2⟩), hc4, hbF⟩
end Go.Proofs.Ytcbafmohmoicnab

/- How a list of functions that came in as an argument is opened: its cells, and that each part is in its bounds. Conditions: none. -/
namespace Go.Proofs.Ytcbafmohmoicnab
set_option maxRecDepth 100000
open Go.RowKit Go.ChangeShapes Go.WideShapes Go.ChangeAt

theorem cells38 : Try.prog.cellsOf 61 = 3 := by kernel_rfl
theorem cells9 : Try.prog.cellsOf 9 = 1 := by kernel_rfl
theorem cells3i : Try.prog.cellsOf 3 = 1 := by kernel_rfl
theorem cells4 : Try.prog.cellsOf 4 = 1 := by kernel_rfl

set_option maxRecDepth 100000 in
theorem sym_of_trod {H : Type} {enc : TypeId × Value → H} {w : World} {base : Nat} {spare : Nat → Bool} {held : Bool} {n : Nat} {cs : List Value} {x : DataW H × List MemPlace}
    (h : DataW.trod enc Try.prog w base spare held n 61 cs = some x) : ∃ s : SymD, cs = symC s ∧ s.name.size ≤ maxLen ∧ (Lit.int .i64 s.ar).wf = true := by
  obtain ⟨xs, m, rfl, rfl, hlen, hxl, hf⟩ := DataW.trod_struct Try.underlying61 h
  rw [cells38] at hlen
  match cs, hlen with
  | [c0, c1, c2], _ =>
    match xs, hxl with
    | [y0, y1, y2], _ =>
      have h0 : DataW.trod enc Try.prog w base spare held m 9 [c0] = some y0 := by have := hf 0 _ rfl; simpa [cells9] using this
      have h1 : DataW.trod enc Try.prog w base spare held m 3 [c1] = some y1 := by have := hf 1 _ rfl; simpa [cells3i] using this
      have h2 : DataW.trod enc Try.prog w base spare held m 4 [c2] = some y2 := by have := hf 2 _ rfl; simpa [cells4] using this
      obtain ⟨s, e0, _, hs⟩ := DataW.trod_string Try.underlying9 h0
      obtain ⟨z, e1, _, hz⟩ := DataW.trod_int Try.underlying3 h1
      obtain ⟨b, e2, _⟩ := DataW.trod_bool Try.underlying4 h2
      simp at e0 e1 e2
      subst e0 e1 e2
      exact ⟨⟨s, z, b⟩, rfl, hs, hz⟩

set_option maxRecDepth 100000 in
theorem open_syms {H : Type} {enc : TypeId × Value → H} {W : World} {base : Nat} {spare : Nat → Bool} {held : Bool} {v : Value} {d : DataW H} {p : List MemPlace} {a : Option Addr} {len cap : Nat} (hv : v = .slice a len cap)
    (h : DataW.Trod enc Try.prog W base spare held 22 v d p) : ∃ ss : List SymD, len = ss.length ∧ len ≤ maxLen ∧ RdS W a ss ∧ ∀ s ∈ ss, s.name.size ≤ maxLen ∧ (Lit.int .i64 s.ar).wf = true := by
  subst hv
  obtain ⟨fuel, hf⟩ := h
  rcases Deep.open_slice Try.underlying22 hf with ⟨hcs, _⟩ | ⟨x, l, c, m, n, Dd, Pl, hcs, _, hl, hm, hmm, _, hel⟩
  · simp [Value.cells] at hcs
    obtain ⟨rfl, rfl, rfl⟩ := hcs
    exact ⟨[], rfl, Nat.zero_le _, .inl rfl, fun s hs => by simp at hs⟩
  · simp [Value.cells] at hcs
    obtain ⟨rfl, rfl, rfl⟩ := hcs
    rw [cells38] at hel
    have hlm : len ≤ m := by rw [hmm]; split <;> omega
    have hall : ∀ i, i < len → ∃ s : SymD, W.cells? base (x.add (i * 3)) 3 = some (symC s) ∧ s.name.size ≤ maxLen ∧ (Lit.int .i64 s.ar).wf = true := by
      intro i hi
      obtain ⟨cs', h1, h2⟩ := hel i (by omega)
      obtain ⟨s, rfl, h3, h4⟩ := sym_of_trod h2
      exact ⟨s, h1, h3, h4⟩
    obtain ⟨F, hF⟩ := Deep.choose_lt hall
    refine ⟨(List.range len).map F, by simp, by omega, ?_, ?_⟩
    · by_cases h0 : len = 0
      · subst h0; exact .inl rfl
      · have hcell : ∀ i, (hi : i < len) → ∀ j, j < 3 → W.cell? ((x.add (i * 3)).add j) = (symC (F i))[j]? := fun i hi j hj => (World.cells?_some (hF i hi).1).2.2 j hj
        obtain ⟨b, off, spot⟩ := x
        have hc0 := hcell 0 (by omega) 0 (by omega)
        have hspot : spot = none := by
          have h1 : W.cell? (⟨b, off, spot⟩ : Addr) = some (.string (F 0).name) := by simpa [Addr.add, symC] using hc0
          simpa using World.cell?_spot h1
        subst hspot
        have hadd : ∀ i j, ((⟨b, off, none⟩ : Addr).add i).add j = ⟨b, off + i + j, none⟩ := by
          intro i j
          by_cases h1 : i = 0 <;> by_cases h2 : j = 0 <;> simp [Addr.add, h1, h2, Nat.add_assoc]
        have hb : b < W.heap.size := by
          have h1 : W.cell? (⟨b, off, none⟩ : Addr) = some (.string (F 0).name) := by simpa [Addr.add, symC] using hc0
          exact World.block_lt_of_cell? _ _ h1
        refine .inr ⟨b, off, rfl, hb, fun i hi => ?_⟩
        simp at hi
        have g0 := hcell i hi 0 (by omega)
        have g1 := hcell i hi 1 (by omega)
        have g2 := hcell i hi 2 (by omega)
        rw [hadd] at g0 g1 g2
        simp [symC] at g0 g1 g2
        simp [g0, g1, g2]
    · intro s hs
      simp at hs
      obtain ⟨i, hi, rfl⟩ := hs
      exact ⟨(hF i hi).2.1, (hF i hi).2.2⟩
end Go.Proofs.Ytcbafmohmoicnab

/- Contracts of the laws' helpers on what is put for variables: how much it holds, whether two are alike. Conditions: at most 549755813888 parts. -/
namespace Go.Proofs.Ytcbafmohmoicnab
set_option maxRecDepth 100000
open Go.RowKit

set_option maxHeartbeats 800000 in
theorem szBind_any (u : BindD) (a : Option Addr) (c hi : Nat) (m : Int) (w : World) (hm0 : 0 ≤ m) (hm : m ≤ 1048576) (hr : RdK w hi a u.t.kids) (hhi : hi ≤ w.heap.size) :
    Calls Try.prog 41 #[.agg #[.int .i64 u.n, .int .i64 u.t.f, .int .i64 u.t.v, .slice a u.t.kids.length c], .int .i64 m] w fun e w' => e = .returned (.int .i64 (szR u.t.kids m)) ∧ Below w.heap.size w w' := by
  have h0 : Below w.heap.size w (w.alloc (.cells #[.int .i64 u.n, .int .i64 u.t.f, .int .i64 u.t.v, .slice a u.t.kids.length c] 64)) := (Below.refl w.heap.size w).alloc (Nat.le_refl _) _
  have H1 := szTerm_any u.t a c hi m _ hm0 hm (hr.on (h0.mono hhi)) (Nat.le_trans hhi h0.size)
  have hr1 : szR u.t.kids m < 0 → szR u.t.kids m = -1 := by unfold szR; split <;> omega
  generalize szR u.t.kids m = r at *
  by_cases hn : r < 0
  · have hr2 := hr1 hn
    subst hr2
    clear hr1
    go_enter Try.func41, Try.ntmps41
    go_wp2_with (go_at_call 10; refine H1.mono ?_; rintro e w1 ⟨rfl, hb1⟩; clear H1)
    go_ret
    exact ⟨rfl, h0.trans (hb1.mono h0.size)⟩
  · clear hr1
    go_enter Try.func41, Try.ntmps41
    go_wp2_with (go_at_call 10; refine H1.mono ?_; rintro e w1 ⟨rfl, hb1⟩; clear H1)
    go_ret
    exact ⟨rfl, h0.trans (hb1.mono h0.size)⟩

set_option maxHeartbeats 1600000 in
theorem szBindS_any (us : List BindD) (a : Option Addr) (c hi : Nat) (m : Int) (w : World) (hm0 : 0 ≤ m) (hm : m ≤ 1048576) (hl : us.length ≤ 9223372036854775807) (hr : RdU w hi a us) (hhi : hi ≤ w.heap.size) :
    Calls Try.prog 9 #[.slice a us.length c, .int .i64 m] w fun e w' => e = .returned (.int .i64 (szU us m)) ∧ Below w.heap.size w w' := by
  have HR : Hid _ := hr
  clear hr
  by_cases h0 : (us.length : Int) ≤ m
  · have hsub : IntKind.i64.wrap (m - (us.length : Int)) = m - (us.length : Int) := by rw [IntKind.wrap_i64]; omega
    have hnn : ¬ (m - (us.length : Int)) < 0 := by omega
    go_enter Try.func9, Try.ntmps9
    go_wp2_with fail
    go_loopw [1, 5] (fun l i wr => ∃ k : Nat, k ≤ us.length ∧ i = .int .i64 k ∧ l = .int .i64 (m - us.length - (((us.take k).map (fun u => partsL u.t.kids)).sum : Nat)) ∧ (((us.take k).map (fun u => partsL u.t.kids)).sum : Int) ≤ m - us.length ∧ Below w.heap.size w wr) (fun _ i _ => us.length - (intOf i).toNat)
    case atStart => exact ⟨0, Nat.zero_le _, rfl, by simp, by simp; omega, Below.refl _ _⟩
    case round =>
      obtain ⟨k, hk, rfl, rfl, hle, hb⟩ := hrel
      by_cases hk' : k < us.length
      · obtain ⟨b, off, a', c', rfl, hlt, d0, d1, d2, d3, hc', hkr, hz⟩ := RdU.get (HR.out.on (hb.mono hhi)) hk'
        have hki : (k : Int) < (us.length : Int) := by omega
        have HN : Hid _ := sum_nextU hk'
        have HT : Hid _ := sum_takeU us (k + 1)
        obtain ⟨S, hS⟩ : ∃ S, S = ((us.take k).map (fun u => partsL u.t.kids)).sum := ⟨_, rfl⟩
        rw [← hS] at hle HN ⊢
        clear hS
        have C := szBind_any us[k] a' c' hi (m - us.length - (S : Nat)) wr (by omega) (by omega) hkr (Nat.le_trans hhi hb.size)
        generalize us[k] = u at d0 d1 d2 d3 C HN
        by_cases hp : (partsL u.t.kids : Int) ≤ m - us.length - (S : Nat)
        · rw [show szR u.t.kids (m - us.length - (S : Nat)) = m - us.length - (S : Nat) - partsL u.t.kids by unfold szR; rw [if_pos hp]] at C
          have hn2 : ¬ (m - (us.length : Int) - (S : Nat) - (partsL u.t.kids : Int)) < 0 := by omega
          clear hkr hz hc'
          go_wp2_with (go_at_call 41; refine C.mono ?_; rintro e w1 ⟨rfl, hb1⟩; clear C)
          go_roundw
          case rel => exact ⟨k + 1, by omega, by go_num, by rw [HN.out]; congr 1; push_cast; omega, by rw [HN.out]; push_cast; omega, hb.trans (hb1.mono hb.size)⟩
          case measure => simp [intOf]; omega
        · rw [show szR u.t.kids (m - us.length - (S : Nat)) = -1 by unfold szR; rw [if_neg hp]] at C
          have HF : Hid (szU us m = -1) := by
            show _ = _
            unfold szU partsU
            rw [if_neg]
            have h1 := HN.out
            have h2 := HT.out
            push_cast
            omega
          clear hkr hz hc'
          go_wp2_with (go_at_call 41; refine C.mono ?_; rintro e w1 ⟨rfl, hb1⟩; clear C)
          go_ret
          exact ⟨rt_int HF.out.symm, hb.trans (hb1.mono hb.size)⟩
      · have e : k = us.length := by omega
        have HF : Hid (szU us m = m - us.length - (((us.take k).map (fun u => partsL u.t.kids)).sum : Nat)) := by
          show _ = _
          rw [e, List.take_length] at hle ⊢
          unfold szU partsU
          rw [if_pos (by push_cast; omega)]
          push_cast; omega
        have hki : ¬ (k : Int) < (us.length : Int) := by omega
        clear e
        go_wp2_with fail
        go_ret
        exact ⟨rt_int (by rw [HF.out, List.map_take]), hb⟩
  · have hsub : IntKind.i64.wrap (m - (us.length : Int)) = m - (us.length : Int) := by rw [IntKind.wrap_i64]; omega
    have hnn : (m - (us.length : Int)) < 0 := by omega
    have HF : Hid (szU us m = -1) := by
      show _ = _
      unfold szU partsU
      rw [if_neg]
      push_cast
      omega
    go_enter Try.func9, Try.ntmps9
    go_wp2_with fail
    go_ret
    exact ⟨rt_int HF.out.symm, Below.refl _ _⟩

set_option maxHeartbeats 800000 in
theorem eqBind_same (u : BindD) (a a' : Option Addr) (c c' hi : Nat) (w : World) (hp : partsT u.t ≤ 549755813888) (hr : RdK w hi a u.t.kids) (hr' : RdK w hi a' u.t.kids) (hhi : hi ≤ w.heap.size) :
    Calls Try.prog 51 #[.agg #[.int .i64 u.n, .int .i64 u.t.f, .int .i64 u.t.v, .slice a u.t.kids.length c], .agg #[.int .i64 u.n, .int .i64 u.t.f, .int .i64 u.t.v, .slice a' u.t.kids.length c']] w fun e w' => e = .returned (.bool true) ∧ Below w.heap.size w w' := by
  have h0 : Below w.heap.size w ((w.alloc (.cells #[.int .i64 u.n, .int .i64 u.t.f, .int .i64 u.t.v, .slice a u.t.kids.length c] 71)).alloc (.cells #[.int .i64 u.n, .int .i64 u.t.f, .int .i64 u.t.v, .slice a' u.t.kids.length c'] 71)) := ((Below.refl _ _).alloc (Nat.le_refl _) _).alloc (by simp) _
  have H1 := eqTerm_same u.t a a' c c' hi _ hp (hr.on (h0.mono hhi)) (hr'.on (h0.mono hhi)) (Nat.le_trans hhi h0.size)
  go_enter Try.func51, Try.ntmps51
  go_wp2_with (go_at_call 16; refine H1.mono ?_; rintro e w1 ⟨rfl, hb1⟩; clear H1)
  go_ret
  exact ⟨rfl, h0.trans (hb1.mono h0.size)⟩

set_option maxHeartbeats 1600000 in
theorem eqBindS_same (us : List BindD) (a a' : Option Addr) (c c' hi : Nat) (w : World) (hp : partsU us ≤ 549755813887) (hr : RdU w hi a us) (hr' : RdU w hi a' us) (hhi : hi ≤ w.heap.size) :
    Calls Try.prog 18 #[.slice a us.length c, .slice a' us.length c'] w fun e w' => e = .returned (.bool true) ∧ Below w.heap.size w w' := by
  have HR : Hid _ := hr
  have HR' : Hid _ := hr'
  have hlen : us.length ≤ 549755813888 := by unfold partsU at hp; omega
  clear hr hr'
  go_enter Try.func18, Try.ntmps18
  go_wp2_with fail
  go_loopw [5] (fun i wr => ∃ k : Nat, k ≤ us.length ∧ i = .int .i64 k ∧ Below w.heap.size w wr) (fun i _ => us.length - (intOf i).toNat)
  case atStart => exact ⟨0, Nat.zero_le _, rfl, Below.refl _ _⟩
  case round =>
    obtain ⟨k, hk, rfl, hb⟩ := hrel
    by_cases hk' : k < us.length
    · obtain ⟨b, off, x, xc, rfl, hlt, d0, d1, d2, d3, _, hkr, _⟩ := RdU.get (HR.out.on (hb.mono hhi)) hk'
      obtain ⟨b', off', y, yc, rfl, hlt', g0, g1, g2, g3, _, hkr', _⟩ := RdU.get (HR'.out.on (hb.mono hhi)) hk'
      have hki : (k : Int) < (us.length : Int) := by omega
      have hki0 : (0 : Int) ≤ (k : Int) := by omega
      have hpg := partsU_get hk'
      have hpt := partsT_eq us[k].t
      have C := fun (W' : World) (h : Below wr.heap.size wr W') => eqBind_same us[k] x y xc yc hi W' (by omega) (hkr.on (h.mono (Nat.le_trans hhi hb.size))) (hkr'.on (h.mono (Nat.le_trans hhi hb.size))) (Nat.le_trans (Nat.le_trans hhi hb.size) h.size)
      generalize us[k] = u at d0 d1 d2 d3 g0 g1 g2 g3 C
      clear hkr hkr' hpg hpt
      go_wp2_with fail
      have k0 := cellB d0
      have k1 := cellB d1
      have k2 := cellB d2
      have k3 := cellB d3
      have l0 := cellB g0
      have l1 := cellB g1
      have l2 := cellB g2
      have l3 := cellB g3
      refine wp_region_below (by kernel_rfl) (by kernel_rfl) ?_
      repeat (go_big_quiet_step ((go_at_call 51; refine callsB (C _ (BW.b _)))))
      refine wpQuiet_nil ?_
      intro w2 hw'
      have hb2 : Below wr.heap.size wr w2 := by obtain ⟨p, rfl⟩ := hw'; exact p.b
      clear hw' k0 k1 k2 k3 l0 l1 l2 l3
      go_wp2_with fail
      go_roundw
      case rel => exact ⟨k + 1, by omega, by go_num, hb.trans (hb2.mono hb.size)⟩
      case measure => simp [intOf]; omega
    · have hki : ¬ (k : Int) < (us.length : Int) := by omega
      go_wp2_with fail
      go_ret
      exact ⟨rfl, hb⟩
end Go.Proofs.Ytcbafmohmoicnab

