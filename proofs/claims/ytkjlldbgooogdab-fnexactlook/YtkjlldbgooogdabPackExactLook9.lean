/- What the proof of FnExactLook stands on, part 9 of 9: each piece says what it proves and under which conditions. Conditions: as each piece says. -/
import Derived.Test.YtkjlldbgooogdabPackExactLook8
import Derived.WalkKit
import Derived.ProofKit
import Derived.OpenShut
import Derived.WalkSmall
import Derived.Deep.QuietTactic
import Derived.BigQuiet
import Derived.Lib.Builder
import Derived.Test.YtkjlldbgooogdabProg
/- A term that is made, as the program makes it. Conditions: terms of at most 4194304 parts. -/
namespace Go.Proofs.Ytkjlldbgooogdab
set_option maxRecDepth 100000
open Go.RowKit

/-- While Make goes on: its answer's place. -/
structure MB (w wr : World) : Prop where
  be : Below w.heap.size w wr
  c0 : wr.cell? ⟨w.heap.size, 0, none⟩ = some (.int .i64 0)
  c1 : wr.cell? ⟨w.heap.size, 1, none⟩ = some (.int .i64 0)
  c2 : wr.cell? ⟨w.heap.size, 2, none⟩ = some (.slice none 0 0)
  cf : ∀ j, wr.frozen? ⟨w.heap.size, j, none⟩ = false
  z : w.heap.size + 1 ≤ wr.heap.size
theorem MB.on {w wr wr' : World} (h : MB w wr) (hb : Below wr.heap.size wr wr') : MB w wr' :=
  ⟨h.be.trans (hb.mono h.be.size), keepC hb h.c0, keepC hb h.c1, keepC hb h.c2, fun j => (hb.frozen (p := ⟨w.heap.size, j, none⟩) h.z).trans (h.cf j), Nat.le_trans h.z hb.size⟩
theorem make_end {w w4 : World} {x y : Int} {us : List TermD} {a' : Option Addr} {c' : Nat} (nb4 : MB w w4) (ho4 : OwnS w4 (fun k => w.heap.size + 1 ≤ k ∧ k < w4.heap.size) a' us) :
    (((w4.setCell ⟨w.heap.size, 0, none⟩ (.int .i64 x)).setCell ⟨w.heap.size, 1, none⟩ (.int .i64 y)).setCell ⟨w.heap.size, 2, none⟩ (.slice a' us.length c')).cell? ⟨w.heap.size, 0, none⟩ = some (.int .i64 x) ∧ (((w4.setCell ⟨w.heap.size, 0, none⟩ (.int .i64 x)).setCell ⟨w.heap.size, 1, none⟩ (.int .i64 y)).setCell ⟨w.heap.size, 2, none⟩ (.slice a' us.length c')).cell? ⟨w.heap.size, 1, none⟩ = some (.int .i64 y) ∧ (((w4.setCell ⟨w.heap.size, 0, none⟩ (.int .i64 x)).setCell ⟨w.heap.size, 1, none⟩ (.int .i64 y)).setCell ⟨w.heap.size, 2, none⟩ (.slice a' us.length c')).cell? ⟨w.heap.size, 2, none⟩ = some (.slice a' us.length c') ∧
      OwnS (((w4.setCell ⟨w.heap.size, 0, none⟩ (.int .i64 x)).setCell ⟨w.heap.size, 1, none⟩ (.int .i64 y)).setCell ⟨w.heap.size, 2, none⟩ (.slice a' us.length c')) (fun k => w.heap.size ≤ k ∧ k < (((w4.setCell ⟨w.heap.size, 0, none⟩ (.int .i64 x)).setCell ⟨w.heap.size, 1, none⟩ (.int .i64 y)).setCell ⟨w.heap.size, 2, none⟩ (.slice a' us.length c')).heap.size) a' us ∧ Below w.heap.size w (((w4.setCell ⟨w.heap.size, 0, none⟩ (.int .i64 x)).setCell ⟨w.heap.size, 1, none⟩ (.int .i64 y)).setCell ⟨w.heap.size, 2, none⟩ (.slice a' us.length c')) := by
  obtain ⟨z0, z1, z2⟩ := set3_cells (u := w4) (r := w.heap.size) (x := .int .i64 x) (y := .int .i64 y) (z := .slice a' us.length c') nb4.c0 nb4.c1 nb4.c2
  have hnS : ∀ j, ¬ (w.heap.size + 1 ≤ (⟨w.heap.size, j, none⟩ : Addr).block ∧ (⟨w.heap.size, j, none⟩ : Addr).block < w4.heap.size) := fun j q => by have := q.1; simp only at this; omega
  have hoF := ((ho4.setCell ⟨w.heap.size, 0, none⟩ (hnS 0) (.int .i64 x)).setCell ⟨w.heap.size, 1, none⟩ (hnS 1) (.int .i64 y)).setCell ⟨w.heap.size, 2, none⟩ (hnS 2) (.slice a' us.length c')
  have hbF := ((nb4.be.setCell (p := ⟨w.heap.size, 0, none⟩) (by simp) (.int .i64 x)).setCell (p := ⟨w.heap.size, 1, none⟩) (by simp) (.int .i64 y)).setCell (p := ⟨w.heap.size, 2, none⟩) (by simp) (.slice a' us.length c')
  exact ⟨z0, z1, z2, hoF.mono (fun k hk => ⟨by omega, by simpa using hk.2⟩), hbF⟩

theorem impMake_any (sa : Option Addr) (ss : List SymD) (sc : Nat) (f : Int) (ks : List TermD) (ka : Option Addr) (kc hi : Nat) (w : World) (hs : RdS w sa ss) (hp : partsL ks + 1 ≤ 4194304) (hr : RdK w hi ka ks) (hhi : hi ≤ w.heap.size) (hc : ks.length ≤ kc) (hf : isW f) :
    Calls Try.prog 12 #[.slice sa ss.length sc, .int .i64 f, .slice ka ks.length kc] w fun e w' => ∃ a' c', e = .returned (.agg #[.int .i64 (makeT ss f ks).f, .int .i64 (makeT ss f ks).v, .slice a' (makeT ss f ks).kids.length c']) ∧ OwnS w' (fun k => w.heap.size ≤ k ∧ k < w'.heap.size) a' (makeT ss f ks).kids ∧ (makeT ss f ks).kids.length ≤ c' ∧ Below w.heap.size w w' := by
  obtain ⟨W, hW⟩ : ∃ W, W = (w.alloc (.cells #[.int .i64 0, .int .i64 0, .slice none 0 0] 28)).alloc (.cells #[.int .i64 f, .int .i64 0, .slice ka ks.length kc] 28) := ⟨_, rfl⟩
  have hb0 : Below w.heap.size w W := by rw [hW]; exact ((Below.refl _ _).alloc (Nat.le_refl _) _).alloc (by simp) _
  have hz0 : W.heap.size = w.heap.size + 1 + 1 := by rw [hW]; simp
  have nb0 : MB w W := ⟨hb0, by rw [hW]; simp [go_sem], by rw [hW]; simp [go_sem], by rw [hW]; simp [go_sem], fun j => by rw [hW]; simp [go_sem], by omega⟩
  have t0 : W.cell? ⟨w.heap.size + 1, 0, none⟩ = some (.int .i64 f) := by rw [hW]; simp [go_sem]
  have t1 : W.cell? ⟨w.heap.size + 1, 1, none⟩ = some (.int .i64 0) := by rw [hW]; simp [go_sem]
  have t2 : W.cell? ⟨w.heap.size + 1, 2, none⟩ = some (.slice ka ks.length kc) := by rw [hW]; simp [go_sem]
  have hpm : partsT (.mk f 0 ks) ≤ 4194304 := by rw [partsT]; omega
  have hrW := hr.on (hb0.mono hhi)
  have hsW := hs.below hb0
  have CB := impBlind_any sa ss ss.length sc f W rfl hsW
  have CI := isSym_any sa ss.length sc f W
  by_cases hsy : 0 ≤ f ∧ f < (ss.length : Int)
  · rw [decide_eq_true hsy.1, decide_eq_true hsy.2] at CI
    have hm0 : ¬ (blindAt ss f = true ∧ ks.length ≤ 1) → makeT ss f ks = normT (blindAt ss) (.mk f 0 ks) := by
      intro h
      unfold makeT
      rw [if_neg (fun q => h ⟨q.1, by rw [q.2]; simp⟩), if_neg (fun q => h ⟨q.1, by omega⟩), if_neg (fun q => q hsy)]
    have CT := impNorm_any sa ss sc (.mk f 0 ks) ka kc hi W hsW hpm hrW (Nat.le_trans hhi hb0.size) hc ⟨hf, by show isW 0; unfold isW; omega⟩
    by_cases hB : blindAt ss f = true
    · rw [hB] at CB
      rcases ks with _ | ⟨k, _ | ⟨k2, r⟩⟩
      · have hm : makeT ss f [] = .mk 0 0 [] := by unfold makeT; rw [if_pos ⟨hB, rfl⟩]
        rw [hm]
        simp only [List.length_nil] at hW
        clear hm0 CT hr hhi hc hs hsW hrW
        have d0 := nb0.c0; have d1 := nb0.c1; have d2 := nb0.c2; have df := nb0.cf
        have HW : Hid _ := hW
        clear hW
        go_enter Try.func12, Try.ntmps12
        go_wp2_with (first
          | (go_at_call 39; rw [← HW.out]; refine CI.mono ?_; rintro e w2 ⟨rfl, hw2⟩; subst hw2)
          | (go_at_call 41; refine CB.mono ?_; rintro e w2 ⟨rfl, hw2⟩; subst hw2))
        obtain ⟨z0, z1, z2, hoF, hbF⟩ := make_end (x := 0) (y := 0) (us := []) (a' := none) (c' := 0) nb0 (.nil _ _)
        simp only [List.length_nil] at z0 z1 z2 hoF hbF
        exact bodyPost_ret (v := .agg #[.int .i64 0, .int .i64 0, .slice none [].length 0]) (by simp [results, Try.results12, go_sem, z0, z1, z2]) rfl ⟨none, 0, rfl, hoF, (Nat.le_refl _), hbF⟩
      · have hm : makeT ss f [k] = normT (blindAt ss) k := by unfold makeT; rw [if_neg (by simp), if_pos ⟨hB, rfl⟩]; rfl
        rw [hm]
        obtain ⟨b, off, ak, ck, hka, hlt, q0, q1, q2, hck, hrk, hwk⟩ := hrW.head
        subst hka
        have C := impNorm_any sa ss sc k ak ck hi W hsW (by simp [partsL] at hp; omega) hrk (Nat.le_trans hhi hb0.size) hck hwk
        have e1 : (normT (blindAt ss) k).f = k.f := by rw [normT_eq]; rfl
        have e2 : (normT (blindAt ss) k).v = k.v := by rw [normT_eq]; rfl
        rw [e1, e2]
        generalize (normT (blindAt ss) k).kids = N at C ⊢
        simp only [List.length_cons, List.length_nil, Nat.zero_add] at hW
        clear hm0 CT hr hhi hc hs hsW hrW hrk hck hwk e1 e2 hm
        have HW : Hid _ := hW
        clear hW
        go_enter Try.func12, Try.ntmps12
        go_wp2_with (first
          | (go_at_call 39; rw [← HW.out]; refine CI.mono ?_; rintro e w2 ⟨rfl, hw2⟩; subst hw2)
          | (go_at_call 41; refine CB.mono ?_; rintro e w2 ⟨rfl, hw2⟩; subst hw2)
          | (go_at_call 42; refine C.mono ?_; rintro e w4 ⟨a', c', rfl, ho4, hc4, hb4⟩; have nb4 := nb0.on hb4; have d0 := nb4.c0; have d1 := nb4.c1; have d2 := nb4.c2; have df := nb4.cf; have hz4 : w.heap.size < w4.heap.size := nb4.z; clear C))
        obtain ⟨z0, z1, z2, hoF, hbF⟩ := make_end (x := k.f) (y := k.v) (us := N) (a' := a') (c' := c') nb4 (ho4.mono (fun k hk => ⟨by omega, hk.2⟩))
        exact bodyPost_ret (v := .agg #[.int .i64 k.f, .int .i64 k.v, .slice a' N.length c']) (by simp [results, Try.results12, go_sem, z0, z1, z2]) rfl ⟨a', c', rfl, hoF, hc4, hbF⟩
      · have hm := hm0 (fun q => by have := q.2; simp at this)
        rw [hm, normT_eq]
        rw [normT_eq] at CT
        dsimp only [TermD.f, TermD.v, TermD.kids] at CT ⊢
        generalize normL (blindAt ss) f (k :: k2 :: r) [] = N at CT ⊢
        simp only [List.length_cons] at hW CT t2 ⊢
        have hl0 : ((r.length : Int) + 1 + 1 == 0) = false := by simp; omega
        have hl1 : ((r.length : Int) + 1 + 1 == 1) = false := by simp; omega
        have hl2 : ¬ (r.length : Int) + 1 + 1 = 0 := by omega
        have hl3 : ¬ (r.length : Int) + 1 + 1 = 1 := by omega
        clear hm0 hr hhi hc hs hsW hrW hm hp hpm
        have HW : Hid _ := hW
        clear hW
        go_enter Try.func12, Try.ntmps12
        go_wp2_with (first
          | (go_at_call 39; rw [← HW.out]; refine CI.mono ?_; rintro e w2 ⟨rfl, hw2⟩; subst hw2)
          | (go_at_call 41; refine CB.mono ?_; rintro e w2 ⟨rfl, hw2⟩; subst hw2)
          | (go_at_call 42; refine CT.mono ?_; rintro e w4 ⟨a', c', rfl, ho4, hc4, hb4⟩; have nb4 := nb0.on hb4; have d0 := nb4.c0; have d1 := nb4.c1; have d2 := nb4.c2; have df := nb4.cf; have hz4 : w.heap.size < w4.heap.size := nb4.z; clear CT))
        obtain ⟨z0, z1, z2, hoF, hbF⟩ := make_end (x := f) (y := 0) (us := N) (a' := a') (c' := c') nb4 (ho4.mono (fun k hk => ⟨by omega, hk.2⟩))
        exact bodyPost_ret (v := .agg #[.int .i64 f, .int .i64 0, .slice a' N.length c']) (by simp [results, Try.results12, go_sem, z0, z1, z2]) rfl ⟨a', c', rfl, hoF, hc4, hbF⟩
    · have hBf : blindAt ss f = false := by simpa using hB
      rw [hBf] at CB
      have hm := hm0 (fun q => hB q.1)
      rw [hm, normT_eq]
      rw [normT_eq] at CT
      dsimp only [TermD.f, TermD.v, TermD.kids] at CT ⊢
      generalize normL (blindAt ss) f ks [] = N at CT ⊢
      clear hm0 hr hhi hc hs hsW hrW hm hp hpm
      have HW : Hid _ := hW
      clear hW
      go_enter Try.func12, Try.ntmps12
      go_wp2_with (first
        | (go_at_call 39; rw [← HW.out]; refine CI.mono ?_; rintro e w2 ⟨rfl, hw2⟩; subst hw2)
        | (go_at_call 41; refine CB.mono ?_; rintro e w2 ⟨rfl, hw2⟩; subst hw2)
        | (go_at_call 42; refine CT.mono ?_; rintro e w4 ⟨a', c', rfl, ho4, hc4, hb4⟩; have nb4 := nb0.on hb4; have d0 := nb4.c0; have d1 := nb4.c1; have d2 := nb4.c2; have df := nb4.cf; have hz4 : w.heap.size < w4.heap.size := nb4.z; clear CT))
      obtain ⟨z0, z1, z2, hoF, hbF⟩ := make_end (x := f) (y := 0) (us := N) (a' := a') (c' := c') nb4 (ho4.mono (fun k hk => ⟨by omega, hk.2⟩))
      exact bodyPost_ret (v := .agg #[.int .i64 f, .int .i64 0, .slice a' N.length c']) (by simp [results, Try.results12, go_sem, z0, z1, z2]) rfl ⟨a', c', rfl, hoF, hc4, hbF⟩
  · have hnb : blindAt ss f = false := by
      cases hB : blindAt ss f with
      | false => rfl
      | true => exact absurd (blindAt_lt hB) hsy
    have hm : makeT ss f ks = .mk f 0 ks := by unfold makeT; simp [hnb]; intro h1 h2; exact absurd ⟨h1, h2⟩ hsy
    rw [hm]
    have hdf : (decide (0 ≤ f) && decide (f < (ss.length : Int))) = false := by simp; omega
    rw [hdf] at CI
    have C := copyTerm_any (.mk f 0 ks) ka kc hi W hpm hrW (Nat.le_trans hhi hb0.size) hc ⟨hf, by show isW 0; unfold isW; omega⟩
    dsimp only [TermD.f, TermD.v, TermD.kids] at C ⊢
    clear CB hp hr hhi hc hs hsW hrW
    have HW : Hid _ := hW
    clear hW
    go_enter Try.func12, Try.ntmps12
    go_wp2_with (first
      | (go_at_call 39; rw [← HW.out]; refine CI.mono ?_; rintro e w2 ⟨rfl, hw2⟩; subst hw2)
      | (go_at_call 40; refine C.mono ?_; rintro e w4 ⟨a', c', rfl, ho4, hc4, hb4⟩; have nb4 := nb0.on hb4; have d0 := nb4.c0; have d1 := nb4.c1; have d2 := nb4.c2; have df := nb4.cf; have hz4 : w.heap.size < w4.heap.size := nb4.z; clear C))
    obtain ⟨z0, z1, z2, hoF, hbF⟩ := make_end (x := f) (y := 0) (us := ks) (a' := a') (c' := c') nb4 (ho4.mono (fun k hk => ⟨by omega, hk.2⟩))
    exact bodyPost_ret (v := .agg #[.int .i64 f, .int .i64 0, .slice a' ks.length c']) (by simp [results, Try.results12, go_sem, z0, z1, z2]) rfl ⟨a', c', rfl, hoF, hc4, hbF⟩
end Go.Proofs.Ytkjlldbgooogdab

/- The cursor from which the laws draw, and how memory stands behind a draw. Conditions: none. -/
namespace Go.Proofs.Ytkjlldbgooogdab
set_option maxRecDepth 100000
open Go.RowKit

def isInt (z : Int) : Prop := -9223372036854775808 ≤ z ∧ z ≤ 9223372036854775807
def intsD (zs : List Int) : List Value := zs.map (Value.int .i64)

/-- The slice of bytes that begins at 'a' reads in w as bs, and no cell of it lies in block c. -/
def RdB (w : World) (c : Nat) (a : Option Addr) (bs : List Int) : Prop :=
  (∀ z ∈ bs, 0 ≤ z ∧ z ≤ 255) ∧ (bs = [] ∨ ∃ b off, a = some ⟨b, off, none⟩ ∧ b < w.heap.size ∧ b ≠ c ∧ ∀ i, i < bs.length → w.cell? ⟨b, off + i, none⟩ = some (.int .u8 (bs[i]?.getD 0)))

/-- Block c is a cursor over the code bs. -/
def Cur (T : TypeId) (w : World) (c : Nat) (a : Option Addr) (bs : List Int) (cap : Nat) : Prop :=
  RdB w c a bs ∧ ∃ (i : Nat) (h : Int), i ≤ bs.length ∧ isInt h ∧ w.heap[c]? = some (.cells #[.slice a bs.length cap, .int .i64 i, .int .i64 h] T (0, 0))

theorem and_le (x : Int) (m : Nat) (hm : m < 4611686018427387904) : 0 ≤ bits .and .i64 x (m : Int) ∧ bits .and .i64 x (m : Int) ≤ (m : Int) := by
  have h2 : (BitVec.ofInt 64 (m : Int)).toNat = m := by
    rw [BitVec.ofInt_natCast, BitVec.toNat_ofNat]; exact Nat.mod_eq_of_lt (by omega)
  have h : bits .and .i64 x (m : Int) = IntKind.i64.wrap (((BitVec.ofInt 64 x).toNat &&& m : Nat) : Int) := by
    show IntKind.i64.wrap ((BitVec.ofInt 64 x &&& BitVec.ofInt 64 (m : Int)).toNat : Int) = _
    rw [BitVec.toNat_and, h2]
  have h3 : (BitVec.ofInt 64 x).toNat &&& m ≤ m := Nat.and_le_right
  rw [h, IntKind.wrap_i64]
  omega

theorem and_255 (x : Int) : 0 ≤ bits .and .i64 x 255 ∧ bits .and .i64 x 255 ≤ 255 := and_le x 255 (by omega)

theorem grown_refl (w : World) (row : Option Nat) : w.grownBy w row := ⟨rfl, rfl, rfl, Nat.le_refl _, fun _ _ _ => rfl⟩

theorem grown_then {a w w' : World} {row : Option Nat} (h : a.grownBy w row) (k : w.grownBy w' row) : a.grownBy w' row :=
  ⟨k.os.trans h.os, k.tape.trans h.tape, k.output.trans h.output, Nat.le_trans h.size k.size, fun i hi hr => (k.block i (Nat.lt_of_lt_of_le hi h.size) hr).trans (h.block i hi hr)⟩

theorem grown_draw {a w : World} {row : Option Nat} (h : a.grownBy w row) (n : Nat) : a.grownBy (w.drewN n) row := ⟨h.os, h.tape, h.output, h.size, h.block⟩

theorem grown_set (w : World) (c j : Nat) (v : Value) : w.grownBy (w.setCell ⟨c, j, none⟩ v) (some c) :=
  ⟨rfl, rfl, rfl, by simp [World.setCell], fun k _ hk => Below.heap_setCell w ⟨c, j, none⟩ v k (fun e => hk (by simp [e]))⟩

theorem RdB.grown {w w' : World} {c : Nat} {a : Option Addr} {bs : List Int} (h : RdB w c a bs) (hg : w.grownBy w' (some c)) : RdB w' c a bs := by
  refine ⟨h.1, ?_⟩
  rcases h.2 with h | ⟨b, off, rfl, hlt, hne, hc⟩
  · exact .inl h
  · refine .inr ⟨b, off, rfl, Nat.lt_of_lt_of_le hlt hg.size, hne, fun i hi => ?_⟩
    rw [← hc i hi]
    exact World.cell?_of_block (w := w) (hg.block b hlt (by simp [hne]))

theorem isInt_wrap (x : Int) : isInt (wrap64 x) := bounds_i64 (wrap64_wf x)

theorem Rd.grown {w w' : World} {c g o : Nat} {zs : List Int} (h : ∀ i, i < zs.length → w.cell? ⟨g, o + i, none⟩ = some (.int .i64 (zs[i]?.getD 0))) (hlt : g < w.heap.size) (hne : g ≠ c) (hg : w.grownBy w' (some c)) :
    ∀ i, i < zs.length → w'.cell? ⟨g, o + i, none⟩ = some (.int .i64 (zs[i]?.getD 0)) := by
  intro i hi
  rw [← h i hi]
  exact World.cell?_of_block (w := w) (hg.block g hlt (by simp [hne]))

theorem cell_pick {w : World} {g k : Nat} {zs : List Int} (hk : k < zs.length) (h : ∀ i, i < zs.length → w.cell? ⟨g, 0 + i, none⟩ = some (.int .i64 (zs[i]?.getD 0))) : w.cell? ⟨g, k, none⟩ = some (.int .i64 zs[k]) := by
  have := h k hk
  rw [show 0 + k = k by omega] at this
  rw [this]; simp [hk]

theorem RdB.below {w w' : World} {c : Nat} {a : Option Addr} {bs : List Int} (h : RdB w c a bs) (hg : Below w.heap.size w w') : RdB w' c a bs := by
  refine ⟨h.1, ?_⟩
  rcases h.2 with h | ⟨b, off, rfl, hlt, hne, hc⟩
  · exact .inl h
  · exact .inr ⟨b, off, rfl, Nat.lt_of_lt_of_le hlt hg.size, hne, fun i hi => (hg.cell (p := ⟨b, off + i, none⟩) hlt).trans (hc i hi)⟩

theorem cur_new {T : TypeId} {w : World} {a : Option Addr} {bs : List Int} {cap : Nat} {h : Int} (hr : RdB w w.heap.size a bs) (hh : isInt h) :
    Cur T (w.alloc (.cells #[.slice a bs.length cap, .int .i64 0, .int .i64 h] T)) w.heap.size a bs cap :=
  ⟨hr.below ((Below.refl _ _).alloc (Nat.le_refl _) _), 0, h, Nat.zero_le _, hh, heap_alloc_new w _⟩

theorem Cur.below {T : TypeId} {w w' : World} {c : Nat} {a : Option Addr} {bs : List Int} {cap : Nat} (h : Cur T w c a bs cap) (hb : Below w.heap.size w w') : Cur T w' c a bs cap := by
  obtain ⟨hr, i, x, hi, hx, hk⟩ := h
  have hlt : c < w.heap.size := by
    rcases Nat.lt_or_ge c w.heap.size with h' | h'
    · exact h'
    · simp [Array.getElem?_eq_none h'] at hk
  exact ⟨hr.below hb, i, x, hi, hx, by rw [hb.block c hlt]; exact hk⟩

theorem Cur.lt {T : TypeId} {w : World} {c : Nat} {a : Option Addr} {bs : List Int} {cap : Nat} (h : Cur T w c a bs cap) : c < w.heap.size := by
  obtain ⟨hr, i, x, hi, hx, hk⟩ := h
  rcases Nat.lt_or_ge c w.heap.size with h' | h'
  · exact h'
  · simp [Array.getElem?_eq_none h'] at hk
theorem lit_cells (w : World) (zs : List Int) : ∀ i, i < zs.length → (w.alloc (.cells (intsD zs).toArray 3)).cell? ⟨w.heap.size, 0 + i, none⟩ = some (.int .i64 (zs[i]?.getD 0)) := by
  intro i hi
  rw [World.cell?_alloc_at _ _ _ _ rfl]
  simp [intsD, hi]
theorem lit_strs (w : World) (ss : List ByteArray) : ∀ i, i < ss.length → (w.alloc (.cells (ss.map Value.string).toArray 9)).cell? ⟨w.heap.size, i, none⟩ = some (.string (ss[i]?.getD ByteArray.empty)) := by
  intro i hi
  rw [World.cell?_alloc_at _ _ _ _ rfl]
  simp [hi]
theorem grown_below {w w' : World} {B c : Nat} (hg : w.grownBy w' (some c)) (hB : B ≤ w.heap.size) (hc : B ≤ c) : Below B w w' :=
  (Below.refl B w).grown hg hB (fun k hk => by cases hk; exact hc)
theorem grown_alloc {a w : World} {row : Option Nat} (h : a.grownBy w row) (o : Obj) : a.grownBy (w.alloc o) row :=
  ⟨h.os, h.tape, h.output, Nat.le_trans h.size (by simp), fun i hi hr => (Below.heap_alloc w o i (Nat.lt_of_lt_of_le hi h.size)).trans (h.block i hi hr)⟩
theorem grown_own {a w w' : World} {c g : Nat} (h : a.grownBy w (some c)) (k : w.grownBy w' (some g)) (hg : a.heap.size ≤ g) : a.grownBy w' (some c) :=
  ⟨k.os.trans h.os, k.tape.trans h.tape, k.output.trans h.output, Nat.le_trans h.size k.size, fun i hi hr => (k.block i (Nat.lt_of_lt_of_le hi h.size) (by simp; omega)).trans (h.block i hi hr)⟩
theorem Rd_new {w : World} {a : Option Addr} {bs : List Int} (hr : ∀ c, w.heap.size ≤ c → RdB w c a bs) : bs = [] ∨ ∀ x, a = some x → x.block < w.heap.size := by
  rcases (hr _ (Nat.le_refl _)).2 with h | ⟨b, off, rfl, hlt, _⟩
  · exact .inl h
  · exact .inr fun x hx => by cases hx; exact hlt
theorem codeOn {w w' : World} {a : Option Addr} {bs : List Int} (hr : ∀ c, w.heap.size ≤ c → RdB w c a bs) (hb : Below w.heap.size w w') : ∀ c, w'.heap.size ≤ c → RdB w' c a bs :=
  fun c hc => (hr c (Nat.le_trans hb.size hc)).below hb
theorem Cur.grown {T : TypeId} {w w' : World} {c g : Nat} {a : Option Addr} {bs : List Int} {cap : Nat} {B : Nat} (h : Cur T w c a bs cap) (hg : w.grownBy w' (some g)) (hc : c < B) (hB : B ≤ g) (hbs : bs = [] ∨ ∀ x, a = some x → x.block < B) : Cur T w' c a bs cap := by
  have hlt := h.lt
  obtain ⟨hr, i, x, hi, hx, hk⟩ := h
  refine ⟨⟨hr.1, ?_⟩, i, x, hi, hx, by rw [hg.block c hlt (by simp; omega)]; exact hk⟩
  rcases hr.2 with h | ⟨b, off, rfl, hlt, hne, hcs⟩
  · exact .inl h
  · rcases hbs with rfl | hbs
    · exact .inl rfl
    have hb := hbs _ rfl
    simp at hb
    refine .inr ⟨b, off, rfl, Nat.lt_of_lt_of_le hlt hg.size, hne, fun j hj => ?_⟩
    rw [← hcs j hj]
    exact World.cell?_of_block (w := w) (hg.block b hlt (by simp; omega))
end Go.Proofs.Ytkjlldbgooogdab

/- Contracts of the functions by which the laws draw their inputs from a code. Conditions: the code has at most 1048576 bytes. -/
namespace Go.Proofs.Ytkjlldbgooogdab
set_option maxRecDepth 100000
open Go.RowKit

end Go.Proofs.Ytkjlldbgooogdab

/- A drawn term: whatever the bytes, it owns its memory and is small; only the cursor has turned. Conditions: at most 1048576 bytes. -/
namespace Go.Proofs.Ytkjlldbgooogdab
set_option maxRecDepth 100000
open Go.RowKit

set_option maxHeartbeats 800000 in
theorem l3Var_any (v : Int) (w : World) : Calls Try.prog 55 #[.int .i64 v] w fun e w' => e = .returned (.agg #[.int .i64 (-1), .int .i64 v, .slice none 0 0]) ∧ Below w.heap.size w w' := by
  go_enter Try.func55, Try.ntmps55
  go_wp2
  exact bodyPost_ret (v := .agg #[.int .i64 (-1), .int .i64 v, .slice none 0 0]) (by simp [results, Try.results55, go_sem]) rfl ⟨rfl, (Below.refl _ _).alloc (Nat.le_refl _) _⟩

set_option maxHeartbeats 800000 in
theorem l3Of_any (f : Int) (a : Option Addr) (n c : Nat) (w : World) : Calls Try.prog 36 #[.int .i64 f, .slice a n c] w fun e w' => e = .returned (.agg #[.int .i64 f, .int .i64 0, .slice a n c]) ∧ Below w.heap.size w w' := by
  go_enter Try.func36, Try.ntmps36
  go_wp2
  exact bodyPost_ret (v := .agg #[.int .i64 f, .int .i64 0, .slice a n c]) (by simp [results, Try.results36, go_sem]) rfl ⟨rfl, (Below.refl _ _).alloc (Nat.le_refl _) _⟩

theorem stay_of_grown {w w' : World} {c : Nat} (h : w.grownBy w' (some c)) : Stay (fun k => k ≠ c) w w' := .grown h (fun k e => by cases e; simp)
end Go.Proofs.Ytkjlldbgooogdab

/- What is put for one variable: the program's way and the specification's. Conditions: at most 4194303 parts. -/
namespace Go.Proofs.Ytkjlldbgooogdab
set_option maxRecDepth 100000
open Go.RowKit

/-- What is put for v. -/
def lookT (us : List BindD) (v : Int) : TermD :=
  match us.find? (fun u => u.n == v) with
  | some u => u.t
  | none => .mk (-1) v []
theorem look_hit : ∀ {us : List BindD} {v : Int} {k : Nat} (hk : k < us.length), us[k].n = v → (∀ j, (hj : j < us.length) → j < k → us[j].n ≠ v) → lookT us v = us[k].t
  | [], _, k, hk, _, _ => by simp at hk
  | u :: us, v, 0, _, h, _ => by unfold lookT; rw [List.find?_cons_of_pos (by simpa using h)]; rfl
  | u :: us, v, k + 1, hk, h, hj => by
    have h0 : u.n ≠ v := hj 0 (by simp) (by omega)
    have ih := look_hit (us := us) (v := v) (k := k) (by simpa using hk) (by simpa using h) (fun j hj' hjk => by have := hj (j + 1) (by simpa using hj') (by omega); simpa using this)
    unfold lookT at ih ⊢
    rw [List.find?_cons_of_neg (by simpa using h0)]
    simpa using ih
theorem look_none {us : List BindD} {v : Int} (h : ∀ j, (hj : j < us.length) → us[j].n ≠ v) : lookT us v = .mk (-1) v [] := by
  unfold lookT
  rw [List.find?_eq_none.2 (fun u hu => by
    obtain ⟨j, hj, e⟩ := List.getElem_of_mem hu
    have := h j hj
    rw [e] at this
    simpa using this)]
theorem look_cases (us : List BindD) (v : Int) : (∃ k, ∃ hk : k < us.length, us[k].n = v ∧ (∀ j, (hj : j < us.length) → j < k → us[j].n ≠ v) ∧ lookT us v = us[k].t) ∨ ((∀ j, (hj : j < us.length) → us[j].n ≠ v) ∧ lookT us v = .mk (-1) v []) := by
  by_cases h : ∀ j, (hj : j < us.length) → us[j].n ≠ v
  · exact .inr ⟨h, look_none h⟩
  · simp only [Classical.not_forall, ne_eq, Classical.not_not] at h
    obtain ⟨j, hj, e⟩ := h
    have key : ∀ n j, j ≤ n → (hj : j < us.length) → us[j].n = v → ∃ k, ∃ hk : k < us.length, us[k].n = v ∧ ∀ i, (hi : i < us.length) → i < k → us[i].n ≠ v := by
      intro n
      induction n with
      | zero => intro j hn hj e; have : j = 0 := by omega
                subst this; exact ⟨0, hj, e, fun i _ hi => absurd hi (by omega)⟩
      | succ n ih =>
        intro j hn hj e
        by_cases hs : ∃ i, ∃ hi : i < us.length, i < j ∧ us[i].n = v
        · obtain ⟨i, hi, hij, ei⟩ := hs
          exact ih i (by omega) hi ei
        · exact ⟨j, hj, e, fun i hi hij ei => hs ⟨i, hi, hij, ei⟩⟩
    obtain ⟨k, hk, ek, hh⟩ := key j j (Nat.le_refl _) hj e
    exact .inl ⟨k, hk, ek, hh, look_hit hk ek hh⟩
theorem look_parts {us : List BindD} {v : Int} (hp : partsU us ≤ 4194303) : partsT (lookT us v) ≤ 4194304 := by
  rcases look_cases us v with ⟨k, hk, _, _, e⟩ | ⟨_, e⟩
  · rw [e, partsT_eq]
    have := partsU_get hk
    omega
  · rw [e, partsT_eq]
    show partsL [] + 1 ≤ _
    simp [partsL]

set_option maxHeartbeats 1600000 in
theorem find_any (p : Nat) (us : List BindD) (a : Option Addr) (c hi : Nat) (v : Int) (w : World) (hl : us.length ≤ 4194304) (hp : w.cell? ⟨p, 0, none⟩ = some (.slice a us.length c)) (hr : RdU w hi a us) (hhi : hi ≤ w.heap.size) :
    Calls Try.prog 70 #[.pointer (some ⟨p, 0, none⟩), .int .i64 v] w fun e w' => Below w.heap.size w w' ∧ ((∃ k : Nat, ∃ hk : k < us.length, us[k].n = v ∧ (∀ j, (hj : j < us.length) → j < k → us[j].n ≠ v) ∧ e = .returned (.tuple #[.int .i64 k, .bool true])) ∨ ((∀ j, (hj : j < us.length) → us[j].n ≠ v) ∧ e = .returned (.tuple #[.int .i64 0, .bool false]))) := by
  have HR : Hid _ := hr
  clear hr
  go_enter Try.func70, Try.ntmps70
  go_wp2_with fail
  go_loopw [13] (fun i wr => ∃ k : Nat, i = .int .i64 k ∧ k ≤ us.length ∧ Below w.heap.size w wr ∧ Hid (∀ j, (hj : j < us.length) → j < k → us[j].n ≠ v)) (fun i _ => us.length - (intOf i).toNat)
  case atStart => exact ⟨0, rfl, Nat.zero_le _, Below.refl _ _, fun j _ h => absurd h (Nat.not_lt_zero _)⟩
  case round =>
    obtain ⟨k, rfl, hk, hb, HA⟩ := hrel
    by_cases hk' : k < us.length
    · obtain ⟨b, off, a', c', rfl, hlt, d0, d1, d2, d3, hc', hkr, hz⟩ := RdU.get (HR.out.on (hb.mono hhi)) hk'
      have hki : (k : Int) < (us.length : Int) := by omega
      have hki0 : (0 : Int) ≤ (k : Int) := by omega
      have hnew := hb.alloc hb.size (.cells #[.int .i64 us[k].n, .int .i64 us[k].t.f, .int .i64 us[k].t.v, .slice a' us[k].t.kids.length c'] 73)
      by_cases he : us[k].n = v
      · have HE : Hid (us[k].n = v) := he
        have heb : (us[k].n == v) = true := by simp [he]
        clear he hkr hz hc'
        go_wp2_with fail
        exact bodyPost_ret (v := .tuple #[.int .i64 k, .bool true]) (by simp [results, Try.results70, go_sem]) rfl ⟨hnew, .inl ⟨k, hk', HE.out, HA.out, rfl⟩⟩
      · have HE : Hid (us[k].n ≠ v) := he
        have heb : (us[k].n == v) = false := by simp [he]
        have he2 : ¬ us[k].n = v := he
        clear he hkr hz hc'
        go_wp2_with fail
        go_roundw
        case rel => exact ⟨k + 1, by go_num, by omega, hnew, fun j hj hjk => by
          rcases Nat.lt_or_ge j k with h1 | h1
          · exact HA.out j hj h1
          · have : j = k := by omega
            subst this; exact HE.out⟩
        case measure => simp [intOf]; omega
    · have hki : ¬ (k : Int) < (us.length : Int) := by omega
      go_wp2_with fail
      exact bodyPost_ret (v := .tuple #[.int .i64 0, .bool false]) (by simp [results, Try.results70, go_sem]) rfl ⟨hb, .inr ⟨fun j hj => HA.out j hj (by omega), rfl⟩⟩

/-- The end of a function that answers a term in its place. -/
theorem res_end {w w4 : World} {t : TermD} {a' : Option Addr} {c' : Nat} (nb4 : MB w w4) :
    (((w4.setCell ⟨w.heap.size, 0, none⟩ (.int .i64 t.f)).setCell ⟨w.heap.size, 1, none⟩ (.int .i64 t.v)).setCell ⟨w.heap.size, 2, none⟩ (.slice a' t.kids.length c')).cell? ⟨w.heap.size, 0, none⟩ = some (.int .i64 t.f) ∧ (((w4.setCell ⟨w.heap.size, 0, none⟩ (.int .i64 t.f)).setCell ⟨w.heap.size, 1, none⟩ (.int .i64 t.v)).setCell ⟨w.heap.size, 2, none⟩ (.slice a' t.kids.length c')).cell? ⟨w.heap.size, 1, none⟩ = some (.int .i64 t.v) ∧ (((w4.setCell ⟨w.heap.size, 0, none⟩ (.int .i64 t.f)).setCell ⟨w.heap.size, 1, none⟩ (.int .i64 t.v)).setCell ⟨w.heap.size, 2, none⟩ (.slice a' t.kids.length c')).cell? ⟨w.heap.size, 2, none⟩ = some (.slice a' t.kids.length c') ∧ Below w.heap.size w (((w4.setCell ⟨w.heap.size, 0, none⟩ (.int .i64 t.f)).setCell ⟨w.heap.size, 1, none⟩ (.int .i64 t.v)).setCell ⟨w.heap.size, 2, none⟩ (.slice a' t.kids.length c')) := by
  obtain ⟨z0, z1, z2⟩ := set3_cells (u := w4) (r := w.heap.size) (x := .int .i64 t.f) (y := .int .i64 t.v) (z := .slice a' t.kids.length c') nb4.c0 nb4.c1 nb4.c2
  exact ⟨z0, z1, z2, ((nb4.be.setCell (p := ⟨w.heap.size, 0, none⟩) (by simp) _).setCell (p := ⟨w.heap.size, 1, none⟩) (by simp) _).setCell (p := ⟨w.heap.size, 2, none⟩) (by simp) _⟩

theorem MB.new (w : World) : MB w (w.alloc (.cells #[.int .i64 0, .int .i64 0, .slice none 0 0] 28)) :=
  ⟨(Below.refl _ _).alloc (Nat.le_refl _) _, by simp [go_sem], by simp [go_sem], by simp [go_sem], fun j => by simp [go_sem], by simp⟩

set_option maxHeartbeats 1600000 in
theorem termFor_any (p : Nat) (us : List BindD) (a : Option Addr) (c hi : Nat) (v : Int) (w : World) (hl : us.length ≤ 4194304) (hp : w.cell? ⟨p, 0, none⟩ = some (.slice a us.length c)) (hr : RdU w hi a us) (hhi : hi ≤ w.heap.size) :
    Calls Try.prog 56 #[.pointer (some ⟨p, 0, none⟩), .int .i64 v] w fun e w' => ∃ a' c', e = .returned (.agg #[.int .i64 (lookT us v).f, .int .i64 (lookT us v).v, .slice a' (lookT us v).kids.length c']) ∧ RdK w' hi a' (lookT us v).kids ∧ (lookT us v).kids.length ≤ c' ∧ Below w.heap.size w w' := by
  obtain ⟨W, hW⟩ : ∃ W, W = w.alloc (.cells #[.int .i64 0, .int .i64 0, .slice none 0 0] 28) := ⟨_, rfl⟩
  have nb0 : MB w W := by rw [hW]; exact MB.new w
  have h0 := nb0.be
  have C := find_any p us a c hi v W hl (keepC h0 hp) (hr.on (h0.mono hhi)) (Nat.le_trans hhi h0.size)
  have HP : Hid _ := hp
  have HR : Hid _ := hr
  have HW : Hid _ := hW
  clear hW hp hr
  obtain ⟨T, hT⟩ : ∃ T, T = lookT us v := ⟨_, rfl⟩
  rw [← hT]
  have HT : Hid (T = lookT us v) := hT
  clear hT
  go_enter Try.func56, Try.ntmps56
  go_upto_region 2 with (go_at_call 70; rw [← HW.out]; refine C.mono ?_; rintro e w1 ⟨hb1, hc⟩; have nb1 := nb0.on hb1; have hB1 := h0.trans (hb1.mono h0.size); clear C nb0 h0 hb1; rcases hc with ⟨k, hk, hkn, hlow, rfl⟩ | ⟨hnone, rfl⟩)
  · have e : T = us[k].t := HT.out.trans (look_hit hk hkn hlow)
    subst e
    clear HT
    obtain ⟨b, off, a', c', rfl, hlt, d0, d1, d2, d3, hc', hkr, hz⟩ := RdU.get (HR.out.on (hB1.mono hhi)) hk
    have hki : (k : Int) < (us.length : Int) := by omega
    have hki0 : (0 : Int) ≤ (k : Int) := by omega
    have hp1 := keepC hB1 HP.out
    have n0 := nb1.c0
    have n1 := nb1.c1
    have n2 := nb1.c2
    have nf := nb1.cf
    have nz := nb1.z
    clear hkn hlow hz d0
    go_wp2_with fail
    obtain ⟨z0, z1, z2, hbF⟩ := res_end (t := us[k].t) (a' := a') (c' := c') nb1
    exact bodyPost_ret (v := .agg #[.int .i64 us[k].t.f, .int .i64 us[k].t.v, .slice a' us[k].t.kids.length c']) (by simp [results, Try.results56, go_sem, z0, z1, z2]) rfl ⟨a', c', rfl, RdK.on hkr ((((Below.refl _ _).setCell (p := ⟨w.heap.size, 0, none⟩) hhi _).setCell (p := ⟨w.heap.size, 1, none⟩) hhi _).setCell (p := ⟨w.heap.size, 2, none⟩) hhi _), hc', hbF⟩
  · have e : T = .mk (-1) v [] := HT.out.trans (look_none hnone)
    subst e
    clear HT
    have n0 := nb1.c0
    have n1 := nb1.c1
    have n2 := nb1.c2
    have nf := nb1.cf
    have nz := nb1.z
    clear hnone
    go_wp2_with fail
    obtain ⟨z0, z1, z2, hbF⟩ := res_end (t := .mk (-1) v []) (a' := none) (c' := 0) nb1
    dsimp only [TermD.f, TermD.v, TermD.kids, List.length_nil] at z0 z1 z2 hbF ⊢
    exact bodyPost_ret (v := .agg #[.int .i64 (-1), .int .i64 v, .slice none 0 0]) (by simp [results, Try.results56, go_sem, z0, z1, z2]) rfl ⟨none, 0, rfl, .nil _, Nat.le_refl _, hbF⟩

/-- The numbers of what is put fit. -/
theorem look_wf {us : List BindD} {v : Int} {w : World} {hi : Nat} {a : Option Addr} (hr : RdU w hi a us) (hv : isW v) : isW (lookT us v).f ∧ isW (lookT us v).v := by
  rcases look_cases us v with ⟨k, hk, _, _, e⟩ | ⟨_, e⟩
  · rw [e]
    obtain ⟨_, _, _, _, _, _, _, _, _, _, _, _, q⟩ := hr.get hk
    exact q.2
  · rw [e]
    exact ⟨by show isW (-1); unfold isW; omega, hv⟩

set_option maxHeartbeats 1600000 in
theorem impLook_any (us : List BindD) (a : Option Addr) (c hi : Nat) (v : Int) (w : World) (hp : partsU us ≤ 4194303) (hr : RdU w hi a us) (hhi : hi ≤ w.heap.size) (hv : isW v) :
    Calls Try.prog 26 #[.slice a us.length c, .int .i64 v] w fun e w' => ∃ a' c', e = .returned (.agg #[.int .i64 (lookT us v).f, .int .i64 (lookT us v).v, .slice a' (lookT us v).kids.length c']) ∧ OwnS w' (fun k => w.heap.size ≤ k ∧ k < w'.heap.size) a' (lookT us v).kids ∧ (lookT us v).kids.length ≤ c' ∧ Below w.heap.size w w' := by
  obtain ⟨W, hW⟩ : ∃ W, W = (w.alloc (.cells #[.int .i64 0, .int .i64 0, .slice none 0 0] 28)).alloc (.cells #[.slice a us.length c] 78) := ⟨_, rfl⟩
  have hx : Below (w.alloc (.cells #[.int .i64 0, .int .i64 0, .slice none 0 0] 28)).heap.size (w.alloc (.cells #[.int .i64 0, .int .i64 0, .slice none 0 0] 28)) W := by rw [hW]; exact (Below.refl _ _).alloc (Nat.le_refl _) _
  have nb0 : MB w W := (MB.new w).on hx
  have h0 := nb0.be
  have hl : us.length ≤ 4194304 := by unfold partsU at hp; omega
  have cp : W.cell? ⟨w.heap.size + 1, 0, none⟩ = some (.slice a us.length c) := by rw [hW]; simp [go_sem]
  have C := termFor_any (w.heap.size + 1) us a c hi v W hl cp (hr.on (h0.mono hhi)) (Nat.le_trans hhi h0.size)
  have hpt := look_parts (v := v) hp
  have hwf := look_wf hr hv
  generalize lookT us v = t at C hpt hwf ⊢
  have D := fun (a' : Option Addr) (c' : Nat) (w' : World) (h1 : RdK w' hi a' t.kids) (h2 : hi ≤ w'.heap.size) (h3 : t.kids.length ≤ c') => copyTerm_any t a' c' hi w' hpt h1 h2 h3 hwf
  have HW : Hid _ := hW
  have hhW := Nat.le_trans hhi h0.size
  clear hW hr hp hx hpt cp
  go_enter Try.func26, Try.ntmps26
  go_wp2_with (first
    | (go_at_call 56; rw [← HW.out]; refine C.mono ?_; rintro e w1 ⟨a1, c1, rfl, hr1, hc1, hb1⟩; have nb1 := nb0.on hb1; have hz1 := hb1.size; clear C nb0 HW)
    | (go_at_call 40; refine (D a1 c1 w1 hr1 (Nat.le_trans hhW hz1) hc1).mono ?_; rintro e w4 ⟨a', c', rfl, ho4, hc4, hb4⟩; have nb4 := nb1.on hb4; have n0 := nb4.c0; have n1 := nb4.c1; have n2 := nb4.c2; have nf := nb4.cf; have nz := nb4.z; have hn1 := nb1.z; clear D nb1 hr1 hc1))
  obtain ⟨z0, z1, z2, hoF, hbF⟩ := make_end (x := t.f) (y := t.v) (us := t.kids) (a' := a') (c' := c') nb4 (ho4.mono (fun k hk => ⟨by omega, hk.2⟩))
  exact bodyPost_ret (v := .agg #[.int .i64 t.f, .int .i64 t.v, .slice a' t.kids.length c']) (by simp [results, Try.results26, go_sem, z0, z1, z2]) rfl ⟨a', c', rfl, hoF, hc4, hbF⟩

set_option maxHeartbeats 1600000 in
theorem specLook_any (us : List BindD) (a : Option Addr) (c hi : Nat) (v : Int) (w : World) (hp : partsU us ≤ 4194303) (hr : RdU w hi a us) (hhi : hi ≤ w.heap.size) :
    Calls Try.prog 25 #[.slice a us.length c, .int .i64 v] w fun e w' => ∃ a' c', e = .returned (.agg #[.int .i64 (lookT us v).f, .int .i64 (lookT us v).v, .slice a' (lookT us v).kids.length c']) ∧ OwnS w' (fun k => w.heap.size ≤ k ∧ k < w'.heap.size) a' (lookT us v).kids ∧ (lookT us v).kids.length ≤ c' ∧ Below w.heap.size w w' := by
  have hl : us.length ≤ 4194304 := by unfold partsU at hp; omega
  have nb0 := MB.new w
  have HR : Hid _ := hr
  clear hr
  obtain ⟨T, hT⟩ : ∃ T, T = lookT us v := ⟨_, rfl⟩
  rw [← hT]
  have HT : Hid (T = lookT us v) := hT
  clear hT
  go_enter Try.func25, Try.ntmps25
  go_wp2_with fail
  go_loopw [5] (fun i wr => ∃ k : Nat, i = .int .i64 k ∧ k ≤ us.length ∧ MB w wr ∧ Hid (∀ j, (hj : j < us.length) → j < k → us[j].n ≠ v)) (fun i _ => us.length - (intOf i).toNat)
  case atStart => exact ⟨0, rfl, Nat.zero_le _, nb0, fun j _ h => absurd h (Nat.not_lt_zero _)⟩
  case round =>
    obtain ⟨k, rfl, hk, nb, HA⟩ := hrel
    clear nb0
    have hb := nb.be
    by_cases hk' : k < us.length
    · obtain ⟨b, off, a1, c1, rfl, hlt, d0, d1, d2, d3, hc', hkr, hz⟩ := RdU.get (HR.out.on (hb.mono hhi)) hk'
      have hki : (k : Int) < (us.length : Int) := by omega
      have hki0 : (0 : Int) ≤ (k : Int) := by omega
      by_cases he : us[k].n = v
      · have e : T = us[k].t := HT.out.trans (look_hit hk' he HA.out)
        subst e
        clear HT
        have heb : (us[k].n == v) = true := by simp [he]
        have hpg := partsU_get hk'
        have hpt := partsT_eq us[k].t
        have C := l3Copy_any 4194304 us[k].t a1 c1 hi wr (by omega) (Nat.le_refl _) hkr (Nat.le_trans hhi hb.size) hz.2.1 hz.2.2
        clear HA hpg hpt hkr hz hc'
        go_wp2_with (go_at_call 54; refine C.mono ?_; rintro e w4 ⟨a', c', rfl, ho4, hc4, hb4⟩; have nb4 := nb.on hb4; have n0 := nb4.c0; have n1 := nb4.c1; have n2 := nb4.c2; have nf := nb4.cf; have nz := nb4.z; have hn1 := nb.z; clear C)
        obtain ⟨z0, z1, z2, hoF, hbF⟩ := make_end (x := us[k].t.f) (y := us[k].t.v) (us := us[k].t.kids) (a' := a') (c' := c') nb4 (ho4.s.mono (fun k hk => ⟨by omega, hk.2⟩))
        exact bodyPost_ret (v := .agg #[.int .i64 us[k].t.f, .int .i64 us[k].t.v, .slice a' us[k].t.kids.length c']) (by simp [results, Try.results25, go_sem, z0, z1, z2]) rfl ⟨a', c', rfl, hoF, hc4, hbF⟩
      · have HE : Hid (us[k].n ≠ v) := he
        have heb : (us[k].n == v) = false := by simp [he]
        have he2 : ¬ us[k].n = v := he
        clear he hkr hz hc'
        go_wp2_with fail
        go_roundw
        case rel => exact ⟨k + 1, by go_num, by omega, nb, fun j hj hjk => by
          rcases Nat.lt_or_ge j k with h1 | h1
          · exact HA.out j hj h1
          · have : j = k := by omega
            subst this; exact HE.out⟩
        case measure => simp [intOf]; omega
    · have hki : ¬ (k : Int) < (us.length : Int) := by omega
      have e : T = .mk (-1) v [] := HT.out.trans (look_none (fun j hj => HA.out j hj (by omega)))
      subst e
      clear HT HA
      go_wp2_with (go_at_call 55; refine (l3Var_any v _).mono ?_; rintro e w4 ⟨rfl, hb4⟩; have nb4 := nb.on hb4; have n0 := nb4.c0; have n1 := nb4.c1; have n2 := nb4.c2; have nf := nb4.cf; have nz := nb4.z)
      obtain ⟨z0, z1, z2, hoF, hbF⟩ := make_end (x := -1) (y := v) (us := []) (a' := none) (c' := 0) nb4 (.nil _ _)
      simp only [List.length_nil] at z0 z1 z2 hoF hbF
      exact bodyPost_ret (v := .agg #[.int .i64 (-1), .int .i64 v, .slice none [].length 0]) (by simp [results, Try.results25, go_sem, z0, z1, z2]) rfl ⟨none, 0, rfl, hoF, (Nat.le_refl _), hbF⟩
end Go.Proofs.Ytkjlldbgooogdab

