/- Contracts of the laws' comparison of terms, where both read as the same. Conditions: terms of at most 549755813888 parts. -/
import Derived.Test.YtollijngiioonabProg
import Derived.Test.YtollijngiioonabTermA
import Derived.Deep.RegionHeld3
namespace Go.Proofs.Ytollijngiioonab
set_option maxRecDepth 100000
open Go.RowKit

set_option maxHeartbeats 1600000 in
theorem eqTerm_of (t : TermD) (a a' : Option Addr) (c c' : Nat) (w : World)
    (H : ∀ w', Below w.heap.size w w' → Calls Try.prog 36 #[.slice a t.kids.length c, .slice a' t.kids.length c'] w' fun e w'' => e = .returned (.bool true) ∧ Below w'.heap.size w' w'') :
    Calls Try.prog 23 #[.agg #[.int .i64 t.f, .int .i64 t.v, .slice a t.kids.length c], .agg #[.int .i64 t.f, .int .i64 t.v, .slice a' t.kids.length c']] w fun e w' => e = .returned (.bool true) ∧ Below w.heap.size w w' := by
  generalize t.kids = ks at *
  have h0 : Below w.heap.size w ((w.alloc (.cells #[.int .i64 t.f, .int .i64 t.v, .slice a ks.length c] 31)).alloc (.cells #[.int .i64 t.f, .int .i64 t.v, .slice a' ks.length c'] 31)) := ((Below.refl _ _).alloc (Nat.le_refl _) _).alloc (by simp) _
  have H1 := H _ h0
  clear H
  go_enter Try.func23, Try.ntmps23
  go_wp2_with (go_at_call 36; refine H1.mono ?_; rintro e w1 ⟨rfl, hb1⟩; clear H1)
  go_ret
  exact ⟨rfl, h0.trans (hb1.mono h0.size)⟩

set_option maxHeartbeats 1600000 in
theorem eqTermS_same (N : Nat) : ∀ (ts : List TermD) (a a' : Option Addr) (c c' hi : Nat) (w : World), partsL ts ≤ N → N ≤ 549755813888 → RdK w hi a ts → RdK w hi a' ts → hi ≤ w.heap.size →
    Calls Try.prog 36 #[.slice a ts.length c, .slice a' ts.length c'] w fun e w' => e = .returned (.bool true) ∧ Below w.heap.size w w' := by
  induction N with
  | zero =>
    intro ts a a' c c' hi w hN hM hr hr' hhi
    have h1 := partsL_len ts
    have : ts = [] := List.length_eq_zero_iff.1 (by omega)
    subst this
    go_enter Try.func36, Try.ntmps36
    go_wp2_with fail
    refine wp_loop_rounds 1 ?_
    rw [rounds_succ]
    go_wp2_with fail
    go_ret
    exact ⟨rfl, Below.refl _ _⟩
  | succ N ih =>
    intro ts a a' c c' hi w hN hM hr hr' hhi
    have hlen := partsL_len ts
    have HR : Hid (RdK w hi a ts) := hr
    have HR' : Hid (RdK w hi a' ts) := hr'
    clear hr hr'
    go_enter Try.func36, Try.ntmps36
    go_wp2_with fail
    go_loopw [5] (fun i wr => ∃ k : Nat, k ≤ ts.length ∧ i = .int .i64 k ∧ Below w.heap.size w wr) (fun i _ => ts.length - (intOf i).toNat)
    case atStart => exact ⟨0, Nat.zero_le _, rfl, Below.refl _ _⟩
    case round =>
      obtain ⟨k, hk, rfl, hbr⟩ := hrel
      by_cases hk' : k < ts.length
      · obtain ⟨b, off, e1, c1, rfl, hlt, d0, d1, d2, hkr⟩ := RdK.kid (HR.out.on (hbr.mono hhi)) hk'
        obtain ⟨b', off', e2, c2, rfl, hlt', g0, g1, g2, hkr'⟩ := RdK.kid (HR'.out.on (hbr.mono hhi)) hk'
        have hpg := partsL_get hk'
        have hpt := partsT_eq ts[k]
        have hki : (k : Int) < (ts.length : Int) := by omega
        have hwr := Nat.le_trans hhi hbr.size
        have I := fun (w' : World) (h : Below wr.heap.size wr w') => eqTerm_of ts[k] e1 e2 c1 c2 w' (fun w'' h' => ih ts[k].kids e1 e2 c1 c2 hi w'' (by omega) (by omega) (hkr.on ((h.trans (h'.mono h.size)).mono hwr)) (hkr'.on ((h.trans (h'.mono h.size)).mono hwr)) (Nat.le_trans hwr (Nat.le_trans h.size h'.size)))
        clear HR HR' hkr hkr' hpt
        go_wp2_with fail
        go_region_held3 (fun w' => w'.cell? ⟨b, off + k * 3, none⟩ = some (.int .i64 ts[k].f) ∧ w'.cell? ⟨b, off + k * 3 + 1, none⟩ = some (.int .i64 ts[k].v) ∧ w'.cell? ⟨b, off + k * 3 + 2, none⟩ = some (.slice e1 ts[k].kids.length c1) ∧ w'.cell? ⟨b', off' + k * 3, none⟩ = some (.int .i64 ts[k].f) ∧ w'.cell? ⟨b', off' + k * 3 + 1, none⟩ = some (.int .i64 ts[k].v) ∧ w'.cell? ⟨b', off' + k * 3 + 2, none⟩ = some (.slice e2 ts[k].kids.length c2)) (first | go_keep | exact ⟨keepC hbb d0, keepC hbb d1, keepC hbb d2, keepC hbb g0, keepC hbb g1, keepC hbb g2⟩)
          (first | (go_at_call 23; refine (I _ ?_).mono ?_; exact (Below.refl _ _).drew; rintro e w1 ⟨rfl, hb1⟩; have hbb : Below wr.heap.size wr w1 := (Below.refl _ _).drew.trans hb1; clear hb1))
        go_wp2_with fail
        go_roundw
        case rel => exact ⟨k + 1, by omega, by go_num, hbr.trans (hbb.mono hbr.size)⟩
        case measure => simp [intOf]; omega
      · go_wp2_with fail
        go_ret
        exact ⟨rfl, hbr⟩

theorem eqTerm_same (t : TermD) (a a' : Option Addr) (c c' hi : Nat) (w : World) (hp : partsT t ≤ 549755813888) (hr : RdK w hi a t.kids) (hr' : RdK w hi a' t.kids) (hhi : hi ≤ w.heap.size) :
    Calls Try.prog 23 #[.agg #[.int .i64 t.f, .int .i64 t.v, .slice a t.kids.length c], .agg #[.int .i64 t.f, .int .i64 t.v, .slice a' t.kids.length c']] w fun e w' => e = .returned (.bool true) ∧ Below w.heap.size w w' :=
  eqTerm_of t a a' c c' w (fun w' h => eqTermS_same (partsL t.kids) t.kids a a' c c' hi w' (Nat.le_refl _) (by rw [partsT_eq] at hp; omega) (hr.on (h.mono hhi)) (hr'.on (h.mono hhi)) (Nat.le_trans hhi h.size))
end Go.Proofs.Ytollijngiioonab
