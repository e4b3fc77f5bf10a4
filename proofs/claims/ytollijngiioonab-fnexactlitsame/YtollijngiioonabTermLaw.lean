/- Contracts of the laws' helpers on terms: how much one holds. Conditions: none beyond the reading's. -/
import Derived.Test.YtollijngiioonabProg
import Derived.Test.YtollijngiioonabTermA
import Derived.Deep.RegionHeld3
import Derived.Deep.DeepMust
namespace Go.Proofs.Ytollijngiioonab
set_option maxRecDepth 100000
open Go.RowKit

theorem rt_int {a b : Int} (h : a = b) : Ending.returned (.int .i64 a) = .returned (.int .i64 b) := by rw [h]

set_option maxHeartbeats 1600000 in
theorem szTerm_of (t : TermD) (a : Option Addr) (c : Nat) (m : Int) (w : World)
    (H : ∀ w', Below w.heap.size w w' → Calls Try.prog 32 #[.slice a t.kids.length c, .int .i64 m] w' fun e w'' => e = .returned (.int .i64 (szR t.kids m)) ∧ Below w'.heap.size w' w'') :
    Calls Try.prog 18 #[.agg #[.int .i64 t.f, .int .i64 t.v, .slice a t.kids.length c], .int .i64 m] w fun e w' => e = .returned (.int .i64 (szR t.kids m)) ∧ Below w.heap.size w w' := by
  have h0 : Below w.heap.size w (w.alloc (.cells #[.int .i64 t.f, .int .i64 t.v, .slice a t.kids.length c] 24)) := (Below.refl w.heap.size w).alloc (Nat.le_refl _) _
  have H1 := H _ h0
  clear H
  have hr : szR t.kids m < 0 → szR t.kids m = -1 := by unfold szR; split <;> omega
  generalize szR t.kids m = r at *
  by_cases hn : r < 0
  · have hr1 := hr hn
    subst hr1
    clear hr
    go_enter Try.func18, Try.ntmps18
    go_wp2_with (go_at_call 32; refine H1.mono ?_; rintro e w1 ⟨rfl, hb1⟩; clear H1)
    go_ret
    exact ⟨rfl, h0.trans (hb1.mono h0.size)⟩
  · clear hr
    go_enter Try.func18, Try.ntmps18
    go_wp2_with (go_at_call 32; refine H1.mono ?_; rintro e w1 ⟨rfl, hb1⟩; clear H1)
    go_ret
    exact ⟨rfl, h0.trans (hb1.mono h0.size)⟩

set_option maxHeartbeats 1600000 in
theorem szTermS_any (N : Nat) : ∀ (ts : List TermD) (a : Option Addr) (c hi : Nat) (m : Int) (w : World), partsL ts ≤ N → 0 ≤ m → m ≤ 1048576 → RdK w hi a ts → hi ≤ w.heap.size →
    Calls Try.prog 32 #[.slice a ts.length c, .int .i64 m] w fun e w' => e = .returned (.int .i64 (szR ts m)) ∧ Below w.heap.size w w' := by
  induction N with
  | zero =>
    intro ts a c hi m w hN hm0 hm hr hhi
    have h1 := partsL_len ts
    have : ts = [] := List.length_eq_zero_iff.1 (by omega)
    subst this
    have HS : Hid (szR [] m = m) := by show _ = _; simp [szR, partsL, hm0]
    have hm0' : ¬ m < 0 := by omega
    go_enter Try.func32, Try.ntmps32
    go_wp2_with fail
    refine wp_loop_rounds 1 ?_
    rw [rounds_succ]
    go_wp2_with fail
    go_ret
    exact ⟨rt_int HS.out.symm, Below.refl _ _⟩
  | succ N ih =>
    intro ts a c hi m w hN hm0 hm hr hhi
    have hlen := hr.len
    by_cases hbig : m - (ts.length : Int) < 0
    · have HS : Hid (szR ts m = -1) := by show _ = _; have := partsL_len ts; unfold szR; rw [if_neg (by omega)]
      clear hr
      go_enter Try.func32, Try.ntmps32
      go_wp2_with fail
      go_ret
      exact ⟨rt_int HS.out.symm, Below.refl _ _⟩
    · have HR : Hid (RdK w hi a ts) := hr
      clear hr
      go_enter Try.func32, Try.ntmps32
      go_wp2_with fail
      go_loopw [1, 5] (fun l i wr => ∃ (k : Nat) (x : Int), k ≤ ts.length ∧ i = .int .i64 k ∧ l = .int .i64 x ∧ 0 ≤ x ∧ x ≤ m ∧ Hid (x = m - ts.length + k - partsL (ts.take k)) ∧ Below w.heap.size w wr) (fun _ i _ => ts.length - (intOf i).toNat)
      case atStart => exact ⟨0, m - ts.length, Nat.zero_le _, rfl, rfl, by omega, by omega, by show _ = _; simp [partsL], Below.refl _ _⟩
      case round =>
        obtain ⟨k, x, hk, rfl, rfl, hx0, hx1, HX, hbr⟩ := hrel
        by_cases hk' : k < ts.length
        · obtain ⟨b, off, a', c', rfl, hlt, d0, d1, d2, hkr⟩ := RdK.kid (HR.out.on (hbr.mono hhi)) hk'
          have hpg := partsL_get hk'
          have hpt := partsT_eq ts[k]
          have hki : (k : Int) < (ts.length : Int) := by omega
          have hwr := Nat.le_trans hhi hbr.size
          have S := szTerm_of ts[k] a' c' x wr (fun w' h => ih ts[k].kids a' c' hi x w' (by omega) hx0 (by omega) (hkr.on (h.mono hwr)) (Nat.le_trans hwr h.size))
          have HP := partsL_next hk'
          have HR2 := partsL_rest ts (k + 1)
          have hxo := HX.out
          by_cases hle : (partsL ts[k].kids : Int) ≤ x
          · have e : szR ts[k].kids x = x - partsL ts[k].kids := by unfold szR; rw [if_pos hle]
            rw [e] at S
            have hnn : ¬ x - (partsL ts[k].kids : Int) < 0 := by omega
            have HX' : Hid (x - (partsL ts[k].kids : Int) = m - ts.length + ((k + 1 : Nat) : Int) - partsL (ts.take (k + 1))) := by show _ = _; omega
            clear hkr hxo HP HR2 hpt e
            go_wp2_with (go_at_call 18; refine S.mono ?_; rintro e w1 ⟨rfl, hb1⟩; clear S)
            go_roundw
            case rel => exact ⟨k + 1, _, by omega, by go_num, rfl, by omega, by omega, HX', hbr.trans (hb1.mono hbr.size)⟩
            case measure => simp [intOf]; omega
          · have e : szR ts[k].kids x = -1 := by unfold szR; rw [if_neg hle]
            rw [e] at S
            have HS : Hid (szR ts m = -1) := by show _ = _; unfold szR; rw [if_neg (by omega)]
            clear hkr hxo HP HR2 hpt e
            go_wp2_with (go_at_call 18; refine S.mono ?_; rintro e w1 ⟨rfl, hb1⟩; clear S)
            go_ret
            exact ⟨rt_int HS.out.symm, hbr.trans (hb1.mono hbr.size)⟩
        · have HS : Hid (szR ts m = x) := by
            show _ = _
            have hxo := HX.out
            have e : k = ts.length := by omega
            rw [e, List.take_length] at hxo
            unfold szR; rw [if_pos (by omega)]; omega
          go_wp2_with fail
          go_ret
          exact ⟨rt_int HS.out.symm, hbr⟩

theorem szTerm_any (t : TermD) (a : Option Addr) (c hi : Nat) (m : Int) (w : World) (hm0 : 0 ≤ m) (hm : m ≤ 1048576) (hr : RdK w hi a t.kids) (hhi : hi ≤ w.heap.size) :
    Calls Try.prog 18 #[.agg #[.int .i64 t.f, .int .i64 t.v, .slice a t.kids.length c], .int .i64 m] w fun e w' => e = .returned (.int .i64 (szR t.kids m)) ∧ Below w.heap.size w w' :=
  szTerm_of t a c m w (fun w' h => szTermS_any (partsL t.kids) t.kids a c hi m w' (Nat.le_refl _) hm0 hm (hr.on (h.mono hhi)) (Nat.le_trans hhi h.size))
end Go.Proofs.Ytollijngiioonab
