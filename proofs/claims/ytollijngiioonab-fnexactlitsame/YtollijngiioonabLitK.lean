/- When two equations are alike, as the program tells: what they have of numbers compared as a struct, their lists of Kids by slices.EqualFunc. Conditions: at most 549755813888 parts; capacities that hold the lists. -/
import Derived.Test.YtollijngiioonabLitB
import Derived.Test.YtollijngiioonabImp3
import Derived.Test.YtollijngiioonabQB
import Derived.Deep.Cut
namespace Go.Proofs.Ytollijngiioonab
set_option maxRecDepth 100000
open Go.RowKit

def samL (ts us : List TermD) : Bool := ts.length == us.length && sameL ts us
set_option maxHeartbeats 1600000 in
theorem equalKids_any (ks us : List TermD) (a a' : Option Addr) (c c' hi : Nat) (w : World) (hM : partsL ks < 549755813888) (hr : RdK w hi a ks) (hr' : RdK w hi a' us) (hhi : hi ≤ w.heap.size) :
    Calls Try.prog 34 #[.slice a ks.length c, .slice a' us.length c', .func (.func 35) #[] #[]] w fun e w' => e = .returned (.bool (samL ks us)) ∧ Below w.heap.size w w' := by
  have HS : Hid (samL ks us = (ks.length == us.length && sameL ks us)) := rfl
  have hlen := partsL_len ks
  by_cases h3 : ks.length = us.length
  · have HS2 : Hid (samL ks us = sameL ks us) := by show _ = _; rw [HS.out, h3]; simp
    have HR : Hid (RdK w hi a ks) := hr
    have HR' : Hid (RdK w hi a' us) := hr'
    have q3 : ((ks.length : Int) != (us.length : Int)) = false := by simp [h3]
    have H3 : Hid (ks.length = us.length) := h3
    clear hr hr' HS h3
    go_enter Try.func34, Try.ntmps34
    go_wp2_with fail
    go_loopw [17] (fun i wr => ∃ k : Nat, k ≤ ks.length ∧ i = .int .i64 k ∧ Below w.heap.size w wr ∧ Hid (∀ j, (h : j < ks.length) → (h' : j < us.length) → j < k → sameT ks[j] us[j] = true)) (fun i _ => ks.length - (intOf i).toNat)
    case atStart => exact ⟨0, Nat.zero_le _, rfl, Below.refl _ _, fun j _ _ h => absurd h (by omega)⟩
    case round =>
      obtain ⟨k, hk, rfl, hbr, HA⟩ := hrel
      by_cases hk' : k < ks.length
      · have hku : k < us.length := by have := H3.out; omega
        obtain ⟨b, off, e1, c1, rfl, hlt, d0, d1, d2, hl1, hkr⟩ := RdK.kidc (HR.out.on (hbr.mono hhi)) hk'
        obtain ⟨b', off', e2, c2, rfl, hlt', g0, g1, g2, hl2, hkr'⟩ := RdK.kidc (HR'.out.on (hbr.mono hhi)) hku
        have hpg := partsL_get hk'
        have hki : (k : Int) < (ks.length : Int) := by omega
        have hkj : (k : Int) < (us.length : Int) := by omega
        have hwr := Nat.le_trans hhi hbr.size
        have hcb : b < wr.heap.size := by omega
        have hcb' : b' < wr.heap.size := by omega
        have I := fun (w' : World) (h : Below wr.heap.size wr w') => impSame_any (partsT ks[k]) ks[k] us[k] e1 e2 c1 c2 hi w' (Nat.le_refl _) (by omega) (hkr.on (h.mono hwr)) (hkr'.on (h.mono hwr)) (Nat.le_trans hwr h.size) hl1 hl2
        clear HR HR' hkr hkr'
        cases hsm : sameT ks[k] us[k] with
        | true =>
          rw [hsm] at I
          have HA' : Hid (∀ j, (h : j < ks.length) → (h' : j < us.length) → j < k + 1 → sameT ks[j] us[j] = true) := fun j h h' hj => by
            by_cases e : j = k
            · subst e; exact hsm
            · exact HA.out j h h' (by omega)
          clear HA hsm
          go_wp2_with (go_at_call 35; refine (I _ (((Below.refl wr.heap.size wr).alloc (Nat.le_refl _) _).alloc (by simp) _)).mono ?_; rintro e w1 ⟨rfl, hb1⟩; have hbb : Below wr.heap.size wr w1 := (((Below.refl wr.heap.size wr).alloc (Nat.le_refl _) _).alloc (by simp) _).trans (hb1.mono (by simp; omega)); clear hb1)
          go_roundw
          case rel => exact ⟨k + 1, by omega, by go_num, hbr.trans (hbb.mono hbr.size), HA'⟩
          case measure => simp [intOf]; omega
        | false =>
          rw [hsm] at I
          have HF : Hid (samL (ks) us = false) := by show _ = _; rw [HS2.out]; exact sameL_hit hk' hku hsm
          clear HA hsm
          go_wp2_with (go_at_call 35; refine (I _ (((Below.refl wr.heap.size wr).alloc (Nat.le_refl _) _).alloc (by simp) _)).mono ?_; rintro e w1 ⟨rfl, hb1⟩; have hbb : Below wr.heap.size wr w1 := (((Below.refl wr.heap.size wr).alloc (Nat.le_refl _) _).alloc (by simp) _).trans (hb1.mono (by simp; omega)); clear hb1)
          go_ret
          exact ⟨rtB HF.out.symm, hbr.trans (hbb.mono hbr.size)⟩
      · have HT : Hid (samL ks us = true) := by show _ = _; rw [HS2.out]; exact sameL_all H3.out (fun j h h' => HA.out j h h' (by omega))
        go_wp2_with fail
        go_ret
        exact ⟨rtB HT.out.symm, hbr⟩
  · have HF : Hid (samL ks us = false) := by
      show _ = _
      rw [HS.out]
      simp [h3]
    have q3 : ((ks.length : Int) != (us.length : Int)) = true := by simp; omega
    clear hr hr' HS h3
    go_enter Try.func34, Try.ntmps34
    go_wp2_with fail
    go_ret
    exact ⟨rtB HF.out.symm, Below.refl _ _⟩

theorem sameKids_any (t u : TermD) (a a' : Option Addr) (c c' hi : Nat) (w : World) (hM : partsT t ≤ 549755813888) (hr : RdK w hi a t.kids) (hr' : RdK w hi a' u.kids) (hhi : hi ≤ w.heap.size) :
    Calls Try.prog 22 #[.agg #[.int .i64 t.f, .int .i64 t.v, .slice a t.kids.length c], .agg #[.int .i64 u.f, .int .i64 u.v, .slice a' u.kids.length c']] w fun e w' => e = .returned (.bool (samL t.kids u.kids)) ∧ Below w.heap.size w w' := by
  have hb : ∀ o1 o2, Below w.heap.size w ((w.alloc o1).alloc o2) := fun o1 o2 => ((Below.refl _ _).alloc (Nat.le_refl _) o1).alloc (by simp) o2
  have C := fun (W' : World) (h : Below w.heap.size w W') => equalKids_any t.kids u.kids a a' c c' hi W' (by rw [partsT_eq] at hM; omega) (hr.on (h.mono hhi)) (hr'.on (h.mono hhi)) (Nat.le_trans hhi h.size)
  clear hr hr' hM
  go_enter Try.func22, Try.ntmps22
  go_wp2_with (go_at_call 34; refine (C _ (hb _ _)).mono ?_; rintro e w1 ⟨rfl, hb1⟩; have hB1 := (hb _ _).trans (hb1.mono (hb _ _).size); clear hb1)
  go_ret
  exact ⟨rfl, hB1⟩

theorem headOf_any (x : LitD) (a1 a2 : Option Addr) (c1 c2 : Nat) (w : World) :
    Calls Try.prog 21 #[litV x a1 c1 a2 c2] w fun e w' => e = .returned (.agg #[.bool x.p, .int .i64 x.l.f, .int .i64 x.l.v, .int .i64 x.r.f, .int .i64 x.r.v]) ∧ Below w.heap.size w w' := by
  unfold litV
  go_enter Try.func21, Try.ntmps21
  go_wp2_with fail
  exact bodyPost_ret (v := .agg #[.bool x.p, .int .i64 x.l.f, .int .i64 x.l.v, .int .i64 x.r.f, .int .i64 x.r.v]) (by simp [results, Try.results21, go_sem]) rfl ⟨rfl, ((Below.refl _ _).alloc (Nat.le_refl _) _).alloc (by simp) _⟩

theorem eq_termHead (n : Nat) (a b a' b' : Int) (w : World) : (Op.equalIn (n + 2) 47 (.agg #[.int .i64 a, .int .i64 b]) (.agg #[.int .i64 a', .int .i64 b'])).run Try.prog w = .ok (a == a' && b == b') w := by
  have u3 := Try.underlying3
  have a3 := Try.isAgg3
  have z3 := Try.sizeOf3
  rw [show n + 2 = (n + 1) + 1 from rfl, Op.equalIn]
  simp only [Sem.run_bind, run_underlying Try.underlying47, Result.andThen_ok]
  rw [← Array.forIn_toList]
  simp only [List.forIn_cons, List.forIn_nil]
  go_simp
  by_cases h1 : a = a' <;> by_cases h2 : b = b' <;> simp [h1, h2]
def headX (x y : LitD) : Bool := (x.p == y.p) && ((x.l.f == y.l.f && x.l.v == y.l.v) && (x.r.f == y.r.f && x.r.v == y.r.v))
theorem eq_head (p q : Bool) (a b c d a' b' c' d' : Int) (w : World) : (Op.equalIn 10000 49 (.agg #[.bool p, .int .i64 a, .int .i64 b, .int .i64 c, .int .i64 d]) (.agg #[.bool q, .int .i64 a', .int .i64 b', .int .i64 c', .int .i64 d'])).run Try.prog w = .ok ((p == q) && ((a == a' && b == b') && (c == c' && d == d'))) w := by
  have u3 := Try.underlying47
  have a3 := Try.isAgg47
  have z3 := Try.sizeOf47
  have E1 := fun w => eq_termHead 9997 a b a' b' w
  have E2 := fun w => eq_termHead 9997 c d c' d' w
  rw [show (10000 : Nat) = 9999 + 1 from rfl, Op.equalIn]
  simp only [Sem.run_bind, run_underlying Try.underlying49, Result.andThen_ok]
  rw [← Array.forIn_toList]
  simp only [List.forIn_cons, List.forIn_nil]
  go_simp
  by_cases h0 : p = q <;> by_cases h1 : a = a' <;> by_cases h2 : b = b' <;> by_cases h3 : c = c' <;> by_cases h4 : d = d' <;> simp [h0, h1, h2, h3, h4]

set_option maxHeartbeats 3200000 in
theorem impLitSame_any (x y : LitD) (a1 a2 b1 b2 : Option Addr) (c1 c2 d1 d2 hi : Nat) (w : World) (hp1 : partsT x.l ≤ 549755813888) (hp2 : partsT x.r ≤ 549755813888) (hx1 : RdK w hi a1 x.l.kids) (hx2 : RdK w hi a2 x.r.kids) (hy1 : RdK w hi b1 y.l.kids) (hy2 : RdK w hi b2 y.r.kids) (hhi : hi ≤ w.heap.size) :
    Calls Try.prog 9 #[litV x a1 c1 a2 c2, litV y b1 d1 b2 d2] w fun e w' => e = .returned (.bool (sameX x y)) ∧ Below w.heap.size w w' := by
  obtain ⟨W, hW⟩ : ∃ W, W = (w.alloc (.cells #[.bool x.p, .int .i64 x.l.f, .int .i64 x.l.v, .slice a1 x.l.kids.length c1, .int .i64 x.r.f, .int .i64 x.r.v, .slice a2 x.r.kids.length c2] 33)).alloc (.cells #[.bool y.p, .int .i64 y.l.f, .int .i64 y.l.v, .slice b1 y.l.kids.length d1, .int .i64 y.r.f, .int .i64 y.r.v, .slice b2 y.r.kids.length d2] 33) := ⟨_, rfl⟩
  have h0 : Below w.heap.size w W := by rw [hW]; exact ((Below.refl _ _).alloc (Nat.le_refl _) _).alloc (by simp) _
  have p0 : W.cell? ⟨w.heap.size, 0, none⟩ = some (.bool x.p) := by rw [hW]; simp [go_sem]
  have p1 : W.cell? ⟨w.heap.size, 1, none⟩ = some (.int .i64 x.l.f) := by rw [hW]; simp [go_sem]
  have p2 : W.cell? ⟨w.heap.size, 2, none⟩ = some (.int .i64 x.l.v) := by rw [hW]; simp [go_sem]
  have p3 : W.cell? ⟨w.heap.size, 3, none⟩ = some (.slice a1 x.l.kids.length c1) := by rw [hW]; simp [go_sem]
  have p4 : W.cell? ⟨w.heap.size, 4, none⟩ = some (.int .i64 x.r.f) := by rw [hW]; simp [go_sem]
  have p5 : W.cell? ⟨w.heap.size, 5, none⟩ = some (.int .i64 x.r.v) := by rw [hW]; simp [go_sem]
  have p6 : W.cell? ⟨w.heap.size, 6, none⟩ = some (.slice a2 x.r.kids.length c2) := by rw [hW]; simp [go_sem]
  have q0 : W.cell? ⟨w.heap.size + 1, 0, none⟩ = some (.bool y.p) := by rw [hW]; simp [go_sem]
  have q1 : W.cell? ⟨w.heap.size + 1, 1, none⟩ = some (.int .i64 y.l.f) := by rw [hW]; simp [go_sem]
  have q2 : W.cell? ⟨w.heap.size + 1, 2, none⟩ = some (.int .i64 y.l.v) := by rw [hW]; simp [go_sem]
  have q3 : W.cell? ⟨w.heap.size + 1, 3, none⟩ = some (.slice b1 y.l.kids.length d1) := by rw [hW]; simp [go_sem]
  have q4 : W.cell? ⟨w.heap.size + 1, 4, none⟩ = some (.int .i64 y.r.f) := by rw [hW]; simp [go_sem]
  have q5 : W.cell? ⟨w.heap.size + 1, 5, none⟩ = some (.int .i64 y.r.v) := by rw [hW]; simp [go_sem]
  have q6 : W.cell? ⟨w.heap.size + 1, 6, none⟩ = some (.slice b2 y.r.kids.length d2) := by rw [hW]; simp [go_sem]
  have CH := fun (z : LitD) (e1 e2 : Option Addr) (k1 k2 : Nat) (p : BW W) => headOf_any z e1 e2 k1 k2 p.u
  have CL := fun (p : BW W) => sameKids_any x.l y.l a1 b1 c1 d1 hi p.u hp1 ((hx1.on (h0.mono hhi)).on (p.b.mono (Nat.le_trans hhi h0.size))) ((hy1.on (h0.mono hhi)).on (p.b.mono (Nat.le_trans hhi h0.size))) (Nat.le_trans (Nat.le_trans hhi h0.size) p.b.size)
  have CR := fun (p : BW W) => sameKids_any x.r y.r a2 b2 c2 d2 hi p.u hp2 ((hx2.on (h0.mono hhi)).on (p.b.mono (Nat.le_trans hhi h0.size))) ((hy2.on (h0.mono hhi)).on (p.b.mono (Nat.le_trans hhi h0.size))) (Nat.le_trans (Nat.le_trans hhi h0.size) p.b.size)
  have EH := fun w => eq_head x.p y.p x.l.f x.l.v x.r.f x.r.v y.l.f y.l.v y.r.f y.r.v w
  have HS : Hid (sameX x y = (((x.p == y.p) && ((x.l.f == y.l.f && x.l.v == y.l.v) && (x.r.f == y.r.f && x.r.v == y.r.v))) && samL x.l.kids y.l.kids && samL x.r.kids y.r.kids)) := by
    show _ = _
    unfold sameX samL
    rw [sameT_eq, sameT_eq]
    cases x.p == y.p <;> cases x.l.f == y.l.f <;> cases x.l.v == y.l.v <;> cases x.r.f == y.r.f <;> cases x.r.v == y.r.v <;> cases x.l.kids.length == y.l.kids.length <;> cases sameL x.l.kids y.l.kids <;> cases x.r.kids.length == y.r.kids.length <;> cases sameL x.r.kids y.r.kids <;> rfl
  unfold litV at CH ⊢
  clear hx1 hx2 hy1 hy2 hp1 hp2
  generalize ((x.p == y.p) && ((x.l.f == y.l.f && x.l.v == y.l.v) && (x.r.f == y.r.f && x.r.v == y.r.v))) = s0 at EH HS
  generalize samL x.l.kids y.l.kids = s1 at CL HS
  generalize samL x.r.kids y.r.kids = s2 at CR HS
  have k0 := cellB p0
  have k1 := cellB p1
  have k2 := cellB p2
  have k3 := cellB p3
  have k4 := cellB p4
  have k5 := cellB p5
  have k6 := cellB p6
  have m0 := cellB q0
  have m1 := cellB q1
  have m2 := cellB q2
  have m3 := cellB q3
  have m4 := cellB q4
  have m5 := cellB q5
  have m6 := cellB q6
  cases s0
  · have HF : Hid (sameX x y = false) := HS.out.trans rfl
    clear HS
    go_enter Try.func9, Try.ntmps9
    go_upto_region 1 with fail
    rw [← hW]
    refine wp_region_below (by kernel_rfl) (by kernel_rfl) ?_
    repeat (go_big_quiet_step ((first | (go_at_call 21; refine callsB (CH _ _ _ _ _ _)) | (go_at_call_of 22 a1; refine callsB (CL _)) | (go_at_call_of 22 a2; refine callsB (CR _)))))
    refine wpQuiet_nil ?_
    intro wz hw'
    have hbq : Below W.heap.size W wz := by obtain ⟨p, rfl⟩ := hw'; exact p.b
    clear hw' k0 k1 k2 k3 k4 k5 k6 m0 m1 m2 m3 m4 m5 m6
    go_wp2_with fail
    go_ret
    exact ⟨rtB HF.out.symm, h0.trans (hbq.mono h0.size)⟩
  · cases s1
    · have HF : Hid (sameX x y = false) := HS.out.trans rfl
      clear HS
      go_enter Try.func9, Try.ntmps9
      go_upto_region 1 with fail
      rw [← hW]
      refine wp_region_below (by kernel_rfl) (by kernel_rfl) ?_
      repeat (go_big_quiet_step ((first | (go_at_call 21; refine callsB (CH _ _ _ _ _ _)) | (go_at_call_of 22 a1; refine callsB (CL _)) | (go_at_call_of 22 a2; refine callsB (CR _)))))
      refine wpQuiet_nil ?_
      intro wz hw'
      have hbq : Below W.heap.size W wz := by obtain ⟨p, rfl⟩ := hw'; exact p.b
      clear hw' k0 k1 k2 k3 k4 k5 k6 m0 m1 m2 m3 m4 m5 m6
      go_wp2_with fail
      go_ret
      exact ⟨rtB HF.out.symm, h0.trans (hbq.mono h0.size)⟩
    · have HF : Hid (sameX x y = s2) := HS.out.trans (by simp)
      clear HS
      go_enter Try.func9, Try.ntmps9
      go_upto_region 1 with fail
      rw [← hW]
      refine wp_region_below (by kernel_rfl) (by kernel_rfl) ?_
      repeat (go_big_quiet_step ((first | (go_at_call 21; refine callsB (CH _ _ _ _ _ _)) | (go_at_call_of 22 a1; refine callsB (CL _)) | (go_at_call_of 22 a2; refine callsB (CR _)))))
      refine wpQuiet_nil ?_
      intro wz hw'
      have hbq : Below W.heap.size W wz := by obtain ⟨p, rfl⟩ := hw'; exact p.b
      clear hw' k0 k1 k2 k3 k4 k5 k6 m0 m1 m2 m3 m4 m5 m6
      go_wp2_with fail
      go_ret
      exact ⟨rtB HF.out.symm, h0.trans (hbq.mono h0.size)⟩
end Go.Proofs.Ytollijngiioonab
