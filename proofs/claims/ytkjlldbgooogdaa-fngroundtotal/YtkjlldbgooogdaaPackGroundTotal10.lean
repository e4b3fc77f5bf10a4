/- What the proof of FnGroundTotal stands on, part 10 of 10: each piece says what it proves and under which conditions. Conditions: as each piece says. -/
import Derived.Test.YtkjlldbgooogdaaPackGroundTotal9
/- Which of two terms is greater, as the program and the specification tell it. Conditions: terms of at most 1048577 parts. -/
namespace Go.Proofs.Ytkjlldbgooogdaa
set_option maxRecDepth 100000
open Go.RowKit

theorem cmpW_lt {x y : Nat} (h : x < y) : cmpW x y = -1 := by unfold cmpW Lib.compareInt; rw [if_pos (by omega)]
theorem cmpW_gt {x y : Nat} (h : y < x) : cmpW x y = 1 := by unfold cmpW Lib.compareInt; rw [if_neg (by omega), if_pos (by omega)]
theorem cmpW_eq {x y : Nat} (h : x = y) : cmpW x y = 0 := by unfold cmpW Lib.compareInt; rw [if_neg (by omega), if_neg (by omega)]

theorem keep6 {W W' : World} {n : Nat} {x0 x1 x2 y0 y1 y2 : Value} (h : (W.cell? ⟨n, 0, none⟩ = some x0 ∧ W.cell? ⟨n, 1, none⟩ = some x1 ∧ W.cell? ⟨n, 2, none⟩ = some x2) ∧ W.cell? ⟨n + 1, 0, none⟩ = some y0 ∧ W.cell? ⟨n + 1, 1, none⟩ = some y1 ∧ W.cell? ⟨n + 1, 2, none⟩ = some y2) (hb : Below W.heap.size W W') :
    (W'.cell? ⟨n, 0, none⟩ = some x0 ∧ W'.cell? ⟨n, 1, none⟩ = some x1 ∧ W'.cell? ⟨n, 2, none⟩ = some x2) ∧ W'.cell? ⟨n + 1, 0, none⟩ = some y0 ∧ W'.cell? ⟨n + 1, 1, none⟩ = some y1 ∧ W'.cell? ⟨n + 1, 2, none⟩ = some y2 :=
  ⟨⟨keepC hb h.1.1, keepC hb h.1.2.1, keepC hb h.1.2.2⟩, keepC hb h.2.1, keepC hb h.2.2.1, keepC hb h.2.2.2⟩

set_option maxHeartbeats 3200000 in
theorem impGreater_any (sa : Option Addr) (ss : List SymD) (sc : Nat) (hsz : ∀ s ∈ ss, s.name.size ≤ maxLen) (t u : TermD) (a a' : Option Addr) (c c' hi : Nat) (w : World) (hs : RdS w sa ss) (hp : partsT t ≤ 1048577) (hp' : partsT u ≤ 1048577) (hr : RdK w hi a t.kids) (hr' : RdK w hi a' u.kids) (hhi : hi ≤ w.heap.size) (hc : t.kids.length ≤ c) (hc' : u.kids.length ≤ c') :
    Calls Try.prog 30 #[.slice sa ss.length sc, .agg #[.int .i64 t.f, .int .i64 t.v, .slice a t.kids.length c], .agg #[.int .i64 u.f, .int .i64 u.v, .slice a' u.kids.length c']] w fun e w' => e = .returned (.bool (gtrT ss t u)) ∧ Below w.heap.size w w' := by
  obtain ⟨W, hW⟩ : ∃ W, W = (w.alloc (.cells #[.int .i64 t.f, .int .i64 t.v, .slice a t.kids.length c] 27)).alloc (.cells #[.int .i64 u.f, .int .i64 u.v, .slice a' u.kids.length c'] 27) := ⟨_, rfl⟩
  have hWb : Below w.heap.size w W := by rw [hW]; exact ((Below.refl _ _).alloc (Nat.le_refl _) _).alloc (by simp) _
  have P0 : (W.cell? ⟨w.heap.size, 0, none⟩ = some (.int .i64 t.f) ∧ W.cell? ⟨w.heap.size, 1, none⟩ = some (.int .i64 t.v) ∧ W.cell? ⟨w.heap.size, 2, none⟩ = some (.slice a t.kids.length c)) ∧ W.cell? ⟨w.heap.size + 1, 0, none⟩ = some (.int .i64 u.f) ∧ W.cell? ⟨w.heap.size + 1, 1, none⟩ = some (.int .i64 u.v) ∧ W.cell? ⟨w.heap.size + 1, 2, none⟩ = some (.slice a' u.kids.length c') := by rw [hW]; simp [go_sem]
  have KT : ∀ W', Below w.heap.size w W' → Calls Try.prog 25 #[.slice sa ss.length sc, .agg #[.int .i64 t.f, .int .i64 t.v, .slice a t.kids.length c]] W' fun e w' => e = .returned (.bool (tok3 ss t)) ∧ Below W'.heap.size W' w' := fun W' h => impTermOk_all sa ss sc hsz t a c hi W' (hs.below h) (by omega) (hr.on (h.mono hhi)) (Nat.le_trans hhi h.size) hc
  have KU : ∀ W', Below w.heap.size w W' → Calls Try.prog 25 #[.slice sa ss.length sc, .agg #[.int .i64 u.f, .int .i64 u.v, .slice a' u.kids.length c']] W' fun e w' => e = .returned (.bool (tok3 ss u)) ∧ Below W'.heap.size W' w' := fun W' h => impTermOk_all sa ss sc hsz u a' c' hi W' (hs.below h) (by omega) (hr'.on (h.mono hhi)) (Nat.le_trans hhi h.size) hc'
  have KO : ∀ W', Below w.heap.size w W' → Calls Try.prog 65 #[.agg #[.int .i64 t.f, .int .i64 t.v, .slice a t.kids.length c], .agg #[.int .i64 u.f, .int .i64 u.v, .slice a' u.kids.length c']] W' fun e w' => e = .returned (.bool (oftT t u)) ∧ Below W'.heap.size W' w' := fun W' h => standAsOften_any t u a a' c c' hi W' hp hp' (hr.on (h.mono hhi)) (hr'.on (h.mono hhi)) (Nat.le_trans hhi h.size) hc hc'
  have KW : ∀ W', Below w.heap.size w W' → Calls Try.prog 66 #[.func (.func 67) #[.slice sa ss.length sc] #[], .agg #[.int .i64 t.f, .int .i64 t.v, .slice a t.kids.length c], .agg #[.int .i64 u.f, .int .i64 u.v, .slice a' u.kids.length c']] W' fun e w' => e = .returned (.int .i64 (cmpW (wgtT (blindAt ss) t) (wgtT (blindAt ss) u))) ∧ Below W'.heap.size W' w' := fun W' h => orderBy_any sa ss sc t u a a' c c' hi W' (hs.below h) hp hp' (hr.on (h.mono hhi)) (hr'.on (h.mono hhi)) (Nat.le_trans hhi h.size) hc hc'
  have KG : ∀ W', Below w.heap.size w W' → Calls Try.prog 20 #[.agg #[.int .i64 t.f, .int .i64 t.v, .slice a t.kids.length c]] W' fun e w' => e = .returned (.bool (grdT t)) ∧ Below W'.heap.size W' w' := fun W' h => impGround_any t a c hi W' (by omega) (hr.on (h.mono hhi)) (Nat.le_trans hhi h.size) hc
  have KH : ∀ W', Below w.heap.size w W' → Calls Try.prog 20 #[.agg #[.int .i64 u.f, .int .i64 u.v, .slice a' u.kids.length c']] W' fun e w' => e = .returned (.bool (grdT u)) ∧ Below W'.heap.size W' w' := fun W' h => impGround_any u a' c' hi W' (by omega) (hr'.on (h.mono hhi)) (Nat.le_trans hhi h.size) hc'
  have KB : ∀ W', Below w.heap.size w W' → Calls Try.prog 68 #[.agg #[.int .i64 u.f, .int .i64 u.v, .slice a' u.kids.length c'], .agg #[.int .i64 t.f, .int .i64 t.v, .slice a t.kids.length c]] W' fun e w' => e = .returned (.bool (befT u t)) ∧ Below W'.heap.size W' w' := fun W' h => impBef_any 1048577 u t a' a c' c hi W' hp' (by omega) (hr'.on (h.mono hhi)) (hr.on (h.mono hhi)) (Nat.le_trans hhi h.size) hc' hc
  clear hs hr hr'
  unfold gtrT ovrT
  cases h1 : tok3 ss t with
  | false =>
    rw [h1] at KT
    go_enter Try.func30, Try.ntmps30
    go_wp2_with (go_at_call_of 25 t; rw [← hW]; refine (KT _ hWb).mono ?_; rintro e w1 ⟨rfl, hb⟩; have hB1 : Below w.heap.size w w1 := hWb.trans (hb.mono hWb.size); have P := keep6 P0 hb; obtain ⟨⟨p0, p1, p2⟩, q0, q1, q2⟩ := P; clear hb hW)
    go_ret
    exact ⟨rtB (by simp), hB1⟩
  | true =>
    rw [h1] at KT
    cases h2 : tok3 ss u with
    | false =>
      rw [h2] at KU
      go_enter Try.func30, Try.ntmps30
      go_wp2_with (first
        | (go_at_call_of 25 t; rw [← hW]; refine (KT _ hWb).mono ?_; rintro e w1 ⟨rfl, hb⟩; have hB1 : Below w.heap.size w w1 := hWb.trans (hb.mono hWb.size); have P := keep6 P0 hb; obtain ⟨⟨p0, p1, p2⟩, q0, q1, q2⟩ := P; clear hb hW)
        | (go_at_call_of 25 u; refine (KU _ hB1).mono ?_; rintro e w2 ⟨rfl, hb⟩; have hB2 : Below w.heap.size w w2 := hB1.trans (hb.mono hB1.size); have P := keep6 ⟨⟨p0, p1, p2⟩, q0, q1, q2⟩ hb; clear p0 p1 p2 q0 q1 q2; obtain ⟨⟨p0, p1, p2⟩, q0, q1, q2⟩ := P; clear hb hB1))
      go_ret
      exact ⟨rtB (by simp), hB2⟩
    | true =>
      rw [h2] at KU
      cases h3 : oftT t u with
      | false =>
        rw [h3] at KO
        go_enter Try.func30, Try.ntmps30
        go_wp2_with (first
          | (go_at_call_of 25 t; rw [← hW]; refine (KT _ hWb).mono ?_; rintro e w1 ⟨rfl, hb⟩; have hB1 : Below w.heap.size w w1 := hWb.trans (hb.mono hWb.size); have P := keep6 P0 hb; obtain ⟨⟨p0, p1, p2⟩, q0, q1, q2⟩ := P; clear hb hW)
          | (go_at_call_of 25 u; refine (KU _ hB1).mono ?_; rintro e w2 ⟨rfl, hb⟩; have hB2 : Below w.heap.size w w2 := hB1.trans (hb.mono hB1.size); have P := keep6 ⟨⟨p0, p1, p2⟩, q0, q1, q2⟩ hb; clear p0 p1 p2 q0 q1 q2; obtain ⟨⟨p0, p1, p2⟩, q0, q1, q2⟩ := P; clear hb hB1)
          | (go_at_call 65; refine (KO _ hB2).mono ?_; rintro e w3 ⟨rfl, hb⟩; have hB3 : Below w.heap.size w w3 := hB2.trans (hb.mono hB2.size); have P := keep6 ⟨⟨p0, p1, p2⟩, q0, q1, q2⟩ hb; clear p0 p1 p2 q0 q1 q2; obtain ⟨⟨p0, p1, p2⟩, q0, q1, q2⟩ := P; clear hb hB2))
        go_ret
        exact ⟨rtB (by simp), hB3⟩
      | true =>
        rw [h3] at KO
        generalize wgtT (blindAt ss) t = m at KW ⊢
        generalize wgtT (blindAt ss) u = m' at KW ⊢
        rcases Nat.lt_trichotomy m m' with hm | hm | hm
        · rw [cmpW_lt hm] at KW
          have hv : (true && true && true && (decide (m' < m) || (decide (m = m') && grdT t && grdT u && befT u t))) = false := by rw [decide_eq_false (show ¬ m' < m by omega), decide_eq_false (show ¬ m = m' by omega)]; rfl
          rw [hv]
          clear hv hm
          go_enter Try.func30, Try.ntmps30
          go_wp2_with (first
            | (go_at_call_of 25 t; rw [← hW]; refine (KT _ hWb).mono ?_; rintro e w1 ⟨rfl, hb⟩; have hB1 : Below w.heap.size w w1 := hWb.trans (hb.mono hWb.size); have P := keep6 P0 hb; obtain ⟨⟨p0, p1, p2⟩, q0, q1, q2⟩ := P; clear hb hW)
            | (go_at_call_of 25 u; refine (KU _ hB1).mono ?_; rintro e w2 ⟨rfl, hb⟩; have hB2 : Below w.heap.size w w2 := hB1.trans (hb.mono hB1.size); have P := keep6 ⟨⟨p0, p1, p2⟩, q0, q1, q2⟩ hb; clear p0 p1 p2 q0 q1 q2; obtain ⟨⟨p0, p1, p2⟩, q0, q1, q2⟩ := P; clear hb hB1)
            | (go_at_call 65; refine (KO _ hB2).mono ?_; rintro e w3 ⟨rfl, hb⟩; have hB3 : Below w.heap.size w w3 := hB2.trans (hb.mono hB2.size); have P := keep6 ⟨⟨p0, p1, p2⟩, q0, q1, q2⟩ hb; clear p0 p1 p2 q0 q1 q2; obtain ⟨⟨p0, p1, p2⟩, q0, q1, q2⟩ := P; clear hb hB2)
            | (go_at_call 66; refine (KW _ hB3).mono ?_; rintro e w4 ⟨rfl, hb⟩; have hB4 : Below w.heap.size w w4 := hB3.trans (hb.mono hB3.size); have P := keep6 ⟨⟨p0, p1, p2⟩, q0, q1, q2⟩ hb; clear p0 p1 p2 q0 q1 q2; obtain ⟨⟨p0, p1, p2⟩, q0, q1, q2⟩ := P; clear hb hB3))
          go_ret
          exact ⟨rtB (by simp), hB4⟩
        · rw [cmpW_eq hm] at KW
          rw [decide_eq_false (show ¬ m' < m by omega), decide_eq_true hm]
          clear hm
          cases h4 : grdT t with
          | false =>
            rw [h4] at KG
            go_enter Try.func30, Try.ntmps30
            go_wp2_with (first
              | (go_at_call_of 25 t; rw [← hW]; refine (KT _ hWb).mono ?_; rintro e w1 ⟨rfl, hb⟩; have hB1 : Below w.heap.size w w1 := hWb.trans (hb.mono hWb.size); have P := keep6 P0 hb; obtain ⟨⟨p0, p1, p2⟩, q0, q1, q2⟩ := P; clear hb hW)
              | (go_at_call_of 25 u; refine (KU _ hB1).mono ?_; rintro e w2 ⟨rfl, hb⟩; have hB2 : Below w.heap.size w w2 := hB1.trans (hb.mono hB1.size); have P := keep6 ⟨⟨p0, p1, p2⟩, q0, q1, q2⟩ hb; clear p0 p1 p2 q0 q1 q2; obtain ⟨⟨p0, p1, p2⟩, q0, q1, q2⟩ := P; clear hb hB1)
              | (go_at_call 65; refine (KO _ hB2).mono ?_; rintro e w3 ⟨rfl, hb⟩; have hB3 : Below w.heap.size w w3 := hB2.trans (hb.mono hB2.size); have P := keep6 ⟨⟨p0, p1, p2⟩, q0, q1, q2⟩ hb; clear p0 p1 p2 q0 q1 q2; obtain ⟨⟨p0, p1, p2⟩, q0, q1, q2⟩ := P; clear hb hB2)
              | (go_at_call 66; refine (KW _ hB3).mono ?_; rintro e w4 ⟨rfl, hb⟩; have hB4 : Below w.heap.size w w4 := hB3.trans (hb.mono hB3.size); have P := keep6 ⟨⟨p0, p1, p2⟩, q0, q1, q2⟩ hb; clear p0 p1 p2 q0 q1 q2; obtain ⟨⟨p0, p1, p2⟩, q0, q1, q2⟩ := P; clear hb hB3)
              | (go_at_call_of 20 t; refine (KG _ hB4).mono ?_; rintro e w5 ⟨rfl, hb⟩; have hB5 : Below w.heap.size w w5 := hB4.trans (hb.mono hB4.size); have P := keep6 ⟨⟨p0, p1, p2⟩, q0, q1, q2⟩ hb; clear p0 p1 p2 q0 q1 q2; obtain ⟨⟨p0, p1, p2⟩, q0, q1, q2⟩ := P; clear hb hB4))
            go_ret
            exact ⟨rtB (by simp), hB5⟩
          | true =>
            rw [h4] at KG
            cases h5 : grdT u with
            | false =>
              rw [h5] at KH
              go_enter Try.func30, Try.ntmps30
              go_wp2_with (first
                | (go_at_call_of 25 t; rw [← hW]; refine (KT _ hWb).mono ?_; rintro e w1 ⟨rfl, hb⟩; have hB1 : Below w.heap.size w w1 := hWb.trans (hb.mono hWb.size); have P := keep6 P0 hb; obtain ⟨⟨p0, p1, p2⟩, q0, q1, q2⟩ := P; clear hb hW)
                | (go_at_call_of 25 u; refine (KU _ hB1).mono ?_; rintro e w2 ⟨rfl, hb⟩; have hB2 : Below w.heap.size w w2 := hB1.trans (hb.mono hB1.size); have P := keep6 ⟨⟨p0, p1, p2⟩, q0, q1, q2⟩ hb; clear p0 p1 p2 q0 q1 q2; obtain ⟨⟨p0, p1, p2⟩, q0, q1, q2⟩ := P; clear hb hB1)
                | (go_at_call 65; refine (KO _ hB2).mono ?_; rintro e w3 ⟨rfl, hb⟩; have hB3 : Below w.heap.size w w3 := hB2.trans (hb.mono hB2.size); have P := keep6 ⟨⟨p0, p1, p2⟩, q0, q1, q2⟩ hb; clear p0 p1 p2 q0 q1 q2; obtain ⟨⟨p0, p1, p2⟩, q0, q1, q2⟩ := P; clear hb hB2)
                | (go_at_call 66; refine (KW _ hB3).mono ?_; rintro e w4 ⟨rfl, hb⟩; have hB4 : Below w.heap.size w w4 := hB3.trans (hb.mono hB3.size); have P := keep6 ⟨⟨p0, p1, p2⟩, q0, q1, q2⟩ hb; clear p0 p1 p2 q0 q1 q2; obtain ⟨⟨p0, p1, p2⟩, q0, q1, q2⟩ := P; clear hb hB3)
                | (go_at_call_of 20 t; refine (KG _ hB4).mono ?_; rintro e w5 ⟨rfl, hb⟩; have hB5 : Below w.heap.size w w5 := hB4.trans (hb.mono hB4.size); have P := keep6 ⟨⟨p0, p1, p2⟩, q0, q1, q2⟩ hb; clear p0 p1 p2 q0 q1 q2; obtain ⟨⟨p0, p1, p2⟩, q0, q1, q2⟩ := P; clear hb hB4)
                | (go_at_call_of 20 u; refine (KH _ hB5).mono ?_; rintro e w6 ⟨rfl, hb⟩; have hB6 : Below w.heap.size w w6 := hB5.trans (hb.mono hB5.size); have P := keep6 ⟨⟨p0, p1, p2⟩, q0, q1, q2⟩ hb; clear p0 p1 p2 q0 q1 q2; obtain ⟨⟨p0, p1, p2⟩, q0, q1, q2⟩ := P; clear hb hB5))
              go_ret
              exact ⟨rtB (by simp), hB6⟩
            | true =>
              rw [h5] at KH
              generalize befT u t = bv at KB ⊢
              go_enter Try.func30, Try.ntmps30
              go_wp2_with (first
                | (go_at_call_of 25 t; rw [← hW]; refine (KT _ hWb).mono ?_; rintro e w1 ⟨rfl, hb⟩; have hB1 : Below w.heap.size w w1 := hWb.trans (hb.mono hWb.size); have P := keep6 P0 hb; obtain ⟨⟨p0, p1, p2⟩, q0, q1, q2⟩ := P; clear hb hW)
                | (go_at_call_of 25 u; refine (KU _ hB1).mono ?_; rintro e w2 ⟨rfl, hb⟩; have hB2 : Below w.heap.size w w2 := hB1.trans (hb.mono hB1.size); have P := keep6 ⟨⟨p0, p1, p2⟩, q0, q1, q2⟩ hb; clear p0 p1 p2 q0 q1 q2; obtain ⟨⟨p0, p1, p2⟩, q0, q1, q2⟩ := P; clear hb hB1)
                | (go_at_call 65; refine (KO _ hB2).mono ?_; rintro e w3 ⟨rfl, hb⟩; have hB3 : Below w.heap.size w w3 := hB2.trans (hb.mono hB2.size); have P := keep6 ⟨⟨p0, p1, p2⟩, q0, q1, q2⟩ hb; clear p0 p1 p2 q0 q1 q2; obtain ⟨⟨p0, p1, p2⟩, q0, q1, q2⟩ := P; clear hb hB2)
                | (go_at_call 66; refine (KW _ hB3).mono ?_; rintro e w4 ⟨rfl, hb⟩; have hB4 : Below w.heap.size w w4 := hB3.trans (hb.mono hB3.size); have P := keep6 ⟨⟨p0, p1, p2⟩, q0, q1, q2⟩ hb; clear p0 p1 p2 q0 q1 q2; obtain ⟨⟨p0, p1, p2⟩, q0, q1, q2⟩ := P; clear hb hB3)
                | (go_at_call_of 20 t; refine (KG _ hB4).mono ?_; rintro e w5 ⟨rfl, hb⟩; have hB5 : Below w.heap.size w w5 := hB4.trans (hb.mono hB4.size); have P := keep6 ⟨⟨p0, p1, p2⟩, q0, q1, q2⟩ hb; clear p0 p1 p2 q0 q1 q2; obtain ⟨⟨p0, p1, p2⟩, q0, q1, q2⟩ := P; clear hb hB4)
                | (go_at_call_of 20 u; refine (KH _ hB5).mono ?_; rintro e w6 ⟨rfl, hb⟩; have hB6 : Below w.heap.size w w6 := hB5.trans (hb.mono hB5.size); have P := keep6 ⟨⟨p0, p1, p2⟩, q0, q1, q2⟩ hb; clear p0 p1 p2 q0 q1 q2; obtain ⟨⟨p0, p1, p2⟩, q0, q1, q2⟩ := P; clear hb hB5)
                | (go_at_call 68; refine (KB _ hB6).mono ?_; rintro e w7 ⟨rfl, hb⟩; have hB7 : Below w.heap.size w w7 := hB6.trans (hb.mono hB6.size); have P := keep6 ⟨⟨p0, p1, p2⟩, q0, q1, q2⟩ hb; clear p0 p1 p2 q0 q1 q2; obtain ⟨⟨p0, p1, p2⟩, q0, q1, q2⟩ := P; clear hb hB6))
              go_ret
              exact ⟨rtB (by simp), hB7⟩
        · rw [cmpW_gt hm] at KW
          rw [decide_eq_true hm]
          clear hm
          go_enter Try.func30, Try.ntmps30
          go_wp2_with (first
            | (go_at_call_of 25 t; rw [← hW]; refine (KT _ hWb).mono ?_; rintro e w1 ⟨rfl, hb⟩; have hB1 : Below w.heap.size w w1 := hWb.trans (hb.mono hWb.size); have P := keep6 P0 hb; obtain ⟨⟨p0, p1, p2⟩, q0, q1, q2⟩ := P; clear hb hW)
            | (go_at_call_of 25 u; refine (KU _ hB1).mono ?_; rintro e w2 ⟨rfl, hb⟩; have hB2 : Below w.heap.size w w2 := hB1.trans (hb.mono hB1.size); have P := keep6 ⟨⟨p0, p1, p2⟩, q0, q1, q2⟩ hb; clear p0 p1 p2 q0 q1 q2; obtain ⟨⟨p0, p1, p2⟩, q0, q1, q2⟩ := P; clear hb hB1)
            | (go_at_call 65; refine (KO _ hB2).mono ?_; rintro e w3 ⟨rfl, hb⟩; have hB3 : Below w.heap.size w w3 := hB2.trans (hb.mono hB2.size); have P := keep6 ⟨⟨p0, p1, p2⟩, q0, q1, q2⟩ hb; clear p0 p1 p2 q0 q1 q2; obtain ⟨⟨p0, p1, p2⟩, q0, q1, q2⟩ := P; clear hb hB2)
            | (go_at_call 66; refine (KW _ hB3).mono ?_; rintro e w4 ⟨rfl, hb⟩; have hB4 : Below w.heap.size w w4 := hB3.trans (hb.mono hB3.size); have P := keep6 ⟨⟨p0, p1, p2⟩, q0, q1, q2⟩ hb; clear p0 p1 p2 q0 q1 q2; obtain ⟨⟨p0, p1, p2⟩, q0, q1, q2⟩ := P; clear hb hB3))
          go_ret
          exact ⟨rtB (by simp), hB4⟩
end Go.Proofs.Ytkjlldbgooogdaa

/- Which of two terms is greater, as the specification tells it. Conditions: terms of at most 1048577 parts, at most 1048577 functions. -/
namespace Go.Proofs.Ytkjlldbgooogdaa
set_option maxRecDepth 100000
open Go.RowKit

set_option maxHeartbeats 6400000 in
theorem specGreater_any (sa : Option Addr) (ss : List SymD) (sc : Nat) (hss : ss.length ≤ 1048577) (hnm : ∀ s ∈ ss, s.name.size ≤ 1048576) (t u : TermD) (a a' : Option Addr) (c c' hi : Nat) (w : World) (hf : isW t.f) (hf' : isW u.f) (hs : RdS w sa ss) (hp : partsT t ≤ 1048577) (hp' : partsT u ≤ 1048577) (hr : RdK w hi a t.kids) (hr' : RdK w hi a' u.kids) (hhi : hi ≤ w.heap.size) :
    Calls Try.prog 31 #[.slice sa ss.length sc, .agg #[.int .i64 t.f, .int .i64 t.v, .slice a t.kids.length c], .agg #[.int .i64 u.f, .int .i64 u.v, .slice a' u.kids.length c']] w fun e w' => e = .returned (.bool (gtrT ss t u)) ∧ Below w.heap.size w w' := by
  obtain ⟨W, hW⟩ : ∃ W, W = (w.alloc (.cells #[.int .i64 t.f, .int .i64 t.v, .slice a t.kids.length c] 27)).alloc (.cells #[.int .i64 u.f, .int .i64 u.v, .slice a' u.kids.length c'] 27) := ⟨_, rfl⟩
  have hWb : Below w.heap.size w W := by rw [hW]; exact ((Below.refl _ _).alloc (Nat.le_refl _) _).alloc (by simp) _
  have P0 : (W.cell? ⟨w.heap.size, 0, none⟩ = some (.int .i64 t.f) ∧ W.cell? ⟨w.heap.size, 1, none⟩ = some (.int .i64 t.v) ∧ W.cell? ⟨w.heap.size, 2, none⟩ = some (.slice a t.kids.length c)) ∧ W.cell? ⟨w.heap.size + 1, 0, none⟩ = some (.int .i64 u.f) ∧ W.cell? ⟨w.heap.size + 1, 1, none⟩ = some (.int .i64 u.v) ∧ W.cell? ⟨w.heap.size + 1, 2, none⟩ = some (.slice a' u.kids.length c') := by rw [hW]; simp [go_sem]
  have KT : ∀ W', Below w.heap.size w W' → Calls Try.prog 26 #[.slice sa ss.length sc, .agg #[.int .i64 t.f, .int .i64 t.v, .slice a t.kids.length c]] W' fun e w' => e = .returned (.bool (tok3 ss t)) ∧ Below W'.heap.size W' w' := fun W' h => specTermOk_any sa ss sc hss hnm t a c hi W' hf (hs.below h) (by omega) (hr.on (h.mono hhi)) (Nat.le_trans hhi h.size)
  have KU : ∀ W', Below w.heap.size w W' → Calls Try.prog 26 #[.slice sa ss.length sc, .agg #[.int .i64 u.f, .int .i64 u.v, .slice a' u.kids.length c']] W' fun e w' => e = .returned (.bool (tok3 ss u)) ∧ Below W'.heap.size W' w' := fun W' h => specTermOk_any sa ss sc hss hnm u a' c' hi W' hf' (hs.below h) (by omega) (hr'.on (h.mono hhi)) (Nat.le_trans hhi h.size)
  have KV : ∀ W', Below w.heap.size w W' → Calls Try.prog 19 #[.agg #[.int .i64 u.f, .int .i64 u.v, .slice a' u.kids.length c']] W' fun e w' => ∃ g' c', e = .returned (.slice (some ⟨g', 0, none⟩) (varsT u []).length c') ∧ OutRow w' W'.heap.size g' c' (varsT u []) ∧ Below W'.heap.size W' w' := fun W' h => specVarsOf_any u a' c' hi W' hp' (hr'.on (h.mono hhi)) (Nat.le_trans hhi h.size)
  have KC : Hid (∀ x W', Below w.heap.size w W' → Calls Try.prog 69 #[.agg #[.int .i64 t.f, .int .i64 t.v, .slice a t.kids.length c], .int .i64 x] W' fun e w' => e = .returned (.int .i64 (cntT x t)) ∧ Below W'.heap.size W' w') := fun x W' h => specCount_any 1048577 t a c hi x W' hp (by omega) (hr.on (h.mono hhi)) (Nat.le_trans hhi h.size)
  have KD : Hid (∀ x W', Below w.heap.size w W' → Calls Try.prog 69 #[.agg #[.int .i64 u.f, .int .i64 u.v, .slice a' u.kids.length c'], .int .i64 x] W' fun e w' => e = .returned (.int .i64 (cntT x u)) ∧ Below W'.heap.size W' w') := fun x W' h => specCount_any 1048577 u a' c' hi x W' hp' (by omega) (hr'.on (h.mono hhi)) (Nat.le_trans hhi h.size)
  have KW : ∀ W', Below w.heap.size w W' → Calls Try.prog 28 #[.slice sa ss.length sc, .agg #[.int .i64 t.f, .int .i64 t.v, .slice a t.kids.length c]] W' fun e w' => e = .returned (.int .i64 (wgtT (blindAt ss) t : Nat)) ∧ Below W'.heap.size W' w' := fun W' h => specWeight_any sa ss sc hss 1048577 t a c hi W' hf (hs.below h) hp (by omega) (hr.on (h.mono hhi)) (Nat.le_trans hhi h.size)
  have KX : ∀ W', Below w.heap.size w W' → Calls Try.prog 28 #[.slice sa ss.length sc, .agg #[.int .i64 u.f, .int .i64 u.v, .slice a' u.kids.length c']] W' fun e w' => e = .returned (.int .i64 (wgtT (blindAt ss) u : Nat)) ∧ Below W'.heap.size W' w' := fun W' h => specWeight_any sa ss sc hss 1048577 u a' c' hi W' hf' (hs.below h) hp' (by omega) (hr'.on (h.mono hhi)) (Nat.le_trans hhi h.size)
  have KG : ∀ W', Below w.heap.size w W' → Calls Try.prog 70 #[.agg #[.int .i64 t.f, .int .i64 t.v, .slice a t.kids.length c]] W' fun e w' => e = .returned (.bool (grdT t)) ∧ Below W'.heap.size W' w' := fun W' h => specGround_any t a c hi W' hp (hr.on (h.mono hhi)) (Nat.le_trans hhi h.size)
  have KH : ∀ W', Below w.heap.size w W' → Calls Try.prog 70 #[.agg #[.int .i64 u.f, .int .i64 u.v, .slice a' u.kids.length c']] W' fun e w' => e = .returned (.bool (grdT u)) ∧ Below W'.heap.size W' w' := fun W' h => specGround_any u a' c' hi W' hp' (hr'.on (h.mono hhi)) (Nat.le_trans hhi h.size)
  have KB : ∀ W', Below w.heap.size w W' → Calls Try.prog 71 #[.agg #[.int .i64 u.f, .int .i64 u.v, .slice a' u.kids.length c'], .agg #[.int .i64 t.f, .int .i64 t.v, .slice a t.kids.length c]] W' fun e w' => e = .returned (.bool (befT u t)) ∧ Below W'.heap.size W' w' := fun W' h => specBefore_any 1048577 u t a' a c' c hi W' hp' (by omega) (hr'.on (h.mono hhi)) (hr.on (h.mono hhi)) (Nat.le_trans hhi h.size)
  have hvl := vars_len u
  clear hs hr hr' hf hf'
  unfold gtrT ovrT oftT
  obtain ⟨zs, hzs⟩ : ∃ zs, zs = varsT u [] := ⟨_, rfl⟩
  rw [← hzs] at KV hvl ⊢
  clear hzs
  cases h1 : tok3 ss t with
  | false =>
    rw [h1] at KT
    clear KU KV KW KX KG KH KB
    go_enter Try.func31, Try.ntmps31
    go_wp2_with (go_at_call_of 26 t; rw [← hW]; refine (KT _ hWb).mono ?_; rintro e w1 ⟨rfl, hb⟩; have hB1 : Below w.heap.size w w1 := hWb.trans (hb.mono hWb.size); have P := keep6 P0 hb; obtain ⟨⟨p0, p1, p2⟩, q0, q1, q2⟩ := P; clear hb hW)
    go_ret
    exact ⟨rtB (by simp), hB1⟩
  | true =>
    rw [h1] at KT
    cases h2 : tok3 ss u with
    | false =>
      rw [h2] at KU
      clear KV KW KX KG KH KB
      go_enter Try.func31, Try.ntmps31
      go_wp2_with (first
        | (go_at_call_of 26 t; rw [← hW]; refine (KT _ hWb).mono ?_; rintro e w1 ⟨rfl, hb⟩; have hB1 : Below w.heap.size w w1 := hWb.trans (hb.mono hWb.size); have P := keep6 P0 hb; obtain ⟨⟨p0, p1, p2⟩, q0, q1, q2⟩ := P; clear hb hW)
        | (go_at_call_of 26 u; refine (KU _ hB1).mono ?_; rintro e w2 ⟨rfl, hb⟩; have hB2 : Below w.heap.size w w2 := hB1.trans (hb.mono hB1.size); have P := keep6 ⟨⟨p0, p1, p2⟩, q0, q1, q2⟩ hb; clear p0 p1 p2 q0 q1 q2; obtain ⟨⟨p0, p1, p2⟩, q0, q1, q2⟩ := P; clear hb hB1))
      go_ret
      exact ⟨rtB (by simp), hB2⟩
    | true =>
      rw [h2] at KU
      generalize wgtT (blindAt ss) t = m at KW ⊢
      generalize wgtT (blindAt ss) u = m' at KX ⊢
      generalize grdT t = gt at KG ⊢
      generalize grdT u = gu at KH ⊢
      generalize befT u t = bv at KB ⊢
      go_enter Try.func31, Try.ntmps31
      go_wp2_with (first
        | (go_at_call_of 26 t; rw [← hW]; refine (KT _ hWb).mono ?_; rintro e w1 ⟨rfl, hb⟩; have hB1 : Below w.heap.size w w1 := hWb.trans (hb.mono hWb.size); have P := keep6 P0 hb; obtain ⟨⟨p0, p1, p2⟩, q0, q1, q2⟩ := P; clear hb hW)
        | (go_at_call_of 26 u; refine (KU _ hB1).mono ?_; rintro e w2 ⟨rfl, hb⟩; have hB2 : Below w.heap.size w w2 := hB1.trans (hb.mono hB1.size); have P := keep6 ⟨⟨p0, p1, p2⟩, q0, q1, q2⟩ hb; clear p0 p1 p2 q0 q1 q2; obtain ⟨⟨p0, p1, p2⟩, q0, q1, q2⟩ := P; clear hb hB1)
        | (go_at_call 19; refine (KV _ hB2).mono ?_; rintro e w3 ⟨gz, cz, rfl, ho, hb⟩; have hB3 : Below w.heap.size w w3 := hB2.trans (hb.mono hB2.size); have P := keep6 ⟨⟨p0, p1, p2⟩, q0, q1, q2⟩ hb; clear p0 p1 p2 q0 q1 q2; have hrd : Rd w3 (some ⟨gz, 0, none⟩) zs := Rd.own rfl ho; clear hb hB2 ho KV KT KU))
      go_loopw [8] (fun vk wr => ∃ k : Nat, vk = .int .i64 k ∧ k ≤ zs.length ∧ Below w3.heap.size w3 wr ∧ Hid (∀ j, (hj : j < zs.length) → j < k → cntT zs[j] u ≤ cntT zs[j] t)) (fun vk _ => zs.length - (intOf vk).toNat)
      case atStart => exact ⟨0, rfl, Nat.zero_le _, Below.refl _ _, fun j _ h => absurd h (Nat.not_lt_zero _)⟩
      case round =>
        obtain ⟨k, rfl, hk, hb, HA⟩ := hrel
        have hB : Below w.heap.size w wr := hB3.trans (hb.mono hB3.size)
        obtain ⟨⟨r0, r1, r2⟩, s0, s1, s2⟩ := keep6 P hb
        by_cases hkl : k < zs.length
        · have hklz : (k : Int) < (zs.length : Int) := by omega
          clear KW KX KG KH KB
          rcases hrd.below hb with h | ⟨b, off, hboff, hbl, hcz⟩
          · rw [h] at hkl; simp at hkl
          · cases hboff
            have hck := hcz k hkl
            rw [List.getElem?_eq_getElem hkl, Option.getD_some, Nat.zero_add] at hck
            have IT := fun W' (h : Below wr.heap.size wr W') => KC.out zs[k] W' (hB.trans (h.mono hB.size))
            have IU := fun W' (h : Below wr.heap.size wr W') => KD.out zs[k] W' (hB.trans (h.mono hB.size))
            have HZ : Hid (∀ j, (hj : j < zs.length) → j < k + 1 → cntT zs[k] u ≤ cntT zs[k] t → cntT zs[j] u ≤ cntT zs[j] t) := fun j hj hjk h => by
              rcases Nat.lt_or_ge j k with h1 | h1
              · exact HA.out j hj h1
              · have : j = k := by omega
                subst this; exact h
            have HF : Hid (¬ cntT zs[k] u ≤ cntT zs[k] t → oftL t u zs = false) := fun h => oft_hit hkl h
            clear hcz
            generalize zs[k] = x at hck IT IU HZ HF
            by_cases hcmp : cntT x u ≤ cntT x t
            · have hcz2 : ¬ ((cntT x t : Nat) : Int) < ((cntT x u : Nat) : Int) := by omega
              generalize cntT x t = m1 at IT hcz2
              generalize cntT x u = m2 at IU hcz2
              go_wp2
              have k0 := cellB r0
              have k1 := cellB r1
              have k2 := cellB r2
              have l0 := cellB s0
              have l1 := cellB s1
              have l2 := cellB s2
              have kz := cellB hck
              refine wp_region_below (by kernel_rfl) (by kernel_rfl) ?_
              repeat (go_big_quiet_step ((first | (go_at_call_of 69 t; refine callsB (IT _ (BW.b _))) | (go_at_call_of 69 u; refine callsB (IU _ (BW.b _))))))
              refine wpQuiet_nil ?_
              intro w4 hw'
              have hb2 : Below wr.heap.size wr w4 := by obtain ⟨p, rfl⟩ := hw'; exact p.b
              clear hw' k0 k1 k2 l0 l1 l2 kz
              go_wp2_with fail
              go_roundw
              case rel => exact ⟨k + 1, by go_num, by omega, hb.trans (hb2.mono hb.size), fun j hj hjk => HZ.out j hj hjk hcmp⟩
              case measure => simp [intOf]; omega
            · have hcz2 : ((cntT x t : Nat) : Int) < ((cntT x u : Nat) : Int) := by omega
              have HF2 : Hid (oftL t u zs = false) := HF.out hcmp
              generalize cntT x t = m1 at IT hcz2
              generalize cntT x u = m2 at IU hcz2
              go_wp2
              have k0 := cellB r0
              have k1 := cellB r1
              have k2 := cellB r2
              have l0 := cellB s0
              have l1 := cellB s1
              have l2 := cellB s2
              have kz := cellB hck
              refine wp_region_below (by kernel_rfl) (by kernel_rfl) ?_
              repeat (go_big_quiet_step ((first | (go_at_call_of 69 t; refine callsB (IT _ (BW.b _))) | (go_at_call_of 69 u; refine callsB (IU _ (BW.b _))))))
              refine wpQuiet_nil ?_
              intro w4 hw'
              have hb2 : Below wr.heap.size wr w4 := by obtain ⟨p, rfl⟩ := hw'; exact p.b
              clear hw' k0 k1 k2 l0 l1 l2 kz
              go_wp2_with fail
              go_ret
              exact ⟨rtB (by rw [HF2.out]; simp), hB.trans (hb2.mono hB.size)⟩
        · have hklz : ¬ (k : Int) < (zs.length : Int) := by omega
          have HF2 : Hid (oftL t u zs = true) := oft_all (fun j hj => HA.out j hj (by omega))
          clear HA KC KD hrd
          have IW := fun W' (h : Below wr.heap.size wr W') => KW W' (hB.trans (h.mono hB.size))
          have IX := fun W' (h : Below wr.heap.size wr W') => KX W' (hB.trans (h.mono hB.size))
          go_wp2
          have k0 := cellB r0
          have k1 := cellB r1
          have k2 := cellB r2
          have l0 := cellB s0
          have l1 := cellB s1
          have l2 := cellB s2
          refine wp_region_below (by kernel_rfl) (by kernel_rfl) ?_
          repeat (go_big_quiet_step ((first | (go_at_call_of 28 t; refine callsB (IW _ (BW.b _))) | (go_at_call_of 28 u; refine callsB (IX _ (BW.b _))))))
          refine wpQuiet_nil ?_
          intro w4 hw'
          have hb2 : Below wr.heap.size wr w4 := by obtain ⟨p, rfl⟩ := hw'; exact p.b
          have hB4 : Below w.heap.size w w4 := hB.trans (hb2.mono hB.size)
          have P4 := keep6 ⟨⟨r0, r1, r2⟩, s0, s1, s2⟩ hb2
          clear hw' k0 k1 k2 l0 l1 l2 r0 r1 r2 s0 s1 s2 P KW KX IW IX hb hb2 hB hB3
          obtain ⟨⟨p0, p1, p2⟩, q0, q1, q2⟩ := P4
          rcases Nat.lt_trichotomy m m' with hm | hm | hm
          · have z1 : ¬ (m' : Int) < (m : Int) := by omega
            have z2 : ¬ (m : Int) = (m' : Int) := by omega
            have HD : Hid (decide (m' < m) = false ∧ decide (m = m') = false) := ⟨decide_eq_false (by omega), decide_eq_false (by omega)⟩
            clear hm
            go_wp2_with fail
            go_ret
            exact ⟨rtB (by first | rfl | simp [HF2.out, HD.out.1, HD.out.2]), hB4⟩
          · subst hm
            have z1 : ¬ (m : Int) < (m : Int) := by omega
            have HD : Hid (decide (m < m) = false ∧ decide (m = m) = true) := ⟨decide_eq_false (by omega), decide_eq_true rfl⟩
            cases gt with
            | false =>
              go_wp2_with (go_at_call_of 70 t; refine (KG _ hB4).mono ?_; rintro e w5 ⟨rfl, hb⟩; have hB5 : Below w.heap.size w w5 := hB4.trans (hb.mono hB4.size); have P := keep6 ⟨⟨p0, p1, p2⟩, q0, q1, q2⟩ hb; clear p0 p1 p2 q0 q1 q2; obtain ⟨⟨p0, p1, p2⟩, q0, q1, q2⟩ := P; clear hb hB4)
              go_ret
              exact ⟨rtB (by first | rfl | simp [HF2.out, HD.out.1, HD.out.2]), hB5⟩
            | true =>
              cases gu with
              | false =>
                go_wp2_with (first
                  | (go_at_call_of 70 t; refine (KG _ hB4).mono ?_; rintro e w5 ⟨rfl, hb⟩; have hB5 : Below w.heap.size w w5 := hB4.trans (hb.mono hB4.size); have P := keep6 ⟨⟨p0, p1, p2⟩, q0, q1, q2⟩ hb; clear p0 p1 p2 q0 q1 q2; obtain ⟨⟨p0, p1, p2⟩, q0, q1, q2⟩ := P; clear hb hB4)
                  | (go_at_call_of 70 u; refine (KH _ hB5).mono ?_; rintro e w6 ⟨rfl, hb⟩; have hB6 : Below w.heap.size w w6 := hB5.trans (hb.mono hB5.size); have P := keep6 ⟨⟨p0, p1, p2⟩, q0, q1, q2⟩ hb; clear p0 p1 p2 q0 q1 q2; obtain ⟨⟨p0, p1, p2⟩, q0, q1, q2⟩ := P; clear hb hB5))
                go_ret
                exact ⟨rtB (by first | rfl | simp [HF2.out, HD.out.1, HD.out.2]), hB6⟩
              | true =>
                go_wp2_with (first
                  | (go_at_call_of 70 t; refine (KG _ hB4).mono ?_; rintro e w5 ⟨rfl, hb⟩; have hB5 : Below w.heap.size w w5 := hB4.trans (hb.mono hB4.size); have P := keep6 ⟨⟨p0, p1, p2⟩, q0, q1, q2⟩ hb; clear p0 p1 p2 q0 q1 q2; obtain ⟨⟨p0, p1, p2⟩, q0, q1, q2⟩ := P; clear hb hB4)
                  | (go_at_call_of 70 u; refine (KH _ hB5).mono ?_; rintro e w6 ⟨rfl, hb⟩; have hB6 : Below w.heap.size w w6 := hB5.trans (hb.mono hB5.size); have P := keep6 ⟨⟨p0, p1, p2⟩, q0, q1, q2⟩ hb; clear p0 p1 p2 q0 q1 q2; obtain ⟨⟨p0, p1, p2⟩, q0, q1, q2⟩ := P; clear hb hB5)
                  | (go_at_call 71; refine (KB _ hB6).mono ?_; rintro e w7 ⟨rfl, hb⟩; have hB7 : Below w.heap.size w w7 := hB6.trans (hb.mono hB6.size); have P := keep6 ⟨⟨p0, p1, p2⟩, q0, q1, q2⟩ hb; clear p0 p1 p2 q0 q1 q2; obtain ⟨⟨p0, p1, p2⟩, q0, q1, q2⟩ := P; clear hb hB6))
                go_ret
                exact ⟨rtB (by first | rfl | simp [HF2.out]), hB7⟩
          · have z1 : (m' : Int) < (m : Int) := by omega
            have HD : Hid (decide (m' < m) = true ∧ decide (m = m') = false) := ⟨decide_eq_true hm, decide_eq_false (by omega)⟩
            clear hm
            go_wp2_with fail
            go_ret
            exact ⟨rtB (by first | rfl | simp [HF2.out, HD.out.1, HD.out.2]), hB4⟩
end Go.Proofs.Ytkjlldbgooogdaa

