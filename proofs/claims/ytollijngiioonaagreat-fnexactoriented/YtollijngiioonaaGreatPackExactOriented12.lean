/- What the proof of FnExactOriented stands on, part 12 of 13: each piece says what it proves and under which conditions. Conditions: as each piece says. -/
import Derived.Test.YtollijngiioonaaGreatPackExactOriented11
import Derived.Deep.RegionLaw
import Derived.Deep.RegionHeld3
/- Which of two terms is greater: as data, and as the specification and the program tell it. Conditions: terms of at most 1048577 parts. -/
namespace Go.Proofs.YtollijngiioonaaGreat
set_option maxRecDepth 100000
open Go.RowKit

/-- Each variable of b stands in a as often at least. -/
def oftL (a b : TermD) (vs : List Int) : Bool := vs.all fun v => decide (cntT v b ≤ cntT v a)
def oftT (a b : TermD) : Bool := oftL a b (varsT b [])
def tok3 (ss : List SymD) (t : TermD) : Bool := sigOk ss && decide (partsT t ≤ 60) && rightT ss t
/-- By weight, and where these are alike by order. -/
def ovrT (ss : List SymD) (a b : TermD) : Bool := decide (wgtT (blindAt ss) b < wgtT (blindAt ss) a) || (decide (wgtT (blindAt ss) a = wgtT (blindAt ss) b) && grdT a && grdT b && befT b a)
def gtrT (ss : List SymD) (a b : TermD) : Bool := tok3 ss a && tok3 ss b && oftT a b && ovrT ss a b

theorem oft_hit {a b : TermD} {vs : List Int} {k : Nat} (h : k < vs.length) (hv : ¬ cntT vs[k] b ≤ cntT vs[k] a) : oftL a b vs = false := by
  unfold oftL
  rw [List.all_eq_false]
  exact ⟨vs[k], List.getElem_mem h, by simpa using hv⟩
theorem oft_all {a b : TermD} {vs : List Int} (h : ∀ k, (hk : k < vs.length) → cntT vs[k] b ≤ cntT vs[k] a) : oftL a b vs = true := by
  unfold oftL
  rw [List.all_eq_true]
  intro v hv
  obtain ⟨k, hk, rfl⟩ := List.getElem_of_mem hv
  simpa using h k hk
theorem sum_ge (f : Int → Nat) : ∀ l : List Int, (∀ v ∈ l, 1 ≤ f v) → l.length ≤ (l.map f).sum
  | [], _ => by simp
  | v :: l, h => by
    have h1 := h v (by simp)
    have h2 := sum_ge f l (fun x hx => h x (by simp [hx]))
    simp only [List.length_cons, List.map_cons, List.sum_cons]
    omega
theorem vars_len (t : TermD) : (varsT t []).length ≤ partsT t := Nat.le_trans (sum_ge _ _ (fun _ hv => vars_cnt hv)) (vars_sum t)

set_option maxHeartbeats 1600000 in
theorem standAsOften_any (t u : TermD) (a a' : Option Addr) (c c' hi : Nat) (w : World) (hp : partsT t ≤ 1048577) (hp' : partsT u ≤ 1048577) (hr : RdK w hi a t.kids) (hr' : RdK w hi a' u.kids) (hhi : hi ≤ w.heap.size) (hc : t.kids.length ≤ c) (hc' : u.kids.length ≤ c') :
    Calls Tryz.prog 48 #[.agg #[.int .i64 t.f, .int .i64 t.v, .slice a t.kids.length c], .agg #[.int .i64 u.f, .int .i64 u.v, .slice a' u.kids.length c']] w fun e w' => e = .returned (.bool (oftT t u)) ∧ Below w.heap.size w w' := by
  obtain ⟨W, hW⟩ : ∃ W, W = (w.alloc (.cells #[.int .i64 t.f, .int .i64 t.v, .slice a t.kids.length c] 27)).alloc (.cells #[.int .i64 u.f, .int .i64 u.v, .slice a' u.kids.length c'] 27) := ⟨_, rfl⟩
  have hWb : Below w.heap.size w W := by rw [hW]; exact ((Below.refl _ _).alloc (Nat.le_refl _) _).alloc (by simp) _
  have p0 : W.cell? ⟨w.heap.size, 0, none⟩ = some (.int .i64 t.f) := by rw [hW]; simp [go_sem]
  have p1 : W.cell? ⟨w.heap.size, 1, none⟩ = some (.int .i64 t.v) := by rw [hW]; simp [go_sem]
  have p2 : W.cell? ⟨w.heap.size, 2, none⟩ = some (.slice a t.kids.length c) := by rw [hW]; simp [go_sem]
  have q0 : W.cell? ⟨w.heap.size + 1, 0, none⟩ = some (.int .i64 u.f) := by rw [hW]; simp [go_sem]
  have q1 : W.cell? ⟨w.heap.size + 1, 1, none⟩ = some (.int .i64 u.v) := by rw [hW]; simp [go_sem]
  have q2 : W.cell? ⟨w.heap.size + 1, 2, none⟩ = some (.slice a' u.kids.length c') := by rw [hW]; simp [go_sem]
  have CV := impVarsOf_any u a' c' hi W (by omega) (hr'.on (hWb.mono hhi)) (Nat.le_trans hhi hWb.size) hc'
  have CT : ∀ v w', Below w.heap.size w w' → Calls Tryz.prog 96 #[.agg #[.int .i64 t.f, .int .i64 t.v, .slice a t.kids.length c], .int .i64 v] w' fun e w'' => e = .returned (.int .i64 (cntT v t)) ∧ Below w'.heap.size w' w'' := fun v w' hb =>
    impCount_any _ t a c hi v w' (Nat.le_refl _) (by omega) (hr.on (hb.mono hhi)) (Nat.le_trans hhi hb.size) hc
  have CU : ∀ v w', Below w.heap.size w w' → Calls Tryz.prog 96 #[.agg #[.int .i64 u.f, .int .i64 u.v, .slice a' u.kids.length c'], .int .i64 v] w' fun e w'' => e = .returned (.int .i64 (cntT v u)) ∧ Below w'.heap.size w' w'' := fun v w' hb =>
    impCount_any _ u a' c' hi v w' (Nat.le_refl _) (by omega) (hr'.on (hb.mono hhi)) (Nat.le_trans hhi hb.size) hc'
  have hvl := vars_len u
  have HCT : Hid _ := CT
  have HCU : Hid _ := CU
  clear hr hr' CT CU
  unfold oftT
  obtain ⟨zs, hzs⟩ : ∃ zs, zs = varsT u [] := ⟨_, rfl⟩
  rw [← hzs] at CV hvl ⊢
  clear hzs
  go_enter Tryz.func48, Tryz.ntmps48
  go_wp2_with (go_at_call 95; rw [← hW]; refine CV.mono ?_; rintro e w1 ⟨av, cv, rfl, ho, hb⟩; clear CV hW)
  have hrd : Rd w1 av zs := Rd.ownV rfl ho
  have hB1 : Below w.heap.size w w1 := hWb.trans (hb.mono hWb.size)
  have P0 := keepC hb p0
  have P1 := keepC hb p1
  have P2 := keepC hb p2
  have Q0 := keepC hb q0
  have Q1 := keepC hb q1
  have Q2 := keepC hb q2
  clear p0 p1 p2 q0 q1 q2 ho hb hWb
  go_loopw [10] (fun vk wr => ∃ k : Nat, vk = .int .i64 k ∧ k ≤ zs.length ∧ Below w1.heap.size w1 wr ∧ Hid (∀ j, (hj : j < zs.length) → j < k → cntT zs[j] u ≤ cntT zs[j] t)) (fun vk _ => zs.length - (intOf vk).toNat)
  case atStart => exact ⟨0, rfl, Nat.zero_le _, Below.refl _ _, fun j _ h => absurd h (Nat.not_lt_zero _)⟩
  case round =>
    obtain ⟨k, rfl, hk, hb, HA⟩ := hrel
    have hB : Below w.heap.size w wr := hB1.trans (hb.mono hB1.size)
    have r0 := keepC hb P0
    have r1 := keepC hb P1
    have r2 := keepC hb P2
    have s0 := keepC hb Q0
    have s1 := keepC hb Q1
    have s2 := keepC hb Q2
    by_cases hkl : k < zs.length
    · have hklz : (k : Int) < (zs.length : Int) := by omega
      rcases hrd.below hb with h | ⟨b, off, rfl, hbl, hcz⟩
      · rw [h] at hkl; simp at hkl
      · have hck := hcz k hkl
        rw [List.getElem?_eq_getElem hkl, Option.getD_some] at hck
        have IT := fun W' (h : Below wr.heap.size wr W') => HCT.out zs[k] W' (hB.trans (h.mono hB.size))
        have IU := fun W' (h : Below wr.heap.size wr W') => HCU.out zs[k] W' (hB.trans (h.mono hB.size))
        have HZ : Hid (∀ j, (hj : j < zs.length) → j < k + 1 → cntT zs[k] u ≤ cntT zs[k] t → cntT zs[j] u ≤ cntT zs[j] t) := fun j hj hjk h => by
          rcases Nat.lt_or_ge j k with h1 | h1
          · exact HA.out j hj h1
          · have : j = k := by omega
            subst this; exact h
        have HF : Hid (¬ cntT zs[k] u ≤ cntT zs[k] t → oftL t u zs = false) := fun h => oft_hit hkl h
        clear hcz
        generalize zs[k] = x at hck IT IU HZ HF
        by_cases hcmp : cntT x u ≤ cntT x t
        · have hcz2 : ¬ ((cntT x t : Nat) : Int) < ((cntT x u : Nat) : Int) := by omega
          generalize cntT x t = m1 at IT hcz2
          generalize cntT x u = m2 at IU hcz2
          go_wp2
          have k0 := cellB r0
          have k1 := cellB r1
          have k2 := cellB r2
          have l0 := cellB s0
          have l1 := cellB s1
          have l2 := cellB s2
          refine wp_region_below (by kernel_rfl) (by kernel_rfl) ?_
          repeat (go_big_quiet_step ((first | (go_at_call_of 96 t; refine callsB (IT _ (BW.b _))) | (go_at_call_of 96 u; refine callsB (IU _ (BW.b _))))))
          refine wpQuiet_nil ?_
          intro w2 hw'
          have hb2 : Below wr.heap.size wr w2 := by obtain ⟨p, rfl⟩ := hw'; exact p.b
          clear hw' k0 k1 k2 l0 l1 l2
          go_wp2_with fail
          go_roundw
          case rel => exact ⟨k + 1, by go_num, by omega, hb.trans (hb2.mono hb.size), fun j hj hjk => HZ.out j hj hjk hcmp⟩
          case measure => simp [intOf]; omega
        · have hcz2 : ((cntT x t : Nat) : Int) < ((cntT x u : Nat) : Int) := by omega
          have HF2 := HF.out hcmp
          generalize cntT x t = m1 at IT hcz2
          generalize cntT x u = m2 at IU hcz2
          go_wp2
          have k0 := cellB r0
          have k1 := cellB r1
          have k2 := cellB r2
          have l0 := cellB s0
          have l1 := cellB s1
          have l2 := cellB s2
          refine wp_region_below (by kernel_rfl) (by kernel_rfl) ?_
          repeat (go_big_quiet_step ((first | (go_at_call_of 96 t; refine callsB (IT _ (BW.b _))) | (go_at_call_of 96 u; refine callsB (IU _ (BW.b _))))))
          refine wpQuiet_nil ?_
          intro w2 hw'
          have hb2 : Below wr.heap.size wr w2 := by obtain ⟨p, rfl⟩ := hw'; exact p.b
          clear hw' k0 k1 k2 l0 l1 l2
          go_wp2_with fail
          go_ret
          exact ⟨rtB HF2.symm, hB.trans (hb2.mono hB.size)⟩
    · have hklz : ¬ (k : Int) < (zs.length : Int) := by omega
      have HF2 : oftL t u zs = true := oft_all (fun j hj => HA.out j hj (by omega))
      go_wp2
      go_ret
      first | exact ⟨rtB HF2.symm, hB⟩ | exact ⟨rfl, hB⟩

theorem scaleWeight_any (sa : Option Addr) (ss : List SymD) (sc : Nat) (t : TermD) (a : Option Addr) (c hi : Nat) (w : World) (hs : RdS w sa ss) (hp : partsT t ≤ 1048577) (hr : RdK w hi a t.kids) (hhi : hi ≤ w.heap.size) (hc : t.kids.length ≤ c) :
    Calls Tryz.prog 50 #[.slice sa ss.length sc, .agg #[.int .i64 t.f, .int .i64 t.v, .slice a t.kids.length c]] w fun e w' => e = .returned (.int .i64 (wgtT (blindAt ss) t : Nat)) ∧ Below w.heap.size w w' := by
  obtain ⟨W, hW⟩ : ∃ W, W = w.alloc (.cells #[.int .i64 t.f, .int .i64 t.v, .slice a t.kids.length c] 27) := ⟨_, rfl⟩
  have hWb : Below w.heap.size w W := by rw [hW]; exact (Below.refl _ _).alloc (Nat.le_refl _) _
  have C := impWeight_any sa ss ss.length sc t a c hi W rfl (hs.below hWb) hp (hr.on (hWb.mono hhi)) (Nat.le_trans hhi hWb.size) hc
  generalize wgtT (blindAt ss) t = m at C ⊢
  go_enter Tryz.func50, Tryz.ntmps50
  go_wp2_with (go_at_call 98; rw [← hW]; refine C.mono ?_; rintro e w1 ⟨rfl, hb⟩)
  go_ret
  exact ⟨rfl, hWb.trans (hb.mono hWb.size)⟩

def cmpW (x y : Nat) : Int := Lib.compareInt x y

theorem orderBy_any (sa : Option Addr) (ss : List SymD) (sc : Nat) (t u : TermD) (a a' : Option Addr) (c c' hi : Nat) (w : World) (hs : RdS w sa ss) (hp : partsT t ≤ 1048577) (hp' : partsT u ≤ 1048577) (hr : RdK w hi a t.kids) (hr' : RdK w hi a' u.kids) (hhi : hi ≤ w.heap.size) (hc : t.kids.length ≤ c) (hc' : u.kids.length ≤ c') :
    Calls Tryz.prog 49 #[.func (.func 50) #[.slice sa ss.length sc] #[], .agg #[.int .i64 t.f, .int .i64 t.v, .slice a t.kids.length c], .agg #[.int .i64 u.f, .int .i64 u.v, .slice a' u.kids.length c']] w fun e w' => e = .returned (.int .i64 (cmpW (wgtT (blindAt ss) t) (wgtT (blindAt ss) u))) ∧ Below w.heap.size w w' := by
  obtain ⟨W, hW⟩ : ∃ W, W = (w.alloc (.cells #[.int .i64 t.f, .int .i64 t.v, .slice a t.kids.length c] 27)).alloc (.cells #[.int .i64 u.f, .int .i64 u.v, .slice a' u.kids.length c'] 27) := ⟨_, rfl⟩
  have hWb : Below w.heap.size w W := by rw [hW]; exact ((Below.refl _ _).alloc (Nat.le_refl _) _).alloc (by simp) _
  have p0 : W.cell? ⟨w.heap.size, 0, none⟩ = some (.int .i64 t.f) := by rw [hW]; simp [go_sem]
  have p1 : W.cell? ⟨w.heap.size, 1, none⟩ = some (.int .i64 t.v) := by rw [hW]; simp [go_sem]
  have p2 : W.cell? ⟨w.heap.size, 2, none⟩ = some (.slice a t.kids.length c) := by rw [hW]; simp [go_sem]
  have q0 : W.cell? ⟨w.heap.size + 1, 0, none⟩ = some (.int .i64 u.f) := by rw [hW]; simp [go_sem]
  have q1 : W.cell? ⟨w.heap.size + 1, 1, none⟩ = some (.int .i64 u.v) := by rw [hW]; simp [go_sem]
  have q2 : W.cell? ⟨w.heap.size + 1, 2, none⟩ = some (.slice a' u.kids.length c') := by rw [hW]; simp [go_sem]
  have CT := fun W' (h : Below W.heap.size W W') => scaleWeight_any sa ss sc t a c hi W' (hs.below (hWb.trans (h.mono hWb.size))) hp (hr.on ((hWb.trans (h.mono hWb.size)).mono hhi)) (Nat.le_trans hhi (hWb.trans (h.mono hWb.size)).size) hc
  have CU := fun W' (h : Below W.heap.size W W') => scaleWeight_any sa ss sc u a' c' hi W' (hs.below (hWb.trans (h.mono hWb.size))) hp' (hr'.on ((hWb.trans (h.mono hWb.size)).mono hhi)) (Nat.le_trans hhi (hWb.trans (h.mono hWb.size)).size) hc'
  generalize wgtT (blindAt ss) t = m at CT ⊢
  generalize wgtT (blindAt ss) u = m' at CU ⊢
  have CC : ∀ W' : World, Calls Tryz.prog 97 #[.int .i64 (m : Int), .int .i64 (m' : Int)] W' fun e w' => e = .returned (.int .i64 (cmpW m m')) ∧ Below W'.heap.size W' w' := fun W' => (Tryz.cmp_Compare_int m m' W').mono (by rintro e w' ⟨rfl, rfl⟩; exact ⟨rfl, Below.refl _ _⟩)
  generalize cmpW m m' = r at CC ⊢
  have k0 := cellB p0
  have k1 := cellB p1
  have k2 := cellB p2
  have l0 := cellB q0
  have l1 := cellB q1
  have l2 := cellB q2
  clear hs hr hr' p0 p1 p2 q0 q1 q2
  go_enter Tryz.func49, Tryz.ntmps49
  go_wp2
  rw [← hW]
  refine wp_region_below (by kernel_rfl) (by kernel_rfl) ?_
  repeat (go_big_quiet_step ((first | (go_at_call_of 50 t; refine callsB (CT _ (BW.b _))) | (go_at_call_of 50 u; refine callsB (CU _ (BW.b _))) | (go_at_call 97; refine callsB (CC _)))))
  refine wpQuiet_nil ?_
  intro w2 hw'
  have hb2 : Below W.heap.size W w2 := by obtain ⟨p, rfl⟩ := hw'; exact p.b
  clear hw' k0 k1 k2 l0 l1 l2
  go_wp2_with fail
  go_ret
  exact ⟨rfl, hWb.trans (hb2.mono hWb.size)⟩
end Go.Proofs.YtollijngiioonaaGreat

/- Which of two terms is greater, as the program and the specification tell it. Conditions: terms of at most 1048577 parts. -/
namespace Go.Proofs.YtollijngiioonaaGreat
set_option maxRecDepth 100000
open Go.RowKit

theorem cmpW_lt {x y : Nat} (h : x < y) : cmpW x y = -1 := by unfold cmpW Lib.compareInt; rw [if_pos (by omega)]
theorem cmpW_gt {x y : Nat} (h : y < x) : cmpW x y = 1 := by unfold cmpW Lib.compareInt; rw [if_neg (by omega), if_pos (by omega)]
theorem cmpW_eq {x y : Nat} (h : x = y) : cmpW x y = 0 := by unfold cmpW Lib.compareInt; rw [if_neg (by omega), if_neg (by omega)]

theorem keep6 {W W' : World} {n : Nat} {x0 x1 x2 y0 y1 y2 : Value} (h : (W.cell? ⟨n, 0, none⟩ = some x0 ∧ W.cell? ⟨n, 1, none⟩ = some x1 ∧ W.cell? ⟨n, 2, none⟩ = some x2) ∧ W.cell? ⟨n + 1, 0, none⟩ = some y0 ∧ W.cell? ⟨n + 1, 1, none⟩ = some y1 ∧ W.cell? ⟨n + 1, 2, none⟩ = some y2) (hb : Below W.heap.size W W') :
    (W'.cell? ⟨n, 0, none⟩ = some x0 ∧ W'.cell? ⟨n, 1, none⟩ = some x1 ∧ W'.cell? ⟨n, 2, none⟩ = some x2) ∧ W'.cell? ⟨n + 1, 0, none⟩ = some y0 ∧ W'.cell? ⟨n + 1, 1, none⟩ = some y1 ∧ W'.cell? ⟨n + 1, 2, none⟩ = some y2 :=
  ⟨⟨keepC hb h.1.1, keepC hb h.1.2.1, keepC hb h.1.2.2⟩, keepC hb h.2.1, keepC hb h.2.2.1, keepC hb h.2.2.2⟩

set_option maxHeartbeats 3200000 in
theorem impGreater_any (sa : Option Addr) (ss : List SymD) (sc : Nat) (hsz : ∀ s ∈ ss, s.name.size ≤ maxLen) (t u : TermD) (a a' : Option Addr) (c c' hi : Nat) (w : World) (hs : RdS w sa ss) (hp : partsT t ≤ 1048577) (hp' : partsT u ≤ 1048577) (hr : RdK w hi a t.kids) (hr' : RdK w hi a' u.kids) (hhi : hi ≤ w.heap.size) (hc : t.kids.length ≤ c) (hc' : u.kids.length ≤ c') :
    Calls Tryz.prog 9 #[.slice sa ss.length sc, .agg #[.int .i64 t.f, .int .i64 t.v, .slice a t.kids.length c], .agg #[.int .i64 u.f, .int .i64 u.v, .slice a' u.kids.length c']] w fun e w' => e = .returned (.bool (gtrT ss t u)) ∧ Below w.heap.size w w' := by
  obtain ⟨W, hW⟩ : ∃ W, W = (w.alloc (.cells #[.int .i64 t.f, .int .i64 t.v, .slice a t.kids.length c] 27)).alloc (.cells #[.int .i64 u.f, .int .i64 u.v, .slice a' u.kids.length c'] 27) := ⟨_, rfl⟩
  have hWb : Below w.heap.size w W := by rw [hW]; exact ((Below.refl _ _).alloc (Nat.le_refl _) _).alloc (by simp) _
  have P0 : (W.cell? ⟨w.heap.size, 0, none⟩ = some (.int .i64 t.f) ∧ W.cell? ⟨w.heap.size, 1, none⟩ = some (.int .i64 t.v) ∧ W.cell? ⟨w.heap.size, 2, none⟩ = some (.slice a t.kids.length c)) ∧ W.cell? ⟨w.heap.size + 1, 0, none⟩ = some (.int .i64 u.f) ∧ W.cell? ⟨w.heap.size + 1, 1, none⟩ = some (.int .i64 u.v) ∧ W.cell? ⟨w.heap.size + 1, 2, none⟩ = some (.slice a' u.kids.length c') := by rw [hW]; simp [go_sem]
  have KT : ∀ W', Below w.heap.size w W' → Calls Tryz.prog 13 #[.slice sa ss.length sc, .agg #[.int .i64 t.f, .int .i64 t.v, .slice a t.kids.length c]] W' fun e w' => e = .returned (.bool (tok3 ss t)) ∧ Below W'.heap.size W' w' := fun W' h => impTermOk_all sa ss sc hsz t a c hi W' (hs.below h) (by omega) (hr.on (h.mono hhi)) (Nat.le_trans hhi h.size) hc
  have KU : ∀ W', Below w.heap.size w W' → Calls Tryz.prog 13 #[.slice sa ss.length sc, .agg #[.int .i64 u.f, .int .i64 u.v, .slice a' u.kids.length c']] W' fun e w' => e = .returned (.bool (tok3 ss u)) ∧ Below W'.heap.size W' w' := fun W' h => impTermOk_all sa ss sc hsz u a' c' hi W' (hs.below h) (by omega) (hr'.on (h.mono hhi)) (Nat.le_trans hhi h.size) hc'
  have KO : ∀ W', Below w.heap.size w W' → Calls Tryz.prog 48 #[.agg #[.int .i64 t.f, .int .i64 t.v, .slice a t.kids.length c], .agg #[.int .i64 u.f, .int .i64 u.v, .slice a' u.kids.length c']] W' fun e w' => e = .returned (.bool (oftT t u)) ∧ Below W'.heap.size W' w' := fun W' h => standAsOften_any t u a a' c c' hi W' hp hp' (hr.on (h.mono hhi)) (hr'.on (h.mono hhi)) (Nat.le_trans hhi h.size) hc hc'
  have KW : ∀ W', Below w.heap.size w W' → Calls Tryz.prog 49 #[.func (.func 50) #[.slice sa ss.length sc] #[], .agg #[.int .i64 t.f, .int .i64 t.v, .slice a t.kids.length c], .agg #[.int .i64 u.f, .int .i64 u.v, .slice a' u.kids.length c']] W' fun e w' => e = .returned (.int .i64 (cmpW (wgtT (blindAt ss) t) (wgtT (blindAt ss) u))) ∧ Below W'.heap.size W' w' := fun W' h => orderBy_any sa ss sc t u a a' c c' hi W' (hs.below h) hp hp' (hr.on (h.mono hhi)) (hr'.on (h.mono hhi)) (Nat.le_trans hhi h.size) hc hc'
  have KG : ∀ W', Below w.heap.size w W' → Calls Tryz.prog 51 #[.agg #[.int .i64 t.f, .int .i64 t.v, .slice a t.kids.length c]] W' fun e w' => e = .returned (.bool (grdT t)) ∧ Below W'.heap.size W' w' := fun W' h => impGround_any t a c hi W' (by omega) (hr.on (h.mono hhi)) (Nat.le_trans hhi h.size) hc
  have KH : ∀ W', Below w.heap.size w W' → Calls Tryz.prog 51 #[.agg #[.int .i64 u.f, .int .i64 u.v, .slice a' u.kids.length c']] W' fun e w' => e = .returned (.bool (grdT u)) ∧ Below W'.heap.size W' w' := fun W' h => impGround_any u a' c' hi W' (by omega) (hr'.on (h.mono hhi)) (Nat.le_trans hhi h.size) hc'
  have KB : ∀ W', Below w.heap.size w W' → Calls Tryz.prog 52 #[.agg #[.int .i64 u.f, .int .i64 u.v, .slice a' u.kids.length c'], .agg #[.int .i64 t.f, .int .i64 t.v, .slice a t.kids.length c]] W' fun e w' => e = .returned (.bool (befT u t)) ∧ Below W'.heap.size W' w' := fun W' h => impBef_any 1048577 u t a' a c' c hi W' hp' (by omega) (hr'.on (h.mono hhi)) (hr.on (h.mono hhi)) (Nat.le_trans hhi h.size) hc' hc
  clear hs hr hr'
  unfold gtrT ovrT
  cases h1 : tok3 ss t with
  | false =>
    rw [h1] at KT
    go_enter Tryz.func9, Tryz.ntmps9
    go_wp2_with (go_at_call_of 13 t; rw [← hW]; refine (KT _ hWb).mono ?_; rintro e w1 ⟨rfl, hb⟩; have hB1 : Below w.heap.size w w1 := hWb.trans (hb.mono hWb.size); have P := keep6 P0 hb; obtain ⟨⟨p0, p1, p2⟩, q0, q1, q2⟩ := P; clear hb hW)
    go_ret
    exact ⟨rtB (by simp), hB1⟩
  | true =>
    rw [h1] at KT
    cases h2 : tok3 ss u with
    | false =>
      rw [h2] at KU
      go_enter Tryz.func9, Tryz.ntmps9
      go_wp2_with (first
        | (go_at_call_of 13 t; rw [← hW]; refine (KT _ hWb).mono ?_; rintro e w1 ⟨rfl, hb⟩; have hB1 : Below w.heap.size w w1 := hWb.trans (hb.mono hWb.size); have P := keep6 P0 hb; obtain ⟨⟨p0, p1, p2⟩, q0, q1, q2⟩ := P; clear hb hW)
        | (go_at_call_of 13 u; refine (KU _ hB1).mono ?_; rintro e w2 ⟨rfl, hb⟩; have hB2 : Below w.heap.size w w2 := hB1.trans (hb.mono hB1.size); have P := keep6 ⟨⟨p0, p1, p2⟩, q0, q1, q2⟩ hb; clear p0 p1 p2 q0 q1 q2; obtain ⟨⟨p0, p1, p2⟩, q0, q1, q2⟩ := P; clear hb hB1))
      go_ret
      exact ⟨rtB (by simp), hB2⟩
    | true =>
      rw [h2] at KU
      cases h3 : oftT t u with
      | false =>
        rw [h3] at KO
        go_enter Tryz.func9, Tryz.ntmps9
        go_wp2_with (first
          | (go_at_call_of 13 t; rw [← hW]; refine (KT _ hWb).mono ?_; rintro e w1 ⟨rfl, hb⟩; have hB1 : Below w.heap.size w w1 := hWb.trans (hb.mono hWb.size); have P := keep6 P0 hb; obtain ⟨⟨p0, p1, p2⟩, q0, q1, q2⟩ := P; clear hb hW)
          | (go_at_call_of 13 u; refine (KU _ hB1).mono ?_; rintro e w2 ⟨rfl, hb⟩; have hB2 : Below w.heap.size w w2 := hB1.trans (hb.mono hB1.size); have P := keep6 ⟨⟨p0, p1, p2⟩, q0, q1, q2⟩ hb; clear p0 p1 p2 q0 q1 q2; obtain ⟨⟨p0, p1, p2⟩, q0, q1, q2⟩ := P; clear hb hB1)
          | (go_at_call 48; refine (KO _ hB2).mono ?_; rintro e w3 ⟨rfl, hb⟩; have hB3 : Below w.heap.size w w3 := hB2.trans (hb.mono hB2.size); have P := keep6 ⟨⟨p0, p1, p2⟩, q0, q1, q2⟩ hb; clear p0 p1 p2 q0 q1 q2; obtain ⟨⟨p0, p1, p2⟩, q0, q1, q2⟩ := P; clear hb hB2))
        go_ret
        exact ⟨rtB (by simp), hB3⟩
      | true =>
        rw [h3] at KO
        generalize wgtT (blindAt ss) t = m at KW ⊢
        generalize wgtT (blindAt ss) u = m' at KW ⊢
        rcases Nat.lt_trichotomy m m' with hm | hm | hm
        · rw [cmpW_lt hm] at KW
          have hv : (true && true && true && (decide (m' < m) || (decide (m = m') && grdT t && grdT u && befT u t))) = false := by rw [decide_eq_false (show ¬ m' < m by omega), decide_eq_false (show ¬ m = m' by omega)]; rfl
          rw [hv]
          clear hv hm
          go_enter Tryz.func9, Tryz.ntmps9
          go_wp2_with (first
            | (go_at_call_of 13 t; rw [← hW]; refine (KT _ hWb).mono ?_; rintro e w1 ⟨rfl, hb⟩; have hB1 : Below w.heap.size w w1 := hWb.trans (hb.mono hWb.size); have P := keep6 P0 hb; obtain ⟨⟨p0, p1, p2⟩, q0, q1, q2⟩ := P; clear hb hW)
            | (go_at_call_of 13 u; refine (KU _ hB1).mono ?_; rintro e w2 ⟨rfl, hb⟩; have hB2 : Below w.heap.size w w2 := hB1.trans (hb.mono hB1.size); have P := keep6 ⟨⟨p0, p1, p2⟩, q0, q1, q2⟩ hb; clear p0 p1 p2 q0 q1 q2; obtain ⟨⟨p0, p1, p2⟩, q0, q1, q2⟩ := P; clear hb hB1)
            | (go_at_call 48; refine (KO _ hB2).mono ?_; rintro e w3 ⟨rfl, hb⟩; have hB3 : Below w.heap.size w w3 := hB2.trans (hb.mono hB2.size); have P := keep6 ⟨⟨p0, p1, p2⟩, q0, q1, q2⟩ hb; clear p0 p1 p2 q0 q1 q2; obtain ⟨⟨p0, p1, p2⟩, q0, q1, q2⟩ := P; clear hb hB2)
            | (go_at_call 49; refine (KW _ hB3).mono ?_; rintro e w4 ⟨rfl, hb⟩; have hB4 : Below w.heap.size w w4 := hB3.trans (hb.mono hB3.size); have P := keep6 ⟨⟨p0, p1, p2⟩, q0, q1, q2⟩ hb; clear p0 p1 p2 q0 q1 q2; obtain ⟨⟨p0, p1, p2⟩, q0, q1, q2⟩ := P; clear hb hB3))
          go_ret
          exact ⟨rtB (by simp), hB4⟩
        · rw [cmpW_eq hm] at KW
          rw [decide_eq_false (show ¬ m' < m by omega), decide_eq_true hm]
          clear hm
          cases h4 : grdT t with
          | false =>
            rw [h4] at KG
            go_enter Tryz.func9, Tryz.ntmps9
            go_wp2_with (first
              | (go_at_call_of 13 t; rw [← hW]; refine (KT _ hWb).mono ?_; rintro e w1 ⟨rfl, hb⟩; have hB1 : Below w.heap.size w w1 := hWb.trans (hb.mono hWb.size); have P := keep6 P0 hb; obtain ⟨⟨p0, p1, p2⟩, q0, q1, q2⟩ := P; clear hb hW)
              | (go_at_call_of 13 u; refine (KU _ hB1).mono ?_; rintro e w2 ⟨rfl, hb⟩; have hB2 : Below w.heap.size w w2 := hB1.trans (hb.mono hB1.size); have P := keep6 ⟨⟨p0, p1, p2⟩, q0, q1, q2⟩ hb; clear p0 p1 p2 q0 q1 q2; obtain ⟨⟨p0, p1, p2⟩, q0, q1, q2⟩ := P; clear hb hB1)
              | (go_at_call 48; refine (KO _ hB2).mono ?_; rintro e w3 ⟨rfl, hb⟩; have hB3 : Below w.heap.size w w3 := hB2.trans (hb.mono hB2.size); have P := keep6 ⟨⟨p0, p1, p2⟩, q0, q1, q2⟩ hb; clear p0 p1 p2 q0 q1 q2; obtain ⟨⟨p0, p1, p2⟩, q0, q1, q2⟩ := P; clear hb hB2)
              | (go_at_call 49; refine (KW _ hB3).mono ?_; rintro e w4 ⟨rfl, hb⟩; have hB4 : Below w.heap.size w w4 := hB3.trans (hb.mono hB3.size); have P := keep6 ⟨⟨p0, p1, p2⟩, q0, q1, q2⟩ hb; clear p0 p1 p2 q0 q1 q2; obtain ⟨⟨p0, p1, p2⟩, q0, q1, q2⟩ := P; clear hb hB3)
              | (go_at_call_of 51 t; refine (KG _ hB4).mono ?_; rintro e w5 ⟨rfl, hb⟩; have hB5 : Below w.heap.size w w5 := hB4.trans (hb.mono hB4.size); have P := keep6 ⟨⟨p0, p1, p2⟩, q0, q1, q2⟩ hb; clear p0 p1 p2 q0 q1 q2; obtain ⟨⟨p0, p1, p2⟩, q0, q1, q2⟩ := P; clear hb hB4))
            go_ret
            exact ⟨rtB (by simp), hB5⟩
          | true =>
            rw [h4] at KG
            cases h5 : grdT u with
            | false =>
              rw [h5] at KH
              go_enter Tryz.func9, Tryz.ntmps9
              go_wp2_with (first
                | (go_at_call_of 13 t; rw [← hW]; refine (KT _ hWb).mono ?_; rintro e w1 ⟨rfl, hb⟩; have hB1 : Below w.heap.size w w1 := hWb.trans (hb.mono hWb.size); have P := keep6 P0 hb; obtain ⟨⟨p0, p1, p2⟩, q0, q1, q2⟩ := P; clear hb hW)
                | (go_at_call_of 13 u; refine (KU _ hB1).mono ?_; rintro e w2 ⟨rfl, hb⟩; have hB2 : Below w.heap.size w w2 := hB1.trans (hb.mono hB1.size); have P := keep6 ⟨⟨p0, p1, p2⟩, q0, q1, q2⟩ hb; clear p0 p1 p2 q0 q1 q2; obtain ⟨⟨p0, p1, p2⟩, q0, q1, q2⟩ := P; clear hb hB1)
                | (go_at_call 48; refine (KO _ hB2).mono ?_; rintro e w3 ⟨rfl, hb⟩; have hB3 : Below w.heap.size w w3 := hB2.trans (hb.mono hB2.size); have P := keep6 ⟨⟨p0, p1, p2⟩, q0, q1, q2⟩ hb; clear p0 p1 p2 q0 q1 q2; obtain ⟨⟨p0, p1, p2⟩, q0, q1, q2⟩ := P; clear hb hB2)
                | (go_at_call 49; refine (KW _ hB3).mono ?_; rintro e w4 ⟨rfl, hb⟩; have hB4 : Below w.heap.size w w4 := hB3.trans (hb.mono hB3.size); have P := keep6 ⟨⟨p0, p1, p2⟩, q0, q1, q2⟩ hb; clear p0 p1 p2 q0 q1 q2; obtain ⟨⟨p0, p1, p2⟩, q0, q1, q2⟩ := P; clear hb hB3)
                | (go_at_call_of 51 t; refine (KG _ hB4).mono ?_; rintro e w5 ⟨rfl, hb⟩; have hB5 : Below w.heap.size w w5 := hB4.trans (hb.mono hB4.size); have P := keep6 ⟨⟨p0, p1, p2⟩, q0, q1, q2⟩ hb; clear p0 p1 p2 q0 q1 q2; obtain ⟨⟨p0, p1, p2⟩, q0, q1, q2⟩ := P; clear hb hB4)
                | (go_at_call_of 51 u; refine (KH _ hB5).mono ?_; rintro e w6 ⟨rfl, hb⟩; have hB6 : Below w.heap.size w w6 := hB5.trans (hb.mono hB5.size); have P := keep6 ⟨⟨p0, p1, p2⟩, q0, q1, q2⟩ hb; clear p0 p1 p2 q0 q1 q2; obtain ⟨⟨p0, p1, p2⟩, q0, q1, q2⟩ := P; clear hb hB5))
              go_ret
              exact ⟨rtB (by simp), hB6⟩
            | true =>
              rw [h5] at KH
              generalize befT u t = bv at KB ⊢
              go_enter Tryz.func9, Tryz.ntmps9
              go_wp2_with (first
                | (go_at_call_of 13 t; rw [← hW]; refine (KT _ hWb).mono ?_; rintro e w1 ⟨rfl, hb⟩; have hB1 : Below w.heap.size w w1 := hWb.trans (hb.mono hWb.size); have P := keep6 P0 hb; obtain ⟨⟨p0, p1, p2⟩, q0, q1, q2⟩ := P; clear hb hW)
                | (go_at_call_of 13 u; refine (KU _ hB1).mono ?_; rintro e w2 ⟨rfl, hb⟩; have hB2 : Below w.heap.size w w2 := hB1.trans (hb.mono hB1.size); have P := keep6 ⟨⟨p0, p1, p2⟩, q0, q1, q2⟩ hb; clear p0 p1 p2 q0 q1 q2; obtain ⟨⟨p0, p1, p2⟩, q0, q1, q2⟩ := P; clear hb hB1)
                | (go_at_call 48; refine (KO _ hB2).mono ?_; rintro e w3 ⟨rfl, hb⟩; have hB3 : Below w.heap.size w w3 := hB2.trans (hb.mono hB2.size); have P := keep6 ⟨⟨p0, p1, p2⟩, q0, q1, q2⟩ hb; clear p0 p1 p2 q0 q1 q2; obtain ⟨⟨p0, p1, p2⟩, q0, q1, q2⟩ := P; clear hb hB2)
                | (go_at_call 49; refine (KW _ hB3).mono ?_; rintro e w4 ⟨rfl, hb⟩; have hB4 : Below w.heap.size w w4 := hB3.trans (hb.mono hB3.size); have P := keep6 ⟨⟨p0, p1, p2⟩, q0, q1, q2⟩ hb; clear p0 p1 p2 q0 q1 q2; obtain ⟨⟨p0, p1, p2⟩, q0, q1, q2⟩ := P; clear hb hB3)
                | (go_at_call_of 51 t; refine (KG _ hB4).mono ?_; rintro e w5 ⟨rfl, hb⟩; have hB5 : Below w.heap.size w w5 := hB4.trans (hb.mono hB4.size); have P := keep6 ⟨⟨p0, p1, p2⟩, q0, q1, q2⟩ hb; clear p0 p1 p2 q0 q1 q2; obtain ⟨⟨p0, p1, p2⟩, q0, q1, q2⟩ := P; clear hb hB4)
                | (go_at_call_of 51 u; refine (KH _ hB5).mono ?_; rintro e w6 ⟨rfl, hb⟩; have hB6 : Below w.heap.size w w6 := hB5.trans (hb.mono hB5.size); have P := keep6 ⟨⟨p0, p1, p2⟩, q0, q1, q2⟩ hb; clear p0 p1 p2 q0 q1 q2; obtain ⟨⟨p0, p1, p2⟩, q0, q1, q2⟩ := P; clear hb hB5)
                | (go_at_call 52; refine (KB _ hB6).mono ?_; rintro e w7 ⟨rfl, hb⟩; have hB7 : Below w.heap.size w w7 := hB6.trans (hb.mono hB6.size); have P := keep6 ⟨⟨p0, p1, p2⟩, q0, q1, q2⟩ hb; clear p0 p1 p2 q0 q1 q2; obtain ⟨⟨p0, p1, p2⟩, q0, q1, q2⟩ := P; clear hb hB6))
              go_ret
              exact ⟨rtB (by simp), hB7⟩
        · rw [cmpW_gt hm] at KW
          rw [decide_eq_true hm]
          clear hm
          go_enter Tryz.func9, Tryz.ntmps9
          go_wp2_with (first
            | (go_at_call_of 13 t; rw [← hW]; refine (KT _ hWb).mono ?_; rintro e w1 ⟨rfl, hb⟩; have hB1 : Below w.heap.size w w1 := hWb.trans (hb.mono hWb.size); have P := keep6 P0 hb; obtain ⟨⟨p0, p1, p2⟩, q0, q1, q2⟩ := P; clear hb hW)
            | (go_at_call_of 13 u; refine (KU _ hB1).mono ?_; rintro e w2 ⟨rfl, hb⟩; have hB2 : Below w.heap.size w w2 := hB1.trans (hb.mono hB1.size); have P := keep6 ⟨⟨p0, p1, p2⟩, q0, q1, q2⟩ hb; clear p0 p1 p2 q0 q1 q2; obtain ⟨⟨p0, p1, p2⟩, q0, q1, q2⟩ := P; clear hb hB1)
            | (go_at_call 48; refine (KO _ hB2).mono ?_; rintro e w3 ⟨rfl, hb⟩; have hB3 : Below w.heap.size w w3 := hB2.trans (hb.mono hB2.size); have P := keep6 ⟨⟨p0, p1, p2⟩, q0, q1, q2⟩ hb; clear p0 p1 p2 q0 q1 q2; obtain ⟨⟨p0, p1, p2⟩, q0, q1, q2⟩ := P; clear hb hB2)
            | (go_at_call 49; refine (KW _ hB3).mono ?_; rintro e w4 ⟨rfl, hb⟩; have hB4 : Below w.heap.size w w4 := hB3.trans (hb.mono hB3.size); have P := keep6 ⟨⟨p0, p1, p2⟩, q0, q1, q2⟩ hb; clear p0 p1 p2 q0 q1 q2; obtain ⟨⟨p0, p1, p2⟩, q0, q1, q2⟩ := P; clear hb hB3))
          go_ret
          exact ⟨rtB (by simp), hB4⟩
end Go.Proofs.YtollijngiioonaaGreat

/- Which of two terms is greater, as the specification tells it. Conditions: terms of at most 1048577 parts, at most 1048577 functions. -/
namespace Go.Proofs.YtollijngiioonaaGreat
set_option maxRecDepth 100000
open Go.RowKit

set_option maxHeartbeats 6400000 in
theorem specGreater_any (sa : Option Addr) (ss : List SymD) (sc : Nat) (hss : ss.length ≤ 1048577) (hnm : ∀ s ∈ ss, s.name.size ≤ 1048576) (t u : TermD) (a a' : Option Addr) (c c' hi : Nat) (w : World) (hf : isW t.f) (hf' : isW u.f) (hs : RdS w sa ss) (hp : partsT t ≤ 1048577) (hp' : partsT u ≤ 1048577) (hr : RdK w hi a t.kids) (hr' : RdK w hi a' u.kids) (hhi : hi ≤ w.heap.size) :
    Calls Tryz.prog 11 #[.slice sa ss.length sc, .agg #[.int .i64 t.f, .int .i64 t.v, .slice a t.kids.length c], .agg #[.int .i64 u.f, .int .i64 u.v, .slice a' u.kids.length c']] w fun e w' => e = .returned (.bool (gtrT ss t u)) ∧ Below w.heap.size w w' := by
  obtain ⟨W, hW⟩ : ∃ W, W = (w.alloc (.cells #[.int .i64 t.f, .int .i64 t.v, .slice a t.kids.length c] 27)).alloc (.cells #[.int .i64 u.f, .int .i64 u.v, .slice a' u.kids.length c'] 27) := ⟨_, rfl⟩
  have hWb : Below w.heap.size w W := by rw [hW]; exact ((Below.refl _ _).alloc (Nat.le_refl _) _).alloc (by simp) _
  have P0 : (W.cell? ⟨w.heap.size, 0, none⟩ = some (.int .i64 t.f) ∧ W.cell? ⟨w.heap.size, 1, none⟩ = some (.int .i64 t.v) ∧ W.cell? ⟨w.heap.size, 2, none⟩ = some (.slice a t.kids.length c)) ∧ W.cell? ⟨w.heap.size + 1, 0, none⟩ = some (.int .i64 u.f) ∧ W.cell? ⟨w.heap.size + 1, 1, none⟩ = some (.int .i64 u.v) ∧ W.cell? ⟨w.heap.size + 1, 2, none⟩ = some (.slice a' u.kids.length c') := by rw [hW]; simp [go_sem]
  have KT : ∀ W', Below w.heap.size w W' → Calls Tryz.prog 56 #[.slice sa ss.length sc, .agg #[.int .i64 t.f, .int .i64 t.v, .slice a t.kids.length c]] W' fun e w' => e = .returned (.bool (tok3 ss t)) ∧ Below W'.heap.size W' w' := fun W' h => specTermOk_any sa ss sc hss hnm t a c hi W' hf (hs.below h) (by omega) (hr.on (h.mono hhi)) (Nat.le_trans hhi h.size)
  have KU : ∀ W', Below w.heap.size w W' → Calls Tryz.prog 56 #[.slice sa ss.length sc, .agg #[.int .i64 u.f, .int .i64 u.v, .slice a' u.kids.length c']] W' fun e w' => e = .returned (.bool (tok3 ss u)) ∧ Below W'.heap.size W' w' := fun W' h => specTermOk_any sa ss sc hss hnm u a' c' hi W' hf' (hs.below h) (by omega) (hr'.on (h.mono hhi)) (Nat.le_trans hhi h.size)
  have KV : ∀ W', Below w.heap.size w W' → Calls Tryz.prog 57 #[.agg #[.int .i64 u.f, .int .i64 u.v, .slice a' u.kids.length c']] W' fun e w' => ∃ g' c', e = .returned (.slice (some ⟨g', 0, none⟩) (varsT u []).length c') ∧ OutRow w' W'.heap.size g' c' (varsT u []) ∧ Below W'.heap.size W' w' := fun W' h => specVarsOf_any u a' c' hi W' hp' (hr'.on (h.mono hhi)) (Nat.le_trans hhi h.size)
  have KC : Hid (∀ x W', Below w.heap.size w W' → Calls Tryz.prog 58 #[.agg #[.int .i64 t.f, .int .i64 t.v, .slice a t.kids.length c], .int .i64 x] W' fun e w' => e = .returned (.int .i64 (cntT x t)) ∧ Below W'.heap.size W' w') := fun x W' h => specCount_any 1048577 t a c hi x W' hp (by omega) (hr.on (h.mono hhi)) (Nat.le_trans hhi h.size)
  have KD : Hid (∀ x W', Below w.heap.size w W' → Calls Tryz.prog 58 #[.agg #[.int .i64 u.f, .int .i64 u.v, .slice a' u.kids.length c'], .int .i64 x] W' fun e w' => e = .returned (.int .i64 (cntT x u)) ∧ Below W'.heap.size W' w') := fun x W' h => specCount_any 1048577 u a' c' hi x W' hp' (by omega) (hr'.on (h.mono hhi)) (Nat.le_trans hhi h.size)
  have KW : ∀ W', Below w.heap.size w W' → Calls Tryz.prog 59 #[.slice sa ss.length sc, .agg #[.int .i64 t.f, .int .i64 t.v, .slice a t.kids.length c]] W' fun e w' => e = .returned (.int .i64 (wgtT (blindAt ss) t : Nat)) ∧ Below W'.heap.size W' w' := fun W' h => specWeight_any sa ss sc hss 1048577 t a c hi W' hf (hs.below h) hp (by omega) (hr.on (h.mono hhi)) (Nat.le_trans hhi h.size)
  have KX : ∀ W', Below w.heap.size w W' → Calls Tryz.prog 59 #[.slice sa ss.length sc, .agg #[.int .i64 u.f, .int .i64 u.v, .slice a' u.kids.length c']] W' fun e w' => e = .returned (.int .i64 (wgtT (blindAt ss) u : Nat)) ∧ Below W'.heap.size W' w' := fun W' h => specWeight_any sa ss sc hss 1048577 u a' c' hi W' hf' (hs.below h) hp' (by omega) (hr'.on (h.mono hhi)) (Nat.le_trans hhi h.size)
  have KG : ∀ W', Below w.heap.size w W' → Calls Tryz.prog 60 #[.agg #[.int .i64 t.f, .int .i64 t.v, .slice a t.kids.length c]] W' fun e w' => e = .returned (.bool (grdT t)) ∧ Below W'.heap.size W' w' := fun W' h => specGround_any t a c hi W' hp (hr.on (h.mono hhi)) (Nat.le_trans hhi h.size)
  have KH : ∀ W', Below w.heap.size w W' → Calls Tryz.prog 60 #[.agg #[.int .i64 u.f, .int .i64 u.v, .slice a' u.kids.length c']] W' fun e w' => e = .returned (.bool (grdT u)) ∧ Below W'.heap.size W' w' := fun W' h => specGround_any u a' c' hi W' hp' (hr'.on (h.mono hhi)) (Nat.le_trans hhi h.size)
  have KB : ∀ W', Below w.heap.size w W' → Calls Tryz.prog 61 #[.agg #[.int .i64 u.f, .int .i64 u.v, .slice a' u.kids.length c'], .agg #[.int .i64 t.f, .int .i64 t.v, .slice a t.kids.length c]] W' fun e w' => e = .returned (.bool (befT u t)) ∧ Below W'.heap.size W' w' := fun W' h => specBefore_any 1048577 u t a' a c' c hi W' hp' (by omega) (hr'.on (h.mono hhi)) (hr.on (h.mono hhi)) (Nat.le_trans hhi h.size)
  have hvl := vars_len u
  clear hs hr hr' hf hf'
  unfold gtrT ovrT oftT
  obtain ⟨zs, hzs⟩ : ∃ zs, zs = varsT u [] := ⟨_, rfl⟩
  rw [← hzs] at KV hvl ⊢
  clear hzs
  cases h1 : tok3 ss t with
  | false =>
    rw [h1] at KT
    clear KU KV KW KX KG KH KB
    go_enter Tryz.func11, Tryz.ntmps11
    go_wp2_with (go_at_call_of 56 t; rw [← hW]; refine (KT _ hWb).mono ?_; rintro e w1 ⟨rfl, hb⟩; have hB1 : Below w.heap.size w w1 := hWb.trans (hb.mono hWb.size); have P := keep6 P0 hb; obtain ⟨⟨p0, p1, p2⟩, q0, q1, q2⟩ := P; clear hb hW)
    go_ret
    exact ⟨rtB (by simp), hB1⟩
  | true =>
    rw [h1] at KT
    cases h2 : tok3 ss u with
    | false =>
      rw [h2] at KU
      clear KV KW KX KG KH KB
      go_enter Tryz.func11, Tryz.ntmps11
      go_wp2_with (first
        | (go_at_call_of 56 t; rw [← hW]; refine (KT _ hWb).mono ?_; rintro e w1 ⟨rfl, hb⟩; have hB1 : Below w.heap.size w w1 := hWb.trans (hb.mono hWb.size); have P := keep6 P0 hb; obtain ⟨⟨p0, p1, p2⟩, q0, q1, q2⟩ := P; clear hb hW)
        | (go_at_call_of 56 u; refine (KU _ hB1).mono ?_; rintro e w2 ⟨rfl, hb⟩; have hB2 : Below w.heap.size w w2 := hB1.trans (hb.mono hB1.size); have P := keep6 ⟨⟨p0, p1, p2⟩, q0, q1, q2⟩ hb; clear p0 p1 p2 q0 q1 q2; obtain ⟨⟨p0, p1, p2⟩, q0, q1, q2⟩ := P; clear hb hB1))
      go_ret
      exact ⟨rtB (by simp), hB2⟩
    | true =>
      rw [h2] at KU
      generalize wgtT (blindAt ss) t = m at KW ⊢
      generalize wgtT (blindAt ss) u = m' at KX ⊢
      generalize grdT t = gt at KG ⊢
      generalize grdT u = gu at KH ⊢
      generalize befT u t = bv at KB ⊢
      go_enter Tryz.func11, Tryz.ntmps11
      go_wp2_with (first
        | (go_at_call_of 56 t; rw [← hW]; refine (KT _ hWb).mono ?_; rintro e w1 ⟨rfl, hb⟩; have hB1 : Below w.heap.size w w1 := hWb.trans (hb.mono hWb.size); have P := keep6 P0 hb; obtain ⟨⟨p0, p1, p2⟩, q0, q1, q2⟩ := P; clear hb hW)
        | (go_at_call_of 56 u; refine (KU _ hB1).mono ?_; rintro e w2 ⟨rfl, hb⟩; have hB2 : Below w.heap.size w w2 := hB1.trans (hb.mono hB1.size); have P := keep6 ⟨⟨p0, p1, p2⟩, q0, q1, q2⟩ hb; clear p0 p1 p2 q0 q1 q2; obtain ⟨⟨p0, p1, p2⟩, q0, q1, q2⟩ := P; clear hb hB1)
        | (go_at_call 57; refine (KV _ hB2).mono ?_; rintro e w3 ⟨gz, cz, rfl, ho, hb⟩; have hB3 : Below w.heap.size w w3 := hB2.trans (hb.mono hB2.size); have P := keep6 ⟨⟨p0, p1, p2⟩, q0, q1, q2⟩ hb; clear p0 p1 p2 q0 q1 q2; have hrd : Rd w3 (some ⟨gz, 0, none⟩) zs := Rd.own rfl ho; clear hb hB2 ho KV KT KU))
      go_loopw [8] (fun vk wr => ∃ k : Nat, vk = .int .i64 k ∧ k ≤ zs.length ∧ Below w3.heap.size w3 wr ∧ Hid (∀ j, (hj : j < zs.length) → j < k → cntT zs[j] u ≤ cntT zs[j] t)) (fun vk _ => zs.length - (intOf vk).toNat)
      case atStart => exact ⟨0, rfl, Nat.zero_le _, Below.refl _ _, fun j _ h => absurd h (Nat.not_lt_zero _)⟩
      case round =>
        obtain ⟨k, rfl, hk, hb, HA⟩ := hrel
        have hB : Below w.heap.size w wr := hB3.trans (hb.mono hB3.size)
        obtain ⟨⟨r0, r1, r2⟩, s0, s1, s2⟩ := keep6 P hb
        by_cases hkl : k < zs.length
        · have hklz : (k : Int) < (zs.length : Int) := by omega
          clear KW KX KG KH KB
          rcases hrd.below hb with h | ⟨b, off, hboff, hbl, hcz⟩
          · rw [h] at hkl; simp at hkl
          · cases hboff
            have hck := hcz k hkl
            rw [List.getElem?_eq_getElem hkl, Option.getD_some, Nat.zero_add] at hck
            have IT := fun W' (h : Below wr.heap.size wr W') => KC.out zs[k] W' (hB.trans (h.mono hB.size))
            have IU := fun W' (h : Below wr.heap.size wr W') => KD.out zs[k] W' (hB.trans (h.mono hB.size))
            have HZ : Hid (∀ j, (hj : j < zs.length) → j < k + 1 → cntT zs[k] u ≤ cntT zs[k] t → cntT zs[j] u ≤ cntT zs[j] t) := fun j hj hjk h => by
              rcases Nat.lt_or_ge j k with h1 | h1
              · exact HA.out j hj h1
              · have : j = k := by omega
                subst this; exact h
            have HF : Hid (¬ cntT zs[k] u ≤ cntT zs[k] t → oftL t u zs = false) := fun h => oft_hit hkl h
            clear hcz
            generalize zs[k] = x at hck IT IU HZ HF
            by_cases hcmp : cntT x u ≤ cntT x t
            · have hcz2 : ¬ ((cntT x t : Nat) : Int) < ((cntT x u : Nat) : Int) := by omega
              generalize cntT x t = m1 at IT hcz2
              generalize cntT x u = m2 at IU hcz2
              go_wp2
              have k0 := cellB r0
              have k1 := cellB r1
              have k2 := cellB r2
              have l0 := cellB s0
              have l1 := cellB s1
              have l2 := cellB s2
              have kz := cellB hck
              refine wp_region_below (by kernel_rfl) (by kernel_rfl) ?_
              repeat (go_big_quiet_step ((first | (go_at_call_of 58 t; refine callsB (IT _ (BW.b _))) | (go_at_call_of 58 u; refine callsB (IU _ (BW.b _))))))
              refine wpQuiet_nil ?_
              intro w4 hw'
              have hb2 : Below wr.heap.size wr w4 := by obtain ⟨p, rfl⟩ := hw'; exact p.b
              clear hw' k0 k1 k2 l0 l1 l2 kz
              go_wp2_with fail
              go_roundw
              case rel => exact ⟨k + 1, by go_num, by omega, hb.trans (hb2.mono hb.size), fun j hj hjk => HZ.out j hj hjk hcmp⟩
              case measure => simp [intOf]; omega
            · have hcz2 : ((cntT x t : Nat) : Int) < ((cntT x u : Nat) : Int) := by omega
              have HF2 : Hid (oftL t u zs = false) := HF.out hcmp
              generalize cntT x t = m1 at IT hcz2
              generalize cntT x u = m2 at IU hcz2
              go_wp2
              have k0 := cellB r0
              have k1 := cellB r1
              have k2 := cellB r2
              have l0 := cellB s0
              have l1 := cellB s1
              have l2 := cellB s2
              have kz := cellB hck
              refine wp_region_below (by kernel_rfl) (by kernel_rfl) ?_
              repeat (go_big_quiet_step ((first | (go_at_call_of 58 t; refine callsB (IT _ (BW.b _))) | (go_at_call_of 58 u; refine callsB (IU _ (BW.b _))))))
              refine wpQuiet_nil ?_
              intro w4 hw'
              have hb2 : Below wr.heap.size wr w4 := by obtain ⟨p, rfl⟩ := hw'; exact p.b
              clear hw' k0 k1 k2 l0 l1 l2 kz
              go_wp2_with fail
              go_ret
              exact ⟨rtB (by rw [HF2.out]; simp), hB.trans (hb2.mono hB.size)⟩
        · have hklz : ¬ (k : Int) < (zs.length : Int) := by omega
          have HF2 : Hid (oftL t u zs = true) := oft_all (fun j hj => HA.out j hj (by omega))
          clear HA KC KD hrd
          have IW := fun W' (h : Below wr.heap.size wr W') => KW W' (hB.trans (h.mono hB.size))
          have IX := fun W' (h : Below wr.heap.size wr W') => KX W' (hB.trans (h.mono hB.size))
          go_wp2
          have k0 := cellB r0
          have k1 := cellB r1
          have k2 := cellB r2
          have l0 := cellB s0
          have l1 := cellB s1
          have l2 := cellB s2
          refine wp_region_below (by kernel_rfl) (by kernel_rfl) ?_
          repeat (go_big_quiet_step ((first | (go_at_call_of 59 t; refine callsB (IW _ (BW.b _))) | (go_at_call_of 59 u; refine callsB (IX _ (BW.b _))))))
          refine wpQuiet_nil ?_
          intro w4 hw'
          have hb2 : Below wr.heap.size wr w4 := by obtain ⟨p, rfl⟩ := hw'; exact p.b
          have hB4 : Below w.heap.size w w4 := hB.trans (hb2.mono hB.size)
          have P4 := keep6 ⟨⟨r0, r1, r2⟩, s0, s1, s2⟩ hb2
          clear hw' k0 k1 k2 l0 l1 l2 r0 r1 r2 s0 s1 s2 P KW KX IW IX hb hb2 hB hB3
          obtain ⟨⟨p0, p1, p2⟩, q0, q1, q2⟩ := P4
          rcases Nat.lt_trichotomy m m' with hm | hm | hm
          · have z1 : ¬ (m' : Int) < (m : Int) := by omega
            have z2 : ¬ (m : Int) = (m' : Int) := by omega
            have HD : Hid (decide (m' < m) = false ∧ decide (m = m') = false) := ⟨decide_eq_false (by omega), decide_eq_false (by omega)⟩
            clear hm
            go_wp2_with fail
            go_ret
            exact ⟨rtB (by first | rfl | simp [HF2.out, HD.out.1, HD.out.2]), hB4⟩
          · subst hm
            have z1 : ¬ (m : Int) < (m : Int) := by omega
            have HD : Hid (decide (m < m) = false ∧ decide (m = m) = true) := ⟨decide_eq_false (by omega), decide_eq_true rfl⟩
            cases gt with
            | false =>
              go_wp2_with (go_at_call_of 60 t; refine (KG _ hB4).mono ?_; rintro e w5 ⟨rfl, hb⟩; have hB5 : Below w.heap.size w w5 := hB4.trans (hb.mono hB4.size); have P := keep6 ⟨⟨p0, p1, p2⟩, q0, q1, q2⟩ hb; clear p0 p1 p2 q0 q1 q2; obtain ⟨⟨p0, p1, p2⟩, q0, q1, q2⟩ := P; clear hb hB4)
              go_ret
              exact ⟨rtB (by first | rfl | simp [HF2.out, HD.out.1, HD.out.2]), hB5⟩
            | true =>
              cases gu with
              | false =>
                go_wp2_with (first
                  | (go_at_call_of 60 t; refine (KG _ hB4).mono ?_; rintro e w5 ⟨rfl, hb⟩; have hB5 : Below w.heap.size w w5 := hB4.trans (hb.mono hB4.size); have P := keep6 ⟨⟨p0, p1, p2⟩, q0, q1, q2⟩ hb; clear p0 p1 p2 q0 q1 q2; obtain ⟨⟨p0, p1, p2⟩, q0, q1, q2⟩ := P; clear hb hB4)
                  | (go_at_call_of 60 u; refine (KH _ hB5).mono ?_; rintro e w6 ⟨rfl, hb⟩; have hB6 : Below w.heap.size w w6 := hB5.trans (hb.mono hB5.size); have P := keep6 ⟨⟨p0, p1, p2⟩, q0, q1, q2⟩ hb; clear p0 p1 p2 q0 q1 q2; obtain ⟨⟨p0, p1, p2⟩, q0, q1, q2⟩ := P; clear hb hB5))
                go_ret
                exact ⟨rtB (by first | rfl | simp [HF2.out, HD.out.1, HD.out.2]), hB6⟩
              | true =>
                go_wp2_with (first
                  | (go_at_call_of 60 t; refine (KG _ hB4).mono ?_; rintro e w5 ⟨rfl, hb⟩; have hB5 : Below w.heap.size w w5 := hB4.trans (hb.mono hB4.size); have P := keep6 ⟨⟨p0, p1, p2⟩, q0, q1, q2⟩ hb; clear p0 p1 p2 q0 q1 q2; obtain ⟨⟨p0, p1, p2⟩, q0, q1, q2⟩ := P; clear hb hB4)
                  | (go_at_call_of 60 u; refine (KH _ hB5).mono ?_; rintro e w6 ⟨rfl, hb⟩; have hB6 : Below w.heap.size w w6 := hB5.trans (hb.mono hB5.size); have P := keep6 ⟨⟨p0, p1, p2⟩, q0, q1, q2⟩ hb; clear p0 p1 p2 q0 q1 q2; obtain ⟨⟨p0, p1, p2⟩, q0, q1, q2⟩ := P; clear hb hB5)
                  | (go_at_call 61; refine (KB _ hB6).mono ?_; rintro e w7 ⟨rfl, hb⟩; have hB7 : Below w.heap.size w w7 := hB6.trans (hb.mono hB6.size); have P := keep6 ⟨⟨p0, p1, p2⟩, q0, q1, q2⟩ hb; clear p0 p1 p2 q0 q1 q2; obtain ⟨⟨p0, p1, p2⟩, q0, q1, q2⟩ := P; clear hb hB6))
                go_ret
                exact ⟨rtB (by first | rfl | simp [HF2.out]), hB7⟩
          · have z1 : (m' : Int) < (m : Int) := by omega
            have HD : Hid (decide (m' < m) = true ∧ decide (m = m') = false) := ⟨decide_eq_true hm, decide_eq_false (by omega)⟩
            clear hm
            go_wp2_with fail
            go_ret
            exact ⟨rtB (by first | rfl | simp [HF2.out, HD.out.1, HD.out.2]), hB4⟩
end Go.Proofs.YtollijngiioonaaGreat

/- The specification's copy of a term: it owns new memory. Conditions: terms of at most 549755813888 parts. -/
namespace Go.Proofs.YtollijngiioonaaGreat
set_option maxRecDepth 100000
open Go.RowKit

/-- Behind the append of a copied Kid: the boxes and the row. -/
theorem cpy_app {w X w1 w5 : World} {t u : TermD} {a a1 av : Option Addr} {c c1 cv m g5 c5 : Nat} {vo : Value} {L : List FE}
    (C1 : NC w t a c vo w1) (R1 : NR (w.heap.size + 1 + 1 + 1) L [⟨u, a1, c1, fun x => m ≤ x ∧ x < w1.heap.size⟩] av cv w1) (hb : Below w1.heap.size w1 X)
    (hO : w5.ownsRow (w.heap.size + 1 + 1 + 1) 27 3 (.slice (some ⟨g5, 0, none⟩) (L.length + 1) c5) (L.length + 1) (cs3 (L.map FE.cells) ++ [.int .i64 u.f, .int .i64 u.v, .slice a1 u.kids.length c1])) (hG : X.grownBy w5 (Value.slice av L.length cv).ownBlock) (hat : (Value.slice (some ⟨g5, 0, none⟩) (L.length + 1) c5).ownBlock = (Value.slice av L.length cv).ownBlock ∨ (Value.slice (some ⟨g5, 0, none⟩) (L.length + 1) c5).ownBlock = some X.heap.size) :
    NC w t a c vo w5 ∧ NR (w.heap.size + 1 + 1 + 1) (L ++ [⟨u, a1, c1, fun x => m ≤ x ∧ x < w1.heap.size⟩]) [] (some ⟨g5, 0, none⟩) c5 w5 := by
  have R2 := R1.on hb
  obtain ⟨g, c', hv, R3⟩ := R2.app hG hO hat
  cases hv
  exact ⟨(C1.on hb).stay (.grown hG (fun k e hk => by have := (R2.row.lt k e).1; omega)), R3⟩

set_option maxHeartbeats 3200000 in
set_option maxRecDepth 100000 in
theorem l3Copy_any (N : Nat) : ∀ (t : TermD) (a : Option Addr) (c hi : Nat) (w : World), partsT t ≤ N → N ≤ 549755813888 → RdK w hi a t.kids → hi ≤ w.heap.size → isW t.f → isW t.v →
    Calls Tryz.prog 82 #[.agg #[.int .i64 t.f, .int .i64 t.v, .slice a t.kids.length c]] w fun e w' => ∃ a' c', e = .returned (.agg #[.int .i64 t.f, .int .i64 t.v, .slice a' t.kids.length c']) ∧ OwnR w' (fun x => w.heap.size ≤ x ∧ x < w'.heap.size) a' c' t.kids ∧ t.kids.length ≤ c' ∧ Below w.heap.size w w' := by
  induction N with
  | zero => intro t a c hi w h; rw [partsT_eq] at h; omega
  | succ N ih =>
    intro t a c hi w hN hM hr hhi hfw hvw
    rw [partsT_eq] at hN
    obtain ⟨i0, hi0, hz0, hz1, hz2⟩ := info_parts info29
    have hlen := partsL_len t.kids
    have HR : Hid (RdK w hi a t.kids) := hr
    clear hr hfw hvw
    have C0 : NC w t a c (.slice none 0 0) (((w.alloc (.cells #[.int .i64 t.f, .int .i64 t.v, .slice a t.kids.length c] 27)).alloc (.cells #[.int .i64 0, .int .i64 0, .slice none 0 0] 27)).alloc (.cells #[.int .i64 t.f, .int .i64 t.v, .slice none 0 0] 27)) := by
      refine ⟨?_, ?_, ?_, ?_, ?_, ?_, ?_, ?_, fun j => ?_, fun j => ?_, (((Below.refl _ _).alloc (Nat.le_refl _) _).alloc (by simp) _).alloc (by simp; omega) _, ?_⟩
      all_goals simp [go_sem]
    go_enter Tryz.func82, Tryz.ntmps82
    go_wp2_with fail
    go_loopw [4] (fun i wr => ∃ (k : Nat) (L : List FE) (av : Option Addr) (cv : Nat), k ≤ t.kids.length ∧ i = .int .i64 k ∧ NC w t a c (.slice av L.length cv) wr ∧ NR (w.heap.size + 1 + 1 + 1) L [] av cv wr ∧ Hid (L.map FE.t = t.kids.take k)) (fun i _ => t.kids.length - (intOf i).toNat)
    case atStart => exact ⟨0, [], none, 0, Nat.zero_le _, rfl, C0, NR.start _ _, by show _ = _; simp⟩
    case round =>
      obtain ⟨k, L, av, cv, hk, rfl, C, R, HL⟩ := hrel
      clear C0
      have p2 := C.p2
      have hz := C.z
      have hLl : L.length ≤ t.kids.length := by have := congrArg List.length HL.out; simp at this; omega
      by_cases hk' : k < t.kids.length
      · obtain ⟨b, off, a', c', rfl, hlt, d0, d1, d2, hkr⟩ := RdK.kid (HR.out.on (C.bel.mono hhi)) hk'
        have hints := HR.out.ints hk'
        have hpg := partsL_get hk'
        have hki : (k : Int) < (t.kids.length : Int) := by omega
        have hki0 : (0 : Int) ≤ (k : Int) := by omega
        have hkz : (L.length : Int) < (L.length : Int) + 1 := by omega
        have hLb : L.length ≤ 549755813888 := by omega
        have HK : Hid (L.map FE.t ++ [t.kids[k]] = t.kids.take (k + 1)) := by show _ = _; rw [HL.out, List.take_succ_eq_append_getElem hk']
        have I := fun (w' : World) (h : Below wr.heap.size wr w') => ih t.kids[k] a' c' hi w' (by omega) (by omega) (hkr.on (h.mono (Nat.le_trans hhi C.bel.size))) (Nat.le_trans (Nat.le_trans hhi C.bel.size) h.size) hints.1 hints.2
        have HI : Hid (isW t.kids[k].f ∧ isW t.kids[k].v) := hints
        generalize t.kids[k] = u at d0 d1 d2 I HK HI
        have q2 := C.q2
        clear hkr hints hpg ih hlt
        have hlb : b < wr.heap.size := World.block_lt_of_cell? _ _ d0
        have b1 : Below wr.heap.size wr (wr.alloc (.cells #[.int .i64 0, .int .i64 0, .slice none 0 0] 27)) := (Below.refl _ _).alloc (Nat.le_refl _) _
        have p2a := keepC b1 p2
        have q2a := keepC b1 q2
        have d0a := keepC b1 d0
        have d1a := keepC b1 d1
        have d2a := keepC b1 d2
        clear b1
        go_wp2_with fail
        go_region_law (first
          | (go_simp; go_at_call 82; refine (I (wr.drew.alloc (.cells #[.int .i64 0, .int .i64 0, .slice none 0 0] 27)) ((Below.refl _ _).drew.alloc (by simp) _)).mono ?_; rintro e1 w1 ⟨a1, c1, rfl, o1, hle1, hb1⟩; have C1 := (C.on ((Below.refl _ _).drew.alloc (by simp) _)).on hb1; have R1 := (R.on ((Below.refl _ _).drew.alloc (by simp) _)).join hb1 (fe_one o1 hle1 HI.out.1 HI.out.2 (Nat.le_of_lt_succ (by simp; omega))) (fun e he x hx => by simp only [List.mem_singleton] at he; subst he; exact hx.1); have z0 := keepC (p := ⟨wr.heap.size, 0, none⟩) (v := .int .i64 0) hb1 (by simp [go_sem]); have z1 := keepC (p := ⟨wr.heap.size, 1, none⟩) (v := .int .i64 0) hb1 (by simp [go_sem]); have z2 := keepC (p := ⟨wr.heap.size, 2, none⟩) (v := .slice none 0 0) hb1 (by simp [go_sem]); have c2' := C1.q2; have f2' := C1.fq 2; have hbw := C1.z; have hne : (Value.slice av L.length cv).ownBlock ≠ some (w.heap.size + 1 + 1) := (fun q => by have := (R1.row.lt _ q).1; omega); have hrow := R1.row; have hxl := hrow.1; have hsz1 := hb1.size; have HC : Hid _ := C1; have HRR : Hid _ := R1; clear C1 R1 hb1 o1)
          | (go_simp; go_at_call 82; refine (I wr.drew (Below.refl _ _).drew).mono ?_; rintro e1 w1 ⟨a1, c1, rfl, o1, hle1, hb1⟩; have C1 := (C.on (Below.refl _ _).drew).on hb1; have R1 := (R.on (Below.refl _ _).drew).join hb1 (fe_one o1 hle1 HI.out.1 HI.out.2 (Nat.le_of_lt_succ (by simp; omega))) (fun e he x hx => by simp only [List.mem_singleton] at he; subst he; exact hx.1); have zB : True := trivial; have c2' := C1.q2; have f2' := C1.fq 2; have hbw := C1.z; have hne : (Value.slice av L.length cv).ownBlock ≠ some (w.heap.size + 1 + 1) := (fun q => by have := (R1.row.lt _ q).1; omega); have hrow := R1.row; have hxl := hrow.1; have hsz1 := hb1.size; have HC : Hid _ := C1; have HRR : Hid _ := R1; clear C1 R1 hb1 o1)
          | (have _ := zB; refine step_append_own rfl (.tmp 18) (.tmp 25) 25 rfl (w.heap.size + 1 + 1 + 1) 27 i0 _ 3 40 Tryz.underlying25 hi0 hz0 hz1 hz2 rfl (by decide) (.slice av L.length cv) L.length (cs3 (L.map FE.cells)) (by first | (simp [Act.eval]; done) | simp [Act.eval, Act.put]) (own_on hrow (by repeat (first | exact Below.refl _ _ | refine Below.drew ?_ | refine Below.alloc ?_ (by simp) _))) ⟨w1.heap.size, 0, none⟩ 1 1 [.int .i64 u.f, .int .i64 u.v, .slice a1 u.kids.length c1] (by first | (simp [Act.eval]; done) | simp [Act.eval, Act.put]) rfl (three_at (by simp) (by simp) (by simp)) (three_cell _ _ _ _ _) (by unfold maxLen; omega) (by omega) (by simp <;> omega) ?_; intro v5 w5 hown5 hgrow5 hat5; have HA5 : Hid _ := hat5; obtain ⟨g5, c5, rfl, _⟩ := own_slot hown5; have HO5 : Hid _ := hown5; have HG5 : Hid _ := hgrow5; have A5 := cpy_app HC.out HRR.out (by repeat (first | exact Below.refl _ _ | refine Below.drew ?_ | refine Below.alloc ?_ (by simp) _)) hown5 hgrow5 hat5; have c4' := A5.1.q2; have f4' := A5.1.fq 2; have HA : Hid _ := A5; clear A5 hown5 hgrow5 hat5)
          | (refine step_append_own rfl (.tmp 18) (.tmp 25) 25 rfl (w.heap.size + 1 + 1 + 1) 27 i0 _ 3 40 Tryz.underlying25 hi0 hz0 hz1 hz2 rfl (by decide) (.slice av L.length cv) L.length (cs3 (L.map FE.cells)) (by first | (simp [Act.eval]; done) | simp [Act.eval, Act.put]) (own_on hrow (by repeat (first | exact Below.refl _ _ | refine Below.drew ?_ | refine Below.alloc ?_ (by simp) _))) ⟨wr.heap.size, 0, none⟩ 1 1 [.int .i64 0, .int .i64 0, .slice none 0 0] (by first | (simp [Act.eval]; done) | simp [Act.eval, Act.put]) rfl (three_at z0 z1 z2) (three_cell _ _ _ _ _) (by unfold maxLen; omega) (by omega) (by simp <;> omega) ?_; intro v5 w5 hown5 hgrow5 hat5; have PF := put_facts hrow.1 hown5 hgrow5 hat5 (by repeat (first | exact Below.refl _ _ | refine Below.drew ?_ | refine Below.alloc ?_ (by simp) _)) hbw c2' f2' hne; have HA5 : Hid _ := hat5; obtain ⟨g5, c5, rfl, ⟨e0, e1, e2⟩, ⟨f0, f1, f2⟩, c4', f4', hg5, hc5, hat'⟩ := PF; have HO5 : Hid _ := hown5; have HG5 : Hid _ := hgrow5; clear hown5 hgrow5 hat5))
        all_goals
          clear c4' f4'
          have A5 := HA.out
          have C6 := A5.1.set (.slice (some ⟨g5, 0, none⟩) (L.length + 1) c5)
          have R6 := A5.2.set (p := ⟨w.heap.size + 1 + 1, 2, none⟩) (.slice (some ⟨g5, 0, none⟩) (L.length + 1) c5) (by simp only; omega)
          clear A5 HA
          go_wp2_with fail
          refine ⟨⟨k + 1, L ++ [⟨u, a1, c1, _⟩], some ⟨g5, 0, none⟩, c5, by omega, by go_num, by simpa using C6, R6, ?_⟩, by simp [intOf]; omega⟩
          show _ = _
          rw [fe_snoc, HK.out]
      · have E : Hid (k = t.kids.length) := (by omega : k = t.kids.length)
        have q0 := C.q0
        have q1 := C.q1
        have q2 := C.q2
        have r0 := C.r0
        have r1 := C.r1
        have r2 := C.r2
        have fr := C.fr
        have hL : Hid (L.map FE.t = t.kids) := by
          show _ = _
          rw [HL.out, E.out, List.take_length]
        have O : OwnR wr (fun x => w.heap.size + 1 + 1 + 1 ≤ x ∧ x < wr.heap.size) av cv (L.map FE.t) := by
          rcases R.row.2 with ⟨hv, h0⟩ | ⟨g, cap, _, hv, _⟩
          · have : L = [] := List.length_eq_zero_iff.1 h0
            subst this; cases hv; exact .nil _
          · cases hv
            exact (by simpa using R.fo : Forest wr _ L).owns R.row (fun e he => R.ap g rfl e (by simpa using he)) (by omega)
        have hcl : L.length ≤ cv := by obtain ⟨_, _, h, hh⟩ := own_form R.row; cases h; exact hh
        have hbel := C.bel
        clear C R HL E ih
        go_wp2_with fail
        obtain ⟨z0, z1, z2⟩ := set3_cells (u := wr) (r := w.heap.size + 1) (x := .int .i64 t.f) (y := .int .i64 t.v) (z := .slice av L.length cv) r0 r1 r2
        have hn : ¬ (w.heap.size + 1 + 1 + 1 ≤ w.heap.size + 1 ∧ w.heap.size + 1 < wr.heap.size) := by omega
        have O3 := ((O.setCell ⟨w.heap.size + 1, 0, none⟩ hn (.int .i64 t.f)).setCell ⟨w.heap.size + 1, 1, none⟩ hn (.int .i64 t.v)).setCell ⟨w.heap.size + 1, 2, none⟩ hn (.slice av L.length cv)
        rw [← hL.out, List.length_map]
        refine bodyPost_ret (v := .agg #[.int .i64 t.f, .int .i64 t.v, .slice av L.length cv]) (by simp [results, Tryz.results82, go_sem, z0, z1, z2]) rfl ⟨av, cv, rfl, O3.mono (fun x hx => ⟨by omega, by simpa using hx.2⟩), hcl, ?_⟩
        exact ((hbel.setCell (p := ⟨w.heap.size + 1, 0, none⟩) (by simp) _).setCell (p := ⟨w.heap.size + 1, 1, none⟩) (by simp) _).setCell (p := ⟨w.heap.size + 1, 2, none⟩) (by simp) _
end Go.Proofs.YtollijngiioonaaGreat

/- Which way round two terms stand: the program's way. Conditions: terms of at most 1048577 parts. -/
namespace Go.Proofs.YtollijngiioonaaGreat
set_option maxRecDepth 100000
open Go.RowKit

/-- Not both ways. -/
theorem gtr_asym {ss : List SymD} {t u : TermD} (h : gtrT ss t u = true) : gtrT ss u t = false := by
  cases h2 : gtrT ss u t with
  | false => rfl
  | true =>
    exfalso
    unfold gtrT ovrT at h h2
    simp only [Bool.and_eq_true, Bool.or_eq_true, decide_eq_true_eq] at h h2
    rcases h.2 with h1 | h1 <;> rcases h2.2 with h3 | h3
    · omega
    · omega
    · omega
    · have e1 : leT u t := by
        rcases leT_total u t with q | q
        · exact q
        · exact absurd ((befT_leT u t).2 q) (by rw [h1.2]; simp)
      have := (befT_leT t u).2 e1
      rw [h3.2] at this
      cases this

/-- The boxes of a call: two terms, two places. -/
structure OB (w : World) (t : TermD) (a : Option Addr) (c : Nat) (u : TermD) (a' : Option Addr) (c' : Nat) (W : World) : Prop where
  p : C3 W w.heap.size (.int .i64 t.f) (.int .i64 t.v) (.slice a t.kids.length c)
  q : C3 W (w.heap.size + 1) (.int .i64 u.f) (.int .i64 u.v) (.slice a' u.kids.length c')
  r : C3 W (w.heap.size + 1 + 1) (.int .i64 0) (.int .i64 0) (.slice none 0 0)
  s : C3 W (w.heap.size + 1 + 1 + 1) (.int .i64 0) (.int .i64 0) (.slice none 0 0)
  fr : ∀ j, W.frozen? ⟨w.heap.size + 1 + 1, j, none⟩ = false
  fs : ∀ j, W.frozen? ⟨w.heap.size + 1 + 1 + 1, j, none⟩ = false
theorem OB.on {w : World} {t : TermD} {a : Option Addr} {c : Nat} {u : TermD} {a' : Option Addr} {c' : Nat} {W W' : World} (h : OB w t a c u a' c' W) (hb : Below W.heap.size W W') : OB w t a c u a' c' W' :=
  ⟨h.p.on hb, h.q.on hb, h.r.on hb, h.s.on hb, fun j => (hb.frozen (p := ⟨_, j, none⟩) h.r.lt).trans (h.fr j), fun j => (hb.frozen (p := ⟨_, j, none⟩) h.s.lt).trans (h.fs j)⟩
/-- What it leaves. -/
structure Ori (w : World) (x : TermD) (a1 : Option Addr) (c1 : Nat) (y : TermD) (a2 : Option Addr) (c2 m : Nat) (W : World) : Prop where
  bel : Below w.heap.size w W
  o1 : OwnS W (fun k => w.heap.size ≤ k ∧ k < m) a1 x.kids
  o2 : OwnS W (fun k => m ≤ k ∧ k < W.heap.size) a2 y.kids
  l1 : x.kids.length ≤ c1
  l2 : y.kids.length ≤ c2
  hm : w.heap.size ≤ m
  hz : m ≤ W.heap.size
theorem ori_end {w : World} {t : TermD} {a : Option Addr} {c : Nat} {u : TermD} {a' : Option Addr} {c' : Nat} {x y : TermD} {a1 a2 : Option Addr} {c1 c2 n m : Nat} {W X : World} (_h : OB w t a c u a' c' W) (hB : Below w.heap.size w W) (o1 : OwnS W (fun k => n ≤ k ∧ k < m) a1 x.kids) (o2 : OwnS W (fun k => m ≤ k ∧ k < W.heap.size) a2 y.kids) (l1 : x.kids.length ≤ c1) (l2 : y.kids.length ≤ c2) (hn : w.heap.size + 1 + 1 + 1 < n) (hnm : n ≤ m) (hm : m ≤ W.heap.size) (hx : Stay (fun k => k ≠ w.heap.size + 1 + 1 ∧ k ≠ w.heap.size + 1 + 1 + 1) W X) : Ori w x a1 c1 y a2 c2 m X :=
  ⟨hB.trans (hx.below hB.size (fun k hk => by omega)), (o1.frame (fun k hk => hx.block k (by omega) (by omega)) hx.size).mono (fun k hk => ⟨by omega, hk.2⟩), (o2.frame (fun k hk => hx.block k hk.2 (by omega)) hx.size).mono (fun k hk => ⟨hk.1, Nat.lt_of_lt_of_le hk.2 hx.size⟩), l1, l2, by omega, Nat.le_trans hm hx.size⟩
def oriT (ss : List SymD) (t u : TermD) : TermD × TermD × Bool := if gtrT ss t u = true then (t, u, true) else if gtrT ss u t = true then (u, t, true) else (t, u, false)

set_option maxHeartbeats 3200000 in
set_option maxRecDepth 100000 in
theorem impOriented_any (sa : Option Addr) (ss : List SymD) (sc : Nat) (hsz : ∀ s ∈ ss, s.name.size ≤ maxLen) (t u : TermD) (a a' : Option Addr) (c c' hi : Nat) (w : World) (hs : RdS w sa ss) (hp : partsT t ≤ 1048577) (hp' : partsT u ≤ 1048577) (hr : RdK w hi a t.kids) (hr' : RdK w hi a' u.kids) (hhi : hi ≤ w.heap.size) (hc : t.kids.length ≤ c) (hc' : u.kids.length ≤ c') (hw : isW t.f ∧ isW t.v) (hw' : isW u.f ∧ isW u.v) :
    Calls Tryz.prog 37 #[.slice sa ss.length sc, .agg #[.int .i64 t.f, .int .i64 t.v, .slice a t.kids.length c], .agg #[.int .i64 u.f, .int .i64 u.v, .slice a' u.kids.length c']] w fun e w' => ∃ a1 c1 a2 c2 m, e = .returned (.tuple #[.agg #[.int .i64 (oriT ss t u).1.f, .int .i64 (oriT ss t u).1.v, .slice a1 (oriT ss t u).1.kids.length c1], .agg #[.int .i64 (oriT ss t u).2.1.f, .int .i64 (oriT ss t u).2.1.v, .slice a2 (oriT ss t u).2.1.kids.length c2], .bool (oriT ss t u).2.2]) ∧ Ori w (oriT ss t u).1 a1 c1 (oriT ss t u).2.1 a2 c2 m w' := by
  obtain ⟨W, hW⟩ : ∃ W, W = (((w.alloc (.cells #[.int .i64 t.f, .int .i64 t.v, .slice a t.kids.length c] 27)).alloc (.cells #[.int .i64 u.f, .int .i64 u.v, .slice a' u.kids.length c'] 27)).alloc (.cells #[.int .i64 0, .int .i64 0, .slice none 0 0] 27)).alloc (.cells #[.int .i64 0, .int .i64 0, .slice none 0 0] 27) := ⟨_, rfl⟩
  have B0 : Below w.heap.size w W := by rw [hW]; exact ((((Below.refl _ _).alloc (Nat.le_refl _) _).alloc (by simp) _).alloc (by simp; omega) _).alloc (by simp; omega) _
  have S0 : OB w t a c u a' c' W := by
    rw [hW]
    exact ⟨⟨by simp [go_sem], by simp [go_sem], by simp [go_sem]⟩, ⟨by simp [go_sem], by simp [go_sem], by simp [go_sem]⟩, ⟨by simp [go_sem], by simp [go_sem], by simp [go_sem]⟩, ⟨by simp [go_sem], by simp [go_sem], by simp [go_sem]⟩, fun j => by simp [go_sem], fun j => by simp [go_sem]⟩
  have hzW : w.heap.size + 1 + 1 + 1 < W.heap.size := S0.s.lt
  have HRX_t : Hid (RdK w hi a t.kids) := hr
  have HRX_u : Hid (RdK w hi a' u.kids) := hr'
  have HW : Hid _ := hW
  have G1 := impGreater_any sa ss sc hsz t u a a' c c' hi W (hs.below B0) hp hp' (hr.on (B0.mono hhi)) (hr'.on (B0.mono hhi)) (Nat.le_trans hhi B0.size) hc hc'
  have G2 := fun (W' : World) (h : Below w.heap.size w W') => impGreater_any sa ss sc hsz u t a' a c' c hi W' (hs.below h) hp' hp (hr'.on (h.mono hhi)) (hr.on (h.mono hhi)) (Nat.le_trans hhi h.size) hc' hc
  unfold oriT
  generalize gtrT ss t u = g1 at G1 ⊢
  generalize gtrT ss u t = g2 at G2 ⊢
  obtain ⟨p0, p1, p2⟩ := S0.p
  obtain ⟨q0, q1, q2⟩ := S0.q
  clear hW hr hr' hs
  cases g1
  · cases g2
    · simp only [Bool.false_eq_true, if_false]
      go_enter Tryz.func37, Tryz.ntmps37
      go_wp2_with (first
        | (go_at_call 9; rw [← HW.out]; refine G1.mono ?_; rintro e w1 ⟨rfl, hb⟩; have S1 := S0.on hb; have B1 := B0.trans (hb.mono B0.size); clear G1 HW S0 B0 hb p0 p1 p2 q0 q1 q2; obtain ⟨p0, p1, p2⟩ := S1.p; obtain ⟨q0, q1, q2⟩ := S1.q)
        | (go_at_call 9; refine (G2 w1 B1).mono ?_; rintro e w2 ⟨rfl, hb⟩; have S2 := S1.on hb; have B2 := B1.trans (hb.mono B1.size); clear G2 S1 B1 hb p0 p1 p2 q0 q1 q2; obtain ⟨p0, p1, p2⟩ := S2.p; obtain ⟨q0, q1, q2⟩ := S2.q))
      have hz2 := S2.s.lt
      have D1 := copyTerm_any t a c hi w2.drew (by omega) (HRX_t.out.on (B2.drew.mono hhi)) (Nat.le_trans hhi B2.size) hc hw
      have D2 := fun (W' : World) (h : Below w.heap.size w W') => copyTerm_any u a' c' hi W' (by omega) (HRX_u.out.on (h.mono hhi)) (Nat.le_trans hhi h.size) hc' hw'
      have HS : Hid _ := S2
      clear S2
      go_region_held3 (fun w' => w'.cell? ⟨w.heap.size, 0, none⟩ = some (.int .i64 t.f) ∧ w'.cell? ⟨w.heap.size, 1, none⟩ = some (.int .i64 t.v) ∧ w'.cell? ⟨w.heap.size, 2, none⟩ = some (.slice a t.kids.length c) ∧ w'.cell? ⟨w.heap.size + 1, 0, none⟩ = some (.int .i64 u.f) ∧ w'.cell? ⟨w.heap.size + 1, 1, none⟩ = some (.int .i64 u.v) ∧ w'.cell? ⟨w.heap.size + 1, 2, none⟩ = some (.slice a' u.kids.length c')) (first | (go_keep; done) | exact ⟨set3k p0 (by omega), set3k p1 (by omega), set3k p2 (by omega), set3k q0 (by omega), set3k q1 (by omega), set3k q2 (by omega)⟩ | exact ⟨set3k (set3k p0 (by omega)) (by omega), set3k (set3k p1 (by omega)) (by omega), set3k (set3k p2 (by omega)) (by omega), set3k (set3k q0 (by omega)) (by omega), set3k (set3k q1 (by omega)) (by omega), set3k (set3k q2 (by omega)) (by omega)⟩)
        (first
          | (go_at_call 85; refine D1.mono ?_; rintro e w3 ⟨a1, c1, rfl, o3, l3, hb0⟩; have hb : Below w2.heap.size w2 w3 := (Below.refl _ _).drew.trans hb0; have S3 := HS.out.on hb; have B3 := B2.trans (hb.mono B2.size); have hz3 : w2.heap.size ≤ w3.heap.size := hb.size; clear D1 HS hb hb0 p0 p1 p2 q0 q1 q2; obtain ⟨p0, p1, p2⟩ := S3.p; obtain ⟨q0, q1, q2⟩ := S3.q; have HS3 : Hid _ := S3; clear S3)
          | (go_at_call 85; refine (D2 w3 B3).mono ?_; rintro e w4 ⟨a2, c2, rfl, o4, l4, hb⟩; have S4 := HS3.out.on hb; have B4 := B3.trans (hb.mono B3.size); have hz4 := hb.size; have o3' := o3.frame (fun k hk => hb.block k hk.2) hb.size; clear D2 HS3 hb o3 p0 p1 p2 q0 q1 q2; obtain ⟨p0, p1, p2⟩ := S4.p; obtain ⟨q0, q1, q2⟩ := S4.q; obtain ⟨r0, r1, r2⟩ := S4.r; obtain ⟨s0, s1, s2⟩ := S4.s; have fr := S4.fr; have fs := S4.fs; have HS4 : Hid _ := S4; have HO3 : Hid _ := o3'; have HO4 : Hid _ := o4; clear S4 o3' o4))
      all_goals
        try go_wp2_with fail
        obtain ⟨c1', c2', hx⟩ := two_set (x := .int .i64 t.f) (y := .int .i64 t.v) (z := .slice a1 t.kids.length c1) (x' := .int .i64 u.f) (y' := .int .i64 u.v) (z' := .slice a2 u.kids.length c2) HS4.out.r HS4.out.s (by omega)
        exact bodyPost_ret (v := .tuple #[.agg #[.int .i64 t.f, .int .i64 t.v, .slice a1 t.kids.length c1], .agg #[.int .i64 u.f, .int .i64 u.v, .slice a2 u.kids.length c2], .bool false]) (by simp [results, Tryz.results37, go_sem, c1'.1, c1'.2.1, c1'.2.2, c2'.1, c2'.2.1, c2'.2.2]) rfl ⟨a1, c1, a2, c2, w3.heap.size, rfl, ori_end HS4.out B4 HO3.out HO4.out l3 l4 hz2 hz3 hz4 hx⟩
    · simp only [Bool.false_eq_true, if_false, if_true]
      go_enter Tryz.func37, Tryz.ntmps37
      go_wp2_with (first
        | (go_at_call 9; rw [← HW.out]; refine G1.mono ?_; rintro e w1 ⟨rfl, hb⟩; have S1 := S0.on hb; have B1 := B0.trans (hb.mono B0.size); clear G1 HW S0 B0 hb p0 p1 p2 q0 q1 q2; obtain ⟨p0, p1, p2⟩ := S1.p; obtain ⟨q0, q1, q2⟩ := S1.q)
        | (go_at_call 9; refine (G2 w1 B1).mono ?_; rintro e w2 ⟨rfl, hb⟩; have S2 := S1.on hb; have B2 := B1.trans (hb.mono B1.size); clear G2 S1 B1 hb p0 p1 p2 q0 q1 q2; obtain ⟨p0, p1, p2⟩ := S2.p; obtain ⟨q0, q1, q2⟩ := S2.q))
      have hz2 := S2.s.lt
      have D1 := copyTerm_any u a' c' hi w2.drew (by omega) (HRX_u.out.on (B2.drew.mono hhi)) (Nat.le_trans hhi B2.size) hc' hw'
      have D2 := fun (W' : World) (h : Below w.heap.size w W') => copyTerm_any t a c hi W' (by omega) (HRX_t.out.on (h.mono hhi)) (Nat.le_trans hhi h.size) hc hw
      have HS : Hid _ := S2
      clear S2
      go_region_held3 (fun w' => w'.cell? ⟨w.heap.size, 0, none⟩ = some (.int .i64 t.f) ∧ w'.cell? ⟨w.heap.size, 1, none⟩ = some (.int .i64 t.v) ∧ w'.cell? ⟨w.heap.size, 2, none⟩ = some (.slice a t.kids.length c) ∧ w'.cell? ⟨w.heap.size + 1, 0, none⟩ = some (.int .i64 u.f) ∧ w'.cell? ⟨w.heap.size + 1, 1, none⟩ = some (.int .i64 u.v) ∧ w'.cell? ⟨w.heap.size + 1, 2, none⟩ = some (.slice a' u.kids.length c')) (first | (go_keep; done) | exact ⟨set3k p0 (by omega), set3k p1 (by omega), set3k p2 (by omega), set3k q0 (by omega), set3k q1 (by omega), set3k q2 (by omega)⟩ | exact ⟨set3k (set3k p0 (by omega)) (by omega), set3k (set3k p1 (by omega)) (by omega), set3k (set3k p2 (by omega)) (by omega), set3k (set3k q0 (by omega)) (by omega), set3k (set3k q1 (by omega)) (by omega), set3k (set3k q2 (by omega)) (by omega)⟩)
        (first
          | (go_at_call 85; refine D1.mono ?_; rintro e w3 ⟨a1, c1, rfl, o3, l3, hb0⟩; have hb : Below w2.heap.size w2 w3 := (Below.refl _ _).drew.trans hb0; have S3 := HS.out.on hb; have B3 := B2.trans (hb.mono B2.size); have hz3 : w2.heap.size ≤ w3.heap.size := hb.size; clear D1 HS hb hb0 p0 p1 p2 q0 q1 q2; obtain ⟨p0, p1, p2⟩ := S3.p; obtain ⟨q0, q1, q2⟩ := S3.q; have HS3 : Hid _ := S3; clear S3)
          | (go_at_call 85; refine (D2 w3 B3).mono ?_; rintro e w4 ⟨a2, c2, rfl, o4, l4, hb⟩; have S4 := HS3.out.on hb; have B4 := B3.trans (hb.mono B3.size); have hz4 := hb.size; have o3' := o3.frame (fun k hk => hb.block k hk.2) hb.size; clear D2 HS3 hb o3 p0 p1 p2 q0 q1 q2; obtain ⟨p0, p1, p2⟩ := S4.p; obtain ⟨q0, q1, q2⟩ := S4.q; obtain ⟨r0, r1, r2⟩ := S4.r; obtain ⟨s0, s1, s2⟩ := S4.s; have fr := S4.fr; have fs := S4.fs; have HS4 : Hid _ := S4; have HO3 : Hid _ := o3'; have HO4 : Hid _ := o4; clear S4 o3' o4))
      all_goals
        try go_wp2_with fail
        obtain ⟨c1', c2', hx⟩ := two_set (x := .int .i64 u.f) (y := .int .i64 u.v) (z := .slice a1 u.kids.length c1) (x' := .int .i64 t.f) (y' := .int .i64 t.v) (z' := .slice a2 t.kids.length c2) HS4.out.r HS4.out.s (by omega)
        exact bodyPost_ret (v := .tuple #[.agg #[.int .i64 u.f, .int .i64 u.v, .slice a1 u.kids.length c1], .agg #[.int .i64 t.f, .int .i64 t.v, .slice a2 t.kids.length c2], .bool true]) (by simp [results, Tryz.results37, go_sem, c1'.1, c1'.2.1, c1'.2.2, c2'.1, c2'.2.1, c2'.2.2]) rfl ⟨a1, c1, a2, c2, w3.heap.size, rfl, ori_end HS4.out B4 HO3.out HO4.out l3 l4 hz2 hz3 hz4 hx⟩
  · simp only [if_true]
    go_enter Tryz.func37, Tryz.ntmps37
    go_wp2_with (go_at_call 9; rw [← HW.out]; refine G1.mono ?_; rintro e w2 ⟨rfl, hb⟩; have S2 := S0.on hb; have B2 := B0.trans (hb.mono B0.size); clear G1 G2 HW S0 B0 hb p0 p1 p2 q0 q1 q2; obtain ⟨p0, p1, p2⟩ := S2.p; obtain ⟨q0, q1, q2⟩ := S2.q)
    have hz2 := S2.s.lt
    have D1 := copyTerm_any t a c hi w2.drew (by omega) (HRX_t.out.on (B2.drew.mono hhi)) (Nat.le_trans hhi B2.size) hc hw
    have D2 := fun (W' : World) (h : Below w.heap.size w W') => copyTerm_any u a' c' hi W' (by omega) (HRX_u.out.on (h.mono hhi)) (Nat.le_trans hhi h.size) hc' hw'
    have HS : Hid _ := S2
    clear S2
    go_region_held3 (fun w' => w'.cell? ⟨w.heap.size, 0, none⟩ = some (.int .i64 t.f) ∧ w'.cell? ⟨w.heap.size, 1, none⟩ = some (.int .i64 t.v) ∧ w'.cell? ⟨w.heap.size, 2, none⟩ = some (.slice a t.kids.length c) ∧ w'.cell? ⟨w.heap.size + 1, 0, none⟩ = some (.int .i64 u.f) ∧ w'.cell? ⟨w.heap.size + 1, 1, none⟩ = some (.int .i64 u.v) ∧ w'.cell? ⟨w.heap.size + 1, 2, none⟩ = some (.slice a' u.kids.length c')) (first | (go_keep; done) | exact ⟨set3k p0 (by omega), set3k p1 (by omega), set3k p2 (by omega), set3k q0 (by omega), set3k q1 (by omega), set3k q2 (by omega)⟩ | exact ⟨set3k (set3k p0 (by omega)) (by omega), set3k (set3k p1 (by omega)) (by omega), set3k (set3k p2 (by omega)) (by omega), set3k (set3k q0 (by omega)) (by omega), set3k (set3k q1 (by omega)) (by omega), set3k (set3k q2 (by omega)) (by omega)⟩)
      (first
        | (go_at_call 85; refine D1.mono ?_; rintro e w3 ⟨a1, c1, rfl, o3, l3, hb0⟩; have hb : Below w2.heap.size w2 w3 := (Below.refl _ _).drew.trans hb0; have S3 := HS.out.on hb; have B3 := B2.trans (hb.mono B2.size); have hz3 : w2.heap.size ≤ w3.heap.size := hb.size; clear D1 HS hb hb0 p0 p1 p2 q0 q1 q2; obtain ⟨p0, p1, p2⟩ := S3.p; obtain ⟨q0, q1, q2⟩ := S3.q; have HS3 : Hid _ := S3; clear S3)
        | (go_at_call 85; refine (D2 w3 B3).mono ?_; rintro e w4 ⟨a2, c2, rfl, o4, l4, hb⟩; have S4 := HS3.out.on hb; have B4 := B3.trans (hb.mono B3.size); have hz4 := hb.size; have o3' := o3.frame (fun k hk => hb.block k hk.2) hb.size; clear D2 HS3 hb o3 p0 p1 p2 q0 q1 q2; obtain ⟨p0, p1, p2⟩ := S4.p; obtain ⟨q0, q1, q2⟩ := S4.q; obtain ⟨r0, r1, r2⟩ := S4.r; obtain ⟨s0, s1, s2⟩ := S4.s; have fr := S4.fr; have fs := S4.fs; have HS4 : Hid _ := S4; have HO3 : Hid _ := o3'; have HO4 : Hid _ := o4; clear S4 o3' o4))
    all_goals
      try go_wp2_with fail
      obtain ⟨c1', c2', hx⟩ := two_set (x := .int .i64 t.f) (y := .int .i64 t.v) (z := .slice a1 t.kids.length c1) (x' := .int .i64 u.f) (y' := .int .i64 u.v) (z' := .slice a2 u.kids.length c2) HS4.out.r HS4.out.s (by omega)
      exact bodyPost_ret (v := .tuple #[.agg #[.int .i64 t.f, .int .i64 t.v, .slice a1 t.kids.length c1], .agg #[.int .i64 u.f, .int .i64 u.v, .slice a2 u.kids.length c2], .bool true]) (by simp [results, Tryz.results37, go_sem, c1'.1, c1'.2.1, c1'.2.2, c2'.1, c2'.2.1, c2'.2.2]) rfl ⟨a1, c1, a2, c2, w3.heap.size, rfl, ori_end HS4.out B4 HO3.out HO4.out l3 l4 hz2 hz3 hz4 hx⟩
end Go.Proofs.YtollijngiioonaaGreat

