/- What the proof of FnExactLitApply stands on, part 6 of 13: each piece says what it proves and under which conditions. Conditions: as each piece says. -/
import Derived.Test.YtollijngiioonabGreatPackExactLitApply5
import Derived.Test.YtollijngiioonabGreatProg
import Derived.Maps.AppendAt
import Derived.Deep.QuietTactic
import Derived.BigQuiet
import Derived.Deep.RegionLaw
import Derived.Below
import Derived.Sort.Row
import Derived.Deep.LoopGhost
/- Contracts of the program's functions on names, and of those that ask one function of a list. Conditions: at most 1048577 functions. -/
namespace Go.Proofs.YtollijngiioonabGreat
set_option maxRecDepth 100000
open Go.RowKit

def lowB (c : UInt8) : Bool := decide ((97 : Int) ≤ (c.toNat : Int)) && decide ((c.toNat : Int) ≤ 122)
def digB (c : UInt8) : Bool := decide ((48 : Int) ≤ (c.toNat : Int)) && decide ((c.toNat : Int) ≤ 57)

theorem chOk_zero (c : UInt8) : chOk 0 c = lowB c := by
  simp only [chOk, lowB, Nat.lt_irrefl, decide_false, Bool.false_and, Bool.or_false]
  congr 1 <;> exact decide_eq_decide.2 (by omega)

theorem chOk_pos {k : Nat} (hk : 0 < k) (c : UInt8) : chOk k c = (lowB c || digB c) := by
  simp only [chOk, lowB, digB, hk, decide_true, Bool.true_and]
  congr 2 <;> exact decide_eq_decide.2 (by omega)

theorem name_long {s : ByteArray} (h : (8 : Int) < (s.size : Int)) : nameOk s = false := by
  rw [nameOk, decide_eq_false (show ¬ s.size ≤ 8 by omega)]; simp

theorem chs_one {s : ByteArray} (h : 0 < s.size) (h0 : lowB s[0] = true) : chsOk s 1 = true := by
  rw [chsOk, chsOk, dif_pos h, chOk_zero, h0]; rfl

theorem name_end {s : ByteArray} (h : chsOk s s.size = true) (h1 : 0 < s.size) (h8 : s.size ≤ 8) : nameOk s = true := by
  rw [nameOk, h, decide_eq_true (show 1 ≤ s.size by omega), decide_eq_true h8]; rfl

set_option maxHeartbeats 800000 in
theorem isSym_any (a : Option Addr) (n cap : Nat) (f : Int) (w : World) :
    Calls Tryz.prog 66 #[.slice a n cap, .int .i64 f] w fun e w' => e = .returned (.bool (decide (0 ≤ f) && decide (f < (n : Int)))) ∧ w' = w := by
  by_cases h : 0 ≤ f
  · go_enter Tryz.func66, Tryz.ntmps66
    go_wp2
    go_ret
    exact ⟨ret_bool (by simp [h]), rfl⟩
  · go_enter Tryz.func66, Tryz.ntmps66
    go_wp2
    go_ret
    exact ⟨ret_bool (by simp; omega), rfl⟩

set_option maxHeartbeats 800000 in
theorem impBlind_any (a : Option Addr) (ss : List SymD) (n cap : Nat) (f : Int) (w : World) (hn : n = ss.length) (hr : RdS w a ss) :
    Calls Tryz.prog 60 #[.slice a n cap, .int .i64 f] w fun e w' => e = .returned (.bool (blindAt ss f)) ∧ w' = w := by
  subst hn
  have I := fun w => isSym_any a ss.length cap f w
  by_cases h0 : 0 ≤ f ∧ f < (ss.length : Int)
  · obtain ⟨h0, h1⟩ := h0
    obtain ⟨k, rfl⟩ := Int.eq_ofNat_of_zero_le h0
    have hk : k < ss.length := by omega
    have HB : Hid (blindAt ss k = ss[k].ac) := blindAt_in hk
    rw [decide_eq_true h0, decide_eq_true h1] at I
    rcases hr with rfl | ⟨b, off, rfl, hlt, hc⟩
    · simp at hk
    · obtain ⟨c0, c1, c2⟩ := hc k hk
      clear hc
      go_enter Tryz.func60, Tryz.ntmps60
      go_wp2_with (go_at_call 66; refine (I _).mono ?_; rintro e w2 ⟨rfl, hw⟩; subst w2)
      go_ret
      exact ⟨ret_bool HB.out.symm, rfl⟩
  · have HB : Hid (blindAt ss f = false) := (at_out (by omega)).1
    have e : (decide (0 ≤ f) && decide (f < (ss.length : Int))) = false := by simp; omega
    rw [e] at I
    go_enter Tryz.func60, Tryz.ntmps60
    go_wp2_with (go_at_call 66; refine (I _).mono ?_; rintro e w2 ⟨rfl, hw⟩; subst w2)
    go_ret
    exact ⟨ret_bool HB.out.symm, rfl⟩

end Go.Proofs.YtollijngiioonabGreat

/- The program's way to one form: a term is opened; its next Kid is taken. Conditions: at most 549755813888 terms at work. -/
namespace Go.Proofs.YtollijngiioonabGreat
set_option maxRecDepth 100000
open Go.RowKit

theorem infoOT : (Tryz.prog.info? 89).map (fun i => (i.zero, i.size, i.bytes)) = some (some (.agg #[.int .i64 0, .int .i64 0, .slice none 0 0, .slice none 0 0, .slice none 0 0, .int .i64 0]), 6, 96) := by kernel_rfl
theorem six_new (w : World) (x y z p q r : Value) (t : TypeId) (n : Nat) (hn : n = w.heap.size) : ∀ j v, [x, y, z, p, q, r][j]? = some v → (w.alloc (.cells #[x, y, z, p, q, r] t)).cell? ((⟨n, 0, none⟩ : Addr).add j) = some v := by
  subst hn
  intro j v hj
  match j, hj with
  | 0, hj => simp at hj; subst hj; simp [Addr.add]
  | 1, hj => simp at hj; subst hj; simp [Addr.add]
  | 2, hj => simp at hj; subst hj; simp [Addr.add]
  | 3, hj => simp at hj; subst hj; simp [Addr.add]
  | 4, hj => simp at hj; subst hj; simp [Addr.add]
  | 5, hj => simp at hj; subst hj; simp [Addr.add]
  | j + 6, hj => simp at hj
theorem six_cell (f v h : Int) (a a' a'' : Option Addr) (n n' n'' c c' c'' : Nat) : ∀ u ∈ [Value.int .i64 f, .int .i64 v, .slice a n c, .slice a' n' c', .slice a'' n'' c'', .int .i64 h], u.oneCell' = true := by
  intro u hu
  simp at hu
  rcases hu with rfl | rfl | rfl | rfl | rfl | rfl <;> rfl

/-- A term that is opened. -/
def opn (t : TermD) (a : Option Addr) (c : Nat) (h : Bool) : FM := { t := t, a := a, c := c, left := t.kids, al := a, cl := c, L := [], am := none, cm := 0, hm := h }
/-- Whether the next one is its own home. -/
def isHome (bl : Int → Bool) (t : TermD) : List FM → Bool
  | [] => true
  | x :: _ => !(bl t.f && t.f == x.t.f)

theorem NSt.opened {n0 B : Nat} {F : List FM} {v v' : Value} {wr wr1 wr' : World} {t : TermD} {a : Option Addr} {c : Nat} {h : Bool} (H : NSt n0 B F v wr) (hb : Below wr.heap.size wr wr1) (hrd : RdK wr1 n0 a t.kids) (hle : t.kids.length ≤ c) (hwf : isW t.f ∧ isW t.v)
    (hown : wr'.ownsRow B 89 6 v' (F.length + 1) (cellsF F ++ [.int .i64 t.f, .int .i64 t.v, .slice a t.kids.length c, .slice a t.kids.length c, .slice none 0 0, .int .i64 (homeIx (opn t a c h :: F) : Nat)])) (hg : wr1.grownBy wr' v.ownBlock) (hat : v'.ownBlock = v.ownBlock ∨ v'.ownBlock = some wr1.heap.size) :
    NSt n0 B (opn t a c h :: F) v' wr' :=
  (H.on hb).push rfl rfl rfl hrd hle hwf hown hg (hat.imp id (fun q => ⟨_, q, Nat.le_refl _⟩))

set_option maxHeartbeats 3200000 in
theorem opened_any (sa : Option Addr) (ss : List SymD) (sc n0 B : Nat) (F : List FM) (av : Option Addr) (cv : Nat) (t : TermD) (a : Option Addr) (c : Nat) (w : World) (hs : RdS w sa ss) (H : NSt n0 B F (.slice av F.length cv) w) (hF : F.length ≤ 549755813888) (hrd : RdK w n0 a t.kids) (hle : t.kids.length ≤ c) (hwf : isW t.f ∧ isW t.v) :
    Calls Tryz.prog 50 #[.slice av F.length cv, .slice sa ss.length sc, .agg #[.int .i64 t.f, .int .i64 t.v, .slice a t.kids.length c]] w fun e w' => ∃ g c', e = .returned (.slice (some ⟨g, 0, none⟩) (F.length + 1) c') ∧ NSt n0 B (opn t a c (isHome (blindAt ss) t F) :: F) (.slice (some ⟨g, 0, none⟩) (F.length + 1) c') w' ∧ Stay (fun k => k < B) w w' := by
  obtain ⟨i0, hi0, hz0, hz1, hz2⟩ := info_parts infoOT
  obtain ⟨W, hW⟩ : ∃ W, W = w.alloc (.cells #[.int .i64 t.f, .int .i64 t.v, .slice a t.kids.length c] 34) := ⟨_, rfl⟩
  have hB0 : Below w.heap.size w W := by rw [hW]; exact (Below.refl _ _).alloc (Nat.le_refl _) _
  have p0 : W.cell? ⟨w.heap.size, 0, none⟩ = some (.int .i64 t.f) := by rw [hW]; simp [go_sem]
  have p1 : W.cell? ⟨w.heap.size, 1, none⟩ = some (.int .i64 t.v) := by rw [hW]; simp [go_sem]
  have p2 : W.cell? ⟨w.heap.size, 2, none⟩ = some (.slice a t.kids.length c) := by rw [hW]; simp [go_sem]
  have HO : Hid (NSt n0 B F (.slice av F.length cv) w) := H
  have HR : Hid (RdK w n0 a t.kids) := hrd
  have hn0 : n0 ≤ B := H.n
  have hBz : B ≤ w.heap.size := H.z
  have CB : ∀ W', Below W.heap.size W W' → Calls Tryz.prog 60 #[.slice sa ss.length sc, .int .i64 t.f] W' fun e w' => e = .returned (.bool (blindAt ss t.f)) ∧ Below W'.heap.size W' w' := fun W' h => (impBlind_any sa ss ss.length sc t.f W' rfl (hs.below (hB0.trans (h.mono hB0.size)))).mono (by rintro e w' ⟨rfl, rfl⟩; exact ⟨rfl, Below.refl _ _⟩)
  clear hs hrd
  cases F with
  | nil =>
    simp only [List.length_nil] at *
    have HH : Hid (isHome (blindAt ss) t [] = true) := rfl
    clear H CB
    go_enter Tryz.func50, Tryz.ntmps50
    go_wp2
    rw [← hW]
    have k0 := cellB p0
    refine wp_region_below (by kernel_rfl) (by kernel_rfl) ?_
    repeat (go_big_quiet_step (fail))
    refine wpQuiet_nil ?_
    intro w1 hw'
    have hb1 : Below W.heap.size W w1 := by obtain ⟨p, rfl⟩ := hw'; exact p.b
    clear hw'
    have hB1 : Below w.heap.size w w1 := hB0.trans (hb1.mono hB0.size)
    have R1 := (HO.out.on hB1).row
    have z1 := hB1.size
    have P0 := keepC hb1 p0
    have P1 := keepC hb1 p1
    have P2 := keepC hb1 p2
    clear k0 hb1 p0 p1 p2 hW
    go_wp2_with ((at_builtin; (refine wpList_append_own_at _ rfl (.tmp 36) (.tmp 42) 84 rfl B 89 i0 _ 6 96 Tryz.underlying84 hi0 hz0 hz1 hz2 rfl (by decide) _ (0) _ rfl (R1.alloc _) ⟨w1.heap.size, 0, none⟩ 1 1 [.int .i64 t.f, .int .i64 t.v, .slice a t.kids.length c, .slice a t.kids.length c, .slice none 0 0, .int .i64 (0)] rfl rfl (six_new _ _ _ _ _ _ _ _ _ rfl) (six_cell _ _ _ _ _ _ _ _ _ _ _ _) (by unfold maxLen; omega) (by omega) (by simp; omega) ?_; intro v6 w6 hown6 hgrow6 hnil6 hat6; clear hnil6)))
    have hb2 : Below w.heap.size w (w1.alloc (.cells #[.int .i64 t.f, .int .i64 t.v, .slice a t.kids.length c, .slice a t.kids.length c, .slice none 0 0, .int .i64 (0)] 89)) := hB1.alloc hB1.size _
    have H6 := HO.out.opened (h := true) hb2 (HR.out.on (hb2.mono (by omega))) hle hwf (by simpa [homeIx, opn] using hown6) hgrow6 hat6
    obtain ⟨g6, c6, rfl, _⟩ := own_slot hown6
    go_ret
    exact ⟨g6, c6, rfl, by rw [HH.out]; exact H6, (Stay.of_below (S := fun k => k < B) hb2 (fun k hk _ => hk)).trans (.grown hgrow6 (fun k e hk => by have := (HO.out.row.lt k e).1; omega))⟩
  | cons x r =>
    simp only [List.length_cons] at *
    obtain ⟨g, cap, hv, hcap, hg0, hgl⟩ := own_slot H.row
    cases hv
    have hl := cellsF_len r
    have q0 : W.cell? ⟨g, r.length * 6, none⟩ = some (.int .i64 x.t.f) := keepC hB0 ((H.row.cellAt _ (by omega)).trans (by rw [cellsF, List.getElem?_append_right (by omega)]; simp [hl, FM.cells]))
    have q5 : W.cell? ⟨g, r.length * 6 + 5, none⟩ = some (.int .i64 (homeIx (x :: r))) := keepC hB0 ((H.row.cellAt _ (by omega)).trans (by rw [cellsF, List.getElem?_append_right (by omega)]; simp [hl, FM.cells]))
    have hpos : (0 : Int) < (r.length : Int) + 1 := by omega
    clear H
    cases hbl : blindAt ss t.f with
    | false =>
      rw [hbl] at CB
      have HH : Hid (isHome (blindAt ss) t (x :: r) = true) := by show _ = _; simp [isHome, hbl]
      clear hbl q5
      go_enter Tryz.func50, Tryz.ntmps50
      go_wp2
      rw [← hW]
      have k0 := cellB p0
      have k1 := cellB q0
      refine wp_region_below (by kernel_rfl) (by kernel_rfl) ?_
      repeat (go_big_quiet_step ((go_at_call 60; refine callsB (CB _ (BW.b _)))))
      refine wpQuiet_nil ?_
      intro w1 hw'
      have hb1 : Below W.heap.size W w1 := by obtain ⟨p, rfl⟩ := hw'; exact p.b
      clear hw'
      have hB1 : Below w.heap.size w w1 := hB0.trans (hb1.mono hB0.size)
      have R1 := (HO.out.on hB1).row
      have z1 := hB1.size
      have P0 := keepC hb1 p0
      have P1 := keepC hb1 p1
      have P2 := keepC hb1 p2
      clear k0 k1 hb1 p0 p1 p2 hW q0 CB
      go_wp2_with ((at_builtin; (refine wpList_append_own_at _ rfl (.tmp 36) (.tmp 42) 84 rfl B 89 i0 _ 6 96 Tryz.underlying84 hi0 hz0 hz1 hz2 rfl (by decide) _ (r.length + 1) _ rfl (R1.alloc _) ⟨w1.heap.size, 0, none⟩ 1 1 [.int .i64 t.f, .int .i64 t.v, .slice a t.kids.length c, .slice a t.kids.length c, .slice none 0 0, .int .i64 (((r.length + 1 : Nat) : Int))] rfl rfl (six_new _ _ _ _ _ _ _ _ _ rfl) (six_cell _ _ _ _ _ _ _ _ _ _ _ _) (by unfold maxLen; omega) (by omega) (by simp; omega) ?_; intro v6 w6 hown6 hgrow6 hnil6 hat6; clear hnil6)))
      have hb2 : Below w.heap.size w (w1.alloc (.cells #[.int .i64 t.f, .int .i64 t.v, .slice a t.kids.length c, .slice a t.kids.length c, .slice none 0 0, .int .i64 (((r.length + 1 : Nat) : Int))] 89)) := hB1.alloc hB1.size _
      have H6 := HO.out.opened (h := true) hb2 (HR.out.on (hb2.mono (by omega))) hle hwf (by simpa [homeIx, opn] using hown6) hgrow6 hat6
      obtain ⟨g6, c6, rfl, _⟩ := own_slot hown6
      go_ret
      exact ⟨g6, c6, rfl, by rw [HH.out]; exact H6, (Stay.of_below (S := fun k => k < B) hb2 (fun k hk _ => hk)).trans (.grown hgrow6 (fun k e hk => by have := (HO.out.row.lt k e).1; omega))⟩
    | true =>
      rw [hbl] at CB
      by_cases hfe : t.f = x.t.f
      · have HH : Hid (isHome (blindAt ss) t (x :: r) = false) := by show _ = _; simp only [isHome, hbl]; simp [hfe]
        rw [← hfe] at q0
        have hfe' : (t.f == t.f) = true := by simp
        clear hbl hfe
        generalize hix : homeIx (x :: r) = ix at q5
        have HX : Hid (homeIx (x :: r) = ix) := hix
        clear hix
        go_enter Tryz.func50, Tryz.ntmps50
        go_wp2
        rw [← hW]
        have k0 := cellB p0
        have k1 := cellB q0
        refine wp_region_below (by kernel_rfl) (by kernel_rfl) ?_
        repeat (go_big_quiet_step ((go_at_call 60; refine callsB (CB _ (BW.b _)))))
        refine wpQuiet_nil ?_
        intro w1 hw'
        have hb1 : Below W.heap.size W w1 := by obtain ⟨p, rfl⟩ := hw'; exact p.b
        clear hw'
        have hB1 : Below w.heap.size w w1 := hB0.trans (hb1.mono hB0.size)
        have R1 := (HO.out.on hB1).row
        have z1 := hB1.size
        have P0 := keepC hb1 p0
        have P1 := keepC hb1 p1
        have P2 := keepC hb1 p2
        have Q5 := keepC hb1 q5
        clear k0 k1 hb1 p0 p1 p2 hW q0 CB q5
        go_wp2_with ((at_builtin; (refine wpList_append_own_at _ rfl (.tmp 36) (.tmp 42) 84 rfl B 89 i0 _ 6 96 Tryz.underlying84 hi0 hz0 hz1 hz2 rfl (by decide) _ (r.length + 1) _ rfl (R1.alloc _) ⟨w1.heap.size, 0, none⟩ 1 1 [.int .i64 t.f, .int .i64 t.v, .slice a t.kids.length c, .slice a t.kids.length c, .slice none 0 0, .int .i64 ((ix : Int))] rfl rfl (six_new _ _ _ _ _ _ _ _ _ rfl) (six_cell _ _ _ _ _ _ _ _ _ _ _ _) (by unfold maxLen; omega) (by omega) (by simp; omega) ?_; intro v6 w6 hown6 hgrow6 hnil6 hat6; clear hnil6)))
        have hb2 : Below w.heap.size w (w1.alloc (.cells #[.int .i64 t.f, .int .i64 t.v, .slice a t.kids.length c, .slice a t.kids.length c, .slice none 0 0, .int .i64 ((ix : Int))] 89)) := hB1.alloc hB1.size _
        have H6 := HO.out.opened (h := false) hb2 (HR.out.on (hb2.mono (by omega))) hle hwf (by have e : homeIx (opn t a c false :: x :: r) = ix := HX.out; rw [e]; exact hown6) hgrow6 hat6
        obtain ⟨g6, c6, rfl, _⟩ := own_slot hown6
        go_ret
        exact ⟨g6, c6, rfl, by rw [HH.out]; exact H6, (Stay.of_below (S := fun k => k < B) hb2 (fun k hk _ => hk)).trans (.grown hgrow6 (fun k e hk => by have := (HO.out.row.lt k e).1; omega))⟩
      · have HH : Hid (isHome (blindAt ss) t (x :: r) = true) := by show _ = _; simp [isHome, hbl, hfe]
        have hfe' : (x.t.f == t.f) = false := by simp; exact fun e => hfe e.symm
        clear hbl q5 hfe
        go_enter Tryz.func50, Tryz.ntmps50
        go_wp2
        rw [← hW]
        have k0 := cellB p0
        have k1 := cellB q0
        refine wp_region_below (by kernel_rfl) (by kernel_rfl) ?_
        repeat (go_big_quiet_step ((go_at_call 60; refine callsB (CB _ (BW.b _)))))
        refine wpQuiet_nil ?_
        intro w1 hw'
        have hb1 : Below W.heap.size W w1 := by obtain ⟨p, rfl⟩ := hw'; exact p.b
        clear hw'
        have hB1 : Below w.heap.size w w1 := hB0.trans (hb1.mono hB0.size)
        have R1 := (HO.out.on hB1).row
        have z1 := hB1.size
        have P0 := keepC hb1 p0
        have P1 := keepC hb1 p1
        have P2 := keepC hb1 p2
        clear k0 k1 hb1 p0 p1 p2 hW q0 CB
        go_wp2_with ((at_builtin; (refine wpList_append_own_at _ rfl (.tmp 36) (.tmp 42) 84 rfl B 89 i0 _ 6 96 Tryz.underlying84 hi0 hz0 hz1 hz2 rfl (by decide) _ (r.length + 1) _ rfl (R1.alloc _) ⟨w1.heap.size, 0, none⟩ 1 1 [.int .i64 t.f, .int .i64 t.v, .slice a t.kids.length c, .slice a t.kids.length c, .slice none 0 0, .int .i64 (((r.length + 1 : Nat) : Int))] rfl rfl (six_new _ _ _ _ _ _ _ _ _ rfl) (six_cell _ _ _ _ _ _ _ _ _ _ _ _) (by unfold maxLen; omega) (by omega) (by simp; omega) ?_; intro v6 w6 hown6 hgrow6 hnil6 hat6; clear hnil6)))
        have hb2 : Below w.heap.size w (w1.alloc (.cells #[.int .i64 t.f, .int .i64 t.v, .slice a t.kids.length c, .slice a t.kids.length c, .slice none 0 0, .int .i64 (((r.length + 1 : Nat) : Int))] 89)) := hB1.alloc hB1.size _
        have H6 := HO.out.opened (h := true) hb2 (HR.out.on (hb2.mono (by omega))) hle hwf (by simpa [homeIx, opn] using hown6) hgrow6 hat6
        obtain ⟨g6, c6, rfl, _⟩ := own_slot hown6
        go_ret
        exact ⟨g6, c6, rfl, by rw [HH.out]; exact H6, (Stay.of_below (S := fun k => k < B) hb2 (fun k hk _ => hk)).trans (.grown hgrow6 (fun k e hk => by have := (HO.out.row.lt k e).1; omega))⟩
end Go.Proofs.YtollijngiioonabGreat

/- The program's way to one form: the next Kid of the innermost term is taken. Conditions: at most 549755813888 terms at work. -/
namespace Go.Proofs.YtollijngiioonabGreat
set_option maxRecDepth 100000
open Go.RowKit

theorem RdK.tail {w : World} {hi b off : Nat} {t : TermD} {ts : List TermD} (h : RdK w hi (some ⟨b, off, none⟩) (t :: ts)) {c : Nat} (hc : ts.length + 1 ≤ c) : RdK w hi (tailA b off c) ts := by
  by_cases h1 : ts = []
  · subst h1; exact .nil _
  · have hl0 : ts.length ≠ 0 := fun e => h1 (List.length_eq_zero_iff.1 e)
    rw [tailA, if_neg (by omega)]
    cases h with
    | row b off ts' A C hlt hl hz hc' hk =>
      refine .row b (off + 3) ts (fun i => A (i + 1)) (fun i => C (i + 1)) hlt ⟨by have := hl.1; simp at this; omega, fun i hi => hl.2 (i + 1) (by simpa using hi)⟩ (fun i hi => hz (i + 1) (by simpa using hi)) (fun i hi => ?_) (fun i hi => hk (i + 1) (by simpa using hi))
      have := hc' (i + 1) (by simpa using hi)
      simpa [show off + (i + 1) * 3 = off + 3 + i * 3 by omega] using this
/-- The first one of a list that is read. -/
theorem RdK.head {w : World} {hi : Nat} {a : Option Addr} {t : TermD} {ts : List TermD} (h : RdK w hi a (t :: ts)) :
    ∃ b off a' c', a = some ⟨b, off, none⟩ ∧ b < hi ∧ w.cell? ⟨b, off, none⟩ = some (.int .i64 t.f) ∧ w.cell? ⟨b, off + 1, none⟩ = some (.int .i64 t.v) ∧ w.cell? ⟨b, off + 2, none⟩ = some (.slice a' t.kids.length c') ∧ t.kids.length ≤ c' ∧ RdK w hi a' t.kids ∧ (isW t.f ∧ isW t.v) := by
  obtain ⟨b, off, a', c', e, h1, h2, h3, h4, h5, h6⟩ := h.kidc (i := 0) (by simp)
  exact ⟨b, off, a', c', e, h1, by simpa using h2, by simpa using h3, by simpa using h4, by simpa using h5, by simpa using h6, h.ints (i := 0) (by simp)⟩

theorem NSt.other {n0 B : Nat} {F : List FM} {v : Value} {wr : World} (h : NSt n0 B F v wr) (p : Addr) (u : Value) (hp : n0 ≤ p.block) (hx : ∀ x ∈ F, ¬ x.S p.block) (hv : v.ownBlock ≠ some p.block) : NSt n0 B F v (wr.setCell p u) := by
  have hst : Stay (fun k => k ≠ p.block) wr (wr.setCell p u) := .setCell _ _ (by simp)
  exact ⟨own_stay h.row hst (fun g hg e => hv (e ▸ hg)), h.frames hst (fun k hk => by omega) (fun x hx' k hk e => hx x hx' (e ▸ hk)), h.dis, h.vb, by simpa using h.z, h.n⟩

theorem top_cells {n0 B : Nat} {x : FM} {r : List FM} {g c : Nat} {w : World} (H : NSt n0 B (x :: r) (.slice (some ⟨g, 0, none⟩) (r.length + 1) c) w) :
    w.cell? ⟨g, r.length * 6, none⟩ = some (.int .i64 x.t.f) ∧ w.cell? ⟨g, r.length * 6 + 1, none⟩ = some (.int .i64 x.t.v) ∧ w.cell? ⟨g, r.length * 6 + 2, none⟩ = some (.slice x.a x.t.kids.length x.c) ∧ w.cell? ⟨g, r.length * 6 + 3, none⟩ = some (.slice x.al x.left.length x.cl) ∧ w.cell? ⟨g, r.length * 6 + 4, none⟩ = some (.slice x.am x.L.length x.cm) ∧ w.cell? ⟨g, r.length * 6 + 5, none⟩ = some (.int .i64 (homeIx (x :: r))) := by
  have hl := cellsF_len r
  refine ⟨?_, ?_, ?_, ?_, ?_, ?_⟩
  all_goals
    refine (H.row.cellAt _ (by omega)).trans ?_
    rw [cellsF, List.getElem?_append_right (by omega)]
    simp [hl, FM.cells]

set_option maxHeartbeats 1600000 in
theorem takeKid_none (n0 B : Nat) (x : FM) (r : List FM) (g c : Nat) (w : World) (H : NSt n0 B (x :: r) (.slice (some ⟨g, 0, none⟩) (r.length + 1) c) w) (hF : r.length ≤ 549755813888) (hx : x.left = []) :
    Calls Tryz.prog 51 #[.slice (some ⟨g, 0, none⟩) (r.length + 1) c] w fun e w' => e = .returned (.tuple #[.agg #[.int .i64 0, .int .i64 0, .slice none 0 0], .bool false]) ∧ Below w.heap.size w w' := by
  obtain ⟨_, _, _, q3, _, _⟩ := top_cells H
  have hgl := (H.row.lt g rfl).2
  rw [hx] at q3
  simp only [List.length_nil] at q3
  clear H
  go_enter Tryz.func51, Tryz.ntmps51
  go_wp2
  exact bodyPost_ret (v := .tuple #[.agg #[.int .i64 0, .int .i64 0, .slice none 0 0], .bool false]) (by simp [results, Tryz.results51, go_sem]) rfl ⟨rfl, (Below.refl w.heap.size w).alloc (Nat.le_refl _) _⟩

set_option maxHeartbeats 3200000 in
theorem takeKid_some (n0 B : Nat) (x : FM) (r : List FM) (g c : Nat) (k : TermD) (ks : List TermD) (w : World) (H : NSt n0 B (x :: r) (.slice (some ⟨g, 0, none⟩) (r.length + 1) c) w) (hF : r.length ≤ 549755813888) (hx : x.left = k :: ks) (hbig : ks.length ≤ 549755813888) :
    Calls Tryz.prog 51 #[.slice (some ⟨g, 0, none⟩) (r.length + 1) c] w fun e w' => ∃ ak ck al cl, e = .returned (.tuple #[.agg #[.int .i64 k.f, .int .i64 k.v, .slice ak k.kids.length ck], .bool true]) ∧ NSt n0 B ({ x with left := ks, al := al, cl := cl } :: r) (.slice (some ⟨g, 0, none⟩) (r.length + 1) c) w' ∧ RdK w' n0 ak k.kids ∧ k.kids.length ≤ ck ∧ (isW k.f ∧ isW k.v) ∧ Stay (fun k => k < B) w w' := by
  obtain ⟨_, _, _, q3, _, _⟩ := top_cells H
  have hgl := H.row.lt g rfl
  have hn := H.n
  have hz := H.z
  have hx0 := H.fr x (by simp)
  have hrd := hx0.rd
  have hle := hx0.le
  rw [hx] at q3 hrd hle
  obtain ⟨b, off, ak, ck, hal, hb, k0, k1, k2, hck, hrk, hwk⟩ := hrd.head
  rw [hal] at q3 hrd
  simp only [List.length_cons] at q3 hle
  have hrt := hrd.tail (c := x.cl) hle
  have hclz : (1 : Int) ≤ (x.cl : Int) := by omega
  have hcb : (ks.length : Int) + 1 ≤ (x.cl : Int) := by omega
  have hbg : b ≠ g := by omega
  have hbl : b < w.heap.size := by omega
  have hgl2 : g < w.heap.size := hgl.2
  have fr : w.frozen? ⟨g, r.length * 6 + 3, none⟩ = false := H.row.frozenAt _
  have hst : Stay (fun k => k < B) w (w.setCell ⟨g, r.length * 6 + 3, none⟩ (.slice (tailA b off x.cl) ks.length (x.cl - 1))) := .setCell _ _ (fun h => by simp only at h; omega)
  have hT := H.take hrt (cl := x.cl - 1) (by omega)
  obtain ⟨W1, hW1⟩ : ∃ W1, W1 = w.setCell ⟨g, r.length * 6 + 3, none⟩ (.slice (tailA b off x.cl) ks.length (x.cl - 1)) := ⟨_, rfl⟩
  rw [← hW1] at hst hT
  have hb1 : Below W1.heap.size W1 ((W1.alloc (.cells #[.int .i64 k.f, .int .i64 k.v, .slice ak k.kids.length ck] 34)).alloc (.cells #[.int .i64 k.f, .int .i64 k.v, .slice ak k.kids.length ck] 34)) := ((Below.refl _ _).alloc (Nat.le_refl _) _).alloc (by simp) _
  have hst2 := hst.trans (.of_below (S := fun k => k < B) hb1 (fun k hk _ => hk))
  have FIN : Hid (∃ ak' ck' al cl, Ending.returned (Value.tuple #[.agg #[.int .i64 k.f, .int .i64 k.v, .slice ak k.kids.length ck], .bool true]) = .returned (.tuple #[.agg #[.int .i64 k.f, .int .i64 k.v, .slice ak' k.kids.length ck'], .bool true]) ∧ NSt n0 B ({ x with left := ks, al := al, cl := cl } :: r) (.slice (some ⟨g, 0, none⟩) (r.length + 1) c) ((W1.alloc (.cells #[.int .i64 k.f, .int .i64 k.v, .slice ak k.kids.length ck] 34)).alloc (.cells #[.int .i64 k.f, .int .i64 k.v, .slice ak k.kids.length ck] 34)) ∧ RdK ((W1.alloc (.cells #[.int .i64 k.f, .int .i64 k.v, .slice ak k.kids.length ck] 34)).alloc (.cells #[.int .i64 k.f, .int .i64 k.v, .slice ak k.kids.length ck] 34)) n0 ak' k.kids ∧ k.kids.length ≤ ck' ∧ (isW k.f ∧ isW k.v) ∧ Stay (fun k => k < B) w ((W1.alloc (.cells #[.int .i64 k.f, .int .i64 k.v, .slice ak k.kids.length ck] 34)).alloc (.cells #[.int .i64 k.f, .int .i64 k.v, .slice ak k.kids.length ck] 34))) :=
    ⟨ak, ck, _, _, rfl, hT.on hb1, hrk.on (hst2.below (by omega) (fun k hk => by omega)), hck, hwk, hst2⟩
  clear H hx0 hrd hrt hrk hal hst hT hb1 hst2
  by_cases h1 : x.cl = 1
  · have hk0 : ks.length = 0 := by omega
    rw [h1] at q3 hle hclz hcb hW1
    rw [tailA, if_pos rfl, hk0, Nat.sub_self] at hW1
    subst hW1
    go_enter Tryz.func51, Tryz.ntmps51
    go_wp2
    exact bodyPost_ret (v := .tuple #[.agg #[.int .i64 k.f, .int .i64 k.v, .slice ak k.kids.length ck], .bool true]) (by simp [results, Tryz.results51, go_sem]) rfl FIN.out
  · have h1i : ¬ (x.cl : Int) = 1 := by omega
    have hw1 : ((x.cl : Int) - 1).toNat = x.cl - 1 := by omega
    rw [tailA, if_neg h1] at hW1
    subst hW1
    go_enter Tryz.func51, Tryz.ntmps51
    go_wp2
    exact bodyPost_ret (v := .tuple #[.agg #[.int .i64 k.f, .int .i64 k.v, .slice ak k.kids.length ck], .bool true]) (by simp [results, Tryz.results51, go_sem]) rfl FIN.out
end Go.Proofs.YtollijngiioonabGreat

/- The program's way to one form: a term whose Kids are all done is closed. Conditions: at most 549755813888 Kids, each of at most 549755813888 parts. -/
namespace Go.Proofs.YtollijngiioonabGreat
set_option maxRecDepth 100000
open Go.RowKit Go.Sort Go.Lib

theorem cs3_at (L : List FE) (t : Nat) (h : t < L.length * 3) : (cs3 (L.map FE.cells))[t]? = some (encE L.toArray[t / 3]!)[t % 3]! := by
  obtain ⟨c0, c1, c2⟩ := cs3_get (L.map FE.cells) (t / 3) (by simp; omega)
  have hlt : t / 3 < L.length := by omega
  have e1 : L.toArray[t / 3]! = L[t / 3] := by simp [hlt]
  rw [e1]
  have h3 : t % 3 = 0 ∨ t % 3 = 1 ∨ t % 3 = 2 := by omega
  rcases h3 with q | q | q
  · rw [show t / 3 * 3 = t by omega] at c0; rw [c0, q]; simp [FE.cells, encE]
  · rw [show t / 3 * 3 + 1 = t by omega] at c1; rw [c1, q]; simp [FE.cells, encE]
  · rw [show t / 3 * 3 + 2 = t by omega] at c2; rw [c2, q]; simp [FE.cells, encE]

/-- A row of terms of which no two share a block is a list that owns its memory. -/
theorem owns_row {w : World} {g : Nat} {L : List FE} {S : Nat → Prop} (hg : g < w.heap.size) (hS : S g) (hl : L.length ≤ 9223372036854775807) (hc : ∀ i, (hi : i < L.length) → w.cell? ⟨g, i * 3, none⟩ = some (.int .i64 L[i].t.f) ∧ w.cell? ⟨g, i * 3 + 1, none⟩ = some (.int .i64 L[i].t.v) ∧ w.cell? ⟨g, i * 3 + 2, none⟩ = some (.slice L[i].a L[i].t.kids.length L[i].c)) (hf : ∀ j, w.frozen? ⟨g, j, none⟩ = false)
    (he : ∀ e ∈ L, OwnS w e.K e.a e.t.kids ∧ e.t.kids.length ≤ e.c ∧ (isW e.t.f ∧ isW e.t.v) ∧ ∀ k, e.K k → S k ∧ k ≠ g) (hd : L.Pairwise fun e d => ∀ k, e.K k → ¬ d.K k) : OwnS w S (some ⟨g, 0, none⟩) (L.map FE.t) := by
  refine .row S g 0 (L.map FE.t) (fun i => (L[i]?.map FE.a).getD none) (fun i => (L[i]?.map FE.c).getD 0) (fun i x => ∃ e, L[i]? = some e ∧ e.K x) hS hg ⟨by simpa using hl, fun i hi => ?_⟩ (fun i hi => ?_) (fun i hi => ?_) hf (fun i x hi hx => ?_) (fun i j x hi hj hne hx hy => ?_) (fun i hi => ?_)
  · have hi' : i < L.length := by simpa using hi
    simpa [hi'] using (he _ (List.getElem_mem hi')).2.1
  · have hi' : i < L.length := by simpa using hi
    simpa using (he _ (List.getElem_mem hi')).2.2.1
  · have hi' : i < L.length := by simpa using hi
    simpa [hi'] using hc i hi'
  · obtain ⟨e, q, hx⟩ := hx
    obtain ⟨hi', e0⟩ := List.getElem?_eq_some_iff.1 q
    exact (he e (e0 ▸ List.getElem_mem hi')).2.2.2 x hx
  · obtain ⟨e, q, hx⟩ := hx
    obtain ⟨d, q', hy⟩ := hy
    obtain ⟨hi', e0⟩ := List.getElem?_eq_some_iff.1 q
    obtain ⟨hj', e1⟩ := List.getElem?_eq_some_iff.1 q'
    rcases Nat.lt_or_gt_of_ne hne with hh | hh
    · exact (e0 ▸ e1 ▸ List.pairwise_iff_getElem.1 hd i j hi' hj' hh) x hx hy
    · exact (e1 ▸ e0 ▸ List.pairwise_iff_getElem.1 hd j i hj' hi' hh) x hy hx
  · have hi' : i < L.length := by simpa using hi
    have := (he _ (List.getElem_mem hi')).1
    simp only [hi', List.getElem?_eq_getElem, Option.map_some, Option.getD_some, List.getElem_map]
    exact this.mono (fun x hx => ⟨_, rfl, hx⟩)

theorem MR.owns {n0 B : Nat} {x : FM} {w : World} (h : MR n0 B x w) (hl : x.L.length ≤ 549755813888) : OwnS w x.S x.am (x.L.map FE.t) := by
  have hr := h.row
  cases hL : x.L with
  | nil => exact .nil _ _
  | cons e0 L0 =>
    have hL' : x.L.length = L0.length + 1 := by rw [hL]; simp
    rw [hL'] at hr
    obtain ⟨g, c, e, _, _, hgl⟩ := own_slot hr
    have ea : x.am = some ⟨g, 0, none⟩ := (Value.slice.inj e).1
    have hb : (Value.slice x.am x.L.length x.cm).ownBlock = some g := by rw [ea]; rfl
    rw [ea, ← hL]
    refine owns_row hgl (.inl hb) (by omega) (fun i hi => ?_) (fun j => by have := h.row; rw [ea] at this; exact this.frozenAt j) (fun d hd => ⟨(h.el d hd).1, (h.el d hd).2.1, (h.el d hd).2.2.1, fun k hk => ⟨.inr ⟨d, hd, hk⟩, fun q => h.ap g hb d hd (q ▸ hk)⟩⟩) h.dis
    have hrow := h.row
    rw [ea] at hrow
    obtain ⟨c0, c1, c2⟩ := cs3_cells (l := x.L.map FE.cells) (k := i) (by simp) (by simpa using hi) hrow
    simp only [List.getElem_map, FE.cells] at c0 c1 c2
    exact ⟨c0, c1, c2⟩

/-- What sort.Slice finds. -/
theorem MR.ko {n0 B g kb : Nat} {x : FM} {w W : World} (h : MR n0 B x w) (hb : Below w.heap.size w W) (ha : x.am = some ⟨g, 0, none⟩) (hk : W.cell? ⟨kb, 0, none⟩ = some (.slice (some ⟨g, 0, none⟩) x.L.length x.L.length)) (hp : ∀ e ∈ x.L, partsT e.t ≤ 549755813888) : KO g kb W.heap.size x.L.length x.L.toArray W := by
  have hrow := h.row
  rw [ha] at hrow
  have hgl := (hrow.lt g rfl).2
  have hr := own_on hrow hb
  refine ⟨fun t ht => ?_, by simp, fun i hi => ?_, fun j => hr.frozenAt j, hk, Nat.le_refl _⟩
  · have ht' : t < x.L.length * 3 := by simpa using ht
    refine ⟨?_, hr.frozenAt _⟩
    rw [Nat.zero_add, hr.cellAt t (by omega), cs3_at x.L t ht']
    have e1 := get_flatK encE 3 x.L.toArray t (by simpa using ht')
    rw [e1]; rfl
  · have e1 : x.L.toArray[i]! = x.L[i] := by simp [hi]
    rw [e1]
    have hm : x.L[i] ∈ x.L := List.getElem_mem hi
    have he := h.el _ hm
    refine ⟨he.1.frame (fun k hk => hb.block k (he.2.2.2 k hk).2) hb.size, he.2.1, hp _ hm, fun k hk => ⟨fun q => h.ap g (by rw [ha]; rfl) _ hm (q ▸ hk), Nat.lt_of_lt_of_le (he.2.2.2 k hk).2 hb.size⟩⟩

/-- What sort.Slice leaves. -/
theorem KO.owns {g kb base n : Nat} {d d0 : Array FE} {W : World} {S : Nat → Prop} (h : KO g kb base n d W) (hg : g < W.heap.size) (hn : n ≤ 549755813888) (hp : d.toList.Perm d0.toList) (hS : S g) (h0 : ∀ e ∈ d0.toList, (isW e.t.f ∧ isW e.t.v) ∧ ∀ k, e.K k → S k) (hd : d0.toList.Pairwise fun e d => ∀ k, e.K k → ¬ d.K k) : OwnS W S (some ⟨g, 0, none⟩) (d.toList.map FE.t) := by
  have hsz := h.sz
  refine owns_row hg hS (by simp; omega) (fun i hi => ?_) h.fr (fun e he => ?_) ((hp.pairwise_iff (fun hxy z hz hz' => hxy z hz' hz)).2 hd)
  · have hi' : i < d.size := by simpa using hi
    have c0 := (h.h.cell (i := i) (c := 0) hi' (by omega)).1
    have c1 := (h.h.cell (i := i) (c := 1) hi' (by omega)).1
    have c2 := (h.h.cell (i := i) (c := 2) hi' (by omega)).1
    have e1 : d[i]! = d.toList[i] := by simp [hi']
    rw [e1] at c0 c1 c2
    simp only [encE, List.getElem!_cons_zero, List.getElem!_cons_succ, Nat.zero_add, Nat.add_zero] at c0 c1 c2
    exact ⟨c0, c1, c2⟩
  · obtain ⟨i, hi, e1⟩ := List.getElem_of_mem he
    have hi' : i < d.size := by simpa using hi
    have e2 : d[i]! = e := by rw [← e1]; simp [hi']
    have o := h.own i (by omega)
    rw [e2] at o
    have m := h0 e (hp.subset he)
    exact ⟨o.1, o.2.1, m.1, fun k hk => ⟨m.2 k hk, (o.2.2.2 k hk).1⟩⟩

/-- The answer's three cells, stored behind all else. -/
theorem fin3 {n : Nat} {w W' : World} {S : Nat → Prop} {a : Option Addr} {ts : List TermD} {u v s : Value} (ho : OwnS W' S a ts) (hS : ∀ k, S k → k < n) (hst : Stay (fun k => ¬ S k) w W') (hw : n ≤ w.heap.size) :
    OwnS (((W'.setCell ⟨n + 1, 0, none⟩ u).setCell ⟨n + 1, 1, none⟩ v).setCell ⟨n + 1, 2, none⟩ s) S a ts ∧ Stay (fun k => k < n ∧ ¬ S k) w (((W'.setCell ⟨n + 1, 0, none⟩ u).setCell ⟨n + 1, 1, none⟩ v).setCell ⟨n + 1, 2, none⟩ s) := by
  have hn : ∀ j, ¬ S (⟨n + 1, j, none⟩ : Addr).block := fun j hk => by have := hS _ hk; simp only at this; omega
  have _ := hw
  exact ⟨((ho.setCell ⟨n + 1, 0, none⟩ (hn 0) u).setCell ⟨n + 1, 1, none⟩ (hn 1) v).setCell ⟨n + 1, 2, none⟩ (hn 2) s,
    (((hst.weak (fun _ _ hk => hk.2)).trans (.setCell _ _ (fun hk => by have := hk.1; simp only at this; omega))).trans (.setCell _ _ (fun hk => by have := hk.1; simp only at this; omega))).trans (.setCell _ _ (fun hk => by have := hk.1; simp only at this; omega))⟩

set_option maxHeartbeats 1600000 in
theorem closed_plain (sa : Option Addr) (ss : List SymD) (sc n0 B h : Nat) (x : FM) (w : World) (hs : RdS w sa ss) (M : MR n0 B x w) (hl : x.L.length ≤ 549755813888) (hbl : blindAt ss x.t.f = false) :
    Calls Tryz.prog 52 #[.agg #[.int .i64 x.t.f, .int .i64 x.t.v, .slice x.a x.t.kids.length x.c, .slice x.al x.left.length x.cl, .slice x.am x.L.length x.cm, .int .i64 h], .slice sa ss.length sc] w fun e w' => e = .returned (.agg #[.int .i64 x.t.f, .int .i64 x.t.v, .slice x.am x.L.length x.L.length]) ∧ OwnS w' x.S x.am (x.L.map FE.t) ∧ Stay (fun k => k < w.heap.size ∧ ¬ x.S k) w w' := by
  obtain ⟨W, hW⟩ : ∃ W, W = ((w.alloc (.cells #[.int .i64 x.t.f, .int .i64 x.t.v, .slice x.a x.t.kids.length x.c, .slice x.al x.left.length x.cl, .slice x.am x.L.length x.cm, .int .i64 h] 89)).alloc (.cells #[.int .i64 0, .int .i64 0, .slice none 0 0] 34)).alloc (.cells #[.slice x.am x.L.length x.L.length] 32) := ⟨_, rfl⟩
  have hB0 : Below w.heap.size w W := by rw [hW]; exact (((Below.refl _ _).alloc (Nat.le_refl _) _).alloc (by simp) _).alloc (by simp; omega) _
  have hz : W.heap.size = w.heap.size + 1 + 1 + 1 := by rw [hW]; simp
  have p0 : W.cell? ⟨w.heap.size, 0, none⟩ = some (.int .i64 x.t.f) := by rw [hW]; simp [go_sem]
  have p1 : W.cell? ⟨w.heap.size, 1, none⟩ = some (.int .i64 x.t.v) := by rw [hW]; simp [go_sem]
  have r0 : W.cell? ⟨w.heap.size + 1, 0, none⟩ = some (.int .i64 0) := by rw [hW]; simp [go_sem]
  have r1 : W.cell? ⟨w.heap.size + 1, 1, none⟩ = some (.int .i64 0) := by rw [hW]; simp [go_sem]
  have r2 : W.cell? ⟨w.heap.size + 1, 2, none⟩ = some (.slice none 0 0) := by rw [hW]; simp [go_sem]
  have fr : ∀ j, W.frozen? ⟨w.heap.size + 1, j, none⟩ = false := fun j => by rw [hW]; simp [go_sem]
  have q0 : W.cell? ⟨w.heap.size + 1 + 1, 0, none⟩ = some (.slice x.am x.L.length x.L.length) := by rw [hW]; simp [go_sem]
  have CB := impBlind_any sa ss ss.length sc x.t.f W rfl (hs.below hB0)
  have hcm : x.L.length ≤ x.cm := by obtain ⟨_, _, e, hh⟩ := own_form M.row; rw [(Value.slice.inj e).2.2]; exact hh
  have hcmz : (x.L.length : Int) ≤ (x.cm : Int) := by omega
  rw [hbl] at CB
  have HO : Hid (∀ W', Below w.heap.size w W' → OwnS W' x.S x.am (x.L.map FE.t)) := fun W' hb => (M.owns hl).frame (fun k hk => hb.block k (M.lt k hk).2) hb.size
  clear hs M hbl r0 r1 r2 fr
  generalize x.L.length = n at *
  generalize x.am = am at *
  go_enter Tryz.func52, Tryz.ntmps52
  go_wp2_with (go_at_call 60; rw [← hW]; refine CB.mono ?_; rintro e w1 ⟨rfl, hw1⟩; subst w1)
  refine bodyPost_ret (v := .agg #[.int .i64 x.t.f, .int .i64 x.t.v, .slice am n n]) (by simp [results, Tryz.results52, go_sem]) rfl ?_
  have hb : ∀ o1 o2 o3, Below w.heap.size w (((w.alloc o1).alloc o2).alloc o3) := fun o1 o2 o3 => (((Below.refl _ _).alloc (Nat.le_refl _) o1).alloc (by simp) o2).alloc (by simp; omega) o3
  exact ⟨rfl, HO.out _ (hb _ _ _), .of_below (hb _ _ _) (fun _ hk _ => hk)⟩

theorem perm_one {a : List TermD} (h : a.length ≤ 1) : sortT a = a := by
  match a, h with
  | [], _ => rfl
  | [x], _ => simp [sortT, putT]
  | _ :: _ :: _, h => simp at h

set_option maxHeartbeats 1600000 in
theorem closed_blind (sa : Option Addr) (ss : List SymD) (sc n0 B h : Nat) (x : FM) (w : World) (hs : RdS w sa ss) (M : MR n0 B x w) (hl : x.L.length ≤ 549755813888) (hp : ∀ e ∈ x.L, partsT e.t ≤ 549755813888) (hbl : blindAt ss x.t.f = true) :
    Calls Tryz.prog 52 #[.agg #[.int .i64 x.t.f, .int .i64 x.t.v, .slice x.a x.t.kids.length x.c, .slice x.al x.left.length x.cl, .slice x.am x.L.length x.cm, .int .i64 h], .slice sa ss.length sc] w fun e w' => e = .returned (.agg #[.int .i64 x.t.f, .int .i64 x.t.v, .slice x.am x.L.length x.L.length]) ∧ OwnS w' x.S x.am (sortT (x.L.map FE.t)) ∧ Stay (fun k => k < w.heap.size ∧ ¬ x.S k) w w' := by
  obtain ⟨W, hW⟩ : ∃ W, W = ((w.alloc (.cells #[.int .i64 x.t.f, .int .i64 x.t.v, .slice x.a x.t.kids.length x.c, .slice x.al x.left.length x.cl, .slice x.am x.L.length x.cm, .int .i64 h] 89)).alloc (.cells #[.int .i64 0, .int .i64 0, .slice none 0 0] 34)).alloc (.cells #[.slice x.am x.L.length x.L.length] 32) := ⟨_, rfl⟩
  have hB0 : Below w.heap.size w W := by rw [hW]; exact (((Below.refl _ _).alloc (Nat.le_refl _) _).alloc (by simp) _).alloc (by simp; omega) _
  have hz : W.heap.size = w.heap.size + 1 + 1 + 1 := by rw [hW]; simp
  have p0 : W.cell? ⟨w.heap.size, 0, none⟩ = some (.int .i64 x.t.f) := by rw [hW]; simp [go_sem]
  have p1 : W.cell? ⟨w.heap.size, 1, none⟩ = some (.int .i64 x.t.v) := by rw [hW]; simp [go_sem]
  have r0 : W.cell? ⟨w.heap.size + 1, 0, none⟩ = some (.int .i64 0) := by rw [hW]; simp [go_sem]
  have r1 : W.cell? ⟨w.heap.size + 1, 1, none⟩ = some (.int .i64 0) := by rw [hW]; simp [go_sem]
  have r2 : W.cell? ⟨w.heap.size + 1, 2, none⟩ = some (.slice none 0 0) := by rw [hW]; simp [go_sem]
  have fr : ∀ j, W.frozen? ⟨w.heap.size + 1, j, none⟩ = false := fun j => by rw [hW]; simp [go_sem]
  have q0 : W.cell? ⟨w.heap.size + 1 + 1, 0, none⟩ = some (.slice x.am x.L.length x.L.length) := by rw [hW]; simp [go_sem]
  have CB := impBlind_any sa ss ss.length sc x.t.f W rfl (hs.below hB0)
  have hcm : x.L.length ≤ x.cm := by obtain ⟨_, _, e, hh⟩ := own_form M.row; rw [(Value.slice.inj e).2.2]; exact hh
  have hcmz : (x.L.length : Int) ≤ (x.cm : Int) := by omega
  rw [hbl] at CB
  have hMlt : ∀ k, x.S k → k < w.heap.size := fun k hk => (M.lt k hk).2
  have CS : Calls Tryz.prog 61 #[.iface 32 (.slice x.am x.L.length x.L.length), .func (.func 62) #[] #[.pointer (some ⟨w.heap.size + 1 + 1, 0, none⟩)]] W fun e W' => e = .returned (.tuple #[]) ∧ OwnS W' x.S x.am (sortT (x.L.map FE.t)) ∧ Stay (fun k => ¬ x.S k) W W' := by
    by_cases h2 : 2 ≤ x.L.length
    · obtain ⟨m, hm⟩ : ∃ m, x.L.length = m + 1 := ⟨x.L.length - 1, by omega⟩
      have hr := M.row
      rw [hm] at hr
      obtain ⟨g, c, e, _, _, hgl⟩ := own_slot hr
      have ea : x.am = some ⟨g, 0, none⟩ := (Value.slice.inj e).1
      have hgS : x.S g := .inl (by rw [ea]; rfl)
      have ko := M.ko hB0 ea (by rw [← ea]; exact q0) hp
      have hgW : g < W.heap.size := by omega
      rw [ea]
      refine (sortKids_any (base := W.heap.size) hgW (by omega) (by omega) (by omega) h2 x.L.toArray W ko).mono ?_
      rintro e W' ⟨rfl, d', k', pp, ps, hst⟩
      refine ⟨rfl, ?_, hst.weak (fun k _ hk q => hk (q ▸ hgS))⟩
      have ho := k'.owns (S := x.S) (Nat.lt_of_lt_of_le hgW hst.size) hl pp hgS (fun e he => ⟨(M.el e (by simpa using he)).2.2.1, fun k hk => .inr ⟨e, by simpa using he, hk⟩⟩) (by simpa using M.dis)
      have e1 : d'.toList.map FE.t = sortT (x.L.map FE.t) := sortT_eq (by simpa using pp.map FE.t) ps
      rw [← e1]; exact ho
    · have hone : sortT (x.L.map FE.t) = x.L.map FE.t := perm_one (by simp; omega)
      rw [hone]
      have ho := (M.owns hl).frame (fun k hk => hB0.block k (M.lt k hk).2) hB0.size
      have tiny : ∀ f, Tryz.prog.funcs.findIdx? (·.name == "internal/reflectlite" ++ ".Swapper$" ++ toString (Lib.swapperK x.L.length svE 25)) = some f → Calls Tryz.prog 61 #[.iface 32 (.slice x.am x.L.length x.L.length), .func (.func 62) #[] #[.pointer (some ⟨w.heap.size + 1 + 1, 0, none⟩)]] W fun e W' => e = .returned (.tuple #[]) ∧ OwnS W' x.S x.am (x.L.map FE.t) ∧ Stay (fun k => ¬ x.S k) W W' := fun f hf => by
        refine (Any.sort_Slice_tiny Tryz.laysGg6 32 34 svT svE (by kernel_rfl) (by kernel_rfl) (by kernel_rfl) (by kernel_rfl) 25 (fun _ => by kernel_rfl) x.am x.L.length x.L.length (by omega) f hf (.func 62) #[] #[.pointer (some ⟨w.heap.size + 1 + 1, 0, none⟩)] W).mono ?_
        rintro e W' ⟨rfl, os, rfl⟩
        have hb : Below W.heap.size W (grow W os) := ⟨rfl, rfl, rfl, by rw [size_grow]; omega, fun k hk => by show (W.heap ++ os)[k]? = W.heap[k]?; rw [Array.getElem?_append_left hk]⟩
        exact ⟨rfl, ho.frame (fun k hk => hb.block k (Nat.lt_of_lt_of_le (M.lt k hk).2 hB0.size)) hb.size, .of_below hb (fun _ hk _ => hk)⟩
      by_cases h0 : x.L.length = 0
      · exact tiny 76 (by rw [h0]; kernel_rfl)
      · have h1 : x.L.length = 1 := by omega
        exact tiny 77 (by rw [h1]; kernel_rfl)
  have HS : Hid (∀ k, x.S k → k < w.heap.size) := hMlt
  have HBW : Hid (Below w.heap.size w W) := hB0
  clear hs M hbl hMlt hp
  generalize x.L.length = n at *
  generalize x.am = am at *
  generalize sortT (x.L.map FE.t) = ts at *
  have hNS : ∀ k, w.heap.size ≤ k → ¬ x.S k := fun k hk q => by have := HS.out k q; omega
  have n0' := hNS w.heap.size (Nat.le_refl _)
  have n1' := hNS (w.heap.size + 1) (by omega)
  have n2' := hNS (w.heap.size + 1 + 1) (by omega)
  clear hNS
  go_enter Tryz.func52, Tryz.ntmps52
  go_wp2_with (first
    | (go_at_call 60; rw [← hW]; refine CB.mono ?_; rintro e w1 ⟨rfl, hw1⟩; subst w1; clear hW)
    | (go_at_call 61; refine CS.mono ?_; rintro e W' ⟨rfl, ho, hst⟩; have P0 := hst.cell p0 n0'; have P1 := hst.cell p1 n0'; have R0 := hst.cell r0 n1'; have R1 := hst.cell r1 n1'; have R2 := hst.cell r2 n1'; have Q0 := hst.cell q0 n2'; have FR : ∀ j, W'.frozen? ⟨w.heap.size + 1, j, none⟩ = false := (fun j => (hst.frozen (p := ⟨w.heap.size + 1, j, none⟩) (by rw [hz]; show w.heap.size + 1 < _; omega) n1').trans (fr j)); clear p0 p1 r0 r1 r2 q0 fr CS))
  obtain ⟨z0, z1, z2⟩ := set3_cells (u := W') (r := w.heap.size + 1) (x := .int .i64 x.t.f) (y := .int .i64 x.t.v) (z := .slice am n n) R0 R1 R2
  obtain ⟨fo, fs⟩ := fin3 (u := .int .i64 x.t.f) (v := .int .i64 x.t.v) (s := .slice am n n) ho HS.out ((Stay.of_below HBW.out (fun _ hk _ => hk)).trans hst) (Nat.le_refl _)
  exact bodyPost_ret (v := .agg #[.int .i64 x.t.f, .int .i64 x.t.v, .slice am n n]) (by simp [results, Tryz.results52, go_sem, z0, z1, z2]) rfl ⟨rfl, fo, fs⟩
end Go.Proofs.YtollijngiioonabGreat

/- The specification's l4Put: a term put into a row of terms by its order; the row is made anew. Conditions: terms of at most 549755813888 parts, rows of at most 549755813888 terms. -/
namespace Go.Proofs.YtollijngiioonabGreat
set_option maxRecDepth 100000
open Go.RowKit

/-- Where a term comes in a list. -/
def putK (t : TermD) (l : List TermD) : Nat := (l.takeWhile fun e => !befT t e).length
theorem putK_le (t : TermD) (l : List TermD) : putK t l ≤ l.length := (List.takeWhile_sublist _).length_le
theorem putT_at (t : TermD) (l : List TermD) : putT t l = l.take (putK t l) ++ t :: l.drop (putK t l) := by
  unfold putT putK
  have h := List.takeWhile_append_dropWhile (p := fun e => !befT t e) (l := l)
  generalize l.takeWhile (fun e => !befT t e) = a at *
  generalize l.dropWhile (fun e => !befT t e) = b at *
  rw [← h]; simp
theorem putK_step (t : TermD) : ∀ (l : List TermD) (k : Nat), k ≤ putK t l → (h : k < l.length) → (befT t l[k] = false ↔ k + 1 ≤ putK t l)
  | [], k, _, h => by simp at h
  | x :: l, k, hk, h => by
    unfold putK at *
    by_cases e : befT t x = true
    · simp only [List.takeWhile_cons, e, Bool.not_true, Bool.false_eq_true, if_false, List.length_nil] at hk ⊢
      have : k = 0 := by omega
      subst this
      simp [e]
    · have e' : befT t x = false := by simpa using e
      simp only [List.takeWhile_cons, e', Bool.not_false, if_true, List.length_cons] at hk ⊢
      cases k with
      | zero => simp [e']
      | succ k =>
        have ih := putK_step t l k (by unfold putK; omega) (by simpa using h)
        unfold putK at ih
        simp only [List.getElem_cons_succ]
        rw [ih]; omega

/-- The same of a row. -/
def putF (e : FE) (L : List FE) : List FE := L.take (putK e.t (L.map FE.t)) ++ e :: L.drop (putK e.t (L.map FE.t))
theorem putF_t (e : FE) (L : List FE) : (putF e L).map FE.t = putT e.t (L.map FE.t) := by
  rw [putT_at]; simp [putF, List.map_take, List.map_drop]
theorem putF_perm (e : FE) (L : List FE) : (putF e L).Perm (e :: L) := by
  unfold putF
  refine List.perm_middle.trans ?_
  rw [List.take_append_drop]
theorem putF_len (e : FE) (L : List FE) : (putF e L).length = L.length + 1 := by simpa using (putF_perm e L).length_eq

theorem cs3_append (a b : List (Value × Value × Value)) : cs3 (a ++ b) = cs3 a ++ cs3 b := by simp [cs3]
theorem cs3_one (L : List FE) : ∀ u ∈ cs3 (L.map FE.cells), u.oneCell' = true := by
  intro u hu
  simp only [cs3, List.mem_flatMap, List.mem_map] at hu
  obtain ⟨x, ⟨e, _, rfl⟩, hx⟩ := hu
  simp only [FE.cells, List.mem_cons, List.not_mem_nil, or_false] at hx
  rcases hx with rfl | rfl | rfl <;> rfl

/-- Where 'list[k:]' begins. -/
def fromA (g k c : Nat) : Addr := if c = k then ⟨g, 0, none⟩ else ⟨g, k * 3, none⟩
theorem slice_to (av : Option Addr) (n k c : Nat) (h : k ≤ c) (w : World) : (Instr.slice 32 (.slice av n c) none (some (.int .i64 k)) none).run Tryz.prog w = .ok (.slice av k c) w := by
  have h0 : (sizeOf 34).run Tryz.prog w = .ok 3 w := by simp [go_sem]
  have hb : (Instr.sliceBounds true n c none (some (.int .i64 k)) none).run Tryz.prog w = .ok (0, k, c) w := by
    simp [Instr.sliceBounds, Instr.sliceBound, asIntOf, go_sem]
    intro hh; omega
  simp only [Instr.slice, Sem.run_bind, run_underlying Tryz.underlying32, Result.andThen, hb, h0, Sem.run_pure]
  cases av with
  | none => simp
  | some x => simp [Addr.add]
theorem sliceAt_to (av : Option Addr) (n k c : Nat) (h : k ≤ c) (w : World) : (Instr.sliceAt 32 (.slice av n c) none (some (.int .i64 k)) none).run Tryz.prog w = .ok (.slice av k c) w := by
  simp only [Instr.sliceAt, Sem.run_bind, run_underlying Tryz.underlying32, Result.andThen, slice_to av n k c h w]
theorem slice_from (g n k c : Nat) (h : k ≤ n) (w : World) : (Instr.slice 32 (.slice (some ⟨g, 0, none⟩) n c) (some (.int .i64 k)) none none).run Tryz.prog w = .ok (.slice (some (fromA g k c)) (n - k) (c - k)) w := by
  have h0 : (sizeOf 34).run Tryz.prog w = .ok 3 w := by simp [go_sem]
  have hb : (Instr.sliceBounds true n c (some (.int .i64 k)) none none).run Tryz.prog w = .ok (k, n, c) w := by
    simp [Instr.sliceBounds, Instr.sliceBound, asIntOf, go_sem]
    intro hh; omega
  simp only [Instr.slice, Sem.run_bind, run_underlying Tryz.underlying32, Result.andThen, hb, h0, Sem.run_pure]
  unfold fromA
  split
  · simp
  · simp [Addr.add]
    intro hh; omega
theorem sliceAt_from (g n k c : Nat) (h : k ≤ n) (w : World) : (Instr.sliceAt 32 (.slice (some ⟨g, 0, none⟩) n c) (some (.int .i64 k)) none none).run Tryz.prog w = .ok (.slice (some (fromA g k c)) (n - k) (c - k)) w := by
  simp only [Instr.sliceAt, Sem.run_bind, run_underlying Tryz.underlying32, Result.andThen, slice_from g n k c h w]

theorem news_to {w : World} {B g n c k : Nat} {L : List FE} (hn : n = L.length) (h : w.ownsRow B 34 3 (.slice (some ⟨g, 0, none⟩) n c) n (cs3 (L.map FE.cells))) (hk : k ≤ L.length) :
    ∀ j u, (cs3 ((L.take k).map FE.cells))[j]? = some u → w.cell? ((⟨g, 0, none⟩ : Addr).add j) = some u := by
  intro j u hj
  have hadd : (⟨g, 0, none⟩ : Addr).add j = ⟨g, j, none⟩ := by unfold Addr.add; split <;> simp_all
  have hlen := cs3_len ((L.take k).map FE.cells)
  have hlt := (List.getElem?_eq_some_iff.1 hj).1
  rw [hlen] at hlt
  simp at hlt
  rw [hadd, h.cellAt j (by omega)]
  have e : cs3 (L.map FE.cells) = cs3 ((L.take k).map FE.cells) ++ cs3 ((L.drop k).map FE.cells) := by rw [← cs3_append, ← List.map_append, List.take_append_drop]
  rw [e, List.getElem?_append_left (by rw [hlen]; simp; omega)]
  exact hj
theorem news_from {w : World} {B g n c k : Nat} {L : List FE} (hn : n = L.length) (h : w.ownsRow B 34 3 (.slice (some ⟨g, 0, none⟩) n c) n (cs3 (L.map FE.cells))) (hk : k ≤ L.length) (hc : n ≤ c) :
    ∀ j u, (cs3 ((L.drop k).map FE.cells))[j]? = some u → w.cell? ((fromA g k c).add j) = some u := by
  intro j u hj
  have hlen := cs3_len ((L.drop k).map FE.cells)
  have hlen' := cs3_len ((L.take k).map FE.cells)
  have hlt := (List.getElem?_eq_some_iff.1 hj).1
  rw [hlen] at hlt
  simp at hlt hlen'
  have hne : c ≠ k := by omega
  have hadd : (fromA g k c).add j = ⟨g, k * 3 + j, none⟩ := by
    unfold fromA; rw [if_neg hne]; unfold Addr.add; split <;> simp_all
  rw [hadd, h.cellAt _ (by omega)]
  have e : cs3 (L.map FE.cells) = cs3 ((L.take k).map FE.cells) ++ cs3 ((L.drop k).map FE.cells) := by rw [← cs3_append, ← List.map_append, List.take_append_drop]
  have e2 : min k L.length = k := by omega
  rw [e, List.getElem?_append_right (by simp [hlen', e2])]
  simp [hlen', e2]
  simpa using hj

theorem three_new (w : World) (x y z : Value) (t : TypeId) (n : Nat) (hn : n = w.heap.size) : ∀ j v, [x, y, z][j]? = some v → (w.alloc (.cells #[x, y, z] t)).cell? ((⟨n, 0, none⟩ : Addr).add j) = some v := by
  subst hn
  intro j v hj
  match j, hj with
  | 0, hj => simp at hj; subst hj; simp [Addr.add]
  | 1, hj => simp at hj; subst hj; simp [Addr.add]
  | 2, hj => simp at hj; subst hj; simp [Addr.add]
  | j + 3, hj => simp at hj
theorem three_cell (f v : Int) (a : Option Addr) (n c : Nat) : ∀ u ∈ [Value.int .i64 f, Value.int .i64 v, Value.slice a n c], u.oneCell' = true := by
  intro u hu
  simp at hu
  rcases hu with rfl | rfl | rfl <;> rfl
theorem putF_cells {e : FE} {L : List FE} {k : Nat} (hk : k = putK e.t (L.map FE.t)) : (cs3 ((L.take k).map FE.cells) ++ [Value.int .i64 e.t.f, Value.int .i64 e.t.v, Value.slice e.a e.t.kids.length e.c]) ++ cs3 ((L.drop k).map FE.cells) = cs3 ((putF e L).map FE.cells) := by
  subst hk
  simp [putF, cs3, FE.cells]
theorem own_any {w : World} {base : Nat} {e : TypeId} {size : Nat} {v : Value} {n : Nat} {xs : List Value} {a : Addr} {m c : Nat} {q : Prop} (h : w.ownsRow base e size v n xs) (hv : v = .slice none 0 0 ↔ .slice (some a) m c = Value.slice none 0 0 ∧ q) : ∃ g c, v = .slice (some ⟨g, 0, none⟩) n c := by
  rcases h.2 with ⟨h, _⟩ | ⟨g, cap, _, rfl, _⟩
  · have := (hv.1 h).1; simp at this
  · exact ⟨g, cap, rfl⟩

set_option maxHeartbeats 3200000 in
set_option maxRecDepth 100000 in
theorem l4Put_some (base g cv : Nat) (L : List FE) (e : FE) (hi : Nat) (w : World) (hrow : w.ownsRow base 34 3 (.slice (some ⟨g, 0, none⟩) L.length cv) L.length (cs3 (L.map FE.cells))) (hk : ∀ i, (h : i < L.length) → RdK w hi L[i].a L[i].t.kids) (he : RdK w hi e.a e.t.kids) (hhi : hi ≤ w.heap.size) (hp : partsT e.t ≤ 549755813888) (hl : L.length ≤ 549755813888) :
    Calls Tryz.prog 47 #[.slice (some ⟨g, 0, none⟩) L.length cv, .agg #[.int .i64 e.t.f, .int .i64 e.t.v, .slice e.a e.t.kids.length e.c]] w fun en w' => ∃ g' c', en = .returned (.slice (some ⟨g', 0, none⟩) (L.length + 1) c') ∧ w'.ownsRow w.heap.size 34 3 (.slice (some ⟨g', 0, none⟩) (L.length + 1) c') (L.length + 1) (cs3 ((putF e L).map FE.cells)) ∧ Below w.heap.size w w' := by
  obtain ⟨i0, hi0, hz0, hz1, hz2⟩ := info_parts info29
  have hcap : L.length ≤ cv := by obtain ⟨_, _, h, hh⟩ := own_form hrow; cases h; exact hh
  have hgl := (hrow.lt g rfl).2
  have HK : Hid (∀ i, (h : i < L.length) → RdK w hi L[i].a L[i].t.kids) := hk
  have HE : Hid (RdK w hi e.a e.t.kids) := he
  have HROW : Hid (w.ownsRow base 34 3 (.slice (some ⟨g, 0, none⟩) L.length cv) L.length (cs3 (L.map FE.cells))) := hrow
  have HPL : Hid (putK e.t (L.map FE.t) ≤ L.length) := by show _ ≤ _; simpa using putK_le e.t (L.map FE.t)
  have hb0 : Below w.heap.size w (w.alloc (.cells #[.int .i64 e.t.f, .int .i64 e.t.v, .slice e.a e.t.kids.length e.c] 34)) := (Below.refl w.heap.size w).alloc (Nat.le_refl _) _
  clear hk he hrow
  go_enter Tryz.func47, Tryz.ntmps47
  go_wp2_with fail
  go_loopw [5] (fun i wr => ∃ k : Nat, k ≤ putK e.t (L.map FE.t) ∧ i = .int .i64 k ∧ wr.cell? ⟨w.heap.size, 0, none⟩ = some (.int .i64 e.t.f) ∧ wr.cell? ⟨w.heap.size, 1, none⟩ = some (.int .i64 e.t.v) ∧ wr.cell? ⟨w.heap.size, 2, none⟩ = some (.slice e.a e.t.kids.length e.c) ∧ Below w.heap.size w wr) (fun i _ => L.length - (intOf i).toNat)
  case atStart => exact ⟨0, Nat.zero_le _, rfl, by simp [go_sem], by simp [go_sem], by simp [go_sem], hb0⟩
  case round =>
    obtain ⟨k, hkp, rfl, b0, b1, b2, hbr⟩ := hrel
    clear hb0
    have hkl : k ≤ L.length := Nat.le_trans hkp HPL.out
    have hzr : w.heap.size < wr.heap.size := World.block_lt_of_cell? _ _ b0
    have hbk0 : (0 : Int) ≤ (k : Int) := by omega
    by_cases hk' : k < L.length
    · have hki : (k : Int) < (L.length : Int) := by omega
      have rowr := own_on HROW.out hbr
      obtain ⟨d0, d1, d2⟩ := cs3_cells (l := L.map FE.cells) (k := k) (by simp) (by simpa using hk') rowr
      simp only [List.getElem_map, FE.cells] at d0 d1 d2
      have hwr := Nat.le_trans hhi hbr.size
      have I := fun (w' : World) (h : Below wr.heap.size wr w') => specBefore_any (partsT e.t) e.t L[k].t e.a L[k].a e.c L[k].c hi w' (Nat.le_refl _) hp ((HE.out.on (hbr.mono hhi)).on (h.mono hwr)) (((HK.out k hk').on (hbr.mono hhi)).on (h.mono hwr)) (Nat.le_trans hwr h.size)
      have HS : Hid (befT e.t L[k].t = false ↔ k + 1 ≤ putK e.t (L.map FE.t)) := by
        have := putK_step e.t (L.map FE.t) k hkp (by simpa using hk')
        show _ ↔ _
        simpa using this
      cases hbf : befT e.t L[k].t with
      | false =>
        rw [hbf] at I
        have hk1 : k + 1 ≤ putK e.t (L.map FE.t) := HS.out.1 hbf
        clear hbf rowr HS
        go_wp2_with fail
        go_region_held3 (fun w' => w'.cell? ⟨w.heap.size, 0, none⟩ = some (.int .i64 e.t.f) ∧ w'.cell? ⟨w.heap.size, 1, none⟩ = some (.int .i64 e.t.v) ∧ w'.cell? ⟨w.heap.size, 2, none⟩ = some (.slice e.a e.t.kids.length e.c) ∧ w'.cell? ⟨g, k * 3, none⟩ = some (.int .i64 L[k].t.f) ∧ w'.cell? ⟨g, k * 3 + 1, none⟩ = some (.int .i64 L[k].t.v) ∧ w'.cell? ⟨g, k * 3 + 2, none⟩ = some (.slice L[k].a L[k].t.kids.length L[k].c)) (first | go_keep | exact ⟨keepC hbb b0, keepC hbb b1, keepC hbb b2, keepC hbb d0, keepC hbb d1, keepC hbb d2⟩)
          (first | (go_at_call 38; refine (I _ ?_).mono ?_; exact (Below.refl _ _).drew; rintro e1 w1 ⟨rfl, hb1⟩; have hbb : Below wr.heap.size wr w1 := (Below.refl _ _).drew.trans hb1; clear hb1))
        go_wp2_with fail
        go_roundw
        case rel => exact ⟨k + 1, hk1, by go_num, keepC hbb b0, keepC hbb b1, keepC hbb b2, hbr.trans (hbb.mono hbr.size)⟩
        case measure => simp [intOf]; omega
      | true =>
        rw [hbf] at I
        have E : Hid (k = putK e.t (L.map FE.t)) := by
          show _ = _
          have h1 : ¬ k + 1 ≤ putK e.t (L.map FE.t) := fun h => by rw [HS.out.2 h] at hbf; cases hbf
          omega
        clear hbf rowr HS
        go_wp2_with fail
        go_region_held3 (fun w' => w'.cell? ⟨w.heap.size, 0, none⟩ = some (.int .i64 e.t.f) ∧ w'.cell? ⟨w.heap.size, 1, none⟩ = some (.int .i64 e.t.v) ∧ w'.cell? ⟨w.heap.size, 2, none⟩ = some (.slice e.a e.t.kids.length e.c) ∧ w'.cell? ⟨g, k * 3, none⟩ = some (.int .i64 L[k].t.f) ∧ w'.cell? ⟨g, k * 3 + 1, none⟩ = some (.int .i64 L[k].t.v) ∧ w'.cell? ⟨g, k * 3 + 2, none⟩ = some (.slice L[k].a L[k].t.kids.length L[k].c)) (first | go_keep | exact ⟨keepC hbb b0, keepC hbb b1, keepC hbb b2, keepC hbb d0, keepC hbb d1, keepC hbb d2⟩)
          (first | (go_at_call 38; refine (I _ ?_).mono ?_; exact (Below.refl _ _).drew; rintro e1 w1 ⟨rfl, hb1⟩; have hbb : Below wr.heap.size wr w1 := (Below.refl _ _).drew.trans hb1; clear hb1))
        have c0 := keepC hbb b0
        have c1 := keepC hbb b1
        have c2 := keepC hbb b2
        have hB1 : Below w.heap.size w w1 := hbr.trans (hbb.mono hbr.size)
        clear b0 b1 b2 d0 d1 d2 hbb hbr I
        have hs1 := slice_to (some ⟨g, 0, none⟩) L.length k cv (by omega)
        have hs2 := sliceAt_to (some ⟨g, 0, none⟩) L.length k cv (by omega)
        have hs3 := slice_from g L.length k cv hkl
        have hs4 := sliceAt_from g L.length k cv hkl
        have hz1' := hB1.size
        have hw1 : w.heap.size < w1.heap.size := World.block_lt_of_cell? _ _ c0
        go_wp2_with (first
          | (at_builtin; (refine wpList_append_own _ rfl (.tmp 22) (.tmp 25) 32 rfl w.heap.size 34 i0 _ 3 40 Tryz.underlying32 hi0 hz0 hz1 hz2 rfl (by decide) _ 0 [] rfl (World.ownsRow_made w1 #[] 0 hB1.size (Nat.zero_le _) rfl) ⟨g, 0, none⟩ k cv (cs3 ((L.take k).map FE.cells)) rfl (by rw [cs3_len]; simp; omega) (news_to rfl (own_on HROW.out (hB1.alloc hB1.size _)) hkl) (cs3_one _) (by unfold maxLen; omega) (by omega) (by simp; omega) ?_; intro v2 w2 hown2 hgrow2 hnil2; obtain ⟨g2, c2', rfl⟩ := own_any hown2 hnil2; simp only [Nat.zero_add, List.nil_append] at hown2 ⊢; have hg2 : (w1.alloc (.cells #[] 34)).grownBy w2 (some w1.heap.size) := hgrow2; have hb2 : Below w1.heap.size w1 w2 := (((Below.refl _ _).alloc (Nat.le_refl _) _).grown hg2 (by simp) (fun kk ee => by cases ee; exact Nat.le_refl _)); have e0 := keepC hb2 c0; have e1 := keepC hb2 c1; have e2 := keepC hb2 c2; have hB2 : Below w.heap.size w w2 := hB1.trans (hb2.mono hB1.size); have hw2 : w.heap.size < w2.heap.size := (Nat.lt_of_lt_of_le hw1 hb2.size); clear hnil2 hgrow2 hg2 hb2 c0 c1 c2 hB1 hw1 hz1'))
          | (at_builtin; (refine wpList_append_own _ rfl (.tmp 27) (.tmp 29) 32 rfl w.heap.size 34 i0 _ 3 40 Tryz.underlying32 hi0 hz0 hz1 hz2 rfl (by decide) _ k _ rfl (hown2.alloc _) ⟨w2.heap.size, 0, none⟩ 1 1 _ rfl rfl (three_new _ _ _ _ _ _ rfl) (three_cell _ _ _ _ _) (by unfold maxLen; omega) (by omega) (by simp; omega) ?_; intro v3 w3 hown3 hgrow3 hnil3; obtain ⟨g3, c3', rfl⟩ := own_any hown3 hnil3; have hg3 : (w2.alloc (.cells #[.int .i64 e.t.f, .int .i64 e.t.v, .slice e.a e.t.kids.length e.c] 34)).grownBy w3 (some g2) := hgrow3; have hB3 : Below w.heap.size w w3 := ((hB2.alloc hB2.size _).grown hg3 (by simp; omega) (fun kk ee => by cases ee; exact (hown2.lt _ rfl).1)); clear hnil3 hgrow3 hg3 e0 e1 e2 hB2 hw2 hown2))
          | (at_builtin; (refine wpList_append_own _ rfl (.tmp 31) (.tmp 34) 32 rfl w.heap.size 34 i0 _ 3 40 Tryz.underlying32 hi0 hz0 hz1 hz2 rfl (by decide) _ (k + 1) _ rfl hown3 (fromA g k cv) (L.length - k) (cv - k) (cs3 ((L.drop k).map FE.cells)) rfl (by rw [cs3_len]; simp) (news_from rfl (own_on HROW.out hB3) hkl hcap) (cs3_one _) (by unfold maxLen; omega) (by omega) hB3.size ?_; intro v4 w4 hown4 hgrow4 hnil4; obtain ⟨g4, c4', rfl⟩ := own_any hown4 hnil4; have hg4 : w3.grownBy w4 (some g3) := hgrow4; have hB4 : Below w.heap.size w w4 := (hB3.grown hg4 hB3.size (fun kk ee => by cases ee; exact (hown3.lt _ rfl).1)); clear hnil4 hgrow4 hg4)))
        go_ret
        have hlen : k + 1 + (L.length - k) = L.length + 1 := by omega
        rw [putF_cells E.out, hlen] at hown4
        refine ⟨g4, c4', ?_, hown4, hB4⟩
        rw [← hlen]
        rfl
    · have E : Hid (k = putK e.t (L.map FE.t)) := by
        show _ = _
        have := HPL.out
        omega
      have hnk : ¬ (k : Int) < (L.length : Int) := by omega
      go_wp2_with fail
      go_quiet ((fail))
      have hbb : Below wr.heap.size wr (wr.drewN nq) := below_drewN (Below.refl _ _) nq
      have c0 := keepC hbb b0
      have c1 := keepC hbb b1
      have c2 := keepC hbb b2
      have hB1 : Below w.heap.size w (wr.drewN nq) := hbr.trans (hbb.mono hbr.size)
      clear b0 b1 b2 hbb hbr
      generalize wr.drewN nq = w1 at *
      have hs1 := slice_to (some ⟨g, 0, none⟩) L.length k cv (by omega)
      have hs2 := sliceAt_to (some ⟨g, 0, none⟩) L.length k cv (by omega)
      have hs3 := slice_from g L.length k cv hkl
      have hs4 := sliceAt_from g L.length k cv hkl
      have hz1' := hB1.size
      have hw1 : w.heap.size < w1.heap.size := World.block_lt_of_cell? _ _ c0
      go_wp2_with (first
        | (at_builtin; (refine wpList_append_own _ rfl (.tmp 22) (.tmp 25) 32 rfl w.heap.size 34 i0 _ 3 40 Tryz.underlying32 hi0 hz0 hz1 hz2 rfl (by decide) _ 0 [] rfl (World.ownsRow_made w1 #[] 0 hB1.size (Nat.zero_le _) rfl) ⟨g, 0, none⟩ k cv (cs3 ((L.take k).map FE.cells)) rfl (by rw [cs3_len]; simp; omega) (news_to rfl (own_on HROW.out (hB1.alloc hB1.size _)) hkl) (cs3_one _) (by unfold maxLen; omega) (by omega) (by simp; omega) ?_; intro v2 w2 hown2 hgrow2 hnil2; obtain ⟨g2, c2', rfl⟩ := own_any hown2 hnil2; simp only [Nat.zero_add, List.nil_append] at hown2 ⊢; have hg2 : (w1.alloc (.cells #[] 34)).grownBy w2 (some w1.heap.size) := hgrow2; have hb2 : Below w1.heap.size w1 w2 := (((Below.refl _ _).alloc (Nat.le_refl _) _).grown hg2 (by simp) (fun kk ee => by cases ee; exact Nat.le_refl _)); have e0 := keepC hb2 c0; have e1 := keepC hb2 c1; have e2 := keepC hb2 c2; have hB2 : Below w.heap.size w w2 := hB1.trans (hb2.mono hB1.size); have hw2 : w.heap.size < w2.heap.size := (Nat.lt_of_lt_of_le hw1 hb2.size); clear hnil2 hgrow2 hg2 hb2 c0 c1 c2 hB1 hw1 hz1'))
        | (at_builtin; (refine wpList_append_own _ rfl (.tmp 27) (.tmp 29) 32 rfl w.heap.size 34 i0 _ 3 40 Tryz.underlying32 hi0 hz0 hz1 hz2 rfl (by decide) _ k _ rfl (hown2.alloc _) ⟨w2.heap.size, 0, none⟩ 1 1 _ rfl rfl (three_new _ _ _ _ _ _ rfl) (three_cell _ _ _ _ _) (by unfold maxLen; omega) (by omega) (by simp; omega) ?_; intro v3 w3 hown3 hgrow3 hnil3; obtain ⟨g3, c3', rfl⟩ := own_any hown3 hnil3; have hg3 : (w2.alloc (.cells #[.int .i64 e.t.f, .int .i64 e.t.v, .slice e.a e.t.kids.length e.c] 34)).grownBy w3 (some g2) := hgrow3; have hB3 : Below w.heap.size w w3 := ((hB2.alloc hB2.size _).grown hg3 (by simp; omega) (fun kk ee => by cases ee; exact (hown2.lt _ rfl).1)); clear hnil3 hgrow3 hg3 e0 e1 e2 hB2 hw2 hown2))
        | (at_builtin; (refine wpList_append_own _ rfl (.tmp 31) (.tmp 34) 32 rfl w.heap.size 34 i0 _ 3 40 Tryz.underlying32 hi0 hz0 hz1 hz2 rfl (by decide) _ (k + 1) _ rfl hown3 (fromA g k cv) (L.length - k) (cv - k) (cs3 ((L.drop k).map FE.cells)) rfl (by rw [cs3_len]; simp) (news_from rfl (own_on HROW.out hB3) hkl hcap) (cs3_one _) (by unfold maxLen; omega) (by omega) hB3.size ?_; intro v4 w4 hown4 hgrow4 hnil4; obtain ⟨g4, c4', rfl⟩ := own_any hown4 hnil4; have hg4 : w3.grownBy w4 (some g3) := hgrow4; have hB4 : Below w.heap.size w w4 := (hB3.grown hg4 hB3.size (fun kk ee => by cases ee; exact (hown3.lt _ rfl).1)); clear hnil4 hgrow4 hg4)))
      go_ret
      have hlen : k + 1 + (L.length - k) = L.length + 1 := by omega
      rw [putF_cells E.out, hlen] at hown4
      refine ⟨g4, c4', ?_, hown4, hB4⟩
      rw [← hlen]
      rfl
end Go.Proofs.YtollijngiioonabGreat

/- append to a row of one's own, as one step of a region that draws its order. Conditions: none. -/
namespace Go.Proofs.YtollijngiioonabGreat
set_option maxRecDepth 100000
open Go.RowKit

theorem step_append_own {P : Program} {ops : Array Oper} {o : Oper} {a : Act} {w : World} {K : Act → World → Prop} {Q : Exit → Act → World → Prop} {E : Prop}
    (hg : o.guard = none) (s x : Operand) (t : TypeId) (hop : o.op = Op.call { callee := Callee.builtin Builtin.append, args := #[s, x], argTypes := #[t, t] })
    (base : Nat) (e : TypeId) (i : TypeInfo) (z : Value) (size bytes : Nat) (ht : P.underlying t = some (.slice e)) (hi : P.info? e = some i) (hz : i.zero = some z)
    (hsize : i.size = size) (hby : i.bytes = bytes) (hzs : z.cells.size = size) (hsz : 0 < size)
    (v : Value) (n : Nat) (xs : List Value) (hs : a.eval s = v) (hown : w.ownsRow base e size v n xs)
    (ad : Addr) (m c : Nat) (news : List Value) (hx : a.eval x = .slice (some ad) m c) (hl : news.length = m * size) (hnews : ∀ j u, news[j]? = some u → w.cell? (ad.add j) = some u) (h1 : ∀ u ∈ news, u.oneCell' = true)
    (h63 : n + m ≤ maxLen) (hbytes : (n + m) * bytes ≤ 140737488355328) (hbase : base ≤ w.heap.size)
    (hK : ∀ v' w', w'.ownsRow base e size v' (n + m) (xs ++ news) → w.grownBy w' v.ownBlock → (v'.ownBlock = v.ownBlock ∨ v'.ownBlock = some w.heap.size) → K (a.put o.dst v') w') :
    if Region.wanted o (yielded ops a.tmps) = true then Oper.wp P o a w K Q else E := by
  have hw : Region.wanted o (yielded ops a.tmps) = true := by simp [Region.wanted, hg]
  rw [if_pos hw]
  obtain ⟨v', w', hrun, r1, r2, _, r4⟩ := run_append_own_at (P := P) (w := w) base t o.type e i z size bytes ht hi hz hsize hby hzs hsz v n xs hown ad m c news hl hnews h1 h63 hbytes hbase
  subst hs
  unfold Oper.wp
  simp [execOp, hop, resolve, invoke, builtin, hx, hrun, Result.andThen]
  exact hK v' w' r1 r2 r4
/-- What grew by a row, or by none, grew by some block from B on. -/
theorem grow_any {w w' : World} {row : Option Nat} {B : Nat} (h : w.grownBy w' row) (hr : ∀ k, row = some k → B ≤ k) : ∃ g, B ≤ g ∧ w.grownBy w' (some g) := by
  cases row with
  | some k => exact ⟨k, hr k rfl, h⟩
  | none => exact ⟨B, Nat.le_refl _, ⟨h.os, h.tape, h.output, h.size, fun i hi _ => h.block i hi (by simp)⟩⟩
end Go.Proofs.YtollijngiioonabGreat

/- The program's way to one form: a Kid that is done is put into the home of the innermost term. Conditions: at most 549755813888 terms at work, and Kids in a row. -/
namespace Go.Proofs.YtollijngiioonabGreat
set_option maxRecDepth 100000
open Go.RowKit

/-- The zero element that was appended becomes the term. -/
theorem own_fill {w1 w2 : World} {B g c n : Nat} {row : Option Nat} {xs : List Value} {p q s : Value} (h : w2.ownsRow B 34 3 (.slice (some ⟨g, 0, none⟩) (n + 1) c) (n + 1) (xs ++ [.int .i64 0, .int .i64 0, .slice none 0 0])) (hl : xs.length = n * 3) (hg : w1.grownBy w2 row) (hat : some g = row ∨ w1.heap.size ≤ g) :
    (((w2.setCell ⟨g, n * 3, none⟩ p).setCell ⟨g, n * 3 + 1, none⟩ q).setCell ⟨g, n * 3 + 2, none⟩ s).ownsRow B 34 3 (.slice (some ⟨g, 0, none⟩) (n + 1) c) (n + 1) (xs ++ [p, q, s]) ∧ w1.grownBy (((w2.setCell ⟨g, n * 3, none⟩ p).setCell ⟨g, n * 3 + 1, none⟩ q).setCell ⟨g, n * 3 + 2, none⟩ s) row := by
  have h1 := (((h.stored (n * 3) p).1.stored (n * 3 + 1) q).1.stored (n * 3 + 2) s).1
  have e1 : (((xs ++ [Value.int .i64 0, Value.int .i64 0, Value.slice none 0 0]).set (n * 3) p).set (n * 3 + 1) q).set (n * 3 + 2) s = xs ++ [p, q, s] := by
    rw [List.set_append_right _ _ (by omega), List.set_append_right _ _ (by omega), List.set_append_right _ _ (by omega)]
    simp [hl]
  rw [e1] at h1
  refine ⟨h1, ⟨hg.os, hg.tape, hg.output, by simpa using hg.size, fun k hk hne => ?_⟩⟩
  have hkg : k ≠ g := fun e => hat.elim (fun q => hne (e ▸ q)) (fun q => by omega)
  rw [Below.heap_setCell _ _ _ _ hkg, Below.heap_setCell _ _ _ _ hkg, Below.heap_setCell _ _ _ _ hkg]
  exact hg.block k hk hne

/-- Stores into two blocks may be told in either order. -/
theorem set_comm (w : World) (a b i j : Nat) (u v : Value) (h : a ≠ b) : (w.setCell ⟨a, i, none⟩ u).setCell ⟨b, j, none⟩ v = (w.setCell ⟨b, j, none⟩ v).setCell ⟨a, i, none⟩ u := by
  rw [Sort.setCell_eq, Sort.setCell_eq, Sort.setCell_eq, Sort.setCell_eq]
  unfold Sort.mapBlock
  congr 1
  apply Array.ext
  · simp
  · intro k h1 h2
    simp only [Array.getElem_modify]
    split
    · split
      · omega
      · rfl
    · rfl
/-- What the append leaves: the new row, and the cell that is stored into behind it. -/
theorem put_facts {W X w5 : World} {B n g o : Nat} {row : Option Nat} {u v5 : Value} {xs : List Value} (hl : xs.length = n * 3) (hown : w5.ownsRow B 34 3 v5 (n + 1) (xs ++ [.int .i64 0, .int .i64 0, .slice none 0 0])) (hg : X.grownBy w5 row) (hat : v5.ownBlock = row ∨ v5.ownBlock = some X.heap.size) (hb : Below W.heap.size W X) (hgW : g < W.heap.size) (hc : W.cell? ⟨g, o, none⟩ = some u) (hf : W.frozen? ⟨g, o, none⟩ = false) (hne : row ≠ some g) :
    ∃ g5 c5, v5 = .slice (some ⟨g5, 0, none⟩) (n + 1) c5 ∧ (w5.cell? ⟨g5, n * 3, none⟩ = some (.int .i64 0) ∧ w5.cell? ⟨g5, n * 3 + 1, none⟩ = some (.int .i64 0) ∧ w5.cell? ⟨g5, n * 3 + 2, none⟩ = some (.slice none 0 0)) ∧ (w5.frozen? ⟨g5, n * 3, none⟩ = false ∧ w5.frozen? ⟨g5, n * 3 + 1, none⟩ = false ∧ w5.frozen? ⟨g5, n * 3 + 2, none⟩ = false) ∧ w5.cell? ⟨g, o, none⟩ = some u ∧ w5.frozen? ⟨g, o, none⟩ = false ∧ g5 ≠ g ∧ n + 1 ≤ c5 ∧ (some g5 = row ∨ X.heap.size ≤ g5) := by
  obtain ⟨g5, c5, rfl, hc5, _⟩ := own_slot hown
  have hgX : w5.heap[g]? = W.heap[g]? := (hg.block g (Nat.lt_of_lt_of_le hgW hb.size) (fun e => hne e.symm)).trans (hb.block g hgW)
  have hat' : some g5 = row ∨ X.heap.size ≤ g5 := hat.imp id (fun q => Nat.le_of_eq (by simpa [Value.ownBlock] using q.symm))
  refine ⟨g5, c5, rfl, ⟨(hown.cellAt _ (by omega)).trans ?_, (hown.cellAt _ (by omega)).trans ?_, (hown.cellAt _ (by omega)).trans ?_⟩, ⟨hown.frozenAt _, hown.frozenAt _, hown.frozenAt _⟩, (World.cell?_of_block (a := ⟨g, o, none⟩) hgX).trans hc, (World.frozen?_of_block (a := ⟨g, o, none⟩) hgX).trans hf, fun e => ?_, hc5, hat'⟩
  · rw [List.getElem?_append_right (by omega)]; simp [hl]
  · rw [List.getElem?_append_right (by omega)]; simp [hl]
  · rw [List.getElem?_append_right (by omega)]; simp [hl]
  · rcases hat' with q | q
    · exact hne (e ▸ q.symm)
    · have := hb.size; omega
theorem three_at {X : World} {n : Nat} {x y z : Value} (h0 : X.cell? ⟨n, 0, none⟩ = some x) (h1 : X.cell? ⟨n, 1, none⟩ = some y) (h2 : X.cell? ⟨n, 2, none⟩ = some z) : ∀ j v, [x, y, z][j]? = some v → X.cell? ((⟨n, 0, none⟩ : Addr).add j) = some v := by
  intro j v hj
  match j, hj with
  | 0, hj => simp at hj; subst hj; simpa [Addr.add] using h0
  | 1, hj => simp at hj; subst hj; simpa [Addr.add] using h1
  | 2, hj => simp at hj; subst hj; simpa [Addr.add] using h2
  | j + 3, hj => simp at hj

theorem put_fin {n0 B : Nat} {F : List FM} {g c g5 c5 : Nat} {e : FE} {w X w5 : World} (H : NSt n0 B F (.slice (some ⟨g, 0, none⟩) F.length c) w) (hb : Below w.heap.size w X) (hh : hasHome F) (he : OwnS w e.K e.a e.t.kids ∧ e.t.kids.length ≤ e.c ∧ (isW e.t.f ∧ isW e.t.v) ∧ ∀ k, e.K k → B ≤ k ∧ k < w.heap.size) (hd : ∀ x ∈ F, ∀ k, e.K k → ¬ x.S k) (hdg : ¬ e.K g)
    (hg : X.grownBy w5 (Value.slice (homeFr F).am (homeFr F).L.length (homeFr F).cm).ownBlock) (hown : w5.ownsRow B 34 3 (.slice (some ⟨g5, 0, none⟩) ((homeFr F).L.length + 1) c5) ((homeFr F).L.length + 1) (cs3 ((homeFr F).L.map FE.cells) ++ [.int .i64 0, .int .i64 0, .slice none 0 0])) (hat : some g5 = (Value.slice (homeFr F).am (homeFr F).L.length (homeFr F).cm).ownBlock ∨ X.heap.size ≤ g5) :
    NSt n0 B (putHome e (some ⟨g5, 0, none⟩) c5 F) (.slice (some ⟨g, 0, none⟩) F.length c) ((((w5.setCell ⟨g5, (homeFr F).L.length * 3, none⟩ (.int .i64 e.t.f)).setCell ⟨g5, (homeFr F).L.length * 3 + 1, none⟩ (.int .i64 e.t.v)).setCell ⟨g5, (homeFr F).L.length * 3 + 2, none⟩ (.slice e.a e.t.kids.length e.c)).setCell ⟨g, homeIx F * 6 + 4, none⟩ (.slice (some ⟨g5, 0, none⟩) ((homeFr F).L.length + 1) c5)) ∧
      Stay (fun k => k < B) w ((((w5.setCell ⟨g5, (homeFr F).L.length * 3, none⟩ (.int .i64 e.t.f)).setCell ⟨g5, (homeFr F).L.length * 3 + 1, none⟩ (.int .i64 e.t.v)).setCell ⟨g5, (homeFr F).L.length * 3 + 2, none⟩ (.slice e.a e.t.kids.length e.c)).setCell ⟨g, homeIx F * 6 + 4, none⟩ (.slice (some ⟨g5, 0, none⟩) ((homeFr F).L.length + 1) c5)) := by
  obtain ⟨h1, h2⟩ := own_fill (p := .int .i64 e.t.f) (q := .int .i64 e.t.v) (s := .slice e.a e.t.kids.length e.c) hown (by rw [cs3_len]; simp) hg hat
  have hgl := H.row.lt g rfl
  have HX := H.on hb
  refine ⟨HX.put hh ⟨he.1.frame (fun k hk => hb.block k (he.2.2.2 k hk).2) hb.size, he.2.1, he.2.2.1, fun k hk => ⟨(he.2.2.2 k hk).1, Nat.lt_of_lt_of_le (he.2.2.2 k hk).2 hb.size⟩⟩ hd hdg h2 h1 hat, ?_⟩
  refine ((Stay.of_below (S := fun k => k < B) hb (fun k hk _ => hk)).trans (.grown h2 (fun k q hk => by have := ((HX.fr _ (home_mem hh)).row.lt k q).1; omega))).trans (.setCell _ _ (fun q => by simp only at q; omega))

set_option maxHeartbeats 3200000 in
theorem put_any (n0 B : Nat) (F : List FM) (g c : Nat) (e : FE) (w : World) (H : NSt n0 B F (.slice (some ⟨g, 0, none⟩) F.length c) w) (hh : hasHome F) (hF : F.length ≤ 549755813888) (he : OwnS w e.K e.a e.t.kids ∧ e.t.kids.length ≤ e.c ∧ (isW e.t.f ∧ isW e.t.v) ∧ ∀ k, e.K k → B ≤ k ∧ k < w.heap.size) (hd : ∀ x ∈ F, ∀ k, e.K k → ¬ x.S k) (hdg : ¬ e.K g) (hL : (homeFr F).L.length ≤ 549755813888) :
    Calls Tryz.prog 53 #[.slice (some ⟨g, 0, none⟩) F.length c, .agg #[.int .i64 e.t.f, .int .i64 e.t.v, .slice e.a e.t.kids.length e.c]] w fun r w' => ∃ g2 c2, r = .returned (.tuple #[]) ∧ NSt n0 B (putHome e (some ⟨g2, 0, none⟩) c2 F) (.slice (some ⟨g, 0, none⟩) F.length c) w' ∧ Stay (fun k => k < B) w w' := by
  obtain ⟨i0, hi0, hz0, hz1, hz2⟩ := info_parts info29
  obtain ⟨x, r, rfl⟩ : ∃ x r, F = x :: r := by cases F with | nil => exact hh.elim | cons x r => exact ⟨x, r, rfl⟩
  simp only [List.length_cons] at *
  obtain ⟨_, _, _, _, _, q5⟩ := top_cells H
  have hgl := H.row.lt g rfl
  have hix := home_lt hh
  have hq4 : w.cell? ⟨g, homeIx (x :: r) * 6 + 4, none⟩ = some (.slice (homeFr (x :: r)).am (homeFr (x :: r)).L.length (homeFr (x :: r)).cm) := (H.row.cellAt _ (by simp only [List.length_cons] at hix; omega)).trans (home_cell hh)
  have fr4 : w.frozen? ⟨g, homeIx (x :: r) * 6 + 4, none⟩ = false := H.row.frozenAt _
  have hrow := (H.fr _ (home_mem hh)).row
  have hhg : (Value.slice (homeFr (x :: r)).am (homeFr (x :: r)).L.length (homeFr (x :: r)).cm).ownBlock ≠ some g := fun q => H.vb g rfl _ (home_mem hh) (.inl q)
  have HH : Hid _ := H
  clear H
  simp only [List.length_cons] at hix
  obtain ⟨ix, hixe⟩ : ∃ ix, ix = homeIx (x :: r) := ⟨_, rfl⟩
  obtain ⟨hf, hfe⟩ : ∃ hf, hf = homeFr (x :: r) := ⟨_, rfl⟩
  have HIX : Hid (ix = homeIx (x :: r)) := hixe
  have HFE : Hid (hf = homeFr (x :: r)) := hfe
  rw [← hixe] at hq4 fr4 hix q5
  rw [← hfe] at hq4 hL hrow hhg
  clear hixe hfe
  have hixz : (ix : Int) < (r.length : Int) + 1 := by omega
  have hgl2 := hgl.2
  go_enter Tryz.func53, Tryz.ntmps53
  obtain ⟨W, hW⟩ : ∃ W, W = w.alloc (.cells #[.int .i64 e.t.f, .int .i64 e.t.v, .slice e.a e.t.kids.length e.c] 34) := ⟨_, rfl⟩
  have hb0 : Below w.heap.size w W := by rw [hW]; exact (Below.refl _ _).alloc (Nat.le_refl _) _
  have p0 : W.cell? ⟨w.heap.size, 0, none⟩ = some (.int .i64 e.t.f) := by rw [hW]; simp [go_sem]
  have p1 : W.cell? ⟨w.heap.size, 1, none⟩ = some (.int .i64 e.t.v) := by rw [hW]; simp [go_sem]
  have p2 : W.cell? ⟨w.heap.size, 2, none⟩ = some (.slice e.a e.t.kids.length e.c) := by rw [hW]; simp [go_sem]
  have hWz : W.heap.size = w.heap.size + 1 := by rw [hW]; simp
  go_wp2
  rw [← hW]
  have c4 := keepC hb0 hq4
  have f4 : W.frozen? ⟨g, ix * 6 + 4, none⟩ = false := (hb0.frozen (p := ⟨g, ix * 6 + 4, none⟩) hgl2).trans fr4
  have hrW := own_on hrow hb0
  have hgW : g < W.heap.size := by omega
  clear hq4 fr4 hW
  have hxl : (cs3 (hf.L.map FE.cells)).length = hf.L.length * 3 := by rw [cs3_len]; simp
  have hLz : (hf.L.length : Int) < (hf.L.length : Int) + 1 := by omega
  go_region_law (refine step_append_own rfl (.tmp 17) (.tmp 20) 32 rfl B 34 i0 _ 3 40 Tryz.underlying32 hi0 hz0 hz1 hz2 rfl (by decide) (.slice hf.am hf.L.length hf.cm) hf.L.length (cs3 (hf.L.map FE.cells)) (by first | (simp [Act.eval]; done) | simp [Act.eval, Act.put]) (own_on hrW (by repeat (first | exact Below.refl _ _ | refine Below.drew ?_ | refine Below.alloc ?_ (by simp) _))) ⟨w.heap.size + 1, 0, none⟩ 1 1 [.int .i64 0, .int .i64 0, .slice none 0 0] (by first | (simp [Act.eval]; done) | simp [Act.eval, Act.put]) rfl (three_at (by simp [← hWz]) (by simp [← hWz]) (by simp [← hWz])) (three_cell _ _ _ _ _) (by unfold maxLen; omega) (by omega) (by simp; omega) ?_; intro v5 w5 hown5 hgrow5 hat5; have PF := put_facts hxl hown5 hgrow5 hat5 (by repeat (first | exact Below.refl _ _ | refine Below.drew ?_ | refine Below.alloc ?_ (by simp) _)) hgW c4 f4 hhg; obtain ⟨g5, c5, rfl, ⟨e0, e1, e2⟩, ⟨f0, f1, f2⟩, c4', f4', hg5, hc5, hat'⟩ := PF; have HO5 : Hid _ := hown5; have HG5 : Hid _ := hgrow5; clear hown5 hgrow5 hat5)
  all_goals
    have hO := HO5.out
    have hG := HG5.out
    rw [HFE.out] at hO hG hat'
    have FI := put_fin HH.out (hb0.trans (Below.mono (by repeat (first | exact Below.refl _ _ | refine Below.drew ?_ | refine Below.alloc ?_ (by simp) _)) hb0.size)) hh he hd hdg hG hO hat'
    rw [← HFE.out, ← HIX.out] at FI
    go_end0
    first
      | exact ⟨g5, c5, rfl, FI.1, FI.2⟩
      | (rw [set_comm _ g g5 _ _ _ _ hg5.symm, set_comm _ g g5 _ _ _ _ hg5.symm, set_comm _ g g5 _ _ _ _ hg5.symm]; exact ⟨g5, c5, rfl, FI.1, FI.2⟩)
end Go.Proofs.YtollijngiioonabGreat

/- One form of a term, as the program makes it. Conditions: terms of at most 549755813887 parts. -/
namespace Go.Proofs.YtollijngiioonabGreat
set_option maxRecDepth 100000
open Go.RowKit

/-- Parts of what is made. -/
def bulkP (l : List FD) : Nat := (l.map fun x => 1 + partsL x.left + partsL x.made).sum
theorem bulkP_add (A : List TermD) : ∀ l, bulkP (addHome A l) ≤ bulkP l + partsL A
  | [] => by simp [addHome, bulkP]
  | x :: r => by
    have ih := bulkP_add A r
    unfold bulkP at *
    rw [addHome]
    split
    · simp only [List.map_cons, List.sum_cons, partsL_append]; omega
    · simp only [List.map_cons, List.sum_cons]; omega
theorem bulkP_len (l : List FD) : l.length ≤ bulkP l := by
  induction l with
  | nil => simp
  | cons x r ih => unfold bulkP at *; simp only [List.length_cons, List.map_cons, List.sum_cons]; omega
theorem bulkP_cons (x : FD) (r : List FD) : bulkP (x :: r) = 1 + partsL x.left + partsL x.made + bulkP r := by simp [bulkP]
theorem todo_cons (x : FD) (r : List FD) : todo (x :: r) = 1 + 2 * partsL x.left + todo r := by simp [todo]
theorem bulkP_mem {x : FD} {l : List FD} (h : x ∈ l) : partsL x.left + partsL x.made < bulkP l := by
  induction l with
  | nil => simp at h
  | cons y r ih =>
    rw [bulkP_cons]
    rcases List.mem_cons.1 h with rfl | h
    · omega
    · have := ih h; omega
theorem sortT_parts (l : List TermD) : partsL (sortT l) = partsL l := by unfold sortT; rw [foldP_parts]; simp [partsL]
theorem close_parts (bl : Int → Bool) (f v : Int) (m : List TermD) : partsT (closeT bl f v m) = partsL m + 1 := by
  unfold closeT
  rw [partsT]
  split <;> simp [sortT_parts]

/-- A term that is closed. -/
theorem closed_any (sa : Option Addr) (ss : List SymD) (sc n0 B h : Nat) (x : FM) (w : World) (hs : RdS w sa ss) (M : MR n0 B x w) (hp : partsL (x.L.map FE.t) ≤ 549755813888) :
    Calls Tryz.prog 52 #[.agg #[.int .i64 x.t.f, .int .i64 x.t.v, .slice x.a x.t.kids.length x.c, .slice x.al x.left.length x.cl, .slice x.am x.L.length x.cm, .int .i64 h], .slice sa ss.length sc] w fun e w' => ∃ T : TermD, T = closeT (blindAt ss) x.t.f x.t.v (x.L.map FE.t) ∧ e = .returned (.agg #[.int .i64 T.f, .int .i64 T.v, .slice x.am T.kids.length T.kids.length]) ∧ OwnS w' x.S x.am T.kids ∧ Stay (fun k => k < w.heap.size ∧ ¬ x.S k) w w' := by
  have hl : x.L.length ≤ 549755813888 := by have := partsL_len (x.L.map FE.t); simp at this; omega
  have hpe : ∀ e ∈ x.L, partsT e.t ≤ 549755813888 := fun e he => by have := parts_kid (List.mem_map_of_mem (f := FE.t) he); omega
  cases hbl : blindAt ss x.t.f with
  | false =>
    refine (closed_plain sa ss sc n0 B h x w hs M hl hbl).mono ?_
    rintro e w' ⟨rfl, ho, hst⟩
    have hT : closeT (blindAt ss) x.t.f x.t.v (x.L.map FE.t) = .mk x.t.f x.t.v (x.L.map FE.t) := by unfold closeT; rw [if_neg (by rw [hbl]; simp)]
    refine ⟨_, hT.symm, ?_, ho, hst⟩
    show _ = Ending.returned (Value.agg #[.int .i64 x.t.f, .int .i64 x.t.v, .slice x.am (x.L.map FE.t).length (x.L.map FE.t).length])
    rw [List.length_map]
  | true =>
    have hlen : (sortT (x.L.map FE.t)).length = x.L.length := by have := (sortT_perm (x.L.map FE.t)).length_eq; simpa using this
    refine (closed_blind sa ss sc n0 B h x w hs M hl hpe hbl).mono ?_
    rintro e w' ⟨rfl, ho, hst⟩
    have hT : closeT (blindAt ss) x.t.f x.t.v (x.L.map FE.t) = .mk x.t.f x.t.v (sortT (x.L.map FE.t)) := by unfold closeT; rw [if_pos hbl]
    refine ⟨_, hT.symm, ?_, ho, hst⟩
    show _ = Ending.returned (Value.agg #[.int .i64 x.t.f, .int .i64 x.t.v, .slice x.am (sortT (x.L.map FE.t)).length (sortT (x.L.map FE.t)).length])
    rw [hlen]
theorem NSt.keep {n0 B : Nat} {F : List FM} {v : Value} {wr wr' : World} {S : Nat → Prop} (h : NSt n0 B F v wr) (hs : Stay S wr wr') (hn : ∀ k, k < n0 → S k) (hx : ∀ x ∈ F, ∀ k, x.S k → S k) (hv : ∀ g, v.ownBlock = some g → S g) : NSt n0 B F v wr' :=
  ⟨own_stay h.row hs hv, h.frames hs hn hx, h.dis, h.vb, Nat.le_trans h.z hs.size, h.n⟩

/-- The call's own boxes: the answer's place. -/
structure NB (w wr : World) : Prop where
  be : Below w.heap.size w wr
  c0 : wr.cell? ⟨w.heap.size + 1, 0, none⟩ = some (.int .i64 0)
  c1 : wr.cell? ⟨w.heap.size + 1, 1, none⟩ = some (.int .i64 0)
  c2 : wr.cell? ⟨w.heap.size + 1, 2, none⟩ = some (.slice none 0 0)
  cf : ∀ j, wr.frozen? ⟨w.heap.size + 1, j, none⟩ = false
  z : w.heap.size + 1 + 1 ≤ wr.heap.size
theorem NB.stay {w wr wr' : World} (h : NB w wr) (hs : Stay (fun k => k < w.heap.size + 1 + 1) wr wr') : NB w wr' := by
  have hz := h.z
  exact ⟨h.be.trans (hs.below h.be.size (fun k hk => by omega)), hs.cell h.c0 (by simp only; omega), hs.cell h.c1 (by simp only; omega), hs.cell h.c2 (by simp only; omega), fun j => (hs.frozen (p := ⟨w.heap.size + 1, j, none⟩) (by simp only; omega) (by simp only; omega)).trans (h.cf j), Nat.le_trans hz hs.size⟩
theorem NB.on {w wr wr' : World} (h : NB w wr) (hb : Below wr.heap.size wr wr') : NB w wr' := h.stay (.of_below hb (fun _ hk _ => hk))

/-- The outermost one is its own home. -/
def botH : List FM → Prop
  | [] => False
  | x :: r => (r = [] ∧ x.hm = true) ∨ botH r
theorem botH_has : ∀ {F : List FM}, botH F → hasHome F
  | [], h => h
  | _ :: _, h => h.elim (fun q => .inl q.2) (fun q => .inr (botH_has q))
theorem botH_rest {x : FM} {r : List FM} (h : botH (x :: r)) (hr : r ≠ []) : botH r := h.resolve_left (fun q => hr q.1)
theorem botH_put (e : FE) (am : Option Addr) (cm : Nat) : ∀ {F : List FM}, botH F → botH (putHome e am cm F)
  | [], h => h
  | x :: r, h => by
    unfold putHome
    split
    · rename_i hx; exact h.imp (fun q => ⟨q.1, hx⟩) id
    · rename_i hx
      refine .inr (botH_put e am cm (h.resolve_left (fun q => hx q.2)))

/-- What holds between two rounds. -/
structure NI (w : World) (bl : Int → Bool) (t : TermD) (N m : Nat) (F : List FM) (g cv : Nat) (wr : World) : Prop where
  st : NSt w.heap.size (w.heap.size + 1 + 1) F (.slice (some ⟨g, 0, none⟩) F.length cv) wr
  hh : botH F
  md : todo (F.map FM.d) ≤ m
  bk : bulkP (F.map FM.d) ≤ N
  fin : finS bl (F.map FM.d) = normT bl t
  nb : NB w wr
namespace NI
variable {w : World} {bl : Int → Bool} {t : TermD} {N m g cv : Nat} {x : FM} {r : List FM} {wr wr' : World}
theorem drop (h : NI w bl t N m (x :: r) g cv wr) (hl : x.left = []) (hx : x.hm = false) (hb : Below wr.heap.size wr wr') : NI w bl t N (m - 1) r g cv wr' ∧ 1 ≤ m := by
  have h1 := h.md
  have h2 := h.bk
  have h3 := h.fin
  rw [List.map_cons] at h1 h2 h3
  rw [todo_cons] at h1
  rw [bulkP_cons] at h2
  rw [fin_drop (show x.d.left = [] from hl) (show x.d.home = false from hx)] at h3
  exact ⟨⟨h.st.pop.on hb, h.hh.resolve_left (fun q => by rw [hx] at q; simp at q), by omega, by omega, h3, h.nb.on hb⟩, by omega⟩
theorem opn {k : TermD} {ks : List TermD} {ak al : Option Addr} {ck cl g' cv' : Nat} (h : NI w bl t N m (x :: r) g cv wr) (hl : x.left = k :: ks) (hst : NSt w.heap.size (w.heap.size + 1 + 1) (Go.Proofs.YtollijngiioonabGreat.opn k ak ck (isHome bl k ({ x with left := ks, al := al, cl := cl } :: r)) :: { x with left := ks, al := al, cl := cl } :: r) (.slice (some ⟨g', 0, none⟩) (r.length + 1 + 1) cv') wr') (hn : NB w wr') :
    NI w bl t N (m - 1) (Go.Proofs.YtollijngiioonabGreat.opn k ak ck (isHome bl k ({ x with left := ks, al := al, cl := cl } :: r)) :: { x with left := ks, al := al, cl := cl } :: r) g' cv' wr' ∧ 1 ≤ m := by
  have h1 := h.md
  have h2 := h.bk
  have h3 := h.fin
  rw [List.map_cons] at h1 h2 h3
  rw [todo_cons] at h1
  rw [bulkP_cons] at h2
  have hk := partsT_eq k
  have e1 : x.d.left = k :: ks := hl
  rw [e1, partsL] at h1 h2
  refine ⟨⟨hst, ?_, ?_, ?_, ?_, hn⟩, by omega⟩
  · exact .inr (h.hh.imp (fun q => ⟨q.1, q.2⟩) id)
  · rw [List.map_cons, List.map_cons, todo_cons, todo_cons]
    show 1 + 2 * partsL k.kids + (1 + 2 * partsL ks + _) ≤ _
    omega
  · rw [List.map_cons, List.map_cons, bulkP_cons, bulkP_cons]
    show 1 + partsL k.kids + 0 + (1 + partsL ks + partsL (x.L.map FE.t) + _) ≤ _
    have : x.d.made = x.L.map FE.t := rfl
    rw [this] at h2
    omega
  · rw [← h3, ← fin_open (x := x.d) (r := r.map FM.d) (m := []) hl rfl]
    rfl
theorem close {T : TermD} {e : FE} {am : Option Addr} {cm : Nat} (h : NI w bl t N m (x :: r) g cv wr) (hl : x.left = []) (hx : x.hm = true) (hr : r ≠ []) (hT : T = closeT bl x.t.f x.t.v (x.L.map FE.t)) (he : e.t = T) (hst : NSt w.heap.size (w.heap.size + 1 + 1) (putHome e am cm r) (.slice (some ⟨g, 0, none⟩) r.length cv) wr') (hn : NB w wr') :
    NI w bl t N (m - 1) (putHome e am cm r) g cv wr' ∧ 1 ≤ m := by
  have h1 := h.md
  have h2 := h.bk
  have h3 := h.fin
  rw [List.map_cons] at h1 h2 h3
  rw [todo_cons] at h1
  rw [bulkP_cons] at h2
  rw [fin_close (show x.d.left = [] from hl) (show x.d.home = true from hx) (by simpa using hr)] at h3
  have e1 : closeT bl x.d.f x.d.v x.d.made = e.t := by rw [he, hT]; rfl
  rw [e1] at h3
  have hp := close_parts bl x.t.f x.t.v (x.L.map FE.t)
  rw [← hT, ← he] at hp
  have hb := bulkP_add [e.t] (r.map FM.d)
  have ht := todo_add [e.t] (r.map FM.d)
  have e2 : x.d.made = x.L.map FE.t := rfl
  rw [e2] at h2
  simp only [partsL] at hb
  exact ⟨⟨by rw [putHome_len]; exact hst, botH_put _ _ _ (botH_rest h.hh hr), by rw [putHome_d]; omega, by rw [putHome_d]; omega, by rw [putHome_d]; exact h3, hn⟩, by omega⟩
theorem len (h : NI w bl t N m (x :: r) g cv wr) : r.length < N := by
  have := bulkP_len ((x :: r).map FM.d)
  have := h.bk
  simp at *
  omega
theorem made (h : NI w bl t N m (x :: r) g cv wr) : ∀ y ∈ x :: r, partsL (y.L.map FE.t) < N := fun y hy => by
  have h1 := bulkP_mem (List.mem_map_of_mem (f := FM.d) hy)
  have h2 := h.bk
  have e2 : y.d.made = y.L.map FE.t := rfl
  rw [e2] at h1
  omega
theorem lefts (h : NI w bl t N m (x :: r) g cv wr) : x.left.length < N := by
  have h1 := bulkP_mem (List.mem_map_of_mem (f := FM.d) (List.mem_cons_self (a := x) (l := r)))
  have h2 := h.bk
  have h3 := partsL_len x.left
  have e2 : x.d.left = x.left := rfl
  rw [e2] at h1
  omega
end NI
end Go.Proofs.YtollijngiioonabGreat

