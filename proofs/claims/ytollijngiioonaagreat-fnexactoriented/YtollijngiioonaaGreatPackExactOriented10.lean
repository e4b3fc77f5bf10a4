/- What the proof of FnExactOriented stands on, part 10 of 13: each piece says what it proves and under which conditions. Conditions: as each piece says. -/
import Derived.Test.YtollijngiioonaaGreatPackExactOriented9
import Derived.Deep.RegionHeld3
import Derived.Maps.Own
import Derived.Maps.OwnOps
import Derived.Maps.OwnSet
import Derived.Maps.RangeWalk
import Derived.Laws.AppendOwn
import Derived.StringKeys
import Derived.Test.YtollijngiioonaaGreatProg
import Derived.Deep.DeepMust
/- Whether a blind function's Kids stand right, as the program tells it. Conditions: at most 549755813888 parts. -/
namespace Go.Proofs.YtollijngiioonaaGreat
set_option maxRecDepth 100000
open Go.RowKit

/-- The Kids of a blind function: none of that function, none before the one ahead of it. -/
def bkL (f : Int) : Option TermD → List TermD → Bool
  | _, [] => true
  | p, k :: ks => !(k.f == f || befO k p) && bkL f (some k) ks
def bkOk (f : Int) (ks : List TermD) : Bool := decide (2 ≤ ks.length) && bkL f none ks

set_option maxHeartbeats 3200000 in
theorem blindKidsOk_any (f : Int) (ks : List TermD) (a : Option Addr) (c hi : Nat) (w : World) (hp : partsL ks ≤ 549755813888) (hr : RdK w hi a ks) (hhi : hi ≤ w.heap.size) :
    Calls Tryz.prog 113 #[.int .i64 f, .slice a ks.length c] w fun e w' => e = .returned (.bool (bkOk f ks)) ∧ Below w.heap.size w w' := by
  have hlen := partsL_len ks
  by_cases h2 : ks.length < 2
  · have HB : Hid (bkOk f ks = false) := by show _ = _; unfold bkOk; rw [decide_eq_false (by omega)]; rfl
    go_enter Tryz.func113, Tryz.ntmps113
    go_wp2
    go_ret
    exact ⟨rtB HB.out.symm, Below.refl _ _⟩
  · have HB : Hid (bkOk f ks = bkL f none ks) := by show _ = _; unfold bkOk; rw [decide_eq_true (by omega)]; rfl
    go_enter Tryz.func113, Tryz.ntmps113
    have HR : Hid (RdK w hi a ks) := hr
    clear hr
    go_wp2
    go_loopw [12] (fun i wr => ∃ k : Nat, k ≤ ks.length ∧ i = .int .i64 k ∧ Hid (bkL f none ks = bkL f (if k = 0 then none else ks[k-1]?) (ks.drop k)) ∧ Below w.heap.size w wr) (fun i _ => ks.length - (intOf i).toNat)
    case atStart => exact ⟨0, Nat.zero_le _, rfl, by show _ = _; simp, Below.refl _ _⟩
    case round =>
      obtain ⟨k, hk, rfl, HK, hb⟩ := hrel
      by_cases hk' : k < ks.length
      · obtain ⟨b, off, a', c', rfl, hlt, d0, d1, d2, hle, hkr⟩ := RdK.kidc (HR.out.on (hb.mono hhi)) hk'
        have hki : (k : Int) < (ks.length : Int) := by omega
        have hpg := partsL_get hk'
        have HD : Hid (ks.drop k = ks[k] :: ks.drop (k + 1)) := List.drop_eq_getElem_cons hk'
        by_cases hf : ks[k].f = f
        · have HB2 : Hid (bkOk f ks = false) := by show _ = _; rw [HB.out, HK.out, HD.out, bkL]; simp [hf]
          have hfe : (ks[k].f == f) = true := by simp [hf]
          clear HK HB HD hf hkr
          go_wp2_with fail
          obtain ⟨W1, hW1⟩ : ∃ W1, W1 = wr.alloc (.cells #[.int .i64 ks[k].f, .int .i64 ks[k].v, .slice a' ks[k].kids.length c'] 27) := ⟨_, rfl⟩
          have hb1 : Below w.heap.size w W1 := by rw [hW1]; exact hb.alloc hb.size _
          have x0 : W1.cell? ⟨wr.heap.size, 0, none⟩ = some (.int .i64 ks[k].f) := by rw [hW1]; simp [go_sem]
          have x1 : W1.cell? ⟨wr.heap.size, 1, none⟩ = some (.int .i64 ks[k].v) := by rw [hW1]; simp [go_sem]
          have x2 : W1.cell? ⟨wr.heap.size, 2, none⟩ = some (.slice a' ks[k].kids.length c') := by rw [hW1]; simp [go_sem]
          rw [← hW1]
          clear hW1
          go_quiet ((fail))
          go_wp2_with fail
          go_ret
          exact ⟨rtB HB2.out.symm, below_drewN hb1 _⟩
        · have hfe : (ks[k].f == f) = false := by simp [hf]
          by_cases hk0 : k = 0
          · have HN : Hid (bkL f none ks = bkL f (some ks[k]) (ks.drop (k + 1))) := by show _ = _; rw [HK.out, HD.out, bkL, if_pos hk0, hfe]; rfl
            have hkn : decide ((0 : Int) < (k : Int)) = false := by simp; omega
            have hkn2 : decide (0 < k) = false := by simp; omega
            clear HK HD hf hkr hk0
            go_wp2_with fail
            obtain ⟨W1, hW1⟩ : ∃ W1, W1 = wr.alloc (.cells #[.int .i64 ks[k].f, .int .i64 ks[k].v, .slice a' ks[k].kids.length c'] 27) := ⟨_, rfl⟩
            have hb1 : Below w.heap.size w W1 := by rw [hW1]; exact hb.alloc hb.size _
            have x0 : W1.cell? ⟨wr.heap.size, 0, none⟩ = some (.int .i64 ks[k].f) := by rw [hW1]; simp [go_sem]
            have x1 : W1.cell? ⟨wr.heap.size, 1, none⟩ = some (.int .i64 ks[k].v) := by rw [hW1]; simp [go_sem]
            have x2 : W1.cell? ⟨wr.heap.size, 2, none⟩ = some (.slice a' ks[k].kids.length c') := by rw [hW1]; simp [go_sem]
            rw [← hW1]
            clear hW1
            go_quiet ((fail))
            go_wp2_with fail
            go_roundw
            case rel => exact ⟨k + 1, by omega, by go_num, by show _ = _; rw [HN.out, if_neg (by omega), show k + 1 - 1 = k by omega, List.getElem?_eq_getElem hk'], below_drewN hb1 _⟩
            case measure => simp [intOf]; omega
          · obtain ⟨j, rfl⟩ : ∃ j, k = j + 1 := ⟨k - 1, by omega⟩
            have hj : j < ks.length := by omega
            obtain ⟨b2, off2, a2, c2, e2, hlt2, g0, g1, g2, hle2, hkr2⟩ := RdK.kidc (HR.out.on (hb.mono hhi)) hj
            cases e2
            have hkn : (0 : Int) < ((j + 1 : Nat) : Int) := by omega
            have hj0 : (0 : Int) ≤ (j : Int) := by omega
            have hj1 : (j : Int) < (ks.length : Int) := by omega
            have hj2 : (ks.length : Int) ≤ 549755813888 := by omega
            have hsub : IntKind.i64.wrap (((j + 1 : Nat) : Int) - 1) = (j : Int) := by rw [IntKind.wrap_i64]; omega
            have hsub2 : IntKind.i64.wrap ((j : Int) + 1 - 1) = (j : Int) := by rw [IntKind.wrap_i64]; omega
            have hsub3 : IntKind.i64.wrap (j : Int) = (j : Int) := by rw [IntKind.wrap_i64]; omega
            cases hbf : befT ks[j + 1] ks[j] with
            | true =>
              have HB2 : Hid (bkOk f ks = false) := by show _ = _; rw [HB.out, HK.out, HD.out, bkL, if_neg hk0, show j + 1 - 1 = j by omega, List.getElem?_eq_getElem hj]; simp [befO, hbf]
              have CC : ∀ W1, Below wr.heap.size wr W1 → ∀ W', Below W1.heap.size W1 W' → Calls Tryz.prog 52 #[.agg #[.int .i64 ks[j + 1].f, .int .i64 ks[j + 1].v, .slice a' ks[j + 1].kids.length c'], .agg #[.int .i64 ks[j].f, .int .i64 ks[j].v, .slice a2 ks[j].kids.length c2]] W' fun e w' => e = .returned (.bool true) ∧ Below W'.heap.size W' w' := fun W1 h1 W' h2 => by
                have hh : Below wr.heap.size wr W' := h1.trans (h2.mono h1.size)
                have hiw : hi ≤ wr.heap.size := Nat.le_trans hhi hb.size
                have := impBef_any (partsT ks[j + 1]) ks[j + 1] ks[j] a' a2 c' c2 hi W' (Nat.le_refl _) (by omega) (hkr.on (hh.mono hiw)) (hkr2.on (hh.mono hiw)) (Nat.le_trans hiw hh.size) hle hle2
                rwa [hbf] at this
              clear HK HD hf hk0 hbf
              go_wp2_with fail
              obtain ⟨W1, hW1⟩ : ∃ W1, W1 = wr.alloc (.cells #[.int .i64 ks[j + 1].f, .int .i64 ks[j + 1].v, .slice a' ks[j + 1].kids.length c'] 27) := ⟨_, rfl⟩
              have hb1 : Below w.heap.size w W1 := by rw [hW1]; exact hb.alloc hb.size _
              have hb01 : Below wr.heap.size wr W1 := by rw [hW1]; exact (Below.refl _ _).alloc (Nat.le_refl _) _
              have x0 : W1.cell? ⟨wr.heap.size, 0, none⟩ = some (.int .i64 ks[j + 1].f) := by rw [hW1]; simp [go_sem]
              have x1 : W1.cell? ⟨wr.heap.size, 1, none⟩ = some (.int .i64 ks[j + 1].v) := by rw [hW1]; simp [go_sem]
              have x2 : W1.cell? ⟨wr.heap.size, 2, none⟩ = some (.slice a' ks[j + 1].kids.length c') := by rw [hW1]; simp [go_sem]
              have y0 := keepC hb01 g0
              have y1 := keepC hb01 g1
              have y2 := keepC hb01 g2
              rw [← hW1]
              have C := CC W1 hb01
              clear hW1 CC g0 g1 g2 d0 d1 d2
              go_region_held3 (fun w' => w'.cell? ⟨wr.heap.size, 0, none⟩ = some (.int .i64 ks[j + 1].f) ∧ w'.cell? ⟨wr.heap.size, 1, none⟩ = some (.int .i64 ks[j + 1].v) ∧ w'.cell? ⟨wr.heap.size, 2, none⟩ = some (.slice a' ks[j + 1].kids.length c') ∧ w'.cell? ⟨b, off + j * 3, none⟩ = some (.int .i64 ks[j].f) ∧ w'.cell? ⟨b, off + j * 3 + 1, none⟩ = some (.int .i64 ks[j].v) ∧ w'.cell? ⟨b, off + j * 3 + 2, none⟩ = some (.slice a2 ks[j].kids.length c2)) (first | go_keep | exact ⟨x0, x1, x2, y0, y1, y2⟩)
                ((go_at_call 52; refine (C _ ?_).mono ?_; exact (Below.refl _ _).drew; rintro e w2 ⟨rfl, hb0⟩; have hb2 : Below W1.heap.size W1 w2 := (Below.refl _ _).drew.trans hb0; have hB2 : Below w.heap.size w w2 := hb1.trans (hb2.mono hb1.size); have z0 := keepC hb2 x0; have z1 := keepC hb2 x1; have z2 := keepC hb2 x2; have u0 := keepC hb2 y0; have u1 := keepC hb2 y1; have u2 := keepC hb2 y2; clear x0 x1 x2 y0 y1 y2 C hb0 hb2))
              go_wp2_with fail
              go_ret
              exact ⟨rtB HB2.out.symm, hB2⟩
            | false =>
              have HN : Hid (bkL f none ks = bkL f (some ks[j + 1]) (ks.drop (j + 1 + 1))) := by show _ = _; rw [HK.out, HD.out, bkL, if_neg hk0, show j + 1 - 1 = j by omega, List.getElem?_eq_getElem hj]; simp [befO, hbf, hfe]
              have CC : ∀ W1, Below wr.heap.size wr W1 → ∀ W', Below W1.heap.size W1 W' → Calls Tryz.prog 52 #[.agg #[.int .i64 ks[j + 1].f, .int .i64 ks[j + 1].v, .slice a' ks[j + 1].kids.length c'], .agg #[.int .i64 ks[j].f, .int .i64 ks[j].v, .slice a2 ks[j].kids.length c2]] W' fun e w' => e = .returned (.bool false) ∧ Below W'.heap.size W' w' := fun W1 h1 W' h2 => by
                have hh : Below wr.heap.size wr W' := h1.trans (h2.mono h1.size)
                have hiw : hi ≤ wr.heap.size := Nat.le_trans hhi hb.size
                have := impBef_any (partsT ks[j + 1]) ks[j + 1] ks[j] a' a2 c' c2 hi W' (Nat.le_refl _) (by omega) (hkr.on (hh.mono hiw)) (hkr2.on (hh.mono hiw)) (Nat.le_trans hiw hh.size) hle hle2
                rwa [hbf] at this
              clear HK HD hf hk0 hbf
              go_wp2_with fail
              obtain ⟨W1, hW1⟩ : ∃ W1, W1 = wr.alloc (.cells #[.int .i64 ks[j + 1].f, .int .i64 ks[j + 1].v, .slice a' ks[j + 1].kids.length c'] 27) := ⟨_, rfl⟩
              have hb1 : Below w.heap.size w W1 := by rw [hW1]; exact hb.alloc hb.size _
              have hb01 : Below wr.heap.size wr W1 := by rw [hW1]; exact (Below.refl _ _).alloc (Nat.le_refl _) _
              have x0 : W1.cell? ⟨wr.heap.size, 0, none⟩ = some (.int .i64 ks[j + 1].f) := by rw [hW1]; simp [go_sem]
              have x1 : W1.cell? ⟨wr.heap.size, 1, none⟩ = some (.int .i64 ks[j + 1].v) := by rw [hW1]; simp [go_sem]
              have x2 : W1.cell? ⟨wr.heap.size, 2, none⟩ = some (.slice a' ks[j + 1].kids.length c') := by rw [hW1]; simp [go_sem]
              have y0 := keepC hb01 g0
              have y1 := keepC hb01 g1
              have y2 := keepC hb01 g2
              rw [← hW1]
              have C := CC W1 hb01
              clear hW1 CC g0 g1 g2 d0 d1 d2
              go_region_held3 (fun w' => w'.cell? ⟨wr.heap.size, 0, none⟩ = some (.int .i64 ks[j + 1].f) ∧ w'.cell? ⟨wr.heap.size, 1, none⟩ = some (.int .i64 ks[j + 1].v) ∧ w'.cell? ⟨wr.heap.size, 2, none⟩ = some (.slice a' ks[j + 1].kids.length c') ∧ w'.cell? ⟨b, off + j * 3, none⟩ = some (.int .i64 ks[j].f) ∧ w'.cell? ⟨b, off + j * 3 + 1, none⟩ = some (.int .i64 ks[j].v) ∧ w'.cell? ⟨b, off + j * 3 + 2, none⟩ = some (.slice a2 ks[j].kids.length c2)) (first | go_keep | exact ⟨x0, x1, x2, y0, y1, y2⟩)
                ((go_at_call 52; refine (C _ ?_).mono ?_; exact (Below.refl _ _).drew; rintro e w2 ⟨rfl, hb0⟩; have hb2 : Below W1.heap.size W1 w2 := (Below.refl _ _).drew.trans hb0; have hB2 : Below w.heap.size w w2 := hb1.trans (hb2.mono hb1.size); have z0 := keepC hb2 x0; have z1 := keepC hb2 x1; have z2 := keepC hb2 x2; have u0 := keepC hb2 y0; have u1 := keepC hb2 y1; have u2 := keepC hb2 y2; clear x0 x1 x2 y0 y1 y2 C hb0 hb2))
              go_wp2_with fail
              go_roundw
              case rel => exact ⟨j + 1 + 1, by omega, by go_num, by show _ = _; rw [HN.out, if_neg (by omega), show j + 1 + 1 - 1 = j + 1 by omega, List.getElem?_eq_getElem hk'], hB2⟩
              case measure => simp [intOf]; omega
      · have HE : Hid (bkOk f ks = true) := by
          show _ = _
          rw [HB.out, HK.out, List.drop_eq_nil_of_le (by omega), bkL]
        clear HK HB
        go_wp2_with fail
        go_ret
        exact ⟨rtB HE.out.symm, hb⟩
end Go.Proofs.YtollijngiioonaaGreat

/- Whether one part of a term is right, and whether all are, as data and as the program tells it. Conditions: terms of at most 549755813888 parts. -/
namespace Go.Proofs.YtollijngiioonaaGreat
set_option maxRecDepth 100000
open Go.RowKit

/-- Right, what is within the Kids left away. -/
def pOk (ss : List SymD) (t : TermD) : Bool :=
  if t.f = -1 then decide (0 ≤ t.v ∧ t.v ≤ 99) && t.kids.isEmpty
  else decide (0 ≤ t.f ∧ t.f < ss.length) && t.v == 0 && (if blindAt ss t.f then bkOk t.f t.kids else (t.kids.length : Int) == arityAt ss t.f)
theorem pOk_mk (ss : List SymD) (f v : Int) (ks : List TermD) : pOk ss (.mk f v ks) = if f = -1 then decide (0 ≤ v ∧ v ≤ 99) && ks.isEmpty
  else decide (0 ≤ f ∧ f < ss.length) && v == 0 && (if blindAt ss f then bkOk f ks else (ks.length : Int) == arityAt ss f) := rfl
theorem rightL_parts (ss : List SymD) (f : Int) : ∀ (ks : List TermD) (p : Option TermD), rightL ss f p ks = ((if blindAt ss f then bkL f p ks else true) && ks.all (rightT ss))
  | [], p => by simp [rightL, bkL]
  | k :: ks, p => by
    rw [rightL, rightL_parts ss f ks (some k), List.all_cons]
    cases hb : blindAt ss f
    · simp
    · simp only [Bool.true_and, if_true, bkL]
      cases rightT ss k <;> cases bkL f (some k) ks <;> cases (k.f == f || befO k p) <;> simp
mutual
theorem right_pre (ss : List SymD) : ∀ t : TermD, rightT ss t = (preT t).all (pOk ss)
  | .mk f v ks => by
    have h := right_preL ss ks
    rw [rightT, preT, List.all_cons, ← h, rightL_parts, pOk_mk]
    by_cases hf : f = -1
    · rw [if_pos hf, if_pos hf]
      cases ks with
      | nil => simp
      | cons k ks => simp
    · rw [if_neg hf, if_neg hf]
      cases hb : blindAt ss f
      · simp
      · simp only [if_true, bkOk]
        cases decide (0 ≤ f ∧ f < ss.length) <;> cases v == 0 <;> cases decide (2 ≤ ks.length) <;> cases bkL f none ks <;> simp
theorem right_preL (ss : List SymD) : ∀ ts : List TermD, ts.all (rightT ss) = (preL ts).all (pOk ss)
  | [] => by simp [preL]
  | t :: ts => by rw [List.all_cons, preL, List.all_append, right_pre ss t, right_preL ss ts]
end
theorem rtBB {a b : Bool} (h : a = b) : Ending.returned (.bool a) = .returned (.bool b) := by rw [h]

set_option maxHeartbeats 3200000 in
theorem partOk_any (sa : Option Addr) (ss : List SymD) (sc : Nat) (t : TermD) (a : Option Addr) (c hi : Nat) (w : World) (hs : RdS w sa ss) (hp : partsL t.kids ≤ 549755813888) (hr : RdK w hi a t.kids) (hhi : hi ≤ w.heap.size) :
    Calls Tryz.prog 66 #[.slice sa ss.length sc, .agg #[.int .i64 t.f, .int .i64 t.v, .slice a t.kids.length c]] w fun e w' => e = .returned (.bool (pOk ss t)) ∧ Below w.heap.size w w' := by
  obtain ⟨W, hW⟩ : ∃ W, W = w.alloc (.cells #[.int .i64 t.f, .int .i64 t.v, .slice a t.kids.length c] 27) := ⟨_, rfl⟩
  have hB : Below w.heap.size w W := by rw [hW]; exact (Below.refl _ _).alloc (Nat.le_refl _) _
  have P0 : W.cell? ⟨w.heap.size, 0, none⟩ = some (.int .i64 t.f) ∧ W.cell? ⟨w.heap.size, 1, none⟩ = some (.int .i64 t.v) ∧ W.cell? ⟨w.heap.size, 2, none⟩ = some (.slice a t.kids.length c) := by rw [hW]; simp [go_sem]
  have CV := variableOf_any t a t.kids.length c W
  have hlen := partsL_len t.kids
  by_cases hf : t.f = -1
  · have HP : Hid (pOk ss t = (decide (0 ≤ t.v) && decide (t.v ≤ 99) && decide (t.kids.length = 0))) := by
      show _ = _
      unfold pOk
      rw [if_pos hf]
      cases t.kids <;> by_cases h1 : 0 ≤ t.v <;> by_cases h2 : t.v ≤ 99 <;> simp [h1, h2]
    rw [show vofI t = t.v by simp [vofI, hf], show vofB t = true by simp [vofB, hf]] at CV
    clear hf hs hr hp
    generalize t.kids.length = m at *
    go_enter Tryz.func66, Tryz.ntmps66
    go_wp2_with (go_at_call 99; rw [← hW]; refine CV.mono ?_; rintro e w2 ⟨rfl, hb2⟩; obtain ⟨p0, p1, p2⟩ := P0; have q0 := keepC hb2 p0; have q1 := keepC hb2 p1; have q2 := keepC hb2 p2; have hB2 : Below w.heap.size w w2 := hB.trans (hb2.mono hB.size); clear CV hW p0 p1 p2 hb2 hB)
    all_goals
      go_ret
      refine ⟨rtB ?_, hB2⟩
      rw [HP.out]
      first
        | (simp; omega)
        | (simp; intros; omega)
        | (by_cases hm : m = 0 <;> simp [*] <;> omega)
        | (by_cases hm : m = 0 <;> simp [*])
  · rw [show vofI t = 0 by simp [vofI, hf], show vofB t = false by simp [vofB, hf]] at CV
    have IS := fun w => isSym_any sa ss.length sc t.f w
    have IB := fun w (h : Below W.heap.size W w) => impBlind_any sa ss ss.length sc t.f w rfl ((hs.below hB).below h)
    have IA := fun w (h : Below W.heap.size W w) => impArity_any sa ss ss.length sc t.f w rfl ((hs.below hB).below h)
    have IK := fun w (h : Below W.heap.size W w) => blindKidsOk_any t.f t.kids a c hi w hp (hr.on ((hB.trans (h.mono hB.size)).mono hhi)) (Nat.le_trans hhi (Nat.le_trans hB.size h.size))
    have HP : Hid (pOk ss t = (decide (0 ≤ t.f) && decide (t.f < ss.length) && (t.v == 0) && (if blindAt ss t.f then bkOk t.f t.kids else (t.kids.length : Int) == arityAt ss t.f))) := by
      show _ = _
      unfold pOk
      rw [if_neg hf]
      by_cases h1 : 0 ≤ t.f <;> by_cases h2 : t.f < ss.length <;> simp [h1, h2]
    clear hf hs hr hp
    generalize t.kids.length = m at *
    by_cases hin : 0 ≤ t.f ∧ t.f < (ss.length : Int)
    · rw [decide_eq_true hin.1, decide_eq_true hin.2] at HP
      simp only [decide_eq_true hin.1, decide_eq_true hin.2, Bool.and_self] at IS
      by_cases hv : t.v = 0
      · have hve : (t.v == 0) = true := by simp [hv]
        rw [hve] at HP
        clear hv
        cases hbl : blindAt ss t.f with
        | true =>
          simp only [hbl] at IB HP
          clear IA hin
          go_enter Tryz.func66, Tryz.ntmps66
          go_wp2_with (first
            | (go_at_call 99; rw [← hW]; refine CV.mono ?_; rintro e w2 ⟨rfl, hb2⟩; obtain ⟨p0, p1, p2⟩ := P0; have q0 := keepC hb2 p0; have q1 := keepC hb2 p1; have q2 := keepC hb2 p2; have hB2 : Below w.heap.size w w2 := hB.trans (hb2.mono hB.size); clear CV hW p0 p1 p2 hB)
            | (go_at_call 111; refine (IS _).mono ?_; rintro e w3 ⟨rfl, hw⟩; subst w3)
            | (go_at_call 112; refine (IB _ hb2).mono ?_; rintro e w3 ⟨rfl, hw⟩; subst w3)
            | (go_at_call 113; refine (IK _ hb2).mono ?_; rintro e w3 ⟨rfl, hb3⟩; have hB3 : Below w.heap.size w w3 := hB2.trans (hb3.mono hB2.size)))
          go_ret
          exact ⟨rtB (by rw [HP.out]; simp), hB3⟩
        | false =>
          simp only [hbl] at IB HP
          clear IK hin
          go_enter Tryz.func66, Tryz.ntmps66
          go_wp2_with (first
            | (go_at_call 99; rw [← hW]; refine CV.mono ?_; rintro e w2 ⟨rfl, hb2⟩; obtain ⟨p0, p1, p2⟩ := P0; have q0 := keepC hb2 p0; have q1 := keepC hb2 p1; have q2 := keepC hb2 p2; have hB2 : Below w.heap.size w w2 := hB.trans (hb2.mono hB.size); clear CV hW p0 p1 p2 hB)
            | (go_at_call 111; refine (IS _).mono ?_; rintro e w3 ⟨rfl, hw⟩; subst w3)
            | (go_at_call 112; refine (IB _ hb2).mono ?_; rintro e w3 ⟨rfl, hw⟩; subst w3))
          go_region_held3 (fun w' => w'.cell? ⟨w.heap.size, 0, none⟩ = some (.int .i64 t.f) ∧ w'.cell? ⟨w.heap.size, 2, none⟩ = some (.slice a m c)) (first | go_keep | exact ⟨q0, q2⟩)
            ((go_at_call 114; refine (IA _ ?_).mono ?_; exact hb2.drew; rintro e w3 ⟨rfl, hw⟩; subst w3))
          go_wp2_with fail
          go_ret
          exact ⟨rtB (by rw [HP.out]; simp), hB2.drew⟩
      · have hve : (t.v == 0) = false := by simp [hv]
        rw [hve] at HP
        clear IA IB IK hv hin
        go_enter Tryz.func66, Tryz.ntmps66
        go_wp2_with (first
          | (go_at_call 99; rw [← hW]; refine CV.mono ?_; rintro e w2 ⟨rfl, hb2⟩; obtain ⟨p0, p1, p2⟩ := P0; have q0 := keepC hb2 p0; have q1 := keepC hb2 p1; have q2 := keepC hb2 p2; have hB2 : Below w.heap.size w w2 := hB.trans (hb2.mono hB.size); clear CV hW p0 p1 p2 hB)
          | (go_at_call 111; refine (IS _).mono ?_; rintro e w3 ⟨rfl, hw⟩; subst w3))
        go_ret
        exact ⟨rtB (by rw [HP.out]; simp), hB2⟩
    · have hinb : (decide (0 ≤ t.f) && decide (t.f < (ss.length : Int))) = false := by simp; omega
      rw [hinb] at HP
      simp only [hinb] at IS
      clear IA IB IK hin
      go_enter Tryz.func66, Tryz.ntmps66
      go_wp2_with (first
        | (go_at_call 99; rw [← hW]; refine CV.mono ?_; rintro e w2 ⟨rfl, hb2⟩; obtain ⟨p0, p1, p2⟩ := P0; have q0 := keepC hb2 p0; have q1 := keepC hb2 p1; have q2 := keepC hb2 p2; have hB2 : Below w.heap.size w w2 := hB.trans (hb2.mono hB.size); clear CV hW p0 p1 p2 hB)
        | (go_at_call 111; refine (IS _).mono ?_; rintro e w3 ⟨rfl, hw⟩; subst w3))
      go_ret
      exact ⟨rtB (by rw [HP.out]; simp), hB2⟩
end Go.Proofs.YtollijngiioonaaGreat

/- Functions by name: the first of each name in a map, the others' numbers in a list; what such a map holds. Conditions: none. -/
namespace Go.Proofs.YtollijngiioonaaGreat
set_option maxRecDepth 100000
open Go.RowKit Go.Maps

/-- Where the first function of that name stands. -/
def idx (l : List SymD) (n : List UInt8) : Option Nat := l.findIdx? (fun s => s.name.data.toList == n)

theorem idx_snoc (l : List SymD) (s : SymD) (n : List UInt8) : idx (l ++ [s]) n = (idx l n).or (if s.name.data.toList == n then some l.length else none) := by
  unfold idx
  rw [List.findIdx?_append]
  congr 1
  by_cases h : s.name.data.toList == n <;> simp [h]

theorem symOf_idx (l : List SymD) (n : ByteArray) : symOf l n = match idx l n.data.toList with | some i => (i : Int) | none => -1 := by
  unfold symOf idx
  simp only [ByteArray.toList_eq]
  generalize List.findIdx? _ l = o
  cases o <;> rfl

/-- The map holds at each name the number of the first function of that name. -/
def MapIs (D : DataW Unit) (l : List SymD) : Prop :=
  IsMap D ∧ ∀ n : List UInt8, Maps.has D (.string n) = (idx l n).isSome ∧ ∀ i, idx l n = some i → ∀ z, D.atKey (.string n) z = .lit (.int .i64 i)

theorem mapIs_nil : MapIs (.map []) [] := ⟨isMap_empty, fun n => ⟨rfl, fun i h => by simp [idx] at h⟩⟩

theorem mapIs_seen {D : DataW Unit} {l : List SymD} (h : MapIs D l) {s : SymD} (hs : (idx l s.name.data.toList).isSome = true) : MapIs D (l ++ [s]) := by
  refine ⟨h.1, fun n => ?_⟩
  have e : idx (l ++ [s]) n = idx l n := by
    rw [idx_snoc]
    cases hn : idx l n with
    | some i => rfl
    | none =>
      have : (s.name.data.toList == n) = false := by
        apply Bool.eq_false_iff.2
        intro h1
        have h2 : s.name.data.toList = n := by simpa using h1
        rw [h2, hn] at hs
        simp at hs
      simp [this]
  rw [e]
  exact h.2 n

theorem mapIs_new {D : DataW Unit} {l : List SymD} (h : MapIs D l) {s : SymD} (hs : (idx l s.name.data.toList).isSome = false) : MapIs (D.put (.string s.name.data.toList) (.lit (.int .i64 l.length))) (l ++ [s]) := by
  refine ⟨h.1.put _ _, fun n => ?_⟩
  by_cases he : s.name.data.toList = n
  · subst he
    have hn : idx l s.name.data.toList = none := by simpa using hs
    have e : idx (l ++ [s]) s.name.data.toList = some l.length := by rw [idx_snoc, hn]; simp
    rw [e]
    refine ⟨has_put_same (k := .string s.name.data.toList) h.1 trivial _, fun i hi z => ?_⟩
    simp at hi
    subst hi
    exact atKey_put_same (k := .string s.name.data.toList) h.1 trivial _ _
  · have e : idx (l ++ [s]) n = idx l n := by rw [idx_snoc]; simp [he]
    have hne : (Lit.string n) ≠ .string s.name.data.toList := fun h => he (by injection h with h; exact h.symm)
    rw [e, has_put_other hne]
    refine ⟨(h.2 n).1, fun i hi z => ?_⟩
    rw [atKey_put_other hne]
    exact (h.2 n).2 i hi z

/-- The numbers, of the first k, of those functions whose name an earlier one has. -/
def againTo (ss : List SymD) : Nat → List Int
  | 0 => []
  | k + 1 => againTo ss k ++ (if h : k < ss.length then (if (idx (ss.take k) ss[k].name.data.toList).isSome then [(k : Int)] else []) else [])

theorem again_seen {ss : List SymD} {k : Nat} (h : k < ss.length) (hs : (idx (ss.take k) ss[k].name.data.toList).isSome = true) : againTo ss (k + 1) = againTo ss k ++ [(k : Int)] := by
  rw [againTo, dif_pos h, if_pos hs]
theorem again_new {ss : List SymD} {k : Nat} (h : k < ss.length) (hs : (idx (ss.take k) ss[k].name.data.toList).isSome = false) : againTo ss (k + 1) = againTo ss k := by
  rw [againTo, dif_pos h, hs]; simp
theorem again_len (ss : List SymD) : ∀ k, (againTo ss k).length ≤ k
  | 0 => Nat.le_refl _
  | k + 1 => by
    have := again_len ss k
    rw [againTo]
    by_cases h : k < ss.length
    · rw [dif_pos h, List.length_append]
      split <;> simp <;> omega
    · rw [dif_neg h]; simp; omega

theorem take_next {ss : List SymD} {k : Nat} (h : k < ss.length) : ss.take (k + 1) = ss.take k ++ [ss[k]] := List.take_succ_eq_append_getElem h

theorem mapIs_step0 {D : DataW Unit} {ss : List SymD} {k : Nat} (h : k < ss.length) (hm : MapIs D (ss.take k)) (hs : (idx (ss.take k) ss[k].name.data.toList).isSome = true) : MapIs D (ss.take (k + 1)) := by
  rw [take_next h]; exact mapIs_seen hm hs
theorem mapIs_step1 {D : DataW Unit} {ss : List SymD} {k : Nat} (h : k < ss.length) (hm : MapIs D (ss.take k)) (hs : (idx (ss.take k) ss[k].name.data.toList).isSome = false) : MapIs (D.put (.string ss[k].name.data.toList) (.lit (.int .i64 k))) (ss.take (k + 1)) := by
  rw [take_next h]
  have := mapIs_new hm hs
  rwa [List.length_take_of_le (by omega)] at this

theorem one_new' (w : World) (u : Value) (t : TypeId) (n : Nat) (hn : n = w.heap.size) : ∀ j v, [u][j]? = some v → (w.alloc (.cells #[u] t)).cell? ((⟨n, 0, none⟩ : Addr).add j) = some v := by
  subst hn; exact one_new w u t
end Go.Proofs.YtollijngiioonaaGreat

/- Contract of the program's table of functions by name. Conditions: at most 1048577 functions, names that are strings of the model. -/
namespace Go.Proofs.YtollijngiioonaaGreat
set_option maxRecDepth 100000
open Go.RowKit Go.Maps

theorem law9 : Keyed Tryz.prog 9 := string_keyed Tryz.underlying9
theorem zero3 (w : World) : (zeroValue 3).run Tryz.prog w = .ok (.int .i64 0) w := by kernel_rfl
theorem info3 : (Tryz.prog.info? 3).map (fun i => (i.zero, i.size, i.bytes)) = some (some (.int .i64 0), 1, 8) := by kernel_rfl

theorem field0 (m : Option Nat) (a : Option Addr) (n c : Nat) (w : World) : (Instr.field 128 (.agg #[.map m, .slice a n c]) 0).run Tryz.prog w = .ok (.map m) w := by kernel_rfl
theorem field1 (m : Option Nat) (a : Option Addr) (n c : Nat) (w : World) : (Instr.field 128 (.agg #[.map m, .slice a n c]) 1).run Tryz.prog w = .ok (.slice a n c) w := by kernel_rfl

/-- What lies in memory while the table is made. -/
structure TabSt (w wr : World) (ss : List SymD) (k : Nat) (v : Value) (D : DataW Unit) : Prop where
  r0 : wr.cell? ⟨w.heap.size, 0, none⟩ = some (.map none)
  r1 : wr.cell? ⟨w.heap.size, 1, none⟩ = some (.slice none 0 0)
  fr0 : wr.frozen? ⟨w.heap.size, 0, none⟩ = false
  fr1 : wr.frozen? ⟨w.heap.size, 1, none⟩ = false
  g0 : wr.cell? ⟨w.heap.size + 1 + 1, 0, none⟩ = some (.map (some (w.heap.size + 1)))
  g1 : wr.cell? ⟨w.heap.size + 1 + 1, 1, none⟩ = some v
  fg1 : wr.frozen? ⟨w.heap.size + 1 + 1, 1, none⟩ = false
  map : wr.ownsMap Tryz.prog 9 (plainElem Tryz.prog 3) (w.heap.size + 1) k D
  is : MapIs D (ss.take k)
  row : wr.ownsRow (w.heap.size + 3) 3 1 v (againTo ss k).length (ints (againTo ss k))
  size : w.heap.size + 3 ≤ wr.heap.size
  below : Below w.heap.size w wr

theorem TabSt.alloc {w wr : World} {ss : List SymD} {k : Nat} {v : Value} {D : DataW Unit} (h : TabSt w wr ss k v D) (o : Obj) : TabSt w (wr.alloc o) ss k v D := by
  have hg := World.grownBy_alloc wr o none
  have hs := h.size
  refine ⟨hg.cell h.r0 (by simp), hg.cell h.r1 (by simp), ?_, ?_, hg.cell h.g0 (by simp), hg.cell h.g1 (by simp), ?_, h.map.alloc _, h.is, h.row.alloc _, by simp; omega, h.below.alloc (by omega) _⟩
  · exact (World.frozen?_of_block (hg.block w.heap.size (by omega) (by simp))).trans h.fr0
  · exact (World.frozen?_of_block (hg.block w.heap.size (by omega) (by simp))).trans h.fr1
  · exact (World.frozen?_of_block (hg.block (w.heap.size + 1 + 1) (by omega) (by simp))).trans h.fg1

theorem own_block {w : World} {base : Nat} {e : TypeId} {size : Nat} {v : Value} {n : Nat} {xs : List Value} (h : w.ownsRow base e size v n xs) : ∀ j, v.ownBlock = some j → base ≤ j := by
  intro j hj
  rcases h.2 with ⟨rfl, _⟩ | ⟨g, cap, cur, rfl, hg, _⟩
  · simp [Value.ownBlock] at hj
  · simp [Value.ownBlock] at hj
    omega

theorem own_pos {w : World} {base : Nat} {e : TypeId} {size : Nat} {v : Value} {n : Nat} {xs : List Value} (h : w.ownsRow base e size v (n + 1) xs) : ∃ g c, v = .slice (some ⟨g, 0, none⟩) (n + 1) c := by
  rcases h.2 with ⟨_, h⟩ | ⟨g, cap, _, rfl, _⟩
  · simp at h
  · exact ⟨g, cap, rfl⟩

theorem own_shape {w : World} {base : Nat} {e : TypeId} {size : Nat} {v : Value} {n : Nat} {xs : List Value} (h : w.ownsRow base e size v n xs) : ∃ a c, v = .slice a n c := by
  rcases h.2 with ⟨rfl, rfl⟩ | ⟨g, cap, _, rfl, _⟩
  · exact ⟨none, 0, rfl⟩
  · exact ⟨_, cap, rfl⟩

theorem TabSt.far {w wr w2 : World} {ss : List SymD} {k : Nat} {v : Value} {D : DataW Unit} (h : TabSt w wr ss k v D) (hg : wr.grownBy w2 v.ownBlock) :
    w2.cell? ⟨w.heap.size + 1 + 1, 1, none⟩ = some v ∧ w2.frozen? ⟨w.heap.size + 1 + 1, 1, none⟩ = false := by
  have hb := own_block h.row
  have hsz := h.size
  have n2 : some (w.heap.size + 1 + 1) ≠ v.ownBlock := fun e => by have := hb _ e.symm; omega
  exact ⟨hg.cell h.g1 n2, (World.frozen?_of_block (hg.block (w.heap.size + 1 + 1) (by omega) n2)).trans h.fg1⟩

theorem TabSt.seen {w wr w2 : World} {ss : List SymD} {k : Nat} {v v' : Value} {D : DataW Unit} (h : TabSt w wr ss k v D) (hk : k < ss.length) (hs : (idx (ss.take k) ss[k].name.data.toList).isSome = true)
    (hown : w2.ownsRow (w.heap.size + 3) 3 1 v' ((againTo ss k).length + 1) (ints (againTo ss k) ++ [.int .i64 k])) (hg : wr.grownBy w2 v.ownBlock) : TabSt w (w2.setCell ⟨w.heap.size + 1 + 1, 1, none⟩ v') ss (k + 1) v' D := by
  have hb := own_block h.row
  have hsz := h.size
  have n0 : some w.heap.size ≠ v.ownBlock := fun e => by have := hb _ e.symm; omega
  have n1 : some (w.heap.size + 1) ≠ v.ownBlock := fun e => by have := hb _ e.symm; omega
  have n2 : some (w.heap.size + 1 + 1) ≠ v.ownBlock := fun e => by have := hb _ e.symm; omega
  have d : ∀ (a b : Addr), a ≠ b → ∀ u, w2.cell? b = some u → (w2.setCell a v').cell? b = some u := fun a b hab u hu => by rw [World.cell?_setCell_other _ _ _ _ hab]; exact hu
  refine ⟨d _ _ (by simp) _ (hg.cell h.r0 n0), d _ _ (by simp) _ (hg.cell h.r1 n0), ?_, ?_, d _ _ (by simp) _ (hg.cell h.g0 n2), World.cell?_setCell_same _ _ _ (hg.cell h.g1 n2), ?_, ?_, mapIs_step0 hk h.is hs, ?_, ?_, ?_⟩
  · simp only [World.frozen?_setCell]; exact (World.frozen?_of_block (hg.block w.heap.size (by omega) n0)).trans h.fr0
  · simp only [World.frozen?_setCell]; exact (World.frozen?_of_block (hg.block w.heap.size (by omega) n0)).trans h.fr1
  · simp only [World.frozen?_setCell]; exact (World.frozen?_of_block (hg.block (w.heap.size + 1 + 1) (by omega) n2)).trans h.fg1
  · exact ((h.map.kept hg n1).setCell (by simp) _).mono (Nat.le_succ _)
  · rw [again_seen hk hs]
    have := ownsRow_setCell_below hown (a := ⟨w.heap.size + 1 + 1, 1, none⟩) (by simp) v'
    simpa [ints] using this
  · have := hg.size; simp; omega
  · exact (h.below.grown hg (by omega) (fun j hj => by have := hb j hj; omega)).setCell (p := ⟨w.heap.size + 1 + 1, 1, none⟩) (by simp; omega) _

theorem TabSt.fresh {w wr w2 : World} {ss : List SymD} {k : Nat} {v : Value} {D : DataW Unit} (h : TabSt w wr ss k v D) (hk : k < ss.length) (hs : (idx (ss.take k) ss[k].name.data.toList).isSome = false)
    (hm : w2.ownsMap Tryz.prog 9 (plainElem Tryz.prog 3) (w.heap.size + 1) (k + 1) (D.put (.string ss[k].name.data.toList) (.lit (.int .i64 k)))) (hg : wr.grownBy w2 (some (w.heap.size + 1))) :
    TabSt w w2 ss (k + 1) v (D.put (.string ss[k].name.data.toList) (.lit (.int .i64 k))) := by
  have hb := own_block h.row
  have hsz := h.size
  have n0 : some w.heap.size ≠ some (w.heap.size + 1) := by simp
  have n2 : some (w.heap.size + 1 + 1) ≠ some (w.heap.size + 1) := by simp
  refine ⟨hg.cell h.r0 n0, hg.cell h.r1 n0, ?_, ?_, hg.cell h.g0 n2, hg.cell h.g1 n2, ?_, hm, mapIs_step1 hk h.is hs, ?_, ?_, ?_⟩
  · exact (World.frozen?_of_block (hg.block w.heap.size (by omega) n0)).trans h.fr0
  · exact (World.frozen?_of_block (hg.block w.heap.size (by omega) n0)).trans h.fr1
  · exact (World.frozen?_of_block (hg.block (w.heap.size + 1 + 1) (by omega) n2)).trans h.fg1
  · rw [again_new hk hs]
    obtain ⟨h1, h2⟩ := h.row
    refine ⟨h1, ?_⟩
    rcases h2 with h2 | ⟨g, cap, cur, rfl, hg1, hh, r⟩
    · exact .inl h2
    · refine .inr ⟨g, cap, cur, rfl, hg1, ?_, r⟩
      rw [hg.block g (Array.getElem?_eq_some_iff.1 hh).1 (by simp; omega)]; exact hh
  · have := hg.size; omega
  · exact h.below.grown hg (by omega) (fun j hj => by simp at hj; omega)

theorem TabSt.start (w : World) (ss : List SymD) (t t' : TypeId) : TabSt w (((w.alloc (.cells #[.map none, .slice none 0 0] t)).alloc (.map #[] 0)).alloc (.cells #[.map (some (w.heap.size + 1)), .slice none 0 0] t')) ss 0 (.slice none 0 0) (.map []) := by
  refine ⟨by simp [go_sem], by simp [go_sem], by simp [go_sem], by simp [go_sem], by simp [go_sem], by simp [go_sem], by simp [go_sem], ?_, mapIs_nil, ?_, by simp, ?_⟩
  · have := (World.ownsMap_made (w.alloc (.cells #[.map none, .slice none 0 0] t)) Tryz.prog 9 (plainElem (H := Unit) Tryz.prog 3)).alloc (.cells #[.map (some (w.heap.size + 1)), .slice none 0 0] t')
    simpa using this
  · exact ⟨by simp [againTo, ints], .inl ⟨rfl, rfl⟩⟩
  · exact (((Below.refl _ _).alloc (Nat.le_refl _) _).alloc (by simp) _).alloc (by simp; omega) _

theorem tab_empty (w : World) (o o' : Obj) : ((((w.alloc o).alloc (.map #[] 0)).alloc o').ownsMap Tryz.prog 9 (plainElem (H := Unit) Tryz.prog 3) (w.heap.size + 1) 0 (.map [])) ∧ ((((w.alloc o).alloc (.map #[] 0)).alloc o').ownsRow (w.heap.size + 3) 3 1 (.slice none 0 0) (againTo [] 0).length (ints (againTo [] 0)))
    ∧ Below w.heap.size w (((w.alloc o).alloc (.map #[] 0)).alloc o') := by
  refine ⟨?_, ⟨by simp [againTo, ints], .inl ⟨rfl, rfl⟩⟩, (((Below.refl _ _).alloc (Nat.le_refl _) _).alloc (by simp) _).alloc (by simp; omega) _⟩
  have := (World.ownsMap_made (w.alloc o) Tryz.prog 9 (plainElem (H := Unit) Tryz.prog 3)).alloc o'
  simpa using this
end Go.Proofs.YtollijngiioonaaGreat

/- Contract of the program's table of functions by name: the walk. Conditions: at most 1048577 functions, names that are strings of the model. -/
namespace Go.Proofs.YtollijngiioonaaGreat
set_option maxRecDepth 100000
open Go.RowKit Go.Maps Go.WideMaps

set_option maxHeartbeats 1600000 in
theorem tableOf_any (a : Option Addr) (ss : List SymD) (n cap : Nat) (w : World) (hn : n = ss.length) (hr : RdS w a ss) (hl : ss.length ≤ 1048577) (hsz : ∀ s ∈ ss, s.name.size ≤ maxLen) :
    Calls Tryz.prog 108 #[.slice a n cap] w fun e w' => ∃ av cv D, e = .returned (.agg #[.map (some (w.heap.size + 1)), .slice av (againTo ss ss.length).length cv]) ∧ w'.ownsMap Tryz.prog 9 (plainElem Tryz.prog 3) (w.heap.size + 1) ss.length D ∧ MapIs D ss
      ∧ w'.ownsRow (w.heap.size + 3) 3 1 (.slice av (againTo ss ss.length).length cv) (againTo ss ss.length).length (ints (againTo ss ss.length)) ∧ Below w.heap.size w w' ∧ w.heap.size + 3 ≤ w'.heap.size := by
  subst hn
  obtain ⟨i0, hi, hz0, hz1, hz2⟩ := info_parts info3
  have hmm := @run_makeMap Tryz.prog
  rcases hr with rfl | ⟨b, off, rfl, hlt, hc⟩
  · go_enter Tryz.func108, Tryz.ntmps108
    go_wp2
    refine wp_loop_rounds 1 ?_
    rw [rounds_succ]
    go_wp2
    exact bodyPost_ret (v := .agg #[.map (some (w.heap.size + 1)), .slice none 0 0]) (by simp [results, Tryz.results108, go_sem]) rfl ⟨none, 0, .map [], rfl, (tab_empty w _ _).1, mapIs_nil, (tab_empty w _ _).2.1, (tab_empty w _ _).2.2, by simp⟩
  · have S := TabSt.start w ss 128 128
    go_enter Tryz.func108, Tryz.ntmps108
    go_wp2
    go_loopw [12] (fun i wr => ∃ (k : Nat) (v : Value) (D : DataW Unit), k ≤ ss.length ∧ i = .int .i64 k ∧ TabSt w wr ss k v D) (fun i _ => ss.length - (intOf i).toNat)
    case atStart => exact ⟨0, _, _, Nat.zero_le _, rfl, S⟩
    case round =>
      obtain ⟨k, v, D, hk, rfl, T⟩ := hrel
      clear S
      by_cases hk' : k < ss.length
      · obtain ⟨c0, c1, c2⟩ := hc k hk'
        have d0 := (T.below.cell (p := ⟨b, off + k * 3, none⟩) hlt).trans c0
        have d1 := (T.below.cell (p := ⟨b, off + k * 3 + 1, none⟩) hlt).trans c1
        have d2 := (T.below.cell (p := ⟨b, off + k * 3 + 2, none⟩) hlt).trans c2
        have hkey : keyOf Tryz.prog 9 (.string ss[k].name) = some (.string ss[k].name.data.toList) := keyOf_string_mk Tryz.underlying9 (hsz _ (List.getElem_mem hk'))
        have hhas := (T.is.2 ss[k].name.data.toList).1
        have hws := T.size
        have hws2 : w.heap.size + 1 + 1 < wr.heap.size := by omega
        have g0 := T.g0
        have g1 := T.g1
        have fg1 := T.fg1
        have ha := again_len ss k
        clear c0 c1 c2 hc
        by_cases hs : (idx (ss.take k) ss[k].name.data.toList).isSome = true
        · rw [hs] at hhas
          go_wp2_with (first
            | (at_lookup; refine wpList_lookup_own_ok_int _ rfl _ _ 126 rfl 9 3 .i64 law9 Tryz.underlying126 Tryz.underlying3 (zero3 _) (w.heap.size + 1) k D rfl (T.map.alloc _) _ _ rfl hkey ?_; intro c hat hwc; clear hat hwc; rw [hhas])
            | (at_builtin; (refine wpList_append_own _ rfl (.tmp 27) (.tmp 29) 81 rfl (w.heap.size + 3) 3 i0 (.int .i64 0) 1 8 Tryz.underlying81 hi hz0 hz1 hz2 rfl (by decide) _ _ _ rfl ((T.row.alloc _).alloc _) ⟨wr.heap.size + 1, 0, none⟩ 1 1 [.int .i64 k] rfl rfl (one_new' _ _ _ _ (by simp)) (one_cell _) (by unfold maxLen; omega) (by omega) (by simp; omega) ?_; intro v2 w2 hown2 hgrow2 hnil2; clear hnil2; have hg2 : ((wr.alloc _).alloc _).grownBy w2 v.ownBlock := hgrow2; clear hgrow2; have T2 := ((T.alloc _).alloc _).seen hk' hs hown2 hg2; obtain ⟨hc2, hf2⟩ := ((T.alloc _).alloc _).far hg2; obtain ⟨g, c2, rfl⟩ := own_pos hown2; clear hown2 hg2 T)))
          go_roundw
          case rel => exact ⟨k + 1, _, D, by omega, by go_num, T2⟩
          case measure => simp [intOf]; omega
        · rw [Bool.not_eq_true] at hs
          rw [hs] at hhas
          go_wp2_with (first
            | (at_lookup; refine wpList_lookup_own_ok_int _ rfl _ _ 126 rfl 9 3 .i64 law9 Tryz.underlying126 Tryz.underlying3 (zero3 _) (w.heap.size + 1) k D rfl (T.map.alloc _) _ _ rfl hkey ?_; intro c hat hwc; clear hat hwc; rw [hhas])
            | (at_mapUpdate; (refine wpList_mapUpdate_own _ rfl _ _ _ 126 rfl 9 3 law9 Tryz.underlying126 _ (w.heap.size + 1) k D rfl (T.map.alloc _) (by unfold maxLen; omega) _ _ _ rfl rfl hkey _ [] (plainElem_int Tryz.underlying3 (WalkArith.wf_i64 (by omega))) ?_; intro w2 hown2 hgrow2; have T2 := (T.alloc _).fresh hk' hs hown2 hgrow2; clear hown2 hgrow2 T)))
          go_roundw
          case rel => exact ⟨k + 1, _, _, by omega, by go_num, T2⟩
          case measure => simp [intOf]; omega
      · have e : k = ss.length := by omega
        have T1 : TabSt w wr ss ss.length v D := e ▸ T
        have hm := T1.is
        rw [List.take_length] at hm
        have g0 := T1.g0
        have g1 := T1.g1
        have r0 := T1.r0
        have r1 := T1.r1
        have fr0 := T1.fr0
        have fr1 := T1.fr1
        have hw3 := T1.size
        clear e T
        obtain ⟨av, cv, rfl⟩ := own_shape T1.row
        have q0 : (wr.setCell ⟨w.heap.size, 0, none⟩ (.map (some (w.heap.size + 1)))).cell? ⟨w.heap.size, 0, none⟩ = some (.map (some (w.heap.size + 1))) := World.cell?_setCell_same _ _ _ r0
        have q1 : ((wr.setCell ⟨w.heap.size, 0, none⟩ (.map (some (w.heap.size + 1)))).setCell ⟨w.heap.size, 1, none⟩ (.slice av (againTo ss ss.length).length cv)).cell? ⟨w.heap.size, 1, none⟩ = some (.slice av (againTo ss ss.length).length cv) :=
          World.cell?_setCell_same _ _ _ (by rw [World.cell?_setCell_other _ _ _ _ (by simp)]; exact r1)
        go_wp2
        refine bodyPost_ret (v := .agg #[.map (some (w.heap.size + 1)), .slice av (againTo ss ss.length).length cv]) (by simp [results, Tryz.results108, go_sem, q0, q1]) rfl ⟨_, _, D, rfl, (T1.map.setCell (by simp) _).setCell (by simp) _, hm, ownsRow_setCell_below (ownsRow_setCell_below T1.row (by simp) _) (by simp) _, (T1.below.setCell (p := ⟨w.heap.size, 0, none⟩) (by simp) _).setCell (p := ⟨w.heap.size, 1, none⟩) (by simp) _, by simpa using T1.size⟩
end Go.Proofs.YtollijngiioonaaGreat

/- Functions by name: what the map tells of whether all are right. Conditions: none. -/
namespace Go.Proofs.YtollijngiioonaaGreat
set_option maxRecDepth 100000
open Go.RowKit Go.Maps Go.WideMaps

/-- The step of a range over a map of numbers by name. -/
theorem next_si {P : Program} {kt et : TypeId} (hk : P.underlying kt = some .string) (he : P.underlying et = some (.int .i64)) (w : World) {ops : Array Oper} {rest : List Oper} {o : Oper} {a : Act} {Q : Exit → Act → World → Prop}
    (hg : o.guard = none) (it : Operand) (hop : o.op = Op.next it false) (b r n : Nat) (D : DataW Unit) (left : Lit → Bool) (cnt : Nat) (hit : a.eval it = .pointer (some ⟨r, 0, none⟩)) (h : w.ranges P kt (plainElem P et) b r n D left cnt)
    (hDone : cnt = 0 → (∀ kl, left kl = false) → wpList P ops Q rest (a.put o.dst (.tuple #[.bool false])) w)
    (hMore : ∀ (s : ByteArray) (c : Int) (w' : World) (cnt' : Nat), left (.string s.data.toList) = true → (∀ zd, D.atKey (.string s.data.toList) zd = .lit (.int .i64 c)) → w'.ranges P kt (plainElem P et) b r n D (fun z => left z && !z.sameKey (.string s.data.toList)) cnt' → cnt' < cnt →
      w.grownBy w' (some r) → w'.heap.size = w.heap.size → (Instr.entry (.pointer (some ⟨r, 0, none⟩))).run P w' = .ok (.tuple #[.string s, .int .i64 c]) w' → wpList P ops Q rest (a.put o.dst (.tuple #[.bool true, .string s, .int .i64 c])) w') :
    wpList P ops Q (o :: rest) a w :=
  wpList_next_ranges w hg it hop kt (string_keyed hk) (plainElem P et) Value.string (Value.int .i64) (fun key kl hkey => by obtain ⟨s, rfl, _⟩ := string_of_keyOf hk hkey; exact ⟨s, rfl⟩) (fun v y hv => by obtain ⟨c, rfl, _⟩ := plainElem_int_inv he hv; exact ⟨c, rfl⟩)
    b r n D left cnt hit h hDone (fun s c kl y w' cnt' hkey hlk hv hat hrg hlt hgr hsz hen => by
      obtain ⟨s', es, rfl, _⟩ := string_of_keyOf hk hkey
      cases es
      obtain ⟨c', ec, rfl, _⟩ := plainElem_int_inv he hv
      cases ec
      exact hMore s c w' cnt' hlk hat hrg hlt hgr hsz hen)

/-- Whether one function by itself is right. -/
def okB (s : SymD) : Bool := !(s.ac && s.ar != 2) && nameOk s.name && decide (0 ≤ s.ar) && decide (s.ar ≤ 3)

theorem good_ok {ss : List SymD} {k : Nat} {s : SymD} (h : symOf ss s.name = (k : Int)) (ho : okB s = true) : goodAt ss k s = true := by
  unfold goodAt; unfold okB at ho
  simp only [Bool.and_eq_true, Bool.not_eq_true', h, beq_self_eq_true, decide_eq_true_eq] at ho ⊢
  obtain ⟨⟨⟨h1, h2⟩, h3⟩, h4⟩ := ho
  refine ⟨⟨⟨h2, trivial⟩, h3, h4⟩, ?_⟩
  cases hc : s.ac
  · rfl
  · rw [hc] at h1; simp at h1; simp [h1]

theorem bad_ok {ss : List SymD} {k : Nat} {s : SymD} (ho : okB s = false) : goodAt ss k s = false := by
  apply Bool.eq_false_iff.2
  intro hg
  apply Bool.eq_false_iff.1 ho
  unfold goodAt at hg; unfold okB
  simp only [Bool.and_eq_true, decide_eq_true_eq, Bool.not_eq_true'] at hg ⊢
  obtain ⟨⟨⟨h1, _⟩, h3, h4⟩, h5⟩ := hg
  refine ⟨⟨⟨?_, h1⟩, h3⟩, h4⟩
  cases hc : s.ac
  · rfl
  · rw [hc] at h5; simp at h5; simp [h5]

theorem idx_take {ss : List SymD} {k j : Nat} {n : List UInt8} (h : idx (ss.take k) n = some j) : idx ss n = some j := by
  have e : ss.take k ++ ss.drop k = ss := List.take_append_drop k ss
  have : idx (ss.take k ++ ss.drop k) n = some j := by
    unfold idx at *
    rw [List.findIdx?_append, h]; rfl
  rwa [e] at this

theorem idx_lt {ss : List SymD} {n : List UInt8} {j : Nat} (h : idx ss n = some j) : j < ss.length := by
  unfold idx at h
  rw [List.findIdx?_eq_some_iff_getElem] at h
  exact h.1

theorem idx_name {ss : List SymD} {n : List UInt8} {j : Nat} (h : idx ss n = some j) : (ss[j]'(idx_lt h)).name.data.toList = n := by
  unfold idx at h
  rw [List.findIdx?_eq_some_iff_getElem] at h
  obtain ⟨h1, h2, _⟩ := h
  simpa using h2

theorem symOf_some {ss : List SymD} {n : ByteArray} {j : Nat} (h : idx ss n.data.toList = some j) : symOf ss n = (j : Int) := by rw [symOf_idx, h]

theorem again_bad {ss : List SymD} (h : againTo ss ss.length ≠ []) : sigOk ss = false := by
  have : ∀ n, n ≤ ss.length → againTo ss n ≠ [] → ∃ k, ∃ h : k < ss.length, (idx (ss.take k) ss[k].name.data.toList).isSome = true := by
    intro n
    induction n with
    | zero => intro _ h; exact absurd rfl h
    | succ n ih =>
      intro hn h
      have hl : n < ss.length := by omega
      cases hs : (idx (ss.take n) ss[n].name.data.toList).isSome with
      | true => exact ⟨n, hl, hs⟩
      | false => rw [again_new hl hs] at h; exact ih (by omega) h
  obtain ⟨k, hk, hs⟩ := this _ (Nat.le_refl _) h
  refine sig_bad hk ?_
  obtain ⟨j, hj⟩ := Option.isSome_iff_exists.1 hs
  have hjk := idx_lt hj
  rw [List.length_take] at hjk
  have e := symOf_some (idx_take hj)
  unfold goodAt
  rw [e]
  have : ((j : Int) == (k : Int)) = false := by simp; omega
  rw [this]; simp

theorem again_first {ss : List SymD} (h : againTo ss ss.length = []) {k : Nat} (hk : k < ss.length) : idx ss ss[k].name.data.toList = some k := by
  have mono : ∀ n, againTo ss n = [] → ∀ m, m ≤ n → againTo ss m = [] := by
    intro n
    induction n with
    | zero => intro h m hm; have : m = 0 := by omega
              subst this; exact h
    | succ n ih =>
      intro h m hm
      by_cases e : m = n + 1
      · subst e; exact h
      · rw [againTo] at h
        exact ih (List.append_eq_nil_iff.1 h).1 m (by omega)
  have h1 := mono _ h (k + 1) (by omega)
  cases hs : (idx (ss.take k) ss[k].name.data.toList).isSome with
  | true => rw [again_seen hk hs] at h1; simp at h1
  | false =>
    refine idx_take (k := k + 1) ?_
    rw [take_next hk, idx_snoc]
    have : idx (ss.take k) ss[k].name.data.toList = none := by simpa using hs
    rw [this, List.length_take_of_le (by omega)]; simp

theorem sig_right {ss : List SymD} (hp : 0 < ss.length) (h8 : ss.length ≤ 8) (h : againTo ss ss.length = []) (h0 : isTT ss[0] = true) (hall : ∀ n i, n ≠ [116, 116] → (hi : idx ss n = some i) → okB (ss[i]'(idx_lt hi)) = true) : sigOk ss = true := by
  have hg : ∀ k, (hk : k < ss.length) → goodAt ss k ss[k] = true := by
    intro k hk
    have hf := again_first h hk
    refine good_ok (symOf_some hf) ?_
    by_cases e : ss[k].name.data.toList = [116, 116]
    · have hf0 := again_first h hp
      unfold isTT at h0
      simp only [ByteArray.toList_eq, Bool.and_eq_true, beq_iff_eq, Bool.not_eq_true'] at h0
      obtain ⟨⟨a1, a2⟩, a3⟩ := h0
      rw [e] at hf
      rw [a1, hf] at hf0
      have ek : k = 0 := by simpa using hf0
      subst ek
      unfold okB
      have hn : nameOk ss[0].name = true := by
        have : ss[0].name = ⟨#[116, 116]⟩ := by
          have e1 : ss[0].name.data = #[116, 116] := by
            apply Array.toList_inj.1; exact e
          cases hx : ss[0].name with
          | mk d => rw [hx] at e1; exact congrArg _ e1
        rw [this]; decide
      rw [a2, a3, hn]; rfl
    · exact hall _ k e hf
  have : ∀ k, k ≤ ss.length → goodTo ss k = true := by
    intro k
    induction k with
    | zero => intro _; rfl
    | succ k ih => intro hk; exact good_next (by omega) (ih (by omega)) (hg k (by omega))
  rw [sig_end (this _ (Nat.le_refl _)) hp h8, h0]

theorem sig_notTT {ss : List SymD} (hp : 0 < ss.length) (h0 : isTT ss[0] = false) : sigOk ss = false := by
  unfold sigOk
  cases ss with
  | nil => simp at hp
  | cons s ss => simp at h0; simp [h0]

theorem sig_short {ss : List SymD} (h : (ss.length : Int) < 1) : sigOk ss = false := by rw [sigOk, decide_eq_false (show ¬ 1 ≤ ss.length by omega)]; simp
theorem sig_long {ss : List SymD} (h : (8 : Int) < (ss.length : Int)) : sigOk ss = false := by rw [sigOk, decide_eq_false (show ¬ ss.length ≤ 8 by omega)]; simp

/-- Between the names that are still to come and those that were asked. -/
structure Asked (ss : List SymD) (D : DataW Unit) (left : Lit → Bool) : Prop where
  has : ∀ kl, left kl = true → Maps.has D kl = true
  right : ∀ n i, n ≠ [116, 116] → left (.string n) = false → (hi : idx ss n = some i) → okB (ss[i]'(idx_lt hi)) = true

theorem lit_same (a b : List UInt8) : (Lit.string a).sameKey (.string b) = (a == b) := by
  by_cases h : a = b
  · subst h; simp [Lit.sameKey]
  · rw [sameKey_ne (by intro e; injection e with e; exact h e)]; simp [h]

theorem asked_start {ss : List SymD} {D : DataW Unit} (h : MapIs D ss) : Asked ss (D.del (.string [116, 116])) (Maps.has (D.del (.string [116, 116]))) := by
  refine ⟨fun kl h => h, fun n i hn hl hi => ?_⟩
  rw [has_del_other (by intro e; injection e with e; exact hn e), (h.2 n).1, hi] at hl
  simp at hl

theorem asked_one {ss : List SymD} {D : DataW Unit} (h : MapIs D ss) {left : Lit → Bool} (A : Asked ss (D.del (.string [116, 116])) left) {s : List UInt8} {c : Int} (hl : left (.string s) = true) (hat : ∀ zd, (D.del (.string [116, 116])).atKey (.string s) zd = .lit (.int .i64 c)) :
    ∃ i, idx ss s = some i ∧ c = (i : Int) := by
  have h1 := A.has _ hl
  have hne : (Lit.string s) ≠ .string [116, 116] := by intro e; rw [e, has_del_same] at h1; simp at h1
  rw [has_del_other hne, (h.2 s).1] at h1
  obtain ⟨i, hi⟩ := Option.isSome_iff_exists.1 h1
  refine ⟨i, hi, ?_⟩
  have h2 := (h.2 s).2 i hi (.lit (.bool true))
  have h3 := hat (.lit (.bool true))
  rw [atKey_del_other hne, h2] at h3
  injection h3 with h3
  injection h3 with _ h3
  exact h3.symm

theorem asked_next {ss : List SymD} {D : DataW Unit} {left : Lit → Bool} (A : Asked ss D left) {s : List UInt8} {i : Nat} (hi : idx ss s = some i) (ho : okB (ss[i]'(idx_lt hi)) = true) : Asked ss D (fun z => left z && !z.sameKey (.string s)) := by
  refine ⟨fun kl h => A.has kl (by simp at h; exact h.1), fun n j hn hl hj => ?_⟩
  cases hx : left (.string n) with
  | false => exact A.right n j hn hx hj
  | true =>
    rw [hx, lit_same] at hl
    have e : n = s := by simpa using hl
    subst e
    have : i = j := by rw [hi] at hj; simpa using hj
    subst this
    exact ho
end Go.Proofs.YtollijngiioonaaGreat

/- Contracts of the program's SymOf and SigOk. Conditions: at most 1048577 functions, names that are strings of the model. -/
namespace Go.Proofs.YtollijngiioonaaGreat
set_option maxRecDepth 100000
open Go.RowKit Go.Maps Go.WideMaps

theorem look_some {D : DataW Unit} {ss : List SymD} (h : MapIs D ss) {n : ByteArray} {i : Nat} (hi : idx ss n.data.toList = some i) {c : Int} (hat : D.atKey (.string n.data.toList) (.lit (.int .i64 0)) = .lit (.int .i64 c)) : c = (i : Int) := by
  rw [(h.2 _).2 i hi] at hat
  injection hat with hat
  injection hat with _ hat
  exact hat.symm

set_option maxHeartbeats 800000 in
theorem symIsOk_any (s : SymD) (w : World) :
    Calls Tryz.prog 109 #[.agg #[.string s.name, .int .i64 s.ar, .bool s.ac]] w fun e w' => e = .returned (.bool (okB s)) ∧ Below w.heap.size w w' := by
  obtain ⟨nm, ar, ac⟩ := s
  have HO : Hid (okB ⟨nm, ar, ac⟩ = (!(ac && ar != 2) && nameOk nm && decide (0 ≤ ar) && decide (ar ≤ 3))) := rfl
  have NM := fun w => impNameOk_any nm w
  generalize okB ⟨nm, ar, ac⟩ = r at HO
  show Calls Tryz.prog 109 #[.agg #[.string nm, .int .i64 ar, .bool ac]] w fun e w' => e = .returned (.bool r) ∧ Below w.heap.size w w'
  have hB : ∀ o, Below w.heap.size w (w.alloc o) := fun o => (Below.refl _ _).alloc (Nat.le_refl _) o
  cases ac with
  | true =>
    by_cases h2 : ar = 2
    · subst h2
      cases hN : nameOk nm with
      | true =>
        rw [hN] at NM HO
        go_enter Tryz.func109, Tryz.ntmps109
        go_wp2_with (go_at_call 143; refine (NM _).mono ?_; rintro e w2 ⟨rfl, hw⟩; subst w2)
        go_ret
        exact ⟨ret_bool (by rw [HO.out]; rfl), hB _⟩
      | false =>
        rw [hN] at NM HO
        go_enter Tryz.func109, Tryz.ntmps109
        go_wp2_with (go_at_call 143; refine (NM _).mono ?_; rintro e w2 ⟨rfl, hw⟩; subst w2)
        go_ret
        exact ⟨ret_bool (by rw [HO.out]; rfl), hB _⟩
    · have h2' : (ar != 2) = true := by simpa using h2
      clear NM
      rw [h2'] at HO
      clear h2
      go_enter Tryz.func109, Tryz.ntmps109
      go_wp2
      go_ret
      exact ⟨ret_bool (by rw [HO.out]; rfl), hB _⟩
  | false =>
    cases hN : nameOk nm with
    | true =>
      rw [hN] at NM HO
      by_cases h0 : 0 ≤ ar
      · go_enter Tryz.func109, Tryz.ntmps109
        go_wp2_with (go_at_call 143; refine (NM _).mono ?_; rintro e w2 ⟨rfl, hw⟩; subst w2)
        go_ret
        exact ⟨ret_bool (by rw [HO.out]; simp [h0]), hB _⟩
      · go_enter Tryz.func109, Tryz.ntmps109
        go_wp2_with (go_at_call 143; refine (NM _).mono ?_; rintro e w2 ⟨rfl, hw⟩; subst w2)
        go_ret
        exact ⟨ret_bool (by rw [HO.out]; simp; omega), hB _⟩
    | false =>
      rw [hN] at NM HO
      go_enter Tryz.func109, Tryz.ntmps109
      go_wp2_with (go_at_call 143; refine (NM _).mono ?_; rintro e w2 ⟨rfl, hw⟩; subst w2)
      go_ret
      exact ⟨ret_bool (by rw [HO.out]; rfl), hB _⟩
end Go.Proofs.YtollijngiioonaaGreat

/- Contract of the program's SigOk. Conditions: names that are strings of the model. -/
namespace Go.Proofs.YtollijngiioonaaGreat
set_option maxRecDepth 100000
open Go.RowKit Go.Maps Go.WideMaps

theorem len_pos_iff (l : List Int) : l ≠ [] ↔ (0 : Int) < (l.length : Int) := by
  cases l <;> simp

theorem isTT_parts {s : SymD} (h : isTT s = true) : s.name = ⟨#[116, 116]⟩ ∧ s.ar = 0 ∧ s.ac = false := by
  unfold isTT at h
  simp only [ByteArray.toList_eq, Bool.and_eq_true, beq_iff_eq, Bool.not_eq_true'] at h
  obtain ⟨⟨a1, a2⟩, a3⟩ := h
  refine ⟨?_, a2, a3⟩
  have e1 : s.name.data = #[116, 116] := by apply Array.toList_inj.1; exact a1
  cases hx : s.name with
  | mk d => rw [hx] at e1; exact congrArg _ e1

theorem after_del {w w3 : World} {m c : Nat} {av : Option Addr} {t : TypeId} {n : Nat} (h : (w.alloc (.cells #[.map (some m), .slice av n c] t)).grownBy w3 (some m)) (hm : m < w.heap.size) : w3.cell? ⟨w.heap.size, 0, none⟩ = some (.map (some m)) :=
  h.cell (by simp [go_sem]) (by simp; omega)

theorem below_grown {w w' : World} (h : Below w.heap.size w w') : w.grownBy w' none := ⟨h.os, h.tape, h.output, h.size, fun k hk _ => h.block k hk⟩

theorem key_tt : keyOf Tryz.prog 9 (.string ⟨#[116, 116]⟩) = some (.string [116, 116]) := keyOf_string_mk Tryz.underlying9 (by decide)

set_option maxHeartbeats 1600000 in
theorem impSigOk_any (a : Option Addr) (ss : List SymD) (n cap : Nat) (w : World) (hn : n = ss.length) (hr : RdS w a ss) (hsz : ∀ s ∈ ss, s.name.size ≤ maxLen) :
    Calls Tryz.prog 63 #[.slice a n cap] w fun e w' => e = .returned (.bool (sigOk ss)) ∧ Below w.heap.size w w' := by
  subst hn
  by_cases h1 : (ss.length : Int) < 1
  · have HN : Hid (sigOk ss = false) := sig_short h1
    go_enter Tryz.func63, Tryz.ntmps63
    go_wp2
    go_ret
    exact ⟨ret_bool HN.out.symm, Below.refl _ _⟩
  by_cases h8 : (8 : Int) < (ss.length : Int)
  · have HN : Hid (sigOk ss = false) := sig_long h8
    go_enter Tryz.func63, Tryz.ntmps63
    go_wp2
    go_ret
    exact ⟨ret_bool HN.out.symm, Below.refl _ _⟩
  have TB := tableOf_any a ss _ cap w rfl hr (by omega) hsz
  have hf0 := field0
  have hf1 := field1
  cases HA0 : againTo ss ss.length with
  | cons x xs =>
    have HN : Hid (sigOk ss = false) := again_bad (by rw [HA0]; simp)
    rw [HA0] at TB
    clear HA0
    go_enter Tryz.func63, Tryz.ntmps63
    go_wp2_with (go_at_call 108; refine TB.mono ?_; rintro e w2 ⟨av, cv, D, rfl, hown, hm, _, hb, _⟩; clear TB)
    go_ret
    exact ⟨ret_bool HN.out.symm, hb.alloc (by have := hb.size; omega) _⟩
  | nil =>
  have HA : Hid (againTo ss ss.length = []) := HA0
  rw [HA0] at TB
  clear HA0
  rcases hr with rfl | ⟨b, off, rfl, hlt, hc⟩
  · simp at h1
  obtain ⟨c0, c1, c2⟩ := hc 0 (by omega)
  simp only [Nat.zero_mul, Nat.add_zero] at c0 c1 c2
  have hp : (0 : Int) < (ss.length : Int) := by omega
  have hp' : 0 < ss.length := by omega
  by_cases hT : isTT ss[0] = true
  · have e0 : ss[0].name = ⟨#[116, 116]⟩ ∧ ss[0].ar = 0 ∧ ss[0].ac = false := isTT_parts hT
    have HT : Hid (isTT ss[0] = true) := hT
    rw [e0.1] at c0
    rw [e0.2.1] at c1
    rw [e0.2.2] at c2
    clear e0 hT
    go_enter Tryz.func63, Tryz.ntmps63
    go_wp2_with (first
      | (go_at_call 108; refine TB.mono ?_; rintro e w2 ⟨av, cv, D, rfl, hown, hm, _, hb, hw2⟩; have hlt2 : b < w2.heap.size := (by have := hb.size; omega); have d0 := (hb.cell (p := ⟨b, off, none⟩) hlt).trans c0; have d1 := (hb.cell (p := ⟨b, off + 1, none⟩) hlt).trans c1; have d2 := (hb.cell (p := ⟨b, off + 2, none⟩) hlt).trans c2; clear TB)
      | (at_delete; (refine wpList_delete_own _ rfl _ _ 126 9 rfl 3 law9 Tryz.underlying126 _ (w.heap.size + 1) ss.length D rfl (hown.alloc _) _ _ rfl key_tt ?_; intro w3 hown3 hturn3; have hg3 := hturn3.grown; have q0 := after_del hg3 (by omega); have hb3 : Below w.heap.size w w3 := (hb.alloc (by omega) _).grown hg3 (by simp; omega) (by intro j hj; cases hj; omega); clear hturn3 hown hb d0 d1 d2))
      | (at_range; (refine wpList_range_own _ rfl _ 126 rfl 9 3 law9 Tryz.underlying126 _ (w.heap.size + 1) ss.length _ rfl hown3 ?_; intro w4 hrg0 hg4 hs4)))
    go_frame
    have hb4 : Below w.heap.size w w4 := hb3.grown hg4 (by have := hb3.size; omega) (by simp)
    have hr3 : w.heap.size ≤ w3.heap.size := hb3.size
    have HR : Hid (∀ n i, n ≠ [116, 116] → (hi : idx ss n = some i) → okB (ss[i]'(idx_lt hi)) = true) → Hid (sigOk ss = true) := fun h => sig_right hp' (by omega) HA.out HT.out h.out
    have HA1 := asked_start hm
    clear q0 hb3 hg3 hg4 hs4 hown3
    go_loopw [5] (fun _ wr => ∃ (left : Lit → Bool) (cnt : Nat), wr.ranges Tryz.prog 9 (plainElem Tryz.prog 3) (w.heap.size + 1) w3.heap.size ss.length (D.del (.string [116, 116])) left cnt ∧ Asked ss (D.del (.string [116, 116])) left ∧ Below w.heap.size w wr) (fun _ wr => wr.rangeLeft (w.heap.size + 1) w3.heap.size)
    case atStart => exact ⟨_, _, hrg0, HA1, hb4⟩
    case round =>
      obtain ⟨left, cnt, hrg, hA, hbr⟩ := hrel
      clear hrg0 hb4 HA1
      go_wp2_with (at_next; refine next_si Tryz.underlying9 Tryz.underlying3 _ rfl _ rfl (w.heap.size + 1) w3.heap.size ss.length _ left cnt rfl hrg ?_ ?_)
      · intro _ hl0
        have HE : Hid (sigOk ss = true) := HR (fun n i hn hi => hA.right n i hn (hl0 _) hi)
        go_wp2
        go_ret
        exact ⟨ret_bool HE.out.symm, hbr⟩
      · intro s c w5 cnt5 hls hat hrg5 hlt5 hg5 hs5 hen
        obtain ⟨i, hi, rfl⟩ := asked_one hm hA hls hat
        have hil := idx_lt hi
        have hil' : (i : Int) < (ss.length : Int) := by omega
        obtain ⟨e0, e1, e2⟩ := hc i hil
        have hb5 : Below w.heap.size w w5 := hbr.grown hg5 hbr.size (by intro j hj; cases hj; omega)
        have f0 := (hb5.cell (p := ⟨b, off + i * 3, none⟩) hlt).trans e0
        have f1 := (hb5.cell (p := ⟨b, off + i * 3 + 1, none⟩) hlt).trans e1
        have f2 := (hb5.cell (p := ⟨b, off + i * 3 + 2, none⟩) hlt).trans e2
        have SO := fun w => symIsOk_any ss[i] w
        clear e0 e1 e2 hat hls
        cases ho : okB ss[i] with
        | true =>
          have hA5 := asked_next hA hi ho
          rw [ho] at SO
          go_wp2_with (go_at_call 109; refine (SO _).mono ?_; rintro e w6 ⟨rfl, hb6⟩)
          go_roundw
          case rel => exact ⟨_, cnt5, hrg5.kept (below_grown hb6) (by simp) (by simp), hA5, hb5.trans (hb6.mono hb5.size)⟩
          case measure => rw [(hrg5.kept (below_grown hb6) (by simp) (by simp)).left_eq, hrg.left_eq]; omega
        | false =>
          have HN : Hid (sigOk ss = false) := sig_bad hil (bad_ok ho)
          rw [ho] at SO
          go_wp2_with (go_at_call 109; refine (SO _).mono ?_; rintro e w6 ⟨rfl, hb6⟩)
          go_ret
          exact ⟨ret_bool HN.out.symm, hb5.trans (hb6.mono hb5.size)⟩
  · rw [Bool.not_eq_true] at hT
    have HN : Hid (sigOk ss = false) := sig_notTT hp' hT
    go_enter Tryz.func63, Tryz.ntmps63
    go_wp2_with (go_at_call 108; refine TB.mono ?_; rintro e w2 ⟨av, cv, D, rfl, hown, hm, _, hb, _⟩; have hlt2 : b < w2.heap.size := (by have := hb.size; omega); have d0 := (hb.cell (p := ⟨b, off, none⟩) hlt).trans c0; have d1 := (hb.cell (p := ⟨b, off + 1, none⟩) hlt).trans c1; have d2 := (hb.cell (p := ⟨b, off + 2, none⟩) hlt).trans c2; clear TB)
    all_goals first
      | (go_ret; exact ⟨ret_bool HN.out.symm, hb.alloc (by have := hb.size; omega) _⟩)
      | (exfalso; revert hT; simp [isTT, *])
end Go.Proofs.YtollijngiioonaaGreat

/- Whether a term is right, as the program tells it. Conditions: terms of at most 549755813888 parts. -/
namespace Go.Proofs.YtollijngiioonaaGreat
set_option maxRecDepth 100000
open Go.RowKit Go.Shelf
attribute [local go_sem] Oper.semAt_some

/-- Right. -/
def tokT (ss : List SymD) (t : TermD) : Bool := sigOk ss && decide (partsT t ≤ 60) && rightT ss t

mutual
theorem parts_pre : ∀ (t x : TermD), x ∈ preT t → partsT x ≤ partsT t
  | .mk f v ks, x, h => by
    rw [preT] at h
    rcases List.mem_cons.1 h with rfl | h
    · exact Nat.le_refl _
    · have := parts_preL ks x h; rw [partsT]; omega
theorem parts_preL : ∀ (ts : List TermD) (x : TermD), x ∈ preL ts → partsT x ≤ partsL ts
  | [], x, h => by simp [preL] at h
  | t :: ts, x, h => by
    rw [preL] at h
    rcases List.mem_append.1 h with h | h
    · have := parts_pre t x h; rw [partsL]; omega
    · have := parts_preL ts x h; rw [partsL]; omega
end

/-- What the loop holds between two rounds. -/
structure TInv (w W0 : World) (sa : Option Addr) (ss : List SymD) (sc : Nat) (pre : List El) (S : Nat → Prop) (W : World) : Prop where
  lo : ∀ k, k < W0.heap.size → S k
  hi : ∀ k, S k → k < W.heap.size
  r : W.cell? ⟨w.heap.size + 1 + 1, 0, none⟩ = some (.bool false)
  f : W.frozen? ⟨w.heap.size + 1 + 1, 0, none⟩ = false
  s : W.cell? ⟨w.heap.size, 0, none⟩ = some (.slice sa ss.length sc)
  b : Below w.heap.size w W
  z : w.heap.size + 1 + 1 < W0.heap.size
  ok : ∀ x ∈ pre, pOk ss x.t = true
theorem TInv.stay {w W0 A B : World} {sa : Option Addr} {ss : List SymD} {sc : Nat} {pre : List El} {S : Nat → Prop} (h : TInv w W0 sa ss sc pre S A) (hs : Stay S A B) : TInv w W0 sa ss sc pre S B := by
  have hz := h.z
  exact ⟨h.lo, fun k hk => Nat.lt_of_lt_of_le (h.hi k hk) hs.size, hs.cell h.r (h.lo _ hz), (hs.frozen (World.block_lt_of_cell? _ _ h.r) (h.lo _ hz)).trans h.f, hs.cell h.s (h.lo _ (by simp only; omega)), h.b.trans (hs.below h.b.size (fun k hk => h.lo k (by omega))), hz, h.ok⟩
theorem TInv.more {w W0 A : World} {sa : Option Addr} {ss : List SymD} {sc : Nat} {pre : List El} {S S' : Nat → Prop} (h : TInv w W0 sa ss sc pre S A) (hs : ∀ k, S k → S' k) (ht : ∀ k, S' k → k < A.heap.size) : TInv w W0 sa ss sc pre S' A :=
  ⟨fun k hk => hs k (h.lo k hk), ht, h.r, h.f, h.s, h.b, h.z, h.ok⟩
/-- What is left where a part is not right. -/
structure TOut (w W0 : World) (ss : List SymD) (pre : List El) (S : Nat → Prop) (W : World) : Prop where
  lo : ∀ k, k < W0.heap.size → S k
  r : W.cell? ⟨w.heap.size + 1 + 1, 0, none⟩ = some (.bool false)
  b : Below w.heap.size w W
  z : w.heap.size + 1 + 1 < W0.heap.size
  hit : ∃ x ∈ pre, pOk ss x.t = false
theorem TOut.stay {w W0 A B : World} {ss : List SymD} {pre : List El} {S : Nat → Prop} (h : TOut w W0 ss pre S A) (hs : Stay S A B) : TOut w W0 ss pre S B := by
  have hz := h.z
  exact ⟨h.lo, hs.cell h.r (h.lo _ hz), h.b.trans (hs.below h.b.size (fun k hk => h.lo k (by omega))), hz, h.hit⟩

set_option maxHeartbeats 3200000 in
theorem impTermOk_any (sa : Option Addr) (ss : List SymD) (sc : Nat) (hsz : ∀ s ∈ ss, s.name.size ≤ maxLen) (t : TermD) (a : Option Addr) (c hi : Nat) (w : World) (hs : RdS w sa ss) (hp : partsT t ≤ 549755813888) (hr : RdK w hi a t.kids) (hhi : hi ≤ w.heap.size) (hc : t.kids.length ≤ c) :
    Calls Tryz.prog 13 #[.slice sa ss.length sc, .agg #[.int .i64 t.f, .int .i64 t.v, .slice a t.kids.length c]] w fun e w' => e = .returned (.bool (tokT ss t)) ∧ Below w.heap.size w w' := by
  refine (callsIn_wide (n := 5)).1 ?_
  refine callsIn_of_wp_marks Tryz.func13 rfl trivial ?_ rfl
  simp only [Tryz.ntmps13, List.size_toArray, List.length_cons, List.length_nil, Nat.reduceAdd, Nat.reduceSub, Array.replicate_succ, Array.replicate_zero, List.push_toArray, List.append_toArray, List.nil_append, List.cons_append]
  obtain ⟨W1, hW1⟩ : ∃ W1, W1 = ((w.alloc (.cells #[.slice sa ss.length sc] 24)).alloc (.cells #[.int .i64 t.f, .int .i64 t.v, .slice a t.kids.length c] 27)).alloc (.cells #[.bool false] 4) := ⟨_, rfl⟩
  have hB1 : Below w.heap.size w W1 := by rw [hW1]; exact (((Below.refl _ _).alloc (Nat.le_refl _) _).alloc (by simp) _).alloc (by simp; omega) _
  have hz1 : W1.heap.size = w.heap.size + 1 + 1 + 1 := by rw [hW1]; simp
  have s1 : W1.cell? ⟨w.heap.size, 0, none⟩ = some (.slice sa ss.length sc) := by rw [hW1]; simp [go_sem]
  have x0 : W1.cell? ⟨w.heap.size + 1, 0, none⟩ = some (.int .i64 t.f) := by rw [hW1]; simp [go_sem]
  have x1 : W1.cell? ⟨w.heap.size + 1, 1, none⟩ = some (.int .i64 t.v) := by rw [hW1]; simp [go_sem]
  have x2 : W1.cell? ⟨w.heap.size + 1, 2, none⟩ = some (.slice a t.kids.length c) := by rw [hW1]; simp [go_sem]
  have r1 : W1.cell? ⟨w.heap.size + 1 + 1, 0, none⟩ = some (.bool false) := by rw [hW1]; simp [go_sem]
  have f1 : W1.frozen? ⟨w.heap.size + 1 + 1, 0, none⟩ = false := by rw [hW1]; simp [go_sem]
  have CS := impSigOk_any sa ss ss.length sc W1 rfl (hs.below hB1) hsz
  have CF := fun W' (h : Below W1.heap.size W1 W') => fewParts_any t a c hi W' hp (hr.on ((hB1.trans (h.mono hB1.size)).mono hhi)) (Nat.le_trans hhi (Nat.le_trans hB1.size h.size)) hc
  cases hsg : sigOk ss with
  | false =>
    rw [hsg] at CS
    have HT : Hid (tokT ss t = false) := by show _ = _; unfold tokT; rw [hsg]; rfl
    clear hsg CF
    gi_wp2_with (first
      | (refine ⟨trivial, ?_⟩; gi_at_call 63; rw [← hW1]; refine (callsIn_wide.2 CS).mono ?_; rintro e w2 ⟨rfl, hb2⟩; have r2 := keepC hb2 r1; have f2 := (hb2.frozen (p := ⟨w.heap.size + 1 + 1, 0, none⟩) (World.block_lt_of_cell? _ _ r1)).trans f1; have s2 := keepC hb2 s1; have y0 := keepC hb2 x0; have y1 := keepC hb2 x1; have y2 := keepC hb2 x2; have hB2 : Below w.heap.size w w2 := hB1.trans (hb2.mono hB1.size); clear CS hW1 r1 f1 s1 x0 x1 x2)
      | (refine ⟨trivial, ?_⟩))
    exact ⟨_, results_bool rfl rfl (b := false) (World.cell?_setCell_same _ _ _ r2), rtB HT.out.symm, hB2.setCell (p := ⟨w.heap.size + 1 + 1, 0, none⟩) (by simp; omega) _⟩
  | true =>
    rw [hsg] at CS
    by_cases h60 : partsT t ≤ 60
    · rw [decide_eq_true h60] at CF
      have HT : Hid (tokT ss t = (preT t).all (pOk ss)) := by show _ = _; unfold tokT; rw [hsg, decide_eq_true h60, right_pre]; simp
      clear hsg
      gi_wp2_with (first
        | (refine ⟨trivial, ?_⟩; gi_at_call 63; rw [← hW1]; refine (callsIn_wide.2 CS).mono ?_; rintro e w2 ⟨rfl, hb2⟩; have r2 := keepC hb2 r1; have f2 := (hb2.frozen (p := ⟨w.heap.size + 1 + 1, 0, none⟩) (World.block_lt_of_cell? _ _ r1)).trans f1; have s2 := keepC hb2 s1; have y0 := keepC hb2 x0; have y1 := keepC hb2 x1; have y2 := keepC hb2 x2; have hB2 : Below w.heap.size w w2 := hB1.trans (hb2.mono hB1.size); clear CS hW1 r1 f1 s1 x0 x1 x2)
        | (refine ⟨trivial, ?_⟩; gi_at_call 64; refine (callsIn_wide.2 (CF _ hb2)).mono ?_; rintro e w3 ⟨rfl, hb3⟩; have r3 := keepC hb3 r2; have f3 := (hb3.frozen (p := ⟨w.heap.size + 1 + 1, 0, none⟩) (World.block_lt_of_cell? _ _ r2)).trans f2; have s3 := keepC hb3 s2; have z0 := keepC hb3 y0; have z1 := keepC hb3 y1; have z2 := keepC hb3 y2; have hB3 : Below w.heap.size w w3 := hB2.trans (hb3.mono hB2.size); have hz3 : w.heap.size + 1 + 1 < w3.heap.size := World.block_lt_of_cell? _ _ r3; clear CF r2 f2 s2 y0 y1 y2 hb2 hb3 hB2)
        | (refine ⟨trivial, ?_⟩; gi_at_call 65; refine (callsIn_wide.2 (within_any t a c _)).mono ?_; rintro e w' ⟨rfl, rfl⟩))
      obtain ⟨W0, hW0⟩ : ∃ W0, W0 = w3.alloc (.cells #[.int .i64 t.f, .int .i64 t.v, .slice a t.kids.length c] 27) := ⟨_, rfl⟩
      have hb0 : Below w3.heap.size w3 W0 := by rw [hW0]; exact (Below.refl _ _).alloc (Nat.le_refl _) _
      have hB0 : Below w.heap.size w W0 := hB3.trans (hb0.mono hB3.size)
      have hz : W0.heap.size = w3.heap.size + 1 := by rw [hW0]; simp
      have t0 : W0.cell? ⟨w3.heap.size, 0, none⟩ = some (.int .i64 t.f) := by rw [hW0]; simp [go_sem]
      have t1 : W0.cell? ⟨w3.heap.size, 1, none⟩ = some (.int .i64 t.v) := by rw [hW0]; simp [go_sem]
      have t2 : W0.cell? ⟨w3.heap.size, 2, none⟩ = some (.slice a t.kids.length c) := by rw [hW0]; simp [go_sem]
      have r0 := keepC hb0 r3
      have f0 := (hb0.frozen (p := ⟨w.heap.size + 1 + 1, 0, none⟩) (World.block_lt_of_cell? _ _ r3)).trans f3
      have s0 := keepC hb0 s3
      rw [← hW0]
      clear hW0 r3 f3 s3 z0 z1 z2
      refine wpIn_rangeFunc_priv rfl (by omega) (gf := 110) (lb := #[.pointer (some ⟨w3.heap.size, 0, none⟩)]) rfl trivial (enters_of Tryz.func110 (by kernel_rfl) rfl)
        (within_seq Fence.wide 4 trivial rfl (by omega) W0 t a c hi w.heap.size w3.heap.size hp hc (hr.on (hB0.mono hhi)) hhi hB0.size t0 t1 t2) hB0.size (Below.refl _ _) (fun _ => rfl)
        (fun pre S W => TInv w W0 sa ss sc pre S W) (fun cd pre S W => cd = .ret ∧ TOut w W0 ss pre S W) (fun pre S A B h hs => h.stay hs)
        (fun _ _ _ _ _ h hs => ⟨h.1, h.2.stay hs⟩) (fun pre S A h => h.hi) (fun k => k < W0.heap.size) (fun _ h => h) ⟨fun _ h => h, fun _ h => h, r0, f0, s0, hB0, by omega, by simp⟩
        (fun pre x S a₁ W => TInv w W0 sa ss sc pre S W ∧ ∃ Bx, BoxEl x Bx S W ∧ a₁ = { tmps := #[.slice sa ss.length sc, .agg #[.int .i64 t.f, .int .i64 t.v, .slice a t.kids.length c], .pointer (some ⟨w.heap.size, 0, none⟩), .pointer (some ⟨w.heap.size + 1, 0, none⟩), .pointer (some ⟨w.heap.size + 1 + 1, 0, none⟩), .pointer (some ⟨Bx, 0, none⟩), .slice sa ss.length sc, .bool true, .bool false, .bool false, .agg #[.int .i64 t.f, .int .i64 t.v, .slice a t.kids.length c], .bool true, .bool false, .bool false, .agg #[.int .i64 t.f, .int .i64 t.v, .slice a t.kids.length c], .func (.func 110) #[] #[.pointer (some ⟨w3.heap.size, 0, none⟩)], .agg #[.int .i64 x.t.f, .int .i64 x.t.v, .slice x.a x.t.kids.length x.c], undef, undef, undef, undef], defers := [] })
        (fun pre x S a₁ A B h hs => by
          obtain ⟨h1, Bx, h2, h3⟩ := h
          exact ⟨h1.stay hs, Bx, h2.stay hs, h3⟩)
        ?assign ?body ?done ?stop
      case assign =>
        intro l pre x S W K hi hlen hok hK
        dsimp only [El.enc]
        gi_wp2
        refine hK _ (fun k => S k ∨ k = W.heap.size) _ ⟨(hi.stay (.alloc _ _ _)).more (fun _ h => .inl h) (fun k h => h.elim (fun h => by have := hi.hi k h; simp; omega) (fun e => by simp; omega)), W.heap.size, ⟨.inr rfl, ?_, ?_, ?_⟩, by simp⟩ (fun k h => h.imp id (fun e => by omega)) (.alloc _ _ _)
        all_goals simp [go_sem]
      case body =>
        rintro l pre x S a₁ W ⟨h, Bx, hx, rfl⟩ hlen hok
        obtain ⟨⟨rr, hpre⟩, hkr, _⟩ := hok
        have hpx : partsL x.t.kids ≤ 549755813888 := by
          have h1 := parts_pre t x.t (by rw [← hpre]; simp)
          have h2 := partsT_eq x.t
          omega
        have C := partOk_any sa ss sc x.t x.a x.c w.heap.size W (hs.below h.b) hpx ((hkr.back (fun k hk => hB0.block k hk)).on h.b) h.b.size
        have x0 := hx.c0
        have x1 := hx.c1
        have x2 := hx.c2
        have hr0 := h.r
        have hf0 := h.f
        have hs0 := h.s
        have hzz := h.z
        cases hvb : pOk ss x.t with
        | true =>
          rw [hvb] at C
          have F0 : Hid (∀ w1, Below W.heap.size W w1 → TInv w W0 sa ss sc (pre ++ [x]) S w1 ∧ Stay (fun k => k < w.heap.size ∨ ¬ S k) W w1) := fun w1 hb => by
            have h1 := h.stay (.of_below hb (fun _ hk _ => hk))
            refine ⟨⟨h1.lo, h1.hi, h1.r, h1.f, h1.s, h1.b, h1.z, fun y hy => ?_⟩, .of_below hb (fun _ hk _ => hk)⟩
            rcases List.mem_append.1 hy with hy | hy
            · exact h1.ok y hy
            · simp only [List.mem_singleton] at hy; subst hy; exact hvb
          clear h hx hvb hkr hpre
          gi_wp2_with (refine ⟨trivial, ?_⟩; gi_at_call 66; refine (CallsIn.inRound l (callsIn_wide.2 C)).mono ?_; rintro e w1 ⟨rfl, hb1⟩; clear C)
          obtain ⟨q1, q2⟩ := F0.out w1 hb1
          exact ⟨S, q1, fun k h => .inl h, q2⟩
        | false =>
          rw [hvb] at C
          have F1 : Hid (∀ w1, Below W.heap.size W w1 → TOut w W0 ss (pre ++ [x]) S (w1.setCell ⟨w.heap.size + 1 + 1, 0, none⟩ (.bool false)) ∧ Stay (fun k => k < w.heap.size ∨ ¬ S k) W (w1.setCell ⟨w.heap.size + 1 + 1, 0, none⟩ (.bool false))) := fun w1 hb => by
            have h1 := h.stay (.of_below hb (fun _ hk _ => hk))
            refine ⟨⟨h1.lo, ?_, h1.b.setCell (p := ⟨w.heap.size + 1 + 1, 0, none⟩) (by simp; omega) _, h1.z, x, by simp, hvb⟩, (Stay.of_below hb (fun _ hk _ => hk)).trans (.setCell _ _ (fun h => h.elim (fun h => by simp only at h; omega) (fun h' => h' (h1.lo _ h1.z))))⟩
            exact World.cell?_setCell_same _ _ _ h1.r
          clear h hx hvb hkr hpre
          gi_wp2_with (refine ⟨trivial, ?_⟩; gi_at_call 66; refine (CallsIn.inRound l (callsIn_wide.2 C)).mono ?_; rintro e w1 ⟨rfl, hb1⟩; clear C; have hr0 := keepC hb1 hr0; have hf0 := (hb1.frozen (p := ⟨w.heap.size + 1 + 1, 0, none⟩) (World.block_lt_of_cell? _ _ ‹W.cell? ⟨w.heap.size + 1 + 1, 0, none⟩ = _›)).trans hf0)
          obtain ⟨q1, q2⟩ := F1.out w1 hb1
          exact ⟨S, ⟨rfl, q1⟩, fun k h => .inl h, q2⟩
      case done =>
        rintro D xs S W hxs h hK hD hSD
        have h3 := h.r
        have h4 := h.f
        have h5 := h.b
        have hg : Hid (tokT ss t = true) := by
          show _ = _
          rw [HT.out, List.all_eq_true]
          intro x hx
          rw [← hxs] at hx
          obtain ⟨y, hy, rfl⟩ := List.mem_map.1 hx
          exact h.ok y hy
        clear h
        gi_wp2
        refine ⟨by simp, .inl ⟨_, _, rfl, run_takeDeferred (by rw [Below.heap_setCell _ _ _ _ (by simp only; omega)]; exact hK), ?_⟩⟩
        have e5 := (h5.setCell (p := ⟨w.heap.size + 1 + 1, 0, none⟩) (by simp; omega) (.bool true))
        exact ⟨_, results_bool rfl rfl (b := true) ((World.cell?_of_block (World.putObj_heap_other (by simp only; omega))).trans (World.cell?_setCell_same _ _ _ h3)), rtB hg.out.symm, e5.trans ((Stay.putObj (S := fun k => k < w.heap.size) _ _ (by omega)).below e5.size (fun _ h => h))⟩
      case stop =>
        rintro D cd pre S W ⟨rr, hpre⟩ ⟨rfl, h⟩ hK hD hSD
        have h3 := h.r
        have h5 := h.b
        have hg : Hid (tokT ss t = false) := by
          obtain ⟨x, hx, hv⟩ := h.hit
          show _ = _
          rw [HT.out, List.all_eq_false]
          exact ⟨x.t, by rw [← hpre]; exact List.mem_append_left _ (List.mem_map_of_mem hx), by simp [hv]⟩
        clear h
        gi_wp2
        refine ⟨by simp, .inl ⟨_, _, rfl, run_takeDeferred hK, ?_⟩⟩
        exact ⟨_, results_bool rfl rfl (b := false) ((World.cell?_of_block (World.putObj_heap_other (by simp only; omega))).trans h3), rtB hg.out.symm, h5.trans ((Stay.putObj (S := fun k => k < w.heap.size) W _ (by omega)).below h5.size (fun _ h => h))⟩
    · rw [decide_eq_false h60] at CF
      have HT : Hid (tokT ss t = false) := by show _ = _; unfold tokT; rw [decide_eq_false h60]; simp
      clear hsg
      gi_wp2_with (first
        | (refine ⟨trivial, ?_⟩; gi_at_call 63; rw [← hW1]; refine (callsIn_wide.2 CS).mono ?_; rintro e w2 ⟨rfl, hb2⟩; have r2 := keepC hb2 r1; have f2 := (hb2.frozen (p := ⟨w.heap.size + 1 + 1, 0, none⟩) (World.block_lt_of_cell? _ _ r1)).trans f1; have s2 := keepC hb2 s1; have y0 := keepC hb2 x0; have y1 := keepC hb2 x1; have y2 := keepC hb2 x2; have hB2 : Below w.heap.size w w2 := hB1.trans (hb2.mono hB1.size); clear CS hW1 r1 f1 s1 x0 x1 x2)
        | (refine ⟨trivial, ?_⟩; gi_at_call 64; refine (callsIn_wide.2 (CF _ hb2)).mono ?_; rintro e w3 ⟨rfl, hb3⟩; have r3 := keepC hb3 r2; have f3 := (hb3.frozen (p := ⟨w.heap.size + 1 + 1, 0, none⟩) (World.block_lt_of_cell? _ _ r2)).trans f2; have s3 := keepC hb3 s2; have z0 := keepC hb3 y0; have z1 := keepC hb3 y1; have z2 := keepC hb3 y2; have hB3 : Below w.heap.size w w3 := hB2.trans (hb3.mono hB2.size); have hz3 : w.heap.size + 1 + 1 < w3.heap.size := World.block_lt_of_cell? _ _ r3; clear CF r2 f2 s2 y0 y1 y2 hb2 hb3 hB2))
      exact ⟨_, results_bool rfl rfl (b := false) (World.cell?_setCell_same _ _ _ r3), rtB HT.out.symm, hB3.setCell (p := ⟨w.heap.size + 1 + 1, 0, none⟩) (by simp; omega) _⟩
theorem impTermOk_all (sa : Option Addr) (ss : List SymD) (sc : Nat) (hsz : ∀ s ∈ ss, s.name.size ≤ maxLen) (t : TermD) (a : Option Addr) (c hi : Nat) (w : World) (hs : RdS w sa ss) (hp : partsT t ≤ 549755813888) (hr : RdK w hi a t.kids) (hhi : hi ≤ w.heap.size) (hc : t.kids.length ≤ c) :
    Calls Tryz.prog 13 #[.slice sa ss.length sc, .agg #[.int .i64 t.f, .int .i64 t.v, .slice a t.kids.length c]] w fun e w' => e = .returned (.bool (sigOk ss && decide (partsT t ≤ 60) && rightT ss t)) ∧ Below w.heap.size w w' :=
  impTermOk_any sa ss sc hsz t a c hi w hs hp hr hhi hc
end Go.Proofs.YtollijngiioonaaGreat

