/- Whether a blind function's Kids stand right, as the program tells it. Conditions: at most 4194304 parts. -/
import Derived.Test.YtpmmgplpmonolaaImp3
import Derived.Test.YtpmmgplpmonolaaNormD
import Derived.Deep.RegionHeld3
namespace Go.Proofs.Ytpmmgplpmonolaa
set_option maxRecDepth 100000
open Go.RowKit

/-- The Kids of a blind function: none of that function, none before the one ahead of it. -/
def bkL (f : Int) : Option TermD → List TermD → Bool
  | _, [] => true
  | p, k :: ks => !(k.f == f || befO k p) && bkL f (some k) ks
def bkOk (f : Int) (ks : List TermD) : Bool := decide (2 ≤ ks.length) && bkL f none ks

set_option maxHeartbeats 3200000 in
theorem blindKidsOk_any (f : Int) (ks : List TermD) (a : Option Addr) (c hi : Nat) (w : World) (hp : partsL ks ≤ 4194304) (hr : RdK w hi a ks) (hhi : hi ≤ w.heap.size) :
    Calls Try.prog 97 #[.int .i64 f, .slice a ks.length c] w fun e w' => e = .returned (.bool (bkOk f ks)) ∧ Below w.heap.size w w' := by
  have hlen := partsL_len ks
  by_cases h2 : ks.length < 2
  · have HB : Hid (bkOk f ks = false) := by show _ = _; unfold bkOk; rw [decide_eq_false (by omega)]; rfl
    go_enter Try.func97, Try.ntmps97
    go_wp2
    go_ret
    exact ⟨rtB HB.out.symm, Below.refl _ _⟩
  · have HB : Hid (bkOk f ks = bkL f none ks) := by show _ = _; unfold bkOk; rw [decide_eq_true (by omega)]; rfl
    go_enter Try.func97, Try.ntmps97
    have HR : Hid (RdK w hi a ks) := hr
    clear hr
    go_wp2
    go_loopw [12] (fun i wr => ∃ k : Nat, k ≤ ks.length ∧ i = .int .i64 k ∧ Hid (bkL f none ks = bkL f (if k = 0 then none else ks[k-1]?) (ks.drop k)) ∧ Below w.heap.size w wr) (fun i _ => ks.length - (intOf i).toNat)
    case atStart => exact ⟨0, Nat.zero_le _, rfl, by show _ = _; simp, Below.refl _ _⟩
    case round =>
      obtain ⟨k, hk, rfl, HK, hb⟩ := hrel
      by_cases hk' : k < ks.length
      · obtain ⟨b, off, a', c', rfl, hlt, d0, d1, d2, hle, hkr⟩ := RdK.kidc (HR.out.on (hb.mono hhi)) hk'
        have hki : (k : Int) < (ks.length : Int) := by omega
        have hpg := partsL_get hk'
        have HD : Hid (ks.drop k = ks[k] :: ks.drop (k + 1)) := List.drop_eq_getElem_cons hk'
        by_cases hf : ks[k].f = f
        · have HB2 : Hid (bkOk f ks = false) := by show _ = _; rw [HB.out, HK.out, HD.out, bkL]; simp [hf]
          have hfe : (ks[k].f == f) = true := by simp [hf]
          clear HK HB HD hf hkr
          go_wp2_with fail
          obtain ⟨W1, hW1⟩ : ∃ W1, W1 = wr.alloc (.cells #[.int .i64 ks[k].f, .int .i64 ks[k].v, .slice a' ks[k].kids.length c'] 27) := ⟨_, rfl⟩
          have hb1 : Below w.heap.size w W1 := by rw [hW1]; exact hb.alloc hb.size _
          have x0 : W1.cell? ⟨wr.heap.size, 0, none⟩ = some (.int .i64 ks[k].f) := by rw [hW1]; simp [go_sem]
          have x1 : W1.cell? ⟨wr.heap.size, 1, none⟩ = some (.int .i64 ks[k].v) := by rw [hW1]; simp [go_sem]
          have x2 : W1.cell? ⟨wr.heap.size, 2, none⟩ = some (.slice a' ks[k].kids.length c') := by rw [hW1]; simp [go_sem]
          rw [← hW1]
          clear hW1
          go_quiet ((fail))
          go_wp2_with fail
          go_ret
          exact ⟨rtB HB2.out.symm, below_drewN hb1 _⟩
        · have hfe : (ks[k].f == f) = false := by simp [hf]
          by_cases hk0 : k = 0
          · have HN : Hid (bkL f none ks = bkL f (some ks[k]) (ks.drop (k + 1))) := by show _ = _; rw [HK.out, HD.out, bkL, if_pos hk0, hfe]; rfl
            have hkn : decide ((0 : Int) < (k : Int)) = false := by simp; omega
            have hkn2 : decide (0 < k) = false := by simp; omega
            clear HK HD hf hkr hk0
            go_wp2_with fail
            obtain ⟨W1, hW1⟩ : ∃ W1, W1 = wr.alloc (.cells #[.int .i64 ks[k].f, .int .i64 ks[k].v, .slice a' ks[k].kids.length c'] 27) := ⟨_, rfl⟩
            have hb1 : Below w.heap.size w W1 := by rw [hW1]; exact hb.alloc hb.size _
            have x0 : W1.cell? ⟨wr.heap.size, 0, none⟩ = some (.int .i64 ks[k].f) := by rw [hW1]; simp [go_sem]
            have x1 : W1.cell? ⟨wr.heap.size, 1, none⟩ = some (.int .i64 ks[k].v) := by rw [hW1]; simp [go_sem]
            have x2 : W1.cell? ⟨wr.heap.size, 2, none⟩ = some (.slice a' ks[k].kids.length c') := by rw [hW1]; simp [go_sem]
            rw [← hW1]
            clear hW1
            go_quiet ((fail))
            go_wp2_with fail
            go_roundw
            case rel => exact ⟨k + 1, by omega, by go_num, by show _ = _; rw [HN.out, if_neg (by omega), show k + 1 - 1 = k by omega, List.getElem?_eq_getElem hk'], below_drewN hb1 _⟩
            case measure => simp [intOf]; omega
          · obtain ⟨j, rfl⟩ : ∃ j, k = j + 1 := ⟨k - 1, by omega⟩
            have hj : j < ks.length := by omega
            obtain ⟨b2, off2, a2, c2, e2, hlt2, g0, g1, g2, hle2, hkr2⟩ := RdK.kidc (HR.out.on (hb.mono hhi)) hj
            cases e2
            have hkn : (0 : Int) < ((j + 1 : Nat) : Int) := by omega
            have hj0 : (0 : Int) ≤ (j : Int) := by omega
            have hj1 : (j : Int) < (ks.length : Int) := by omega
            have hj2 : (ks.length : Int) ≤ 4194304 := by omega
            have hsub : IntKind.i64.wrap (((j + 1 : Nat) : Int) - 1) = (j : Int) := by rw [IntKind.wrap_i64]; omega
            have hsub2 : IntKind.i64.wrap ((j : Int) + 1 - 1) = (j : Int) := by rw [IntKind.wrap_i64]; omega
            have hsub3 : IntKind.i64.wrap (j : Int) = (j : Int) := by rw [IntKind.wrap_i64]; omega
            cases hbf : befT ks[j + 1] ks[j] with
            | true =>
              have HB2 : Hid (bkOk f ks = false) := by show _ = _; rw [HB.out, HK.out, HD.out, bkL, if_neg hk0, show j + 1 - 1 = j by omega, List.getElem?_eq_getElem hj]; simp [befO, hbf]
              have CC : ∀ W1, Below wr.heap.size wr W1 → ∀ W', Below W1.heap.size W1 W' → Calls Try.prog 84 #[.agg #[.int .i64 ks[j + 1].f, .int .i64 ks[j + 1].v, .slice a' ks[j + 1].kids.length c'], .agg #[.int .i64 ks[j].f, .int .i64 ks[j].v, .slice a2 ks[j].kids.length c2]] W' fun e w' => e = .returned (.bool true) ∧ Below W'.heap.size W' w' := fun W1 h1 W' h2 => by
                have hh : Below wr.heap.size wr W' := h1.trans (h2.mono h1.size)
                have hiw : hi ≤ wr.heap.size := Nat.le_trans hhi hb.size
                have := impBef_any (partsT ks[j + 1]) ks[j + 1] ks[j] a' a2 c' c2 hi W' (Nat.le_refl _) (by omega) (hkr.on (hh.mono hiw)) (hkr2.on (hh.mono hiw)) (Nat.le_trans hiw hh.size) hle hle2
                rwa [hbf] at this
              clear HK HD hf hk0 hbf
              go_wp2_with fail
              obtain ⟨W1, hW1⟩ : ∃ W1, W1 = wr.alloc (.cells #[.int .i64 ks[j + 1].f, .int .i64 ks[j + 1].v, .slice a' ks[j + 1].kids.length c'] 27) := ⟨_, rfl⟩
              have hb1 : Below w.heap.size w W1 := by rw [hW1]; exact hb.alloc hb.size _
              have hb01 : Below wr.heap.size wr W1 := by rw [hW1]; exact (Below.refl _ _).alloc (Nat.le_refl _) _
              have x0 : W1.cell? ⟨wr.heap.size, 0, none⟩ = some (.int .i64 ks[j + 1].f) := by rw [hW1]; simp [go_sem]
              have x1 : W1.cell? ⟨wr.heap.size, 1, none⟩ = some (.int .i64 ks[j + 1].v) := by rw [hW1]; simp [go_sem]
              have x2 : W1.cell? ⟨wr.heap.size, 2, none⟩ = some (.slice a' ks[j + 1].kids.length c') := by rw [hW1]; simp [go_sem]
              have y0 := keepC hb01 g0
              have y1 := keepC hb01 g1
              have y2 := keepC hb01 g2
              rw [← hW1]
              have C := CC W1 hb01
              clear hW1 CC g0 g1 g2 d0 d1 d2
              go_region_held3 (fun w' => w'.cell? ⟨wr.heap.size, 0, none⟩ = some (.int .i64 ks[j + 1].f) ∧ w'.cell? ⟨wr.heap.size, 1, none⟩ = some (.int .i64 ks[j + 1].v) ∧ w'.cell? ⟨wr.heap.size, 2, none⟩ = some (.slice a' ks[j + 1].kids.length c') ∧ w'.cell? ⟨b, off + j * 3, none⟩ = some (.int .i64 ks[j].f) ∧ w'.cell? ⟨b, off + j * 3 + 1, none⟩ = some (.int .i64 ks[j].v) ∧ w'.cell? ⟨b, off + j * 3 + 2, none⟩ = some (.slice a2 ks[j].kids.length c2)) (first | go_keep | exact ⟨x0, x1, x2, y0, y1, y2⟩)
                ((go_at_call 84; refine (C _ ?_).mono ?_; exact (Below.refl _ _).drew; rintro e w2 ⟨rfl, hb0⟩; have hb2 : Below W1.heap.size W1 w2 := (Below.refl _ _).drew.trans hb0; have hB2 : Below w.heap.size w w2 := hb1.trans (hb2.mono hb1.size); have z0 := keepC hb2 x0; have z1 := keepC hb2 x1; have z2 := keepC hb2 x2; have u0 := keepC hb2 y0; have u1 := keepC hb2 y1; have u2 := keepC hb2 y2; clear x0 x1 x2 y0 y1 y2 C hb0 hb2))
              go_wp2_with fail
              go_ret
              exact ⟨rtB HB2.out.symm, hB2⟩
            | false =>
              have HN : Hid (bkL f none ks = bkL f (some ks[j + 1]) (ks.drop (j + 1 + 1))) := by show _ = _; rw [HK.out, HD.out, bkL, if_neg hk0, show j + 1 - 1 = j by omega, List.getElem?_eq_getElem hj]; simp [befO, hbf, hfe]
              have CC : ∀ W1, Below wr.heap.size wr W1 → ∀ W', Below W1.heap.size W1 W' → Calls Try.prog 84 #[.agg #[.int .i64 ks[j + 1].f, .int .i64 ks[j + 1].v, .slice a' ks[j + 1].kids.length c'], .agg #[.int .i64 ks[j].f, .int .i64 ks[j].v, .slice a2 ks[j].kids.length c2]] W' fun e w' => e = .returned (.bool false) ∧ Below W'.heap.size W' w' := fun W1 h1 W' h2 => by
                have hh : Below wr.heap.size wr W' := h1.trans (h2.mono h1.size)
                have hiw : hi ≤ wr.heap.size := Nat.le_trans hhi hb.size
                have := impBef_any (partsT ks[j + 1]) ks[j + 1] ks[j] a' a2 c' c2 hi W' (Nat.le_refl _) (by omega) (hkr.on (hh.mono hiw)) (hkr2.on (hh.mono hiw)) (Nat.le_trans hiw hh.size) hle hle2
                rwa [hbf] at this
              clear HK HD hf hk0 hbf
              go_wp2_with fail
              obtain ⟨W1, hW1⟩ : ∃ W1, W1 = wr.alloc (.cells #[.int .i64 ks[j + 1].f, .int .i64 ks[j + 1].v, .slice a' ks[j + 1].kids.length c'] 27) := ⟨_, rfl⟩
              have hb1 : Below w.heap.size w W1 := by rw [hW1]; exact hb.alloc hb.size _
              have hb01 : Below wr.heap.size wr W1 := by rw [hW1]; exact (Below.refl _ _).alloc (Nat.le_refl _) _
              have x0 : W1.cell? ⟨wr.heap.size, 0, none⟩ = some (.int .i64 ks[j + 1].f) := by rw [hW1]; simp [go_sem]
              have x1 : W1.cell? ⟨wr.heap.size, 1, none⟩ = some (.int .i64 ks[j + 1].v) := by rw [hW1]; simp [go_sem]
              have x2 : W1.cell? ⟨wr.heap.size, 2, none⟩ = some (.slice a' ks[j + 1].kids.length c') := by rw [hW1]; simp [go_sem]
              have y0 := keepC hb01 g0
              have y1 := keepC hb01 g1
              have y2 := keepC hb01 g2
              rw [← hW1]
              have C := CC W1 hb01
              clear hW1 CC g0 g1 g2 d0 d1 d2
              go_region_held3 (fun w' => w'.cell? ⟨wr.heap.size, 0, none⟩ = some (.int .i64 ks[j + 1].f) ∧ w'.cell? ⟨wr.heap.size, 1, none⟩ = some (.int .i64 ks[j + 1].v) ∧ w'.cell? ⟨wr.heap.size, 2, none⟩ = some (.slice a' ks[j + 1].kids.length c') ∧ w'.cell? ⟨b, off + j * 3, none⟩ = some (.int .i64 ks[j].f) ∧ w'.cell? ⟨b, off + j * 3 + 1, none⟩ = some (.int .i64 ks[j].v) ∧ w'.cell? ⟨b, off + j * 3 + 2, none⟩ = some (.slice a2 ks[j].kids.length c2)) (first | go_keep | exact ⟨x0, x1, x2, y0, y1, y2⟩)
                ((go_at_call 84; refine (C _ ?_).mono ?_; exact (Below.refl _ _).drew; rintro e w2 ⟨rfl, hb0⟩; have hb2 : Below W1.heap.size W1 w2 := (Below.refl _ _).drew.trans hb0; have hB2 : Below w.heap.size w w2 := hb1.trans (hb2.mono hb1.size); have z0 := keepC hb2 x0; have z1 := keepC hb2 x1; have z2 := keepC hb2 x2; have u0 := keepC hb2 y0; have u1 := keepC hb2 y1; have u2 := keepC hb2 y2; clear x0 x1 x2 y0 y1 y2 C hb0 hb2))
              go_wp2_with fail
              go_roundw
              case rel => exact ⟨j + 1 + 1, by omega, by go_num, by show _ = _; rw [HN.out, if_neg (by omega), show j + 1 + 1 - 1 = j + 1 by omega, List.getElem?_eq_getElem hk'], hB2⟩
              case measure => simp [intOf]; omega
      · have HE : Hid (bkOk f ks = true) := by
          show _ = _
          rw [HB.out, HK.out, List.drop_eq_nil_of_le (by omega), bkL]
        clear HK HB
        go_wp2_with fail
        go_ret
        exact ⟨rtB HE.out.symm, hb⟩
end Go.Proofs.Ytpmmgplpmonolaa
