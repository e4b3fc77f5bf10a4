/- The law FnExactApply answers true at every list of functions, everything put and every term, and leaves them as they were: at every argument Apply answers as its specification, writes into no argument, and its answer owns its memory. Conditions: none beyond the given row's own. -/
import Derived.Test.YtcbafmohmoicnabRows
import Derived.Test.YtcbafmohmoicnabPackExactApply10
import Derived.WalkKit
import Derived.ProofKit
import Derived.OpenShut
import Derived.ShutString
import Derived.ChangeOld
import Derived.Below
namespace Go.Proofs.Ytcbafmohmoicnab.fnExactApply
open Go.ChangeShapes Go.WideShapes Go.ChangeAt Go.RowKit
open Go.ChangeMaps (open_string shut_string)
set_option linter.unusedVariables false

theorem own : ownKnob Try.prog.godebug = none := by kernel_rfl
theorem laidOut : laidOutB Try.prog = true := by kernel_rfl

theorem box_on {W W' : World} {b0 : Nat} {x0 x1 x2 : Value} (h : W.cell? ⟨b0, 0, none⟩ = some x0 ∧ W.cell? ⟨b0, 1, none⟩ = some x1 ∧ W.cell? ⟨b0, 2, none⟩ = some x2) (hb : Below W.heap.size W W') :
    W'.cell? ⟨b0, 0, none⟩ = some x0 ∧ W'.cell? ⟨b0, 1, none⟩ = some x1 ∧ W'.cell? ⟨b0, 2, none⟩ = some x2 := ⟨keepC hb h.1, keepC hb h.2.1, keepC hb h.2.2⟩
theorem size_le {ss : List SymD} {s : SymD} (h : s ∈ ss) : s.name.size ≤ bytesOf ss := by
  induction ss with
  | nil => simp at h
  | cons t ss ih =>
    simp only [bytesOf, List.map_cons, List.sum_cons] at *
    rcases List.mem_cons.1 h with rfl | h
    · omega
    · have := ih h; omega

set_option maxHeartbeats 6400000 in
set_option maxRecDepth 100000 in
/-- The law's own walk: it answers true, and nothing that was there is written. -/
theorem walk (w : World) (a0 : Option Addr) (len0 cap0 : Nat) (ss : List SymD) (hn : len0 = ss.length) (hle0 : len0 ≤ maxLen) (hr0 : RdS w a0 ss) (hall : ∀ s ∈ ss, s.name.size ≤ maxLen ∧ (Lit.int .i64 s.ar).wf = true)
    (ka : Option Addr) (klen kcap : Nat) (us : List BindD) (hkn : klen = us.length) (hkle : klen ≤ maxLen ∧ klen ≤ kcap) (hkr : RdU w w.heap.size ka us)
    (t : TermD) (a : Option Addr) (c : Nat) (hf : isW t.f) (hv : isW t.v) (hle : t.kids.length ≤ maxLen) (hr : RdK w w.heap.size a t.kids) :
    Calls Try.prog 3 #[.slice a0 len0 cap0, .slice ka klen kcap, .agg #[.int .i64 t.f, .int .i64 t.v, .slice a t.kids.length c]] w fun e w' => e = .returned (.bool true) ∧ Below w.heap.size w w' := by
  have hsz : ∀ s ∈ ss, s.name.size ≤ maxLen := fun s hs => (hall s hs).1
  unfold maxLen at hle0
  subst hn hkn
  have hul : us.length ≤ 9223372036854775807 := by have := hkle.1; unfold maxLen at this; omega
  obtain ⟨W, hW⟩ : ∃ W, W = w.alloc (.cells #[.int .i64 t.f, .int .i64 t.v, .slice a t.kids.length c] 26) := ⟨_, rfl⟩
  have hB0 : Below w.heap.size w W := by rw [hW]; exact (Below.refl _ _).alloc (Nat.le_refl _) _
  have SY := szSyms_any a0 ss ss.length cap0 1048576 W rfl (hr0.below hB0) (by omega) (by omega) (by omega) (fun s hs => by have := hsz s hs; unfold maxLen at this; omega)
  have P0 : W.cell? ⟨w.heap.size, 0, none⟩ = some (.int .i64 t.f) ∧ W.cell? ⟨w.heap.size, 1, none⟩ = some (.int .i64 t.v) ∧ W.cell? ⟨w.heap.size, 2, none⟩ = some (.slice a t.kids.length c) := by rw [hW]; simp [go_sem]
  have hpt := partsT_eq t
  have HKR : Hid (RdU w w.heap.size ka us) := hkr
  have HRK : Hid (RdK w w.heap.size a t.kids) := hr
  clear hle hkle hkr hr
  go_enter Try.func3, Try.ntmps3
  go_wp2_with (go_at_call 8; rw [← hW]; refine SY.mono ?_; rintro e w1 ⟨r, rfl, hsm, hrm, hb⟩; have hB1 : Below w.heap.size w w1 := hB0.trans (hb.mono hB0.size); obtain ⟨p0, p1, p2⟩ := box_on P0 hb; clear SY P0 hb hW hB0)
  · go_ret
    exact ⟨rfl, hB1⟩
  · have hr0' : 0 ≤ r := by omega
    have hsum := hsm hr0'
    have hl : ss.length ≤ 1048577 := by omega
    have SU := szBindS_any us ka kcap w.heap.size r w1 hr0' hrm hul (HKR.out.on hB1) hB1.size
    clear hsm
    by_cases hb0 : (partsU us : Int) ≤ r
    · rw [show szU us r = r - partsU us by unfold szU; rw [if_pos hb0]] at SU
      have hn0 : ¬ (r - (partsU us : Int)) < 0 := by omega
      have hm0 : r - (partsU us : Int) ≤ 1048576 := by omega
      have hp0 : 0 ≤ r - (partsU us : Int) := by omega
      have SZ := fun (W' : World) (h : Below w.heap.size w W') => szTerm_any t a c w.heap.size (r - (partsU us : Int)) W' hp0 hm0 (HRK.out.on h) h.size
      by_cases hb1 : (partsL t.kids : Int) ≤ r - (partsU us : Int)
      · rw [show szR t.kids (r - (partsU us : Int)) = r - (partsU us : Int) - partsL t.kids by unfold szR; rw [if_pos hb1]] at SZ
        have hn1 : ¬ (r - (partsU us : Int) - (partsL t.kids : Int)) < 0 := by omega
        have hp1 : partsT t ≤ 549755813888 := by omega
        have hpu : partsU us ≤ 549755813887 := by omega
        have hpu2 : partsU us ≤ 1048576 := by omega
        have hpt2 : partsT t ≤ 1048577 := by omega
        have hul2 : us.length ≤ 549755813888 := by unfold partsU at hpu; omega
        have hpp : partsT (putV us t) ≤ 549755813888 := put_small (by omega)
        clear hpt hb1 hb0 hsum hp0 hm0
        generalize r - (partsU us : Int) = r2 at SU SZ hn0 hn1
        generalize r2 - (partsL t.kids : Int) = r3 at SZ hn1
        obtain ⟨N, hN⟩ : ∃ N, N = normT (blindAt ss) (putV us t) := ⟨_, rfl⟩
        have hpN : partsT N ≤ 549755813888 := by have := normT_parts (blindAt ss) (putV us t); rw [← hN] at this; omega
        have hNf : N.f = (putV us t).f := by rw [hN, normT_eq]; rfl
        have hNv : N.v = (putV us t).v := by rw [hN, normT_eq]; rfl
        have CS : ∀ (sa ua y : Option Addr) (sc uc c' hi : Nat) (W' : World), RdS W' sa ss → RdU W' hi ua us → RdK W' hi y t.kids → hi ≤ W'.heap.size → Calls Try.prog 11 #[.slice sa ss.length sc, .slice ua us.length uc, .agg #[.int .i64 t.f, .int .i64 t.v, .slice y t.kids.length c']] W' fun e w' => ∃ a' c'', e = .returned (.agg #[.int .i64 N.f, .int .i64 N.v, .slice a' N.kids.length c'']) ∧ OwnS w' (fun k => W'.heap.size ≤ k ∧ k < w'.heap.size) a' N.kids ∧ Below W'.heap.size W' w' := fun sa ua y sc uc c' hi W' h1 h2 h3 h4 => by
          have := specApply_any sa ss sc us ua uc t y c' hi W' hl hpu h2 h1 hp1 hpp h3 h4 ⟨hf, hv⟩
          rw [← hNf, ← hNv, ← hN] at this
          exact this
        have CI : ∀ (sa ua y : Option Addr) (sc uc c' hi : Nat) (W' : World), RdS W' sa ss → RdU W' hi ua us → RdK W' hi y t.kids → hi ≤ W'.heap.size → t.kids.length ≤ c' → Calls Try.prog 15 #[.slice sa ss.length sc, .slice ua us.length uc, .agg #[.int .i64 t.f, .int .i64 t.v, .slice y t.kids.length c']] W' fun e w' => ∃ a' c'', e = .returned (.agg #[.int .i64 N.f, .int .i64 N.v, .slice a' N.kids.length c'']) ∧ OwnS w' (fun k => W'.heap.size ≤ k ∧ k < w'.heap.size) a' N.kids ∧ N.kids.length ≤ c'' ∧ Below W'.heap.size W' w' := fun sa ua y sc uc c' hi W' h1 h2 h3 h4 h5 => by
          have := impApply_any sa ss sc us ua uc hi t y c' hi W' hul2 h2 h4 h1 hp1 hpp h3 h4 h5 ⟨hf, hv⟩
          rw [← hNf, ← hNv, ← hN] at this
          exact this
        have TB := fun (W' : World) (h : Below w.heap.size w W') => toBindS_any us ka kcap w.heap.size W' hpu (HKR.out.on h) h.size
        have TT := fun (W' : World) (h : Below w.heap.size w W') => toTerm_any t a c w.heap.size W' hp1 (HRK.out.on h) h.size
        have EQ : ∀ (a1 a2 : Option Addr) (c1 c2 hi : Nat) (W' : World), RdK W' hi a1 N.kids → RdK W' hi a2 N.kids → hi ≤ W'.heap.size → Calls Try.prog 16 #[.agg #[.int .i64 N.f, .int .i64 N.v, .slice a1 N.kids.length c1], .agg #[.int .i64 N.f, .int .i64 N.v, .slice a2 N.kids.length c2]] W' fun e w' => e = .returned (.bool true) ∧ Below W'.heap.size W' w' := fun a1 a2 c1 c2 hi W' h1 h2 h3 => eqTerm_same N a1 a2 c1 c2 hi W' hpN h1 h2 h3
        clear hN hNf hNv hpp hf hv
        go_upto_region 11 with (first
          | (go_at_call 9; refine SU.mono ?_; rintro e w2 ⟨rfl, hb⟩; have hB2 : Below w.heap.size w w2 := hB1.trans (hb.mono hB1.size); have P0 := box_on ⟨p0, p1, p2⟩ hb; clear p0 p1 p2; obtain ⟨p0, p1, p2⟩ := P0; clear SU hb hB1)
          | (go_at_call 10; refine (SZ w2 hB2).mono ?_; rintro e w3 ⟨rfl, hb⟩; have hB3 : Below w.heap.size w w3 := hB2.trans (hb.mono hB2.size); have P0 := box_on ⟨p0, p1, p2⟩ hb; clear p0 p1 p2; obtain ⟨p0, p1, p2⟩ := P0; clear SZ hb hB2))
        go_cut [8] from 17 (fun s8 wc => ∃ (B6 : Nat) (aw : Option Addr) (cw : Nat), s8 = .pointer (some ⟨B6, 0, none⟩) ∧ AQ w t a c N B6 aw cw wc.heap.size wc)
        case first =>
          have hw3 : w.heap.size < w3.heap.size := World.block_lt_of_cell? _ _ p0
          go_region_held3 (fun w' => w'.cell? ⟨w.heap.size, 0, none⟩ = some (.int .i64 t.f) ∧ w'.cell? ⟨w.heap.size, 1, none⟩ = some (.int .i64 t.v) ∧ w'.cell? ⟨w.heap.size, 2, none⟩ = some (.slice a t.kids.length c)) (first | ((refine ⟨keepC ?_ p0, keepC ?_ p1, keepC ?_ p2⟩ <;> (repeat (first | exact Below.refl _ _ | refine Below.drew ?_ | refine Below.alloc ?_ (by simp) _))); done) | exact ⟨set3_keep p0 (by omega), set3_keep p1 (by omega), set3_keep p2 (by omega)⟩ | go_keep)
            (first
              | (go_at_call 12; refine (toSyms_any a0 ss _ cap0 _ rfl ?_ hl).mono ?_; exact hr0.below (hB3.trans (Below.mono (B := w3.heap.size) (by repeat (first | exact Below.refl _ _ | refine Below.drew ?_ | refine Below.alloc ?_ (by simp) _)) hB3.size)); rintro e w4 ⟨rfl, ho4, hb0⟩; have hb : Below w3.heap.size w3 w4 := below_step (by repeat (first | exact Below.refl _ _ | refine Below.drew ?_ | refine Below.alloc ?_ (by simp) _)) hb0; have hc4 := RdS.own rfl ho4; (try rw [show ∀ X : World, X.drew.heap.size = X.heap.size from fun _ => rfl] at hc4); (try rw [World.size_alloc] at hc4); have hB4 : Below w.heap.size w w4 := hB3.trans (hb.mono hB3.size); have P0 := box_on ⟨p0, p1, p2⟩ hb; clear p0 p1 p2; obtain ⟨p0, p1, p2⟩ := P0; have hz4 := hb.size; (first | (have HBz : Hid (Bz w4 w3.heap.size) := Bz.on (Bz.on (Bz.new w3) (Below.refl _ _).drew) hb0; have hlt3 := HBz.out.1.lt) | (have HBz : Hid (Bz w4 w3.heap.size) := Bz.on (Bz.new w3.drew) hb0; have hlt3 := HBz.out.1.lt) | (have HBz : Hid (Bz w4 w3.heap.size) := Bz.on (Bz.new w3) hb0; have hlt3 := HBz.out.1.lt) | skip); clear hb hb0 ho4)
              | (go_at_call 13; refine (TB _ (hB4.trans (Below.mono (B := w4.heap.size) (by repeat (first | exact Below.refl _ _ | refine Below.drew ?_ | refine Below.alloc ?_ (by simp) _)) hB4.size))).mono ?_; rintro e w5 ⟨rfl, ho5, hb0⟩; have hb : Below w4.heap.size w4 w5 := below_step (by repeat (first | exact Below.refl _ _ | refine Below.drew ?_ | refine Below.alloc ?_ (by simp) _)) hb0; have hu5 := ho5.rd; (try rw [show ∀ X : World, X.drew.heap.size = X.heap.size from fun _ => rfl] at hu5); (try rw [World.size_alloc] at hu5); have hc5 := hc4.below hb; have hB5 : Below w.heap.size w w5 := hB4.trans (hb.mono hB4.size); have P0 := box_on ⟨p0, p1, p2⟩ hb; clear p0 p1 p2; obtain ⟨p0, p1, p2⟩ := P0; have hz5 := hb.size; (first | (have Z2 : Hid (Bz w5 w3.heap.size) := HBz.out.on hb; clear HBz; have HBz := Z2; clear Z2) | (have HBz : Hid (Bz w5 w4.heap.size) := Bz.on (Bz.on (Bz.new w4) (Below.refl _ _).drew) hb0; have hlt3 := HBz.out.1.lt) | (have HBz : Hid (Bz w5 w4.heap.size) := Bz.on (Bz.new w4.drew) hb0; have hlt3 := HBz.out.1.lt) | (have HBz : Hid (Bz w5 w4.heap.size) := Bz.on (Bz.new w4) hb0; have hlt3 := HBz.out.1.lt) | skip); clear hb hb0 ho5 hc4)
              | (go_at_call 14; refine (TT _ (hB5.trans (Below.mono (B := w5.heap.size) (by repeat (first | exact Below.refl _ _ | refine Below.drew ?_ | refine Below.alloc ?_ (by simp) _)) hB5.size))).mono ?_; rintro e w6 ⟨x1, rfl, ho6, hb0⟩; have hb : Below w5.heap.size w5 w6 := below_step (by repeat (first | exact Below.refl _ _ | refine Below.drew ?_ | refine Below.alloc ?_ (by simp) _)) hb0; have hc6 := hc5.below hb; have hu6 := (hu5.on hb).mono hb.size; have hB6 : Below w.heap.size w w6 := hB5.trans (hb.mono hB5.size); have P0 := box_on ⟨p0, p1, p2⟩ hb; clear p0 p1 p2; obtain ⟨p0, p1, p2⟩ := P0; have hz6 := hb.size; (first | (have Z2 : Hid (Bz w6 w3.heap.size) := HBz.out.on hb; clear HBz; have HBz := Z2; clear Z2) | (have Z2 : Hid (Bz w6 w4.heap.size) := HBz.out.on hb; clear HBz; have HBz := Z2; clear Z2) | (have HBz : Hid (Bz w6 w5.heap.size) := Bz.on (Bz.on (Bz.new w5) (Below.refl _ _).drew) hb0; have hlt3 := HBz.out.1.lt) | (have HBz : Hid (Bz w6 w5.heap.size) := Bz.on (Bz.new w5.drew) hb0; have hlt3 := HBz.out.1.lt) | (have HBz : Hid (Bz w6 w5.heap.size) := Bz.on (Bz.new w5) hb0; have hlt3 := HBz.out.1.lt) | skip); clear hb hb0 hc5 hu5)
              | (go_at_call 11; refine (CS _ _ x1 _ _ _ w6.heap.size _ ?_ ?_ ?_ ?_).mono ?_; (refine RdS.below hc6 ?_; (repeat (first | exact Below.refl _ _ | refine Below.drew ?_ | refine Below.alloc ?_ (by simp) _))); (refine RdU.on hu6 ?_; (repeat (first | exact Below.refl _ _ | refine Below.drew ?_ | refine Below.alloc ?_ (by simp) _))); (refine RdK.on ho6.rd ?_; (repeat (first | exact Below.refl _ _ | refine Below.drew ?_ | refine Below.alloc ?_ (by simp) _))); exact (show Below w6.heap.size w6 _ from (by repeat (first | exact Below.refl _ _ | refine Below.drew ?_ | refine Below.alloc ?_ (by simp) _))).size; rintro e w7 ⟨aw, cw, rfl, ho7, hb0⟩; have hb : Below w6.heap.size w6 w7 := below_step (by repeat (first | exact Below.refl _ _ | refine Below.drew ?_ | refine Below.alloc ?_ (by simp) _)) hb0; have hB7 : Below w.heap.size w w7 := hB6.trans (hb.mono hB6.size); have P0 := box_on ⟨p0, p1, p2⟩ hb; clear p0 p1 p2; obtain ⟨p0, p1, p2⟩ := P0; (first | (have Z2 : Hid (Bz w7 w3.heap.size) := HBz.out.on hb; clear HBz; have HBz := Z2; clear Z2; obtain ⟨⟨n0, n1, n2⟩, nf⟩ := HBz.out) | (have Z2 : Hid (Bz w7 w4.heap.size) := HBz.out.on hb; clear HBz; have HBz := Z2; clear Z2; obtain ⟨⟨n0, n1, n2⟩, nf⟩ := HBz.out) | (have Z2 : Hid (Bz w7 w5.heap.size) := HBz.out.on hb; clear HBz; have HBz := Z2; clear Z2; obtain ⟨⟨n0, n1, n2⟩, nf⟩ := HBz.out) | (have HBz : Hid (Bz w7 w6.heap.size) := Bz.on (Bz.new w6) hb0; obtain ⟨⟨n0, n1, n2⟩, nf⟩ := HBz.out) | skip); have HO7 : Hid (OwnS w7 _ aw N.kids) := ho7; clear hb hb0 hc6 hu6 ho6 ho7))
          all_goals
            go_wp2_with fail
            go_meet
            case rel =>
              have ho := HO7.out
              first
                | exact ⟨_, aw, cw, rfl, AQ.last hB7 ⟨p0, p1, p2⟩ ho⟩
                | exact ⟨_, aw, cw, rfl, AQ.early hB7 ⟨p0, p1, p2⟩ ho HBz.out (by simp; omega) (by omega)⟩
        case rest =>
          obtain ⟨B6, aw, cw, rfl, L6⟩ := hcut
          obtain ⟨H6, hH6⟩ : ∃ H6, H6 = wc.heap.size := ⟨_, rfl⟩
          rw [← hH6] at L6
          have hw6 : H6 ≤ wc.heap.size := by omega
          clear hH6 hB3 p0 p1 p2 CS
          obtain ⟨p0, p1, p2⟩ := L6.p
          obtain ⟨mu, hmu⟩ : ∃ mu, mu = mkU us us.length := ⟨_, rfl⟩
          have hmu2 : mu ≤ 3145728 := by have := mkU_le us us.length; omega
          have BM : ∀ (a1 : Option Addr) (c1 : Nat) (S : Nat → Prop) (W' : World), OwnU W' S a1 us → Calls Try.prog 20 #[.slice a1 us.length c1, .int .i64 (1 + 3 * (ss.length : Int))] W' fun e w' => e = .returned (.int .i64 (1 + 3 * (ss.length : Int) + (mu : Int))) ∧ Only S W' w' := fun a1 c1 S W' h1 => by
            have := markBindS_any us a1 c1 (1 + 3 * (ss.length : Int)) S W' hpu (by omega) (by omega) h1
            rwa [← hmu] at this
          have MT : ∀ (a1 : Option Addr) (c1 : Nat) (S : Nat → Prop) (W' : World), OwnS W' S a1 t.kids → (∀ x, S x → x < W'.heap.size) → Calls Try.prog 21 #[.agg #[.int .i64 t.f, .int .i64 t.v, .slice a1 t.kids.length c1], .int .i64 (1 + 3 * (ss.length : Int) + (mu : Int))] W' fun e w' => e = .returned (.int .i64 (1 + 3 * (ss.length : Int) + (mu : Int) + 2 * partsL t.kids)) ∧ ∃ w0, Below W'.heap.size W' w0 ∧ Only S w0 w' := fun a1 c1 S W' h1 h2 => markTerm_any t a1 c1 (1 + 3 * (ss.length : Int) + (mu : Int)) S W' hp1 (by omega) (by omega) h1 h2
          have hnk : ¬ ((1 : Int) + 3 * (ss.length : Int) + (mu : Int) + 2 * (partsL t.kids : Int) < 0) := by omega
          have hnm : ¬ ((1 : Int) + 2 * (partsL N.kids : Int) < 0) := by omega
          have MK : ∀ (c1 : Nat) (S : Nat → Prop) (a1 : Option Addr) (W' : World), OwnS W' S a1 N.kids → (∀ x, S x → x < W'.heap.size) → Calls Try.prog 21 #[.agg #[.int .i64 N.f, .int .i64 N.v, .slice a1 N.kids.length c1], .int .i64 1] W' fun e w' => e = .returned (.int .i64 (1 + 2 * partsL N.kids)) ∧ Mk w' S a1 N.kids 1 ∧ ∃ w0, Below W'.heap.size W' w0 ∧ Only S w0 w' := fun c1 S a1 W' h1 h2 => markTerm_mk N a1 c1 1 S W' hpN (by omega) (by omega) h1 h2
          have HD : ∀ (c1 : Nat) (S : Nat → Prop) (a1 : Option Addr) (W' : World), Mk W' S a1 N.kids 1 → (∀ x, S x → x < W'.heap.size) → Calls Try.prog 22 #[.agg #[.int .i64 N.f, .int .i64 N.v, .slice a1 N.kids.length c1], .int .i64 1] W' fun e w' => e = .returned (.int .i64 (1 + 2 * partsL N.kids)) ∧ Below W'.heap.size W' w' := fun c1 S a1 W' h1 h2 => heldTerm_any N a1 c1 1 S W' hpN (by omega) (by omega) h1 h2
          have EB := fun (a1 a2 : Option Addr) (c1 c2 hi : Nat) (W' : World) (h1 : RdU W' hi a1 us) (h2 : RdU W' hi a2 us) (h3 : hi ≤ W'.heap.size) => eqBindS_same us a1 a2 c1 c2 hi W' hpu h1 h2 h3
          clear hmu hpu2 hpt2
          go_wp2_with (first
            | (go_at_call 12; refine (toSyms_any a0 ss _ cap0 _ rfl (hr0.below L6.bel) hl).mono ?_; rintro e w7 ⟨rfl, ho7, hb⟩; have L7 := L6.on hb; have P0 := L7.p; clear p0 p1 p2; obtain ⟨p0, p1, p2⟩ := P0; have hlt7 : wc.heap.size < w7.heap.size := (ho7.lt _ rfl).2; have hc7 := RdS.own rfl ho7; clear hb L6)
            | (go_at_call 13; refine (TB _ L7.bel).mono ?_; rintro e wb ⟨rfl, hob, hb⟩; have Lb := L7.on hb; have P0 := Lb.p; clear p0 p1 p2; obtain ⟨p0, p1, p2⟩ := P0; have hzb := hb.size; have hcb := hc7.below hb; have ob := own_on ho7 hb; clear hb L7 ho7 hc7)
            | (go_at_call 14; refine (TT _ Lb.bel).mono ?_; rintro e w8 ⟨y1, rfl, ho8, hb⟩; have L8 := Lb.on hb; have P0 := L8.p; clear p0 p1 p2; obtain ⟨p0, p1, p2⟩ := P0; have hz8 := hb.size; have hc8 := hcb.below hb; have o8 := own_on ob hb; have ou8 := hob.frame (fun k hk => hb.block k hk.2) hb.size; have hbx : Below w8.heap.size w8 (w8.alloc (.cells #[.int .i64 t.f, .int .i64 t.v, .slice y1 t.kids.length t.kids.length] 32)) := (Below.refl _ _).alloc (Nat.le_refl _) _; clear hb Lb ob hcb hob)
            | (go_at_call 15; refine (CI _ _ y1 _ _ _ w8.heap.size _ (hc8.below hbx) (ou8.rd.on hbx) (ho8.rd.on hbx) hbx.size (Nat.le_refl _)).mono ?_; rintro e w9 ⟨ag, cg, rfl, ho9, hle9, hb0⟩; have HG : Hid _ := ag_start (cg := cg) L8 o8 ou8 ho8 hbx ho9 hb0 hw6 hlt7 hzb hz8; have hb89 : Below w8.heap.size w8 w9 := hbx.trans (hb0.mono hbx.size); clear p0 p1 p2; obtain ⟨p0, p1, p2⟩ := (L8.on hb89).p; obtain ⟨q0, q1, q2⟩ := (L8.on hb89).q; have hB6l : B6 < w9.heap.size := World.block_lt_of_cell? _ _ q0; have g0 := trivial; have g1 := trivial; have g2 := trivial; have x0 := trivial; have x1 := trivial; have x2 := trivial; clear hb0 ho9 L8 o8 ou8 ho8 hbx hc8 hb89)
            | (go_at_call 16; refine (EQ ag aw _ _ _ _ HG.out.og.rd (HG.out.lp.rd.mono HG.out.lp.z) (Nat.le_refl _)).mono ?_; rintro e w10 ⟨rfl, hb⟩; have HG2 : Hid _ := HG.out.on hb; clear HG; have HG := HG2; clear HG2; clear p0 p1 p2 q0 q1 q2 g0 g1 g2 x0 x1 x2; obtain ⟨p0, p1, p2⟩ := HG.out.lp.p; obtain ⟨q0, q1, q2⟩ := HG.out.lp.q; obtain ⟨g0, g1, g2⟩ := HG.out.g; obtain ⟨x0, x1, x2⟩ := HG.out.x; clear hb)
            | (go_at_call 12; refine (toSyms_any a0 ss _ cap0 _ rfl (hr0.below HG.out.lp.bel) hl).mono ?_; rintro e w11 ⟨rfl, ho11, hb⟩; have hcs := RdS.own rfl ho11; have HG2 : Hid _ := HG.out.on hb; clear HG; have HG := HG2; clear HG2; clear p0 p1 p2 q0 q1 q2 g0 g1 g2 x0 x1 x2; obtain ⟨p0, p1, p2⟩ := HG.out.lp.p; obtain ⟨q0, q1, q2⟩ := HG.out.lp.q; obtain ⟨g0, g1, g2⟩ := HG.out.g; obtain ⟨x0, x1, x2⟩ := HG.out.x; clear hb; clear ho11)
            | (go_at_call 17; refine (eqSyms_same _ _ ss _ _ _ _ _ rfl rfl (RdS.own rfl HG.out.sy) hcs hl).mono ?_; rintro e w12 ⟨rfl, hb⟩; have HG2 : Hid _ := HG.out.on hb; clear HG; have HG := HG2; clear HG2; clear p0 p1 p2 q0 q1 q2 g0 g1 g2 x0 x1 x2; obtain ⟨p0, p1, p2⟩ := HG.out.lp.p; obtain ⟨q0, q1, q2⟩ := HG.out.lp.q; obtain ⟨g0, g1, g2⟩ := HG.out.g; obtain ⟨x0, x1, x2⟩ := HG.out.x; clear hb; clear hcs)
            | (go_at_call 13; refine (TB _ HG.out.lp.bel).mono ?_; rintro e w13 ⟨rfl, ho13, hb⟩; have hcu := ho13.rd; have HG2 : Hid _ := HG.out.on hb; clear HG; have HG := HG2; clear HG2; clear p0 p1 p2 q0 q1 q2 g0 g1 g2 x0 x1 x2; obtain ⟨p0, p1, p2⟩ := HG.out.lp.p; obtain ⟨q0, q1, q2⟩ := HG.out.lp.q; obtain ⟨g0, g1, g2⟩ := HG.out.g; obtain ⟨x0, x1, x2⟩ := HG.out.x; clear hb; clear ho13)
            | (go_at_call 18; refine (EB _ _ _ _ _ _ HG.out.bi.rd hcu (Nat.le_refl _)).mono ?_; rintro e w14 ⟨rfl, hb⟩; have HG2 : Hid _ := HG.out.on hb; clear HG; have HG := HG2; clear HG2; clear p0 p1 p2 q0 q1 q2 g0 g1 g2 x0 x1 x2; obtain ⟨p0, p1, p2⟩ := HG.out.lp.p; obtain ⟨q0, q1, q2⟩ := HG.out.lp.q; obtain ⟨g0, g1, g2⟩ := HG.out.g; obtain ⟨x0, x1, x2⟩ := HG.out.x; clear hb; clear hcu))
          go_region_held3 (fun w' => w'.cell? ⟨w.heap.size, 0, none⟩ = some (.int .i64 t.f) ∧ w'.cell? ⟨w.heap.size, 1, none⟩ = some (.int .i64 t.v) ∧ w'.cell? ⟨w.heap.size, 2, none⟩ = some (.slice a t.kids.length c) ∧ w'.cell? ⟨w8.heap.size, 0, none⟩ = some (.int .i64 t.f) ∧ w'.cell? ⟨w8.heap.size, 1, none⟩ = some (.int .i64 t.v) ∧ w'.cell? ⟨w8.heap.size, 2, none⟩ = some (.slice y1 t.kids.length t.kids.length)) (first | go_keep | exact ⟨p0, p1, p2, x0, x1, x2⟩)
            (first
              | (go_at_call 14; refine (TT _ ?_).mono ?_; exact HG.out.lp.bel.drew; rintro e w15 ⟨z1, rfl, ho15, hb0⟩; have hb : Below w14.heap.size w14 w15 := (Below.refl _ _).drew.trans hb0; have HG2 : Hid _ := HG.out.on hb; clear HG; have HG := HG2; clear HG2; clear p0 p1 p2 q0 q1 q2 g0 g1 g2 x0 x1 x2; obtain ⟨p0, p1, p2⟩ := HG.out.lp.p; obtain ⟨q0, q1, q2⟩ := HG.out.lp.q; obtain ⟨g0, g1, g2⟩ := HG.out.g; obtain ⟨x0, x1, x2⟩ := HG.out.x; clear hb; clear hb0)
              | (go_at_call 16; refine (eqTerm_same t y1 z1 _ _ w15.heap.size _ hp1 ?_ ?_ ?_).mono ?_; exact HG.out.ox.rd; exact ho15.rd; exact Nat.le_refl _; rintro e w16 ⟨rfl, hb⟩; have HG2 : Hid _ := HG.out.on hb; clear HG; have HG := HG2; clear HG2; clear p0 p1 p2 q0 q1 q2 g0 g1 g2 x0 x1 x2; obtain ⟨p0, p1, p2⟩ := HG.out.lp.p; obtain ⟨q0, q1, q2⟩ := HG.out.lp.q; obtain ⟨g0, g1, g2⟩ := HG.out.g; obtain ⟨x0, x1, x2⟩ := HG.out.x; clear hb; clear ho15))
          go_upto_region 38 with (first
            | (go_at_call 19; refine (markSyms_any _ _ ss.length ss.length _ 1 _ HG.out.sy hl (by omega)).mono ?_; rintro e w17 ⟨rfl, hs17⟩; have LX := HG.out.h hs17; have HL : Hid _ := LX.1; have HU : Hid _ := LX.2.1; have HX : Hid _ := LX.2.2.1; have HBX : Hid _ := LX.2.2.2; clear p0 p1 p2 q0 q1 q2 g0 g1 g2 x0 x1 x2; obtain ⟨p0, p1, p2⟩ := HL.out.lp.p; obtain ⟨q0, q1, q2⟩ := HL.out.lp.q; obtain ⟨g0, g1, g2⟩ := HL.out.g; obtain ⟨x0, x1, x2⟩ := LX.2.2.2; have h34 := HG.out.h4; have h33 := HG.out.h3; have h24 := HG.out.h2; have h2b4 := HG.out.h2b; have h14 := HG.out.h1; clear HG LX hs17)
            | (go_at_call 20; refine (BM _ _ _ _ HU.out).mono ?_; rintro e w18 ⟨rfl, ho18⟩; have LX := HL.out.bind HX.out HBX.out ho18 (by omega) h33; clear HL HX HBX HU; have HL : Hid _ := LX.1; have HX : Hid _ := LX.2.1; clear p0 p1 p2 q0 q1 q2 g0 g1 g2 x0 x1 x2; obtain ⟨p0, p1, p2⟩ := HL.out.lp.p; obtain ⟨q0, q1, q2⟩ := HL.out.lp.q; obtain ⟨g0, g1, g2⟩ := HL.out.g; obtain ⟨x0, x1, x2⟩ := LX.2.2; clear LX ho18)
            | (go_at_call_of 21 y1; refine (MT _ _ _ _ HX.out (fun k hk => by have := HL.out.h5; omega)).mono ?_; rintro e w19 ⟨rfl, W0, hb19, ho19⟩; have HL2 : Hid _ := HL.out.stay (only_stay hb19 ho19 (fun k _ hk q => by omega)); clear HL; have HL := HL2; clear HL2; clear p0 p1 p2 q0 q1 q2 g0 g1 g2 x0 x1 x2; obtain ⟨p0, p1, p2⟩ := HL.out.lp.p; obtain ⟨q0, q1, q2⟩ := HL.out.lp.q; obtain ⟨g0, g1, g2⟩ := HL.out.g; clear HX hb19 ho19)
            | (go_at_call 16; refine (EQ ag aw _ _ _ _ HL.out.og.rd (HL.out.lp.rd.mono HL.out.lp.z) (Nat.le_refl _)).mono ?_; rintro e w20 ⟨rfl, hb⟩; have HL2 : Hid _ := HL.out.on hb; clear HL; have HL := HL2; clear HL2; clear p0 p1 p2 q0 q1 q2 g0 g1 g2; obtain ⟨p0, p1, p2⟩ := HL.out.lp.p; obtain ⟨q0, q1, q2⟩ := HL.out.lp.q; obtain ⟨g0, g1, g2⟩ := HL.out.g; clear hb)
            | (go_at_call_of 21 ag; refine (MK _ _ _ _ HL.out.og (fun k hk => by have := HL.out.h5; omega)).mono ?_; rintro e w21 ⟨rfl, hm21, W0, hb21, ho21⟩; have HM : Hid _ := HL.out.marked hb21 ho21 hm21; clear p0 p1 p2 q0 q1 q2 g0 g1 g2; obtain ⟨p0, p1, p2⟩ := HM.out.lp.p; obtain ⟨q0, q1, q2⟩ := HM.out.lp.q; obtain ⟨g0, g1, g2⟩ := HM.out.g; clear HL hm21 hb21 ho21)
            | (go_at_call 22; refine (HD _ _ _ _ HM.out.og (fun k hk => by have := HM.out.h5; omega)).mono ?_; rintro e w22 ⟨rfl, hb⟩; have HM2 : Hid _ := HM.out.on hb; clear HM; have HM := HM2; clear HM2; clear p0 p1 p2 q0 q1 q2 g0 g1 g2; obtain ⟨p0, p1, p2⟩ := HM.out.lp.p; obtain ⟨q0, q1, q2⟩ := HM.out.lp.q; obtain ⟨g0, g1, g2⟩ := HM.out.g; clear hb))
          go_cut [16] from 17 (fun s16 wd => ∃ (B13 : Nat) (ah : Option Addr) (ch : Nat), s16 = .pointer (some ⟨B13, 0, none⟩) ∧ AM w t a c N B6 aw cw H6 (w8.heap.size + 1) w9.heap.size ag cg wd ∧ Bx3 wd B13 N.f N.v ah N.kids.length ch ∧ RdK wd wd.heap.size ah N.kids)
          case first =>
            have hw22 : w.heap.size < w22.heap.size := World.block_lt_of_cell? _ _ p0
            have h922 : w9.heap.size < w22.heap.size := HM.out.h5
            have hH22 : H6 ≤ w22.heap.size := HM.out.lp.z
            go_region_held3 (fun w' => w'.cell? ⟨w.heap.size, 0, none⟩ = some (.int .i64 t.f) ∧ w'.cell? ⟨w.heap.size, 1, none⟩ = some (.int .i64 t.v) ∧ w'.cell? ⟨w.heap.size, 2, none⟩ = some (.slice a t.kids.length c)) (first | ((refine ⟨keepC ?_ p0, keepC ?_ p1, keepC ?_ p2⟩ <;> (repeat (first | exact Below.refl _ _ | refine Below.drew ?_ | refine Below.alloc ?_ (by simp) _))); done) | exact ⟨set3_keep p0 (by omega), set3_keep p1 (by omega), set3_keep p2 (by omega)⟩ | go_keep)
              (first
                | (go_at_call 12; refine (toSyms_any a0 ss _ cap0 _ rfl ?_ hl).mono ?_; exact hr0.below (HM.out.lp.bel.trans (Below.mono (B := w22.heap.size) (by repeat (first | exact Below.refl _ _ | refine Below.drew ?_ | refine Below.alloc ?_ (by simp) _)) HM.out.lp.bel.size)); rintro e w23 ⟨rfl, ho23, hb0⟩; have hb : Below w22.heap.size w22 w23 := below_step (by repeat (first | exact Below.refl _ _ | refine Below.drew ?_ | refine Below.alloc ?_ (by simp) _)) hb0; have hc23 := RdS.own rfl ho23; (try rw [show ∀ X : World, X.drew.heap.size = X.heap.size from fun _ => rfl] at hc23); (try rw [World.size_alloc] at hc23); have HM2 : Hid _ := HM.out.on hb; clear HM; have HM := HM2; clear HM2; clear p0 p1 p2 q0 q1 q2 g0 g1 g2; obtain ⟨p0, p1, p2⟩ := HM.out.lp.p; obtain ⟨q0, q1, q2⟩ := HM.out.lp.q; obtain ⟨g0, g1, g2⟩ := HM.out.g; have hz23 := hb.size; (first | (have HBz : Hid (Bz w23 w22.heap.size) := Bz.on (Bz.on (Bz.new w22) (Below.refl _ _).drew) hb0; have hlt3 := HBz.out.1.lt) | (have HBz : Hid (Bz w23 w22.heap.size) := Bz.on (Bz.new w22.drew) hb0; have hlt3 := HBz.out.1.lt) | (have HBz : Hid (Bz w23 w22.heap.size) := Bz.on (Bz.new w22) hb0; have hlt3 := HBz.out.1.lt) | skip); clear hb hb0 ho23)
                | (go_at_call 13; refine (TB _ (HM.out.lp.bel.trans (Below.mono (B := w23.heap.size) (by repeat (first | exact Below.refl _ _ | refine Below.drew ?_ | refine Below.alloc ?_ (by simp) _)) HM.out.lp.bel.size))).mono ?_; rintro e w24 ⟨rfl, ho24, hb0⟩; have hb : Below w23.heap.size w23 w24 := below_step (by repeat (first | exact Below.refl _ _ | refine Below.drew ?_ | refine Below.alloc ?_ (by simp) _)) hb0; have hu24 := ho24.rd; (try rw [show ∀ X : World, X.drew.heap.size = X.heap.size from fun _ => rfl] at hu24); (try rw [World.size_alloc] at hu24); have hc24 := hc23.below hb; have HM2 : Hid _ := HM.out.on hb; clear HM; have HM := HM2; clear HM2; clear p0 p1 p2 q0 q1 q2 g0 g1 g2; obtain ⟨p0, p1, p2⟩ := HM.out.lp.p; obtain ⟨q0, q1, q2⟩ := HM.out.lp.q; obtain ⟨g0, g1, g2⟩ := HM.out.g; have hz24 := hb.size; (first | (have Z2 : Hid (Bz w24 w22.heap.size) := HBz.out.on hb; clear HBz; have HBz := Z2; clear Z2) | (have HBz : Hid (Bz w24 w23.heap.size) := Bz.on (Bz.on (Bz.new w23) (Below.refl _ _).drew) hb0; have hlt3 := HBz.out.1.lt) | (have HBz : Hid (Bz w24 w23.heap.size) := Bz.on (Bz.new w23.drew) hb0; have hlt3 := HBz.out.1.lt) | (have HBz : Hid (Bz w24 w23.heap.size) := Bz.on (Bz.new w23) hb0; have hlt3 := HBz.out.1.lt) | skip); clear hb hb0 ho24 hc23)
                | (go_at_call 14; refine (TT _ (HM.out.lp.bel.trans (Below.mono (B := w24.heap.size) (by repeat (first | exact Below.refl _ _ | refine Below.drew ?_ | refine Below.alloc ?_ (by simp) _)) HM.out.lp.bel.size))).mono ?_; rintro e w25 ⟨v1, rfl, ho25, hb0⟩; have hb : Below w24.heap.size w24 w25 := below_step (by repeat (first | exact Below.refl _ _ | refine Below.drew ?_ | refine Below.alloc ?_ (by simp) _)) hb0; have hc25 := hc24.below hb; have hu25 := (hu24.on hb).mono hb.size; have HM2 : Hid _ := HM.out.on hb; clear HM; have HM := HM2; clear HM2; clear p0 p1 p2 q0 q1 q2 g0 g1 g2; obtain ⟨p0, p1, p2⟩ := HM.out.lp.p; obtain ⟨q0, q1, q2⟩ := HM.out.lp.q; obtain ⟨g0, g1, g2⟩ := HM.out.g; have hz25 := hb.size; (first | (have Z2 : Hid (Bz w25 w22.heap.size) := HBz.out.on hb; clear HBz; have HBz := Z2; clear Z2) | (have Z2 : Hid (Bz w25 w23.heap.size) := HBz.out.on hb; clear HBz; have HBz := Z2; clear Z2) | (have HBz : Hid (Bz w25 w24.heap.size) := Bz.on (Bz.on (Bz.new w24) (Below.refl _ _).drew) hb0; have hlt3 := HBz.out.1.lt) | (have HBz : Hid (Bz w25 w24.heap.size) := Bz.on (Bz.new w24.drew) hb0; have hlt3 := HBz.out.1.lt) | (have HBz : Hid (Bz w25 w24.heap.size) := Bz.on (Bz.new w24) hb0; have hlt3 := HBz.out.1.lt) | skip); clear hb hb0 hc24 hu24)
                | (go_at_call 15; refine (CI _ _ v1 _ _ _ w25.heap.size _ ?_ ?_ ?_ ?_ (Nat.le_refl _)).mono ?_; (refine RdS.below hc25 ?_; (repeat (first | exact Below.refl _ _ | refine Below.drew ?_ | refine Below.alloc ?_ (by simp) _))); (refine RdU.on hu25 ?_; (repeat (first | exact Below.refl _ _ | refine Below.drew ?_ | refine Below.alloc ?_ (by simp) _))); (refine RdK.on ho25.rd ?_; (repeat (first | exact Below.refl _ _ | refine Below.drew ?_ | refine Below.alloc ?_ (by simp) _))); exact (show Below w25.heap.size w25 _ from (by repeat (first | exact Below.refl _ _ | refine Below.drew ?_ | refine Below.alloc ?_ (by simp) _))).size; rintro e w26 ⟨ah, ch, rfl, ho26, hle26, hb0⟩; have hb : Below w25.heap.size w25 w26 := below_step (by repeat (first | exact Below.refl _ _ | refine Below.drew ?_ | refine Below.alloc ?_ (by simp) _)) hb0; have HM2 : Hid _ := HM.out.on hb; clear HM; have HM := HM2; clear HM2; clear p0 p1 p2 q0 q1 q2 g0 g1 g2; obtain ⟨p0, p1, p2⟩ := HM.out.lp.p; obtain ⟨q0, q1, q2⟩ := HM.out.lp.q; obtain ⟨g0, g1, g2⟩ := HM.out.g; (first | (have Z2 : Hid (Bz w26 w22.heap.size) := HBz.out.on hb; clear HBz; have HBz := Z2; clear Z2; obtain ⟨⟨n0, n1, n2⟩, nf⟩ := HBz.out) | (have Z2 : Hid (Bz w26 w23.heap.size) := HBz.out.on hb; clear HBz; have HBz := Z2; clear Z2; obtain ⟨⟨n0, n1, n2⟩, nf⟩ := HBz.out) | (have Z2 : Hid (Bz w26 w24.heap.size) := HBz.out.on hb; clear HBz; have HBz := Z2; clear Z2; obtain ⟨⟨n0, n1, n2⟩, nf⟩ := HBz.out) | (have HBz : Hid (Bz w26 w25.heap.size) := Bz.on (Bz.new w25) hb0; obtain ⟨⟨n0, n1, n2⟩, nf⟩ := HBz.out) | skip); have HO5 : Hid (OwnS w26 _ ah N.kids) := ho26; clear hb hb0 hc25 hu25 ho25 ho26))
            all_goals
              go_wp2_with fail
              go_meet
              case rel =>
                have ho := HO5.out
                first
                  | exact ⟨_, ah, ch, rfl, HM.out.last ho⟩
                  | exact ⟨_, ah, ch, rfl, HM.out.early ho HBz.out (by simp; omega) (by omega) (by omega)⟩
          case rest =>
            obtain ⟨B13, ah, ch, rfl, M13, ⟨k0, k1, k2⟩, R13⟩ := hcut
            have HM2 : Hid _ := M13
            have HR : Hid _ := R13
            clear HM p0 p1 p2 q0 q1 q2 g0 g1 g2
            obtain ⟨q0, q1, q2⟩ := M13.lp.q
            obtain ⟨g0, g1, g2⟩ := M13.g
            clear M13 R13
            go_wp2_with (first
              | (go_at_call 16; refine (EQ ah aw _ _ _ _ HR.out (HM2.out.lp.rd.mono HM2.out.lp.z) (Nat.le_refl _)).mono ?_; rintro e w27 ⟨rfl, hb⟩; have HM3 : Hid _ := HM2.out.on hb; clear HM2 HR k0 k1 k2 q0 q1 q2 g0 g1 g2; obtain ⟨g0, g1, g2⟩ := HM3.out.g; clear hb)
              | (go_at_call 22; refine (HD _ _ _ _ HM3.out.og (fun k hk => by have := HM3.out.h5; omega)).mono ?_; rintro e w28 ⟨rfl, hb⟩; have HM4 : Hid _ := HM3.out.on hb; clear HM3))
            go_ret
            exact ⟨rfl, HM4.out.lp.bel⟩
      · rw [show szR t.kids (r - (partsU us : Int)) = -1 by unfold szR; rw [if_neg hb1]] at SZ
        clear hpt hb0 hb1 hp0 hm0
        generalize r - (partsU us : Int) = r2 at SU SZ hn0
        go_wp2_with (first
          | (go_at_call 9; refine SU.mono ?_; rintro e w2 ⟨rfl, hb⟩; have hB2 : Below w.heap.size w w2 := hB1.trans (hb.mono hB1.size); have P0 := box_on ⟨p0, p1, p2⟩ hb; clear p0 p1 p2; obtain ⟨p0, p1, p2⟩ := P0; clear SU hb hB1)
          | (go_at_call 10; refine (SZ w2 hB2).mono ?_; rintro e w3 ⟨rfl, hb⟩; have hB3 : Below w.heap.size w w3 := hB2.trans (hb.mono hB2.size); clear SZ hb hB2))
        go_ret
        exact ⟨rfl, hB3⟩
    · rw [show szU us r = -1 by unfold szU; rw [if_neg hb0]] at SU
      clear hpt
      go_wp2_with (go_at_call 9; refine SU.mono ?_; rintro e w2 ⟨rfl, hb⟩; have hB2 : Below w.heap.size w w2 := hB1.trans (hb.mono hB1.size); clear SU hb)
      go_ret
      exact ⟨rfl, hB2⟩

set_option maxRecDepth 100000 in
theorem lifted (os : Os) (started : os.Started) (H : Type) (enc : TypeId × Value → H) :
    ReturnsInHanded {} Try.checked os 3 .any (Rows.fnExactApplySpec.pre6 enc Try.prog Try.f3 Rows.fnExactApplyRow.domain false) (Rows.fnExactApplySpec.post enc Try.prog Try.f3 false true false false) := by
  refine returnsInHanded_of_change (C := Try.checked) own started (by kernel_rfl) Try.func3
    (ChangeSpec.witness6 (enc := enc) (C := Try.checked) false ⟨#[], #[.slice none 0 0, .slice none 0 0, .agg #[.int .i64 0, .int .i64 0, .slice none 0 0]], []⟩ 8 (by kernel_rfl) (by kernel_rfl) (by kernel_rfl) (by kernel_rfl)) ?_
  intro W base args ds gs before hval0 hW hcnd _
  have hval : ∀ (j : Nat) t v, Try.f3.params[j]? = some t → args[j]? = some v → Value.okWide Try.prog W .any base t v := hval0
  have hW' := hW
  obtain ⟨p, q, hA0, hV, rfl, hfz, hnd⟩ := hW
  have hA : DataW.TrodAll enc Try.prog W 0 (fun _ => true) true Try.f3.params.toList args.toList ds p := hA0
  rw [Try.params3] at hA hval
  obtain ⟨v0, vs0, d0, ds0, p0, q0, hargs, rfl, rfl, h0, r0⟩ := trodAll_cons hA
  obtain ⟨v1, vs1, d1, ds1, p1, q1, rfl, rfl, rfl, h1, r1⟩ := trodAll_cons r0
  obtain ⟨v2, vs2, d2, ds2, p2, q2, rfl, rfl, rfl, h2, r2⟩ := trodAll_cons r1
  obtain ⟨rfl, rfl, rfl⟩ := trodAll_nil r2
  obtain rfl : args = #[v0, v1, v2] := by cases args; simp_all
  obtain ⟨rfl, rfl⟩ := trodVars_none hV
  obtain ⟨a0, len0, cap0, rfl⟩ := okWide_slice Try.underlying22 (hval 0 22 v0 rfl rfl)
  have k0 := h0
  have lt0 : ∀ x ∈ p0, x.block < W.heap.size := by obtain ⟨m, hm⟩ := k0; exact DataW.trod_lt m _ _ _ hm
  obtain ⟨ss0, hn0, hle0, hr0, hall0⟩ := open_syms rfl h0
  obtain ⟨a1, len1, cap1, rfl⟩ := okWide_slice Try.underlying23 (hval 1 23 v1 rfl rfl)
  have k1 := h1
  have lt1 : ∀ x ∈ p1, x.block < W.heap.size := by obtain ⟨m, hm⟩ := k1; exact DataW.trod_lt m _ _ _ hm
  obtain ⟨ts1, hn1, hle1, hr1⟩ := open_binds rfl h1
  obtain ⟨cs2, rfl, _⟩ := okWide_struct Try.underlying26 (hval 2 26 v2 rfl rfl)
  have k2 := h2
  have lt2 : ∀ x ∈ p2, x.block < W.heap.size := by obtain ⟨m, hm⟩ := k2; exact DataW.trod_lt m _ _ _ hm
  obtain ⟨t2, a2, c2, e2, hf2, hv2, hle2, hr2⟩ := open_term rfl h2
  obtain rfl : cs2 = #[.int .i64 t2.f, .int .i64 t2.v, .slice a2 t2.kids.length c2] := by simpa using e2
  clear hA0 hval0
  refine (walk W a0 len0 cap0 ss0 hn0 hle0 hr0 hall0 a1 len1 cap1 ts1 hn1 hle1 hr1 t2 a2 c2 hf2 hv2 hle2.1 hr2).mono fun e W' ⟨he, bel⟩ => ?_
  subst he
  exact ⟨_, rfl, _, _, _, [], _, [], hW', trodAll_mk1 (shut_bool Try.underlying4 _), (trodAll_cons_mk (Below.trod laidOut (by kernel_rfl) (of_decide_eq_true (by kernel_rfl)) k0 bel lt0) (trodAll_cons_mk (Below.trod laidOut (by kernel_rfl) (of_decide_eq_true (by kernel_rfl)) k1 bel lt1) (trodAll_cons_mk (Below.trod laidOut (by kernel_rfl) (of_decide_eq_true (by kernel_rfl)) k2 bel lt2) trodAll_mk0))), by first | rfl | simp, bel.frame _, fun h => by cases h⟩

theorem over : Rows.fnExactApplyRow.holds Try.pinned (OpenSpec.ofChange Rows.fnExactApplySpec) :=
  OpenClaim.holds_of_wide 3 Try.f3 rfl rfl rfl rfl rfl rfl rfl ⟨rfl, rfl, rfl, rfl, rfl⟩ rfl rfl rfl rfl rfl (by kernel_rfl) Try.func3 (by kernel_rfl)
    (of_decide_eq_true (by kernel_rfl)) (by unfold Func.isWrapper; first | (rw [if_pos (by decide +kernel)]; kernel_rfl) | (rw [if_neg (by decide +kernel)]; exact ⟨rfl, rfl⟩))
    (fun os started H enc _ => lifted os started H enc)

theorem proved : Rows.FnExactApplySaid := over
end Go.Proofs.Ytcbafmohmoicnab.fnExactApply
namespace Go.Proofs.Ytcbafmohmoicnab
theorem fnExactApply_holds : Rows.FnExactApplySaid := fnExactApply.proved
#print axioms fnExactApply_holds
end Go.Proofs.Ytcbafmohmoicnab
