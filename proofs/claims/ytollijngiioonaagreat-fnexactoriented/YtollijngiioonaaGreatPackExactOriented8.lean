/- What the proof of FnExactOriented stands on, part 8 of 13: each piece says what it proves and under which conditions. Conditions: as each piece says. -/
import Derived.Test.YtollijngiioonaaGreatPackExactOriented7
import Derived.Deep.Cut
import Derived.Deep.RegionHeld3
import Derived.Test.YtollijngiioonaaGreatProg
import Derived.Tactics
import Derived.WalkKit
import Derived.RangeFuncNested
import Derived.RangeFuncBound
import Derived.RangeFuncCalls
import Derived.RangeFuncLeaves
import Derived.Shelf.Abstract
import Derived.Shelf.RegionOpen
import Derived.OwnWalkIn
import Derived.TacticsInMore
import Derived.LoopNIn
import Derived.LoopIn
import Derived.Maps.OwnIn
/- The specification's Norm: it makes one form of a term, in memory of its own. Conditions: terms of at most 549755813888 parts, at most 1048577 functions. -/
namespace Go.Proofs.YtollijngiioonaaGreat
set_option maxRecDepth 100000
open Go.RowKit

theorem fe_snoc (L : List FE) (e : FE) : (L ++ [e]).map FE.t = L.map FE.t ++ [e.t] := by simp

/-- A term that a call has just made is a forest of one. -/
theorem fe_one {w : World} {t : TermD} {a : Option Addr} {c n B : Nat} (h : OwnR w (fun x => n ≤ x ∧ x < w.heap.size) a c t.kids) (hc : t.kids.length ≤ c) (hf : isW t.f) (hv : isW t.v) (hB : B ≤ n) : Forest w B [⟨t, a, c, fun x => n ≤ x ∧ x < w.heap.size⟩] :=
  ⟨fun e he => by simp only [List.mem_singleton] at he; subst he; exact ⟨h, hc, ⟨hf, hv⟩, fun x hx => ⟨by omega, hx.2⟩⟩, by simp⟩

theorem NR.start (w : World) (B : Nat) : NR B [] [] none 0 w := ⟨World.ownsRow_nil w B 27 3, .nil _ _, fun g hg => by cases hg⟩
theorem NR.join {B : Nat} {L : List FE} {av : Option Addr} {cv : Nat} {wr w1 : World} (h : NR B L [] av cv wr) (hb : Below wr.heap.size wr w1) {M : List FE} (hm : Forest w1 B M) (hM : ∀ e ∈ M, ∀ x, e.K x → wr.heap.size ≤ x) : NR B L M av cv w1 := by
  have h1 := h.on hb
  refine ⟨h1.row, (by simpa using h1.fo : Forest w1 B L).append hm (fun e he d hd x hx hy => ?_), fun g hg d hd hx => ?_⟩
  · have := ((h.fo.own e (by simpa using he)).2.2.2 x hx).2
    have := hM d hd x hy
    omega
  · rcases List.mem_append.1 hd with hd | hd
    · exact h.ap g hg d (by simpa using hd) hx
    · have := (h.row.lt g hg).2
      have := hM d hd g hx
      omega

set_option maxHeartbeats 6400000 in
set_option maxRecDepth 100000 in
theorem specNorm_any (ss : List SymD) (sa : Option Addr) (sc : Nat) (hsl : ss.length ≤ 1048577) (N : Nat) : ∀ (t : TermD) (a : Option Addr) (c hi : Nat) (w : World), partsT t ≤ N → N ≤ 549755813888 → RdK w hi a t.kids → hi ≤ w.heap.size → isW t.f → isW t.v → RdS w sa ss →
    Calls Tryz.prog 74 #[.slice sa ss.length sc, .agg #[.int .i64 t.f, .int .i64 t.v, .slice a t.kids.length c]] w fun e w' => ∃ a' c', e = .returned (.agg #[.int .i64 t.f, .int .i64 t.v, .slice a' (normT (blindAt ss) t).kids.length c']) ∧ OwnR w' (fun x => w.heap.size ≤ x ∧ x < w'.heap.size) a' c' (normT (blindAt ss) t).kids ∧ (normT (blindAt ss) t).kids.length ≤ c' ∧ Below w.heap.size w w' := by
  induction N with
  | zero => intro t a c hi w h; rw [partsT_eq] at h; omega
  | succ N ih =>
    intro t a c hi w hN hM hr hhi hfw hvw hrs
    rw [partsT_eq] at hN
    obtain ⟨i0, hi0, hz0, hz1, hz2⟩ := info_parts info29
    have hKk : (normT (blindAt ss) t).kids = normL (blindAt ss) t.f t.kids [] := by rw [normT_eq]; rfl
    rw [hKk]
    clear hKk
    have hlen := partsL_len t.kids
    have HR : Hid (RdK w hi a t.kids) := hr
    have HS : Hid (RdS w sa ss) := hrs
    have BL := fun (w' : World) (h : RdS w' sa ss) => specBlind_any sa ss ss.length sc t.f w' rfl h hsl hfw.1 hfw.2
    have HW : Hid (isW t.f ∧ isW t.v) := ⟨hfw, hvw⟩
    clear hr hrs hfw hvw
    have C0 : NC w t a c (.slice none 0 0) (((w.alloc (.cells #[.int .i64 t.f, .int .i64 t.v, .slice a t.kids.length c] 27)).alloc (.cells #[.int .i64 0, .int .i64 0, .slice none 0 0] 27)).alloc (.cells #[.int .i64 t.f, .int .i64 t.v, .slice none 0 0] 27)) := by
      refine ⟨?_, ?_, ?_, ?_, ?_, ?_, ?_, ?_, fun j => ?_, fun j => ?_, (((Below.refl _ _).alloc (Nat.le_refl _) _).alloc (by simp) _).alloc (by simp; omega) _, ?_⟩
      all_goals simp [go_sem]
    go_enter Tryz.func74, Tryz.ntmps74
    go_wp2_with fail
    go_loopw [6] (fun i wr => ∃ (k : Nat) (L : List FE) (av : Option Addr) (cv : Nat), k ≤ t.kids.length ∧ i = .int .i64 k ∧ NC w t a c (.slice av L.length cv) wr ∧ NR (w.heap.size + 1 + 1 + 1) L [] av cv wr ∧ Hid (L.map FE.t = normL (blindAt ss) t.f (t.kids.take k) [])) (fun i _ => t.kids.length - (intOf i).toNat)
    case atStart => exact ⟨0, [], none, 0, Nat.zero_le _, rfl, C0, NR.start _ _, by show _ = _; simp [normL]⟩
    case round =>
      obtain ⟨k, L, av, cv, hk, rfl, C, R, HL⟩ := hrel
      clear C0
      have p0 := C.p0
      have p2 := C.p2
      have hz := C.z
      by_cases hk' : k < t.kids.length
      · obtain ⟨b, off, a', c', rfl, hlt, d0, d1, d2, hkr⟩ := RdK.kid (HR.out.on (C.bel.mono hhi)) hk'
        have hints := HR.out.ints hk'
        have hpg := partsL_get hk'
        have hki : (k : Int) < (t.kids.length : Int) := by omega
        have hki0 : (0 : Int) ≤ (k : Int) := by omega
        have I := ih t.kids[k] a' c' hi wr (by omega) (by omega) hkr (Nat.le_trans hhi C.bel.size) hints.1 hints.2 (HS.out.below C.bel)
        have HLk : Hid (normL (blindAt ss) t.f (t.kids.take (k + 1)) [] = stepN (blindAt ss t.f) t.f (normT (blindAt ss) t.kids[k]) (L.map FE.t)) := by
          show _ = _
          rw [normL_next _ _ hk', HL.out]
        have hLl : L.length ≤ 549755813888 := by
          have h1 := normL_parts (blindAt ss) t.f (t.kids.take k) []
          have h2 := partsL_take t.kids k
          have h3 := partsL_len (L.map FE.t)
          rw [HL.out] at h3
          simp [partsL, HL.out.symm] at h1 h3
          omega
        obtain ⟨K1, hK1⟩ : ∃ K1, K1 = normT (blindAt ss) t.kids[k] := ⟨_, rfl⟩
        have HK1f : Hid (K1.f = t.kids[k].f ∧ K1.v = t.kids[k].v ∧ partsT K1 ≤ 549755813888) := by
          have h1 := normT_parts (blindAt ss) t.kids[k]
          rw [← hK1] at h1
          refine ⟨by rw [hK1, normT_eq]; rfl, by rw [hK1, normT_eq]; rfl, by omega⟩
        rw [← hK1] at I HLk
        have hK1f := HK1f.out.1
        have hK1v := HK1f.out.2.1
        rw [← hK1f] at d0 I
        rw [← hK1v] at d1 I
        have HKp : Hid (partsT K1 ≤ partsT t.kids[k]) := by show _ ≤ _; rw [hK1]; exact normT_parts _ _
        have HIf : Hid (isW K1.f ∧ isW K1.v) := by show isW K1.f ∧ isW K1.v; rw [hK1f, hK1v]; exact hints
        clear hK1 hkr hints hK1f hK1v
        cases hbl : blindAt ss t.f with
        | false =>
          rw [hbl] at BL HLk
          clear hbl
          go_wp2_with (first
            | (go_at_call 74; refine I.mono ?_; rintro e1 w1 ⟨a1, c1, rfl, o1, hle1, hb1⟩; clear I p0 p2 d0 d1 d2; have C1 := C.on hb1; have R1 := R.join hb1 (fe_one o1 hle1 HIf.out.1 HIf.out.2 (Nat.le_of_lt_succ (by omega))) (fun e he x hx => by simp only [List.mem_singleton] at he; subst he; exact hx.1); have C3 := (C1.on ((Below.refl w1.heap.size w1).alloc (Nat.le_refl _) (.cells #[.int .i64 K1.f, .int .i64 K1.v, .slice a1 K1.kids.length c1] 27))).on ((Below.refl _ _).alloc (Nat.le_refl _) (.cells #[.int .i64 K1.f, .int .i64 K1.v, .slice a1 K1.kids.length c1] 27)); have R3 := (R1.on ((Below.refl w1.heap.size w1).alloc (Nat.le_refl _) (.cells #[.int .i64 K1.f, .int .i64 K1.v, .slice a1 K1.kids.length c1] 27))).on ((Below.refl _ _).alloc (Nat.le_refl _) (.cells #[.int .i64 K1.f, .int .i64 K1.v, .slice a1 K1.kids.length c1] 27)); have p0 := C1.p0; have p2 := C1.p2; have q2 := C1.q2; have y0 := C1.z; have y1 : w.heap.size + 1 < w1.heap.size := (by omega); have y2 : w.heap.size < w1.heap.size := (by omega); clear C R R1 hb1 o1 hz)
            | (go_at_call 106; refine (BL _ ?_).mono ?_; exact (HS.out.below (C1.bel.alloc C1.bel.size _)); rintro e2 w2 ⟨rfl, hw⟩; subst w2)
            | (at_builtin; (refine wpList_append_own_at _ rfl (.tmp 51) (.tmp 53) 25 rfl (w.heap.size + 1 + 1 + 1) 27 i0 _ 3 40 Tryz.underlying25 hi0 hz0 hz1 hz2 rfl (by decide) _ L.length _ rfl R3.row ⟨w1.heap.size + 1, 0, none⟩ 1 1 _ rfl rfl (three_new _ _ _ _ _ _ (by simp)) (three_cell _ _ _ _ _) (by unfold maxLen; omega) (by omega) (by simp; omega) ?_; intro v4 w4 hown4 hgrow4 hnil4 hat4; clear hnil4; have hg4 : ((w1.alloc (.cells #[.int .i64 K1.f, .int .i64 K1.v, .slice a1 K1.kids.length c1] 27)).alloc (.cells #[.int .i64 K1.f, .int .i64 K1.v, .slice a1 K1.kids.length c1] 27)).grownBy w4 (Value.slice av L.length cv).ownBlock := hgrow4; have hat5 : v4.ownBlock = (Value.slice av L.length cv).ownBlock ∨ v4.ownBlock = some ((w1.alloc (.cells #[.int .i64 K1.f, .int .i64 K1.v, .slice a1 K1.kids.length c1] 27)).alloc (.cells #[.int .i64 K1.f, .int .i64 K1.v, .slice a1 K1.kids.length c1] 27)).heap.size := hat4; have C4 := C3.stay (.grown hg4 (fun k e hk => by have := (R3.row.lt k e).1; omega)); obtain ⟨g4, c4, rfl, R4⟩ := R3.app hg4 hown4 hat5; have q4 := C4.q2; have f4 := C4.fq 2; clear hgrow4 hat4 hg4 hat5 hown4 C3 R3 p0 p2 q2)))
          refine ⟨⟨k + 1, L ++ [⟨K1, a1, c1, fun x => wr.heap.size ≤ x ∧ x < w1.heap.size⟩], some ⟨g4, 0, none⟩, c4, by omega, by go_num, by simpa using C4.set (.slice (some ⟨g4, 0, none⟩) (L.length + 1) c4), R4.set _ (by simp only; omega), ?_⟩, by simp [intOf]; omega⟩
          show _ = _
          rw [fe_snoc, HLk.out]
          simp [stepN]
        | true =>
          rw [hbl] at BL HLk
          clear hbl
          by_cases hkf : K1.f = t.f
          · have hkf' : (K1.f != t.f) = false := by simp [hkf]
            have HLs : Hid (stepN true t.f K1 (L.map FE.t) = K1.kids.foldl (fun o x => putT x o) (L.map FE.t)) := by show _ = _; simp [stepN, hkf]
            clear hkf
            go_wp2_with (first
              | (go_at_call 74; refine I.mono ?_; rintro e1 w1 ⟨a1, c1, rfl, o1, hle1, hb1⟩; clear I p0 p2 d0 d1 d2; have C1 := C.on hb1; obtain ⟨F, hFt, hFf, hFK, hFc⟩ := OwnR.forest (B := w.heap.size + 1 + 1 + 1) o1 (fun x hx => ⟨by omega, hx.2⟩); have R1 := R.join hb1 hFf (fun e he x hx => (hFK e he x hx).1); have hbk : Below w1.heap.size w1 (w1.alloc (.cells #[.int .i64 K1.f, .int .i64 K1.v, .slice a1 K1.kids.length c1] 27)) := ((Below.refl w1.heap.size w1).alloc (Nat.le_refl _) _); have C3 := C1.on hbk; have R3 := R1.on hbk; have p0 := C1.p0; have p2 := C1.p2; have q2 := C1.q2; have y0 := C1.z; have y1 : w.heap.size + 1 < w1.heap.size := (by omega); have y2 : w.heap.size < w1.heap.size := (by omega); have HFc : Hid _ := hFc; have HFt : Hid _ := hFt; clear C R R1 hb1 o1 hFf hFK hFc hFt)
              | (go_at_call 106; refine (BL _ ?_).mono ?_; exact (HS.out.below (C1.bel.alloc C1.bel.size _)); rintro e2 w2 ⟨rfl, hw⟩; subst w2))
            have HB : Hid (partsL (L.map FE.t) + partsL K1.kids ≤ 549755813888) := by
              show _ ≤ _
              have h1 := normL_parts (blindAt ss) t.f (t.kids.take k) []
              rw [← HL.out] at h1
              have h2 := partsL_next hk'
              have h3 := partsL_take t.kids (k + 1)
              have h4 := HKp.out
              rw [partsT_eq] at h4
              simp only [partsL] at h1
              omega
            obtain ⟨W1, hW1⟩ : ∃ W1, W1 = w1.alloc (.cells #[.int .i64 K1.f, .int .i64 K1.v, .slice a1 K1.kids.length c1] 27) := ⟨_, rfl⟩
            rw [← hW1] at C3 R3 hbk ⊢
            have kb : W1.cell? ⟨w1.heap.size, 2, none⟩ = some (.slice a1 K1.kids.length c1) := by rw [hW1]; simp [go_sem]
            have hFl : F.length = K1.kids.length := by rw [← HFt.out]; simp
            clear hW1 p0 p2 q2
            go_loopw [8] (fun j wj => ∃ (m : Nat) (Lm : List FE) (av : Option Addr) (cv : Nat), m ≤ F.length ∧ j = .int .i64 m ∧ NC w t (some ⟨b, off, none⟩) c (.slice av Lm.length cv) wj ∧ NR (w.heap.size + 1 + 1 + 1) Lm (F.drop m) av cv wj ∧ Hid (Lm.map FE.t = (K1.kids.take m).foldl (fun o x => putT x o) (L.map FE.t)) ∧ Stay (fun k => k ≠ w.heap.size + 1 + 1) W1 wj) (fun j _ => F.length - (intOf j).toNat)
            case atStart => exact ⟨0, L, av, cv, Nat.zero_le _, rfl, C3, by simpa using R3, by show _ = _; simp, .refl _ _⟩
            case round =>
              obtain ⟨m, Lm, av, cv, hm, rfl, C, R, HLm, hst⟩ := hrel
              clear C3 R3
              have q2 := C.q2
              have kb' := hst.cell kb (by simp only; omega)
              have y3 := C.z
              by_cases hm' : m < F.length
              · have hmi : (m : Int) < (K1.kids.length : Int) := by omega
                have hmi0 : (0 : Int) ≤ (m : Int) := by omega
                have hmb : (m : Int) < 549755813888 := by
                  have h1 := partsL_len K1.kids
                  have h2 := HB.out
                  omega
                have hne : K1.kids ≠ [] := fun e => by
                  rw [e] at hFl
                  simp only [List.length_nil] at hFl
                  omega
                obtain ⟨b1, off1, rfl, hSb1, hcl1⟩ := HFc.out.resolve_left hne
                obtain ⟨g0, g1, g2⟩ := hcl1 m hm'
                have hb1n : b1 ≠ w.heap.size + 1 + 1 := by have := hSb1.1; omega
                have g0 := hst.cell (keepC hbk g0) hb1n
                have g1 := hst.cell (keepC hbk g1) hb1n
                have g2 := hst.cell (keepC hbk g2) hb1n
                simp only [FE.cells] at g0 g1 g2
                have hFm : F[m].t = K1.kids[m]'(by omega) := by
                  have : (F.map FE.t)[m]'(by simpa using hm') = K1.kids[m]'(by omega) := by simp only [HFt.out]
                  simpa using this
                have hpm : partsT F[m].t ≤ 549755813888 := by
                  rw [hFm]
                  have := partsL_get (ts := K1.kids) (i := m) (by omega)
                  have := HB.out
                  omega
                have hLm : Lm.length ≤ 549755813888 := by
                  have h1 := foldP_parts (K1.kids.take m) (L.map FE.t)
                  rw [← HLm.out] at h1
                  have h2 := partsL_len (Lm.map FE.t)
                  have h3 := partsL_take K1.kids m
                  have := HB.out
                  simp at h2
                  omega
                have hdrop : F.drop m = F[m] :: F.drop (m + 1) := List.drop_eq_getElem_cons hm'
                rw [hdrop] at R
                have HLn : Hid ((putF F[m] Lm).map FE.t = (K1.kids.take (m + 1)).foldl (fun o x => putT x o) (L.map FE.t)) := by
                  show _ = _
                  rw [List.take_succ_eq_append_getElem (by omega), List.foldl_append, ← HLm.out, putF_t, hFm]; rfl
                have P := fun (w' : World) (h : Below wr.heap.size wr w') => l4Put_any (w.heap.size + 1 + 1 + 1) av cv Lm F[m] w'.heap.size w' ((R.on h).row) ((R.on h).rd) ((R.on h).fo.own F[m] (List.mem_append_right _ (List.mem_cons_self ..))).1.rd (Nat.le_refl _) hpm hLm
                clear hdrop hne hcl1 hFm
                go_wp2_with fail
                go_region_with (go_at_call 125; refine (P _ ?_).mono ?_; exact (Below.refl _ _).drew; rintro e3 w4 ⟨g4, c4, rfl, hown4, hb4⟩; have hbb : Below wr.heap.size wr w4 := (Below.refl _ _).drew.trans hb4; have C4 := C.on hbb; have R4 := (R.on (Below.refl _ _).drew).put (by simp; omega) hb4 hown4; have q4 := C4.q2; have f4 := C4.fq 2; have hst4 := hst.trans (Stay.of_below hbb (fun _ hk _ => hk)); clear hown4 hb4)
                all_goals
                  go_wp2_with fail
                all_goals exact ⟨⟨m + 1, putF F[m] Lm, some ⟨g4, 0, none⟩, c4, by omega, by go_num, by simpa [putF_len] using C4.set (.slice (some ⟨g4, 0, none⟩) (Lm.length + 1) c4), R4.set _ (by simp only; omega), HLn, hst4.trans (Stay.setCell _ _ (by simp))⟩, by simp [intOf]; omega⟩
              · have E : Hid (m = K1.kids.length) := (by omega : m = K1.kids.length)
                have hnm : ¬ (m : Int) < (K1.kids.length : Int) := by omega
                have R' : NR (w.heap.size + 1 + 1 + 1) Lm [] av cv wr := by
                  have : F.drop m = [] := List.drop_of_length_le (by omega)
                  rwa [this] at R
                go_wp2_with fail
                refine ⟨⟨k + 1, Lm, av, cv, by omega, by go_num, C, R', ?_⟩, by simp [intOf]; omega⟩
                show _ = _
                rw [HLm.out, E.out, List.take_length, HLk.out, HLs.out]
          · have hkf' : (K1.f != t.f) = true := by simp [hkf]
            have HLs : Hid (stepN true t.f K1 (L.map FE.t) = putT K1 (L.map FE.t)) := by show _ = _; simp [stepN, hkf]
            clear hkf
            go_wp2_with (first
              | (go_at_call 74; refine I.mono ?_; rintro e1 w1 ⟨a1, c1, rfl, o1, hle1, hb1⟩; clear I p0 p2 d0 d1 d2; have C1 := C.on hb1; have R1 := R.join hb1 (fe_one o1 hle1 HIf.out.1 HIf.out.2 (Nat.le_of_lt_succ (by omega))) (fun e he x hx => by simp only [List.mem_singleton] at he; subst he; exact hx.1); have hbk : Below w1.heap.size w1 (w1.alloc (.cells #[.int .i64 K1.f, .int .i64 K1.v, .slice a1 K1.kids.length c1] 27)) := ((Below.refl w1.heap.size w1).alloc (Nat.le_refl _) _); have C3 := C1.on hbk; have R3 := R1.on hbk; have p0 := C1.p0; have p2 := C1.p2; have q2 := C1.q2; have y0 := C1.z; have y1 : w.heap.size + 1 < w1.heap.size := (by omega); have y2 : w.heap.size < w1.heap.size := (by omega); clear C R R1 hb1 o1 hz hbk)
              | (go_at_call 106; refine (BL _ ?_).mono ?_; exact (HS.out.below (C1.bel.alloc C1.bel.size _)); rintro e2 w2 ⟨rfl, hw⟩; subst w2)
              | (go_at_call 125; (refine (l4Put_any (w.heap.size + 1 + 1 + 1) av cv L ⟨K1, a1, c1, fun x => wr.heap.size ≤ x ∧ x < w1.heap.size⟩ (w1.heap.size + 1) _ R3.row (by simpa using R3.rd) (by simpa using (R3.fo.own ⟨K1, a1, c1, fun x => wr.heap.size ≤ x ∧ x < w1.heap.size⟩ (by simp)).1.rd) (by simp) HK1f.out.2.2 hLl).mono ?_; rintro e3 w4 ⟨g4, c4, rfl, hown4, hb4⟩; have C4 := C3.on hb4; have R4 := R3.put (by simp; omega) hb4 hown4; have q4 := C4.q2; have f4 := C4.fq 2; clear C3 R3 hown4 hb4 p0 p2 q2)))
            refine ⟨⟨k + 1, putF ⟨K1, a1, c1, fun x => wr.heap.size ≤ x ∧ x < w1.heap.size⟩ L, some ⟨g4, 0, none⟩, c4, by omega, by go_num, by simpa [putF_len] using C4.set (.slice (some ⟨g4, 0, none⟩) (L.length + 1) c4), R4.set _ (by simp only; omega), ?_⟩, by simp [intOf]; omega⟩
            show _ = _
            rw [putF_t, HLk.out, HLs.out]
      · have E : Hid (k = t.kids.length) := (by omega : k = t.kids.length)
        have q0 := C.q0
        have q1 := C.q1
        have q2 := C.q2
        have r0 := C.r0
        have r1 := C.r1
        have r2 := C.r2
        have fr := C.fr
        have hL : Hid (L.map FE.t = normL (blindAt ss) t.f t.kids []) := by
          show _ = _
          rw [HL.out, E.out, List.take_length]
        have hlr : L.length ≤ 9223372036854775807 := by
          have h1 := normL_parts (blindAt ss) t.f t.kids []
          have h3 := partsL_len (L.map FE.t)
          rw [hL.out] at h3
          simp [partsL, hL.out.symm] at h1 h3
          omega
        have O : OwnR wr (fun x => w.heap.size + 1 + 1 + 1 ≤ x ∧ x < wr.heap.size) av cv (L.map FE.t) := by
          rcases R.row.2 with ⟨hv, h0⟩ | ⟨g, cap, _, hv, _⟩
          · have : L = [] := List.length_eq_zero_iff.1 h0
            subst this; cases hv; exact .nil _
          · cases hv
            exact (by simpa using R.fo : Forest wr _ L).owns R.row (fun e he => R.ap g rfl e (by simpa using he)) hlr
        have hcl : L.length ≤ cv := by obtain ⟨_, _, h, hh⟩ := own_form R.row; cases h; exact hh
        have hbel := C.bel
        clear C R HL E ih BL
        go_wp2_with fail
        obtain ⟨z0, z1, z2⟩ := set3_cells (u := wr) (r := w.heap.size + 1) (x := .int .i64 t.f) (y := .int .i64 t.v) (z := .slice av L.length cv) r0 r1 r2
        have hn : ¬ (w.heap.size + 1 + 1 + 1 ≤ w.heap.size + 1 ∧ w.heap.size + 1 < wr.heap.size) := by omega
        have O3 := ((O.setCell ⟨w.heap.size + 1, 0, none⟩ hn (.int .i64 t.f)).setCell ⟨w.heap.size + 1, 1, none⟩ hn (.int .i64 t.v)).setCell ⟨w.heap.size + 1, 2, none⟩ hn (.slice av L.length cv)
        rw [← hL.out, List.length_map]
        refine bodyPost_ret (v := .agg #[.int .i64 t.f, .int .i64 t.v, .slice av L.length cv]) (by simp [results, Tryz.results74, go_sem, z0, z1, z2]) rfl ⟨av, cv, rfl, O3.mono (fun x hx => ⟨by omega, by simpa using hx.2⟩), hcl, ?_⟩
        exact ((hbel.setCell (p := ⟨w.heap.size + 1, 0, none⟩) (by simp) _).setCell (p := ⟨w.heap.size + 1, 1, none⟩) (by simp) _).setCell (p := ⟨w.heap.size + 1, 2, none⟩) (by simp) _
end Go.Proofs.YtollijngiioonaaGreat

/- What lies in memory while a law on a function that answers a term goes on. Conditions: none. -/
namespace Go.Proofs.YtollijngiioonaaGreat
set_option maxRecDepth 100000
open Go.RowKit

/-- A term in a box of three cells. -/
def Bx3 (W : World) (b : Nat) (f v : Int) (a : Option Addr) (n c : Nat) : Prop := W.cell? ⟨b, 0, none⟩ = some (.int .i64 f) ∧ W.cell? ⟨b, 1, none⟩ = some (.int .i64 v) ∧ W.cell? ⟨b, 2, none⟩ = some (.slice a n c)
theorem Bx3.stay {W W' : World} {b : Nat} {f v : Int} {a : Option Addr} {n c : Nat} {S : Nat → Prop} (h : Bx3 W b f v a n c) (hs : Stay S W W') (hb : S b) : Bx3 W' b f v a n c := ⟨hs.cell h.1 hb, hs.cell h.2.1 hb, hs.cell h.2.2 hb⟩
theorem Bx3.on {W W' : World} {b : Nat} {f v : Int} {a : Option Addr} {n c : Nat} (h : Bx3 W b f v a n c) (hb : Below W.heap.size W W') : Bx3 W' b f v a n c := ⟨keepC hb h.1, keepC hb h.2.1, keepC hb h.2.2⟩
theorem Bx3.lt {W : World} {b : Nat} {f v : Int} {a : Option Addr} {n c : Nat} (h : Bx3 W b f v a n c) : b < W.heap.size := World.block_lt_of_cell? _ _ h.1

/-- The argument's box, and the wanted answer in its box; all below H. -/
structure LP (w : World) (t : TermD) (a : Option Addr) (c : Nat) (N : TermD) (B : Nat) (aw : Option Addr) (cw H : Nat) (W : World) : Prop where
  bel : Below w.heap.size w W
  p : Bx3 W w.heap.size t.f t.v a t.kids.length c
  q : Bx3 W B t.f t.v aw N.kids.length cw
  rd : RdK W H aw N.kids
  hp : w.heap.size < H
  hB : B < H
  z : H ≤ W.heap.size
theorem LP.stay {w : World} {t : TermD} {a : Option Addr} {c : Nat} {N : TermD} {B : Nat} {aw : Option Addr} {cw H : Nat} {W W' : World} (h : LP w t a c N B aw cw H W) (hs : Stay (fun k => k < H) W W') : LP w t a c N B aw cw H W' :=
  have hp := h.hp
  ⟨h.bel.trans (hs.below h.bel.size (fun k hk => by omega)), h.p.stay hs h.hp, h.q.stay hs h.hB, h.rd.on (hs.below h.z (fun _ hk => hk)), h.hp, h.hB, Nat.le_trans h.z hs.size⟩
theorem LP.on {w : World} {t : TermD} {a : Option Addr} {c : Nat} {N : TermD} {B : Nat} {aw : Option Addr} {cw H : Nat} {W W' : World} (h : LP w t a c N B aw cw H W) (hb : Below W.heap.size W W') : LP w t a c N B aw cw H W' := h.stay (.of_below hb (fun _ hk _ => hk))
theorem set3_keep {W : World} {b o B : Nat} {v x y z : Value} (h : W.cell? ⟨b, o, none⟩ = some v) (hne : b ≠ B) : (((W.setCell ⟨B, 0, none⟩ x).setCell ⟨B, 1, none⟩ y).setCell ⟨B, 2, none⟩ z).cell? ⟨b, o, none⟩ = some v := by
  have e : ∀ j, (⟨B, j, none⟩ : Addr) ≠ ⟨b, o, none⟩ := fun j q => hne (by injection q with q1; exact q1.symm)
  rw [World.cell?_setCell_other _ _ _ _ (e 2), World.cell?_setCell_other _ _ _ _ (e 1), World.cell?_setCell_other _ _ _ _ (e 0)]
  exact h
theorem below_step {A X Y : World} (h : Below A.heap.size A X) (k : Below X.heap.size X Y) : Below A.heap.size A Y := h.trans (k.mono h.size)
/-- A new variable's box, still empty. -/
def Bz (W : World) (b : Nat) : Prop := Bx3 W b 0 0 none 0 0 ∧ ∀ j, W.frozen? ⟨b, j, none⟩ = false
theorem Bz.new (W : World) : Bz (W.alloc (.cells #[.int .i64 0, .int .i64 0, .slice none 0 0] 27)) W.heap.size := ⟨⟨by simp, by simp, by simp⟩, fun j => by simp⟩
theorem Bz.on {W W' : World} {b : Nat} (h : Bz W b) (hb : Below W.heap.size W W') : Bz W' b := ⟨h.1.on hb, fun j => (hb.frozen (p := ⟨b, j, none⟩) h.1.lt).trans (h.2 j)⟩
/-- The wanted answer's box made last. -/
theorem LP.last {w W : World} {t N : TermD} {a aw : Option Addr} {c cw : Nat} {S : Nat → Prop} (bel : Below w.heap.size w W) (p : Bx3 W w.heap.size t.f t.v a t.kids.length c) (ho : OwnS W S aw N.kids) : LP w t a c N W.heap.size aw cw (W.alloc (.cells #[.int .i64 t.f, .int .i64 t.v, .slice aw N.kids.length cw] 27)).heap.size (W.alloc (.cells #[.int .i64 t.f, .int .i64 t.v, .slice aw N.kids.length cw] 27)) := by
  have hb := (Below.refl W.heap.size W).alloc (Nat.le_refl _) (.cells #[.int .i64 t.f, .int .i64 t.v, .slice aw N.kids.length cw] 27)
  have hp := p.lt
  exact ⟨bel.trans (hb.mono bel.size), p.on hb, ⟨by simp, by simp, by simp⟩, (ho.rd.on hb).mono (by simp), by simp; omega, by simp, Nat.le_refl _⟩
/-- Or made earlier. -/
theorem LP.early {w W : World} {t N : TermD} {a aw : Option Addr} {c cw B : Nat} {S : Nat → Prop} (bel : Below w.heap.size w W) (p : Bx3 W w.heap.size t.f t.v a t.kids.length c) (ho : OwnS W S aw N.kids) (z : Bz W B) (hS : ¬ S B) (hB : w.heap.size < B) :
    LP w t a c N B aw cw (((W.setCell ⟨B, 0, none⟩ (.int .i64 t.f)).setCell ⟨B, 1, none⟩ (.int .i64 t.v)).setCell ⟨B, 2, none⟩ (.slice aw N.kids.length cw)).heap.size (((W.setCell ⟨B, 0, none⟩ (.int .i64 t.f)).setCell ⟨B, 1, none⟩ (.int .i64 t.v)).setCell ⟨B, 2, none⟩ (.slice aw N.kids.length cw)) := by
  obtain ⟨z0, z1, z2⟩ := set3_cells (u := W) (r := B) (x := .int .i64 t.f) (y := .int .i64 t.v) (z := .slice aw N.kids.length cw) z.1.1 z.1.2.1 z.1.2.2
  have hl := z.1.lt
  have hst : Stay (fun k => k ≠ B) W (((W.setCell ⟨B, 0, none⟩ (.int .i64 t.f)).setCell ⟨B, 1, none⟩ (.int .i64 t.v)).setCell ⟨B, 2, none⟩ (.slice aw N.kids.length cw)) := ((Stay.setCell _ _ (by simp)).trans (.setCell _ _ (by simp))).trans (.setCell _ _ (by simp))
  have ho' := ((ho.setCell ⟨B, 0, none⟩ hS (.int .i64 t.f)).setCell ⟨B, 1, none⟩ hS (.int .i64 t.v)).setCell ⟨B, 2, none⟩ hS (.slice aw N.kids.length cw)
  exact ⟨bel.trans (hst.below bel.size (fun k hk => by omega)), p.stay hst (by omega), ⟨z0, z1, z2⟩, ho'.rd, by have := hst.size; omega, by have := hst.size; omega, Nat.le_refl _⟩
/-- Behind the call: the arguments' copies, the answer in its box. -/
structure LG (w : World) (t : TermD) (a : Option Addr) (c : Nat) (N : TermD) (B6 : Nat) (aw : Option Addr) (cw H : Nat) (ss : List SymD) (G0 g7 B8 : Nat) (y : Option Addr) (B9 : Nat) (ag : Option Addr) (cg : Nat) (W : World) : Prop where
  lp : LP w t a c N B6 aw cw H W
  sy : W.ownsRow G0 103 3 (.slice (some ⟨G0, 0, none⟩) ss.length ss.length) ss.length (symCs ss)
  x : Bx3 W B8 t.f t.v y t.kids.length t.kids.length
  ox : OwnS W (fun k => g7 ≤ k ∧ k < B8) y t.kids
  g : Bx3 W B9 t.f t.v ag N.kids.length cg
  og : OwnS W (fun k => B8 + 1 ≤ k ∧ k < B9) ag N.kids
  h1 : H ≤ G0
  h2 : G0 < g7
  h3 : g7 ≤ B8
  h4 : B8 + 1 ≤ B9
  h5 : B9 < W.heap.size
theorem LG.on {w : World} {t : TermD} {a : Option Addr} {c : Nat} {N : TermD} {B6 : Nat} {aw : Option Addr} {cw H : Nat} {ss : List SymD} {G0 g7 B8 : Nat} {y : Option Addr} {B9 : Nat} {ag : Option Addr} {cg : Nat} {W W' : World} (h : LG w t a c N B6 aw cw H ss G0 g7 B8 y B9 ag cg W) (hb : Below W.heap.size W W') : LG w t a c N B6 aw cw H ss G0 g7 B8 y B9 ag cg W' := by
  have h3 := h.h3
  have h4 := h.h4
  have h5 := h.h5
  exact ⟨h.lp.on hb, own_on h.sy hb, h.x.on hb, h.ox.frame (fun k hk => hb.block k (by omega)) hb.size, h.g.on hb, h.og.frame (fun k hk => hb.block k (by omega)) hb.size, h.h1, h.h2, h.h3, h.h4, Nat.lt_of_lt_of_le h5 hb.size⟩
/-- When the copies may be written over. -/
structure LH (w : World) (t : TermD) (a : Option Addr) (c : Nat) (N : TermD) (B6 : Nat) (aw : Option Addr) (cw H lo B9 : Nat) (ag : Option Addr) (cg : Nat) (W : World) : Prop where
  lp : LP w t a c N B6 aw cw H W
  g : Bx3 W B9 t.f t.v ag N.kids.length cg
  og : OwnS W (fun k => lo ≤ k ∧ k < B9) ag N.kids
  h1 : H ≤ lo
  h4 : lo ≤ B9
  h5 : B9 < W.heap.size
theorem LH.stay {w : World} {t : TermD} {a : Option Addr} {c : Nat} {N : TermD} {B6 : Nat} {aw : Option Addr} {cw H lo B9 : Nat} {ag : Option Addr} {cg : Nat} {W W' : World} (h : LH w t a c N B6 aw cw H lo B9 ag cg W) (hs : Stay (fun k => k < H ∨ lo ≤ k) W W') : LH w t a c N B6 aw cw H lo B9 ag cg W' := by
  have h4 := h.h4
  have h5 := h.h5
  exact ⟨h.lp.stay (hs.weak (fun _ _ hk => .inl hk)), h.g.stay hs (.inr h4), h.og.frame (fun k hk => hs.block k (by omega) (.inr hk.1)) hs.size, h.h1, h.h4, Nat.lt_of_lt_of_le h5 hs.size⟩
theorem LH.on {w : World} {t : TermD} {a : Option Addr} {c : Nat} {N : TermD} {B6 : Nat} {aw : Option Addr} {cw H lo B9 : Nat} {ag : Option Addr} {cg : Nat} {W W' : World} (h : LH w t a c N B6 aw cw H lo B9 ag cg W) (hb : Below W.heap.size W W') : LH w t a c N B6 aw cw H lo B9 ag cg W' := h.stay (.of_below hb (fun _ hk _ => hk))
/-- When the answer bears marks. -/
structure LM (w : World) (t : TermD) (a : Option Addr) (c : Nat) (N : TermD) (B6 : Nat) (aw : Option Addr) (cw H lo B9 : Nat) (ag : Option Addr) (cg : Nat) (W : World) : Prop where
  lp : LP w t a c N B6 aw cw H W
  g : Bx3 W B9 t.f t.v ag N.kids.length cg
  og : Mk W (fun k => lo ≤ k ∧ k < B9) ag N.kids 1
  h5 : B9 < W.heap.size
theorem LM.on {w : World} {t : TermD} {a : Option Addr} {c : Nat} {N : TermD} {B6 : Nat} {aw : Option Addr} {cw H lo B9 : Nat} {ag : Option Addr} {cg : Nat} {W W' : World} (h : LM w t a c N B6 aw cw H lo B9 ag cg W) (hb : Below W.heap.size W W') : LM w t a c N B6 aw cw H lo B9 ag cg W' := by
  have h5 := h.h5
  exact ⟨h.lp.on hb, h.g.on hb, h.og.frame (fun k hk => hb.block k (by omega)), Nat.lt_of_lt_of_le h5 hb.size⟩
theorem only_stay {S T : Nat → Prop} {W W0 W' : World} (hb : Below W.heap.size W W0) (ho : Only S W0 W') (hs : ∀ k, k < W.heap.size → T k → ¬ S k) : Stay T W W' :=
  ⟨ho.os.trans hb.os, ho.tape.trans hb.tape, ho.output.trans hb.output, by rw [ho.size]; exact hb.size, fun k hk ht => (ho.block k (hs k hk ht)).trans (hb.block k hk)⟩
theorem LH.marked {w : World} {t : TermD} {a : Option Addr} {c : Nat} {N : TermD} {B6 : Nat} {aw : Option Addr} {cw H lo B9 : Nat} {ag : Option Addr} {cg : Nat} {W W0 W' : World} (h : LH w t a c N B6 aw cw H lo B9 ag cg W) (hb : Below W.heap.size W W0) (ho : Only (fun k => lo ≤ k ∧ k < B9) W0 W') (hm : Mk W' (fun k => lo ≤ k ∧ k < B9) ag N.kids 1) : LM w t a c N B6 aw cw H lo B9 ag cg W' := by
  have h1 := h.h1
  have h5 := h.h5
  have hs : Stay (fun k => k < H ∨ k = B9) W W' := only_stay hb ho (fun k _ hk q => by omega)
  exact ⟨h.lp.stay (hs.weak (fun _ _ hk => .inl hk)), h.g.stay hs (.inr rfl), hm, Nat.lt_of_lt_of_le h5 hs.size⟩
theorem lg_start {w wc w7 w8 w9 : World} {t N : TermD} {a aw y1 ag : Option Addr} {c B6 cw H cg : Nat} {ss : List SymD} (L8 : LP w t a c N B6 aw cw H w8) (o8 : w8.ownsRow wc.heap.size 103 3 (.slice (some ⟨wc.heap.size, 0, none⟩) ss.length ss.length) ss.length (symCs ss)) (ho8 : OwnS w8 (fun k => w7.heap.size ≤ k ∧ k < w8.heap.size) y1 t.kids)
    (hbx : Below w8.heap.size w8 (w8.alloc (.cells #[.int .i64 t.f, .int .i64 t.v, .slice y1 t.kids.length t.kids.length] 27))) (ho9 : OwnS w9 (fun k => (w8.alloc (.cells #[.int .i64 t.f, .int .i64 t.v, .slice y1 t.kids.length t.kids.length] 27)).heap.size ≤ k ∧ k < w9.heap.size) ag N.kids) (hb0 : Below (w8.alloc (.cells #[.int .i64 t.f, .int .i64 t.v, .slice y1 t.kids.length t.kids.length] 27)).heap.size (w8.alloc (.cells #[.int .i64 t.f, .int .i64 t.v, .slice y1 t.kids.length t.kids.length] 27)) w9) (hw6 : H ≤ wc.heap.size) (h67 : wc.heap.size < w7.heap.size) (h78 : w7.heap.size ≤ w8.heap.size) :
    LG w t a c N B6 aw cw H ss wc.heap.size w7.heap.size w8.heap.size y1 w9.heap.size ag cg (w9.alloc (.cells #[.int .i64 t.f, .int .i64 t.v, .slice ag N.kids.length cg] 27)) := by
  have hb9 : Below w9.heap.size w9 (w9.alloc (.cells #[.int .i64 t.f, .int .i64 t.v, .slice ag N.kids.length cg] 27)) := (Below.refl _ _).alloc (Nat.le_refl _) _
  have h1 : Below w8.heap.size w8 w9 := hbx.trans (hb0.mono hbx.size)
  have h2 : Below w8.heap.size w8 (w9.alloc (.cells #[.int .i64 t.f, .int .i64 t.v, .slice ag N.kids.length cg] 27)) := h1.trans (hb9.mono h1.size)
  have hx : Bx3 (w8.alloc (.cells #[.int .i64 t.f, .int .i64 t.v, .slice y1 t.kids.length t.kids.length] 27)) w8.heap.size t.f t.v y1 t.kids.length t.kids.length := ⟨by simp, by simp, by simp⟩
  have hs0 := hb0.size
  simp only [World.size_alloc] at hs0 ho9
  exact ⟨L8.on h2, own_on o8 h2, (hx.on hb0).on hb9, ho8.frame (fun k hk => h2.block k hk.2) h2.size, ⟨by simp, by simp, by simp⟩, ho9.frame (fun k hk => hb9.block k hk.2) hb9.size, hw6, h67, h78, by omega, by simp⟩
theorem LG.h {w : World} {t : TermD} {a : Option Addr} {c : Nat} {N : TermD} {B6 : Nat} {aw : Option Addr} {cw H : Nat} {ss : List SymD} {G0 g7 B8 : Nat} {y : Option Addr} {B9 : Nat} {ag : Option Addr} {cg : Nat} {W W' : World} (h : LG w t a c N B6 aw cw H ss G0 g7 B8 y B9 ag cg W) (hs : Stay (fun k => k ≠ G0) W W') :
    LH w t a c N B6 aw cw H (B8 + 1) B9 ag cg W' ∧ OwnS W' (fun k => g7 ≤ k ∧ k < B8) y t.kids ∧ Bx3 W' B8 t.f t.v y t.kids.length t.kids.length := by
  have h1 := h.h1
  have h2 := h.h2
  have h3 := h.h3
  have h4 := h.h4
  have h5 := h.h5
  have L : LH w t a c N B6 aw cw H (B8 + 1) B9 ag cg W := ⟨h.lp, h.g, h.og, by omega, h.h4, h.h5⟩
  exact ⟨L.stay (hs.weak (fun k _ hk => by omega)), h.ox.frame (fun k hk => hs.block k (by omega) (by omega)) hs.size, h.x.stay hs (by omega)⟩
theorem LM.last {w : World} {t : TermD} {a : Option Addr} {c : Nat} {N : TermD} {B6 : Nat} {aw : Option Addr} {cw H lo B9 : Nat} {ag : Option Addr} {cg : Nat} {W : World} {S : Nat → Prop} {ah : Option Addr} {ch : Nat} (h : LM w t a c N B6 aw cw H lo B9 ag cg W) (ho : OwnS W S ah N.kids) : LM w t a c N B6 aw cw H lo B9 ag cg (W.alloc (.cells #[.int .i64 t.f, .int .i64 t.v, .slice ah N.kids.length ch] 27)) ∧ Bx3 (W.alloc (.cells #[.int .i64 t.f, .int .i64 t.v, .slice ah N.kids.length ch] 27)) W.heap.size t.f t.v ah N.kids.length ch ∧ RdK (W.alloc (.cells #[.int .i64 t.f, .int .i64 t.v, .slice ah N.kids.length ch] 27)) (W.alloc (.cells #[.int .i64 t.f, .int .i64 t.v, .slice ah N.kids.length ch] 27)).heap.size ah N.kids := by
  have hb : Below W.heap.size W (W.alloc (.cells #[.int .i64 t.f, .int .i64 t.v, .slice ah N.kids.length ch] 27)) := (Below.refl _ _).alloc (Nat.le_refl _) _
  exact ⟨h.on hb, ⟨by simp, by simp, by simp⟩, (ho.rd.on hb).mono hb.size⟩
theorem LM.early {w : World} {t : TermD} {a : Option Addr} {c : Nat} {N : TermD} {B6 : Nat} {aw : Option Addr} {cw H lo B9 : Nat} {ag : Option Addr} {cg : Nat} {W : World} {S : Nat → Prop} {ah : Option Addr} {ch : Nat} {B : Nat} (h : LM w t a c N B6 aw cw H lo B9 ag cg W) (ho : OwnS W S ah N.kids) (z : Bz W B) (hS : ¬ S B) (hH : H ≤ B) (hB : B9 < B) : LM w t a c N B6 aw cw H lo B9 ag cg (((W.setCell ⟨B, 0, none⟩ (.int .i64 t.f)).setCell ⟨B, 1, none⟩ (.int .i64 t.v)).setCell ⟨B, 2, none⟩ (.slice ah N.kids.length ch)) ∧ Bx3 (((W.setCell ⟨B, 0, none⟩ (.int .i64 t.f)).setCell ⟨B, 1, none⟩ (.int .i64 t.v)).setCell ⟨B, 2, none⟩ (.slice ah N.kids.length ch)) B t.f t.v ah N.kids.length ch ∧ RdK (((W.setCell ⟨B, 0, none⟩ (.int .i64 t.f)).setCell ⟨B, 1, none⟩ (.int .i64 t.v)).setCell ⟨B, 2, none⟩ (.slice ah N.kids.length ch)) (((W.setCell ⟨B, 0, none⟩ (.int .i64 t.f)).setCell ⟨B, 1, none⟩ (.int .i64 t.v)).setCell ⟨B, 2, none⟩ (.slice ah N.kids.length ch)).heap.size ah N.kids := by
  obtain ⟨z0, z1, z2⟩ := set3_cells (u := W) (r := B) (x := .int .i64 t.f) (y := .int .i64 t.v) (z := .slice ah N.kids.length ch) z.1.1 z.1.2.1 z.1.2.2
  have hst : Stay (fun k => k ≠ B) W (((W.setCell ⟨B, 0, none⟩ (.int .i64 t.f)).setCell ⟨B, 1, none⟩ (.int .i64 t.v)).setCell ⟨B, 2, none⟩ (.slice ah N.kids.length ch)) := ((Stay.setCell _ _ (by simp)).trans (.setCell _ _ (by simp))).trans (.setCell _ _ (by simp))
  have ho' := ((ho.setCell ⟨B, 0, none⟩ hS (.int .i64 t.f)).setCell ⟨B, 1, none⟩ hS (.int .i64 t.v)).setCell ⟨B, 2, none⟩ hS (.slice ah N.kids.length ch)
  have h5 := h.h5
  exact ⟨⟨h.lp.stay (hst.weak (fun k _ hk => by omega)), h.g.stay hst (by omega), h.og.frame (fun k hk => hst.block k (by omega) (by omega)), Nat.lt_of_lt_of_le h5 hst.size⟩, ⟨z0, z1, z2⟩, ho'.rd⟩
end Go.Proofs.YtollijngiioonaaGreat

/- Owners of blocks: terms in boxes, a copied list of functions, marks. Conditions: none. -/
namespace Go.Proofs.YtollijngiioonaaGreat
set_option maxRecDepth 100000
open Go.RowKit

/-- A step that writes only into what belongs to some owners. -/
structure TP (t : Nat → Prop) (o : Nat → Nat) (W : World) (o' : Nat → Nat) (W' : World) : Prop where
  st : Stay (fun k => ¬ t (o k)) W W'
  old : ∀ k, k < W.heap.size → o' k = o k
theorem TP.same (t : Nat → Prop) (o : Nat → Nat) {W W' : World} (hb : Below W.heap.size W W') : TP t o W o W' := ⟨.of_below hb (fun _ hk _ => hk), fun _ _ => rfl⟩
theorem TP.grow (t : Nat → Prop) (o : Nat → Nat) {W W' : World} (hb : Below W.heap.size W W') (g : Nat) : TP t o W (upd o W.heap.size W'.heap.size g) W' := ⟨.of_below hb (fun _ hk _ => hk), fun _ hk => upd_old hk⟩
theorem Tg.same {w0 : World} {o : Nat → Nat} {W W' : World} (h : Tg w0 o W) (hb : Below W.heap.size W W') : Tg w0 o W' := by
  have hs := hb.size
  exact ⟨h.bel.trans (hb.mono h.bel.size), fun k hk => by have := h.own k hk; omega⟩
theorem Tg.write {w0 : World} {o : Nat → Nat} {W W' : World} {t : Nat → Prop} (h : Tg w0 o W) (hs : Stay (fun k => ¬ t (o k)) W W') (h0 : ¬ t 0) : Tg w0 o W' := by
  refine ⟨h.bel.trans (hs.below h.bel.size (fun k hk => ?_)), fun k hk => by have := h.own k hk; have := hs.size; omega⟩
  by_cases e : o k = 0
  · rw [e]; exact h0
  · have := h.own k e; omega
theorem Tg.base {w0 w1 : World} {o : Nat → Nat} {W : World} (h : Tg w1 o W) (hb : Below w0.heap.size w0 w1) : Tg w0 o W := by
  have := hb.size
  exact ⟨hb.trans (h.bel.mono hb.size), fun k hk => by have := h.own k hk; omega⟩
open Classical in
/-- Two new sets of blocks. -/
noncomputable def upd2 (o : Nat → Nat) (S1 S2 : Nat → Prop) (g1 g2 : Nat) : Nat → Nat := fun k => if S1 k then g1 else if S2 k then g2 else o k
theorem upd2_1 {o : Nat → Nat} {S1 S2 : Nat → Prop} {g1 g2 k : Nat} (h : S1 k) : upd2 o S1 S2 g1 g2 k = g1 := by unfold upd2; rw [if_pos h]
theorem upd2_2 {o : Nat → Nat} {S1 S2 : Nat → Prop} {g1 g2 k : Nat} (h : S2 k) (hn : ¬ S1 k) : upd2 o S1 S2 g1 g2 k = g2 := by unfold upd2; rw [if_neg hn, if_pos h]
theorem upd2_old {o : Nat → Nat} {S1 S2 : Nat → Prop} {g1 g2 k : Nat} (h1 : ¬ S1 k) (h2 : ¬ S2 k) : upd2 o S1 S2 g1 g2 k = o k := by unfold upd2; rw [if_neg h1, if_neg h2]
theorem TP.two (t : Nat → Prop) (o : Nat → Nat) {W W' : World} {S1 S2 : Nat → Prop} (hb : Below W.heap.size W W') (h1 : ∀ k, S1 k → W.heap.size ≤ k) (h2 : ∀ k, S2 k → W.heap.size ≤ k) (g1 g2 : Nat) : TP t o W (upd2 o S1 S2 g1 g2) W' :=
  ⟨.of_below hb (fun _ hk _ => hk), fun k hk => upd2_old (fun h => by have := h1 k h; omega) (fun h => by have := h2 k h; omega)⟩
theorem Tg.two {w0 : World} {o : Nat → Nat} {W W' : World} {S1 S2 : Nat → Prop} (h : Tg w0 o W) (hb : Below W.heap.size W W') (h1 : ∀ k, S1 k → W.heap.size ≤ k ∧ k < W'.heap.size) (h2 : ∀ k, S2 k → W.heap.size ≤ k ∧ k < W'.heap.size) (g1 g2 : Nat) : Tg w0 (upd2 o S1 S2 g1 g2) W' := by
  have hs := hb.size
  have hz := h.bel.size
  refine ⟨h.bel.trans (hb.mono hz), fun k hk => ?_⟩
  by_cases e1 : S1 k
  · have := h1 k e1; omega
  · by_cases e2 : S2 k
    · have := h2 k e2; omega
    · rw [upd2_old e1 e2] at hk
      have := h.own k hk
      omega
theorem OwnS.tp {w0 : World} {o o' : Nat → Nat} {W W' : World} {g : Nat} {t : Nat → Prop} {a : Option Addr} {ks : List TermD} (h : OwnS W (fun k => o k = g) a ks) (hT : Tg w0 o W) (F : TP t o W o' W') (h0 : g ≠ 0) (ht : ¬ t g) : OwnS W' (fun k => o' k = g) a ks := by
  have hl : ∀ k, o k = g → k < W.heap.size := fun k hk => (hT.own k (by rw [hk]; exact h0)).2
  exact (h.frame (fun k hk => F.st.block k (hl k hk) (by rw [hk]; exact ht)) F.st.size).mono fun k hk => (F.old k (hl k hk)).trans hk
theorem Mk.mono' {w : World} {S T : Nat → Prop} {a : Option Addr} {ts : List TermD} {k : Int} (h : Mk w S a ts k) (hs : ∀ x, S x → T x) : Mk w T a ts k := by
  cases h with
  | nil => exact .nil _ _ _
  | row S b off ts A C K k hb hc hsub hk => exact .row _ b off ts A C K k (hs b hb) hc (fun i x hx hk => hs x (hsub i x hx hk)) hk
theorem Mk.tp {w0 : World} {o o' : Nat → Nat} {W W' : World} {g : Nat} {t : Nat → Prop} {a : Option Addr} {ks : List TermD} {m : Int} (h : Mk W (fun k => o k = g) a ks m) (hT : Tg w0 o W) (F : TP t o W o' W') (h0 : g ≠ 0) (ht : ¬ t g) : Mk W' (fun k => o' k = g) a ks m := by
  have hl : ∀ k, o k = g → k < W.heap.size := fun k hk => (hT.own k (by rw [hk]; exact h0)).2
  exact (h.frame (fun k hk => F.st.block k (hl k hk) (by rw [hk]; exact ht))).mono' fun k hk => (F.old k (hl k hk)).trans hk
/-- A term in a box: it owns its memory. -/
structure X3 (o : Nat → Nat) (W : World) (g g1 B : Nat) (x : TermD) (a : Option Addr) (c : Nat) : Prop where
  e : o B = g
  b : C3 W B (.int .i64 x.f) (.int .i64 x.v) (.slice a x.kids.length c)
  k : OwnS W (fun k => o k = g1) a x.kids
theorem X3.tp {w0 : World} {o o' : Nat → Nat} {W W' : World} {g g1 B : Nat} {t : Nat → Prop} {x : TermD} {a : Option Addr} {c : Nat} (h : X3 o W g g1 B x a c) (hT : Tg w0 o W) (F : TP t o W o' W') (h1 : g1 ≠ 0) (ht : ¬ t g) (ht1 : ¬ t g1) : X3 o' W' g g1 B x a c :=
  ⟨(F.old B h.b.lt).trans h.e, h.b.stay F.st (by rw [h.e]; exact ht), h.k.tp hT F h1 ht1⟩
/-- The copy of the list of functions. -/
structure SR (o : Nat → Nat) (W : World) (g G : Nat) (ss : List SymD) : Prop where
  e : o G = g
  w : W.ownsRow G 103 3 (.slice (some ⟨G, 0, none⟩) ss.length ss.length) ss.length (symCs ss)
theorem SR.on {o o' : Nat → Nat} {W W' : World} {g G : Nat} {ss : List SymD} (h : SR o W g G ss) (hb : Below W.heap.size W W') (ho : ∀ k, k < W.heap.size → o' k = o k) : SR o' W' g G ss := ⟨(ho G (h.w.lt _ rfl).2).trans h.e, own_on h.w hb⟩

def pNo : Nat → Prop := fun _ => False
theorem dnb {L : Array Bool} {i j : Nat} (hi : i < L.size) (hj : i ≠ j) (h : Dn (L.setIfInBounds i true) j) : Dn L j := ((dn_set hi).1 h).resolve_left (fun e => hj e.symm)
theorem dnn {L : Array Bool} {i j : Nat} (hi : i < L.size) (h : ¬ Dn (L.setIfInBounds i true) j) : ¬ Dn L j := fun hx => h ((dn_set hi).2 (.inr hx))
theorem C3.new' (W : World) (x y z : Value) (T : TypeId) {n : Nat} (h : W.heap.size = n) : C3 (W.alloc (.cells #[x, y, z] T)) n x y z := h ▸ C3.new W x y z T
section
variable {t : TermD} {ax : Option Addr} {cx : Nat} {o : Nat → Nat} {W W' : World}
/-- A term is copied, and its box laid. -/
theorem X3.new {p : World} (T : Tg p o W) (hb : Below W.heap.size W W') (hk : OwnS W' (fun k => W.heap.size ≤ k ∧ k < W'.heap.size) ax t.kids) (g g1 : Nat) (h1 : g1 ≠ 0) (TT : TypeId) : ∃ o', TP pNo o W o' (W'.alloc (.cells #[.int .i64 t.f, .int .i64 t.v, .slice ax t.kids.length cx] TT)) ∧ Tg p o' (W'.alloc (.cells #[.int .i64 t.f, .int .i64 t.v, .slice ax t.kids.length cx] TT)) ∧ X3 o' (W'.alloc (.cells #[.int .i64 t.f, .int .i64 t.v, .slice ax t.kids.length cx] TT)) g g1 W'.heap.size t ax cx := by
  have hb2 : Below W'.heap.size W' (W'.alloc (.cells #[.int .i64 t.f, .int .i64 t.v, .slice ax t.kids.length cx] TT)) := (Below.refl _ _).alloc (Nat.le_refl _) _
  have T1 := T.grow hb g1
  have hk1 : OwnS W' (fun k => upd o W.heap.size W'.heap.size g1 k = g1) ax t.kids := hk.mono fun k hk => upd_new hk.1 hk.2
  have F2 := TP.grow pNo (upd o W.heap.size W'.heap.size g1) hb2 g
  refine ⟨_, ⟨(TP.grow pNo o hb g1).st.trans (.of_below hb2 (fun _ hk _ => hk)), fun k hk => (F2.old k (Nat.lt_of_lt_of_le hk hb.size)).trans (upd_old hk)⟩, T1.grow hb2 g, upd_new (Nat.le_refl _) (by simp), C3.new _ _ _ _ _, hk1.tp T1 F2 h1 id⟩
end
end Go.Proofs.YtollijngiioonaaGreat

/- The one result of a function, where it lies in a cell. Conditions: none. -/
namespace Go.Proofs.YtollijngiioonaaGreat
set_option maxRecDepth 100000
open Go.RowKit

theorem results_cell1 {fn : Func} {p : Tmp} {ty : TypeId} (h : fn.results = #[.cell p ty]) (tmps : Array Value) (P : Program) (w : World) :
    (results fn tmps).run P w = ((asAddr (tmps.getD p undef)).run P w).andThen fun a w₁ => (loadVar ty a).run P w₁ := by
  simp only [results, h]
  simp [Sem.run_bind, Result.andThen]
theorem load_bool {w : World} {p : Addr} {b : Bool} (h : w.cell? p = some (.bool b)) : (loadVar 4 p).run Tryz.prog w = .ok (.bool b) w := by
  simp [loadVar, go_sem, h]
theorem results_bool {fn : Func} {p : Tmp} (h : fn.results = #[.cell p 4]) {tmps : Array Value} {w : World} {a : Addr} (ha : tmps.getD p undef = .pointer (some a)) {b : Bool} (hc : w.cell? a = some (.bool b)) :
    (results fn tmps).run Tryz.prog w = .ok (.bool b) w := by
  rw [results_cell1 h, ha]
  simp [go_sem, hc, Result.andThen]
end Go.Proofs.YtollijngiioonaaGreat

/- The program's copy of a term: one form where no function is blind is the term itself. Conditions: terms of at most 549755813888 parts. -/
namespace Go.Proofs.YtollijngiioonaaGreat
set_option maxRecDepth 100000
open Go.RowKit

mutual
theorem normT_id (bl : Int → Bool) (h : ∀ f, bl f = false) : ∀ t, normT bl t = t
  | .mk f v ks => by rw [normT, normL_id bl h f ks []]; simp
theorem normL_id (bl : Int → Bool) (h : ∀ f, bl f = false) (f : Int) : ∀ ks out, normL bl f ks out = out ++ ks
  | [], out => by simp [normL]
  | k :: ks, out => by rw [normL, normT_id bl h k, stepN, h f, if_pos rfl, normL_id bl h f ks]; simp
end
theorem blindAt_none : ∀ f, blindAt [] f = false := by intro f; unfold blindAt; split <;> simp

theorem copyTerm_any (t : TermD) (a : Option Addr) (c hi : Nat) (w : World) (hp : partsT t ≤ 549755813888) (hr : RdK w hi a t.kids) (hhi : hi ≤ w.heap.size) (hc : t.kids.length ≤ c) (hwf : isW t.f ∧ isW t.v) :
    Calls Tryz.prog 85 #[.agg #[.int .i64 t.f, .int .i64 t.v, .slice a t.kids.length c]] w fun e w' => ∃ a' c', e = .returned (.agg #[.int .i64 t.f, .int .i64 t.v, .slice a' t.kids.length c']) ∧ OwnS w' (fun k => w.heap.size ≤ k ∧ k < w'.heap.size) a' t.kids ∧ t.kids.length ≤ c' ∧ Below w.heap.size w w' := by
  obtain ⟨W, hW⟩ : ∃ W, W = (w.alloc (.cells #[.int .i64 t.f, .int .i64 t.v, .slice a t.kids.length c] 27)).alloc (.cells #[.int .i64 0, .int .i64 0, .slice none 0 0] 27) := ⟨_, rfl⟩
  have hb0 : Below w.heap.size w W := by rw [hW]; exact ((Below.refl _ _).alloc (Nat.le_refl _) _).alloc (by simp) _
  have hz0 : W.heap.size = w.heap.size + 1 + 1 := by rw [hW]; simp
  have nb0 : NB w W := ⟨hb0, by rw [hW]; simp [go_sem], by rw [hW]; simp [go_sem], by rw [hW]; simp [go_sem], fun j => by rw [hW]; simp [go_sem], by omega⟩
  have C := impNorm_any none [] 0 t a c hi W (by simp [RdS]) hp (hr.on (hb0.mono hhi)) (Nat.le_trans hhi hb0.size) hc hwf
  rw [normT_id _ blindAt_none t] at C
  simp only [List.length_nil] at C
  clear hp hr hhi hc
  go_enter Tryz.func85, Tryz.ntmps85
  go_wp2_with (go_at_call 69; rw [← hW]; refine C.mono ?_; rintro e w4 ⟨a', c', rfl, ho4, hc4, hb4⟩; have nb4 := nb0.on hb4; have d0 := nb4.c0; have d1 := nb4.c1; have d2 := nb4.c2; have df := nb4.cf; have hz4 : w.heap.size + 1 < w4.heap.size := nb4.z; clear C hW)
  obtain ⟨z0, z1, z2⟩ := set3_cells (u := w4) (r := w.heap.size + 1) (x := .int .i64 t.f) (y := .int .i64 t.v) (z := .slice a' t.kids.length c') d0 d1 d2
  have hnS : ∀ j, ¬ (W.heap.size ≤ (⟨w.heap.size + 1, j, none⟩ : Addr).block ∧ (⟨w.heap.size + 1, j, none⟩ : Addr).block < w4.heap.size) := fun j q => by have := q.1; simp only at this; omega
  have hoF := ((ho4.setCell ⟨w.heap.size + 1, 0, none⟩ (hnS 0) (.int .i64 t.f)).setCell ⟨w.heap.size + 1, 1, none⟩ (hnS 1) (.int .i64 t.v)).setCell ⟨w.heap.size + 1, 2, none⟩ (hnS 2) (.slice a' t.kids.length c')
  have hbF := ((nb4.be.setCell (p := ⟨w.heap.size + 1, 0, none⟩) (by simp) (.int .i64 t.f)).setCell (p := ⟨w.heap.size + 1, 1, none⟩) (by simp) (.int .i64 t.v)).setCell (p := ⟨w.heap.size + 1, 2, none⟩) (by simp) (.slice a' t.kids.length c')
  refine bodyPost_ret (v := .agg #[.int .i64 t.f, .int .i64 t.v, .slice a' t.kids.length c']) (by simp [results, Tryz.results85, go_sem, z0, z1, z2]) rfl ⟨a', c', rfl, hoF.mono (fun k hk => ⟨by omega, by simpa using hk.2⟩), hc4, hbF⟩
end Go.Proofs.YtollijngiioonaaGreat

/- All terms within a term, in the order in which the program goes over them, and its stack of lists. Conditions: none. -/
namespace Go.Proofs.YtollijngiioonaaGreat
set_option maxRecDepth 100000
open Go.RowKit

mutual
/-- A term and all terms within it, a term ahead of its Kids. -/
def preT : TermD → List TermD
  | .mk f v ks => .mk f v ks :: preL ks
def preL : List TermD → List TermD
  | [] => []
  | t :: ts => preT t ++ preL ts
end
theorem preT_eq (t : TermD) : preT t = t :: preL t.kids := by cases t; rw [preT]; rfl
mutual
theorem preT_len : ∀ t : TermD, (preT t).length = partsT t
  | .mk f v ks => by have := preL_len ks; rw [preT, partsT, List.length_cons, this]
theorem preL_len : ∀ ts : List TermD, (preL ts).length = partsL ts
  | [] => by simp [preL, partsL]
  | t :: ts => by have h1 := preT_len t; have h2 := preL_len ts; rw [preL, partsL, List.length_append, h1, h2]
end
/-- How often variable v stands among terms. -/
def cntP (v : Int) (l : List TermD) : Nat := (l.filter fun x => x.f == -1 && x.v == v).length
theorem cntP_append (v : Int) (a b : List TermD) : cntP v (a ++ b) = cntP v a + cntP v b := by simp [cntP]
mutual
theorem cntP_pre (v : Int) : ∀ t : TermD, cntP v (preT t) = cntT v t
  | .mk f u ks => by
    have := cntP_preL v ks
    rw [preT, cntT, ← this, show TermD.mk f u ks :: preL ks = [TermD.mk f u ks] ++ preL ks from rfl, cntP_append]
    congr 1
    by_cases h1 : f = -1 <;> by_cases h2 : u = v <;> simp [cntP, TermD.f, TermD.v, h1, h2]
theorem cntP_preL (v : Int) : ∀ ts : List TermD, cntP v (preL ts) = cntL v ts
  | [] => by simp [preL, cntL, cntP]
  | t :: ts => by have h1 := cntP_pre v t; have h2 := cntP_preL v ts; rw [preL, cntL, cntP_append, h1, h2]
end

/-- What comes to the loop: a term, and where its Kids lie. -/
structure El where
  t : TermD
  a : Option Addr
  c : Nat
/-- As it comes. -/
def El.enc (x : El) : Array Value := #[.agg #[.int .i64 x.t.f, .int .i64 x.t.v, .slice x.a x.t.kids.length x.c]]

/-- One list on the stack. -/
structure LE where
  a : Option Addr
  c : Nat
  ts : List TermD
def cellsL : List LE → List Value
  | [] => []
  | e :: E => cellsL E ++ [.slice e.a e.ts.length e.c]
theorem cellsL_len (E : List LE) : (cellsL E).length = E.length * 1 := by
  induction E with
  | nil => rfl
  | cons e E ih => simp only [cellsL, List.length_append, ih, List.length_cons, List.length_nil]; omega
/-- All that is still to come. -/
def preS : List LE → List TermD
  | [] => []
  | e :: E => preL e.ts ++ preS E
def sizeL : List LE → Nat
  | [] => 0
  | e :: E => 2 * partsL e.ts + 1 + sizeL E
theorem sizeL_len (E : List LE) : E.length ≤ sizeL E := by
  induction E with
  | nil => simp
  | cons e E ih => simp only [sizeL, List.length_cons]; omega

theorem cellsL_top {w : World} {B T g c : Nat} {e : LE} {E : List LE} (h : w.ownsRow B T 1 (.slice (some ⟨g, 0, none⟩) (E.length + 1) c) (E.length + 1) (cellsL (e :: E))) :
    w.cell? ⟨g, E.length, none⟩ = some (.slice e.a e.ts.length e.c) := by
  have hl := cellsL_len E
  refine (h.cellAt _ (by omega)).trans ?_
  rw [cellsL, List.getElem?_append_right (by omega)]; simp [hl]
theorem cellsL_set {w : World} {B T g c : Nat} {e : LE} {E : List LE} (h : w.ownsRow B T 1 (.slice (some ⟨g, 0, none⟩) (E.length + 1) c) (E.length + 1) (cellsL (e :: E))) (d : LE) :
    (w.setCell ⟨g, E.length, none⟩ (.slice d.a d.ts.length d.c)).ownsRow B T 1 (.slice (some ⟨g, 0, none⟩) (E.length + 1) c) (E.length + 1) (cellsL (d :: E)) := by
  have hl := cellsL_len E
  have h1 := (h.stored E.length (.slice d.a d.ts.length d.c)).1
  have e1 : (cellsL (e :: E)).set E.length (.slice d.a d.ts.length d.c) = cellsL (d :: E) := by
    simp only [cellsL]
    rw [List.set_append_right _ _ (by omega)]
    simp [hl]
  rwa [e1] at h1
theorem cellsL_pop {w : World} {B T g c : Nat} {e : LE} {E : List LE} (h : w.ownsRow B T 1 (.slice (some ⟨g, 0, none⟩) (E.length + 1) c) (E.length + 1) (cellsL (e :: E))) :
    w.ownsRow B T 1 (.slice (some ⟨g, 0, none⟩) E.length c) E.length (cellsL E) := ownsRow_pop (cellsL_len E) h

/-- The blocks in which the terms lie. -/
def Rx (n B k : Nat) : Prop := k < n ∨ k = B

/-- The list at 'a' lies in wr, in a block of S; its terms' Kids lie in w0 below n. -/
def RdF (w0 : World) (n : Nat) (wr : World) (S : Nat → Prop) (a : Option Addr) (ts : List TermD) : Prop :=
  ts = [] ∨ ∃ (b off : Nat) (A : Nat → Option Addr) (C : Nat → Nat), a = some ⟨b, off, none⟩ ∧ S b ∧ (∀ i, (h : i < ts.length) → ts[i].kids.length ≤ C i) ∧
    (∀ i, (h : i < ts.length) → wr.cell? ⟨b, off + i * 3, none⟩ = some (.int .i64 ts[i].f) ∧ wr.cell? ⟨b, off + i * 3 + 1, none⟩ = some (.int .i64 ts[i].v) ∧ wr.cell? ⟨b, off + i * 3 + 2, none⟩ = some (.slice (A i) ts[i].kids.length (C i))) ∧
    (∀ i, (h : i < ts.length) → RdK w0 n (A i) ts[i].kids)
theorem RdF.stay {w0 wr wr' : World} {n : Nat} {S : Nat → Prop} {a : Option Addr} {ts : List TermD} (h : RdF w0 n wr S a ts) (hb : Stay S wr wr') : RdF w0 n wr' S a ts := by
  rcases h with h | ⟨b, off, A, C, h1, h2, h3, h4, h5⟩
  · exact .inl h
  · refine .inr ⟨b, off, A, C, h1, h2, h3, fun i hi => ?_, h5⟩
    obtain ⟨q0, q1, q2⟩ := h4 i hi
    exact ⟨hb.cell q0 h2, hb.cell q1 h2, hb.cell q2 h2⟩
theorem RdF.head {w0 wr : World} {n : Nat} {S : Nat → Prop} {a : Option Addr} {t : TermD} {ts : List TermD} (h : RdF w0 n wr S a (t :: ts)) :
    ∃ b off a' c', a = some ⟨b, off, none⟩ ∧ S b ∧ wr.cell? ⟨b, off, none⟩ = some (.int .i64 t.f) ∧ wr.cell? ⟨b, off + 1, none⟩ = some (.int .i64 t.v) ∧ wr.cell? ⟨b, off + 2, none⟩ = some (.slice a' t.kids.length c') ∧ t.kids.length ≤ c' ∧ RdK w0 n a' t.kids := by
  rcases h with h | ⟨b, off, A, C, h1, h2, h3, h4, h5⟩
  · simp at h
  · have q := h4 0 (by simp)
    simp only [Nat.zero_mul, Nat.add_zero, List.getElem_cons_zero] at q
    exact ⟨b, off, A 0, C 0, h1, h2, q.1, q.2.1, q.2.2, h3 0 (by simp), h5 0 (by simp)⟩
theorem RdF.tailA {w0 wr : World} {n : Nat} {S : Nat → Prop} {b off : Nat} {t : TermD} {ts : List TermD} (h : RdF w0 n wr S (some ⟨b, off, none⟩) (t :: ts)) {c : Nat} (hc : ts.length + 1 ≤ c) : RdF w0 n wr S (tailA b off c) ts := by
  rcases h with h | ⟨b', off', A, C, h1, h2, h3, h4, h5⟩
  · simp at h
  · cases h1
    unfold Go.Proofs.YtollijngiioonaaGreat.tailA
    split
    · exact .inl (List.eq_nil_of_length_eq_zero (by omega))
    · refine .inr ⟨b, off + 3, fun i => A (i + 1), fun i => C (i + 1), rfl, h2, fun i hi => ?_, fun i hi => ?_, fun i hi => ?_⟩
      · have := h3 (i + 1) (by simpa using hi); simpa using this
      · have := h4 (i + 1) (by simpa using hi)
        rw [show off + (i + 1) * 3 = off + 3 + i * 3 by omega] at this
        simpa using this
      · have := h5 (i + 1) (by simpa using hi); simpa using this
theorem RdK.f {w0 wr : World} {n : Nat} {S : Nat → Prop} {a : Option Addr} {ts : List TermD} (h : RdK w0 n a ts) (he : ∀ k, k < n → wr.heap[k]? = w0.heap[k]?) (hs : ∀ k, k < n → S k) : RdF w0 n wr S a ts := by
  cases h with
  | nil a => exact .inl rfl
  | row b off ts A C hlt hl hz hc hk =>
    refine .inr ⟨b, off, A, C, rfl, hs _ hlt, hl.2, fun i hi => ?_, hk⟩
    obtain ⟨q0, q1, q2⟩ := hc i hi
    exact ⟨(World.cell?_of_block (he b hlt)).trans q0, (World.cell?_of_block (he b hlt)).trans q1, (World.cell?_of_block (he b hlt)).trans q2⟩
/-- It read so before what came behind it was laid. -/
theorem RdK.back {w w' : World} {hi : Nat} {a : Option Addr} {ts : List TermD} (h : RdK w' hi a ts) (hb : ∀ k, k < hi → w'.heap[k]? = w.heap[k]?) : RdK w hi a ts := by
  induction h with
  | nil a => exact .nil a
  | row b off ts A C hlt hl hz hc hk ih =>
    refine .row b off ts A C hlt hl hz (fun i h => ?_) ih
    obtain ⟨h0, h1, h2⟩ := hc i h
    exact ⟨(World.cell?_of_block (hb b hlt).symm).trans h0, (World.cell?_of_block (hb b hlt).symm).trans h1, (World.cell?_of_block (hb b hlt).symm).trans h2⟩

/-- The iterator's own memory, apart from the blocks of S. -/
structure WSt (w0 : World) (n B T : Nat) (S : Nat → Prop) (E : List LE) (v : Value) (wr : World) : Prop where
  row : wr.ownsRow n T 1 v E.length (cellsL E)
  own : ∀ g, v.ownBlock = some g → ¬ S g ∧ g ≠ B
  nB : ¬ S B
  lB : B < wr.heap.size
  nle : n ≤ B
  good : ∀ e ∈ E, RdF w0 n wr (Rx n B) e.a e.ts ∧ e.ts.length ≤ e.c
  same : ∀ k, k < n → wr.heap[k]? = w0.heap[k]?

namespace WSt
variable {w0 : World} {n B T : Nat} {S S' : Nat → Prop} {E : List LE} {v : Value} {wr wr' : World}

theorem out (h : WSt w0 n B T S E v wr) : ∀ g, v.ownBlock = some g → ¬ Rx n B g := fun g hg hx => hx.elim (fun h1 => by have := (h.row.lt g hg).1; omega) (h.own g hg).2

/-- New blocks alone. -/
theorem on (h : WSt w0 n B T S E v wr) (hb : Below wr.heap.size wr wr') : WSt w0 n B T S E v wr' :=
  ⟨own_on h.row hb, h.own, h.nB, Nat.lt_of_lt_of_le h.lB hb.size, h.nle, fun e he => ⟨(h.good e he).1.stay (.of_below hb (fun _ hk _ => hk)), (h.good e he).2⟩, fun k hk => (hb.block k (by have := h.lB; have := h.nle; omega)).trans (h.same k hk)⟩

/-- Over a round: the body turns nothing below n, nor outside S. -/
theorem round (h : WSt w0 n B T S E v wr) (hs : Stay (fun k => k < n ∨ ¬ S k) wr wr') (hS : ∀ k, S' k → S k ∨ wr.heap.size ≤ k) : WSt w0 n B T S' E v wr' := by
  have hl := h.row.lt
  refine ⟨own_stay h.row hs (fun g hg => .inr (h.own g hg).1), fun g hg => ⟨fun hg' => ?_, (h.own g hg).2⟩, fun hB => ?_, Nat.lt_of_lt_of_le h.lB hs.size, h.nle, fun e he => ⟨(h.good e he).1.stay (hs.weak (fun _ _ hk => hk.elim .inl (fun e => .inr (e ▸ h.nB)))), (h.good e he).2⟩, fun k hk => (hs.block k (by have := h.lB; have := h.nle; omega) (.inl hk)).trans (h.same k hk)⟩
  · rcases hS g hg' with h1 | h1
    · exact (h.own g hg).1 h1
    · have := (hl g hg).2; omega
  · rcases hS B hB with h1 | h1
    · exact h.nB h1
    · have := h.lB; omega

theorem pop {g c : Nat} {e : LE} (h : WSt w0 n B T S (e :: E) (.slice (some ⟨g, 0, none⟩) (E.length + 1) c) wr) : WSt w0 n B T S E (.slice (some ⟨g, 0, none⟩) E.length c) wr :=
  ⟨cellsL_pop h.row, fun g' hg => h.own g' hg, h.nB, h.lB, h.nle, fun e he => h.good e (by simp [he]), h.same⟩

theorem set {g c : Nat} {e d : LE} (h : WSt w0 n B T S (e :: E) (.slice (some ⟨g, 0, none⟩) (E.length + 1) c) wr) (hd : RdF w0 n wr (Rx n B) d.a d.ts ∧ d.ts.length ≤ d.c) :
    WSt w0 n B T S (d :: E) (.slice (some ⟨g, 0, none⟩) (E.length + 1) c) (wr.setCell ⟨g, E.length, none⟩ (.slice d.a d.ts.length d.c)) := by
  have hs : Stay (Rx n B) wr (wr.setCell ⟨g, E.length, none⟩ (.slice d.a d.ts.length d.c)) := Stay.setCell _ _ (h.out g rfl)
  refine ⟨cellsL_set h.row d, h.own, h.nB, Nat.lt_of_lt_of_le h.lB hs.size, h.nle, fun f hf => ?_, fun k hk => (hs.block k (by have := h.lB; have := h.nle; omega) (.inl hk)).trans (h.same k hk)⟩
  rcases List.mem_cons.1 hf with rfl | hf
  · exact ⟨hd.1.stay hs, hd.2⟩
  · exact ⟨(h.good f (by simp [hf])).1.stay hs, (h.good f (by simp [hf])).2⟩

theorem push {v' : Value} {d : LE} (h : WSt w0 n B T S E v wr) (hS : ∀ k, S k → k < wr.heap.size) (hrow : wr'.ownsRow n T 1 v' (E.length + 1) (cellsL E ++ [.slice d.a d.ts.length d.c])) (hg : wr.grownBy wr' v.ownBlock) (hv : v'.ownBlock = v.ownBlock ∨ v'.ownBlock = some wr.heap.size) (hd : RdF w0 n wr (Rx n B) d.a d.ts ∧ d.ts.length ≤ d.c) :
    WSt w0 n B T S (d :: E) v' wr' := by
  have hs : Stay (Rx n B) wr wr' := .grown hg (fun k hk => h.out k hk)
  refine ⟨hrow, fun g hg' => ?_, h.nB, Nat.lt_of_lt_of_le h.lB hs.size, h.nle, fun f hf => ?_, fun k hk => (hs.block k (by have := h.lB; have := h.nle; omega) (.inl hk)).trans (h.same k hk)⟩
  · rcases hv with e | e
    · exact h.own g (e ▸ hg')
    · rw [hg'] at e
      cases e
      exact ⟨fun h1 => by have := hS _ h1; omega, fun e => by have := h.lB; omega⟩
  · rcases List.mem_cons.1 hf with rfl | hf
    · exact ⟨hd.1.stay hs, hd.2⟩
    · exact ⟨(h.good f hf).1.stay hs, (h.good f hf).2⟩
end WSt

theorem one_slice (x : Option Addr) (l c : Nat) : ∀ u ∈ [Value.slice x l c], u.oneCell' = true := by
  intro u hu; simp at hu; subst hu; rfl
theorem one_new1 (w : World) (u : Value) (t : TypeId) (n : Nat) (hn : n = w.heap.size) : ∀ j v, [u][j]? = some v → (w.alloc (.cells #[u] t)).cell? ((⟨n, 0, none⟩ : Addr).add j) = some v := by
  subst hn
  intro j v hj
  match j, hj with
  | 0, hj => simp at hj; subst hj; simp [Addr.add]
  | j + 1, hj => simp at hj
end Go.Proofs.YtollijngiioonaaGreat

/- The program's iterator over all terms within a term: its contract. Conditions: terms of at most 549755813888 parts. -/
namespace Go.Proofs.YtollijngiioonaaGreat
set_option maxRecDepth 100000
open Go.RowKit Go.Shelf
attribute [local go_sem] Oper.semAt_some

theorem info24 : (Tryz.prog.info? 25).map (fun i => (i.zero, i.size, i.bytes)) = some (some (.slice none 0 0), 1, 24) := by kernel_rfl

/-- What comes next: a term within t, all ahead of it having come; its Kids read. -/
def InT (w : World) (n₀ : Nat) (t : TermD) (pre : List El) (x : El) : Prop := (∃ r, pre.map El.t ++ x.t :: r = preT t) ∧ RdK w n₀ x.a x.t.kids ∧ x.t.kids.length ≤ x.c

/-- What holds between two rounds. -/
structure WRel (w0 : World) (n B M : Nat) (t : TermD) (J : List El → (Nat → Prop) → World → Prop) (pre : List El) (S : Nat → Prop) (E : List LE) (v : Value) (wr : World) : Prop where
  st : WSt w0 n B 25 S E v wr
  j : J pre S wr
  got : pre.map El.t ++ preS E = preT t
  size : sizeL E ≤ M

theorem with_start {t : TermD} {a : Option Addr} {c hi n : Nat} {w W : World} {S : Nat → Prop} (hc : t.kids.length ≤ c) (hr : RdK w hi a t.kids) (hhi : hi ≤ n) (hn : n ≤ w.heap.size) (hbW : Below w.heap.size w W) (hS : ∀ k, S k → k < W.heap.size) :
    WSt w n W.heap.size 25 S [⟨some ⟨W.heap.size, 0, none⟩, 1, [t]⟩] (.slice (some ⟨W.heap.size + 1, 0, none⟩) 1 1) ((W.alloc (.cells #[.int .i64 t.f, .int .i64 t.v, .slice a t.kids.length c] 27)).alloc (.cells #[.slice (some ⟨W.heap.size, 0, none⟩) 1 1] 25)) := by
  have hrow := World.ownsRow_lit (base := n) (size := 1) (e := 25) (W.alloc (.cells #[.int .i64 t.f, .int .i64 t.v, .slice a t.kids.length c] 27)) #[.slice (some ⟨W.heap.size, 0, none⟩) 1 1] 1 (by simp; have := hbW.size; omega) (by unfold maxLen; omega) rfl
  rw [World.size_alloc] at hrow
  have hb : Below W.heap.size W ((W.alloc (.cells #[.int .i64 t.f, .int .i64 t.v, .slice a t.kids.length c] 27)).alloc (.cells #[.slice (some ⟨W.heap.size, 0, none⟩) 1 1] 25)) := ((Below.refl _ _).alloc (Nat.le_refl _) _).alloc (by simp) _
  refine ⟨hrow, fun g hg => ?_, fun h => by have := hS _ h; omega, by simp; omega, Nat.le_trans hn hbW.size, fun e he => ?_, fun k hk => (hb.block k (by have := hbW.size; omega)).trans (hbW.block k (by omega))⟩
  · have e : W.heap.size + 1 = g := by simpa [Value.ownBlock] using hg
    subst e
    exact ⟨fun h => by have := hS _ h; omega, by omega⟩
  · simp only [List.mem_singleton] at he
    subst he
    refine ⟨.inr ⟨W.heap.size, 0, fun _ => a, fun _ => c, rfl, .inr rfl, fun i hi => ?_, fun i hi => ?_, fun i hi => ?_⟩, Nat.le_refl _⟩
    all_goals
      have e : i = 0 := by simp at hi; omega
      subst e
      simp only [List.getElem_cons_zero]
    · exact hc
    · simp [go_sem]
    · exact hr.mono hhi

set_option maxHeartbeats 3200000 in
set_option maxRecDepth 100000 in
theorem within_seq (F : Fence) (n : Nat) (h64 : F.fn 110) (hro : F.round = none) (hn : 1 ≤ n) (w : World) (t : TermD) (a : Option Addr) (c hi n₀ Bt : Nat) (hp : partsT t ≤ 549755813888) (hc : t.kids.length ≤ c) (hr : RdK w hi a t.kids) (hhi : hi ≤ n₀) (hn₀ : n₀ ≤ w.heap.size)
    (b0 : w.cell? ⟨Bt, 0, none⟩ = some (.int .i64 t.f)) (b1 : w.cell? ⟨Bt, 1, none⟩ = some (.int .i64 t.v)) (b2 : w.cell? ⟨Bt, 2, none⟩ = some (.slice a t.kids.length c)) :
    SeqPriv F n Tryz.prog 110 #[.pointer (some ⟨Bt, 0, none⟩)] El.enc n₀ (fun xs => xs.map El.t = preT t) (fun pre => ∃ r, pre.map El.t ++ r = preT t) (InT w n₀ t) (partsT t) w := by
  intro l J Jx S₀ W hbW hJ hJx hJb hY h0
  obtain ⟨i0, hi0, hz0, hz1, hz2⟩ := info_parts info24
  have c0 := keepC hbW b0
  have c1 := keepC hbW b1
  have c2 := keepC hbW b2
  refine callsIn_of_wp Tryz.func110 rfl h64 ?_ hro
  simp only [Tryz.ntmps110, List.size_toArray, List.length_cons, List.length_nil, Nat.reduceAdd, Nat.reduceSub, Array.replicate_succ, Array.replicate_zero, List.push_toArray, List.append_toArray, List.nil_append, List.cons_append]
  have st0 := with_start (S := S₀) hc hr hhi hn₀ hbW (hJb _ _ _ h0)
  have R0 : WRel w n₀ W.heap.size (2 * partsT t + 1) t J [] S₀ [⟨some ⟨W.heap.size, 0, none⟩, 1, [t]⟩] (.slice (some ⟨W.heap.size + 1, 0, none⟩) 1 1) ((W.alloc (.cells #[.int .i64 t.f, .int .i64 t.v, .slice a t.kids.length c] 27)).alloc (.cells #[.slice (some ⟨W.heap.size, 0, none⟩) 1 1] 25)) :=
    ⟨st0, hJ _ _ _ _ (hJ _ _ _ _ h0 (.alloc _ _ _)) (.alloc _ _ _), by simp [preS, preL], by simp [sizeL, partsL]⟩
  have HM : Hid (2 * partsT t + 1 ≤ 1099511627777) := (by omega : 2 * partsT t + 1 ≤ 1099511627777)
  have HJ : Hid (∀ pre S A B, J pre S A → Stay S A B → J pre S B) := hJ
  have HJB : Hid (∀ pre S A, J pre S A → ∀ k, S k → k < A.heap.size) := hJb
  have HY : Hid (∀ pre x S A, J pre S A → pre.length < partsT t → InT w n₀ t pre x → YieldAt F (n - 1) Tryz.prog l (El.enc x) A fun e B =>
      (e = .returned (.bool true) ∧ ∃ S', J (pre ++ [x]) S' B ∧ (∀ k, S' k → S k ∨ A.heap.size ≤ k) ∧ Stay (fun k => k < n₀ ∨ ¬ S k) A B) ∨
      (e = .returned (.bool false) ∧ ∃ S', Jx (pre ++ [x]) S' B)) := hY
  clear hJ hJx hJb hY h0 st0 b0 b1 b2 hr hp hc hhi
  have HPT : Hid ((preT t).length = partsT t) := preT_len t
  generalize 2 * partsT t + 1 = M at *
  gi_wp2
  clear c0 c1 c2
  generalize W.heap.size = B at *
  gi_loopw [3] (fun v wr => ∃ pre S E, WRel w n₀ B M t J pre S E v wr) (fun v wr => leastN (fun m => ∃ pre S E, WRel w n₀ B M t J pre S E v wr ∧ sizeL E = m))
  case atStart => exact ⟨_, _, _, R0⟩
  case round =>
    obtain ⟨pre1, S1, E1, R1⟩ := hrel
    obtain ⟨m0, ⟨pre, S, E, R, hm0⟩, hmin⟩ := leastN_spec (p := fun m => ∃ pre S E, WRel w n₀ B M t J pre S E u3 wr ∧ sizeL E = m) ⟨_, pre1, S1, E1, R1, rfl⟩
    clear R1 R0
    obtain ⟨st, hj, hgot, hsz⟩ := R
    cases E with
    | nil =>
      obtain ⟨a5, c5, rfl, _⟩ := own_form st.row
      have HG : Hid (pre.map El.t = preT t) := by show _ = _; simpa [preS] using hgot
      clear st hmin hm0 hgot
      gi_wp2
      go_end0
      exact ⟨⟨_, rfl⟩, .inl ⟨pre, S, HG.out, hj⟩⟩
    | cons e E =>
      obtain ⟨g, cap, rfl, hcap, hg0, hgl⟩ := own_slot st.row
      have q0 := cellsL_top st.row
      obtain ⟨hrd, hlec⟩ := st.good e (by simp)
      have hlen := sizeL_len (e :: E)
      have HM' := HM.out
      have hEl : E.length ≤ 1099511627776 := by simp only [List.length_cons] at hlen; omega
      have hEi : (E.length : Int) ≤ cap := by omega
      clear hlen HM'
      obtain ⟨ea, ec, ets⟩ := e
      cases ets with
      | nil =>
        have R' : WRel w n₀ B M t J pre S E (.slice (some ⟨g, 0, none⟩) E.length cap) wr := ⟨st.pop, hj, by simpa [preS, preL] using hgot, by simp only [sizeL] at hsz; omega⟩
        have Q0 : Hid (sizeL E < m0) := by show _ < _; rw [← hm0]; simp only [sizeL]; omega
        simp only [List.length_nil] at q0
        clear st hgot hj hsz hm0 hrd hlec
        gi_wp2
        go_roundw
        case rel => exact ⟨_, _, _, R'⟩
        case measure => exact Nat.lt_of_le_of_lt (leastN_le ⟨_, _, _, R', rfl⟩) (by rw [hmin]; exact Q0.out)
      | cons x xs =>
        obtain ⟨b, off, xa, xc, hb, hSb, x0, x1, x2, hxc, hxr⟩ := hrd.head
        simp only at hb
        subst hb
        simp only [List.length_cons] at q0 hlec
        have hgg := st.out g rfl
        have hSg := (st.own g rfl).1
        have hbg : b ≠ g := fun e => hgg (e ▸ hSb)
        have hbl : b < wr.heap.size := World.block_lt_of_cell? _ _ x0
        have hbk : (0 : Int) ≤ E.length := by omega
        have hs1 := slice_tail b off xs.length ec
        have hs3 := sliceAt_tail b off xs.length ec
        have fz : ∀ j, wr.frozen? ⟨g, j, none⟩ = false := fun j => st.row.frozenAt j
        obtain ⟨W2, hW2⟩ : ∃ W2, W2 = wr.setCell ⟨g, E.length, none⟩ (.slice (tailA b off ec) xs.length (ec - 1)) := ⟨_, rfl⟩
        have hz2' : W2.heap.size = wr.heap.size := by rw [hW2]; simp
        have st2 : WSt w n₀ B 25 S (⟨tailA b off ec, ec - 1, xs⟩ :: E) (.slice (some ⟨g, 0, none⟩) (E.length + 1) cap) W2 := by
          rw [hW2]; exact st.set (d := ⟨tailA b off ec, ec - 1, xs⟩) ⟨hrd.tailA hlec, by simp only; omega⟩
        obtain ⟨W3, hW3⟩ : ∃ W3, W3 = W2.alloc (.cells #[.int .i64 x.f, .int .i64 x.v, .slice xa x.kids.length xc] 27) := ⟨_, rfl⟩
        have hb3 : Below W2.heap.size W2 W3 := by rw [hW3]; exact (Below.refl _ _).alloc (Nat.le_refl _) _
        have hz3 : W3.heap.size = wr.heap.size + 1 := by rw [hW3, ← hz2']; simp
        have st3 := st2.on hb3
        have hj3 : J pre S W3 := by
          rw [hW3, hW2]; exact HJ.out _ _ _ _ (HJ.out _ _ _ _ hj (.setCell _ _ hSg)) (.alloc _ _ _)
        have hSk := HJB.out _ _ _ hj
        have nbn : ¬ S wr.heap.size := fun h => by have := hSk _ h; omega
        have X0 : W3.cell? ⟨wr.heap.size, 0, none⟩ = some (.int .i64 x.f) ∧ W3.cell? ⟨wr.heap.size, 1, none⟩ = some (.int .i64 x.v) ∧ W3.cell? ⟨wr.heap.size, 2, none⟩ = some (.slice xa x.kids.length xc) := by
          rw [hW3, ← hz2']; simp [go_sem]
        have hxr3 : Hid (RdK w n₀ xa x.kids) := hxr
        have hin : InT w n₀ t pre ⟨x, xa, xc⟩ := ⟨⟨preL x.kids ++ (preL xs ++ preS E), by rw [← hgot]; simp [preS, preL, preT_eq]⟩, hxr, hxc⟩
        have HG : Hid ((pre ++ [(⟨x, xa, xc⟩ : El)]).map El.t ++ (preL x.kids ++ (preL xs ++ preS E)) = preT t) := by
          show _ = _
          rw [← hgot]; simp [preS, preL, preT_eq]
        have HS : Hid (sizeL (⟨xa, xc, x.kids⟩ :: ⟨tailA b off ec, ec - 1, xs⟩ :: E) < m0) := by show _ < _; rw [← hm0]; simp only [sizeL, partsL, partsT_eq]; omega
        have HS2 : Hid (m0 ≤ M) := by show _ ≤ _; rw [← hm0]; exact hsz
        have hpl : pre.length < partsT t := by rw [← HPT.out, ← hgot]; simp [preS, preL, preT_eq]
        obtain ⟨fn, tmps, assign, body, hy, hR⟩ := HY.out pre ⟨x, xa, xc⟩ S W3 hj3 hpl hin
        clear hin
        dsimp only [El.enc] at hy
        rw [hW2] at hW3
        rw [hW3] at hy
        clear st hj hgot hsz hm0 hrd st2 hxr hj3 hSk hb3 hz2' hW2
        gi_wp2
        rw [← hW3]
        refine hR.mono ?_
        rintro e W4 (⟨rfl, S', hj4, hsub, hst4⟩ | ⟨rfl, S', hjx⟩)
        · have st4 := st3.round hst4 hsub
          have X0 := hst4.cell X0.2.2 (.inr nbn)
          have HSk : Hid (∀ k, S' k → k < W4.heap.size) := HJB.out _ _ _ hj4
          have hE2 : E.length + 1 + 1 ≤ 1099511627778 := by omega
          have hn4 : n₀ ≤ W4.heap.size := Nat.le_trans st4.nle (Nat.le_of_lt st4.lB)
          clear hy hR hW3 hsub hst4 st3 q0 hs1 hs3 fz hz3
          gi_wp2_with (gi_at_builtin; refine wpListIn_append_own_at _ rfl (.tmp 42) (.tmp 45) 130 rfl n₀ 25 i0 _ 1 24 Tryz.underlying130 hi0 hz0 hz1 hz2 rfl (by decide) _ _ _ rfl (st4.row.alloc _) ⟨W4.heap.size, 0, none⟩ 1 1 _ rfl rfl (one_new1 _ _ _ _ rfl) (one_slice _ _ _) (by unfold maxLen; simp only [List.length_cons]; omega) (by simp only [List.length_cons]; omega) (by simp; omega) ?_; intro v6 w6 hown6 hgrow6 hnil6 hat6; clear hnil6)
          have st6 := (st4.on ((Below.refl _ _).alloc (Nat.le_refl _) _)).push (d := ⟨xa, xc, x.kids⟩) (fun k h => by have := HSk.out k h; simp; omega) hown6 hgrow6 hat6 ⟨hxr3.out.f (st4.on ((Below.refl _ _).alloc (Nat.le_refl _) _)).same (fun k hk => .inl hk), hxc⟩
          have hj6 := HJ.out _ _ _ _ (HJ.out _ _ _ _ hj4 (.alloc _ _ _)) (.grown hgrow6 (fun k hk => (st4.own k hk).1))
          have R6 : WRel w n₀ B M t J _ S' _ v6 w6 := ⟨st6, hj6, HG.out, by have h1 := HS.out; have h2 := HS2.out; exact Nat.le_of_lt (Nat.lt_of_lt_of_le h1 h2)⟩
          clear st4 st6 hj6 hown6 hgrow6 hat6 hxr3
          go_roundw
          case rel => exact ⟨_, _, _, R6⟩
          case measure => exact Nat.lt_of_le_of_lt (leastN_le ⟨_, _, _, R6, rfl⟩) (by rw [hmin]; exact HS.out)
        · clear hy hR hW3 st3 hxr3 q0 hs1 hs3 fz hz3
          gi_wp2
          refine bodyPost_ret (results_none rfl _ _ _) rfl ?_
          exact ⟨⟨_, rfl⟩, .inr ⟨_, S', ⟨_, HG.out⟩, hjx⟩⟩
end Go.Proofs.YtollijngiioonaaGreat

/- Whether a term is a variable, and which, as the program tells it by a type switch. Conditions: none. -/
namespace Go.Proofs.YtollijngiioonaaGreat
set_option maxRecDepth 100000
open Go.RowKit

theorem pieceOf_var (t : TermD) (a : Option Addr) (n c : Nat) (w : World) (h : t.f = -1) :
    Calls Tryz.prog 128 #[.agg #[.int .i64 t.f, .int .i64 t.v, .slice a n c]] w fun e w' => e = .returned (.iface 171 (.agg #[.int .i64 t.v])) ∧ Below w.heap.size w w' := by
  go_enter Tryz.func128, Tryz.ntmps128
  go_wp2
  go_ret
  exact ⟨rfl, (Below.refl _ _).alloc (Nat.le_refl _) _⟩

theorem pieceOf_fun (t : TermD) (a : Option Addr) (n c : Nat) (w : World) (h : (t.f == -1) = false) :
    Calls Tryz.prog 128 #[.agg #[.int .i64 t.f, .int .i64 t.v, .slice a n c]] w fun e w' => e = .returned (.iface 182 (.agg #[.int .i64 t.f, .slice a n c])) ∧ Below w.heap.size w w' := by
  go_enter Tryz.func128, Tryz.ntmps128
  go_wp2
  go_ret
  exact ⟨rfl, (Below.refl _ _).alloc (Nat.le_refl _) _⟩

theorem ta_hit (v : Value) (w : World) : (Instr.typeAssert (.iface 171 v) 155 171 true).run Tryz.prog w = .ok (.tuple #[v, .bool true]) w := by
  simp [Instr.typeAssert, run_underlying Tryz.underlying171, go_sem]
theorem ta_miss (v : Value) (w : World) : (Instr.typeAssert (.iface 182 v) 155 171 true).run Tryz.prog w = .ok (.tuple #[.agg #[.int .i64 0], .bool false]) w := by
  have hz : (zeroValue 171).run Tryz.prog w = .ok (.agg #[.int .i64 0]) w := by simp [go_sem]
  simp [Instr.typeAssert, run_underlying Tryz.underlying171, go_sem, hz]

/-- What is told of a term: its number where it is a variable. -/
def vofI (t : TermD) : Int := if t.f = -1 then t.v else 0
def vofB (t : TermD) : Bool := t.f == -1
theorem rtT {a b : Int} {p q : Bool} (h : a = b) (h' : p = q) : Ending.returned (.tuple #[.int .i64 a, .bool p]) = .returned (.tuple #[.int .i64 b, .bool q]) := by rw [h, h']

set_option maxHeartbeats 1600000 in
set_option maxRecDepth 100000 in
theorem variableOf_any (t : TermD) (a : Option Addr) (n c : Nat) (w : World) :
    Calls Tryz.prog 99 #[.agg #[.int .i64 t.f, .int .i64 t.v, .slice a n c]] w fun e w' => e = .returned (.tuple #[.int .i64 (vofI t), .bool (vofB t)]) ∧ Below w.heap.size w w' := by
  by_cases h : t.f = -1
  · have HI : Hid (vofI t = t.v) := by show _ = _; simp [vofI, h]
    have HB : Hid (vofB t = true) := by show _ = _; simp [vofB, h]
    have C := fun w => pieceOf_var t a n c w h
    clear h
    have hA := ta_hit
    go_enter Tryz.func99, Tryz.ntmps99
    go_wp2_with (go_at_call 128; refine (C _).mono ?_; rintro e w1 ⟨rfl, hb1⟩; clear C)
    go_ret2
    have h0 : Below w.heap.size w w1 := ((Below.refl _ _).alloc (Nat.le_refl _) _).trans (hb1.mono (by simp))
    exact ⟨rtT HI.out.symm HB.out.symm, h0.alloc h0.size _⟩
  · have h' : (t.f == -1) = false := by simp [h]
    have HI : Hid (vofI t = 0) := by show _ = _; simp [vofI, h]
    have HB : Hid (vofB t = false) := by show _ = _; simp [vofB, h]
    have C := fun w => pieceOf_fun t a n c w h'
    clear h h'
    have hA := ta_miss
    go_enter Tryz.func99, Tryz.ntmps99
    go_wp2_with (go_at_call 128; refine (C _).mono ?_; rintro e w1 ⟨rfl, hb1⟩; clear C)
    go_ret2
    exact ⟨rtT HI.out.symm HB.out.symm, ((Below.refl _ _).alloc (Nat.le_refl _) _).trans (hb1.mono (by simp))⟩
end Go.Proofs.YtollijngiioonaaGreat

/- The program makes an iterator over a term. Conditions: none. -/
namespace Go.Proofs.YtollijngiioonaaGreat
set_option maxRecDepth 100000
open Go.RowKit Go.Shelf
attribute [local go_sem] Oper.semAt_some

theorem within_any (t : TermD) (a : Option Addr) (c : Nat) (w : World) :
    Calls Tryz.prog 65 #[.agg #[.int .i64 t.f, .int .i64 t.v, .slice a t.kids.length c]] w fun e w' => e = .returned (.func (.func 110) #[] #[.pointer (some ⟨w.heap.size, 0, none⟩)]) ∧ w' = w.alloc (.cells #[.int .i64 t.f, .int .i64 t.v, .slice a t.kids.length c] 27) := by
  generalize t.kids.length = n at *
  go_enter Tryz.func65, Tryz.ntmps65
  go_wp2
  go_ret
  exact ⟨rfl, rfl⟩

end Go.Proofs.YtollijngiioonaaGreat

/- How many terms are within a term, and how often a variable, as the program tells it: it ranges over its iterator. Conditions: terms of at most 549755813888 parts. -/
namespace Go.Proofs.YtollijngiioonaaGreat
set_option maxRecDepth 100000
open Go.RowKit Go.Shelf
attribute [local go_sem] Oper.semAt_some

end Go.Proofs.YtollijngiioonaaGreat

/- A round's own variable. Conditions: none. -/
namespace Go.Proofs.YtollijngiioonaaGreat
set_option maxRecDepth 100000
open Go.RowKit
/-- The round's own variable lies in a block of its own. -/
structure BoxEl (x : El) (Bx : Nat) (S : Nat → Prop) (W : World) : Prop where
  s : S Bx
  c0 : W.cell? ⟨Bx, 0, none⟩ = some (.int .i64 x.t.f)
  c1 : W.cell? ⟨Bx, 1, none⟩ = some (.int .i64 x.t.v)
  c2 : W.cell? ⟨Bx, 2, none⟩ = some (.slice x.a x.t.kids.length x.c)
theorem BoxEl.stay {x : El} {Bx : Nat} {S : Nat → Prop} {A B : World} (h : BoxEl x Bx S A) (hs : Stay S A B) : BoxEl x Bx S B := ⟨h.s, hs.cell h.c0 h.s, hs.cell h.c1 h.s, hs.cell h.c2 h.s⟩
end Go.Proofs.YtollijngiioonaaGreat

/- How often a variable stands in a term, as the program tells it: it ranges over its iterator. Conditions: terms of at most 549755813888 parts. -/
namespace Go.Proofs.YtollijngiioonaaGreat
set_option maxRecDepth 100000
open Go.RowKit Go.Shelf
attribute [local go_sem] Oper.semAt_some

theorem cntP_snoc (v : Int) (l : List El) (x : El) : cntP v ((l ++ [x]).map El.t) = cntP v (l.map El.t) + if vofB x.t = true ∧ vofI x.t = v then 1 else 0 := by
  rw [List.map_append, cntP_append]
  congr 1
  by_cases h1 : x.t.f = -1 <;> by_cases h2 : x.t.v = v <;> simp [cntP, vofB, vofI, h1, h2]
theorem cntP_le (v : Int) (l : List TermD) : cntP v l ≤ l.length := List.length_filter_le _ _

/-- What the count's loop holds between two rounds. -/
structure CInv (w W0 : World) (vv : Int) (pre : List El) (S : Nat → Prop) (W : World) : Prop where
  lo : ∀ k, k < W0.heap.size → S k
  hi : ∀ k, S k → k < W.heap.size
  v : W.cell? ⟨w.heap.size + 1, 0, none⟩ = some (.int .i64 vv)
  n : W.cell? ⟨w.heap.size + 1 + 1, 0, none⟩ = some (.int .i64 (cntP vv (pre.map El.t)))
  f : W.frozen? ⟨w.heap.size + 1 + 1, 0, none⟩ = false
  b : Below w.heap.size w W
  z : w.heap.size + 1 + 1 < W0.heap.size
theorem CInv.stay {w W0 A B : World} {v : Int} {pre : List El} {S : Nat → Prop} (h : CInv w W0 v pre S A) (hs : Stay S A B) : CInv w W0 v pre S B := by
  have hz := h.z
  exact ⟨h.lo, fun k hk => Nat.lt_of_lt_of_le (h.hi k hk) hs.size, hs.cell h.v (h.lo _ (by simp only; omega)), hs.cell h.n (h.lo _ (by simp only; omega)), (hs.frozen (World.block_lt_of_cell? _ _ h.n) (h.lo _ (by simp only; omega))).trans h.f, h.b.trans (hs.below h.b.size (fun k hk => h.lo k (by omega))), hz⟩
theorem CInv.alloc {w W0 A : World} {v : Int} {pre : List El} {S : Nat → Prop} (h : CInv w W0 v pre S A) (o : Obj) : CInv w W0 v pre (fun k => S k ∨ k = A.heap.size) (A.alloc o) := by
  have h' := h.stay (.alloc S A o)
  exact ⟨fun k hk => .inl (h'.lo k hk), fun k hk => hk.elim (h'.hi k) (fun e => by simp; omega), h'.v, h'.n, h'.f, h'.b, h'.z⟩
set_option maxHeartbeats 3200000 in
set_option maxRecDepth 100000 in
theorem impCount_any (N : Nat) (t : TermD) (a : Option Addr) (c hi : Nat) (v : Int) (w : World) (hN : partsT t ≤ N) (hM : N ≤ 549755813888) (hr : RdK w hi a t.kids) (hhi : hi ≤ w.heap.size) (hc : t.kids.length ≤ c) :
    Calls Tryz.prog 96 #[.agg #[.int .i64 t.f, .int .i64 t.v, .slice a t.kids.length c], .int .i64 v] w fun e w' => e = .returned (.int .i64 (cntT v t)) ∧ Below w.heap.size w w' := by
  refine (callsIn_wide (n := 5)).1 ?_
  have hp : partsT t ≤ 549755813888 := Nat.le_trans hN hM
  refine callsIn_of_wp_marks Tryz.func96 rfl trivial ?_ rfl
  simp only [Tryz.ntmps96, List.size_toArray, List.length_cons, List.length_nil, Nat.reduceAdd, Nat.reduceSub, Array.replicate_succ, Array.replicate_zero, List.push_toArray, List.append_toArray, List.nil_append, List.cons_append]
  gi_wp2_with (refine ⟨trivial, ?_⟩; gi_at_call 65; refine (callsIn_wide.2 (within_any t a c _)).mono ?_; rintro e w' ⟨rfl, rfl⟩)
  obtain ⟨W0, hW0⟩ : ∃ W0, W0 = (((w.alloc (.cells #[.int .i64 t.f, .int .i64 t.v, .slice a t.kids.length c] 27)).alloc (.cells #[.int .i64 v] 3)).alloc (.cells #[.int .i64 0] 3)).alloc (.cells #[.int .i64 t.f, .int .i64 t.v, .slice a t.kids.length c] 27) := ⟨_, rfl⟩
  have hB0 : Below w.heap.size w W0 := by rw [hW0]; exact ((((Below.refl _ _).alloc (Nat.le_refl _) _).alloc (by simp) _).alloc (by simp; omega) _).alloc (by simp; omega) _
  have hz : W0.heap.size = w.heap.size + 1 + 1 + 1 + 1 := by rw [hW0]; simp
  have v0 : W0.cell? ⟨w.heap.size + 1, 0, none⟩ = some (.int .i64 v) := by rw [hW0]; simp [go_sem]
  have n0 : W0.cell? ⟨w.heap.size + 1 + 1, 0, none⟩ = some (.int .i64 0) := by rw [hW0]; simp [go_sem]
  have f0 : W0.frozen? ⟨w.heap.size + 1 + 1, 0, none⟩ = false := by rw [hW0]; simp [go_sem]
  have t0 : W0.cell? ⟨w.heap.size + 1 + 1 + 1, 0, none⟩ = some (.int .i64 t.f) := by rw [hW0]; simp [go_sem]
  have t1 : W0.cell? ⟨w.heap.size + 1 + 1 + 1, 1, none⟩ = some (.int .i64 t.v) := by rw [hW0]; simp [go_sem]
  have t2 : W0.cell? ⟨w.heap.size + 1 + 1 + 1, 2, none⟩ = some (.slice a t.kids.length c) := by rw [hW0]; simp [go_sem]
  rw [← hW0]
  clear hW0
  refine wpIn_rangeFunc_priv rfl (by omega) (gf := 110) (lb := #[.pointer (some ⟨w.heap.size + 1 + 1 + 1, 0, none⟩)]) rfl trivial (enters_of Tryz.func110 (by kernel_rfl) rfl)
    (within_seq Fence.wide 4 trivial rfl (by omega) W0 t a c hi w.heap.size (w.heap.size + 1 + 1 + 1) hp hc (hr.on (hB0.mono hhi)) hhi hB0.size t0 t1 t2) hB0.size (Below.refl _ _) (fun _ => rfl)
    (fun pre S W => CInv w W0 v pre S W) (fun _ _ _ _ => False) (fun pre S A B h hs => h.stay hs)
    (fun _ _ _ _ _ h _ => h) (fun pre S A h => h.hi) (fun k => k < W0.heap.size) (fun _ h => h) ⟨fun _ h => h, fun _ h => h, v0, by simpa [cntP] using n0, f0, hB0, by omega⟩
    (fun pre x S a₁ W => CInv w W0 v pre S W ∧ ∃ Bx, BoxEl x Bx S W ∧ a₁ = { tmps := #[.agg #[.int .i64 t.f, .int .i64 t.v, .slice a t.kids.length c], .int .i64 v, .pointer (some ⟨w.heap.size, 0, none⟩), .pointer (some ⟨w.heap.size + 1, 0, none⟩), .int .i64 0, .pointer (some ⟨w.heap.size + 1 + 1, 0, none⟩), .pointer (some ⟨Bx, 0, none⟩), undef, undef, .agg #[.int .i64 t.f, .int .i64 t.v, .slice a t.kids.length c], .func (.func 110) #[] #[.pointer (some ⟨w.heap.size + 1 + 1 + 1, 0, none⟩)], .agg #[.int .i64 x.t.f, .int .i64 x.t.v, .slice x.a x.t.kids.length x.c], undef, undef, undef, undef, undef, undef, undef, undef, undef, undef, undef, undef, undef, undef], defers := [] })
    (fun pre x S a₁ A B h hs => by
      obtain ⟨h1, Bx, h2, h3⟩ := h
      exact ⟨h1.stay hs, Bx, h2.stay hs, h3⟩)
    ?assign ?body ?done ?stop
  case assign =>
    intro l pre x S W K hi hlen hok hK
    dsimp only [El.enc]
    gi_wp2
    refine hK _ (fun k => S k ∨ k = W.heap.size) _ ⟨hi.alloc _, W.heap.size, ⟨.inr rfl, ?_, ?_, ?_⟩, by simp⟩ (fun k h => h.imp id (fun e => by omega)) (.alloc _ _ _)
    all_goals simp [go_sem]
  case body =>
    rintro l pre x S a₁ W ⟨h, Bx, hx, rfl⟩ hlen hok
    have hv := h.v
    have hn := h.n
    have hf := h.f
    have x0 := hx.c0
    have x1 := hx.c1
    have x2 := hx.c2
    have hcl : (cntP v (pre.map El.t) : Int) < 549755813888 := by have := cntP_le v (pre.map El.t); simp at this; omega
    have hcn := cntP_snoc v pre x
    have C := variableOf_any x.t x.a x.t.kids.length x.c W
    have fin0 : ∀ w1, Below W.heap.size W w1 → cntP v ((pre ++ [x]).map El.t) = cntP v (pre.map El.t) → CInv w W0 v (pre ++ [x]) S w1 := fun w1 hb e => by
      have h1 := h.stay (.of_below hb (fun _ hk _ => hk))
      exact ⟨h1.lo, h1.hi, h1.v, by rw [e]; exact h1.n, h1.f, h1.b, h1.z⟩
    have fin1 : ∀ w1, Below W.heap.size W w1 → cntP v ((pre ++ [x]).map El.t) = cntP v (pre.map El.t) + 1 → CInv w W0 v (pre ++ [x]) S (w1.setCell ⟨w.heap.size + 1 + 1, 0, none⟩ (.int .i64 (cntP v (pre.map El.t) + 1))) := fun w1 hb e => by
      have h1 := h.stay (.of_below hb (fun _ hk _ => hk))
      refine ⟨h1.lo, fun k hk => by simpa using h1.hi k hk, ?_, ?_, ?_, h1.b.setCell (p := ⟨w.heap.size + 1 + 1, 0, none⟩) (by simp; omega) _, h1.z⟩
      · exact (World.cell?_of_block (Below.heap_setCell _ _ _ _ (by simp))).trans h1.v
      · rw [e, World.cell?_setCell_same' _ _ _ (by rw [h1.n]; rfl)]; simp
      · rw [World.frozen?_setCell]; exact h1.f
    have st1 : ∀ w1, Below W.heap.size W w1 → Stay (fun k => k < w.heap.size ∨ ¬ S k) W w1 := fun w1 hb => .of_below hb (fun _ hk _ => hk)
    have hbox : S (w.heap.size + 1 + 1) := h.lo _ h.z
    have st2 : ∀ w1 u, Below W.heap.size W w1 → Stay (fun k => k < w.heap.size ∨ ¬ S k) W (w1.setCell ⟨w.heap.size + 1 + 1, 0, none⟩ u) := fun w1 u hb => (st1 w1 hb).trans (.setCell _ _ (fun h => h.elim (fun h => by simp only at h; omega) (fun h => h hbox)))
    have F0 : Hid _ := fin0
    have F1 : Hid _ := fin1
    have S1 : Hid _ := st1
    have S2 : Hid _ := st2
    clear fin0 fin1 st1 st2 h hx
    cases hvb : vofB x.t with
    | false =>
      rw [hvb] at C
      have HC : Hid (cntP v ((pre ++ [x]).map El.t) = cntP v (pre.map El.t)) := by show _ = _; rw [hcn, hvb]; simp
      clear hcn hvb
      gi_wp2_with (refine ⟨trivial, ?_⟩; gi_at_call 99; refine (CallsIn.inRound l (callsIn_wide.2 C)).mono ?_; rintro e w1 ⟨rfl, hb1⟩; clear C; have hv := keepC hb1 hv; have hn := keepC hb1 hn; have hf := (hb1.frozen (p := ⟨w.heap.size + 1 + 1, 0, none⟩) (World.block_lt_of_cell? _ _ ‹W.cell? ⟨w.heap.size + 1 + 1, 0, none⟩ = _›)).trans hf)
      exact ⟨S, F0.out w1 hb1 HC.out, fun k h => .inl h, S1.out w1 hb1⟩
    | true =>
      rw [hvb] at C
      by_cases hvv : vofI x.t = v
      · have HC : Hid (cntP v ((pre ++ [x]).map El.t) = cntP v (pre.map El.t) + 1) := by show _ = _; rw [hcn, hvb]; simp [hvv]
        clear hcn hvb
        gi_wp2_with (refine ⟨trivial, ?_⟩; gi_at_call 99; refine (CallsIn.inRound l (callsIn_wide.2 C)).mono ?_; rintro e w1 ⟨rfl, hb1⟩; clear C; have hv := keepC hb1 hv; have hn := keepC hb1 hn; have hf := (hb1.frozen (p := ⟨w.heap.size + 1 + 1, 0, none⟩) (World.block_lt_of_cell? _ _ ‹W.cell? ⟨w.heap.size + 1 + 1, 0, none⟩ = _›)).trans hf)
        exact ⟨S, F1.out w1 hb1 HC.out, fun k h => .inl h, S2.out w1 _ hb1⟩
      · have hve : (vofI x.t == v) = false := by simp [hvv]
        have HC : Hid (cntP v ((pre ++ [x]).map El.t) = cntP v (pre.map El.t)) := by show _ = _; rw [hcn]; simp [hvv]
        clear hcn hvb hvv
        gi_wp2_with (refine ⟨trivial, ?_⟩; gi_at_call 99; refine (CallsIn.inRound l (callsIn_wide.2 C)).mono ?_; rintro e w1 ⟨rfl, hb1⟩; clear C; have hv := keepC hb1 hv; have hn := keepC hb1 hn; have hf := (hb1.frozen (p := ⟨w.heap.size + 1 + 1, 0, none⟩) (World.block_lt_of_cell? _ _ ‹W.cell? ⟨w.heap.size + 1 + 1, 0, none⟩ = _›)).trans hf)
        exact ⟨S, F0.out w1 hb1 HC.out, fun k h => .inl h, S1.out w1 hb1⟩
  case done =>
    rintro D xs S W hxs h hK hD hSD
    have h3 := h.n
    have h5 := h.b
    rw [hxs, cntP_pre] at h3
    clear h
    gi_wp2
    refine ⟨by simp, .inl ⟨_, _, rfl, run_takeDeferred hK, ?_⟩⟩
    exact ⟨_, results_tmp rfl _ _ _, rfl, h5.trans ((Stay.putObj (S := fun k => k < w.heap.size) W _ (by omega)).below h5.size (fun _ h => h))⟩
  case stop =>
    rintro D c pre S W _ h
    exact h.elim
end Go.Proofs.YtollijngiioonaaGreat

