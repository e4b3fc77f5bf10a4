/- What the proof of FnOneForm stands on, part 3 of 11: each piece says what it proves and under which conditions. Conditions: as each piece says. -/
import Derived.Test.YtollijngiioonaaPackOneForm2
import Derived.Deep.RegionLaw
import Derived.Maps.AppendAt
import Derived.Below
/- A drawn term: whatever the bytes, it owns its memory and is small; only the cursor has turned. Conditions: at most 1048576 bytes. -/
namespace Go.Proofs.Ytollijngiioonaa
set_option maxRecDepth 100000
open Go.RowKit

set_option maxHeartbeats 800000 in
theorem once_any (c : Nat) (a : Option Addr) (bs : List Int) (cap : Nat) (n : Int) (w : World) (hl : bs.length ≤ 1048576) (hn0 : 0 < n) (hn1 : n ≤ 256) (hc : Cur 95 w c a bs cap) :
    Calls Try.prog 33 #[.pointer (some ⟨c, 0, none⟩), .int .i64 n] w fun e w' => ∃ b : Bool, e = .returned (.bool b) ∧ Cur 95 w' c a bs cap ∧ w.grownBy w' (some c) := by
  have H := below_any c a bs cap n w hl hn0 hn1 hc
  clear hc hl
  go_enter Try.func33, Try.ntmps33
  go_wp2_with (go_at_call 41; refine H.mono ?_; rintro e w1 ⟨k, rfl, hx1, hC, hg⟩; clear H)
  go_ret
  exact ⟨_, rfl, hC, hg⟩

set_option maxHeartbeats 800000 in
theorem l3Var_any (v : Int) (w : World) : Calls Try.prog 64 #[.int .i64 v] w fun e w' => e = .returned (.agg #[.int .i64 (-1), .int .i64 v, .slice none 0 0]) ∧ Below w.heap.size w w' := by
  go_enter Try.func64, Try.ntmps64
  go_wp2
  exact bodyPost_ret (v := .agg #[.int .i64 (-1), .int .i64 v, .slice none 0 0]) (by simp [results, Try.results64, go_sem]) rfl ⟨rfl, (Below.refl _ _).alloc (Nat.le_refl _) _⟩

set_option maxHeartbeats 800000 in
theorem l3Of_any (f : Int) (a : Option Addr) (n c : Nat) (w : World) : Calls Try.prog 49 #[.int .i64 f, .slice a n c] w fun e w' => e = .returned (.agg #[.int .i64 f, .int .i64 0, .slice a n c]) ∧ Below w.heap.size w w' := by
  go_enter Try.func49, Try.ntmps49
  go_wp2
  exact bodyPost_ret (v := .agg #[.int .i64 f, .int .i64 0, .slice a n c]) (by simp [results, Try.results49, go_sem]) rfl ⟨rfl, (Below.refl _ _).alloc (Nat.le_refl _) _⟩

/-- What a draw of a term leaves: the term owns its memory; of what was there the cursor alone has turned. -/
structure DrawT (w : World) (c : Nat) (a : Option Addr) (bs : List Int) (cap N : Nat) (t : TermD) (ta : Option Addr) (tc : Nat) (w' : World) : Prop where
  own : OwnR w' (fun x => w.heap.size ≤ x ∧ x < w'.heap.size) ta tc t.kids
  le : t.kids.length ≤ tc
  wf : isW t.f ∧ isW t.v
  parts : partsT t ≤ N
  cur : Cur 95 w' c a bs cap
  st : Stay (fun k => k ≠ c) w w'

/-- While it goes on: the answer's place, the cursor. -/
structure DC (w : World) (c : Nat) (a : Option Addr) (bs : List Int) (cap : Nat) (wk : World) : Prop where
  r0 : wk.cell? ⟨w.heap.size, 0, none⟩ = some (.int .i64 0)
  r1 : wk.cell? ⟨w.heap.size, 1, none⟩ = some (.int .i64 0)
  r2 : wk.cell? ⟨w.heap.size, 2, none⟩ = some (.slice none 0 0)
  fr : ∀ j, wk.frozen? ⟨w.heap.size, j, none⟩ = false
  cur : Cur 95 wk c a bs cap
  st : Stay (fun k => k ≠ c) w wk
  lt : c < w.heap.size
  z : w.heap.size < wk.heap.size

theorem stay_of_grown {w w' : World} {c : Nat} (h : w.grownBy w' (some c)) : Stay (fun k => k ≠ c) w w' := .grown h (fun k e => by cases e; simp)
theorem DC.stay {w wk w1 : World} {c : Nat} {a : Option Addr} {bs : List Int} {cap : Nat} (h : DC w c a bs cap wk) (hs : Stay (fun k => k ≠ c) wk w1) (hc : Cur 95 w1 c a bs cap) : DC w c a bs cap w1 := by
  have hl := h.lt
  exact ⟨hs.cell h.r0 (by simp only; omega), hs.cell h.r1 (by simp only; omega), hs.cell h.r2 (by simp only; omega), fun j => (hs.frozen (p := ⟨w.heap.size, j, none⟩) h.z (by simp only; omega)).trans (h.fr j), hc, h.st.trans hs, hl, Nat.lt_of_lt_of_le h.z hs.size⟩
theorem DC.on {w wk w1 : World} {c : Nat} {a : Option Addr} {bs : List Int} {cap : Nat} (h : DC w c a bs cap wk) (hb : Below wk.heap.size wk w1) : DC w c a bs cap w1 :=
  h.stay (.of_below hb (fun _ hk _ => hk)) (h.cur.below hb)
theorem DC.start {w : World} {c : Nat} {a : Option Addr} {bs : List Int} {cap : Nat} (hc : Cur 95 w c a bs cap) : DC w c a bs cap (w.alloc (.cells #[.int .i64 0, .int .i64 0, .slice none 0 0] 27)) := by
  refine ⟨?_, ?_, ?_, fun j => ?_, hc.below ((Below.refl _ _).alloc (Nat.le_refl _) _), .alloc _ _ _, hc.lt, ?_⟩
  all_goals simp [go_sem]
/-- The answer is laid into its place. -/
theorem DC.fin {w wk : World} {c : Nat} {a : Option Addr} {bs : List Int} {cap N : Nat} {t : TermD} {ta : Option Addr} {tc : Nat} (h : DC w c a bs cap wk) (hbs : bs = [] ∨ ∀ x, a = some x → x.block < w.heap.size) (ho : OwnR wk (fun x => w.heap.size + 1 ≤ x ∧ x < wk.heap.size) ta tc t.kids) (hle : t.kids.length ≤ tc) (hwf : isW t.f ∧ isW t.v) (hp : partsT t ≤ N) :
    DrawT w c a bs cap N t ta tc (((wk.setCell ⟨w.heap.size, 0, none⟩ (.int .i64 t.f)).setCell ⟨w.heap.size, 1, none⟩ (.int .i64 t.v)).setCell ⟨w.heap.size, 2, none⟩ (.slice ta t.kids.length tc)) := by
  have hn : ¬ (w.heap.size + 1 ≤ w.heap.size ∧ w.heap.size < wk.heap.size) := by omega
  have hl := h.lt
  have hg : wk.grownBy (((wk.setCell ⟨w.heap.size, 0, none⟩ (.int .i64 t.f)).setCell ⟨w.heap.size, 1, none⟩ (.int .i64 t.v)).setCell ⟨w.heap.size, 2, none⟩ (.slice ta t.kids.length tc)) (some w.heap.size) := grown_then (grown_then (grown_set _ _ _ _) (grown_set _ _ _ _)) (grown_set _ _ _ _)
  refine ⟨(((ho.setCell ⟨w.heap.size, 0, none⟩ hn _).setCell ⟨w.heap.size, 1, none⟩ hn _).setCell ⟨w.heap.size, 2, none⟩ hn _).mono (fun x hx => ⟨by omega, by simpa using hx.2⟩), hle, hwf, hp, h.cur.grown hg hl (Nat.le_refl _) hbs, ?_⟩
  have h1 : Stay (fun k => k ≠ c ∧ k < w.heap.size) w _ := (h.st.weak (fun _ _ hk => hk.1)).trans (.grown hg (fun k e hk => by cases e; omega))
  exact h1.weak (fun k hk hk' => ⟨hk', hk⟩)

theorem fin_res {w wk : World} {c : Nat} {a : Option Addr} {bs : List Int} {cap : Nat} (h : DC w c a bs cap wk) (x y z : Value) : (((wk.setCell ⟨w.heap.size, 0, none⟩ x).setCell ⟨w.heap.size, 1, none⟩ y).setCell ⟨w.heap.size, 2, none⟩ z).cell? ⟨w.heap.size, 0, none⟩ = some x ∧ (((wk.setCell ⟨w.heap.size, 0, none⟩ x).setCell ⟨w.heap.size, 1, none⟩ y).setCell ⟨w.heap.size, 2, none⟩ z).cell? ⟨w.heap.size, 1, none⟩ = some y ∧ (((wk.setCell ⟨w.heap.size, 0, none⟩ x).setCell ⟨w.heap.size, 1, none⟩ y).setCell ⟨w.heap.size, 2, none⟩ z).cell? ⟨w.heap.size, 2, none⟩ = some z := set3_cells h.r0 h.r1 h.r2

set_option maxHeartbeats 3200000 in
set_option maxRecDepth 100000 in
theorem deep_zero (c : Nat) (a : Option Addr) (bs : List Int) (cap : Nat) (vars : Int) (w : World) (hl : bs.length ≤ 1048576) (hv0 : 0 ≤ vars) (hv1 : vars ≤ 256) (hc : Cur 95 w c a bs cap) (hbs : bs = [] ∨ ∀ x, a = some x → x.block < w.heap.size) :
    Calls Try.prog 35 #[.pointer (some ⟨c, 0, none⟩), .int .i64 0, .int .i64 vars] w fun e w' => ∃ t ta tc, e = .returned (.agg #[.int .i64 t.f, .int .i64 t.v, .slice ta t.kids.length tc]) ∧ DrawT w c a bs cap 1 t ta tc w' := by
  have D0 := DC.start hc
  have HB : Hid (bs = [] ∨ ∀ x, a = some x → x.block < w.heap.size) := hbs
  clear hc hbs
  by_cases hv : 0 < vars
  · go_enter Try.func35, Try.ntmps35
    go_wp2_with (first
      | (go_at_call 33; refine (once_any c a bs cap _ _ hl (by omega) (by omega) D0.cur).mono ?_; rintro e w1 ⟨b1, rfl, hC1, hg1⟩; have D1 := D0.stay (stay_of_grown hg1) hC1; clear hC1 hg1 D0)
      | (go_at_call 41; refine (below_any c a bs cap _ _ hl (by omega) (by omega) D1.cur).mono ?_; rintro e w2 ⟨k2, rfl, hk2, hC2, hg2⟩; have D2 := D1.stay (stay_of_grown hg2) hC2; have r0 := D2.r0; have r1 := D2.r1; have r2 := D2.r2; have fr := D2.fr; have hk2' : (k2 : Int) < 256 := (by omega); clear hC2 hg2 D1)
      | (go_at_call 64; refine (l3Var_any _ _).mono ?_; rintro e w3 ⟨rfl, hb3⟩; have D3 := D2.on hb3; clear r0 r1 r2 fr; have r0 := D3.r0; have r1 := D3.r1; have r2 := D3.r2; have fr := D3.fr; clear hb3 D2))
    all_goals
      first
      | (obtain ⟨z0, z1, z2⟩ := fin_res D3 (.int .i64 (-1)) (.int .i64 k2) (.slice none 0 0)
         exact bodyPost_ret (v := .agg #[.int .i64 (-1), .int .i64 k2, .slice none 0 0]) (by simp [results, Try.results35, go_sem, z0, z1, z2]) rfl ⟨.mk (-1) k2 [], none, 0, rfl, D3.fin (t := .mk (-1) k2 []) HB.out (.nil _) (Nat.le_refl _) (by simp only [TermD.f, TermD.v, isW]; omega) (by simp [partsT, partsL])⟩)
      | (obtain ⟨z0, z1, z2⟩ := fin_res D2 (.int .i64 (1 + k2)) (.int .i64 0) (.slice none 0 0)
         exact bodyPost_ret (v := .agg #[.int .i64 (1 + k2), .int .i64 0, .slice none 0 0]) (by simp [results, Try.results35, go_sem, z0, z1, z2]) rfl ⟨.mk (1 + k2) 0 [], none, 0, rfl, D2.fin (t := .mk (1 + k2) 0 []) HB.out (.nil _) (Nat.le_refl _) (by simp only [TermD.f, TermD.v, isW]; omega) (by simp [partsT, partsL])⟩)
  · have D1 := D0
    clear D0
    go_enter Try.func35, Try.ntmps35
    go_wp2_with (go_at_call 41; refine (below_any c a bs cap _ _ hl (by omega) (by omega) D1.cur).mono ?_; rintro e w2 ⟨k2, rfl, hk2, hC2, hg2⟩; have D2 := D1.stay (stay_of_grown hg2) hC2; have r0 := D2.r0; have r1 := D2.r1; have r2 := D2.r2; have fr := D2.fr; have hk2' : (k2 : Int) < 256 := (by omega); clear hC2 hg2 D1)
    first
    | (obtain ⟨z0, z1, z2⟩ := fin_res D3 (.int .i64 (-1)) (.int .i64 k2) (.slice none 0 0)
       exact bodyPost_ret (v := .agg #[.int .i64 (-1), .int .i64 k2, .slice none 0 0]) (by simp [results, Try.results35, go_sem, z0, z1, z2]) rfl ⟨.mk (-1) k2 [], none, 0, rfl, D3.fin (t := .mk (-1) k2 []) HB.out (.nil _) (Nat.le_refl _) (by simp only [TermD.f, TermD.v, isW]; omega) (by simp [partsT, partsL])⟩)
    | (obtain ⟨z0, z1, z2⟩ := fin_res D2 (.int .i64 (1 + k2)) (.int .i64 0) (.slice none 0 0)
       exact bodyPost_ret (v := .agg #[.int .i64 (1 + k2), .int .i64 0, .slice none 0 0]) (by simp [results, Try.results35, go_sem, z0, z1, z2]) rfl ⟨.mk (1 + k2) 0 [], none, 0, rfl, D2.fin (t := .mk (1 + k2) 0 []) HB.out (.nil _) (Nat.le_refl _) (by simp only [TermD.f, TermD.v, isW]; omega) (by simp [partsT, partsL])⟩)
end Go.Proofs.Ytollijngiioonaa

/- The specification's Norm: it makes one form of a term, in memory of its own. Conditions: terms of at most 549755813888 parts, at most 1048577 functions. -/
namespace Go.Proofs.Ytollijngiioonaa
set_option maxRecDepth 100000
open Go.RowKit

theorem fe_snoc (L : List FE) (e : FE) : (L ++ [e]).map FE.t = L.map FE.t ++ [e.t] := by simp

/-- A term that a call has just made is a forest of one. -/
theorem fe_one {w : World} {t : TermD} {a : Option Addr} {c n B : Nat} (h : OwnR w (fun x => n ≤ x ∧ x < w.heap.size) a c t.kids) (hc : t.kids.length ≤ c) (hf : isW t.f) (hv : isW t.v) (hB : B ≤ n) : Forest w B [⟨t, a, c, fun x => n ≤ x ∧ x < w.heap.size⟩] :=
  ⟨fun e he => by simp only [List.mem_singleton] at he; subst he; exact ⟨h, hc, ⟨hf, hv⟩, fun x hx => ⟨by omega, hx.2⟩⟩, by simp⟩

theorem NR.start (w : World) (B : Nat) : NR B [] [] none 0 w := ⟨World.ownsRow_nil w B 27 3, .nil _ _, fun g hg => by cases hg⟩
theorem NR.join {B : Nat} {L : List FE} {av : Option Addr} {cv : Nat} {wr w1 : World} (h : NR B L [] av cv wr) (hb : Below wr.heap.size wr w1) {M : List FE} (hm : Forest w1 B M) (hM : ∀ e ∈ M, ∀ x, e.K x → wr.heap.size ≤ x) : NR B L M av cv w1 := by
  have h1 := h.on hb
  refine ⟨h1.row, (by simpa using h1.fo : Forest w1 B L).append hm (fun e he d hd x hx hy => ?_), fun g hg d hd hx => ?_⟩
  · have := ((h.fo.own e (by simpa using he)).2.2.2 x hx).2
    have := hM d hd x hy
    omega
  · rcases List.mem_append.1 hd with hd | hd
    · exact h.ap g hg d (by simpa using hd) hx
    · have := (h.row.lt g hg).2
      have := hM d hd g hx
      omega

set_option maxHeartbeats 6400000 in
set_option maxRecDepth 100000 in
theorem specNorm_any (ss : List SymD) (sa : Option Addr) (sc : Nat) (hsl : ss.length ≤ 1048577) (N : Nat) : ∀ (t : TermD) (a : Option Addr) (c hi : Nat) (w : World), partsT t ≤ N → N ≤ 549755813888 → RdK w hi a t.kids → hi ≤ w.heap.size → isW t.f → isW t.v → RdS w sa ss →
    Calls Try.prog 12 #[.slice sa ss.length sc, .agg #[.int .i64 t.f, .int .i64 t.v, .slice a t.kids.length c]] w fun e w' => ∃ a' c', e = .returned (.agg #[.int .i64 t.f, .int .i64 t.v, .slice a' (normT (blindAt ss) t).kids.length c']) ∧ OwnR w' (fun x => w.heap.size ≤ x ∧ x < w'.heap.size) a' c' (normT (blindAt ss) t).kids ∧ (normT (blindAt ss) t).kids.length ≤ c' ∧ Below w.heap.size w w' := by
  induction N with
  | zero => intro t a c hi w h; rw [partsT_eq] at h; omega
  | succ N ih =>
    intro t a c hi w hN hM hr hhi hfw hvw hrs
    rw [partsT_eq] at hN
    obtain ⟨i0, hi0, hz0, hz1, hz2⟩ := info_parts info29
    have hKk : (normT (blindAt ss) t).kids = normL (blindAt ss) t.f t.kids [] := by rw [normT_eq]; rfl
    rw [hKk]
    clear hKk
    have hlen := partsL_len t.kids
    have HR : Hid (RdK w hi a t.kids) := hr
    have HS : Hid (RdS w sa ss) := hrs
    have BL := fun (w' : World) (h : RdS w' sa ss) => specBlind_any sa ss ss.length sc t.f w' rfl h hsl hfw.1 hfw.2
    have HW : Hid (isW t.f ∧ isW t.v) := ⟨hfw, hvw⟩
    clear hr hrs hfw hvw
    have C0 : NC w t a c (.slice none 0 0) (((w.alloc (.cells #[.int .i64 t.f, .int .i64 t.v, .slice a t.kids.length c] 27)).alloc (.cells #[.int .i64 0, .int .i64 0, .slice none 0 0] 27)).alloc (.cells #[.int .i64 t.f, .int .i64 t.v, .slice none 0 0] 27)) := by
      refine ⟨?_, ?_, ?_, ?_, ?_, ?_, ?_, ?_, fun j => ?_, fun j => ?_, (((Below.refl _ _).alloc (Nat.le_refl _) _).alloc (by simp) _).alloc (by simp; omega) _, ?_⟩
      all_goals simp [go_sem]
    go_enter Try.func12, Try.ntmps12
    go_wp2_with fail
    go_loopw [6] (fun i wr => ∃ (k : Nat) (L : List FE) (av : Option Addr) (cv : Nat), k ≤ t.kids.length ∧ i = .int .i64 k ∧ NC w t a c (.slice av L.length cv) wr ∧ NR (w.heap.size + 1 + 1 + 1) L [] av cv wr ∧ Hid (L.map FE.t = normL (blindAt ss) t.f (t.kids.take k) [])) (fun i _ => t.kids.length - (intOf i).toNat)
    case atStart => exact ⟨0, [], none, 0, Nat.zero_le _, rfl, C0, NR.start _ _, by show _ = _; simp [normL]⟩
    case round =>
      obtain ⟨k, L, av, cv, hk, rfl, C, R, HL⟩ := hrel
      clear C0
      have p0 := C.p0
      have p2 := C.p2
      have hz := C.z
      by_cases hk' : k < t.kids.length
      · obtain ⟨b, off, a', c', rfl, hlt, d0, d1, d2, hkr⟩ := RdK.kid (HR.out.on (C.bel.mono hhi)) hk'
        have hints := HR.out.ints hk'
        have hpg := partsL_get hk'
        have hki : (k : Int) < (t.kids.length : Int) := by omega
        have hki0 : (0 : Int) ≤ (k : Int) := by omega
        have I := ih t.kids[k] a' c' hi wr (by omega) (by omega) hkr (Nat.le_trans hhi C.bel.size) hints.1 hints.2 (HS.out.below C.bel)
        have HLk : Hid (normL (blindAt ss) t.f (t.kids.take (k + 1)) [] = stepN (blindAt ss t.f) t.f (normT (blindAt ss) t.kids[k]) (L.map FE.t)) := by
          show _ = _
          rw [normL_next _ _ hk', HL.out]
        have hLl : L.length ≤ 549755813888 := by
          have h1 := normL_parts (blindAt ss) t.f (t.kids.take k) []
          have h2 := partsL_take t.kids k
          have h3 := partsL_len (L.map FE.t)
          rw [HL.out] at h3
          simp [partsL, HL.out.symm] at h1 h3
          omega
        obtain ⟨K1, hK1⟩ : ∃ K1, K1 = normT (blindAt ss) t.kids[k] := ⟨_, rfl⟩
        have HK1f : Hid (K1.f = t.kids[k].f ∧ K1.v = t.kids[k].v ∧ partsT K1 ≤ 549755813888) := by
          have h1 := normT_parts (blindAt ss) t.kids[k]
          rw [← hK1] at h1
          refine ⟨by rw [hK1, normT_eq]; rfl, by rw [hK1, normT_eq]; rfl, by omega⟩
        rw [← hK1] at I HLk
        have hK1f := HK1f.out.1
        have hK1v := HK1f.out.2.1
        rw [← hK1f] at d0 I
        rw [← hK1v] at d1 I
        have HKp : Hid (partsT K1 ≤ partsT t.kids[k]) := by show _ ≤ _; rw [hK1]; exact normT_parts _ _
        have HIf : Hid (isW K1.f ∧ isW K1.v) := by show isW K1.f ∧ isW K1.v; rw [hK1f, hK1v]; exact hints
        clear hK1 hkr hints hK1f hK1v
        cases hbl : blindAt ss t.f with
        | false =>
          rw [hbl] at BL HLk
          clear hbl
          go_wp2_with (first
            | (go_at_call 12; refine I.mono ?_; rintro e1 w1 ⟨a1, c1, rfl, o1, hle1, hb1⟩; clear I p0 p2 d0 d1 d2; have C1 := C.on hb1; have R1 := R.join hb1 (fe_one o1 hle1 HIf.out.1 HIf.out.2 (Nat.le_of_lt_succ (by omega))) (fun e he x hx => by simp only [List.mem_singleton] at he; subst he; exact hx.1); have C3 := (C1.on ((Below.refl w1.heap.size w1).alloc (Nat.le_refl _) (.cells #[.int .i64 K1.f, .int .i64 K1.v, .slice a1 K1.kids.length c1] 27))).on ((Below.refl _ _).alloc (Nat.le_refl _) (.cells #[.int .i64 K1.f, .int .i64 K1.v, .slice a1 K1.kids.length c1] 27)); have R3 := (R1.on ((Below.refl w1.heap.size w1).alloc (Nat.le_refl _) (.cells #[.int .i64 K1.f, .int .i64 K1.v, .slice a1 K1.kids.length c1] 27))).on ((Below.refl _ _).alloc (Nat.le_refl _) (.cells #[.int .i64 K1.f, .int .i64 K1.v, .slice a1 K1.kids.length c1] 27)); have p0 := C1.p0; have p2 := C1.p2; have q2 := C1.q2; have y0 := C1.z; have y1 : w.heap.size + 1 < w1.heap.size := (by omega); have y2 : w.heap.size < w1.heap.size := (by omega); clear C R R1 hb1 o1 hz)
            | (go_at_call 46; refine (BL _ ?_).mono ?_; exact (HS.out.below (C1.bel.alloc C1.bel.size _)); rintro e2 w2 ⟨rfl, hw⟩; subst w2)
            | (at_builtin; (refine wpList_append_own_at _ rfl (.tmp 51) (.tmp 53) 25 rfl (w.heap.size + 1 + 1 + 1) 27 i0 _ 3 40 Try.underlying25 hi0 hz0 hz1 hz2 rfl (by decide) _ L.length _ rfl R3.row ⟨w1.heap.size + 1, 0, none⟩ 1 1 _ rfl rfl (three_new _ _ _ _ _ _ (by simp)) (three_cell _ _ _ _ _) (by unfold maxLen; omega) (by omega) (by simp; omega) ?_; intro v4 w4 hown4 hgrow4 hnil4 hat4; clear hnil4; have hg4 : ((w1.alloc (.cells #[.int .i64 K1.f, .int .i64 K1.v, .slice a1 K1.kids.length c1] 27)).alloc (.cells #[.int .i64 K1.f, .int .i64 K1.v, .slice a1 K1.kids.length c1] 27)).grownBy w4 (Value.slice av L.length cv).ownBlock := hgrow4; have hat5 : v4.ownBlock = (Value.slice av L.length cv).ownBlock ∨ v4.ownBlock = some ((w1.alloc (.cells #[.int .i64 K1.f, .int .i64 K1.v, .slice a1 K1.kids.length c1] 27)).alloc (.cells #[.int .i64 K1.f, .int .i64 K1.v, .slice a1 K1.kids.length c1] 27)).heap.size := hat4; have C4 := C3.stay (.grown hg4 (fun k e hk => by have := (R3.row.lt k e).1; omega)); obtain ⟨g4, c4, rfl, R4⟩ := R3.app hg4 hown4 hat5; have q4 := C4.q2; have f4 := C4.fq 2; clear hgrow4 hat4 hg4 hat5 hown4 C3 R3 p0 p2 q2)))
          refine ⟨⟨k + 1, L ++ [⟨K1, a1, c1, fun x => wr.heap.size ≤ x ∧ x < w1.heap.size⟩], some ⟨g4, 0, none⟩, c4, by omega, by go_num, by simpa using C4.set (.slice (some ⟨g4, 0, none⟩) (L.length + 1) c4), R4.set _ (by simp only; omega), ?_⟩, by simp [intOf]; omega⟩
          show _ = _
          rw [fe_snoc, HLk.out]
          simp [stepN]
        | true =>
          rw [hbl] at BL HLk
          clear hbl
          by_cases hkf : K1.f = t.f
          · have hkf' : (K1.f != t.f) = false := by simp [hkf]
            have HLs : Hid (stepN true t.f K1 (L.map FE.t) = K1.kids.foldl (fun o x => putT x o) (L.map FE.t)) := by show _ = _; simp [stepN, hkf]
            clear hkf
            go_wp2_with (first
              | (go_at_call 12; refine I.mono ?_; rintro e1 w1 ⟨a1, c1, rfl, o1, hle1, hb1⟩; clear I p0 p2 d0 d1 d2; have C1 := C.on hb1; obtain ⟨F, hFt, hFf, hFK, hFc⟩ := OwnR.forest (B := w.heap.size + 1 + 1 + 1) o1 (fun x hx => ⟨by omega, hx.2⟩); have R1 := R.join hb1 hFf (fun e he x hx => (hFK e he x hx).1); have hbk : Below w1.heap.size w1 (w1.alloc (.cells #[.int .i64 K1.f, .int .i64 K1.v, .slice a1 K1.kids.length c1] 27)) := ((Below.refl w1.heap.size w1).alloc (Nat.le_refl _) _); have C3 := C1.on hbk; have R3 := R1.on hbk; have p0 := C1.p0; have p2 := C1.p2; have q2 := C1.q2; have y0 := C1.z; have y1 : w.heap.size + 1 < w1.heap.size := (by omega); have y2 : w.heap.size < w1.heap.size := (by omega); have HFc : Hid _ := hFc; have HFt : Hid _ := hFt; clear C R R1 hb1 o1 hFf hFK hFc hFt)
              | (go_at_call 46; refine (BL _ ?_).mono ?_; exact (HS.out.below (C1.bel.alloc C1.bel.size _)); rintro e2 w2 ⟨rfl, hw⟩; subst w2))
            have HB : Hid (partsL (L.map FE.t) + partsL K1.kids ≤ 549755813888) := by
              show _ ≤ _
              have h1 := normL_parts (blindAt ss) t.f (t.kids.take k) []
              rw [← HL.out] at h1
              have h2 := partsL_next hk'
              have h3 := partsL_take t.kids (k + 1)
              have h4 := HKp.out
              rw [partsT_eq] at h4
              simp only [partsL] at h1
              omega
            obtain ⟨W1, hW1⟩ : ∃ W1, W1 = w1.alloc (.cells #[.int .i64 K1.f, .int .i64 K1.v, .slice a1 K1.kids.length c1] 27) := ⟨_, rfl⟩
            rw [← hW1] at C3 R3 hbk ⊢
            have kb : W1.cell? ⟨w1.heap.size, 2, none⟩ = some (.slice a1 K1.kids.length c1) := by rw [hW1]; simp [go_sem]
            have hFl : F.length = K1.kids.length := by rw [← HFt.out]; simp
            clear hW1 p0 p2 q2
            go_loopw [8] (fun j wj => ∃ (m : Nat) (Lm : List FE) (av : Option Addr) (cv : Nat), m ≤ F.length ∧ j = .int .i64 m ∧ NC w t (some ⟨b, off, none⟩) c (.slice av Lm.length cv) wj ∧ NR (w.heap.size + 1 + 1 + 1) Lm (F.drop m) av cv wj ∧ Hid (Lm.map FE.t = (K1.kids.take m).foldl (fun o x => putT x o) (L.map FE.t)) ∧ Stay (fun k => k ≠ w.heap.size + 1 + 1) W1 wj) (fun j _ => F.length - (intOf j).toNat)
            case atStart => exact ⟨0, L, av, cv, Nat.zero_le _, rfl, C3, by simpa using R3, by show _ = _; simp, .refl _ _⟩
            case round =>
              obtain ⟨m, Lm, av, cv, hm, rfl, C, R, HLm, hst⟩ := hrel
              clear C3 R3
              have q2 := C.q2
              have kb' := hst.cell kb (by simp only; omega)
              have y3 := C.z
              by_cases hm' : m < F.length
              · have hmi : (m : Int) < (K1.kids.length : Int) := by omega
                have hmi0 : (0 : Int) ≤ (m : Int) := by omega
                have hmb : (m : Int) < 549755813888 := by
                  have h1 := partsL_len K1.kids
                  have h2 := HB.out
                  omega
                have hne : K1.kids ≠ [] := fun e => by
                  rw [e] at hFl
                  simp only [List.length_nil] at hFl
                  omega
                obtain ⟨b1, off1, rfl, hSb1, hcl1⟩ := HFc.out.resolve_left hne
                obtain ⟨g0, g1, g2⟩ := hcl1 m hm'
                have hb1n : b1 ≠ w.heap.size + 1 + 1 := by have := hSb1.1; omega
                have g0 := hst.cell (keepC hbk g0) hb1n
                have g1 := hst.cell (keepC hbk g1) hb1n
                have g2 := hst.cell (keepC hbk g2) hb1n
                simp only [FE.cells] at g0 g1 g2
                have hFm : F[m].t = K1.kids[m]'(by omega) := by
                  have : (F.map FE.t)[m]'(by simpa using hm') = K1.kids[m]'(by omega) := by simp only [HFt.out]
                  simpa using this
                have hpm : partsT F[m].t ≤ 549755813888 := by
                  rw [hFm]
                  have := partsL_get (ts := K1.kids) (i := m) (by omega)
                  have := HB.out
                  omega
                have hLm : Lm.length ≤ 549755813888 := by
                  have h1 := foldP_parts (K1.kids.take m) (L.map FE.t)
                  rw [← HLm.out] at h1
                  have h2 := partsL_len (Lm.map FE.t)
                  have h3 := partsL_take K1.kids m
                  have := HB.out
                  simp at h2
                  omega
                have hdrop : F.drop m = F[m] :: F.drop (m + 1) := List.drop_eq_getElem_cons hm'
                rw [hdrop] at R
                have HLn : Hid ((putF F[m] Lm).map FE.t = (K1.kids.take (m + 1)).foldl (fun o x => putT x o) (L.map FE.t)) := by
                  show _ = _
                  rw [List.take_succ_eq_append_getElem (by omega), List.foldl_append, ← HLm.out, putF_t, hFm]; rfl
                have P := fun (w' : World) (h : Below wr.heap.size wr w') => l4Put_any (w.heap.size + 1 + 1 + 1) av cv Lm F[m] w'.heap.size w' ((R.on h).row) ((R.on h).rd) ((R.on h).fo.own F[m] (List.mem_append_right _ (List.mem_cons_self ..))).1.rd (Nat.le_refl _) hpm hLm
                clear hdrop hne hcl1 hFm
                go_wp2_with fail
                go_region_with (go_at_call 47; refine (P _ ?_).mono ?_; exact (Below.refl _ _).drew; rintro e3 w4 ⟨g4, c4, rfl, hown4, hb4⟩; have hbb : Below wr.heap.size wr w4 := (Below.refl _ _).drew.trans hb4; have C4 := C.on hbb; have R4 := (R.on (Below.refl _ _).drew).put (by simp; omega) hb4 hown4; have q4 := C4.q2; have f4 := C4.fq 2; have hst4 := hst.trans (Stay.of_below hbb (fun _ hk _ => hk)); clear hown4 hb4)
                all_goals
                  go_wp2_with fail
                all_goals exact ⟨⟨m + 1, putF F[m] Lm, some ⟨g4, 0, none⟩, c4, by omega, by go_num, by simpa [putF_len] using C4.set (.slice (some ⟨g4, 0, none⟩) (Lm.length + 1) c4), R4.set _ (by simp only; omega), HLn, hst4.trans (Stay.setCell _ _ (by simp))⟩, by simp [intOf]; omega⟩
              · have E : Hid (m = K1.kids.length) := (by omega : m = K1.kids.length)
                have hnm : ¬ (m : Int) < (K1.kids.length : Int) := by omega
                have R' : NR (w.heap.size + 1 + 1 + 1) Lm [] av cv wr := by
                  have : F.drop m = [] := List.drop_of_length_le (by omega)
                  rwa [this] at R
                go_wp2_with fail
                refine ⟨⟨k + 1, Lm, av, cv, by omega, by go_num, C, R', ?_⟩, by simp [intOf]; omega⟩
                show _ = _
                rw [HLm.out, E.out, List.take_length, HLk.out, HLs.out]
          · have hkf' : (K1.f != t.f) = true := by simp [hkf]
            have HLs : Hid (stepN true t.f K1 (L.map FE.t) = putT K1 (L.map FE.t)) := by show _ = _; simp [stepN, hkf]
            clear hkf
            go_wp2_with (first
              | (go_at_call 12; refine I.mono ?_; rintro e1 w1 ⟨a1, c1, rfl, o1, hle1, hb1⟩; clear I p0 p2 d0 d1 d2; have C1 := C.on hb1; have R1 := R.join hb1 (fe_one o1 hle1 HIf.out.1 HIf.out.2 (Nat.le_of_lt_succ (by omega))) (fun e he x hx => by simp only [List.mem_singleton] at he; subst he; exact hx.1); have hbk : Below w1.heap.size w1 (w1.alloc (.cells #[.int .i64 K1.f, .int .i64 K1.v, .slice a1 K1.kids.length c1] 27)) := ((Below.refl w1.heap.size w1).alloc (Nat.le_refl _) _); have C3 := C1.on hbk; have R3 := R1.on hbk; have p0 := C1.p0; have p2 := C1.p2; have q2 := C1.q2; have y0 := C1.z; have y1 : w.heap.size + 1 < w1.heap.size := (by omega); have y2 : w.heap.size < w1.heap.size := (by omega); clear C R R1 hb1 o1 hz hbk)
              | (go_at_call 46; refine (BL _ ?_).mono ?_; exact (HS.out.below (C1.bel.alloc C1.bel.size _)); rintro e2 w2 ⟨rfl, hw⟩; subst w2)
              | (go_at_call 47; (refine (l4Put_any (w.heap.size + 1 + 1 + 1) av cv L ⟨K1, a1, c1, fun x => wr.heap.size ≤ x ∧ x < w1.heap.size⟩ (w1.heap.size + 1) _ R3.row (by simpa using R3.rd) (by simpa using (R3.fo.own ⟨K1, a1, c1, fun x => wr.heap.size ≤ x ∧ x < w1.heap.size⟩ (by simp)).1.rd) (by simp) HK1f.out.2.2 hLl).mono ?_; rintro e3 w4 ⟨g4, c4, rfl, hown4, hb4⟩; have C4 := C3.on hb4; have R4 := R3.put (by simp; omega) hb4 hown4; have q4 := C4.q2; have f4 := C4.fq 2; clear C3 R3 hown4 hb4 p0 p2 q2)))
            refine ⟨⟨k + 1, putF ⟨K1, a1, c1, fun x => wr.heap.size ≤ x ∧ x < w1.heap.size⟩ L, some ⟨g4, 0, none⟩, c4, by omega, by go_num, by simpa [putF_len] using C4.set (.slice (some ⟨g4, 0, none⟩) (L.length + 1) c4), R4.set _ (by simp only; omega), ?_⟩, by simp [intOf]; omega⟩
            show _ = _
            rw [putF_t, HLk.out, HLs.out]
      · have E : Hid (k = t.kids.length) := (by omega : k = t.kids.length)
        have q0 := C.q0
        have q1 := C.q1
        have q2 := C.q2
        have r0 := C.r0
        have r1 := C.r1
        have r2 := C.r2
        have fr := C.fr
        have hL : Hid (L.map FE.t = normL (blindAt ss) t.f t.kids []) := by
          show _ = _
          rw [HL.out, E.out, List.take_length]
        have hlr : L.length ≤ 9223372036854775807 := by
          have h1 := normL_parts (blindAt ss) t.f t.kids []
          have h3 := partsL_len (L.map FE.t)
          rw [hL.out] at h3
          simp [partsL, hL.out.symm] at h1 h3
          omega
        have O : OwnR wr (fun x => w.heap.size + 1 + 1 + 1 ≤ x ∧ x < wr.heap.size) av cv (L.map FE.t) := by
          rcases R.row.2 with ⟨hv, h0⟩ | ⟨g, cap, _, hv, _⟩
          · have : L = [] := List.length_eq_zero_iff.1 h0
            subst this; cases hv; exact .nil _
          · cases hv
            exact (by simpa using R.fo : Forest wr _ L).owns R.row (fun e he => R.ap g rfl e (by simpa using he)) hlr
        have hcl : L.length ≤ cv := by obtain ⟨_, _, h, hh⟩ := own_form R.row; cases h; exact hh
        have hbel := C.bel
        clear C R HL E ih BL
        go_wp2_with fail
        obtain ⟨z0, z1, z2⟩ := set3_cells (u := wr) (r := w.heap.size + 1) (x := .int .i64 t.f) (y := .int .i64 t.v) (z := .slice av L.length cv) r0 r1 r2
        have hn : ¬ (w.heap.size + 1 + 1 + 1 ≤ w.heap.size + 1 ∧ w.heap.size + 1 < wr.heap.size) := by omega
        have O3 := ((O.setCell ⟨w.heap.size + 1, 0, none⟩ hn (.int .i64 t.f)).setCell ⟨w.heap.size + 1, 1, none⟩ hn (.int .i64 t.v)).setCell ⟨w.heap.size + 1, 2, none⟩ hn (.slice av L.length cv)
        rw [← hL.out, List.length_map]
        refine bodyPost_ret (v := .agg #[.int .i64 t.f, .int .i64 t.v, .slice av L.length cv]) (by simp [results, Try.results12, go_sem, z0, z1, z2]) rfl ⟨av, cv, rfl, O3.mono (fun x hx => ⟨by omega, by simpa using hx.2⟩), hcl, ?_⟩
        exact ((hbel.setCell (p := ⟨w.heap.size + 1, 0, none⟩) (by simp) _).setCell (p := ⟨w.heap.size + 1, 1, none⟩) (by simp) _).setCell (p := ⟨w.heap.size + 1, 2, none⟩) (by simp) _
end Go.Proofs.Ytollijngiioonaa

/- A drawn term of any depth up to three. Conditions: at most 1048576 bytes. -/
namespace Go.Proofs.Ytollijngiioonaa
set_option maxRecDepth 100000
open Go.RowKit

theorem Forest.stayc {w w' : World} {B c : Nat} {L : List FE} (h : Forest w B L) (hs : Stay (fun k => k ≠ c) w w') (hc : c < B) : Forest w' B L :=
  ⟨fun e he => by
    obtain ⟨h1, h2, h3, h4⟩ := h.own e he
    exact ⟨h1.frame (fun x hx => hs.block x (h4 x hx).2 (by have := (h4 x hx).1; show x ≠ c; omega)) hs.size, h2, h3, fun x hx => ⟨(h4 x hx).1, Nat.lt_of_lt_of_le (h4 x hx).2 hs.size⟩⟩, h.dis⟩
theorem NR.joinS {B c : Nat} {L : List FE} {av : Option Addr} {cv : Nat} {wr w1 : World} (h : NR B L [] av cv wr) (hs : Stay (fun k => k ≠ c) wr w1) (hc : c < B) {M : List FE} (hm : Forest w1 B M) (hM : ∀ e ∈ M, ∀ x, e.K x → wr.heap.size ≤ x) : NR B L M av cv w1 := by
  have hf := h.fo.stayc hs hc
  refine ⟨own_stay h.row hs (fun g hg => by have := (h.row.lt g hg).1; show g ≠ c; omega), (by simpa using hf : Forest w1 B L).append hm (fun e he d hd x hx hy => ?_), fun g hg d hd hx => ?_⟩
  · have := ((h.fo.own e (by simpa using he)).2.2.2 x hx).2
    have := hM d hd x hy
    omega
  · rcases List.mem_append.1 hd with hd | hd
    · exact h.ap g hg d (by simpa using hd) hx
    · have := (h.row.lt g hg).2
      have := hM d hd g hx
      omega
theorem NR.owns {B : Nat} {L : List FE} {g cv : Nat} {wr : World} (h : NR B L [] (some ⟨g, 0, none⟩) cv wr) (hl : L.length ≤ 9223372036854775807) : OwnR wr (fun x => B ≤ x ∧ x < wr.heap.size) (some ⟨g, 0, none⟩) cv (L.map FE.t) :=
  (by simpa using h.fo : Forest wr B L).owns h.row (fun e he => h.ap g rfl e (by simpa using he)) hl
theorem DC.grow {w wk w1 : World} {c g : Nat} {a : Option Addr} {bs : List Int} {cap : Nat} (h : DC w c a bs cap wk) (hg : wk.grownBy w1 (some g)) (hb : w.heap.size + 1 ≤ g) (hbs : bs = [] ∨ ∀ x, a = some x → x.block < w.heap.size) : DC w c a bs cap w1 := by
  have hs : Stay (fun k => k ≠ c ∧ k < w.heap.size + 1) wk w1 := .grown hg (fun k e => by cases e; omega)
  have hl := h.lt
  refine ⟨hs.cell h.r0 ⟨?_, ?_⟩, hs.cell h.r1 ⟨?_, ?_⟩, hs.cell h.r2 ⟨?_, ?_⟩, fun j => (hs.frozen (p := ⟨w.heap.size, j, none⟩) h.z ⟨?_, ?_⟩).trans (h.fr j), h.cur.grown hg hl (by omega) hbs, ?_, hl, Nat.lt_of_lt_of_le h.z hs.size⟩
  all_goals first | (simp only; omega) | skip
  have h1 : Stay (fun k => k ≠ c ∧ k < w.heap.size + 1) w w1 := (h.st.weak (fun _ _ hk => hk.1)).trans hs
  exact h1.weak (fun k hk hk' => ⟨hk', by omega⟩)
theorem own_len {B n : Nat} {a : Option Addr} {c : Nat} {e : TypeId} {s : Nat} {w : World} {cs : List Value} (h : w.ownsRow B e s (.slice a n c) n cs) : n ≤ c := by
  obtain ⟨a', c', h1, h2⟩ := own_form h
  cases h1
  exact h2
/-- A row of one drawn term. -/
theorem NR.one {B n : Nat} {t : TermD} {ta : Option Addr} {tc : Nat} {w3 : World} (ho : OwnR w3 (fun x => n ≤ x ∧ x < w3.heap.size) ta tc t.kids) (hle : t.kids.length ≤ tc) (hwf : isW t.f ∧ isW t.v) (hB : B ≤ n) (hn : B ≤ w3.heap.size) :
    NR B [⟨t, ta, tc, fun x => n ≤ x ∧ x < w3.heap.size⟩] [] (some ⟨w3.heap.size, 0, none⟩) 1 (w3.alloc (.cells #[.int .i64 t.f, .int .i64 t.v, .slice ta t.kids.length tc] 27)) := by
  have hf := (fe_one ho hle hwf.1 hwf.2 hB).on ((Below.refl w3.heap.size w3).alloc (Nat.le_refl _) (.cells #[.int .i64 t.f, .int .i64 t.v, .slice ta t.kids.length tc] 27))
  refine ⟨?_, by simpa using hf, fun g hg e he hx => ?_⟩
  · have := World.ownsRow_lit (base := B) (size := 3) (e := 27) w3 #[.int .i64 t.f, .int .i64 t.v, .slice ta t.kids.length tc] 1 hn (by unfold maxLen; omega) rfl
    simpa [cs3, FE.cells] using this
  · have e0 : w3.heap.size = g := by simpa [Value.ownBlock] using hg
    subst e0
    simp only [List.append_nil, List.mem_singleton] at he
    subst he
    have := hx.2
    omega

/-- How many parts a term of such a depth has at most. -/
def bdN : Nat → Nat
  | 0 => 1
  | d + 1 => 2 * bdN d + 1
theorem bdN_pos (d : Nat) : 1 ≤ bdN d := by cases d <;> simp [bdN]

set_option maxHeartbeats 6400000 in
set_option maxRecDepth 100000 in
theorem deep_any (c : Nat) (a : Option Addr) (bs : List Int) (cap : Nat) (vars : Int) (hl : bs.length ≤ 1048576) (hv0 : 0 ≤ vars) (hv1 : vars ≤ 256) : ∀ (d : Nat) (w : World), d ≤ 3 → Cur 95 w c a bs cap → (bs = [] ∨ ∀ x, a = some x → x.block < w.heap.size) →
    Calls Try.prog 35 #[.pointer (some ⟨c, 0, none⟩), .int .i64 d, .int .i64 vars] w fun e w' => ∃ t ta tc, e = .returned (.agg #[.int .i64 t.f, .int .i64 t.v, .slice ta t.kids.length tc]) ∧ DrawT w c a bs cap (bdN d) t ta tc w' := by
  intro d
  induction d with
  | zero => intro w _ hc hbs; exact deep_zero c a bs cap vars w hl hv0 hv1 hc hbs
  | succ d ih =>
    intro w hd hc hbs
    obtain ⟨i0, hi0, hz0, hz1, hz2⟩ := info_parts info29
    have D0 := DC.start hc
    have HB : Hid (bs = [] ∨ ∀ x, a = some x → x.block < w.heap.size) := hbs
    have IH : Hid (∀ (w : World), d ≤ 3 → Cur 95 w c a bs cap → (bs = [] ∨ ∀ x, a = some x → x.block < w.heap.size) → Calls Try.prog 35 #[.pointer (some ⟨c, 0, none⟩), .int .i64 d, .int .i64 vars] w fun e w' => ∃ t ta tc, e = .returned (.agg #[.int .i64 t.f, .int .i64 t.v, .slice ta t.kids.length tc]) ∧ DrawT w c a bs cap (bdN d) t ta tc w') := ih
    have HP := bdN_pos d
    have hd0 : ((d : Int) + 1 == 0) = false := by simp; omega
    have hd1 : (((d + 1 : Nat) : Int) == 0) = false := by simp; omega
    have hdm : ((d + 1 : Nat) : Int) - 1 = (d : Int) := by omega
    have hd3 : (d : Int) < 3 := by omega
    clear hc hbs ih
    go_enter Try.func35, Try.ntmps35
    go_wp2_with (first
      | (go_at_call 33; refine (once_any c a bs cap _ _ hl (by omega) (by omega) D0.cur).mono ?_; rintro e w1 ⟨b1, rfl, hC1, hg1⟩; have D1 := D0.stay (stay_of_grown hg1) hC1; clear hC1 hg1 D0)
      | (go_at_call 33; refine (once_any c a bs cap _ _ hl (by omega) (by omega) D1.cur).mono ?_; rintro e w1' ⟨b2, rfl, hC1, hg1⟩; have D1' := D1.stay (stay_of_grown hg1) hC1; clear D1; have D1 := D1'; clear hC1 hg1 D1')
      | (go_at_call 41; refine (below_any c a bs cap _ _ hl (by omega) (by omega) D1.cur).mono ?_; rintro e w2 ⟨k2, rfl, hk2, hC2, hg2⟩; have D2 := D1.stay (stay_of_grown hg2) hC2; have r0 := D2.r0; have r1 := D2.r1; have r2 := D2.r2; have fr := D2.fr; have hk2' : (k2 : Int) < 256 := (by omega); clear hC2 hg2 D1)
      | (go_at_call 64; refine (l3Var_any _ _).mono ?_; rintro e w3 ⟨rfl, hb3⟩; have D3 := D2.on hb3; clear r0 r1 r2 fr; have r0 := D3.r0; have r1 := D3.r1; have r2 := D3.r2; have fr := D3.fr; clear hb3 D2)
      | (go_at_call 42; refine (pickInt_any c a bs cap w1.heap.size 5 [3, 4, 5, 5, 6] 5 _ hl rfl (by simp) (by simp) (D1.on ((Below.refl _ _).alloc (Nat.le_refl _) _)).cur (by simp) (by have := D1.lt; have := D1.z; omega) (lit_cells w1 [3, 4, 5, 5, 6])).mono ?_; rintro e w2 ⟨f, rfl, hf, hC2, hg2⟩; have D2 := (D1.on ((Below.refl _ _).alloc (Nat.le_refl _) _)).stay (stay_of_grown hg2) hC2; have hfb : 3 ≤ f ∧ f ≤ 6 := (by simp at hf; omega); have hz2' := D2.z; have hlt := D2.lt; clear hC2 hg2 D1 hf)
      | (go_at_call 35; refine (IH.out w2 (by omega) D2.cur (HB.out.imp id (fun h x hx => Nat.lt_of_lt_of_le (h x hx) D2.st.size))).mono ?_; rintro e w3 ⟨t1, ta1, tc1, rfl, T1⟩; have D3 := (D2.stay T1.st T1.cur).on ((Below.refl w3.heap.size w3).alloc (Nat.le_refl _) (.cells #[.int .i64 t1.f, .int .i64 t1.v, .slice ta1 t1.kids.length tc1] 27)); have R3 := NR.one (B := w.heap.size + 1) T1.own T1.le T1.wf (by omega) (by have := T1.st.size; omega); have hp1 := T1.parts; have r0 := D3.r0; have r1 := D3.r1; have r2 := D3.r2; have fr := D3.fr; have hz3 := D3.z; clear D2 T1)
      | (go_at_call 35; refine (IH.out _ (by omega) D3.cur (HB.out.imp id (fun h x hx => Nat.lt_of_lt_of_le (h x hx) D3.st.size))).mono ?_; rintro e w4 ⟨t2, ta2, tc2, rfl, T2⟩; have D4 := (D3.stay T2.st T2.cur).on ((Below.refl w4.heap.size w4).alloc (Nat.le_refl _) (.cells #[.int .i64 t2.f, .int .i64 t2.v, .slice ta2 t2.kids.length tc2] 27)); have R4 := (R3.joinS T2.st (by omega) (fe_one (B := w.heap.size + 1) T2.own T2.le T2.wf.1 T2.wf.2 (by simp at hz3 ⊢; omega)) (fun e he x hx => by simp only [List.mem_singleton] at he; subst he; exact hx.1)).on ((Below.refl w4.heap.size w4).alloc (Nat.le_refl _) (.cells #[.int .i64 t2.f, .int .i64 t2.v, .slice ta2 t2.kids.length tc2] 27)); have hp2 := T2.parts; have hz4 := D4.z; clear D3 T2 R3 r0 r1 r2 fr)
      | (at_builtin; (refine wpList_append_own_at _ rfl (.tmp 40) (.tmp 46) 25 rfl (w.heap.size + 1) 27 i0 _ 3 40 Try.underlying25 hi0 hz0 hz1 hz2 rfl (by decide) _ 1 _ rfl R4.row ⟨w4.heap.size, 0, none⟩ 1 1 _ rfl rfl (three_new _ _ _ _ _ _ rfl) (three_cell _ _ _ _ _) (by unfold maxLen; omega) (by omega) (by first | omega | (simp at hz4 ⊢; omega) | (simp; omega)) ?_; intro v5 w5 hown5 hgrow5 hnil5 hat5; clear hnil5; have hg5 : (w4.alloc (.cells #[.int .i64 t2.f, .int .i64 t2.v, .slice ta2 t2.kids.length tc2] 27)).grownBy w5 (Value.slice (some ⟨w3.heap.size, 0, none⟩) 1 1).ownBlock := hgrow5; have D5 := D4.grow (g := w3.heap.size) hg5 (R4.row.lt _ rfl).1 HB.out; obtain ⟨g5, c5, rfl, R5⟩ := R4.app hg5 hown5 hat5; have hc5 := own_form R5.row; have r0 := D5.r0; have r1 := D5.r1; have r2 := D5.r2; have fr := D5.fr; clear hgrow5 hg5 hown5 hat5 D4 R4))
      | (go_at_call 49; refine (l3Of_any _ _ _ _ _).mono ?_; rintro e w6 ⟨rfl, hb6⟩; have D6 := D5.on hb6; have R6 := R5.on hb6; clear r0 r1 r2 fr; have r0 := D6.r0; have r1 := D6.r1; have r2 := D6.r2; have fr := D6.fr; clear D5 R5 hb6 hc5)
      | (go_at_call 49; refine (l3Of_any _ _ _ _ _).mono ?_; rintro e w6 ⟨rfl, hb6⟩; have D7 := D3.on hb6; have R7 := R3.on hb6; clear r0 r1 r2 fr; have r0 := D7.r0; have r1 := D7.r1; have r2 := D7.r2; have fr := D7.fr; clear D3 R3 hb6))
    all_goals
      first
      | (obtain ⟨z0, z1, z2⟩ := fin_res D3 (.int .i64 (-1)) (.int .i64 k2) (.slice none 0 0)
         exact bodyPost_ret (v := .agg #[.int .i64 (-1), .int .i64 k2, .slice none 0 0]) (by simp [results, Try.results35, go_sem, z0, z1, z2]) rfl ⟨.mk (-1) k2 [], none, 0, rfl, D3.fin (t := .mk (-1) k2 []) HB.out (.nil _) (Nat.le_refl _) (by simp only [TermD.f, TermD.v, isW]; omega) (by simp [partsT, partsL, bdN])⟩)
      | (obtain ⟨z0, z1, z2⟩ := fin_res D2 (.int .i64 (1 + k2)) (.int .i64 0) (.slice none 0 0)
         exact bodyPost_ret (v := .agg #[.int .i64 (1 + k2), .int .i64 0, .slice none 0 0]) (by simp [results, Try.results35, go_sem, z0, z1, z2]) rfl ⟨.mk (1 + k2) 0 [], none, 0, rfl, D2.fin (t := .mk (1 + k2) 0 []) HB.out (.nil _) (Nat.le_refl _) (by simp only [TermD.f, TermD.v, isW]; omega) (by simp [partsT, partsL, bdN])⟩)
      | (have hle := own_len R6.row
         obtain ⟨z0, z1, z2⟩ := fin_res D6 (.int .i64 f) (.int .i64 0) (.slice (some ⟨g5, 0, none⟩) 2 c5)
         exact bodyPost_ret (v := .agg #[.int .i64 f, .int .i64 0, .slice (some ⟨g5, 0, none⟩) 2 c5]) (by simp [results, Try.results35, go_sem, z0, z1, z2]) rfl ⟨.mk f 0 [t1, t2], some ⟨g5, 0, none⟩, c5, rfl, D6.fin (t := .mk f 0 [t1, t2]) HB.out (R6.owns (by simp)) hle (by simp only [TermD.f, TermD.v, isW]; omega) (by simp only [partsT, partsL, bdN]; omega)⟩)
      | (obtain ⟨z0, z1, z2⟩ := fin_res D7 (.int .i64 f) (.int .i64 0) (.slice (some ⟨w3.heap.size, 0, none⟩) 1 1)
         exact bodyPost_ret (v := .agg #[.int .i64 f, .int .i64 0, .slice (some ⟨w3.heap.size, 0, none⟩) 1 1]) (by simp [results, Try.results35, go_sem, z0, z1, z2]) rfl ⟨.mk f 0 [t1], some ⟨w3.heap.size, 0, none⟩, 1, rfl, D7.fin (t := .mk f 0 [t1]) HB.out (R7.owns (by simp)) (Nat.le_refl _) (by simp only [TermD.f, TermD.v, isW]; omega) (by simp only [partsT, partsL, bdN]; omega)⟩)
end Go.Proofs.Ytollijngiioonaa

/- The list of functions that the draws stand on, and a drawn term in one form. Conditions: at most 1048576 bytes. -/
namespace Go.Proofs.Ytollijngiioonaa
set_option maxRecDepth 100000
open Go.RowKit

def sig7 : List SymD := [⟨⟨#[116, 116]⟩, 0, false⟩, ⟨⟨#[97]⟩, 0, false⟩, ⟨⟨#[98]⟩, 0, false⟩, ⟨⟨#[103]⟩, 1, false⟩, ⟨⟨#[104]⟩, 2, false⟩, ⟨⟨#[102]⟩, 2, true⟩, ⟨⟨#[107]⟩, 2, true⟩]

theorem l2Sig_any (w : World) :
    Calls Try.prog 34 #[] w fun e w' => e = .returned (.slice (some ⟨w.heap.size, 0, none⟩) 7 7) ∧ w'.ownsRow w.heap.size 83 3 (.slice (some ⟨w.heap.size, 0, none⟩) 7 7) 7 (symCs sig7) ∧ Below w.heap.size w w' := by
  go_enter Try.func34, Try.ntmps34
  go_wp2
  go_ret
  exact ⟨rfl, World.ownsRow_lit w (symCs sig7).toArray 7 (Nat.le_refl _) (by unfold maxLen; omega) rfl, (Below.refl _ _).alloc (Nat.le_refl _) _⟩

theorem RdS.stayb {w w' : World} {S : Nat → Prop} {b off : Nat} {ss : List SymD} (h : RdS w (some ⟨b, off, none⟩) ss) (hs : Stay S w w') (hb : S b) : RdS w' (some ⟨b, off, none⟩) ss := by
  rcases h with h | ⟨b', off', e, hlt, hc⟩
  · exact .inl h
  · cases e
    refine .inr ⟨b, off, rfl, Nat.lt_of_lt_of_le hlt hs.size, fun i hi => ?_⟩
    obtain ⟨h0, h1, h2⟩ := hc i hi
    exact ⟨hs.cell h0 hb, hs.cell h1 hb, hs.cell h2 hb⟩
theorem normT_f (bl : Int → Bool) (t : TermD) : (normT bl t).f = t.f := by rw [normT_eq]; rfl
theorem normT_v (bl : Int → Bool) (t : TermD) : (normT bl t).v = t.v := by rw [normT_eq]; rfl

set_option maxHeartbeats 1600000 in
theorem right_any (c : Nat) (a : Option Addr) (bs : List Int) (cap : Nat) (vars : Int) (w : World) (hl : bs.length ≤ 1048576) (hv0 : 0 ≤ vars) (hv1 : vars ≤ 256) (hc : Cur 95 w c a bs cap) (hbs : bs = [] ∨ ∀ x, a = some x → x.block < w.heap.size) :
    Calls Try.prog 81 #[.pointer (some ⟨c, 0, none⟩), .int .i64 vars] w fun e w' => ∃ t ta tc, e = .returned (.agg #[.int .i64 (normT (blindAt sig7) t).f, .int .i64 (normT (blindAt sig7) t).v, .slice ta (normT (blindAt sig7) t).kids.length tc]) ∧ DrawT w c a bs cap 7 (normT (blindAt sig7) t) ta tc w' := by
  have D0 := DC.start hc
  have HB : Hid (bs = [] ∨ ∀ x, a = some x → x.block < w.heap.size) := hbs
  clear hc hbs
  go_enter Try.func81, Try.ntmps81
  go_wp2_with (first
    | (go_at_call 34; refine (l2Sig_any _).mono ?_; rintro e w1 ⟨rfl, hs1, hb1⟩; have D1 := D0.on hb1; have S1 := RdS.own (ss := sig7) rfl hs1; have L1 := (hs1.lt _ rfl).2; clear D0 hb1 hs1)
    | (go_at_call 35; refine (deep_any c a bs cap vars hl hv0 hv1 2 w1 (by omega) D1.cur (HB.out.imp id (fun h x hx => Nat.lt_of_lt_of_le (h x hx) D1.st.size))).mono ?_; rintro e w2 ⟨t, ta, tc, rfl, T2⟩; have D2 := D1.stay T2.st T2.cur)
    | (go_at_call 12; (refine (specNorm_any sig7 _ _ (by decide) 7 t ta tc w2.heap.size w2 T2.parts (by omega) T2.own.rd (Nat.le_refl _) T2.wf.1 T2.wf.2 (RdS.stayb (b := w.heap.size + 1) (off := 0) (by simpa using S1) T2.st (by have := D1.lt; show w.heap.size + 1 ≠ c; omega))).mono ?_); rintro e w3 ⟨na, nc, rfl, hO, hle, hb3⟩; have D3 := D2.on hb3; have r0 := D3.r0; have r1 := D3.r1; have r2 := D3.r2; have fr := D3.fr; have hz := D2.z; have hwf := T2.wf; have hpt := T2.parts; clear D2 T2 S1 L1 D1 hb3))
  obtain ⟨z0, z1, z2⟩ := fin_res D3 (.int .i64 t.f) (.int .i64 t.v) (.slice na (normT (blindAt sig7) t).kids.length nc)
  refine bodyPost_ret (v := .agg #[.int .i64 t.f, .int .i64 t.v, .slice na (normT (blindAt sig7) t).kids.length nc]) (by simp [results, Try.results81, go_sem, z0, z1, z2]) rfl ⟨t, na, nc, by rw [normT_f, normT_v], ?_⟩
  have := D3.fin (t := normT (blindAt sig7) t) (ta := na) (tc := nc) (N := 7) HB.out (hO.mono (fun x hx => ⟨by omega, hx.2⟩)) hle (by rw [normT_f, normT_v]; exact hwf) (Nat.le_trans (normT_parts _ t) hpt)
  rwa [normT_f, normT_v] at this
end Go.Proofs.Ytollijngiioonaa

/- The order of terms is total: alike terms are the same, and of two one is not behind the other; a list in order is told by what is in it. Conditions: none. -/
namespace Go.Proofs.Ytollijngiioonaa
set_option maxRecDepth 100000
open Go.RowKit

mutual
theorem sameT_eqT : ∀ t u : TermD, sameT t u = true → t = u
  | .mk f v ks, .mk f' v' ks', h => by
    simp only [sameT, Bool.and_eq_true, beq_iff_eq] at h
    obtain ⟨⟨⟨h1, h2⟩, h3⟩, h4⟩ := h
    rw [h1, h2, sameL_eqL ks ks' h3 h4]
theorem sameL_eqL : ∀ ts us : List TermD, ts.length = us.length → sameL ts us = true → ts = us
  | [], us, hl, _ => by cases us with | nil => rfl | cons u us => simp at hl
  | t :: ts, [], hl, _ => by simp at hl
  | t :: ts, u :: us, hl, h => by
    simp only [sameL, Bool.and_eq_true] at h
    rw [sameT_eqT t u h.1, sameL_eqL ts us (by simpa using hl) h.2]
end
theorem ordT_zero {t u : TermD} : ordT t u = 0 ↔ t = u := by
  constructor
  · intro h; exact sameT_eqT t u ((ordT_same t u).1 h)
  · rintro rfl
    refine (ordT_same t t).2 ?_
    have : ∀ n : Nat, ∀ t : TermD, partsT t ≤ n → sameT t t = true := by
      intro n
      induction n with
      | zero => intro t h; rw [partsT_eq] at h; omega
      | succ n ih =>
        intro t h
        rw [sameT_eq]
        rw [partsT_eq] at h
        simp only [beq_self_eq_true, Bool.true_and]
        exact sameL_all rfl (fun k hk _ => ih _ (by have := partsL_get hk; omega))
    exact this _ t (Nat.le_refl _)

theorem cmpI_swap (x y : Int) : cmpI y x = - cmpI x y := by unfold cmpI; split <;> (try split) <;> (try split) <;> omega
theorem or3_swap (x y z : Int) : or3 (-x) (-y) (-z) = - or3 x y z := by unfold or3; split <;> (try split) <;> (try split) <;> (try split) <;> omega
theorem headO_swap (t u : TermD) : headO u t = - headO t u := by
  unfold headO
  rw [cmpI_swap t.f u.f, cmpI_swap t.v u.v, cmpI_swap (t.kids.length : Int) u.kids.length, or3_swap]
mutual
theorem ordT_swap : ∀ t u : TermD, ordT u t = - ordT t u
  | .mk f v ks, .mk f' v' ks' => by
    have h1 := headO_swap (.mk f v ks) (.mk f' v' ks')
    have h2 := ordL_swap ks ks'
    rw [ordT_eq, ordT_eq, h1]
    show (if -headO (TermD.mk f v ks) (.mk f' v' ks') ≠ 0 then -headO (TermD.mk f v ks) (.mk f' v' ks') else ordL ks' ks) = -(if headO (TermD.mk f v ks) (.mk f' v' ks') ≠ 0 then headO (TermD.mk f v ks) (.mk f' v' ks') else ordL ks ks')
    rw [h2]
    split <;> split <;> omega
theorem ordL_swap : ∀ ts us : List TermD, ordL us ts = - ordL ts us
  | [], us => by cases us <;> simp [ordL]
  | t :: ts, [] => by simp [ordL]
  | t :: ts, u :: us => by
    have h1 := ordT_swap t u
    have h2 := ordL_swap ts us
    rw [ordL_cons, ordL_cons, h1, h2]
    split <;> split <;> omega
end

theorem headO_neg {t u : TermD} : headO t u < 0 ↔ (t.f < u.f ∨ (t.f = u.f ∧ (t.v < u.v ∨ (t.v = u.v ∧ t.kids.length < u.kids.length)))) := by
  unfold headO or3
  by_cases e1 : t.f = u.f
  · rw [cmpI_zero.2 e1]
    by_cases e2 : t.v = u.v
    · rw [cmpI_zero.2 e2]
      simp only [ne_eq, not_true_eq_false, if_false, cmpI_neg]
      omega
    · have h2 := mt cmpI_zero.1 e2
      simp only [ne_eq, not_true_eq_false, if_false, h2, not_false_eq_true, if_true, cmpI_neg]
      omega
  · have h1 := mt cmpI_zero.1 e1
    simp only [ne_eq, h1, not_false_eq_true, if_true, cmpI_neg]
    omega
theorem headO_le {a b : TermD} (h : ordT a b ≤ 0) : headO a b ≤ 0 := by
  rw [ordT_eq] at h
  split at h
  · exact h
  · omega
theorem headO_lt {a b : TermD} (h : headO a b < 0) : ordT a b < 0 := by
  rw [ordT_eq, if_pos (by omega)]; exact h

theorem ordT_trans : ∀ (n : Nat) (a b c : TermD), partsT a ≤ n → ordT a b ≤ 0 → ordT b c ≤ 0 → ordT a c ≤ 0 := by
  intro n
  induction n with
  | zero => intro a b c h; rw [partsT_eq] at h; omega
  | succ n ih =>
    have hL : ∀ (ts us vs : List TermD), partsL ts ≤ n → ts.length = us.length → us.length = vs.length → ordL ts us ≤ 0 → ordL us vs ≤ 0 → ordL ts vs ≤ 0 := by
      intro ts
      induction ts with
      | nil => intro us vs _ h1 h2 _ _; cases us with
        | nil => cases vs with
          | nil => simp [ordL]
          | cons v vs => simp at h2
        | cons u us => simp at h1
      | cons t ts iht =>
        intro us vs hp h1 h2 g1 g2
        cases us with
        | nil => simp at h1
        | cons u us => cases vs with
          | nil => simp at h2
          | cons v vs =>
            rw [partsL] at hp
            rw [ordL_cons] at g1 g2 ⊢
            by_cases e1 : ordT t u = 0
            · have e := ordT_zero.1 e1
              subst e
              rw [if_neg (by omega)] at g1
              by_cases e2 : ordT t v = 0
              · rw [if_neg (by omega)] at g2 ⊢
                exact iht us vs (by omega) (by simpa using h1) (by simpa using h2) g1 g2
              · rw [if_pos e2] at g2 ⊢; exact g2
            · rw [if_pos e1] at g1
              have g3 : ordT u v ≤ 0 := by
                by_cases e2 : ordT u v = 0
                · omega
                · rw [if_pos e2] at g2; exact g2
              have g4 := ih t u v (by omega) g1 g3
              have g5 : ordT t v ≠ 0 := fun e => by
                have := ordT_zero.1 e
                subst this
                have := ordT_swap t u
                omega
              rw [if_pos g5]; exact g4
    intro a b c hp h1 h2
    rw [partsT_eq] at hp
    have k1 := headO_le h1
    have k2 := headO_le h2
    by_cases e1 : headO a b = 0
    · by_cases e2 : headO b c = 0
      · have z1 := headO_zero.1 e1
        have z2 := headO_zero.1 e2
        have e3 : headO a c = 0 := headO_zero.2 ⟨z1.1.trans z2.1, z1.2.1.trans z2.2.1, z1.2.2.trans z2.2.2⟩
        rw [ordT_eq, if_neg (by omega)] at h1 h2 ⊢
        exact hL _ _ _ (by omega) z1.2.2 z2.2.2 h1 h2
      · have z1 := headO_zero.1 e1
        have z2 := headO_neg.1 (show headO b c < 0 by omega)
        exact Int.le_of_lt (headO_lt (headO_neg.2 (by omega)))
    · have z1 := headO_neg.1 (show headO a b < 0 by omega)
      by_cases e2 : headO b c = 0
      · have z2 := headO_zero.1 e2
        exact Int.le_of_lt (headO_lt (headO_neg.2 (by omega)))
      · have z2 := headO_neg.1 (show headO b c < 0 by omega)
        exact Int.le_of_lt (headO_lt (headO_neg.2 (by omega)))

/-- Not behind. -/
def leT (a b : TermD) : Prop := ordT a b ≤ 0
theorem leT_refl (a : TermD) : leT a a := by show ordT a a ≤ 0; rw [ordT_zero.2 rfl]; omega
theorem leT_trans {a b c : TermD} (h1 : leT a b) (h2 : leT b c) : leT a c := ordT_trans _ a b c (Nat.le_refl _) h1 h2
theorem leT_total (a b : TermD) : leT a b ∨ leT b a := by
  unfold leT
  have := ordT_swap a b
  omega
theorem leT_anti {a b : TermD} (h1 : leT a b) (h2 : leT b a) : a = b := by
  unfold leT at *
  have := ordT_swap a b
  exact ordT_zero.1 (by omega)
theorem befT_leT (a b : TermD) : befT a b = false ↔ leT b a := by
  rw [← ordT_bef]
  unfold leT
  have := ordT_swap a b
  simp
  omega

/-- Two lists in order of which one is the other in another order are the same. -/
theorem sorted_ext : ∀ {a b : List TermD}, a.Pairwise leT → b.Pairwise leT → a.Perm b → a = b
  | [], b, _, _, h => by rw [List.nil_perm] at h; rw [h]
  | x :: a, [], _, _, h => by have := h.length_eq; simp at this
  | x :: a, y :: b, ha, hb, h => by
    rw [List.pairwise_cons] at ha hb
    have e : x = y := by
      have h1 : x ∈ y :: b := h.subset (by simp)
      have h2 : y ∈ x :: a := h.symm.subset (by simp)
      rcases List.mem_cons.1 h1 with h1 | h1
      · exact h1
      · rcases List.mem_cons.1 h2 with h2 | h2
        · exact h2.symm
        · exact leT_anti (ha.1 y h2) (hb.1 x h1)
    subst e
    rw [sorted_ext ha.2 hb.2 (h.cons_inv)]

theorem tw_all (p : TermD → Bool) : ∀ (l : List TermD), ∀ x ∈ l.takeWhile p, p x = true
  | [], x, h => by simp at h
  | y :: l, x, h => by
    by_cases e : p y = true
    · simp only [List.takeWhile_cons, e, if_true] at h
      rcases List.mem_cons.1 h with h | h
      · rw [h]; exact e
      · exact tw_all p l x h
    · simp only [List.takeWhile_cons, e] at h
      simp at h
theorem putT_sorted {t : TermD} {l : List TermD} (h : l.Pairwise leT) : (putT t l).Pairwise leT := by
  unfold putT
  have h1 : ∀ x ∈ l.takeWhile (fun e => !befT t e), leT x t := fun x hx => by
    have := tw_all _ l x hx
    exact (befT_leT t x).1 (by simpa using this)
  have h2 : ∀ x ∈ l.dropWhile (fun e => !befT t e), leT t x := by
    intro x hx
    have hd := h.sublist (List.dropWhile_sublist (fun e => !befT t e))
    cases hc : l.dropWhile (fun e => !befT t e) with
    | nil => rw [hc] at hx; simp at hx
    | cons y ys =>
      have hy : leT t y := by
        have := List.head?_dropWhile_not (fun e => !befT t e) l
        rw [hc] at this
        simp at this
        rcases leT_total t y with q | q
        · exact q
        · have := (befT_leT t y).2 q
          simp_all
      rw [hc] at hx hd
      rcases List.mem_cons.1 hx with e | e
      · exact e ▸ hy
      · exact leT_trans hy ((List.pairwise_cons.1 hd).1 x e)
  rw [List.pairwise_append]
  refine ⟨h.sublist (List.takeWhile_sublist _), List.pairwise_cons.2 ⟨h2, h.sublist (List.dropWhile_sublist _)⟩, fun x hx y hy => ?_⟩
  rcases List.mem_cons.1 hy with e | e
  · exact e ▸ h1 x hx
  · exact leT_trans (h1 x hx) (h2 y e)
end Go.Proofs.Ytollijngiioonaa

/- What one form keeps: the form of a form is it; the Kids of a blind function may stand in any order, and in brackets; a right term is its form; weights. Conditions: none. -/
namespace Go.Proofs.Ytollijngiioonaa
set_option maxRecDepth 100000
open Go.RowKit

theorem parts_kid : ∀ {ks : List TermD} {k : TermD}, k ∈ ks → partsT k ≤ partsL ks
  | [], _, h => by simp at h
  | x :: xs, k, h => by
    rw [partsL]
    rcases List.mem_cons.1 h with rfl | h
    · omega
    · have := parts_kid h; omega

/-- What a Kid in one form brings to the list of a blind function. -/
def flatK (f : Int) (k : TermD) : List TermD := if k.f ≠ f then [k] else k.kids

theorem foldP_perm (ks out : List TermD) : (ks.foldl (fun o x => putT x o) out).Perm (out ++ ks) := by
  induction ks generalizing out with
  | nil => simp
  | cons t ts ih =>
    rw [List.foldl_cons]
    refine (ih _).trans ?_
    exact ((putT_perm t out).append_right ts).trans (List.perm_middle.symm)
theorem foldP_sorted (ks : List TermD) : ∀ {out : List TermD}, out.Pairwise leT → (ks.foldl (fun o x => putT x o) out).Pairwise leT := by
  induction ks with
  | nil => intro out h; exact h
  | cons t ts ih => intro out h; rw [List.foldl_cons]; exact ih (putT_sorted h)
theorem stepN_perm (f : Int) (k : TermD) (out : List TermD) : (stepN true f k out).Perm (out ++ flatK f k) := by
  unfold stepN flatK
  simp only [Bool.true_eq_false, ↓reduceIte]
  split
  · exact (putT_perm k out).trans (by simpa using (List.perm_middle (a := k) (l₁ := out) (l₂ := [])).symm)
  · exact foldP_perm _ _
theorem stepN_sorted (f : Int) (k : TermD) {out : List TermD} (h : out.Pairwise leT) : (stepN true f k out).Pairwise leT := by
  unfold stepN
  simp only [Bool.true_eq_false, ↓reduceIte]
  split
  · exact putT_sorted h
  · exact foldP_sorted _ h
theorem normL_perm (bl : Int → Bool) (f : Int) (hf : bl f = true) (ks : List TermD) : ∀ out, (normL bl f ks out).Perm (out ++ ks.flatMap (fun k => flatK f (normT bl k))) := by
  induction ks with
  | nil => intro out; simp [normL]
  | cons k ks ih =>
    intro out
    rw [normL, hf, List.flatMap_cons, ← List.append_assoc]
    exact (ih _).trans ((stepN_perm f _ out).append_right _)
theorem normL_sorted (bl : Int → Bool) (f : Int) (hf : bl f = true) (ks : List TermD) : ∀ {out}, out.Pairwise leT → (normL bl f ks out).Pairwise leT := by
  induction ks with
  | nil => intro out h; rw [normL]; exact h
  | cons k ks ih => intro out h; rw [normL, hf]; exact ih (stepN_sorted f _ h)
theorem normL_map (bl : Int → Bool) (f : Int) (hf : bl f = false) (ks : List TermD) : ∀ out, normL bl f ks out = out ++ ks.map (normT bl) := by
  induction ks with
  | nil => intro out; simp [normL]
  | cons k ks ih => intro out; rw [normL, hf, ih]; simp [stepN]

/-- In one form. -/
inductive IsN (bl : Int → Bool) : TermD → Prop
  | mk (t : TermD) (hk : ∀ k ∈ t.kids, IsN bl k) (hb : bl t.f = true → t.kids.Pairwise leT ∧ ∀ k ∈ t.kids, k.f ≠ t.f) : IsN bl t

theorem normT_isN (bl : Int → Bool) : ∀ (n : Nat) (t : TermD), partsT t ≤ n → IsN bl (normT bl t) := by
  intro n
  induction n with
  | zero => intro t h; rw [partsT_eq] at h; omega
  | succ n ih =>
    intro t h
    rw [partsT_eq] at h
    have IH : ∀ k ∈ t.kids, IsN bl (normT bl k) := fun k hk => ih k (by have := parts_kid hk; omega)
    rw [normT_eq]
    by_cases hf : bl t.f = true
    · have hp := normL_perm bl t.f hf t.kids []
      rw [List.nil_append] at hp
      have hm : ∀ x ∈ normL bl t.f t.kids [], IsN bl x ∧ x.f ≠ t.f := by
        intro x hx
        obtain ⟨k, hk, hx⟩ := List.mem_flatMap.1 (hp.subset hx)
        have hN := IH k hk
        unfold flatK at hx
        split at hx
        · next h => rw [List.mem_singleton] at hx; subst hx; exact ⟨hN, h⟩
        · next h =>
          have h : (normT bl k).f = t.f := Decidable.not_not.1 h
          cases hN with
          | mk _ h1 h2 => exact ⟨h1 x hx, fun e => (h2 (by rw [h]; exact hf)).2 x hx (by rw [e, h])⟩
      exact .mk _ (fun k hk => (hm k hk).1) (fun _ => ⟨normL_sorted bl t.f hf t.kids .nil, fun k hk => (hm k hk).2⟩)
    · have hf : bl t.f = false := by simpa using hf
      rw [normL_map bl t.f hf, List.nil_append]
      refine .mk _ (fun x hx => ?_) (fun h => by rw [show (TermD.mk t.f t.v (t.kids.map (normT bl))).f = t.f from rfl, hf] at h; cases h)
      obtain ⟨k, hk, rfl⟩ := List.mem_map.1 hx
      exact IH k hk
theorem normT_self (bl : Int → Bool) {t : TermD} (h : IsN bl t) : normT bl t = t := by
  induction h with
  | mk t hk hb ih =>
    rw [normT_eq]
    have e : normL bl t.f t.kids [] = t.kids := by
      by_cases hf : bl t.f = true
      · have hp := normL_perm bl t.f hf t.kids []
        rw [List.nil_append] at hp
        have e : t.kids.flatMap (fun k => flatK t.f (normT bl k)) = t.kids := by
          have : ∀ l : List TermD, (∀ k ∈ l, normT bl k = k ∧ k.f ≠ t.f) → l.flatMap (fun k => flatK t.f (normT bl k)) = l := by
            intro l
            induction l with
            | nil => intro _; rfl
            | cons x xs ihx =>
              intro hx
              have h0 := hx x (by simp)
              rw [List.flatMap_cons, ihx (fun k hk => hx k (by simp [hk])), h0.1]
              simp [flatK, h0.2]
          exact this _ (fun k hk => ⟨ih k hk, (hb hf).2 k hk⟩)
        rw [e] at hp
        exact sorted_ext (normL_sorted bl t.f hf t.kids .nil) (hb hf).1 hp
      · have hf : bl t.f = false := by simpa using hf
        rw [normL_map bl t.f hf, List.nil_append]
        exact (List.map_congr_left ih).trans (List.map_id' _)
    rw [e]
    cases t; rfl
/-- The form of a form is it. -/
theorem normT_idem (bl : Int → Bool) (t : TermD) : normT bl (normT bl t) = normT bl t := normT_self bl (normT_isN bl _ t (Nat.le_refl _))

/-- In any order. -/
theorem normT_perm (bl : Int → Bool) {f v : Int} (hf : bl f = true) {us bs : List TermD} (h : us.Perm bs) : normT bl (.mk f v us) = normT bl (.mk f v bs) := by
  rw [normT, normT]
  congr 1
  refine sorted_ext (normL_sorted bl f hf us .nil) (normL_sorted bl f hf bs .nil) ?_
  have h1 := normL_perm bl f hf us []
  have h2 := normL_perm bl f hf bs []
  exact (h1.trans (by simpa using h.flatMap_right _)).trans h2.symm
/-- In brackets. -/
theorem normT_in (bl : Int → Bool) {f v v' : Int} (hf : bl f = true) (us bs : List TermD) : normT bl (.mk f v (normT bl (.mk f v' us) :: bs)) = normT bl (.mk f v (us ++ bs)) := by
  rw [normT, normT]
  congr 1
  refine sorted_ext (normL_sorted bl f hf _ .nil) (normL_sorted bl f hf _ .nil) ?_
  have h1 := normL_perm bl f hf (normT bl (.mk f v' us) :: bs) []
  have h2 := normL_perm bl f hf (us ++ bs) []
  refine (h1.trans ?_).trans h2.symm
  rw [List.nil_append, List.nil_append, List.flatMap_cons, List.flatMap_append, normT_idem]
  refine List.Perm.append_right _ ?_
  have h3 := normL_perm bl f hf us []
  rw [List.nil_append] at h3
  have e : flatK f (normT bl (.mk f v' us)) = normL bl f us [] := by rw [normT]; simp [flatK, TermD.f, TermD.kids]
  rw [e]
  exact h3
end Go.Proofs.Ytollijngiioonaa

/- A place within a term that owns its rows: what is laid into that place is laid into the term. Conditions: none. -/
namespace Go.Proofs.Ytollijngiioonaa
set_option maxRecDepth 100000
open Go.RowKit

theorem partsL_set : ∀ {ts : List TermD} {i : Nat} (h : i < ts.length) (u : TermD), partsL (ts.set i u) + partsT ts[i] = partsL ts + partsT u
  | t :: ts, 0, _, u => by simp only [List.set_cons_zero, partsL, List.getElem_cons_zero]; omega
  | t :: ts, i + 1, h, u => by
    have := partsL_set (ts := ts) (i := i) (by simpa using h) u
    simp only [List.set_cons_succ, partsL, List.getElem_cons_succ]; omega

/-- The block of p is as it was, but for the three cells from p on. -/
structure SlotSet (w w' : World) (b o : Nat) : Prop where
  cell : ∀ j, j < o ∨ o + 3 ≤ j → w'.cell? ⟨b, j, none⟩ = w.cell? ⟨b, j, none⟩
  row : ∀ n c xs, w.ownsRow 0 27 3 (.slice (some ⟨b, 0, none⟩) n c) n xs → ∃ ys, w'.ownsRow 0 27 3 (.slice (some ⟨b, 0, none⟩) n c) n ys
theorem SlotSet.same {w w' : World} {b o : Nat} (h : w'.heap[b]? = w.heap[b]?) : SlotSet w w' b o :=
  ⟨fun _ _ => World.cell?_of_block (a := ⟨b, _, none⟩) h, fun _ _ xs hr => ⟨xs, own_frame hr (fun g hg => by cases hg; exact h)⟩⟩
theorem SlotSet.after {w w1 w' : World} {b o : Nat} (h : w1.heap[b]? = w.heap[b]?) (hs : SlotSet w1 w' b o) : SlotSet w w' b o :=
  ⟨fun j hj => (hs.cell j hj).trans (World.cell?_of_block (a := ⟨b, j, none⟩) h), fun n c xs hr => hs.row n c xs (own_frame hr (fun g hg => by cases hg; exact h))⟩
theorem SlotSet.set (w : World) (b o j : Nat) (v : Value) (hj : o ≤ j ∧ j < o + 3) : SlotSet w (w.setCell ⟨b, j, none⟩ v) b o := by
  refine ⟨fun i hi => World.cell?_setCell_other _ _ _ _ (by simp only [ne_eq, Addr.mk.injEq, true_and, and_true]; omega), fun n c xs hr => ?_⟩
  obtain ⟨h1, h2⟩ := hr
  rcases h2 with ⟨h2, _⟩ | ⟨g, cap, cur, hv, hg, hh, hn, hm, hs, _⟩
  · cases h2
  · cases hv
    refine ⟨(cur.setIfInBounds j v).toList.take (n * 3), ?_, .inr ⟨b, c, cur.setIfInBounds j v, rfl, hg, ?_, hn, hm, by simpa using hs, rfl⟩⟩
    · simp [hs]; omega
    · simp [World.setCell, Array.getElem?_modify, hh]

/-- What is laid into the place is laid into the term that stands in block r. -/
def Reb (N r : Nat) (S : Nat → Prop) (T : TermD) (b o : Nat) (u : TermD) (U : Nat → Prop) (w : World) : Prop :=
  ∀ (w' : World) (u' : TermD) (ua' : Option Addr) (uc' : Nat) (U' : Nat → Prop), w.heap.size ≤ w'.heap.size → (∀ x, S x ∨ x = r → ¬ U x → x ≠ b → w'.heap[x]? = w.heap[x]?) → SlotSet w w' b o →
    (w'.cell? ⟨b, o, none⟩ = some (.int .i64 u'.f) ∧ w'.cell? ⟨b, o + 1, none⟩ = some (.int .i64 u'.v) ∧ w'.cell? ⟨b, o + 2, none⟩ = some (.slice ua' u'.kids.length uc')) → OwnR w' U' ua' uc' u'.kids → (∀ x, U' x → (U x ∨ N ≤ x) ∧ x < w'.heap.size) → isW u'.f ∧ isW u'.v →
    ∃ T' ta tc, (w'.cell? ⟨r, 0, none⟩ = some (.int .i64 T'.f) ∧ w'.cell? ⟨r, 1, none⟩ = some (.int .i64 T'.v) ∧ w'.cell? ⟨r, 2, none⟩ = some (.slice ta T'.kids.length tc)) ∧ OwnR w' (fun x => (S x ∨ N ≤ x) ∧ x < w'.heap.size) ta tc T'.kids ∧ (isW T'.f ∧ isW T'.v) ∧ partsT T' + partsT u ≤ partsT T + partsT u'

/-- The place (b, o) within the term in block r; what stands there. -/
structure Foc (N r : Nat) (S : Nat → Prop) (T : TermD) (b o : Nat) (u : TermD) (ua : Option Addr) (uc : Nat) (U : Nat → Prop) (w : World) : Prop where
  c0 : w.cell? ⟨b, o, none⟩ = some (.int .i64 u.f)
  c1 : w.cell? ⟨b, o + 1, none⟩ = some (.int .i64 u.v)
  c2 : w.cell? ⟨b, o + 2, none⟩ = some (.slice ua u.kids.length uc)
  fr : ∀ j, w.frozen? ⟨b, j, none⟩ = false
  own : OwnR w U ua uc u.kids
  wf : isW u.f ∧ isW u.v
  bin : S b ∨ b = r
  bU : ¬ U b
  US : ∀ x, U x → S x
  SN : ∀ x, S x ∨ x = r → x < N
  Nw : N ≤ w.heap.size
  ru : ¬ S r
  reb : Reb N r S T b o u U w
  le : partsT u ≤ partsT T

theorem Foc.root {N r : Nat} {S : Nat → Prop} {T : TermD} {a : Option Addr} {c : Nat} {w : World} (h0 : w.cell? ⟨r, 0, none⟩ = some (.int .i64 T.f)) (h1 : w.cell? ⟨r, 1, none⟩ = some (.int .i64 T.v)) (h2 : w.cell? ⟨r, 2, none⟩ = some (.slice a T.kids.length c)) (hfr : ∀ j, w.frozen? ⟨r, j, none⟩ = false) (ho : OwnR w S a c T.kids) (hw : isW T.f ∧ isW T.v) (hr : ¬ S r) (hS : ∀ x, S x ∨ x = r → x < N) (hN : N ≤ w.heap.size) : Foc N r S T r 0 T a c S w :=
  ⟨h0, h1, h2, hfr, ho, hw, .inr rfl, hr, fun _ h => h, hS, hN, hr, fun w' u' ua' uc' U' _ _ _ hc hO hU hw' => ⟨u', ua', uc', hc, hO.mono (fun x hx => hU x hx), hw', by omega⟩, Nat.le_refl _⟩

theorem Foc.on {N r : Nat} {S : Nat → Prop} {T : TermD} {b o : Nat} {u : TermD} {ua : Option Addr} {uc : Nat} {U : Nat → Prop} {w w1 : World} (h : Foc N r S T b o u ua uc U w) (hz : w.heap.size ≤ w1.heap.size) (hs : ∀ x, S x ∨ x = r → w1.heap[x]? = w.heap[x]?) : Foc N r S T b o u ua uc U w1 := by
  have e := hs b h.bin
  refine ⟨(World.cell?_of_block (a := ⟨b, _, none⟩) e).trans h.c0, (World.cell?_of_block (a := ⟨b, _, none⟩) e).trans h.c1, (World.cell?_of_block (a := ⟨b, _, none⟩) e).trans h.c2, fun j => (World.frozen?_of_block (a := ⟨b, j, none⟩) e).trans (h.fr j), h.own.frame (fun x hx => hs x (.inl (h.US x hx))) hz, h.wf, h.bin, h.bU, h.US, h.SN, Nat.le_trans h.Nw hz, h.ru, ?_, h.le⟩
  intro w' u' ua' uc' U' h1 h2 h3 h4 h5 h6 h7
  exact h.reb w' u' ua' uc' U' (Nat.le_trans hz h1) (fun x hx hu hb => (h2 x hx hu hb).trans (hs x hx)) (.after e h3) h4 h5 h6 h7

theorem Foc.down {N r : Nat} {S : Nat → Prop} {T : TermD} {b o : Nat} {u : TermD} {ua : Option Addr} {uc : Nat} {U : Nat → Prop} {w : World} (h : Foc N r S T b o u ua uc U w) {i : Nat} (hi : i < u.kids.length) :
    ∃ g a' c' U', ua = some ⟨g, 0, none⟩ ∧ Foc N r S T g (i * 3) u.kids[i] a' c' U' w := by
  have hO := h.own
  have hU := h.US
  have hB := h.bU
  have hR := h.reb
  generalize hks : u.kids = ks at hO hi
  cases hO with
  | nil S => simp at hi
  | row _ g c ts A C K xs hb hrow hl hz hc hsub hdis hk =>
    obtain ⟨d0, d1, d2⟩ := hc i hi
    refine ⟨g, A i, C i, K i, rfl, d0, d1, d2, fun j => hrow.frozenAt j, hk i hi, hz i hi, .inl (hU g hb), fun hx => (hsub i g hi hx).2 rfl, fun x hx => hU x (hsub i x hi hx).1, h.SN, h.Nw, h.ru, ?_, ?_⟩
    · intro w' u2 a2 c2 U2 h1 h2 h3 h4 h5 h6 h7
      have hblt : ∀ x, U x → x < w.heap.size := fun x hx => Nat.lt_of_lt_of_le (h.SN x (.inl (hU x hx))) h.Nw
      have eb : w'.heap[b]? = w.heap[b]? := h2 b h.bin (fun hx => hB (hsub i b hi hx).1) (fun e => hB (e ▸ hb))
      have hlt : g < N := h.SN g (.inl (hU g hb))
      obtain ⟨ys, hys⟩ := h3.row _ _ _ hrow
      have hlen : (ks.set i u2).length = ks.length := List.length_set
      have key := hR w' (.mk u.f u.v (ks.set i u2)) (some ⟨g, 0, none⟩) uc (fun x => (U x ∨ N ≤ x) ∧ x < w'.heap.size) h1
        (fun x hx hux hxb => h2 x hx (fun hk' => hux (hsub i x hi hk').1) (fun e => hux (e ▸ hb)))
        (.same eb)
        ⟨(World.cell?_of_block (a := ⟨b, _, none⟩) eb).trans h.c0, (World.cell?_of_block (a := ⟨b, _, none⟩) eb).trans h.c1, by
          have := (World.cell?_of_block (a := ⟨b, o + 2, none⟩) eb).trans h.c2
          rw [hks] at this
          simpa [TermD.kids] using this⟩
        (OwnR.row _ g uc (ks.set i u2) (fun j => if j = i then a2 else A j) (fun j => if j = i then c2 else C j) (fun j x => if j = i then U2 x else K j x) ys ⟨.inl hb, (hys.lt g rfl).2⟩ (by rw [hlen]; exact hys) (by rw [hlen]; exact hl)
          (fun j hj => by
            rw [hlen] at hj
            by_cases e : j = i
            · subst e; simpa using h7
            · rw [List.getElem_set_ne (by omega)]; exact hz j hj)
          (fun j hj => by
            rw [hlen] at hj
            by_cases e : j = i
            · subst e; simpa using h4
            · obtain ⟨e0, e1, e2⟩ := hc j hj
              simp only [if_neg e]
              rw [List.getElem_set_ne (by omega)]
              exact ⟨(h3.cell _ (by omega)).trans e0, (h3.cell _ (by omega)).trans e1, (h3.cell _ (by omega)).trans e2⟩)
          (fun j x hj hx => by
            rw [hlen] at hj
            by_cases e : j = i
            · subst e
              simp only [↓reduceIte] at hx
              obtain ⟨hx1, hx2⟩ := h6 x hx
              rcases hx1 with hx1 | hx1
              · exact ⟨⟨.inl (hsub j x hj hx1).1, hx2⟩, (hsub j x hj hx1).2⟩
              · exact ⟨⟨.inr hx1, hx2⟩, by omega⟩
            · simp only [if_neg e] at hx
              exact ⟨⟨.inl (hsub j x hj hx).1, Nat.lt_of_lt_of_le (hblt x (hsub j x hj hx).1) h1⟩, (hsub j x hj hx).2⟩)
          (fun j l x hj hl' hne hx hy => by
            rw [hlen] at hj hl'
            have hcross : ∀ m, m < ks.length → m ≠ i → U2 x → K m x → False := fun m hm hmi hx2 hkm => by
              rcases (h6 x hx2).1 with h | h'
              · exact hdis m i x hm hi hmi hkm h
              · have := h.SN x (.inl (hU x (hsub m x hm hkm).1)); omega
            by_cases e : j = i
            · have e' : l ≠ i := by omega
              simp only [if_pos e, if_neg e'] at hx hy
              exact hcross l hl' e' hx hy
            · by_cases e' : l = i
              · simp only [if_pos e', if_neg e] at hx hy
                exact hcross j hj e hy hx
              · simp only [if_neg e', if_neg e] at hx hy
                exact hdis j l x hj hl' hne hx hy)
          (fun j hj => by
            rw [hlen] at hj
            by_cases e : j = i
            · subst e
              simpa using h5
            · simp only [if_neg e]
              rw [List.getElem_set_ne (by omega)]
              exact (hk j hj).frame (fun x hx => h2 x (.inl (hU x (hsub j x hj hx).1)) (fun hx' => hdis j i x hj hi e hx hx') (hsub j x hj hx).2) h1))
        (fun x hx => hx) h.wf
      obtain ⟨T', ta, tc, k1, k2, k3, k4⟩ := key
      refine ⟨T', ta, tc, k1, k2, k3, ?_⟩
      have e1 := partsL_set hi u2
      have e2 := partsT_eq u
      rw [hks] at e2
      have e3 : partsT (.mk u.f u.v (ks.set i u2)) = partsL (ks.set i u2) + 1 := partsT_eq _
      omega
    · have e2 := partsT_eq u
      rw [hks] at e2
      have e1 := parts_kid (List.getElem_mem hi)
      have := h.le
      omega
theorem Foc.stay {N r : Nat} {S : Nat → Prop} {T : TermD} {b o c : Nat} {u : TermD} {ua : Option Addr} {uc : Nat} {U : Nat → Prop} {w w1 : World} (h : Foc N r S T b o u ua uc U w) (hs : Stay (fun k => k ≠ c) w w1) (hc : ∀ x, S x ∨ x = r → x ≠ c) : Foc N r S T b o u ua uc U w1 :=
  h.on hs.size (fun x hx => hs.block x (Nat.lt_of_lt_of_le (h.SN x hx) h.Nw) (hc x hx))
theorem Foc.below {N r : Nat} {S : Nat → Prop} {T : TermD} {b o : Nat} {u : TermD} {ua : Option Addr} {uc : Nat} {U : Nat → Prop} {w w1 : World} (h : Foc N r S T b o u ua uc U w) (hs : Below w.heap.size w w1) : Foc N r S T b o u ua uc U w1 :=
  h.on hs.size (fun x hx => hs.block x (Nat.lt_of_lt_of_le (h.SN x hx) h.Nw))
theorem Foc.len {N r : Nat} {S : Nat → Prop} {T : TermD} {b o : Nat} {u : TermD} {ua : Option Addr} {uc : Nat} {U : Nat → Prop} {w : World} (h : Foc N r S T b o u ua uc U w) : u.kids.length < partsT T := by
  have h1 := h.le
  have h2 := partsL_len u.kids
  rw [partsT_eq u] at h1
  omega
end Go.Proofs.Ytollijngiioonaa

/- What is laid into a place: a number, a variable, one Kid more. Conditions: none. -/
namespace Go.Proofs.Ytollijngiioonaa
set_option maxRecDepth 100000
open Go.RowKit

theorem OwnR.each {w : World} {U : Nat → Prop} {ua : Option Addr} {uc : Nat} {ks : List TermD} (h : OwnR w U ua uc ks) :
    ∃ (A : Nat → Option Addr) (C : Nat → Nat) (K : Nat → Nat → Prop), (∀ i, (h : i < ks.length) → (isW ks[i].f ∧ isW ks[i].v) ∧ OwnR w (K i) (A i) (C i) ks[i].kids) ∧
      (∀ i x, i < ks.length → K i x → U x ∧ ∀ g, (Value.slice ua ks.length uc).ownBlock = some g → x ≠ g) ∧ (∀ i j x, i < ks.length → j < ks.length → i ≠ j → K i x → ¬ K j x) ∧
      (∀ xs, w.ownsRow 0 27 3 (.slice ua ks.length uc) ks.length xs → ∀ i, (h : i < ks.length) → xs[i * 3]? = some (.int .i64 ks[i].f) ∧ xs[i * 3 + 1]? = some (.int .i64 ks[i].v) ∧ xs[i * 3 + 2]? = some (.slice (A i) ks[i].kids.length (C i))) ∧
      (∀ g, (Value.slice ua ks.length uc).ownBlock = some g → U g) ∧ ks.length ≤ 9223372036854775807 := by
  cases h with
  | nil S => exact ⟨fun _ => none, fun _ => 0, fun _ _ => False, fun i h => by simp at h, fun i x h => by simp at h, fun i j x h => by simp at h, fun xs _ i h => by simp at h, fun g hg => (by cases hg), (by simp)⟩
  | row S g c ts A C K xs hb hrow hl hz hc hsub hdis hk =>
    refine ⟨A, C, K, fun i h => ⟨hz i h, hk i h⟩, fun i x h hx => ⟨(hsub i x h hx).1, fun g' hg' => by cases hg'; exact (hsub i x h hx).2⟩, hdis, fun ys hys i h => ?_, fun g' hg' => by cases hg'; exact hb, hl⟩
    obtain ⟨e0, e1, e2⟩ := hc i h
    exact ⟨(hys.cellAt _ (by omega)).symm.trans e0, (hys.cellAt _ (by omega)).symm.trans e1, (hys.cellAt _ (by omega)).symm.trans e2⟩

theorem OwnR.app {w w5 : World} {U K2 : Nat → Prop} {ua a2 : Option Addr} {uc c2 : Nat} {ks : List TermD} {xs : List Value} {v5 : Value} {t2 : TermD} (h : OwnR w U ua uc ks) (hrow : w.ownsRow 0 27 3 (.slice ua ks.length uc) ks.length xs) (hg : w.grownBy w5 (Value.slice ua ks.length uc).ownBlock)
    (hrow5 : w5.ownsRow 0 27 3 v5 (ks.length + 1) (xs ++ [.int .i64 t2.f, .int .i64 t2.v, .slice a2 t2.kids.length c2])) (hat : v5.ownBlock = (Value.slice ua ks.length uc).ownBlock ∨ v5.ownBlock = some w.heap.size)
    (h2 : OwnR w K2 a2 c2 t2.kids) (hw2 : isW t2.f ∧ isW t2.v) (hK2 : ∀ x, K2 x → ¬ U x ∧ x < w.heap.size) (hU : ∀ x, U x → x < w.heap.size) (hl : ks.length < 9223372036854775807) :
    ∃ g5 c5, v5 = .slice (some ⟨g5, 0, none⟩) (ks.length + 1) c5 ∧ OwnR w5 (fun x => U x ∨ K2 x ∨ x = w.heap.size) (some ⟨g5, 0, none⟩) c5 (ks ++ [t2]) := by
  obtain ⟨A, C, K, hz, hsub, hdis, hc, hbU, _⟩ := h.each
  obtain ⟨g5, c5, rfl, _⟩ := own_slot hrow5
  have hxl : xs.length = ks.length * 3 := hrow.1
  have hgU : (U g5 ∧ ∀ i x, i < ks.length → K i x → x ≠ g5) ∨ g5 = w.heap.size := by
    rcases hat with q | q
    · exact .inl ⟨hbU g5 (q.symm.trans rfl), fun i x hi hx => (hsub i x hi hx).2 g5 (q.symm.trans rfl)⟩
    · exact .inr (by simpa [Value.ownBlock] using q)
  have hlen : (ks ++ [t2]).length = ks.length + 1 := by simp
  refine ⟨g5, c5, rfl, .row _ g5 c5 (ks ++ [t2]) (fun i => if i < ks.length then A i else a2) (fun i => if i < ks.length then C i else c2) (fun i x => if i < ks.length then K i x else K2 x) _ ?_ (by rw [hlen]; exact hrow5) (by rw [hlen]; omega) (fun i hi => ?_) (fun i hi => ?_) (fun i x hi hx => ?_) (fun i j x hi hj hne hx hy => ?_) (fun i hi => ?_)⟩
  · rcases hgU with q | q
    · exact .inl q.1
    · exact .inr (.inr q)
  · by_cases e : i < ks.length
    · rw [List.getElem_append_left e]; exact (hz i e).1
    · have : i = ks.length := by omega
      subst this
      simpa using hw2
  · have hi' : i < ks.length + 1 := by omega
    have q0 := hrow5.cellAt (i * 3) (by omega)
    have q1 := hrow5.cellAt (i * 3 + 1) (by omega)
    have q2 := hrow5.cellAt (i * 3 + 2) (by omega)
    by_cases e : i < ks.length
    · obtain ⟨e0, e1, e2⟩ := hc xs hrow i e
      rw [List.getElem_append_left e]
      simp only [if_pos e]
      rw [List.getElem?_append_left (by omega)] at q0 q1 q2
      exact ⟨q0.trans e0, q1.trans e1, q2.trans e2⟩
    · have : i = ks.length := by omega
      subst this
      rw [List.getElem?_append_right (by omega)] at q0 q1 q2
      rw [hxl] at q0 q1 q2
      simp only [if_neg e, List.getElem_append_right (Nat.le_refl _), Nat.sub_self, List.getElem_cons_zero]
      refine ⟨by simpa using q0, ?_, ?_⟩
      · rw [q1, show ks.length * 3 + 1 - ks.length * 3 = 1 by omega]; rfl
      · rw [q2, show ks.length * 3 + 2 - ks.length * 3 = 2 by omega]; rfl
  · by_cases e : i < ks.length
    · simp only [if_pos e] at hx
      refine ⟨.inl (hsub i x e hx).1, ?_⟩
      rcases hgU with q | q
      · exact q.2 i x e hx
      · have := hU x (hsub i x e hx).1; omega
    · simp only [if_neg e] at hx
      refine ⟨.inr (.inl hx), ?_⟩
      rcases hgU with q | q
      · intro ex; exact (hK2 x hx).1 (ex ▸ q.1)
      · have := (hK2 x hx).2; omega
  · by_cases e : i < ks.length
    · by_cases e' : j < ks.length
      · simp only [if_pos e, if_pos e'] at hx hy
        exact hdis i j x e e' hne hx hy
      · simp only [if_pos e, if_neg e'] at hx hy
        exact (hK2 x hy).1 (hsub i x e hx).1
    · by_cases e' : j < ks.length
      · simp only [if_neg e, if_pos e'] at hx hy
        exact (hK2 x hx).1 (hsub j x e' hy).1
      · omega
  · have hfr : ∀ {S' : Nat → Prop} {a' : Option Addr} {c' : Nat} {l : List TermD}, OwnR w S' a' c' l → (∀ x, S' x → x < w.heap.size ∧ ∀ g, (Value.slice ua ks.length uc).ownBlock = some g → x ≠ g) → OwnR w5 S' a' c' l := fun ho hx => ho.frame (fun x hs => hg.block x (hx x hs).1 (fun e => (hx x hs).2 x e.symm rfl)) hg.size
    by_cases e : i < ks.length
    · simp only [if_pos e]
      rw [List.getElem_append_left e]
      exact hfr (hz i e).2 (fun x hx => ⟨hU x (hsub i x e hx).1, (hsub i x e hx).2⟩)
    · have : i = ks.length := by omega
      subst this
      simp only [if_neg e, List.getElem_append_right (Nat.le_refl _), Nat.sub_self, List.getElem_cons_zero]
      exact hfr h2 (fun x hx => ⟨(hK2 x hx).2, fun g hg' e => (hK2 x hx).1 (e ▸ hbU g hg')⟩)

section
variable {N r : Nat} {S : Nat → Prop} {T : TermD} {b o : Nat} {u : TermD} {ua : Option Addr} {uc : Nat} {U : Nat → Prop} {w : World}
/-- What the term in block r has become. -/
def Now (N r : Nat) (S : Nat → Prop) (M : Nat) (w' : World) : Prop :=
  ∃ T' ta tc, (w'.cell? ⟨r, 0, none⟩ = some (.int .i64 T'.f) ∧ w'.cell? ⟨r, 1, none⟩ = some (.int .i64 T'.v) ∧ w'.cell? ⟨r, 2, none⟩ = some (.slice ta T'.kids.length tc)) ∧ OwnR w' (fun x => (S x ∨ N ≤ x) ∧ x < w'.heap.size) ta tc T'.kids ∧ (isW T'.f ∧ isW T'.v) ∧ partsT T' ≤ M
theorem Foc.lt (h : Foc N r S T b o u ua uc U w) : ∀ x, U x → x < w.heap.size := fun x hx => Nat.lt_of_lt_of_le (h.SN x (.inl (h.US x hx))) h.Nw
theorem Foc.now (h : Foc N r S T b o u ua uc U w) : Now N r S (partsT T) w := by
  obtain ⟨T', ta, tc, k1, k2, k3, k4⟩ := h.reb w u ua uc U (Nat.le_refl _) (fun _ _ _ _ => rfl) (.same rfl) ⟨h.c0, h.c1, h.c2⟩ h.own (fun x hx => ⟨.inl hx, h.lt x hx⟩) h.wf
  exact ⟨T', ta, tc, k1, k2, k3, by omega⟩
theorem Foc.setF (h : Foc N r S T b o u ua uc U w) {z : Int} (hz : isW z) : Now N r S (partsT T) (w.setCell ⟨b, o, none⟩ (.int .i64 z)) := by
  obtain ⟨T', ta, tc, k1, k2, k3, k4⟩ := h.reb (w.setCell ⟨b, o, none⟩ (.int .i64 z)) (.mk z u.v u.kids) ua uc U (by simp) (fun x _ _ hx => Below.heap_setCell w _ _ x (fun e => hx e)) (.set w b o o _ ⟨Nat.le_refl _, by omega⟩)
    ⟨World.cell?_setCell_same _ _ _ h.c0, (World.cell?_setCell_other _ _ _ _ (by simp)).trans h.c1, (World.cell?_setCell_other _ _ _ _ (by simp)).trans h.c2⟩ (h.own.setCell ⟨b, o, none⟩ h.bU _) (fun x hx => ⟨.inl hx, by simpa using h.lt x hx⟩) ⟨hz, h.wf.2⟩
  exact ⟨T', ta, tc, k1, k2, k3, by rw [partsT_eq u, partsT_eq (.mk z u.v u.kids)] at k4; simp only [TermD.kids] at k4; have : partsL u.kids = partsL (match u with | .mk _ _ ks => ks) := by cases u; rfl
                                    omega⟩
theorem Foc.setV (h : Foc N r S T b o u ua uc U w) {z : Int} (hz : isW z) : Now N r S (partsT T) (w.setCell ⟨b, o + 1, none⟩ (.int .i64 z)) := by
  obtain ⟨T', ta, tc, k1, k2, k3, k4⟩ := h.reb (w.setCell ⟨b, o + 1, none⟩ (.int .i64 z)) (.mk u.f z u.kids) ua uc U (by simp) (fun x _ _ hx => Below.heap_setCell w _ _ x (fun e => hx e)) (.set w b o (o + 1) _ ⟨by omega, by omega⟩)
    ⟨(World.cell?_setCell_other _ _ _ _ (by simp)).trans h.c0, World.cell?_setCell_same _ _ _ h.c1, (World.cell?_setCell_other _ _ _ _ (by simp)).trans h.c2⟩ (h.own.setCell ⟨b, o + 1, none⟩ h.bU _) (fun x hx => ⟨.inl hx, by simpa using h.lt x hx⟩) ⟨h.wf.1, hz⟩
  exact ⟨T', ta, tc, k1, k2, k3, by rw [partsT_eq u, partsT_eq (.mk u.f z u.kids)] at k4; simp only [TermD.kids] at k4; have : partsL u.kids = partsL (match u with | .mk _ _ ks => ks) := by cases u; rfl
                                    omega⟩
theorem Foc.setK (h : Foc N r S T b o u ua uc U w) {w5 : World} {a5 : Option Addr} {c5 : Nat} {t2 : TermD} {K5 : Nat → Prop} (hz : w.heap.size ≤ w5.heap.size) (hg : ∀ x, S x ∨ x = r → ¬ U x → w5.heap[x]? = w.heap[x]?) (hO : OwnR w5 K5 a5 c5 (u.kids ++ [t2])) (hK5 : ∀ x, K5 x → (U x ∨ N ≤ x) ∧ x < w5.heap.size) : Now N r S (partsT T + partsT t2) (w5.setCell ⟨b, o + 2, none⟩ (.slice a5 (u.kids.length + 1) c5)) := by
  have eb := hg b h.bin h.bU
  have hbN := h.SN b h.bin
  have d0 := (World.cell?_of_block (a := ⟨b, o, none⟩) eb).trans h.c0
  have d1 := (World.cell?_of_block (a := ⟨b, o + 1, none⟩) eb).trans h.c1
  have d2 := (World.cell?_of_block (a := ⟨b, o + 2, none⟩) eb).trans h.c2
  have hnb : ¬ K5 b := fun hx => (hK5 b hx).1.elim h.bU (fun h => by omega)
  obtain ⟨T', ta, tc, k1, k2, k3, k4⟩ := h.reb (w5.setCell ⟨b, o + 2, none⟩ (.slice a5 (u.kids.length + 1) c5)) (.mk u.f u.v (u.kids ++ [t2])) a5 c5 K5 (by simpa using hz) (fun x hx hu hxb => (Below.heap_setCell w5 _ _ x (fun e => hxb e)).trans (hg x hx hu)) (.after eb (.set w5 b o (o + 2) _ ⟨by omega, by omega⟩))
    ⟨(World.cell?_setCell_other _ _ _ _ (by simp)).trans d0, (World.cell?_setCell_other _ _ _ _ (by simp)).trans d1, (World.cell?_setCell_same _ _ _ d2).trans (by simp [TermD.kids])⟩ (hO.setCell ⟨b, o + 2, none⟩ hnb _) (fun x hx => by simpa using hK5 x hx) h.wf
  refine ⟨T', ta, tc, k1, k2, k3, ?_⟩
  have e1 := partsT_eq u
  have e2 : partsT (.mk u.f u.v (u.kids ++ [t2])) = partsL (u.kids ++ [t2]) + 1 := partsT_eq _
  rw [partsL_append] at e2
  have e3 : partsL [t2] = partsT t2 := by simp [partsL]
  omega
end
end Go.Proofs.Ytollijngiioonaa

/- append to a row of one's own, as one step of a region that draws its order. Conditions: none. -/
namespace Go.Proofs.Ytollijngiioonaa
set_option maxRecDepth 100000
open Go.RowKit

theorem step_append_own {P : Program} {ops : Array Oper} {o : Oper} {a : Act} {w : World} {K : Act → World → Prop} {Q : Exit → Act → World → Prop} {E : Prop}
    (hg : o.guard = none) (s x : Operand) (t : TypeId) (hop : o.op = Op.call { callee := Callee.builtin Builtin.append, args := #[s, x], argTypes := #[t, t] })
    (base : Nat) (e : TypeId) (i : TypeInfo) (z : Value) (size bytes : Nat) (ht : P.underlying t = some (.slice e)) (hi : P.info? e = some i) (hz : i.zero = some z)
    (hsize : i.size = size) (hby : i.bytes = bytes) (hzs : z.cells.size = size) (hsz : 0 < size)
    (v : Value) (n : Nat) (xs : List Value) (hs : a.eval s = v) (hown : w.ownsRow base e size v n xs)
    (ad : Addr) (m c : Nat) (news : List Value) (hx : a.eval x = .slice (some ad) m c) (hl : news.length = m * size) (hnews : ∀ j u, news[j]? = some u → w.cell? (ad.add j) = some u) (h1 : ∀ u ∈ news, u.oneCell' = true)
    (h63 : n + m ≤ maxLen) (hbytes : (n + m) * bytes ≤ 140737488355328) (hbase : base ≤ w.heap.size)
    (hK : ∀ v' w', w'.ownsRow base e size v' (n + m) (xs ++ news) → w.grownBy w' v.ownBlock → (v'.ownBlock = v.ownBlock ∨ v'.ownBlock = some w.heap.size) → K (a.put o.dst v') w') :
    if Region.wanted o (yielded ops a.tmps) = true then Oper.wp P o a w K Q else E := by
  have hw : Region.wanted o (yielded ops a.tmps) = true := by simp [Region.wanted, hg]
  rw [if_pos hw]
  obtain ⟨v', w', hrun, r1, r2, _, r4⟩ := run_append_own_at (P := P) (w := w) base t o.type e i z size bytes ht hi hz hsize hby hzs hsz v n xs hown ad m c news hl hnews h1 h63 hbytes hbase
  subst hs
  unfold Oper.wp
  simp [execOp, hop, resolve, invoke, builtin, hx, hrun, Result.andThen]
  exact hK v' w' r1 r2 r4
/-- What grew by a row, or by none, grew by some block from B on. -/
theorem grow_any {w w' : World} {row : Option Nat} {B : Nat} (h : w.grownBy w' row) (hr : ∀ k, row = some k → B ≤ k) : ∃ g, B ≤ g ∧ w.grownBy w' (some g) := by
  cases row with
  | some k => exact ⟨k, hr k rfl, h⟩
  | none => exact ⟨B, Nat.le_refl _, ⟨h.os, h.tape, h.output, h.size, fun i hi _ => h.block i hi (by simp)⟩⟩
end Go.Proofs.Ytollijngiioonaa

