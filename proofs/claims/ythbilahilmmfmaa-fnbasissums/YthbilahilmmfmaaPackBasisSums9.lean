/- What the proof of FnBasisSums stands on, part 9 of 12: each piece says what it proves and under which conditions. Conditions: as each piece says. -/
import Derived.Test.YthbilahilmmfmaaPackBasisSums8
/- A drawn term: whatever the bytes, it owns its memory and is small; only the cursor has turned. Conditions: at most 1048576 bytes. -/
namespace Go.Proofs.Ythbilahilmmfmaa
set_option maxRecDepth 100000
open Go.RowKit

set_option maxHeartbeats 800000 in
theorem once_any (c : Nat) (a : Option Addr) (bs : List Int) (cap : Nat) (n : Int) (w : World) (hl : bs.length ≤ 1048576) (hn0 : 0 < n) (hn1 : n ≤ 256) (hc : Cur 91 w c a bs cap) :
    Calls Try.prog 45 #[.pointer (some ⟨c, 0, none⟩), .int .i64 n] w fun e w' => ∃ b : Bool, e = .returned (.bool b) ∧ Cur 91 w' c a bs cap ∧ w.grownBy w' (some c) := by
  have H := below_any c a bs cap n w hl hn0 hn1 hc
  clear hc hl
  go_enter Try.func45, Try.ntmps45
  go_wp2_with (go_at_call 46; refine H.mono ?_; rintro e w1 ⟨k, rfl, hx1, hC, hg⟩; clear H)
  go_ret
  exact ⟨_, rfl, hC, hg⟩

set_option maxHeartbeats 800000 in
theorem l3Var_any (v : Int) (w : World) : Calls Try.prog 77 #[.int .i64 v] w fun e w' => e = .returned (.agg #[.int .i64 (-1), .int .i64 v, .slice none 0 0]) ∧ Below w.heap.size w w' := by
  go_enter Try.func77, Try.ntmps77
  go_wp2
  exact bodyPost_ret (v := .agg #[.int .i64 (-1), .int .i64 v, .slice none 0 0]) (by simp [results, Try.results77, go_sem]) rfl ⟨rfl, (Below.refl _ _).alloc (Nat.le_refl _) _⟩

set_option maxHeartbeats 800000 in
theorem l3Of_any (f : Int) (a : Option Addr) (n c : Nat) (w : World) : Calls Try.prog 65 #[.int .i64 f, .slice a n c] w fun e w' => e = .returned (.agg #[.int .i64 f, .int .i64 0, .slice a n c]) ∧ Below w.heap.size w w' := by
  go_enter Try.func65, Try.ntmps65
  go_wp2
  exact bodyPost_ret (v := .agg #[.int .i64 f, .int .i64 0, .slice a n c]) (by simp [results, Try.results65, go_sem]) rfl ⟨rfl, (Below.refl _ _).alloc (Nat.le_refl _) _⟩

/-- What a draw of a term leaves: the term owns its memory; of what was there the cursor alone has turned. -/
structure DrawT (w : World) (c : Nat) (a : Option Addr) (bs : List Int) (cap N : Nat) (t : TermD) (ta : Option Addr) (tc : Nat) (w' : World) : Prop where
  own : OwnR w' (fun x => w.heap.size ≤ x ∧ x < w'.heap.size) ta tc t.kids
  le : t.kids.length ≤ tc
  wf : isW t.f ∧ isW t.v
  parts : partsT t ≤ N
  cur : Cur 91 w' c a bs cap
  st : Stay (fun k => k ≠ c) w w'

/-- While it goes on: the answer's place, the cursor. -/
structure DC (w : World) (c : Nat) (a : Option Addr) (bs : List Int) (cap : Nat) (wk : World) : Prop where
  r0 : wk.cell? ⟨w.heap.size, 0, none⟩ = some (.int .i64 0)
  r1 : wk.cell? ⟨w.heap.size, 1, none⟩ = some (.int .i64 0)
  r2 : wk.cell? ⟨w.heap.size, 2, none⟩ = some (.slice none 0 0)
  fr : ∀ j, wk.frozen? ⟨w.heap.size, j, none⟩ = false
  cur : Cur 91 wk c a bs cap
  st : Stay (fun k => k ≠ c) w wk
  lt : c < w.heap.size
  z : w.heap.size < wk.heap.size

theorem stay_of_grown {w w' : World} {c : Nat} (h : w.grownBy w' (some c)) : Stay (fun k => k ≠ c) w w' := .grown h (fun k e => by cases e; simp)
theorem DC.stay {w wk w1 : World} {c : Nat} {a : Option Addr} {bs : List Int} {cap : Nat} (h : DC w c a bs cap wk) (hs : Stay (fun k => k ≠ c) wk w1) (hc : Cur 91 w1 c a bs cap) : DC w c a bs cap w1 := by
  have hl := h.lt
  exact ⟨hs.cell h.r0 (by simp only; omega), hs.cell h.r1 (by simp only; omega), hs.cell h.r2 (by simp only; omega), fun j => (hs.frozen (p := ⟨w.heap.size, j, none⟩) h.z (by simp only; omega)).trans (h.fr j), hc, h.st.trans hs, hl, Nat.lt_of_lt_of_le h.z hs.size⟩
theorem DC.on {w wk w1 : World} {c : Nat} {a : Option Addr} {bs : List Int} {cap : Nat} (h : DC w c a bs cap wk) (hb : Below wk.heap.size wk w1) : DC w c a bs cap w1 :=
  h.stay (.of_below hb (fun _ hk _ => hk)) (h.cur.below hb)
theorem DC.start {w : World} {c : Nat} {a : Option Addr} {bs : List Int} {cap : Nat} (hc : Cur 91 w c a bs cap) : DC w c a bs cap (w.alloc (.cells #[.int .i64 0, .int .i64 0, .slice none 0 0] 43)) := by
  refine ⟨?_, ?_, ?_, fun j => ?_, hc.below ((Below.refl _ _).alloc (Nat.le_refl _) _), .alloc _ _ _, hc.lt, ?_⟩
  all_goals simp [go_sem]
/-- The answer is laid into its place. -/
theorem DC.fin {w wk : World} {c : Nat} {a : Option Addr} {bs : List Int} {cap N : Nat} {t : TermD} {ta : Option Addr} {tc : Nat} (h : DC w c a bs cap wk) (hbs : bs = [] ∨ ∀ x, a = some x → x.block < w.heap.size) (ho : OwnR wk (fun x => w.heap.size + 1 ≤ x ∧ x < wk.heap.size) ta tc t.kids) (hle : t.kids.length ≤ tc) (hwf : isW t.f ∧ isW t.v) (hp : partsT t ≤ N) :
    DrawT w c a bs cap N t ta tc (((wk.setCell ⟨w.heap.size, 0, none⟩ (.int .i64 t.f)).setCell ⟨w.heap.size, 1, none⟩ (.int .i64 t.v)).setCell ⟨w.heap.size, 2, none⟩ (.slice ta t.kids.length tc)) := by
  have hn : ¬ (w.heap.size + 1 ≤ w.heap.size ∧ w.heap.size < wk.heap.size) := by omega
  have hl := h.lt
  have hg : wk.grownBy (((wk.setCell ⟨w.heap.size, 0, none⟩ (.int .i64 t.f)).setCell ⟨w.heap.size, 1, none⟩ (.int .i64 t.v)).setCell ⟨w.heap.size, 2, none⟩ (.slice ta t.kids.length tc)) (some w.heap.size) := grown_then (grown_then (grown_set _ _ _ _) (grown_set _ _ _ _)) (grown_set _ _ _ _)
  refine ⟨(((ho.setCell ⟨w.heap.size, 0, none⟩ hn _).setCell ⟨w.heap.size, 1, none⟩ hn _).setCell ⟨w.heap.size, 2, none⟩ hn _).mono (fun x hx => ⟨by omega, by simpa using hx.2⟩), hle, hwf, hp, h.cur.grown hg hl (Nat.le_refl _) hbs, ?_⟩
  have h1 : Stay (fun k => k ≠ c ∧ k < w.heap.size) w _ := (h.st.weak (fun _ _ hk => hk.1)).trans (.grown hg (fun k e hk => by cases e; omega))
  exact h1.weak (fun k hk hk' => ⟨hk', hk⟩)

theorem fin_res {w wk : World} {c : Nat} {a : Option Addr} {bs : List Int} {cap : Nat} (h : DC w c a bs cap wk) (x y z : Value) : (((wk.setCell ⟨w.heap.size, 0, none⟩ x).setCell ⟨w.heap.size, 1, none⟩ y).setCell ⟨w.heap.size, 2, none⟩ z).cell? ⟨w.heap.size, 0, none⟩ = some x ∧ (((wk.setCell ⟨w.heap.size, 0, none⟩ x).setCell ⟨w.heap.size, 1, none⟩ y).setCell ⟨w.heap.size, 2, none⟩ z).cell? ⟨w.heap.size, 1, none⟩ = some y ∧ (((wk.setCell ⟨w.heap.size, 0, none⟩ x).setCell ⟨w.heap.size, 1, none⟩ y).setCell ⟨w.heap.size, 2, none⟩ z).cell? ⟨w.heap.size, 2, none⟩ = some z := set3_cells h.r0 h.r1 h.r2

set_option maxHeartbeats 3200000 in
set_option maxRecDepth 100000 in
theorem deep_zero (c : Nat) (a : Option Addr) (bs : List Int) (cap : Nat) (vars : Int) (w : World) (hl : bs.length ≤ 1048576) (hv0 : 0 ≤ vars) (hv1 : vars ≤ 256) (hc : Cur 91 w c a bs cap) (hbs : bs = [] ∨ ∀ x, a = some x → x.block < w.heap.size) :
    Calls Try.prog 52 #[.pointer (some ⟨c, 0, none⟩), .int .i64 0, .int .i64 vars] w fun e w' => ∃ t ta tc, e = .returned (.agg #[.int .i64 t.f, .int .i64 t.v, .slice ta t.kids.length tc]) ∧ DrawT w c a bs cap 1 t ta tc w' := by
  have D0 := DC.start hc
  have HB : Hid (bs = [] ∨ ∀ x, a = some x → x.block < w.heap.size) := hbs
  clear hc hbs
  by_cases hv : 0 < vars
  · go_enter Try.func52, Try.ntmps52
    go_wp2_with (first
      | (go_at_call 45; refine (once_any c a bs cap _ _ hl (by omega) (by omega) D0.cur).mono ?_; rintro e w1 ⟨b1, rfl, hC1, hg1⟩; have D1 := D0.stay (stay_of_grown hg1) hC1; clear hC1 hg1 D0)
      | (go_at_call 46; refine (below_any c a bs cap _ _ hl (by omega) (by omega) D1.cur).mono ?_; rintro e w2 ⟨k2, rfl, hk2, hC2, hg2⟩; have D2 := D1.stay (stay_of_grown hg2) hC2; have r0 := D2.r0; have r1 := D2.r1; have r2 := D2.r2; have fr := D2.fr; have hk2' : (k2 : Int) < 256 := (by omega); clear hC2 hg2 D1)
      | (go_at_call 77; refine (l3Var_any _ _).mono ?_; rintro e w3 ⟨rfl, hb3⟩; have D3 := D2.on hb3; clear r0 r1 r2 fr; have r0 := D3.r0; have r1 := D3.r1; have r2 := D3.r2; have fr := D3.fr; clear hb3 D2))
    all_goals
      first
      | (obtain ⟨z0, z1, z2⟩ := fin_res D3 (.int .i64 (-1)) (.int .i64 k2) (.slice none 0 0)
         exact bodyPost_ret (v := .agg #[.int .i64 (-1), .int .i64 k2, .slice none 0 0]) (by simp [results, Try.results52, go_sem, z0, z1, z2]) rfl ⟨.mk (-1) k2 [], none, 0, rfl, D3.fin (t := .mk (-1) k2 []) HB.out (.nil _) (Nat.le_refl _) (by simp only [TermD.f, TermD.v, isW]; omega) (by simp [partsT, partsL])⟩)
      | (obtain ⟨z0, z1, z2⟩ := fin_res D2 (.int .i64 (1 + k2)) (.int .i64 0) (.slice none 0 0)
         exact bodyPost_ret (v := .agg #[.int .i64 (1 + k2), .int .i64 0, .slice none 0 0]) (by simp [results, Try.results52, go_sem, z0, z1, z2]) rfl ⟨.mk (1 + k2) 0 [], none, 0, rfl, D2.fin (t := .mk (1 + k2) 0 []) HB.out (.nil _) (Nat.le_refl _) (by simp only [TermD.f, TermD.v, isW]; omega) (by simp [partsT, partsL])⟩)
  · have D1 := D0
    clear D0
    go_enter Try.func52, Try.ntmps52
    go_wp2_with (go_at_call 46; refine (below_any c a bs cap _ _ hl (by omega) (by omega) D1.cur).mono ?_; rintro e w2 ⟨k2, rfl, hk2, hC2, hg2⟩; have D2 := D1.stay (stay_of_grown hg2) hC2; have r0 := D2.r0; have r1 := D2.r1; have r2 := D2.r2; have fr := D2.fr; have hk2' : (k2 : Int) < 256 := (by omega); clear hC2 hg2 D1)
    first
    | (obtain ⟨z0, z1, z2⟩ := fin_res D3 (.int .i64 (-1)) (.int .i64 k2) (.slice none 0 0)
       exact bodyPost_ret (v := .agg #[.int .i64 (-1), .int .i64 k2, .slice none 0 0]) (by simp [results, Try.results52, go_sem, z0, z1, z2]) rfl ⟨.mk (-1) k2 [], none, 0, rfl, D3.fin (t := .mk (-1) k2 []) HB.out (.nil _) (Nat.le_refl _) (by simp only [TermD.f, TermD.v, isW]; omega) (by simp [partsT, partsL])⟩)
    | (obtain ⟨z0, z1, z2⟩ := fin_res D2 (.int .i64 (1 + k2)) (.int .i64 0) (.slice none 0 0)
       exact bodyPost_ret (v := .agg #[.int .i64 (1 + k2), .int .i64 0, .slice none 0 0]) (by simp [results, Try.results52, go_sem, z0, z1, z2]) rfl ⟨.mk (1 + k2) 0 [], none, 0, rfl, D2.fin (t := .mk (1 + k2) 0 []) HB.out (.nil _) (Nat.le_refl _) (by simp only [TermD.f, TermD.v, isW]; omega) (by simp [partsT, partsL])⟩)
end Go.Proofs.Ythbilahilmmfmaa

/- What the laws of the chapter on whole numbers draw: a list, a side, two sides. Conditions: the code has at most 1048576 bytes. -/
namespace Go.Proofs.Ythbilahilmmfmaa
set_option maxRecDepth 100000
open Go.RowKit

def dr5 (z : Int) : Prop := -3 ≤ z ∧ z ≤ 9
theorem Rd_newS {w : World} {a : Option Addr} {bs : List Int} (hr : ∀ c, w.heap.size ≤ c → RdB w c a bs) : bs = [] ∨ ∀ x, a = some x → x.block < w.heap.size := by
  rcases (hr _ (Nat.le_refl _)).2 with h | ⟨b, off, rfl, hlt, _⟩
  · exact .inl h
  · exact .inr fun x hx => by cases hx; exact hlt
theorem own_baseS {w : World} {base base' : Nat} {e : TypeId} {size g n c : Nat} {xs : List Value} (h : w.ownsRow base e size (.slice (some ⟨g, 0, none⟩) n c) n xs) (hb : base' ≤ base) : w.ownsRow base' e size (.slice (some ⟨g, 0, none⟩) n c) n xs := by
  obtain ⟨h1, h2⟩ := h
  refine ⟨h1, ?_⟩
  rcases h2 with ⟨h, _⟩ | ⟨g', cap, cur, h, hg, r⟩
  · simp at h
  · exact .inr ⟨g', cap, cur, h, by omega, r⟩
def sideList : List Int := [0, 4, 5, -1]
def listList : List Int := [0, 1, 2, 5, 9, -3]
set_option maxHeartbeats 3200000 in
theorem drawSide_any (c : Nat) (a : Option Addr) (bs : List Int) (cap : Nat) (w : World) (hl : bs.length ≤ 1048576) (hc : Cur 91 w c a bs cap) (hbs : bs = [] ∨ ∀ x, a = some x → x.block < w.heap.size) :
    Calls Try.prog 39 #[.pointer (some ⟨c, 0, none⟩)] w fun e w' => ∃ (g lc : Nat) (o : List Int), e = .returned (.slice (some ⟨g, 0, none⟩) o.length lc) ∧ 1 ≤ o.length ∧ o.length ≤ 4 ∧ (∀ z ∈ o, dr5 z) ∧ w'.ownsRow w.heap.size 3 1 (.slice (some ⟨g, 0, none⟩) o.length lc) o.length (ints o) ∧ Cur 91 w' c a bs cap ∧ w.grownBy w' (some c) := by
  obtain ⟨i0, hi, hz0, hz1, hz2⟩ := info_parts Try.info3
  have hclt := hc.lt
  go_enter Try.func39, Try.ntmps39
  go_wp2_with fail
  go_loopw [3, 4] (fun v i wr => ∃ (o : List Int) (g lc : Nat), o.length ≤ 3 ∧ i = .int .i64 o.length ∧ v = .slice (some ⟨g, 0, none⟩) o.length lc ∧ Hid (∀ z ∈ o, dr5 z) ∧ wr.ownsRow w.heap.size 3 1 (.slice (some ⟨g, 0, none⟩) o.length lc) o.length (ints o) ∧ Cur 91 wr c a bs cap ∧ w.grownBy wr (some c)) (fun _ i _ => 6 - (intOf i).toNat)
  case atStart => exact ⟨[], w.heap.size, 0, by simp, rfl, rfl, fun z hz => by simp at hz, World.ownsRow_made w #[] 0 (Nat.le_refl _) (Nat.zero_le _) rfl, hc.below ((Below.refl _ _).alloc (Nat.le_refl _) _), grown_alloc ⟨rfl, rfl, rfl, Nat.le_refl _, fun _ _ _ => rfl⟩ _⟩
  case round =>
    obtain ⟨o, g, lc, ho, rfl, rfl, HO, hown, hC, hg⟩ := hrel
    have H := below_any c a bs cap 3 wr hl (by omega) (by omega) hC
    have hgB : w.heap.size ≤ g := (hown.lt g rfl).1
    have hws := hg.size
    have hne : g ≠ c := by omega
    go_wp2_with (go_at_call 46; refine H.mono ?_; rintro e w1 ⟨k, rfl, hk, hC1, hg1⟩; clear H; have hown1 := hown.kept hg1 (.inr (by simp [Value.ownBlock, hne])); have hgr1 := grown_then hg hg1; clear hown hC hg hg1)
    · have hlt : (o.length : Int) < 1 + (k : Int) := by assumption
      have ho' : o.length ≤ 2 := by omega
      have hs1 := hgr1.size
      have H2 := below_any c a bs cap 3 w1 hl (by omega) (by omega) hC1
      go_wp2_with (first
        | (go_at_call 46; refine H2.mono ?_; rintro e w2 ⟨k2, rfl, hk2, hC2, hg2⟩; clear H2; have hown2 := hown1.kept hg2 (.inr (by simp [Value.ownBlock, hne])); have hgr2 := grown_then hgr1 hg2; have hs2 := hgr2.size; clear hown1 hC1 hgr1 hg2)
        | (at_builtin; refine wpList_append_own _ rfl (.tmp 13) (.tmp 17) 24 rfl w.heap.size 3 i0 (.int .i64 0) 1 8 Try.underlying24 hi hz0 hz1 hz2 rfl (by decide) _ o.length _ rfl (hown2.alloc _) ⟨w2.heap.size, 0, none⟩ 1 1 [.int .i64 (1 + (k2 : Int))] rfl rfl (one_new _ _ _) (one_cell _) (by unfold maxLen; omega) (by omega) (by simp; omega) ?_; intro v' w3 hown3 hgrow3 hnil3; obtain ⟨g3, c3, rfl⟩ := own_some hown3 hnil3; clear hnil3))
      have hgrow : (w2.alloc (.cells #[.int .i64 (1 + (k2 : Int))] 3)).grownBy w3 (some g) := hgrow3
      have R1 : w3.ownsRow w.heap.size 3 1 (.slice (some ⟨g3, 0, none⟩) (o ++ [(1 + (k2 : Int))]).length c3) (o ++ [(1 + (k2 : Int))]).length (ints (o ++ [(1 + (k2 : Int))])) := by simpa [ints] using hown3
      have R2 : Cur 91 w3 c a bs cap := (hC2.below ((Below.refl _ _).alloc (Nat.le_refl _) _)).grown hgrow hclt hgB hbs
      have R3 : w.grownBy w3 (some c) := grown_own (grown_alloc hgr2 _) hgrow hgB

      have R4 : Hid (∀ y ∈ o ++ [(1 + (k2 : Int))], dr5 y) := by
        intro y hy
        rcases List.mem_append.1 hy with hy | hy
        · exact HO.out y hy
        · simp at hy; subst hy
          unfold dr5; omega
      clear hown3 hgrow3 hgrow hC2 hgr2 hown2 HO
      go_roundw
      case rel => exact ⟨o ++ [(1 + (k2 : Int))], g3, c3, by simp; omega, by simp, by simp, R4, R1, R2, R3⟩
      case measure => simp [intOf]; omega
    · have hlt : ¬ (o.length : Int) < 1 + (k : Int) := by omega
      have ho1 : 1 ≤ o.length := by omega
      have hs1 := hgr1.size
      have H2 := once_any c a bs cap 12 w1 hl (by omega) (by omega) hC1
      go_wp2_with (go_at_call 45; refine H2.mono ?_; rintro e w2 ⟨b2, rfl, hC2, hg2⟩; clear H2; have hown2 := hown1.kept hg2 (.inr (by simp [Value.ownBlock, hne])); have hgr2 := grown_then hgr1 hg2; have hs2 := hgr2.size; clear hown1 hC1 hgr1 hg2)
      · go_wp2_with (first
          | (go_at_call 58; refine (pickInt_any _ _ _ _ _ _ sideList _ _ hl rfl (by decide) (by decide) (hC2.below ((Below.refl _ _).alloc (Nat.le_refl _) _)) (by simp) (Nat.ne_of_gt hC2.lt) (lit_cells w2 sideList)).mono ?_; rintro e w4 ⟨z, rfl, hz, hC4, hg4⟩; have hown4 := (hown2.alloc _).kept hg4 (.inr (by simp [Value.ownBlock, hne])); have hgr4 := grown_then (grown_alloc hgr2 _) hg4; have hs4 := hgr4.size; clear hown2 hC2 hgr2 hg4)
          | (at_builtin; refine wpList_append_own _ rfl (.tmp 21) (.tmp 25) 24 rfl w.heap.size 3 i0 (.int .i64 0) 1 8 Try.underlying24 hi hz0 hz1 hz2 rfl (by decide) _ o.length _ rfl (hown4.alloc _) ⟨w4.heap.size, 0, none⟩ 1 1 [.int .i64 z] rfl rfl (one_new _ _ _) (one_cell _) (by unfold maxLen; omega) (by omega) (by simp; omega) ?_; intro v' w3 hown3 hgrow3 hnil3; obtain ⟨g3, c3, rfl⟩ := own_some hown3 hnil3; clear hnil3))
        have hgrow : (w4.alloc (.cells #[.int .i64 z] 3)).grownBy w3 (some g) := hgrow3
        have R1 : w3.ownsRow w.heap.size 3 1 (.slice (some ⟨g3, 0, none⟩) (o ++ [z]).length c3) (o ++ [z]).length (ints (o ++ [z])) := by simpa [ints] using hown3
        have R2 : Cur 91 w3 c a bs cap := (hC4.below ((Below.refl _ _).alloc (Nat.le_refl _) _)).grown hgrow hclt hgB hbs
        have R3 : w.grownBy w3 (some c) := grown_own (grown_alloc hgr4 _) hgrow hgB

        have R4 : ∀ y ∈ o ++ [z], dr5 y := by
          intro y hy
          rcases List.mem_append.1 hy with hy | hy
          · exact HO.out y hy
          · simp at hy; subst hy
            simp [sideList] at hz
            unfold dr5; omega
        clear hown3 hgrow3 hgrow hC4 hgr4 hown4 HO
        go_ret
        exact ⟨g3, c3, o ++ [z], by simp, by simp, by simp; omega, R4, R1, R2, R3⟩
      · go_ret
        exact ⟨g, lc, o, rfl, ho1, by omega, HO.out, hown2, hC2, hgr2⟩
theorem own_rdS {w : World} {base g c n : Nat} {zs : List Int} (hn : n = zs.length) (h : w.ownsRow base 3 1 (.slice (some ⟨g, 0, none⟩) n c) n (ints zs)) : Rd w (some ⟨g, 0, none⟩) zs := Rd.own hn h
set_option maxHeartbeats 1600000 in
theorem drawBasis_any (a : Option Addr) (bs : List Int) (cap : Nat) (w : World) (hl : bs.length ≤ 1048576) (hr : ∀ c, w.heap.size ≤ c → RdB w c a bs) :
    Calls Try.prog 8 #[.slice a bs.length cap] w fun e w' => ∃ (g lc : Nat) (o : List Int) (g' lc' : Nat) (o' : List Int), e = .returned (.tuple #[.slice (some ⟨g, 0, none⟩) o.length lc, .slice (some ⟨g', 0, none⟩) o'.length lc']) ∧ (1 ≤ o.length ∧ o.length ≤ 4 ∧ ∀ z ∈ o, dr5 z) ∧ (1 ≤ o'.length ∧ o'.length ≤ 4 ∧ ∀ z ∈ o', dr5 z) ∧ Rd w' (some ⟨g, 0, none⟩) o ∧ Rd w' (some ⟨g', 0, none⟩) o' ∧ Below w.heap.size w w' := by
  have H := new_any a bs _ cap w rfl hl hr
  have hbs := Rd_newS hr
  clear hr
  go_enter Try.func8, Try.ntmps8
  go_wp2_with (go_at_call 38; refine H.mono ?_; rintro e w1 ⟨rfl, hC, hb⟩; clear H)
  have D1 := drawSide_any _ a bs cap w1 hl hC (hbs.imp id fun h x hx => Nat.lt_of_lt_of_le (h x hx) hb.size)
  go_wp2_with (go_at_call 39; refine D1.mono ?_; rintro e w2 ⟨g, lc, o, rfl, h1, h2, h3, h4, h5, h6⟩; clear D1)
  have hB2 : Below w.heap.size w w2 := hb.trans (grown_below h6 hb.size (Nat.le_refl _))
  have D2 := drawSide_any _ a bs cap w2 hl h5 (hbs.imp id fun h x hx => Nat.lt_of_lt_of_le (h x hx) hB2.size)
  have hgw := h4.lt g rfl
  have hwc := hC.lt
  have hw1 := hb.size
  have hlc : lc = lc := rfl
  have HO1 : Hid _ := h4
  have HO3 : Hid _ := h3
  clear h4 h3
  go_wp2_with (go_at_call 39; refine D2.mono ?_; rintro e w3 ⟨g', lc', o', rfl, k1, k2, k3, k4, k5, k6⟩; clear D2)
  exact bodyPost_ret (v := .tuple #[.slice (some ⟨g, 0, none⟩) o.length lc, .slice (some ⟨g', 0, none⟩) o'.length lc']) (by simp [results, Try.results8, go_sem]) rfl ⟨g, lc, o, g', lc', o', rfl, ⟨h1, h2, HO3.out⟩, ⟨k1, k2, k3⟩, own_rdS rfl ((show w2.ownsRow w1.heap.size 3 1 (.slice (some ⟨g, 0, none⟩) o.length lc) o.length (ints o) from HO1.out).kept k6 (.inr (by simp [Value.ownBlock]; omega))), own_rdS rfl k4, hB2.trans (grown_below k6 hB2.size (Nat.le_refl _))⟩

/- Sums of what solves solve, as plain mathematics; and the law's byte of the code. Conditions: as each says. -/
namespace Go.Proofs.Ythbilahilmmfmaa
set_option maxRecDepth 100000
open Go.RowKit

/-- A sum of products over what a function tells. -/
def dotF : List Int → (Nat → Int) → Int
  | [], _ => 0
  | p :: a, f => p * f 0 + dotF a (fun i => f (i + 1))
theorem dot_F : ∀ (a x : List Int) (f : Nat → Int), a.length ≤ x.length → (∀ i, (h : i < a.length) → (h' : i < x.length) → x[i] = f i) → dotL a x = dotF a f
  | [], x, f, _, _ => by simp [dotL, dotF]
  | p :: a, [], f, h, _ => by simp at h
  | p :: a, q :: x, f, h, hf => by
    rw [dot_cons, dotF, dot_F a x (fun i => f (i + 1)) (by simpa using h) (fun i h1 h2 => by have := hf (i + 1) (by simp; omega) (by simp; omega); simpa using this)]
    have := hf 0 (by simp) (by simp)
    simp at this
    rw [this]
theorem dotF_add (a : List Int) : ∀ (f g : Nat → Int), dotF a (fun i => f i + g i) = dotF a f + dotF a g := by
  induction a with
  | nil => intro f g; rfl
  | cons p a ih => intro f g; simp only [dotF]; rw [ih (fun i => f (i + 1)) (fun i => g (i + 1)), Int.mul_add]; omega
theorem dotF_zero (a : List Int) : dotF a (fun _ => 0) = 0 := by
  induction a with
  | nil => rfl
  | cons p a ih => simp only [dotF]; rw [ih]; omega
theorem dotF_same (a : List Int) : ∀ (f g : Nat → Int), (∀ i, i < a.length → f i = g i) → dotF a f = dotF a g := by
  induction a with
  | nil => intro f g _; rfl
  | cons p a ih => intro f g h; simp only [dotF]; rw [h 0 (by simp), ih _ _ (fun i hi => h (i + 1) (by simp; omega))]
/-- A row that solves, each count from 0 to 4. -/
def OkRow (a b : List Int) (r : List Int) : Prop := r.length = a.length + b.length ∧ (∀ v ∈ r, 0 ≤ v ∧ v ≤ 4) ∧ dotL a r = dotL b (r.drop a.length)
theorem sumAt_snoc (S : List (List Int)) (r : List Int) (k : Nat) : sumAt (S ++ [r]) k = sumStep k (sumAt S k) r := by unfold sumAt; rw [List.foldl_append]; rfl
/-- Each place of the sum is small, and both sums of products are one. -/
theorem sums_ok (a b : List Int) : ∀ (S : List (List Int)), S.length ≤ 200 → (∀ r ∈ S, OkRow a b r) →
    (∀ k, 0 ≤ sumAt S k ∧ sumAt S k ≤ 4 * S.length) ∧ dotF a (sumAt S) = dotF b (fun i => sumAt S (a.length + i)) := by
  intro S
  obtain ⟨n, hn⟩ : ∃ n, n = S.length := ⟨_, rfl⟩
  induction n generalizing S with
  | zero =>
    intro _ _
    obtain rfl : S = [] := List.length_eq_zero_iff.1 hn.symm
    refine ⟨fun k => by simp [sumAt], ?_⟩
    show dotF a (fun _ => 0) = dotF b (fun _ => 0)
    rw [dotF_zero, dotF_zero]
  | succ n ih =>
    intro hl hr
    obtain ⟨S, r, rfl⟩ : ∃ S' r, S = S' ++ [r] := by
      rcases List.eq_nil_or_concat S with h | ⟨L, b, h⟩
      · rw [h] at hn; simp at hn
      · exact ⟨L, b, by simpa using h⟩
    obtain ⟨ih1, ih2⟩ := ih S (by simp at hn; omega) (by simp at hl; omega) (fun x hx => hr x (by simp [hx]))
    obtain ⟨h1, h2, h3⟩ := hr r (by simp)
    have hl' : S.length ≤ 199 := by simp at hl; omega
    have hstep : ∀ k, sumAt (S ++ [r]) k = sumAt S k + r[k]?.getD 0 := by
      intro k
      rw [sumAt_snoc]
      unfold sumStep
      have q := ih1 k
      by_cases hk : k < r.length
      · rw [dif_pos hk, List.getElem?_eq_getElem hk, Option.getD_some]
        have q2 := h2 r[k] (List.getElem_mem hk)
        unfold wrap64
        omega
      · rw [dif_neg hk, List.getElem?_eq_none (by omega)]
        simp
    refine ⟨fun k => ?_, ?_⟩
    · rw [hstep]
      have q := ih1 k
      by_cases hk : k < r.length
      · rw [List.getElem?_eq_getElem hk, Option.getD_some]
        have q2 := h2 r[k] (List.getElem_mem hk)
        simp only [List.length_append, List.length_singleton]
        omega
      · rw [List.getElem?_eq_none (by omega)]
        simp only [List.length_append, List.length_singleton, Option.getD_none]
        omega
    · have e1 : dotF a (sumAt (S ++ [r])) = dotF a (sumAt S) + dotL a r := by
        rw [dot_F a r (fun i => r[i]?.getD 0) (by omega) (fun i h h' => by rw [List.getElem?_eq_getElem h', Option.getD_some]), ← dotF_add]
        exact dotF_same _ _ _ (fun i _ => hstep i)
      have e2 : dotF b (fun i => sumAt (S ++ [r]) (a.length + i)) = dotF b (fun i => sumAt S (a.length + i)) + dotL b (r.drop a.length) := by
        rw [dot_F b (r.drop a.length) (fun i => r[a.length + i]?.getD 0) (by simp; omega) (fun i h h' => by rw [List.getElem_drop]; simp at h'; rw [List.getElem?_eq_getElem (by omega), Option.getD_some]), ← dotF_add]
        exact dotF_same _ _ _ (fun i _ => hstep (a.length + i))
      rw [e1, e2, ih2, h3]
/-- What the program sums up solves. -/
theorem sum_solves {a b : List Int} {S : List (List Int)} (ha : 1 ≤ a.length) (h5 : a.length + b.length ≤ 10) (hS : S.length ≤ 200) (hr : ∀ r ∈ S, OkRow a b r) :
    (sumL S ((a.length : Int) + (b.length : Int))).length = a.length + b.length ∧ smallL (sumL S ((a.length : Int) + (b.length : Int))) ∧ solvB a b (sumL S ((a.length : Int) + (b.length : Int))) = true := by
  obtain ⟨h1, h2⟩ := sums_ok a b S hS hr
  have e : sumL S ((a.length : Int) + (b.length : Int)) = (List.range (a.length + b.length)).map (sumAt S) := by
    unfold sumL
    rw [if_pos (by omega), show ((a.length : Int) + (b.length : Int)).toNat = a.length + b.length by omega]
  rw [e]
  have hlen : ((List.range (a.length + b.length)).map (sumAt S)).length = a.length + b.length := by simp
  have hv : ∀ v ∈ (List.range (a.length + b.length)).map (sumAt S), 0 ≤ v ∧ v ≤ 800 := by
    intro v hv
    obtain ⟨k, _, rfl⟩ := List.mem_map.1 hv
    have := h1 k
    omega
  refine ⟨hlen, fun v h => by have := hv v h; omega, ?_⟩
  unfold solvB
  rw [decide_eq_true hlen, Bool.true_and, Bool.and_eq_true]
  refine ⟨List.all_eq_true.2 (fun v h => by simpa using (hv v h).1), ?_⟩
  rw [decide_eq_true_eq, dot_F a _ (sumAt S) (by omega) (fun i _ _ => by simp), dot_F b _ (fun i => sumAt S (a.length + i)) (by simp) (fun i _ h' => by rw [List.getElem_drop]; simp)]
  exact h2
theorem mem_sumS : ∀ (l : List Int), (∀ v ∈ l, 0 ≤ v) → ∀ v ∈ l, v ≤ l.sum
  | [], _, v, h => by simp at h
  | x :: l, h0, v, h => by
    have hs : 0 ≤ l.sum := by
      have : ∀ (l : List Int), (∀ v ∈ l, 0 ≤ v) → 0 ≤ l.sum := by
        intro l
        induction l with
        | nil => intro _; simp
        | cons y l ih => intro q; have := q y (by simp); have := ih (fun v hv => q v (by simp [hv])); simp; omega
      exact this l (fun v hv => h0 v (by simp [hv]))
    have hx := h0 x (by simp)
    simp only [List.sum_cons]
    rcases List.mem_cons.1 h with rfl | h
    · omega
    · have := mem_sumS l (fun v hv => h0 v (by simp [hv])) v h
      omega
/-- Each of a basis solves. -/
theorem bas_row {a b : List Int} (ha : fineB a = true) (hb : fineB b = true) : ∀ r ∈ solL a b, OkRow a b r := by
  intro r hr
  have hl := solL_len a b r hr
  obtain ⟨x, y, rfl, hx, hy, ho⟩ := sol_mem hr
  have hxl := waysL_len _ _ x hx
  refine ⟨hl, fun v hv => ?_, ?_⟩
  · have fa := fine_len ha
    have fb := fine_len hb
    have ta := top_fine a 0 (by omega) (by omega) fa.2.2
    have tb' := top_fine b 0 (by omega) (by omega) fb.2.2
    rcases List.mem_append.1 hv with h | h
    · have q := waysL_nonneg _ _ x hx
      have q2 := mem_sumS x q.1 v h
      have q3 : (topL b).toNat ≤ 4 := by unfold topL; omega
      exact ⟨q.1 v h, by omega⟩
    · have q := waysL_nonneg _ _ y hy
      have q2 := mem_sumS y q.1 v h
      have q3 : (topL a).toNat ≤ 4 := by unfold topL; omega
      exact ⟨q.1 v h, by omega⟩
  · have e1 : dotL a (x ++ y) = dotL a x := by
      rw [dot_F a (x ++ y) (fun i => x[i]?.getD 0) (by simp; omega) (fun i h h' => by rw [List.getElem_append_left (by omega), List.getElem?_eq_getElem (by omega), Option.getD_some]), dot_F a x (fun i => x[i]?.getD 0) (by omega) (fun i h h' => by rw [List.getElem?_eq_getElem h', Option.getD_some])]
    rw [e1, ← hxl, List.drop_left]
    unfold okB at ho
    simp only [Bool.and_eq_true, decide_eq_true_eq] at ho
    exact ho.1.symm
end Go.Proofs.Ythbilahilmmfmaa

/- A byte of the code by its number; a basis' rows; what is drawn for the sums. Conditions: the code has at most 1048576 bytes. -/
namespace Go.Proofs.Ythbilahilmmfmaa
set_option maxRecDepth 100000
open Go.RowKit

def atV (bs : List Int) (i : Nat) : Int := if h : i < bs.length then bs[i] else ((i : Int) * 7 + (bs.length : Int)) % 256
theorem atV_ge (bs : List Int) (i : Nat) (h : ∀ z ∈ bs, 0 ≤ z ∧ z ≤ 255) : 0 ≤ atV bs i ∧ atV bs i ≤ 255 := by
  unfold atV
  split
  · exact h _ (List.getElem_mem _)
  · omega
set_option maxHeartbeats 1600000 in
theorem at_any (c0 : Nat) (a : Option Addr) (bs : List Int) (cap i : Nat) (w : World) (hl : bs.length ≤ 1048576) (hr : RdB w c0 a bs) (hi : i ≤ 100000) :
    Calls Try.prog 21 #[.slice a bs.length cap, .int .i64 i] w fun e w' => e = .returned (.int .i64 (atV bs i)) ∧ w' = w := by
  obtain ⟨hz, hrr⟩ := hr
  by_cases h : i < bs.length
  · have hii : (i : Int) < (bs.length : Int) := by omega
    have hi0 : (0 : Int) ≤ (i : Int) := by omega
    have HE : Hid (atV bs i = bs[i]) := by show _ = _; unfold atV; rw [dif_pos h]
    have hb := hz bs[i] (List.getElem_mem h)
    rcases hrr with h' | ⟨b, off, rfl, hlt, hne, hcs⟩
    · rw [h'] at h; simp at h
    · have hc := hcs i h
      rw [List.getElem?_eq_getElem h, Option.getD_some] at hc
      clear hcs hz
      generalize bs[i] = z at hc HE hb
      have hw : IntKind.i64.wrap z = z := by rw [IntKind.wrap_i64]; omega
      go_enter Try.func21, Try.ntmps21
      go_wp2_with fail
      go_ret
      exact ⟨by rw [HE.out]; simp, rfl⟩
  · have hii : ¬ (i : Int) < (bs.length : Int) := by omega
    have HE : Hid (atV bs i = ((i : Int) * 7 + (bs.length : Int)) % 256) := by show _ = _; unfold atV; rw [dif_neg h]
    have hw1 : IntKind.i64.wrap ((i : Int) * 7) = (i : Int) * 7 := by rw [IntKind.wrap_i64]; omega
    have hw2 : IntKind.i64.wrap ((i : Int) * 7 + (bs.length : Int)) = (i : Int) * 7 + (bs.length : Int) := by rw [IntKind.wrap_i64]; omega
    have hw3 : ((i : Int) * 7 + (bs.length : Int)).tmod 256 = ((i : Int) * 7 + (bs.length : Int)) % 256 := Int.tmod_eq_emod_of_nonneg (by omega)
    clear hz hrr
    go_enter Try.func21, Try.ntmps21
    go_wp2_with fail
    go_ret
    exact ⟨by rw [HE.out]; first | rfl | (rw [← hw3]) | (simp; omega), rfl⟩
theorem basP_ok {a b : List Int} (h : (basP a b).2 = true) : (1 ≤ a.length ∧ a.length ≤ 5 ∧ 1 ≤ b.length ∧ b.length ≤ 5 ∧ (∀ v ∈ a, 1 ≤ v ∧ v ≤ 4) ∧ ∀ v ∈ b, 1 ≤ v ∧ v ≤ 4) ∧ (basP a b).1.length ≤ 60 ∧ ∀ r ∈ (basP a b).1, OkRow a b r := by
  unfold basP at h ⊢
  by_cases hf : (fineB a && fineB b) = true
  · have hf2 := hf
    simp only [Bool.and_eq_true] at hf2
    have fa := fine_len hf2.1
    have fb := fine_len hf2.2
    rw [if_pos hf] at h ⊢
    by_cases hl : 60 < (basL a b).length
    · rw [if_pos hl] at h; cases h
    · rw [if_neg hl]
      refine ⟨⟨fa.1, fa.2.1, fb.1, fb.2.1, fa.2.2, fb.2.2⟩, by show (basL a b).length ≤ 60; omega, fun r hr => bas_row hf2.1 hf2.2 r (List.mem_filter.1 (show r ∈ (solL a b).filter (minB (solL a b)) from hr)).1⟩
  · rw [if_neg hf] at h; cases h
/-- While the law puts ways together: the rows lie in memory that was there ahead of the loop. -/
structure BS (B : Nat) (wB : World) (R : List (List Int)) (g c : Nat) (vs : List Value) (S : List (List Int)) (W : World) : Prop where
  own : W.ownsRow B 24 1 (.slice (some ⟨g, 0, none⟩) S.length c) S.length vs
  rows : RowsV (fun x => x < B) wB vs S
  sub : ∀ r ∈ S, r ∈ R
  bel : Below B wB W
theorem BS.rd {B : Nat} {wB : World} {R : List (List Int)} {g c : Nat} {vs : List Value} {S : List (List Int)} {W : World} (h : BS B wB R g c vs S W) : RdQ W (some ⟨g, 0, none⟩) S :=
  (RowsV.rd (S' := fun _ => True) rfl h.own (h.rows.grow (S' := fun x => x < B) (T := fun x => x < B) (Stay.of_below h.bel (fun _ _ q => q)) (fun _ q _ => q) (fun _ q _ => q)) trivial (fun _ _ => trivial)).rd
end Go.Proofs.Ythbilahilmmfmaa

/- The specification's Norm: it makes one form of a term, in memory of its own. Conditions: terms of at most 549755813888 parts, at most 1048577 functions. -/
namespace Go.Proofs.Ythbilahilmmfmaa
set_option maxRecDepth 100000
open Go.RowKit

theorem fe_snoc (L : List FE) (e : FE) : (L ++ [e]).map FE.t = L.map FE.t ++ [e.t] := by simp

/-- A term that a call has just made is a forest of one. -/
theorem fe_one {w : World} {t : TermD} {a : Option Addr} {c n B : Nat} (h : OwnR w (fun x => n ≤ x ∧ x < w.heap.size) a c t.kids) (hc : t.kids.length ≤ c) (hf : isW t.f) (hv : isW t.v) (hB : B ≤ n) : Forest w B [⟨t, a, c, fun x => n ≤ x ∧ x < w.heap.size⟩] :=
  ⟨fun e he => by simp only [List.mem_singleton] at he; subst he; exact ⟨h, hc, ⟨hf, hv⟩, fun x hx => ⟨by omega, hx.2⟩⟩, by simp⟩

theorem NR.start (w : World) (B : Nat) : NR B [] [] none 0 w := ⟨World.ownsRow_nil w B 43 3, .nil _ _, fun g hg => by cases hg⟩
theorem NR.join {B : Nat} {L : List FE} {av : Option Addr} {cv : Nat} {wr w1 : World} (h : NR B L [] av cv wr) (hb : Below wr.heap.size wr w1) {M : List FE} (hm : Forest w1 B M) (hM : ∀ e ∈ M, ∀ x, e.K x → wr.heap.size ≤ x) : NR B L M av cv w1 := by
  have h1 := h.on hb
  refine ⟨h1.row, (by simpa using h1.fo : Forest w1 B L).append hm (fun e he d hd x hx hy => ?_), fun g hg d hd hx => ?_⟩
  · have := ((h.fo.own e (by simpa using he)).2.2.2 x hx).2
    have := hM d hd x hy
    omega
  · rcases List.mem_append.1 hd with hd | hd
    · exact h.ap g hg d (by simpa using hd) hx
    · have := (h.row.lt g hg).2
      have := hM d hd g hx
      omega

set_option maxHeartbeats 6400000 in
set_option maxRecDepth 100000 in
theorem specNorm_any (ss : List SymD) (sa : Option Addr) (sc : Nat) (hsl : ss.length ≤ 1048577) (N : Nat) : ∀ (t : TermD) (a : Option Addr) (c hi : Nat) (w : World), partsT t ≤ N → N ≤ 549755813888 → RdK w hi a t.kids → hi ≤ w.heap.size → isW t.f → isW t.v → RdS w sa ss →
    Calls Try.prog 29 #[.slice sa ss.length sc, .agg #[.int .i64 t.f, .int .i64 t.v, .slice a t.kids.length c]] w fun e w' => ∃ a' c', e = .returned (.agg #[.int .i64 t.f, .int .i64 t.v, .slice a' (normT (blindAt ss) t).kids.length c']) ∧ OwnR w' (fun x => w.heap.size ≤ x ∧ x < w'.heap.size) a' c' (normT (blindAt ss) t).kids ∧ (normT (blindAt ss) t).kids.length ≤ c' ∧ Below w.heap.size w w' := by
  induction N with
  | zero => intro t a c hi w h; rw [partsT_eq] at h; omega
  | succ N ih =>
    intro t a c hi w hN hM hr hhi hfw hvw hrs
    rw [partsT_eq] at hN
    obtain ⟨i0, hi0, hz0, hz1, hz2⟩ := info_parts info29
    have hKk : (normT (blindAt ss) t).kids = normL (blindAt ss) t.f t.kids [] := by rw [normT_eq]; rfl
    rw [hKk]
    clear hKk
    have hlen := partsL_len t.kids
    have HR : Hid (RdK w hi a t.kids) := hr
    have HS : Hid (RdS w sa ss) := hrs
    have BL := fun (w' : World) (h : RdS w' sa ss) => specBlind_any sa ss ss.length sc t.f w' rfl h hsl hfw.1 hfw.2
    have HW : Hid (isW t.f ∧ isW t.v) := ⟨hfw, hvw⟩
    clear hr hrs hfw hvw
    have C0 : NC w t a c (.slice none 0 0) (((w.alloc (.cells #[.int .i64 t.f, .int .i64 t.v, .slice a t.kids.length c] 43)).alloc (.cells #[.int .i64 0, .int .i64 0, .slice none 0 0] 43)).alloc (.cells #[.int .i64 t.f, .int .i64 t.v, .slice none 0 0] 43)) := by
      refine ⟨?_, ?_, ?_, ?_, ?_, ?_, ?_, ?_, fun j => ?_, fun j => ?_, (((Below.refl _ _).alloc (Nat.le_refl _) _).alloc (by simp) _).alloc (by simp; omega) _, ?_⟩
      all_goals simp [go_sem]
    go_enter Try.func29, Try.ntmps29
    go_wp2_with fail
    go_loopw [6] (fun i wr => ∃ (k : Nat) (L : List FE) (av : Option Addr) (cv : Nat), k ≤ t.kids.length ∧ i = .int .i64 k ∧ NC w t a c (.slice av L.length cv) wr ∧ NR (w.heap.size + 1 + 1 + 1) L [] av cv wr ∧ Hid (L.map FE.t = normL (blindAt ss) t.f (t.kids.take k) [])) (fun i _ => t.kids.length - (intOf i).toNat)
    case atStart => exact ⟨0, [], none, 0, Nat.zero_le _, rfl, C0, NR.start _ _, by show _ = _; simp [normL]⟩
    case round =>
      obtain ⟨k, L, av, cv, hk, rfl, C, R, HL⟩ := hrel
      clear C0
      have p0 := C.p0
      have p2 := C.p2
      have hz := C.z
      by_cases hk' : k < t.kids.length
      · obtain ⟨b, off, a', c', rfl, hlt, d0, d1, d2, hkr⟩ := RdK.kid (HR.out.on (C.bel.mono hhi)) hk'
        have hints := HR.out.ints hk'
        have hpg := partsL_get hk'
        have hki : (k : Int) < (t.kids.length : Int) := by omega
        have hki0 : (0 : Int) ≤ (k : Int) := by omega
        have I := ih t.kids[k] a' c' hi wr (by omega) (by omega) hkr (Nat.le_trans hhi C.bel.size) hints.1 hints.2 (HS.out.below C.bel)
        have HLk : Hid (normL (blindAt ss) t.f (t.kids.take (k + 1)) [] = stepN (blindAt ss t.f) t.f (normT (blindAt ss) t.kids[k]) (L.map FE.t)) := by
          show _ = _
          rw [normL_next _ _ hk', HL.out]
        have hLl : L.length ≤ 549755813888 := by
          have h1 := normL_parts (blindAt ss) t.f (t.kids.take k) []
          have h2 := partsL_take t.kids k
          have h3 := partsL_len (L.map FE.t)
          rw [HL.out] at h3
          simp [partsL, HL.out.symm] at h1 h3
          omega
        obtain ⟨K1, hK1⟩ : ∃ K1, K1 = normT (blindAt ss) t.kids[k] := ⟨_, rfl⟩
        have HK1f : Hid (K1.f = t.kids[k].f ∧ K1.v = t.kids[k].v ∧ partsT K1 ≤ 549755813888) := by
          have h1 := normT_parts (blindAt ss) t.kids[k]
          rw [← hK1] at h1
          refine ⟨by rw [hK1, normT_eq]; rfl, by rw [hK1, normT_eq]; rfl, by omega⟩
        rw [← hK1] at I HLk
        have hK1f := HK1f.out.1
        have hK1v := HK1f.out.2.1
        rw [← hK1f] at d0 I
        rw [← hK1v] at d1 I
        have HKp : Hid (partsT K1 ≤ partsT t.kids[k]) := by show _ ≤ _; rw [hK1]; exact normT_parts _ _
        have HIf : Hid (isW K1.f ∧ isW K1.v) := by show isW K1.f ∧ isW K1.v; rw [hK1f, hK1v]; exact hints
        clear hK1 hkr hints hK1f hK1v
        cases hbl : blindAt ss t.f with
        | false =>
          rw [hbl] at BL HLk
          clear hbl
          go_wp2_with (first
            | (go_at_call 29; refine I.mono ?_; rintro e1 w1 ⟨a1, c1, rfl, o1, hle1, hb1⟩; clear I p0 p2 d0 d1 d2; have C1 := C.on hb1; have R1 := R.join hb1 (fe_one o1 hle1 HIf.out.1 HIf.out.2 (Nat.le_of_lt_succ (by omega))) (fun e he x hx => by simp only [List.mem_singleton] at he; subst he; exact hx.1); have C3 := (C1.on ((Below.refl w1.heap.size w1).alloc (Nat.le_refl _) (.cells #[.int .i64 K1.f, .int .i64 K1.v, .slice a1 K1.kids.length c1] 43))).on ((Below.refl _ _).alloc (Nat.le_refl _) (.cells #[.int .i64 K1.f, .int .i64 K1.v, .slice a1 K1.kids.length c1] 43)); have R3 := (R1.on ((Below.refl w1.heap.size w1).alloc (Nat.le_refl _) (.cells #[.int .i64 K1.f, .int .i64 K1.v, .slice a1 K1.kids.length c1] 43))).on ((Below.refl _ _).alloc (Nat.le_refl _) (.cells #[.int .i64 K1.f, .int .i64 K1.v, .slice a1 K1.kids.length c1] 43)); have p0 := C1.p0; have p2 := C1.p2; have q2 := C1.q2; have y0 := C1.z; have y1 : w.heap.size + 1 < w1.heap.size := (by omega); have y2 : w.heap.size < w1.heap.size := (by omega); clear C R R1 hb1 o1 hz)
            | (go_at_call 62; refine (BL _ ?_).mono ?_; exact (HS.out.below (C1.bel.alloc C1.bel.size _)); rintro e2 w2 ⟨rfl, hw⟩; subst w2)
            | (at_builtin; (refine wpList_append_own_at _ rfl (.tmp 51) (.tmp 53) 41 rfl (w.heap.size + 1 + 1 + 1) 43 i0 _ 3 40 Try.underlying41 hi0 hz0 hz1 hz2 rfl (by decide) _ L.length _ rfl R3.row ⟨w1.heap.size + 1, 0, none⟩ 1 1 _ rfl rfl (three_new _ _ _ _ _ _ (by simp)) (three_cell _ _ _ _ _) (by unfold maxLen; omega) (by omega) (by simp; omega) ?_; intro v4 w4 hown4 hgrow4 hnil4 hat4; clear hnil4; have hg4 : ((w1.alloc (.cells #[.int .i64 K1.f, .int .i64 K1.v, .slice a1 K1.kids.length c1] 43)).alloc (.cells #[.int .i64 K1.f, .int .i64 K1.v, .slice a1 K1.kids.length c1] 43)).grownBy w4 (Value.slice av L.length cv).ownBlock := hgrow4; have hat5 : v4.ownBlock = (Value.slice av L.length cv).ownBlock ∨ v4.ownBlock = some ((w1.alloc (.cells #[.int .i64 K1.f, .int .i64 K1.v, .slice a1 K1.kids.length c1] 43)).alloc (.cells #[.int .i64 K1.f, .int .i64 K1.v, .slice a1 K1.kids.length c1] 43)).heap.size := hat4; have C4 := C3.stay (.grown hg4 (fun k e hk => by have := (R3.row.lt k e).1; omega)); obtain ⟨g4, c4, rfl, R4⟩ := R3.app hg4 hown4 hat5; have q4 := C4.q2; have f4 := C4.fq 2; clear hgrow4 hat4 hg4 hat5 hown4 C3 R3 p0 p2 q2)))
          refine ⟨⟨k + 1, L ++ [⟨K1, a1, c1, fun x => wr.heap.size ≤ x ∧ x < w1.heap.size⟩], some ⟨g4, 0, none⟩, c4, by omega, by go_num, by simpa using C4.set (.slice (some ⟨g4, 0, none⟩) (L.length + 1) c4), R4.set _ (by simp only; omega), ?_⟩, by simp [intOf]; omega⟩
          show _ = _
          rw [fe_snoc, HLk.out]
          simp [stepN]
        | true =>
          rw [hbl] at BL HLk
          clear hbl
          by_cases hkf : K1.f = t.f
          · have hkf' : (K1.f != t.f) = false := by simp [hkf]
            have HLs : Hid (stepN true t.f K1 (L.map FE.t) = K1.kids.foldl (fun o x => putT x o) (L.map FE.t)) := by show _ = _; simp [stepN, hkf]
            clear hkf
            go_wp2_with (first
              | (go_at_call 29; refine I.mono ?_; rintro e1 w1 ⟨a1, c1, rfl, o1, hle1, hb1⟩; clear I p0 p2 d0 d1 d2; have C1 := C.on hb1; obtain ⟨F, hFt, hFf, hFK, hFc⟩ := OwnR.forest (B := w.heap.size + 1 + 1 + 1) o1 (fun x hx => ⟨by omega, hx.2⟩); have R1 := R.join hb1 hFf (fun e he x hx => (hFK e he x hx).1); have hbk : Below w1.heap.size w1 (w1.alloc (.cells #[.int .i64 K1.f, .int .i64 K1.v, .slice a1 K1.kids.length c1] 43)) := ((Below.refl w1.heap.size w1).alloc (Nat.le_refl _) _); have C3 := C1.on hbk; have R3 := R1.on hbk; have p0 := C1.p0; have p2 := C1.p2; have q2 := C1.q2; have y0 := C1.z; have y1 : w.heap.size + 1 < w1.heap.size := (by omega); have y2 : w.heap.size < w1.heap.size := (by omega); have HFc : Hid _ := hFc; have HFt : Hid _ := hFt; clear C R R1 hb1 o1 hFf hFK hFc hFt)
              | (go_at_call 62; refine (BL _ ?_).mono ?_; exact (HS.out.below (C1.bel.alloc C1.bel.size _)); rintro e2 w2 ⟨rfl, hw⟩; subst w2))
            have HB : Hid (partsL (L.map FE.t) + partsL K1.kids ≤ 549755813888) := by
              show _ ≤ _
              have h1 := normL_parts (blindAt ss) t.f (t.kids.take k) []
              rw [← HL.out] at h1
              have h2 := partsL_next hk'
              have h3 := partsL_take t.kids (k + 1)
              have h4 := HKp.out
              rw [partsT_eq] at h4
              simp only [partsL] at h1
              omega
            obtain ⟨W1, hW1⟩ : ∃ W1, W1 = w1.alloc (.cells #[.int .i64 K1.f, .int .i64 K1.v, .slice a1 K1.kids.length c1] 43) := ⟨_, rfl⟩
            rw [← hW1] at C3 R3 hbk ⊢
            have kb : W1.cell? ⟨w1.heap.size, 2, none⟩ = some (.slice a1 K1.kids.length c1) := by rw [hW1]; simp [go_sem]
            have hFl : F.length = K1.kids.length := by rw [← HFt.out]; simp
            clear hW1 p0 p2 q2
            go_loopw [8] (fun j wj => ∃ (m : Nat) (Lm : List FE) (av : Option Addr) (cv : Nat), m ≤ F.length ∧ j = .int .i64 m ∧ NC w t (some ⟨b, off, none⟩) c (.slice av Lm.length cv) wj ∧ NR (w.heap.size + 1 + 1 + 1) Lm (F.drop m) av cv wj ∧ Hid (Lm.map FE.t = (K1.kids.take m).foldl (fun o x => putT x o) (L.map FE.t)) ∧ Stay (fun k => k ≠ w.heap.size + 1 + 1) W1 wj) (fun j _ => F.length - (intOf j).toNat)
            case atStart => exact ⟨0, L, av, cv, Nat.zero_le _, rfl, C3, by simpa using R3, by show _ = _; simp, .refl _ _⟩
            case round =>
              obtain ⟨m, Lm, av, cv, hm, rfl, C, R, HLm, hst⟩ := hrel
              clear C3 R3
              have q2 := C.q2
              have kb' := hst.cell kb (by simp only; omega)
              have y3 := C.z
              by_cases hm' : m < F.length
              · have hmi : (m : Int) < (K1.kids.length : Int) := by omega
                have hmi0 : (0 : Int) ≤ (m : Int) := by omega
                have hmb : (m : Int) < 549755813888 := by
                  have h1 := partsL_len K1.kids
                  have h2 := HB.out
                  omega
                have hne : K1.kids ≠ [] := fun e => by
                  rw [e] at hFl
                  simp only [List.length_nil] at hFl
                  omega
                obtain ⟨b1, off1, rfl, hSb1, hcl1⟩ := HFc.out.resolve_left hne
                obtain ⟨g0, g1, g2⟩ := hcl1 m hm'
                have hb1n : b1 ≠ w.heap.size + 1 + 1 := by have := hSb1.1; omega
                have g0 := hst.cell (keepC hbk g0) hb1n
                have g1 := hst.cell (keepC hbk g1) hb1n
                have g2 := hst.cell (keepC hbk g2) hb1n
                simp only [FE.cells] at g0 g1 g2
                have hFm : F[m].t = K1.kids[m]'(by omega) := by
                  have : (F.map FE.t)[m]'(by simpa using hm') = K1.kids[m]'(by omega) := by simp only [HFt.out]
                  simpa using this
                have hpm : partsT F[m].t ≤ 549755813888 := by
                  rw [hFm]
                  have := partsL_get (ts := K1.kids) (i := m) (by omega)
                  have := HB.out
                  omega
                have hLm : Lm.length ≤ 549755813888 := by
                  have h1 := foldP_parts (K1.kids.take m) (L.map FE.t)
                  rw [← HLm.out] at h1
                  have h2 := partsL_len (Lm.map FE.t)
                  have h3 := partsL_take K1.kids m
                  have := HB.out
                  simp at h2
                  omega
                have hdrop : F.drop m = F[m] :: F.drop (m + 1) := List.drop_eq_getElem_cons hm'
                rw [hdrop] at R
                have HLn : Hid ((putF F[m] Lm).map FE.t = (K1.kids.take (m + 1)).foldl (fun o x => putT x o) (L.map FE.t)) := by
                  show _ = _
                  rw [List.take_succ_eq_append_getElem (by omega), List.foldl_append, ← HLm.out, putF_t, hFm]; rfl
                have P := fun (w' : World) (h : Below wr.heap.size wr w') => l4Put_any (w.heap.size + 1 + 1 + 1) av cv Lm F[m] w'.heap.size w' ((R.on h).row) ((R.on h).rd) ((R.on h).fo.own F[m] (List.mem_append_right _ (List.mem_cons_self ..))).1.rd (Nat.le_refl _) hpm hLm
                clear hdrop hne hcl1 hFm
                go_wp2_with fail
                go_region_with (go_at_call 63; refine (P _ ?_).mono ?_; exact (Below.refl _ _).drew; rintro e3 w4 ⟨g4, c4, rfl, hown4, hb4⟩; have hbb : Below wr.heap.size wr w4 := (Below.refl _ _).drew.trans hb4; have C4 := C.on hbb; have R4 := (R.on (Below.refl _ _).drew).put (by simp; omega) hb4 hown4; have q4 := C4.q2; have f4 := C4.fq 2; have hst4 := hst.trans (Stay.of_below hbb (fun _ hk _ => hk)); clear hown4 hb4)
                all_goals
                  go_wp2_with fail
                all_goals exact ⟨⟨m + 1, putF F[m] Lm, some ⟨g4, 0, none⟩, c4, by omega, by go_num, by simpa [putF_len] using C4.set (.slice (some ⟨g4, 0, none⟩) (Lm.length + 1) c4), R4.set _ (by simp only; omega), HLn, hst4.trans (Stay.setCell _ _ (by simp))⟩, by simp [intOf]; omega⟩
              · have E : Hid (m = K1.kids.length) := (by omega : m = K1.kids.length)
                have hnm : ¬ (m : Int) < (K1.kids.length : Int) := by omega
                have R' : NR (w.heap.size + 1 + 1 + 1) Lm [] av cv wr := by
                  have : F.drop m = [] := List.drop_of_length_le (by omega)
                  rwa [this] at R
                go_wp2_with fail
                refine ⟨⟨k + 1, Lm, av, cv, by omega, by go_num, C, R', ?_⟩, by simp [intOf]; omega⟩
                show _ = _
                rw [HLm.out, E.out, List.take_length, HLk.out, HLs.out]
          · have hkf' : (K1.f != t.f) = true := by simp [hkf]
            have HLs : Hid (stepN true t.f K1 (L.map FE.t) = putT K1 (L.map FE.t)) := by show _ = _; simp [stepN, hkf]
            clear hkf
            go_wp2_with (first
              | (go_at_call 29; refine I.mono ?_; rintro e1 w1 ⟨a1, c1, rfl, o1, hle1, hb1⟩; clear I p0 p2 d0 d1 d2; have C1 := C.on hb1; have R1 := R.join hb1 (fe_one o1 hle1 HIf.out.1 HIf.out.2 (Nat.le_of_lt_succ (by omega))) (fun e he x hx => by simp only [List.mem_singleton] at he; subst he; exact hx.1); have hbk : Below w1.heap.size w1 (w1.alloc (.cells #[.int .i64 K1.f, .int .i64 K1.v, .slice a1 K1.kids.length c1] 43)) := ((Below.refl w1.heap.size w1).alloc (Nat.le_refl _) _); have C3 := C1.on hbk; have R3 := R1.on hbk; have p0 := C1.p0; have p2 := C1.p2; have q2 := C1.q2; have y0 := C1.z; have y1 : w.heap.size + 1 < w1.heap.size := (by omega); have y2 : w.heap.size < w1.heap.size := (by omega); clear C R R1 hb1 o1 hz hbk)
              | (go_at_call 62; refine (BL _ ?_).mono ?_; exact (HS.out.below (C1.bel.alloc C1.bel.size _)); rintro e2 w2 ⟨rfl, hw⟩; subst w2)
              | (go_at_call 63; (refine (l4Put_any (w.heap.size + 1 + 1 + 1) av cv L ⟨K1, a1, c1, fun x => wr.heap.size ≤ x ∧ x < w1.heap.size⟩ (w1.heap.size + 1) _ R3.row (by simpa using R3.rd) (by simpa using (R3.fo.own ⟨K1, a1, c1, fun x => wr.heap.size ≤ x ∧ x < w1.heap.size⟩ (by simp)).1.rd) (by simp) HK1f.out.2.2 hLl).mono ?_; rintro e3 w4 ⟨g4, c4, rfl, hown4, hb4⟩; have C4 := C3.on hb4; have R4 := R3.put (by simp; omega) hb4 hown4; have q4 := C4.q2; have f4 := C4.fq 2; clear C3 R3 hown4 hb4 p0 p2 q2)))
            refine ⟨⟨k + 1, putF ⟨K1, a1, c1, fun x => wr.heap.size ≤ x ∧ x < w1.heap.size⟩ L, some ⟨g4, 0, none⟩, c4, by omega, by go_num, by simpa [putF_len] using C4.set (.slice (some ⟨g4, 0, none⟩) (L.length + 1) c4), R4.set _ (by simp only; omega), ?_⟩, by simp [intOf]; omega⟩
            show _ = _
            rw [putF_t, HLk.out, HLs.out]
      · have E : Hid (k = t.kids.length) := (by omega : k = t.kids.length)
        have q0 := C.q0
        have q1 := C.q1
        have q2 := C.q2
        have r0 := C.r0
        have r1 := C.r1
        have r2 := C.r2
        have fr := C.fr
        have hL : Hid (L.map FE.t = normL (blindAt ss) t.f t.kids []) := by
          show _ = _
          rw [HL.out, E.out, List.take_length]
        have hlr : L.length ≤ 9223372036854775807 := by
          have h1 := normL_parts (blindAt ss) t.f t.kids []
          have h3 := partsL_len (L.map FE.t)
          rw [hL.out] at h3
          simp [partsL, hL.out.symm] at h1 h3
          omega
        have O : OwnR wr (fun x => w.heap.size + 1 + 1 + 1 ≤ x ∧ x < wr.heap.size) av cv (L.map FE.t) := by
          rcases R.row.2 with ⟨hv, h0⟩ | ⟨g, cap, _, hv, _⟩
          · have : L = [] := List.length_eq_zero_iff.1 h0
            subst this; cases hv; exact .nil _
          · cases hv
            exact (by simpa using R.fo : Forest wr _ L).owns R.row (fun e he => R.ap g rfl e (by simpa using he)) hlr
        have hcl : L.length ≤ cv := by obtain ⟨_, _, h, hh⟩ := own_form R.row; cases h; exact hh
        have hbel := C.bel
        clear C R HL E ih BL
        go_wp2_with fail
        obtain ⟨z0, z1, z2⟩ := set3_cells (u := wr) (r := w.heap.size + 1) (x := .int .i64 t.f) (y := .int .i64 t.v) (z := .slice av L.length cv) r0 r1 r2
        have hn : ¬ (w.heap.size + 1 + 1 + 1 ≤ w.heap.size + 1 ∧ w.heap.size + 1 < wr.heap.size) := by omega
        have O3 := ((O.setCell ⟨w.heap.size + 1, 0, none⟩ hn (.int .i64 t.f)).setCell ⟨w.heap.size + 1, 1, none⟩ hn (.int .i64 t.v)).setCell ⟨w.heap.size + 1, 2, none⟩ hn (.slice av L.length cv)
        rw [← hL.out, List.length_map]
        refine bodyPost_ret (v := .agg #[.int .i64 t.f, .int .i64 t.v, .slice av L.length cv]) (by simp [results, Try.results29, go_sem, z0, z1, z2]) rfl ⟨av, cv, rfl, O3.mono (fun x hx => ⟨by omega, by simpa using hx.2⟩), hcl, ?_⟩
        exact ((hbel.setCell (p := ⟨w.heap.size + 1, 0, none⟩) (by simp) _).setCell (p := ⟨w.heap.size + 1, 1, none⟩) (by simp) _).setCell (p := ⟨w.heap.size + 1, 2, none⟩) (by simp) _
end Go.Proofs.Ythbilahilmmfmaa

/- A drawn term of any depth up to three. Conditions: at most 1048576 bytes. -/
namespace Go.Proofs.Ythbilahilmmfmaa
set_option maxRecDepth 100000
open Go.RowKit

theorem Forest.stayc {w w' : World} {B c : Nat} {L : List FE} (h : Forest w B L) (hs : Stay (fun k => k ≠ c) w w') (hc : c < B) : Forest w' B L :=
  ⟨fun e he => by
    obtain ⟨h1, h2, h3, h4⟩ := h.own e he
    exact ⟨h1.frame (fun x hx => hs.block x (h4 x hx).2 (by have := (h4 x hx).1; show x ≠ c; omega)) hs.size, h2, h3, fun x hx => ⟨(h4 x hx).1, Nat.lt_of_lt_of_le (h4 x hx).2 hs.size⟩⟩, h.dis⟩
theorem NR.joinS {B c : Nat} {L : List FE} {av : Option Addr} {cv : Nat} {wr w1 : World} (h : NR B L [] av cv wr) (hs : Stay (fun k => k ≠ c) wr w1) (hc : c < B) {M : List FE} (hm : Forest w1 B M) (hM : ∀ e ∈ M, ∀ x, e.K x → wr.heap.size ≤ x) : NR B L M av cv w1 := by
  have hf := h.fo.stayc hs hc
  refine ⟨own_stay h.row hs (fun g hg => by have := (h.row.lt g hg).1; show g ≠ c; omega), (by simpa using hf : Forest w1 B L).append hm (fun e he d hd x hx hy => ?_), fun g hg d hd hx => ?_⟩
  · have := ((h.fo.own e (by simpa using he)).2.2.2 x hx).2
    have := hM d hd x hy
    omega
  · rcases List.mem_append.1 hd with hd | hd
    · exact h.ap g hg d (by simpa using hd) hx
    · have := (h.row.lt g hg).2
      have := hM d hd g hx
      omega
theorem NR.owns {B : Nat} {L : List FE} {g cv : Nat} {wr : World} (h : NR B L [] (some ⟨g, 0, none⟩) cv wr) (hl : L.length ≤ 9223372036854775807) : OwnR wr (fun x => B ≤ x ∧ x < wr.heap.size) (some ⟨g, 0, none⟩) cv (L.map FE.t) :=
  (by simpa using h.fo : Forest wr B L).owns h.row (fun e he => h.ap g rfl e (by simpa using he)) hl
theorem DC.grow {w wk w1 : World} {c g : Nat} {a : Option Addr} {bs : List Int} {cap : Nat} (h : DC w c a bs cap wk) (hg : wk.grownBy w1 (some g)) (hb : w.heap.size + 1 ≤ g) (hbs : bs = [] ∨ ∀ x, a = some x → x.block < w.heap.size) : DC w c a bs cap w1 := by
  have hs : Stay (fun k => k ≠ c ∧ k < w.heap.size + 1) wk w1 := .grown hg (fun k e => by cases e; omega)
  have hl := h.lt
  refine ⟨hs.cell h.r0 ⟨?_, ?_⟩, hs.cell h.r1 ⟨?_, ?_⟩, hs.cell h.r2 ⟨?_, ?_⟩, fun j => (hs.frozen (p := ⟨w.heap.size, j, none⟩) h.z ⟨?_, ?_⟩).trans (h.fr j), h.cur.grown hg hl (by omega) hbs, ?_, hl, Nat.lt_of_lt_of_le h.z hs.size⟩
  all_goals first | (simp only; omega) | skip
  have h1 : Stay (fun k => k ≠ c ∧ k < w.heap.size + 1) w w1 := (h.st.weak (fun _ _ hk => hk.1)).trans hs
  exact h1.weak (fun k hk hk' => ⟨hk', by omega⟩)
theorem own_len {B n : Nat} {a : Option Addr} {c : Nat} {e : TypeId} {s : Nat} {w : World} {cs : List Value} (h : w.ownsRow B e s (.slice a n c) n cs) : n ≤ c := by
  obtain ⟨a', c', h1, h2⟩ := own_form h
  cases h1
  exact h2
/-- A row of one drawn term. -/
theorem NR.one {B n : Nat} {t : TermD} {ta : Option Addr} {tc : Nat} {w3 : World} (ho : OwnR w3 (fun x => n ≤ x ∧ x < w3.heap.size) ta tc t.kids) (hle : t.kids.length ≤ tc) (hwf : isW t.f ∧ isW t.v) (hB : B ≤ n) (hn : B ≤ w3.heap.size) :
    NR B [⟨t, ta, tc, fun x => n ≤ x ∧ x < w3.heap.size⟩] [] (some ⟨w3.heap.size, 0, none⟩) 1 (w3.alloc (.cells #[.int .i64 t.f, .int .i64 t.v, .slice ta t.kids.length tc] 43)) := by
  have hf := (fe_one ho hle hwf.1 hwf.2 hB).on ((Below.refl w3.heap.size w3).alloc (Nat.le_refl _) (.cells #[.int .i64 t.f, .int .i64 t.v, .slice ta t.kids.length tc] 43))
  refine ⟨?_, by simpa using hf, fun g hg e he hx => ?_⟩
  · have := World.ownsRow_lit (base := B) (size := 3) (e := 43) w3 #[.int .i64 t.f, .int .i64 t.v, .slice ta t.kids.length tc] 1 hn (by unfold maxLen; omega) rfl
    simpa [cs3, FE.cells] using this
  · have e0 : w3.heap.size = g := by simpa [Value.ownBlock] using hg
    subst e0
    simp only [List.append_nil, List.mem_singleton] at he
    subst he
    have := hx.2
    omega

/-- How many parts a term of such a depth has at most. -/
def bdN : Nat → Nat
  | 0 => 1
  | d + 1 => 2 * bdN d + 1
theorem bdN_pos (d : Nat) : 1 ≤ bdN d := by cases d <;> simp [bdN]

set_option maxHeartbeats 6400000 in
set_option maxRecDepth 100000 in
theorem deep_any (c : Nat) (a : Option Addr) (bs : List Int) (cap : Nat) (vars : Int) (hl : bs.length ≤ 1048576) (hv0 : 0 ≤ vars) (hv1 : vars ≤ 256) : ∀ (d : Nat) (w : World), d ≤ 3 → Cur 91 w c a bs cap → (bs = [] ∨ ∀ x, a = some x → x.block < w.heap.size) →
    Calls Try.prog 52 #[.pointer (some ⟨c, 0, none⟩), .int .i64 d, .int .i64 vars] w fun e w' => ∃ t ta tc, e = .returned (.agg #[.int .i64 t.f, .int .i64 t.v, .slice ta t.kids.length tc]) ∧ DrawT w c a bs cap (bdN d) t ta tc w' := by
  intro d
  induction d with
  | zero => intro w _ hc hbs; exact deep_zero c a bs cap vars w hl hv0 hv1 hc hbs
  | succ d ih =>
    intro w hd hc hbs
    obtain ⟨i0, hi0, hz0, hz1, hz2⟩ := info_parts info29
    have D0 := DC.start hc
    have HB : Hid (bs = [] ∨ ∀ x, a = some x → x.block < w.heap.size) := hbs
    have IH : Hid (∀ (w : World), d ≤ 3 → Cur 91 w c a bs cap → (bs = [] ∨ ∀ x, a = some x → x.block < w.heap.size) → Calls Try.prog 52 #[.pointer (some ⟨c, 0, none⟩), .int .i64 d, .int .i64 vars] w fun e w' => ∃ t ta tc, e = .returned (.agg #[.int .i64 t.f, .int .i64 t.v, .slice ta t.kids.length tc]) ∧ DrawT w c a bs cap (bdN d) t ta tc w') := ih
    have HP := bdN_pos d
    have hd0 : ((d : Int) + 1 == 0) = false := by simp; omega
    have hd1 : (((d + 1 : Nat) : Int) == 0) = false := by simp; omega
    have hdm : ((d + 1 : Nat) : Int) - 1 = (d : Int) := by omega
    have hd3 : (d : Int) < 3 := by omega
    clear hc hbs ih
    go_enter Try.func52, Try.ntmps52
    go_wp2_with (first
      | (go_at_call 45; refine (once_any c a bs cap _ _ hl (by omega) (by omega) D0.cur).mono ?_; rintro e w1 ⟨b1, rfl, hC1, hg1⟩; have D1 := D0.stay (stay_of_grown hg1) hC1; clear hC1 hg1 D0)
      | (go_at_call 45; refine (once_any c a bs cap _ _ hl (by omega) (by omega) D1.cur).mono ?_; rintro e w1' ⟨b2, rfl, hC1, hg1⟩; have D1' := D1.stay (stay_of_grown hg1) hC1; clear D1; have D1 := D1'; clear hC1 hg1 D1')
      | (go_at_call 46; refine (below_any c a bs cap _ _ hl (by omega) (by omega) D1.cur).mono ?_; rintro e w2 ⟨k2, rfl, hk2, hC2, hg2⟩; have D2 := D1.stay (stay_of_grown hg2) hC2; have r0 := D2.r0; have r1 := D2.r1; have r2 := D2.r2; have fr := D2.fr; have hk2' : (k2 : Int) < 256 := (by omega); clear hC2 hg2 D1)
      | (go_at_call 77; refine (l3Var_any _ _).mono ?_; rintro e w3 ⟨rfl, hb3⟩; have D3 := D2.on hb3; clear r0 r1 r2 fr; have r0 := D3.r0; have r1 := D3.r1; have r2 := D3.r2; have fr := D3.fr; clear hb3 D2)
      | (go_at_call 58; refine (pickInt_any c a bs cap w1.heap.size 5 [3, 4, 5, 5, 6] 5 _ hl rfl (by simp) (by simp) (D1.on ((Below.refl _ _).alloc (Nat.le_refl _) _)).cur (by simp) (by have := D1.lt; have := D1.z; omega) (lit_cells w1 [3, 4, 5, 5, 6])).mono ?_; rintro e w2 ⟨f, rfl, hf, hC2, hg2⟩; have D2 := (D1.on ((Below.refl _ _).alloc (Nat.le_refl _) _)).stay (stay_of_grown hg2) hC2; have hfb : 3 ≤ f ∧ f ≤ 6 := (by simp at hf; omega); have hz2' := D2.z; have hlt := D2.lt; clear hC2 hg2 D1 hf)
      | (go_at_call 52; refine (IH.out w2 (by omega) D2.cur (HB.out.imp id (fun h x hx => Nat.lt_of_lt_of_le (h x hx) D2.st.size))).mono ?_; rintro e w3 ⟨t1, ta1, tc1, rfl, T1⟩; have D3 := (D2.stay T1.st T1.cur).on ((Below.refl w3.heap.size w3).alloc (Nat.le_refl _) (.cells #[.int .i64 t1.f, .int .i64 t1.v, .slice ta1 t1.kids.length tc1] 43)); have R3 := NR.one (B := w.heap.size + 1) T1.own T1.le T1.wf (by omega) (by have := T1.st.size; omega); have hp1 := T1.parts; have r0 := D3.r0; have r1 := D3.r1; have r2 := D3.r2; have fr := D3.fr; have hz3 := D3.z; clear D2 T1)
      | (go_at_call 52; refine (IH.out _ (by omega) D3.cur (HB.out.imp id (fun h x hx => Nat.lt_of_lt_of_le (h x hx) D3.st.size))).mono ?_; rintro e w4 ⟨t2, ta2, tc2, rfl, T2⟩; have D4 := (D3.stay T2.st T2.cur).on ((Below.refl w4.heap.size w4).alloc (Nat.le_refl _) (.cells #[.int .i64 t2.f, .int .i64 t2.v, .slice ta2 t2.kids.length tc2] 43)); have R4 := (R3.joinS T2.st (by omega) (fe_one (B := w.heap.size + 1) T2.own T2.le T2.wf.1 T2.wf.2 (by simp at hz3 ⊢; omega)) (fun e he x hx => by simp only [List.mem_singleton] at he; subst he; exact hx.1)).on ((Below.refl w4.heap.size w4).alloc (Nat.le_refl _) (.cells #[.int .i64 t2.f, .int .i64 t2.v, .slice ta2 t2.kids.length tc2] 43)); have hp2 := T2.parts; have hz4 := D4.z; clear D3 T2 R3 r0 r1 r2 fr)
      | (at_builtin; (refine wpList_append_own_at _ rfl (.tmp 40) (.tmp 46) 41 rfl (w.heap.size + 1) 43 i0 _ 3 40 Try.underlying41 hi0 hz0 hz1 hz2 rfl (by decide) _ 1 _ rfl R4.row ⟨w4.heap.size, 0, none⟩ 1 1 _ rfl rfl (three_new _ _ _ _ _ _ rfl) (three_cell _ _ _ _ _) (by unfold maxLen; omega) (by omega) (by first | omega | (simp at hz4 ⊢; omega) | (simp; omega)) ?_; intro v5 w5 hown5 hgrow5 hnil5 hat5; clear hnil5; have hg5 : (w4.alloc (.cells #[.int .i64 t2.f, .int .i64 t2.v, .slice ta2 t2.kids.length tc2] 43)).grownBy w5 (Value.slice (some ⟨w3.heap.size, 0, none⟩) 1 1).ownBlock := hgrow5; have D5 := D4.grow (g := w3.heap.size) hg5 (R4.row.lt _ rfl).1 HB.out; obtain ⟨g5, c5, rfl, R5⟩ := R4.app hg5 hown5 hat5; have hc5 := own_form R5.row; have r0 := D5.r0; have r1 := D5.r1; have r2 := D5.r2; have fr := D5.fr; clear hgrow5 hg5 hown5 hat5 D4 R4))
      | (go_at_call 65; refine (l3Of_any _ _ _ _ _).mono ?_; rintro e w6 ⟨rfl, hb6⟩; have D6 := D5.on hb6; have R6 := R5.on hb6; clear r0 r1 r2 fr; have r0 := D6.r0; have r1 := D6.r1; have r2 := D6.r2; have fr := D6.fr; clear D5 R5 hb6 hc5)
      | (go_at_call 65; refine (l3Of_any _ _ _ _ _).mono ?_; rintro e w6 ⟨rfl, hb6⟩; have D7 := D3.on hb6; have R7 := R3.on hb6; clear r0 r1 r2 fr; have r0 := D7.r0; have r1 := D7.r1; have r2 := D7.r2; have fr := D7.fr; clear D3 R3 hb6))
    all_goals
      first
      | (obtain ⟨z0, z1, z2⟩ := fin_res D3 (.int .i64 (-1)) (.int .i64 k2) (.slice none 0 0)
         exact bodyPost_ret (v := .agg #[.int .i64 (-1), .int .i64 k2, .slice none 0 0]) (by simp [results, Try.results52, go_sem, z0, z1, z2]) rfl ⟨.mk (-1) k2 [], none, 0, rfl, D3.fin (t := .mk (-1) k2 []) HB.out (.nil _) (Nat.le_refl _) (by simp only [TermD.f, TermD.v, isW]; omega) (by simp [partsT, partsL, bdN])⟩)
      | (obtain ⟨z0, z1, z2⟩ := fin_res D2 (.int .i64 (1 + k2)) (.int .i64 0) (.slice none 0 0)
         exact bodyPost_ret (v := .agg #[.int .i64 (1 + k2), .int .i64 0, .slice none 0 0]) (by simp [results, Try.results52, go_sem, z0, z1, z2]) rfl ⟨.mk (1 + k2) 0 [], none, 0, rfl, D2.fin (t := .mk (1 + k2) 0 []) HB.out (.nil _) (Nat.le_refl _) (by simp only [TermD.f, TermD.v, isW]; omega) (by simp [partsT, partsL, bdN])⟩)
      | (have hle := own_len R6.row
         obtain ⟨z0, z1, z2⟩ := fin_res D6 (.int .i64 f) (.int .i64 0) (.slice (some ⟨g5, 0, none⟩) 2 c5)
         exact bodyPost_ret (v := .agg #[.int .i64 f, .int .i64 0, .slice (some ⟨g5, 0, none⟩) 2 c5]) (by simp [results, Try.results52, go_sem, z0, z1, z2]) rfl ⟨.mk f 0 [t1, t2], some ⟨g5, 0, none⟩, c5, rfl, D6.fin (t := .mk f 0 [t1, t2]) HB.out (R6.owns (by simp)) hle (by simp only [TermD.f, TermD.v, isW]; omega) (by simp only [partsT, partsL, bdN]; omega)⟩)
      | (obtain ⟨z0, z1, z2⟩ := fin_res D7 (.int .i64 f) (.int .i64 0) (.slice (some ⟨w3.heap.size, 0, none⟩) 1 1)
         exact bodyPost_ret (v := .agg #[.int .i64 f, .int .i64 0, .slice (some ⟨w3.heap.size, 0, none⟩) 1 1]) (by simp [results, Try.results52, go_sem, z0, z1, z2]) rfl ⟨.mk f 0 [t1], some ⟨w3.heap.size, 0, none⟩, 1, rfl, D7.fin (t := .mk f 0 [t1]) HB.out (R7.owns (by simp)) (Nat.le_refl _) (by simp only [TermD.f, TermD.v, isW]; omega) (by simp only [partsT, partsL, bdN]; omega)⟩)
end Go.Proofs.Ythbilahilmmfmaa

/- The list of functions that the draws stand on, and a drawn term in one form. Conditions: at most 1048576 bytes. -/
namespace Go.Proofs.Ythbilahilmmfmaa
set_option maxRecDepth 100000
open Go.RowKit

def sig7 : List SymD := [⟨⟨#[116, 116]⟩, 0, false⟩, ⟨⟨#[97]⟩, 0, false⟩, ⟨⟨#[98]⟩, 0, false⟩, ⟨⟨#[103]⟩, 1, false⟩, ⟨⟨#[104]⟩, 2, false⟩, ⟨⟨#[102]⟩, 2, true⟩, ⟨⟨#[107]⟩, 2, true⟩]

theorem l2Sig_any (w : World) :
    Calls Try.prog 51 #[] w fun e w' => e = .returned (.slice (some ⟨w.heap.size, 0, none⟩) 7 7) ∧ w'.ownsRow w.heap.size 89 3 (.slice (some ⟨w.heap.size, 0, none⟩) 7 7) 7 (symCs sig7) ∧ Below w.heap.size w w' := by
  go_enter Try.func51, Try.ntmps51
  go_wp2
  go_ret
  exact ⟨rfl, World.ownsRow_lit w (symCs sig7).toArray 7 (Nat.le_refl _) (by unfold maxLen; omega) rfl, (Below.refl _ _).alloc (Nat.le_refl _) _⟩

theorem RdS.stayb {w w' : World} {S : Nat → Prop} {b off : Nat} {ss : List SymD} (h : RdS w (some ⟨b, off, none⟩) ss) (hs : Stay S w w') (hb : S b) : RdS w' (some ⟨b, off, none⟩) ss := by
  rcases h with h | ⟨b', off', e, hlt, hc⟩
  · exact .inl h
  · cases e
    refine .inr ⟨b, off, rfl, Nat.lt_of_lt_of_le hlt hs.size, fun i hi => ?_⟩
    obtain ⟨h0, h1, h2⟩ := hc i hi
    exact ⟨hs.cell h0 hb, hs.cell h1 hb, hs.cell h2 hb⟩
theorem normT_f (bl : Int → Bool) (t : TermD) : (normT bl t).f = t.f := by rw [normT_eq]; rfl
theorem normT_v (bl : Int → Bool) (t : TermD) : (normT bl t).v = t.v := by rw [normT_eq]; rfl

set_option maxHeartbeats 1600000 in
theorem right_any (c : Nat) (a : Option Addr) (bs : List Int) (cap : Nat) (vars : Int) (w : World) (hl : bs.length ≤ 1048576) (hv0 : 0 ≤ vars) (hv1 : vars ≤ 256) (hc : Cur 91 w c a bs cap) (hbs : bs = [] ∨ ∀ x, a = some x → x.block < w.heap.size) :
    Calls Try.prog 92 #[.pointer (some ⟨c, 0, none⟩), .int .i64 vars] w fun e w' => ∃ t ta tc, e = .returned (.agg #[.int .i64 (normT (blindAt sig7) t).f, .int .i64 (normT (blindAt sig7) t).v, .slice ta (normT (blindAt sig7) t).kids.length tc]) ∧ DrawT w c a bs cap 7 (normT (blindAt sig7) t) ta tc w' := by
  have D0 := DC.start hc
  have HB : Hid (bs = [] ∨ ∀ x, a = some x → x.block < w.heap.size) := hbs
  clear hc hbs
  go_enter Try.func92, Try.ntmps92
  go_wp2_with (first
    | (go_at_call 51; refine (l2Sig_any _).mono ?_; rintro e w1 ⟨rfl, hs1, hb1⟩; have D1 := D0.on hb1; have S1 := RdS.own (ss := sig7) rfl hs1; have L1 := (hs1.lt _ rfl).2; clear D0 hb1 hs1)
    | (go_at_call 52; refine (deep_any c a bs cap vars hl hv0 hv1 2 w1 (by omega) D1.cur (HB.out.imp id (fun h x hx => Nat.lt_of_lt_of_le (h x hx) D1.st.size))).mono ?_; rintro e w2 ⟨t, ta, tc, rfl, T2⟩; have D2 := D1.stay T2.st T2.cur)
    | (go_at_call 29; (refine (specNorm_any sig7 _ _ (by decide) 7 t ta tc w2.heap.size w2 T2.parts (by omega) T2.own.rd (Nat.le_refl _) T2.wf.1 T2.wf.2 (RdS.stayb (b := w.heap.size + 1) (off := 0) (by simpa using S1) T2.st (by have := D1.lt; show w.heap.size + 1 ≠ c; omega))).mono ?_); rintro e w3 ⟨na, nc, rfl, hO, hle, hb3⟩; have D3 := D2.on hb3; have r0 := D3.r0; have r1 := D3.r1; have r2 := D3.r2; have fr := D3.fr; have hz := D2.z; have hwf := T2.wf; have hpt := T2.parts; clear D2 T2 S1 L1 D1 hb3))
  obtain ⟨z0, z1, z2⟩ := fin_res D3 (.int .i64 t.f) (.int .i64 t.v) (.slice na (normT (blindAt sig7) t).kids.length nc)
  refine bodyPost_ret (v := .agg #[.int .i64 t.f, .int .i64 t.v, .slice na (normT (blindAt sig7) t).kids.length nc]) (by simp [results, Try.results92, go_sem, z0, z1, z2]) rfl ⟨t, na, nc, by rw [normT_f, normT_v], ?_⟩
  have := D3.fin (t := normT (blindAt sig7) t) (ta := na) (tc := nc) (N := 7) HB.out (hO.mono (fun x hx => ⟨by omega, hx.2⟩)) hle (by rw [normT_f, normT_v]; exact hwf) (Nat.le_trans (normT_parts _ t) hpt)
  rwa [normT_f, normT_v] at this
end Go.Proofs.Ythbilahilmmfmaa

/- A place within a term that owns its rows: what is laid into that place is laid into the term. Conditions: none. -/
namespace Go.Proofs.Ythbilahilmmfmaa
set_option maxRecDepth 100000
open Go.RowKit

theorem partsL_set : ∀ {ts : List TermD} {i : Nat} (h : i < ts.length) (u : TermD), partsL (ts.set i u) + partsT ts[i] = partsL ts + partsT u
  | t :: ts, 0, _, u => by simp only [List.set_cons_zero, partsL, List.getElem_cons_zero]; omega
  | t :: ts, i + 1, h, u => by
    have := partsL_set (ts := ts) (i := i) (by simpa using h) u
    simp only [List.set_cons_succ, partsL, List.getElem_cons_succ]; omega

/-- The block of p is as it was, but for the three cells from p on. -/
structure SlotSet (w w' : World) (b o : Nat) : Prop where
  cell : ∀ j, j < o ∨ o + 3 ≤ j → w'.cell? ⟨b, j, none⟩ = w.cell? ⟨b, j, none⟩
  row : ∀ n c xs, w.ownsRow 0 43 3 (.slice (some ⟨b, 0, none⟩) n c) n xs → ∃ ys, w'.ownsRow 0 43 3 (.slice (some ⟨b, 0, none⟩) n c) n ys
theorem SlotSet.same {w w' : World} {b o : Nat} (h : w'.heap[b]? = w.heap[b]?) : SlotSet w w' b o :=
  ⟨fun _ _ => World.cell?_of_block (a := ⟨b, _, none⟩) h, fun _ _ xs hr => ⟨xs, own_frame hr (fun g hg => by cases hg; exact h)⟩⟩
theorem SlotSet.after {w w1 w' : World} {b o : Nat} (h : w1.heap[b]? = w.heap[b]?) (hs : SlotSet w1 w' b o) : SlotSet w w' b o :=
  ⟨fun j hj => (hs.cell j hj).trans (World.cell?_of_block (a := ⟨b, j, none⟩) h), fun n c xs hr => hs.row n c xs (own_frame hr (fun g hg => by cases hg; exact h))⟩
theorem SlotSet.set (w : World) (b o j : Nat) (v : Value) (hj : o ≤ j ∧ j < o + 3) : SlotSet w (w.setCell ⟨b, j, none⟩ v) b o := by
  refine ⟨fun i hi => World.cell?_setCell_other _ _ _ _ (by simp only [ne_eq, Addr.mk.injEq, true_and, and_true]; omega), fun n c xs hr => ?_⟩
  obtain ⟨h1, h2⟩ := hr
  rcases h2 with ⟨h2, _⟩ | ⟨g, cap, cur, hv, hg, hh, hn, hm, hs, _⟩
  · cases h2
  · cases hv
    refine ⟨(cur.setIfInBounds j v).toList.take (n * 3), ?_, .inr ⟨b, c, cur.setIfInBounds j v, rfl, hg, ?_, hn, hm, by simpa using hs, rfl⟩⟩
    · simp [hs]; omega
    · simp [World.setCell, Array.getElem?_modify, hh]

/-- What is laid into the place is laid into the term that stands in block r. -/
def Reb (N r : Nat) (S : Nat → Prop) (T : TermD) (b o : Nat) (u : TermD) (U : Nat → Prop) (w : World) : Prop :=
  ∀ (w' : World) (u' : TermD) (ua' : Option Addr) (uc' : Nat) (U' : Nat → Prop), w.heap.size ≤ w'.heap.size → (∀ x, S x ∨ x = r → ¬ U x → x ≠ b → w'.heap[x]? = w.heap[x]?) → SlotSet w w' b o →
    (w'.cell? ⟨b, o, none⟩ = some (.int .i64 u'.f) ∧ w'.cell? ⟨b, o + 1, none⟩ = some (.int .i64 u'.v) ∧ w'.cell? ⟨b, o + 2, none⟩ = some (.slice ua' u'.kids.length uc')) → OwnR w' U' ua' uc' u'.kids → (∀ x, U' x → (U x ∨ N ≤ x) ∧ x < w'.heap.size) → isW u'.f ∧ isW u'.v →
    ∃ T' ta tc, (w'.cell? ⟨r, 0, none⟩ = some (.int .i64 T'.f) ∧ w'.cell? ⟨r, 1, none⟩ = some (.int .i64 T'.v) ∧ w'.cell? ⟨r, 2, none⟩ = some (.slice ta T'.kids.length tc)) ∧ OwnR w' (fun x => (S x ∨ N ≤ x) ∧ x < w'.heap.size) ta tc T'.kids ∧ (isW T'.f ∧ isW T'.v) ∧ partsT T' + partsT u ≤ partsT T + partsT u'

/-- The place (b, o) within the term in block r; what stands there. -/
structure Foc (N r : Nat) (S : Nat → Prop) (T : TermD) (b o : Nat) (u : TermD) (ua : Option Addr) (uc : Nat) (U : Nat → Prop) (w : World) : Prop where
  c0 : w.cell? ⟨b, o, none⟩ = some (.int .i64 u.f)
  c1 : w.cell? ⟨b, o + 1, none⟩ = some (.int .i64 u.v)
  c2 : w.cell? ⟨b, o + 2, none⟩ = some (.slice ua u.kids.length uc)
  fr : ∀ j, w.frozen? ⟨b, j, none⟩ = false
  own : OwnR w U ua uc u.kids
  wf : isW u.f ∧ isW u.v
  bin : S b ∨ b = r
  bU : ¬ U b
  US : ∀ x, U x → S x
  SN : ∀ x, S x ∨ x = r → x < N
  Nw : N ≤ w.heap.size
  ru : ¬ S r
  reb : Reb N r S T b o u U w
  le : partsT u ≤ partsT T

theorem Foc.root {N r : Nat} {S : Nat → Prop} {T : TermD} {a : Option Addr} {c : Nat} {w : World} (h0 : w.cell? ⟨r, 0, none⟩ = some (.int .i64 T.f)) (h1 : w.cell? ⟨r, 1, none⟩ = some (.int .i64 T.v)) (h2 : w.cell? ⟨r, 2, none⟩ = some (.slice a T.kids.length c)) (hfr : ∀ j, w.frozen? ⟨r, j, none⟩ = false) (ho : OwnR w S a c T.kids) (hw : isW T.f ∧ isW T.v) (hr : ¬ S r) (hS : ∀ x, S x ∨ x = r → x < N) (hN : N ≤ w.heap.size) : Foc N r S T r 0 T a c S w :=
  ⟨h0, h1, h2, hfr, ho, hw, .inr rfl, hr, fun _ h => h, hS, hN, hr, fun w' u' ua' uc' U' _ _ _ hc hO hU hw' => ⟨u', ua', uc', hc, hO.mono (fun x hx => hU x hx), hw', by omega⟩, Nat.le_refl _⟩

theorem Foc.on {N r : Nat} {S : Nat → Prop} {T : TermD} {b o : Nat} {u : TermD} {ua : Option Addr} {uc : Nat} {U : Nat → Prop} {w w1 : World} (h : Foc N r S T b o u ua uc U w) (hz : w.heap.size ≤ w1.heap.size) (hs : ∀ x, S x ∨ x = r → w1.heap[x]? = w.heap[x]?) : Foc N r S T b o u ua uc U w1 := by
  have e := hs b h.bin
  refine ⟨(World.cell?_of_block (a := ⟨b, _, none⟩) e).trans h.c0, (World.cell?_of_block (a := ⟨b, _, none⟩) e).trans h.c1, (World.cell?_of_block (a := ⟨b, _, none⟩) e).trans h.c2, fun j => (World.frozen?_of_block (a := ⟨b, j, none⟩) e).trans (h.fr j), h.own.frame (fun x hx => hs x (.inl (h.US x hx))) hz, h.wf, h.bin, h.bU, h.US, h.SN, Nat.le_trans h.Nw hz, h.ru, ?_, h.le⟩
  intro w' u' ua' uc' U' h1 h2 h3 h4 h5 h6 h7
  exact h.reb w' u' ua' uc' U' (Nat.le_trans hz h1) (fun x hx hu hb => (h2 x hx hu hb).trans (hs x hx)) (.after e h3) h4 h5 h6 h7

theorem Foc.down {N r : Nat} {S : Nat → Prop} {T : TermD} {b o : Nat} {u : TermD} {ua : Option Addr} {uc : Nat} {U : Nat → Prop} {w : World} (h : Foc N r S T b o u ua uc U w) {i : Nat} (hi : i < u.kids.length) :
    ∃ g a' c' U', ua = some ⟨g, 0, none⟩ ∧ Foc N r S T g (i * 3) u.kids[i] a' c' U' w := by
  have hO := h.own
  have hU := h.US
  have hB := h.bU
  have hR := h.reb
  generalize hks : u.kids = ks at hO hi
  cases hO with
  | nil S => simp at hi
  | row _ g c ts A C K xs hb hrow hl hz hc hsub hdis hk =>
    obtain ⟨d0, d1, d2⟩ := hc i hi
    refine ⟨g, A i, C i, K i, rfl, d0, d1, d2, fun j => hrow.frozenAt j, hk i hi, hz i hi, .inl (hU g hb), fun hx => (hsub i g hi hx).2 rfl, fun x hx => hU x (hsub i x hi hx).1, h.SN, h.Nw, h.ru, ?_, ?_⟩
    · intro w' u2 a2 c2 U2 h1 h2 h3 h4 h5 h6 h7
      have hblt : ∀ x, U x → x < w.heap.size := fun x hx => Nat.lt_of_lt_of_le (h.SN x (.inl (hU x hx))) h.Nw
      have eb : w'.heap[b]? = w.heap[b]? := h2 b h.bin (fun hx => hB (hsub i b hi hx).1) (fun e => hB (e ▸ hb))
      have hlt : g < N := h.SN g (.inl (hU g hb))
      obtain ⟨ys, hys⟩ := h3.row _ _ _ hrow
      have hlen : (ks.set i u2).length = ks.length := List.length_set
      have key := hR w' (.mk u.f u.v (ks.set i u2)) (some ⟨g, 0, none⟩) uc (fun x => (U x ∨ N ≤ x) ∧ x < w'.heap.size) h1
        (fun x hx hux hxb => h2 x hx (fun hk' => hux (hsub i x hi hk').1) (fun e => hux (e ▸ hb)))
        (.same eb)
        ⟨(World.cell?_of_block (a := ⟨b, _, none⟩) eb).trans h.c0, (World.cell?_of_block (a := ⟨b, _, none⟩) eb).trans h.c1, by
          have := (World.cell?_of_block (a := ⟨b, o + 2, none⟩) eb).trans h.c2
          rw [hks] at this
          simpa [TermD.kids] using this⟩
        (OwnR.row _ g uc (ks.set i u2) (fun j => if j = i then a2 else A j) (fun j => if j = i then c2 else C j) (fun j x => if j = i then U2 x else K j x) ys ⟨.inl hb, (hys.lt g rfl).2⟩ (by rw [hlen]; exact hys) (by rw [hlen]; exact hl)
          (fun j hj => by
            rw [hlen] at hj
            by_cases e : j = i
            · subst e; simpa using h7
            · rw [List.getElem_set_ne (by omega)]; exact hz j hj)
          (fun j hj => by
            rw [hlen] at hj
            by_cases e : j = i
            · subst e; simpa using h4
            · obtain ⟨e0, e1, e2⟩ := hc j hj
              simp only [if_neg e]
              rw [List.getElem_set_ne (by omega)]
              exact ⟨(h3.cell _ (by omega)).trans e0, (h3.cell _ (by omega)).trans e1, (h3.cell _ (by omega)).trans e2⟩)
          (fun j x hj hx => by
            rw [hlen] at hj
            by_cases e : j = i
            · subst e
              simp only [↓reduceIte] at hx
              obtain ⟨hx1, hx2⟩ := h6 x hx
              rcases hx1 with hx1 | hx1
              · exact ⟨⟨.inl (hsub j x hj hx1).1, hx2⟩, (hsub j x hj hx1).2⟩
              · exact ⟨⟨.inr hx1, hx2⟩, by omega⟩
            · simp only [if_neg e] at hx
              exact ⟨⟨.inl (hsub j x hj hx).1, Nat.lt_of_lt_of_le (hblt x (hsub j x hj hx).1) h1⟩, (hsub j x hj hx).2⟩)
          (fun j l x hj hl' hne hx hy => by
            rw [hlen] at hj hl'
            have hcross : ∀ m, m < ks.length → m ≠ i → U2 x → K m x → False := fun m hm hmi hx2 hkm => by
              rcases (h6 x hx2).1 with h | h'
              · exact hdis m i x hm hi hmi hkm h
              · have := h.SN x (.inl (hU x (hsub m x hm hkm).1)); omega
            by_cases e : j = i
            · have e' : l ≠ i := by omega
              simp only [if_pos e, if_neg e'] at hx hy
              exact hcross l hl' e' hx hy
            · by_cases e' : l = i
              · simp only [if_pos e', if_neg e] at hx hy
                exact hcross j hj e hy hx
              · simp only [if_neg e', if_neg e] at hx hy
                exact hdis j l x hj hl' hne hx hy)
          (fun j hj => by
            rw [hlen] at hj
            by_cases e : j = i
            · subst e
              simpa using h5
            · simp only [if_neg e]
              rw [List.getElem_set_ne (by omega)]
              exact (hk j hj).frame (fun x hx => h2 x (.inl (hU x (hsub j x hj hx).1)) (fun hx' => hdis j i x hj hi e hx hx') (hsub j x hj hx).2) h1))
        (fun x hx => hx) h.wf
      obtain ⟨T', ta, tc, k1, k2, k3, k4⟩ := key
      refine ⟨T', ta, tc, k1, k2, k3, ?_⟩
      have e1 := partsL_set hi u2
      have e2 := partsT_eq u
      rw [hks] at e2
      have e3 : partsT (.mk u.f u.v (ks.set i u2)) = partsL (ks.set i u2) + 1 := partsT_eq _
      omega
    · have e2 := partsT_eq u
      rw [hks] at e2
      have e1 := parts_kid (List.getElem_mem hi)
      have := h.le
      omega
theorem Foc.stay {N r : Nat} {S : Nat → Prop} {T : TermD} {b o c : Nat} {u : TermD} {ua : Option Addr} {uc : Nat} {U : Nat → Prop} {w w1 : World} (h : Foc N r S T b o u ua uc U w) (hs : Stay (fun k => k ≠ c) w w1) (hc : ∀ x, S x ∨ x = r → x ≠ c) : Foc N r S T b o u ua uc U w1 :=
  h.on hs.size (fun x hx => hs.block x (Nat.lt_of_lt_of_le (h.SN x hx) h.Nw) (hc x hx))
theorem Foc.below {N r : Nat} {S : Nat → Prop} {T : TermD} {b o : Nat} {u : TermD} {ua : Option Addr} {uc : Nat} {U : Nat → Prop} {w w1 : World} (h : Foc N r S T b o u ua uc U w) (hs : Below w.heap.size w w1) : Foc N r S T b o u ua uc U w1 :=
  h.on hs.size (fun x hx => hs.block x (Nat.lt_of_lt_of_le (h.SN x hx) h.Nw))
theorem Foc.len {N r : Nat} {S : Nat → Prop} {T : TermD} {b o : Nat} {u : TermD} {ua : Option Addr} {uc : Nat} {U : Nat → Prop} {w : World} (h : Foc N r S T b o u ua uc U w) : u.kids.length < partsT T := by
  have h1 := h.le
  have h2 := partsL_len u.kids
  rw [partsT_eq u] at h1
  omega
end Go.Proofs.Ythbilahilmmfmaa

