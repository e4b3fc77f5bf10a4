/- What the proof of FnOneForm stands on, part 7 of 11: each piece says what it proves and under which conditions. Conditions: as each piece says. -/
import Derived.Test.YtollijngiioonaaPackOneForm6
import Derived.Test.YtollijngiioonaaProg
import Derived.Sort.AssemblyPlain
import Derived.Sort.WalkA
import Derived.WalkKit
import Derived.BigCall
import Derived.BigGuard
import Derived.Laws.Externs
import Derived.Shelf.Abstract
import Derived.Shelf.RegionOpenPlain
import Derived.Sort.WalkB2
import Derived.Sort.WalkC4
/- The contract of the drawn list of functions. Conditions: the code has at most 1048576 bytes. -/
namespace Go.Proofs.Ytollijngiioonaa
set_option maxRecDepth 100000
open Go.RowKit

set_option maxHeartbeats 800000 in
theorem pickStr_any (c : Nat) (a : Option Addr) (bs : List Int) (cap g lcap : Nat) (ss : List ByteArray) (n : Nat) (w : World) (hl : bs.length ≤ 1048576) (hn : n = ss.length) (hn0 : 0 < ss.length) (hn1 : ss.length ≤ 256) (hc : Cur 95 w c a bs cap)
    (hlt : g < w.heap.size) (hne : g ≠ c) (hcs : ∀ i, i < ss.length → w.cell? ⟨g, i, none⟩ = some (.string (ss[i]?.getD ByteArray.empty))) :
    Calls Try.prog 82 #[.pointer (some ⟨c, 0, none⟩), .slice (some ⟨g, 0, none⟩) n lcap] w fun e w' => ∃ s : ByteArray, e = .returned (.string s) ∧ s ∈ ss ∧ Cur 95 w' c a bs cap ∧ w.grownBy w' (some c) := by
  subst hn
  have H := below_any c a bs cap ss.length w hl (by omega) (by omega) hc
  have HC : ∀ w', w.grownBy w' (some c) → ∀ k, (h : k < ss.length) → w'.cell? ⟨g, k, none⟩ = some (.string ss[k]) := by
    intro w' hg k hk
    have h1 : w'.cell? ⟨g, k, none⟩ = w.cell? ⟨g, k, none⟩ := World.cell?_of_block (w := w) (hg.block g hlt (by simp [hne]))
    rw [h1, hcs k hk]; simp [hk]
  clear hc hl hcs
  go_enter Try.func82, Try.ntmps82
  go_wp2_with (go_at_call 41; refine H.mono ?_; rintro e w1 ⟨k, rfl, hx1, hC, hg⟩; clear H; have hk : k < ss.length := (by omega); have hck := HC w1 hg k hk; clear HC)
  go_ret
  exact ⟨ss[k], rfl, List.getElem_mem hk, hC, hg⟩

theorem below_grownL {w w' : World} {c : Nat} (h : Below w.heap.size w w') : w.grownBy w' (some c) := ⟨h.os, h.tape, h.output, h.size, fun i hi _ => h.block i hi⟩
/-- A drawn list of functions: few of them, their names short, their numbers small. -/
def smallSyms (ss : List SymD) : Prop := ss.length ≤ 9 ∧ ∀ s ∈ ss, s.name.size ≤ 9 ∧ -1 ≤ s.ar ∧ s.ar ≤ 4

theorem l2_fin {w W : World} {c : Nat} {a : Option Addr} {bs : List Int} {cap : Nat} {ss : List SymD} (hown : W.ownsRow w.heap.size 83 3 (.slice (some ⟨w.heap.size, 0, none⟩) 7 7) 7 (symCs ss)) (h7 : 7 = ss.length) (hs : smallSyms ss) (hC : Cur 95 W c a bs cap) (hg : w.grownBy W (some c)) :
    ∃ (g o lc : Nat) (ss : List SymD), Ending.returned (Value.slice (some ⟨w.heap.size, 0, none⟩) 7 7) = .returned (.slice (some ⟨g, o, none⟩) ss.length lc) ∧ smallSyms ss ∧ w.heap.size ≤ g ∧ RdS W (some ⟨g, o, none⟩) ss ∧ Cur 95 W c a bs cap ∧ w.grownBy W (some c) :=
  ⟨w.heap.size, 0, 7, ss, by rw [← h7], hs, Nat.le_refl _, RdS.own h7 hown, hC, hg⟩
theorem small7 : smallSyms sig7 := by
  refine ⟨by decide, fun s hs => ?_⟩
  simp [sig7] at hs
  rcases hs with rfl | rfl | rfl | rfl | rfl | rfl | rfl <;> simp [ByteArray.size]
theorem small_set {ss : List SymD} {k : Nat} {s : SymD} (h : smallSyms ss) (hs : s.name.size ≤ 9 ∧ -1 ≤ s.ar ∧ s.ar ≤ 4) : smallSyms (ss.set k s) := by
  refine ⟨by rw [List.length_set]; exact h.1, fun t ht => ?_⟩
  rcases List.mem_or_eq_of_mem_set ht with ht | rfl
  · exact h.2 t ht
  · exact hs
theorem small_sub {ss ts : List SymD} (h : smallSyms ss) (hs : ts.Sublist ss) : smallSyms ts :=
  ⟨Nat.le_trans hs.length_le h.1, fun t ht => h.2 t (hs.subset ht)⟩
theorem RdS_drop {W : World} {B g c : Nat} {ss : List SymD} {j : Nat} (h : W.ownsRow B 83 3 (.slice (some ⟨g, 0, none⟩) ss.length c) ss.length (symCs ss)) : RdS W (some ⟨g, j * 3, none⟩) (ss.drop j) := by
  refine .inr ⟨g, j * 3, rfl, (h.lt g rfl).2, fun i hi => ?_⟩
  rw [List.length_drop] at hi
  have := cells3 rfl (show j + i < ss.length by omega) h
  rw [show (j + i) * 3 = j * 3 + i * 3 by omega] at this
  simpa using this
theorem RdS_take {W : World} {B g c : Nat} {ss : List SymD} {j : Nat} (h : W.ownsRow B 83 3 (.slice (some ⟨g, 0, none⟩) ss.length c) ss.length (symCs ss)) : RdS W (some ⟨g, 0, none⟩) (ss.take j) := by
  refine .inr ⟨g, 0, rfl, (h.lt g rfl).2, fun i hi => ?_⟩
  rw [List.length_take] at hi
  have := cells3 rfl (show i < ss.length by omega) h
  simpa using this
theorem info38 : (Try.prog.info? 83).map (fun i => (i.zero, i.size, i.bytes)) = some (some (.agg #[.string ⟨#[]⟩, .int .i64 0, .bool false]), 3, 32) := by kernel_rfl
theorem lit_news (w : World) (cs : List Value) (t : TypeId) : ∀ j u, cs[j]? = some u → (w.alloc (.cells cs.toArray t)).cell? ((⟨w.heap.size, 0, none⟩ : Addr).add j) = some u := by
  intro j u h
  have e : (⟨w.heap.size, 0, none⟩ : Addr).add j = ⟨w.heap.size, j, none⟩ := by by_cases hj : j = 0 <;> simp [Addr.add, hj]
  rw [e, World.cell?_alloc_at _ _ _ _ rfl]
  simpa using h
theorem symCs_one (ss : List SymD) : ∀ u ∈ symCs ss, u.oneCell' = true := by
  intro u hu
  simp [symCs, symC] at hu
  obtain ⟨s, _, rfl | rfl | rfl⟩ := hu <;> rfl
def names2 : List ByteArray := [⟨#[120, 50]⟩, ⟨#[120, 49]⟩]
def names6 : List ByteArray := [⟨#[]⟩, ⟨#[65]⟩, ⟨#[116, 116]⟩, ⟨#[97, 98, 99, 100, 101, 102, 103, 104, 105]⟩, ⟨#[49, 97]⟩, ⟨#[97, 49]⟩]

set_option maxHeartbeats 3200000 in
theorem l2Draw_any (c : Nat) (a : Option Addr) (bs : List Int) (cap : Nat) (w : World) (hl : bs.length ≤ 1048576) (hc : Cur 95 w c a bs cap) (hbs : bs = [] ∨ ∀ x, a = some x → x.block < w.heap.size) :
    Calls Try.prog 66 #[.pointer (some ⟨c, 0, none⟩)] w fun e w' => ∃ (g o lc : Nat) (ss : List SymD), e = .returned (.slice (some ⟨g, o, none⟩) ss.length lc) ∧ smallSyms ss ∧ w.heap.size ≤ g ∧ RdS w' (some ⟨g, o, none⟩) ss ∧ Cur 95 w' c a bs cap ∧ w.grownBy w' (some c) := by
  have hclt := hc.lt
  have HS := l2Sig_any w
  go_enter Try.func66, Try.ntmps66
  go_wp2_with (go_at_call 34; refine HS.mono ?_; rintro e w1 ⟨rfl, hown1, hb1⟩; clear HS; have hC1 := hc.below hb1; have hg1 := below_grownL (c := c) hb1; clear hc hb1)
  go_wp2_with (go_at_call 41; refine (below_any c a bs cap 10 _ hl (by omega) (by omega) hC1).mono ?_; rintro e w2 ⟨k, rfl, hk, hC2, hg2⟩; have hown2 := hown1.kept hg2 (.inr (by simp [Value.ownBlock]; omega)); have hgr2 := grown_then hg1 hg2; have c11 : w2.cell? ⟨w.heap.size, 11, none⟩ = some (.bool false) := (hown2.cellAt 11 (by omega)).trans rfl; have f11 := hown2.frozenAt 11; clear hown1 hC1 hg1 hg2)
  · have hs2 := hgr2.size
    go_wp2_with (go_at_call 82; refine (pickStr_any _ _ _ _ _ _ names6 _ _ hl rfl (by decide) (by decide) (hC2.below ((Below.refl _ _).alloc (Nat.le_refl _) _)) (by simp) (Nat.ne_of_gt hC2.lt) (lit_strs w2 names6)).mono ?_; rintro e w3 ⟨s, rfl, hs, hC3, hg3⟩; have hown3 := (hown2.alloc _).kept hg3 (.inr (by simp [Value.ownBlock]; omega)); have hgr3 := grown_then (grown_alloc hgr2 _) hg3; have c3 : w3.cell? ⟨w.heap.size, 3, none⟩ = some (.string ⟨#[97]⟩) := (hown3.cellAt 3 (by omega)).trans rfl; have f3 := hown3.frozenAt 3; clear hown2 hC2 hgr2 hg3 c11 f11)
    go_ret
    have R := hown3.stored 3 (.string s)
    have hall : ∀ s ∈ names6, s.size ≤ 9 := by decide
    exact l2_fin (ss := sig7.set 1 ⟨s, 0, false⟩) R.1 rfl (small_set small7 ⟨hall s hs, by simp, by simp⟩) (hC3.grown R.2 hclt (Nat.le_refl _) hbs) (grown_own hgr3 R.2 (Nat.le_refl _))
  · have hs2 := hgr2.size
    go_wp2_with (go_at_call 42; refine (pickInt_any _ _ _ _ _ _ [-1, 3, 4] _ _ hl rfl (by decide) (by decide) (hC2.below ((Below.refl _ _).alloc (Nat.le_refl _) _)) (by simp) (Nat.ne_of_gt hC2.lt) (lit_cells w2 [-1, 3, 4])).mono ?_; rintro e w3 ⟨z, rfl, hz, hC3, hg3⟩; have hown3 := (hown2.alloc _).kept hg3 (.inr (by simp [Value.ownBlock]; omega)); have hgr3 := grown_then (grown_alloc hgr2 _) hg3; have c3 : w3.cell? ⟨w.heap.size, 7, none⟩ = some (.int .i64 0) := (hown3.cellAt 7 (by omega)).trans rfl; have f3 := hown3.frozenAt 7; clear hown2 hC2 hgr2 hg3 c11 f11)
    go_ret
    have R := hown3.stored 7 (.int .i64 z)
    have hz2 : -1 ≤ z ∧ z ≤ 4 := by simp at hz; omega
    exact l2_fin (ss := sig7.set 2 ⟨⟨#[98]⟩, z, false⟩) R.1 rfl (small_set small7 ⟨by simp [ByteArray.size], hz2.1, hz2.2⟩) (hC3.grown R.2 hclt (Nat.le_refl _) hbs) (grown_own hgr3 R.2 (Nat.le_refl _))
  · go_ret
    have R := hown2.stored 11 (.bool true)
    exact l2_fin (ss := sig7.set 3 ⟨⟨#[103]⟩, 1, true⟩) R.1 rfl (small_set small7 ⟨by decide, by simp, by simp⟩) (hC2.grown R.2 hclt (Nat.le_refl _) hbs) (grown_own hgr2 R.2 (Nat.le_refl _))
  · go_ret
    exact ⟨w.heap.size, 3, 6, sig7.drop 1, rfl, small_sub small7 (List.drop_sublist _ _), Nat.le_refl _, RdS_drop hown2, hC2, hgr2⟩
  · go_wp2_with (go_at_call 41; refine (below_any c a bs cap 4 _ hl (by omega) (by omega) hC2).mono ?_; rintro e w3 ⟨k4, rfl, hk4, hC3, hg3⟩; have hown3 := hown2.kept hg3 (.inr (by simp [Value.ownBlock]; omega)); have hgr3 := grown_then hgr2 hg3; clear hown2 hC2 hgr2 hg3 c11 f11)
    go_ret
    have hl4 : (sig7.take k4).length = k4 := by simp [sig7]; omega
    exact ⟨w.heap.size, 0, 7, sig7.take k4, by rw [hl4]; rfl, small_sub small7 (List.take_sublist _ _), Nat.le_refl _, RdS_take hown3, hC3, hgr3⟩
  · have hs2 := hgr2.size
    obtain ⟨i0, hi, hz0, hz1, hz2⟩ := info_parts info38
    go_wp2_with (first
      | (go_at_call 82; refine (pickStr_any _ _ _ _ _ _ names2 _ _ hl rfl (by decide) (by decide) (hC2.below ((Below.refl _ _).alloc (Nat.le_refl _) _)) (by simp) (Nat.ne_of_gt hC2.lt) (lit_strs w2 names2)).mono ?_; rintro e w3 ⟨s, rfl, hs, hC3, hg3⟩; have hown3 := (hown2.alloc _).kept hg3 (.inr (by simp [Value.ownBlock]; omega)); have hgr3 := grown_then (grown_alloc hgr2 _) hg3; have hs3 := hgr3.size; clear hown2 hC2 hgr2 hg3 c11 f11)
      | (at_builtin; refine wpList_append_own _ rfl (.tmp 40) (.tmp 46) 24 rfl w.heap.size 83 i0 _ 3 32 Try.underlying24 hi hz0 hz1 hz2 rfl (by decide) _ 7 _ rfl (hown3.alloc _) ⟨w3.heap.size, 0, none⟩ 2 2 (symCs [⟨⟨#[120, 49]⟩, 0, false⟩, ⟨s, 0, false⟩]) rfl rfl (lit_news w3 _ _) (symCs_one _) (by unfold maxLen; omega) (by omega) (by simp; omega) ?_; intro v' w4 hown4 hgrow4 hnil4; obtain ⟨g4, c4, rfl⟩ := own_some hown4 hnil4; have hg4 : (w3.alloc (.cells (symCs [⟨⟨#[120, 49]⟩, 0, false⟩, ⟨s, 0, false⟩]).toArray 83)).grownBy w4 (some w.heap.size) := hgrow4; clear hnil4 hgrow4))
    have hall : ∀ s ∈ names2, s.size ≤ 9 := by decide
    have hsz := hall s hs
    go_ret
    have hown5 : w4.ownsRow w.heap.size 83 3 (.slice (some ⟨g4, 0, none⟩) 9 c4) 9 (symCs (sig7 ++ [⟨⟨#[120, 49]⟩, 0, false⟩, ⟨s, 0, false⟩])) := by simpa [symCs] using hown4
    refine ⟨g4, 0, c4, sig7 ++ [⟨⟨#[120, 49]⟩, 0, false⟩, ⟨s, 0, false⟩], rfl, ⟨by simp [sig7], fun t ht => ?_⟩, (hown5.lt g4 rfl).1, RdS.own rfl hown5, (hC3.below ((Below.refl _ _).alloc (Nat.le_refl _) _)).grown hg4 hclt (Nat.le_refl _) hbs, grown_own (grown_alloc hgr3 _) hg4 (Nat.le_refl _)⟩
    rcases List.mem_append.1 ht with ht | ht
    · exact small7.2 t ht
    · simp at ht
      rcases ht with rfl | rfl
      · simp [ByteArray.size]
      · exact ⟨hsz, by simp, by simp⟩
  · go_ret
    exact l2_fin (ss := sig7) hown2 rfl small7 hC2 hgr2
end Go.Proofs.Ytollijngiioonaa

/- A drawn term and its functions. Conditions: at most 1048576 bytes. -/
namespace Go.Proofs.Ytollijngiioonaa
set_option maxRecDepth 100000
open Go.RowKit

/-- What a drawn term and its functions are. -/
structure One (w : World) (g o : Nat) (ss : List SymD) (t : TermD) (ta : Option Addr) (tc : Nat) (W : World) : Prop where
  bel : Below w.heap.size w W
  s : RdS W (some ⟨g, o, none⟩) ss
  hg : w.heap.size ≤ g
  sm : smallSyms ss
  o1 : OwnR W (fun x => w.heap.size ≤ x ∧ x < W.heap.size) ta tc t.kids
  l1 : t.kids.length ≤ tc
  w1 : isW t.f ∧ isW t.v
  p1 : partsT t ≤ 15
theorem rdS_stay2 {W X : World} {g o : Nat} {S : Nat → Prop} {ss : List SymD} (hs : RdS W (some ⟨g, o, none⟩) ss) (hx : Stay S W X) (hg : S g) : RdS X (some ⟨g, o, none⟩) ss := by
  rcases hs with h | ⟨b, off, e, hlt, hc⟩
  · exact .inl h
  · cases e
    exact .inr ⟨g, o, rfl, Nat.lt_of_lt_of_le hlt hx.size, fun i hi => ⟨hx.cell (hc i hi).1 hg, hx.cell (hc i hi).2.1 hg, hx.cell (hc i hi).2.2 hg⟩⟩
theorem One.stay {w w0 : World} {g o : Nat} {ss : List SymD} {t : TermD} {ta : Option Addr} {tc : Nat} {W W' : World} (h : One w g o ss t ta tc W) (hs : Stay (fun k => w.heap.size ≤ k) W W') (hb : Below w0.heap.size w0 W') (hw : w0.heap.size ≤ w.heap.size) : One w0 g o ss t ta tc W' :=
  ⟨hb, rdS_stay2 h.s hs h.hg, Nat.le_trans hw h.hg, h.sm, (h.o1.frame (fun k hk => hs.block k hk.2 hk.1) hs.size).mono (fun _ hk => ⟨Nat.le_trans hw hk.1, Nat.lt_of_lt_of_le hk.2 hs.size⟩), h.l1, h.w1, h.p1⟩
theorem One.on {w : World} {g o : Nat} {ss : List SymD} {t : TermD} {ta : Option Addr} {tc : Nat} {W W' : World} (h : One w g o ss t ta tc W) (hb : Below W.heap.size W W') : One w g o ss t ta tc W' :=
  h.stay (.of_below hb (fun _ hk _ => hk)) (h.bel.trans (hb.mono h.bel.size)) (Nat.le_refl _)

/-- While a term is drawn: the answer's place, the cursor. -/
structure LB1 (w : World) (c : Nat) (a : Option Addr) (bs : List Int) (cap : Nat) (W : World) : Prop where
  bel : Below w.heap.size w W
  hc : w.heap.size < c
  cur : Cur 95 W c a bs cap
  s : C3 W w.heap.size (.int .i64 0) (.int .i64 0) (.slice none 0 0)
  fs : ∀ j, W.frozen? ⟨w.heap.size, j, none⟩ = false
theorem LB1.stay {w : World} {c : Nat} {a : Option Addr} {bs : List Int} {cap : Nat} {W W' : World} (h : LB1 w c a bs cap W) (hs : Stay (fun k => k ≠ c) W W') (hc : Cur 95 W' c a bs cap) : LB1 w c a bs cap W' := by
  have h1 := h.hc
  have h2 := h.s.lt
  exact ⟨h.bel.trans (hs.below h.bel.size (fun k hk => by omega)), h.hc, hc, h.s.stay hs (by omega), fun j => (hs.frozen (p := ⟨w.heap.size, j, none⟩) (by simp only; omega) (by simp only; omega)).trans (h.fs j)⟩
theorem LB1.on {w : World} {c : Nat} {a : Option Addr} {bs : List Int} {cap : Nat} {W W' : World} (h : LB1 w c a bs cap W) (hb : Below W.heap.size W W') : LB1 w c a bs cap W' := h.stay (.of_below hb (fun _ hk _ => hk)) (h.cur.below hb)
theorem LB1.start {w w1 : World} {a : Option Addr} {bs : List Int} {cap : Nat} {W : World} (hW : W = w.alloc (.cells #[.int .i64 0, .int .i64 0, .slice none 0 0] 27)) (hC : Cur 95 w1 W.heap.size a bs cap) (hb : Below W.heap.size W w1) : LB1 w W.heap.size a bs cap w1 := by
  have h0 : Below w.heap.size w W := by rw [hW]; exact (Below.refl _ _).alloc (Nat.le_refl _) _
  have hz : W.heap.size = w.heap.size + 1 := by rw [hW]; simp
  have s : C3 W w.heap.size (.int .i64 0) (.int .i64 0) (.slice none 0 0) := by rw [hW]; exact ⟨by simp [go_sem], by simp [go_sem], by simp [go_sem]⟩
  have fs : ∀ j, W.frozen? ⟨w.heap.size, j, none⟩ = false := fun j => by rw [hW]; simp [go_sem]
  exact ⟨h0.trans (hb.mono h0.size), by omega, hC, s.on hb, fun j => (hb.frozen (p := ⟨w.heap.size, j, none⟩) (by simp only; omega)).trans (fs j)⟩
theorem one_end {w W X : World} {c : Nat} {a : Option Addr} {bs : List Int} {cap : Nat} {g o Ba la ha : Nat} {ss : List SymD} {t : TermD} {ta : Option Addr} {tc : Nat} (L : LB1 w c a bs cap W) (A : DB c Ba t ta tc la ha W) (hs : RdS W (some ⟨g, o, none⟩) ss) (hsm : smallSyms ss) (hg : w.heap.size < g) (hx : Stay (fun k => k ≠ w.heap.size) W X) : One w g o ss t ta tc X := by
  have h1 := L.hc
  have h2 := A.hc
  have h4 := A.hz
  have h6 := hx.size
  have a1 := A.own.frame (w' := X) (fun k hk => hx.block k (by omega) (by omega)) hx.size
  exact ⟨L.bel.trans (hx.below L.bel.size (fun k hk => by omega)), rdS_stay2 hs hx (by omega), by omega, hsm, a1.mono (fun k hk => by omega), A.le, A.wf, A.p⟩

set_option maxHeartbeats 1600000 in
set_option maxRecDepth 100000 in
theorem l4Draw_any (a : Option Addr) (bs : List Int) (cap : Nat) (w : World) (hl : bs.length ≤ 1048576) (hr : ∀ c, w.heap.size ≤ c → RdB w c a bs) :
    Calls Try.prog 36 #[.slice a bs.length cap] w fun e w' => ∃ g o lc ss t ta tc, e = .returned (.tuple #[.slice (some ⟨g, o, none⟩) ss.length lc, .agg #[.int .i64 t.f, .int .i64 t.v, .slice ta t.kids.length tc]]) ∧ One w g o ss t ta tc w' := by
  obtain ⟨W, hW⟩ : ∃ W, W = w.alloc (.cells #[.int .i64 0, .int .i64 0, .slice none 0 0] 27) := ⟨_, rfl⟩
  have hb0 : Below w.heap.size w W := by rw [hW]; exact (Below.refl _ _).alloc (Nat.le_refl _) _
  have hlt := (hr _ (Nat.le_refl _)).lt
  have HBS : Hid (∀ w' : World, w.heap.size ≤ w'.heap.size → (bs = [] ∨ ∀ x, a = some x → x.block < w'.heap.size)) := fun w' h => hlt.imp id (fun q x hx => Nat.lt_of_lt_of_le (q x hx) h)
  have CN := new_any a bs bs.length cap W rfl hl (fun c hc => (hr c (Nat.le_trans hb0.size hc)).on hb0)
  have HW : Hid _ := hW
  clear hW hr hlt
  go_enter Try.func36, Try.ntmps36
  go_wp2_with (first
    | (go_at_call 32; rw [← HW.out]; refine CN.mono ?_; rintro e w1 ⟨rfl, hC, hb1⟩; have L1 := LB1.start HW.out hC hb1; generalize W.heap.size = c at L1 ⊢; clear CN hC hb1 HW hb0)
    | (go_at_call 65; refine (draw_any c a bs cap w1 hl L1.cur (HBS.out _ L1.bel.size)).mono ?_; rintro e w2 ⟨t, ta, tc, rfl, T2⟩; have A2 := DB.new T2 (Nat.le_refl _) L1.cur.lt; have L2 := (L1.stay T2.st T2.cur).on (W' := w2.alloc (.cells #[.int .i64 t.f, .int .i64 t.v, .slice ta t.kids.length tc] 27)) ((Below.refl _ _).alloc (Nat.le_refl _) _); clear L1 T2)
    | (go_at_call 33; refine (once_any c a bs cap _ _ hl (by omega) (by omega) L2.cur).mono ?_; rintro e w3 ⟨b1, rfl, hC, hg⟩; have L3 := L2.stay (stay_of_grown hg) hC; have A3 := A2.stay (stay_of_grown hg); clear L2 A2 hC hg))
  · have D2 := l2Draw_any c a bs cap w3.drew hl (L3.cur.below (Below.refl _ _).drew) (HBS.out _ L3.bel.size)
    have hz3 := L3.bel.size
    have hw3 := L3.s.lt
    have a0 := A3.b.1
    have a1 := A3.b.2.1
    have a2 := A3.b.2.2
    have fs := L3.fs
    have s0 := L3.s.1
    have s1 := L3.s.2.1
    have s2 := L3.s.2.2
    have hA := A3.hB
    have hLc := L3.hc
    have n1 : w.heap.size ≠ w2.heap.size := by omega
    have HL3 : Hid _ := L3
    have HA3 : Hid _ := A3
    clear L3 A3
    go_region_with (go_at_call 66; refine D2.mono ?_; rintro e w8 ⟨g, o, lc, ss, rfl, hsm, hgz, hs8, hC8, hg8⟩; have hst : Stay (fun k => k ≠ c) w3 w8 := (Stay.drew _ _).trans (stay_of_grown hg8); have L8 := HL3.out.stay hst hC8; have A8 := HA3.out.stay hst; have hgz2 : w3.heap.size ≤ g := hgz; have HS8 : Hid _ := hs8; clear hst hC8 hg8 hs8 D2 hgz; clear a0 a1 a2 fs s0 s1 s2; have a0 := A8.b.1; have a1 := A8.b.2.1; have a2 := A8.b.2.2; have fs := L8.fs; have s0 := L8.s.1; have s1 := L8.s.2.1; have s2 := L8.s.2.2; have HL8 : Hid _ := L8; have HA8 : Hid _ := A8; clear L8 A8)
    all_goals
      try go_wp2_with fail
      have c1 := HL8.out.s.set (.int .i64 t.f) (.int .i64 t.v) (.slice ta t.kids.length tc)
      have hx := set3_stay w8 w.heap.size (.int .i64 t.f) (.int .i64 t.v) (.slice ta t.kids.length tc)
      exact bodyPost_ret (v := .tuple #[.slice (some ⟨g, o, none⟩) ss.length lc, .agg #[.int .i64 t.f, .int .i64 t.v, .slice ta t.kids.length tc]]) (by simp [results, Try.results36, go_sem, c1.1, c1.2.1, c1.2.2]) rfl ⟨g, o, lc, ss, t, ta, tc, rfl, one_end HL8.out HA8.out HS8.out hsm (by omega) hx⟩
  · have hw3 := L3.s.lt
    have a0 := A3.b.1
    have a1 := A3.b.2.1
    have a2 := A3.b.2.2
    have fs := L3.fs
    have s0 := L3.s.1
    have s1 := L3.s.2.1
    have s2 := L3.s.2.2
    have hA := A3.hB
    have hLc := L3.hc
    have n1 : w.heap.size ≠ w2.heap.size := by omega
    have HL3 : Hid _ := L3
    have HA3 : Hid _ := A3
    clear L3 A3
    go_region_with (go_at_call 34; refine (l2Sig_any _).mono ?_; rintro e w8 ⟨rfl, ho8, hb80⟩; have hb8 : Below w3.heap.size w3 w8 := (Below.refl _ _).drew.trans hb80; have L8 := HL3.out.on hb8; have A8 := HA3.out.on hb8; have HO8 : Hid _ := ho8; clear hb80 hb8 ho8; clear a0 a1 a2 fs s0 s1 s2; have a0 := A8.b.1; have a1 := A8.b.2.1; have a2 := A8.b.2.2; have fs := L8.fs; have s0 := L8.s.1; have s1 := L8.s.2.1; have s2 := L8.s.2.2; have HL8 : Hid _ := L8; have HA8 : Hid _ := A8; clear L8 A8)
    all_goals
      try go_wp2_with fail
      have c1 := HL8.out.s.set (.int .i64 t.f) (.int .i64 t.v) (.slice ta t.kids.length tc)
      have hx := set3_stay w8 w.heap.size (.int .i64 t.f) (.int .i64 t.v) (.slice ta t.kids.length tc)
      exact bodyPost_ret (v := .tuple #[.slice (some ⟨_, 0, none⟩) sig7.length 7, .agg #[.int .i64 t.f, .int .i64 t.v, .slice ta t.kids.length tc]]) (by simp [results, Try.results36, go_sem, c1.1, c1.2.1, c1.2.2, show sig7.length = 7 from rfl]) rfl ⟨_, 0, 7, sig7, t, ta, tc, rfl, one_end HL8.out HA8.out (RdS.own rfl HO8.out) small7 (by simp; omega) hx⟩

end Go.Proofs.Ytollijngiioonaa

/- What the law on one form draws: a term and its functions. Conditions: at most 1048576 bytes. -/
namespace Go.Proofs.Ytollijngiioonaa
set_option maxRecDepth 100000
open Go.RowKit

set_option maxHeartbeats 3200000 in
set_option maxRecDepth 100000 in
theorem drawNorm_any (a : Option Addr) (bs : List Int) (cap : Nat) (w : World) (hl : bs.length ≤ 1048576) (hr : ∀ c, w.heap.size ≤ c → RdB w c a bs) :
    Calls Try.prog 7 #[.slice a bs.length cap] w fun e w' => ∃ g o lc ss t ta tc, e = .returned (.tuple #[.slice (some ⟨g, o, none⟩) ss.length lc, .agg #[.int .i64 t.f, .int .i64 t.v, .slice ta t.kids.length tc]]) ∧ One w g o ss t ta tc w' := by
  obtain ⟨W, hW⟩ : ∃ W, W = w.alloc (.cells #[.int .i64 0, .int .i64 0, .slice none 0 0] 27) := ⟨_, rfl⟩
  have hb0 : Below w.heap.size w W := by rw [hW]; exact (Below.refl _ _).alloc (Nat.le_refl _) _
  have hlt := (hr _ (Nat.le_refl _)).lt
  have HBS : Hid (∀ w' : World, w.heap.size ≤ w'.heap.size → (bs = [] ∨ ∀ x, a = some x → x.block < w'.heap.size)) := fun w' h => hlt.imp id (fun q x hx => Nat.lt_of_lt_of_le (q x hx) h)
  have CN := new_any a bs bs.length cap W rfl hl (fun c hc => (hr c (Nat.le_trans hb0.size hc)).on hb0)
  have HW : Hid _ := hW
  have HR : Hid (∀ c, w.heap.size ≤ c → RdB w c a bs) := hr
  clear hW hr hlt
  go_enter Try.func7, Try.ntmps7
  go_wp2_with (first
    | (go_at_call 32; rw [← HW.out]; refine CN.mono ?_; rintro e w1 ⟨rfl, hC, hb1⟩; have L1 := LB1.start HW.out hC hb1; have HB1 : Hid (Below W.heap.size W w1) := hb1; generalize W.heap.size = c at L1 ⊢; clear CN hC hb1 HW)
    | (go_at_call 33; refine (once_any c a bs cap _ _ hl (by omega) (by omega) L1.cur).mono ?_; rintro e w3 ⟨b1, rfl, hC, hg⟩; have L3 := L1.stay (stay_of_grown hg) hC; have s0 := L3.s.1; have s1 := L3.s.2.1; have s2 := L3.s.2.2; have fs := L3.fs; have f0 := fs 0; have f1 := fs 1; have f2 := fs 2; have hc3 := L3.cur.lt; clear fs; have HL3 : Hid _ := L3; clear L1 hC hg L3)
    | (go_at_call 34; refine (l2Sig_any _).mono ?_; rintro e w8 ⟨rfl, ho8, hb8⟩; have L8 := HL3.out.on hb8; have hz38 := hb8.size; have HO8 : Hid _ := ho8; have HL8 : Hid _ := L8; clear hb8 ho8 s0 s1 s2 f0 f1 f2 HL3 L8)
    | (go_at_call 35; refine (deep_any c a bs cap 2 hl (by omega) (by omega) 3 w8 (by omega) HL8.out.cur (HBS.out _ HL8.out.bel.size)).mono ?_; rintro e w9 ⟨t, ta, tc, rfl, T9⟩; have L9 := HL8.out.stay T9.st T9.cur; have s0 := L9.s.1; have s1 := L9.s.2.1; have s2 := L9.s.2.2; have fs := L9.fs; have f0 := fs 0; have f1 := fs 1; have f2 := fs 2; clear fs; have HL9 : Hid _ := L9; have HT9 : Hid _ := T9; clear L9 T9)
    | (go_at_call 36; refine (l4Draw_any a bs cap w3 hl (codeOn HR.out HL3.out.bel)).mono ?_; rintro e w4 ⟨g, o, lc, ss, t, ta, tc, rfl, T1⟩; clear s0 s1 s2 f0 f1 f2))
  · have L9 := HL9.out
    have T9 := HT9.out
    have c1 := L9.s.set (.int .i64 t.f) (.int .i64 t.v) (.slice ta t.kids.length tc)
    have hx := set3_stay w9 w.heap.size (.int .i64 t.f) (.int .i64 t.v) (.slice ta t.kids.length tc)
    have hz9 := T9.st.size
    have hzx := hx.size
    have hlc := L9.hc
    have r8 := RdS.own rfl HO8.out
    have r9 := rdS_stay2 r8 T9.st (by omega)
    refine bodyPost_ret (v := .tuple #[.slice (some ⟨w3.heap.size, 0, none⟩) 7 7, .agg #[.int .i64 t.f, .int .i64 t.v, .slice ta t.kids.length tc]]) (by simp [results, Try.results7, go_sem, c1.1, c1.2.1, c1.2.2]) rfl ⟨w3.heap.size, 0, 7, sig7, t, ta, tc, rfl, L9.bel.trans (hx.below L9.bel.size (fun k hk => by omega)), rdS_stay2 r9 hx (by omega), by omega, small7, ((T9.own.frame (fun k hk => hx.block k (by omega) (by omega)) hx.size).mono (fun k hk => by omega)), T9.le, T9.wf, T9.parts⟩
  · have hb3 := HL3.out.bel
    have hzw := T1.bel.size
    have hlc := HL3.out.hc
    obtain ⟨X, hX⟩ : ∃ X, X = w4.alloc (.cells #[.int .i64 t.f, .int .i64 t.v, .slice ta t.kids.length tc] 27) := ⟨_, rfl⟩
    have hbx : Below w4.heap.size w4 X := by rw [hX]; exact (Below.refl _ _).alloc (Nat.le_refl _) _
    obtain ⟨x0, x1, x2⟩ : C3 X w4.heap.size (.int .i64 t.f) (.int .i64 t.v) (.slice ta t.kids.length tc) := by rw [hX]; exact ⟨by simp [go_sem], by simp [go_sem], by simp [go_sem]⟩
    rw [← hX]
    clear hX
    have hbX : Below w3.heap.size w3 X := T1.bel.trans (hbx.mono T1.bel.size)
    have HT : Hid (One w3 g o ss t ta tc X) := T1.on hbx
    have HS : Hid (C3 X w.heap.size (.int .i64 0) (.int .i64 0) (.slice none 0 0)) := HL3.out.s.on hbX
    have HB : Hid (Below w.heap.size w X) := hb3.trans (hbX.mono hb3.size)
    have f1 : ∀ j, X.frozen? ⟨w.heap.size, j, none⟩ = false := fun j => (hbX.frozen (p := ⟨w.heap.size, j, none⟩) (by simp only; omega)).trans (HL3.out.fs j)
    obtain ⟨s10, s11, s12⟩ := HS.out
    have hbw := hb3.size
    have n1 : w.heap.size ≠ w4.heap.size := by omega
    generalize w4.heap.size = B1 at x0 x1 x2 n1 hzw ⊢
    clear T1 hbx hbX hb3
    go_region
    all_goals
      try go_wp2_with fail
      have c1 := HS.out.set (.int .i64 t.f) (.int .i64 t.v) (.slice ta t.kids.length tc)
      have hx := (set3_stay X w.heap.size (.int .i64 t.f) (.int .i64 t.v) (.slice ta t.kids.length tc)).trans (Stay.drew _ _)
      have hT := HT.out.stay (w0 := w) (hx.weak (fun k _ hk => by omega)) (HB.out.trans (hx.below HB.out.size (fun k hk => by omega))) (by omega)
      exact bodyPost_ret (v := .tuple #[.slice (some ⟨g, o, none⟩) ss.length lc, .agg #[.int .i64 t.f, .int .i64 t.v, .slice ta t.kids.length tc]]) (by simp [results, Try.results7, go_sem, c1.1, c1.2.1, c1.2.2]) rfl ⟨g, o, lc, ss, t, ta, tc, rfl, hT⟩
end Go.Proofs.Ytollijngiioonaa

/- What a sort by a comparison of one's own needs: the comparison may lay blocks; what holds between two steps is a relation of one's own. sort.insertionSort_func. Conditions: rows of less than 2^62 elements. -/
namespace Go.Proofs.Ytollijngiioonaa
set_option maxRecDepth 100000
open Go.RowKit Go.Sort

variable {α : Type} [Inhabited α]

/-- The row holds d in W, as I says. The comparison (function g, bound to lb) tells lt of what the row holds and leaves all that was there as it was, the row's block alone is not promised; the swap (sf, bound to sb) turns the row alone. -/
structure SEnv (g : Nat) (lb : Array Value) (sf : Nat) (sb : Array Value) (lt : α → α → Bool) (n blk base : Nat) (I : Array α → World → Prop) : Prop where
  eg : ∀ args w, (callFunc g args).run Try.prog w = .ok (.enter g args) w
  less : ∀ (d : Array α) (W : World) (i j : Nat), I d W → i < n → j < n → Calls Try.prog g (#[.int .i64 i, .int .i64 j] ++ lb) W fun e W' => e = .returned (.bool (lt d[i]! d[j]!)) ∧ I d W' ∧ Stay (fun k => k ≠ blk) W W'
  swap : ∀ (d : Array α) (W : World) (i j : Nat), I d W → i < n → j < n → ∃ W', (callFunc sf (#[.int .i64 i, .int .i64 j] ++ sb)).run Try.prog W = .ok (.value (.tuple #[])) W' ∧ I (swp d i j) W' ∧ Stay (fun k => k ≠ blk) W W'
  on : ∀ (d : Array α) (W W' : World), I d W → Below W.heap.size W W' → I d W'
  set : ∀ (d : Array α) (W : World) (p : Addr) (v : Value), I d W → base ≤ p.block → I d (W.setCell p v)
  lt : ∀ (d : Array α) (W : World), I d W → base ≤ W.heap.size
  bb : blk < base
  size : ∀ (d : Array α) (W : World), I d W → d.size = n
  big : n < 4611686018427387904

/-- While a function of the sort runs: its parameter lies in a block of its own. -/
structure SSt (blk : Nat) (I : Array α → World → Prop) (w : World) (B : Nat) (g : Nat) (lb : Array Value) (sf : Nat) (sb : Array Value) (d : Array α) (wr : World) : Prop where
  i : I d wr
  c0 : wr.cell? ⟨B, 0, none⟩ = some (.func (.func g) #[] lb)
  c1 : wr.cell? ⟨B, 1, none⟩ = some (.func (.func sf) #[] sb)
  st : Stay (fun k => k ≠ blk) w wr
omit [Inhabited α] in
theorem SSt.step {blk : Nat} {I : Array α → World → Prop} {w : World} {B g : Nat} {lb : Array Value} {sf : Nat} {sb : Array Value} {d d' : Array α} {wr wr' : World} (h : SSt blk I w B g lb sf sb d wr) (hB : B ≠ blk) (hi : I d' wr') (hs : Stay (fun k => k ≠ blk) wr wr') : SSt blk I w B g lb sf sb d' wr' :=
  ⟨hi, hs.cell h.c0 hB, hs.cell h.c1 hB, h.st.trans hs⟩
theorem SSt.start {blk : Nat} {I : Array α → World → Prop} {w : World} {g : Nat} {lb : Array Value} {sf : Nat} {sb : Array Value} {lt : α → α → Bool} {n base : Nat} (E : SEnv g lb sf sb lt n blk base I) {d : Array α} (hi : I d w) (T : TypeId) :
    SSt blk I w w.heap.size g lb sf sb d (w.alloc (.cells #[.func (.func g) #[] lb, .func (.func sf) #[] sb] T)) :=
  ⟨E.on _ _ _ hi ((Below.refl _ _).alloc (Nat.le_refl _) _), by simp, by simp, .alloc _ _ _⟩

set_option maxHeartbeats 2000000 in
theorem insertion_any {g : Nat} {lb : Array Value} {sf : Nat} {sb : Array Value} {lt : α → α → Bool} {n blk base : Nat} {I : Array α → World → Prop} (E : SEnv g lb sf sb lt n blk base I) (a b : Nat) (d : Array α) (w : World) (h : I d w) (hab : a ≤ b) (hb : b ≤ n) :
    Calls Try.prog 109 #[.agg #[.func (.func g) #[] lb, .func (.func sf) #[] sb], .int .i64 a, .int .i64 b] w fun e w' => e = .returned (.tuple #[]) ∧ I (Sort.insertionSort lt d a b) w' ∧ Stay (fun k => k ≠ blk) w w' := by
  have eg := E.eg
  have hbig := E.big
  have HB : Hid (w.heap.size ≠ blk) := by have := E.lt _ _ h; have := E.bb; show _ ≠ _; omega
  have HE : Hid (SEnv g lb sf sb lt n blk base I) := E
  have S0 := SSt.start E h 128
  clear E h
  go_enter Try.func109, Try.ntmps109
  go_wp2
  go_loopw [6] (fun vi wr => ∃ (i : Nat) (dk : Array α), vi = .int .i64 i ∧ a < i ∧ i ≤ b + 1 ∧ SSt blk I w w.heap.size g lb sf sb dk wr ∧ Hid (insOuter lt a b i dk = insOuter lt a b (a + 1) d)) (fun vi _ => b + 1 - (intOf vi).toNat)
  case atStart => exact ⟨a + 1, d, by go_num, by omega, by omega, S0, rfl⟩
  case round =>
    obtain ⟨i, dk, rfl, hai, hib, S, HO⟩ := hrel
    clear S0
    go_wp2
    · go_loopw [7] (fun vj wr2 => ∃ (j : Nat) (dj : Array α), vj = .int .i64 j ∧ a ≤ j ∧ j ≤ i ∧ SSt blk I w w.heap.size g lb sf sb dj wr2 ∧ Hid (insInner lt a j dj = insInner lt a i dk)) (fun vj _ => (intOf vj).toNat)
      case atStart => exact ⟨i, dk, rfl, by omega, Nat.le_refl _, S, rfl⟩
      case round =>
        obtain ⟨j, dj, rfl, haj, hji, S2, HI⟩ := hrel
        have hlt : i < b := by assumption
        clear S
        have c0 := S2.c0
        have c1 := S2.c1
        by_cases hja : a < j
        · have hl := HE.out.less dj wr j (j - 1) S2.i (by omega) (by omega)
          rw [show (((j - 1 : Nat) : Int)) = (j : Int) - 1 by omega] at hl
          cases hlv : lt dj[j]! dj[j - 1]! with
          | true =>
            rw [hlv] at hl
            have HI2 : Hid (insInner lt a (j - 1) (swp dj j (j - 1)) = insInner lt a i dk) := by show _ = _; rw [← HI.out, insInner_go lt a j dj hja hlv]
            go_wp2_with (go_at_fn g; refine hl.mono ?_; rintro e w' ⟨rfl, hI', hS'⟩; have c1' := hS'.cell c1 HB.out; clear c0 c1)
            obtain ⟨W', hrun, hI2, hS2⟩ := HE.out.swap dj w' j (j - 1) hI' (by omega) (by omega)
            rw [show (((j - 1 : Nat) : Int)) = (j : Int) - 1 by omega] at hrun
            rw [hrun, Oper.upon_value]
            have S3 := (S2.step HB.out hI' hS').step HB.out hI2 hS2
            clear hrun hl
            go_wp2
            go_roundw
            case rel =>
              (repeat apply Exists.intro)
              exact ⟨⟨j - 1, swp dj j (j - 1), by congr 1 <;> omega, by omega, by omega, S3, HI2⟩, by rw [decide_eq_true hlt, show ((j - 1 : Nat) : Int) = (j : Int) - 1 by omega]⟩
            case measure => simp [intOf]; omega
          | false =>
            rw [hlv] at hl
            have HO2 : Hid (insOuter lt a b (i + 1) dj = insOuter lt a b (a + 1) d) := by show _ = _; rw [← HO.out, insOuter_go _ _ _ _ _ hlt, ← HI.out, insInner_stop _ _ _ _ (Or.inr hlv)]
            go_wp2_with (go_at_fn g; refine hl.mono ?_; rintro e w' ⟨rfl, hI', hS'⟩; clear c0 c1)
            have S3 := S2.step HB.out hI' hS'
            go_roundw
            case rel => exact ⟨i + 1, dj, by go_num, by omega, by omega, S3, HO2⟩
            case measure => simp [intOf]; omega
        · have HO2 : Hid (insOuter lt a b (i + 1) dj = insOuter lt a b (a + 1) d) := by show _ = _; rw [← HO.out, insOuter_go _ _ _ _ _ hlt, ← HI.out, insInner_stop _ _ _ _ (Or.inl (by omega))]
          go_wp2
          go_roundw
          case rel => exact ⟨i + 1, dj, by go_num, by omega, by omega, S2, HO2⟩
          case measure => simp [intOf]; omega
    · have hge : ¬ i < b := by assumption
      go_end0
      exact ⟨rfl, by unfold Sort.insertionSort; rw [← HO.out, insOuter_stop _ _ _ _ _ hge]; exact S.i, S.st⟩
end Go.Proofs.Ytollijngiioonaa

/- sort.siftDown_func, by a comparison that may lay blocks. Conditions: rows of less than 2^62 elements. -/
namespace Go.Proofs.Ytollijngiioonaa
set_option maxRecDepth 100000
open Go.RowKit Go.Sort

variable {α : Type} [Inhabited α]
variable {g : Nat} {lb : Array Value} {sf : Nat} {sb : Array Value} {lt : α → α → Bool} {n blk base : Nat} {I : Array α → World → Prop}

/-- The comparison, the places as the walk has them. -/
theorem SEnv.lessI (E : SEnv g lb sf sb lt n blk base I) (d : Array α) (W : World) (i j : Nat) (x y : Int) (hx : x = i) (hy : y = j) (h : I d W) (hi : i < n) (hj : j < n) :
    Calls Try.prog g (#[.int .i64 x, .int .i64 y] ++ lb) W fun e W' => e = .returned (.bool (lt d[i]! d[j]!)) ∧ I d W' ∧ Stay (fun k => k ≠ blk) W W' := by
  subst hx hy
  exact E.less d W i j h hi hj
/-- The same, what it tells known. -/
theorem SEnv.lessV (E : SEnv g lb sf sb lt n blk base I) (d : Array α) (i j : Nat) (x y : Int) (v : Bool) (hv : lt d[i]! d[j]! = v) (hx : x = i) (hy : y = j) (hi : i < n) (hj : j < n) (W : World) (h : I d W) :
    Calls Try.prog g (#[.int .i64 x, .int .i64 y] ++ lb) W fun e W' => e = .returned (.bool v) ∧ I d W' ∧ Stay (fun k => k ≠ blk) W W' := by
  subst hv
  exact E.lessI d W i j x y hx hy h hi hj
theorem SEnv.swapI (E : SEnv g lb sf sb lt n blk base I) (d : Array α) (W : World) (i j : Nat) (x y : Int) (hx : x = i) (hy : y = j) (h : I d W) (hi : i < n) (hj : j < n) :
    ∃ W', (callFunc sf (#[.int .i64 x, .int .i64 y] ++ sb)).run Try.prog W = .ok (.value (.tuple #[])) W' ∧ I (swp d i j) W' ∧ Stay (fun k => k ≠ blk) W W' := by
  subst hx hy
  exact E.swap d W i j h hi hj

set_option maxHeartbeats 4000000 in
theorem siftDown_any (E : SEnv g lb sf sb lt n blk base I) (lo hi first : Nat) (d : Array α) (w : World) (h : I d w) (hlo : lo ≤ hi) (hb : first + hi ≤ n) :
    Calls Try.prog 120 #[.agg #[.func (.func g) #[] lb, .func (.func sf) #[] sb], .int .i64 lo, .int .i64 hi, .int .i64 first] w fun e w' => e = .returned (.tuple #[]) ∧ I (siftDown lt hi first lo d) w' ∧ Stay (fun k => k ≠ blk) w w' := by
  have eg := E.eg
  have hbig := E.big
  have HB : Hid (w.heap.size ≠ blk) := by have := E.lt _ _ h; have := E.bb; show _ ≠ _; omega
  have HE : Hid (SEnv g lb sf sb lt n blk base I) := E
  have S0 := SSt.start E h 128
  clear E h
  go_enter Try.func120, Try.ntmps120
  go_wp2
  go_loopw [8] (fun v wr => ∃ (root : Nat) (dk : Array α), v = .int .i64 root ∧ root ≤ hi ∧ SSt blk I w w.heap.size g lb sf sb dk wr ∧ Hid (siftDown lt hi first root dk = siftDown lt hi first lo d)) (fun v _ => hi - (intOf v).toNat)
  case atStart => exact ⟨lo, d, rfl, hlo, S0, rfl⟩
  case round =>
    obtain ⟨root, dk, rfl, hr, S, HK⟩ := hrel
    clear S0
    have c0 := S.c0
    have c1 := S.c1
    by_cases h0 : hi ≤ 2 * root + 1
    · have h0z : (hi : Int) ≤ 2 * (root : Int) + 1 := by omega
      go_wp2
      go_end0
      exact ⟨rfl, by rw [← HK.out, sd_end lt dk h0]; exact S.i, S.st⟩
    · have h0z : ¬ ((hi : Int) ≤ 2 * (root : Int) + 1) := by omega
      by_cases h1 : 2 * root + 2 < hi
      · have h1z : 2 * (root : Int) + 1 + 1 < (hi : Int) := by omega
        cases hL : lt dk[first + (2 * root + 1)]! dk[first + (2 * root + 2)]! with
        | true =>
          have hl1 := HE.out.lessV dk (first + (2 * root + 1)) (first + (2 * root + 2)) ((first : Int) + (2 * (root : Int) + 1)) ((first : Int) + (2 * (root : Int) + 1) + 1) true hL (by omega) (by omega) (by omega) (by omega)
          cases hG : lt dk[first + root]! dk[first + (2 * root + 2)]! with
          | true =>
            have hl2 := HE.out.lessV dk (first + root) (first + (2 * root + 2)) ((first : Int) + (root : Int)) ((first : Int) + (2 * (root : Int) + 1 + 1)) true hG (by omega) (by omega) (by omega) (by omega)
            have HN : Hid (siftDown lt hi first (2 * root + 2) (swp dk (first + root) (first + (2 * root + 2))) = siftDown lt hi first lo d) := by show _ = _; rw [← HK.out, sd_right_go lt dk h1 hL hG]
            go_wp2_with (first
              | (go_at_fn g; refine (hl1 _ S.i).mono ?_; rintro e w2 ⟨rfl, hI2, hS2⟩; have S2 := S.step HB.out hI2 hS2; clear c0 c1 hl1; have c0 := S2.c0; have c1 := S2.c1)
              | (go_at_fn g; refine (hl2 _ S2.i).mono ?_; rintro e w3 ⟨rfl, hI3, hS3⟩; have S3 := S2.step HB.out hI3 hS3; have k0 := S3.c0; have k1 := S3.c1; obtain ⟨W4, hrun, hI4, hS4⟩ := HE.out.swapI dk w3 (first + root) (first + (2 * root + 2)) ((first : Int) + (root : Int)) ((first : Int) + (2 * (root : Int) + 1 + 1)) (by omega) (by omega) S3.i (by omega) (by omega); have S4 := S3.step HB.out hI4 hS4; clear hl2))
            go_roundw
            case rel => exact ⟨2 * root + 2, swp dk (first + root) (first + (2 * root + 2)), by go_num, by omega, S4, HN⟩
            case measure => simp [intOf]; omega
          | false =>
            have hl2 := HE.out.lessV dk (first + root) (first + (2 * root + 2)) ((first : Int) + (root : Int)) ((first : Int) + (2 * (root : Int) + 1 + 1)) false hG (by omega) (by omega) (by omega) (by omega)
            have HN : Hid (dk = siftDown lt hi first lo d) := by show _ = _; rw [← HK.out, sd_right_stop lt dk h1 hL hG]
            go_wp2_with (first
              | (go_at_fn g; refine (hl1 _ S.i).mono ?_; rintro e w2 ⟨rfl, hI2, hS2⟩; have S2 := S.step HB.out hI2 hS2; clear c0 c1 hl1; have c0 := S2.c0; have c1 := S2.c1)
              | (go_at_fn g; refine (hl2 _ S2.i).mono ?_; rintro e w3 ⟨rfl, hI3, hS3⟩; have S3 := S2.step HB.out hI3 hS3; have k0 := S3.c0; have k1 := S3.c1; clear hl2))
            refine bodyPost_ret (results_none rfl _ _ _) rfl ?_
            exact ⟨rfl, by rw [← HN.out]; exact S3.i, S3.st⟩
        | false =>
          have hl1 := HE.out.lessV dk (first + (2 * root + 1)) (first + (2 * root + 2)) ((first : Int) + (2 * (root : Int) + 1)) ((first : Int) + (2 * (root : Int) + 1) + 1) false hL (by omega) (by omega) (by omega) (by omega)
          cases hG : lt dk[first + root]! dk[first + (2 * root + 1)]! with
          | true =>
            have hl2 := HE.out.lessV dk (first + root) (first + (2 * root + 1)) ((first : Int) + (root : Int)) ((first : Int) + (2 * (root : Int) + 1)) true hG (by omega) (by omega) (by omega) (by omega)
            have HN : Hid (siftDown lt hi first (2 * root + 1) (swp dk (first + root) (first + (2 * root + 1))) = siftDown lt hi first lo d) := by show _ = _; rw [← HK.out, sd_left_go lt dk (by omega) (fun _ => hL) hG]
            go_wp2_with (first
              | (go_at_fn g; refine (hl1 _ S.i).mono ?_; rintro e w2 ⟨rfl, hI2, hS2⟩; have S2 := S.step HB.out hI2 hS2; clear c0 c1 hl1; have c0 := S2.c0; have c1 := S2.c1)
              | (go_at_fn g; refine (hl2 _ S2.i).mono ?_; rintro e w3 ⟨rfl, hI3, hS3⟩; have S3 := S2.step HB.out hI3 hS3; have k0 := S3.c0; have k1 := S3.c1; obtain ⟨W4, hrun, hI4, hS4⟩ := HE.out.swapI dk w3 (first + root) (first + (2 * root + 1)) ((first : Int) + (root : Int)) ((first : Int) + (2 * (root : Int) + 1)) (by omega) (by omega) S3.i (by omega) (by omega); have S4 := S3.step HB.out hI4 hS4; clear hl2))
            go_roundw
            case rel => exact ⟨2 * root + 1, swp dk (first + root) (first + (2 * root + 1)), by go_num, by omega, S4, HN⟩
            case measure => simp [intOf]; omega
          | false =>
            have hl2 := HE.out.lessV dk (first + root) (first + (2 * root + 1)) ((first : Int) + (root : Int)) ((first : Int) + (2 * (root : Int) + 1)) false hG (by omega) (by omega) (by omega) (by omega)
            have HN : Hid (dk = siftDown lt hi first lo d) := by show _ = _; rw [← HK.out, sd_left_stop lt dk (by omega) (fun _ => hL) hG]
            go_wp2_with (first
              | (go_at_fn g; refine (hl1 _ S.i).mono ?_; rintro e w2 ⟨rfl, hI2, hS2⟩; have S2 := S.step HB.out hI2 hS2; clear c0 c1 hl1; have c0 := S2.c0; have c1 := S2.c1)
              | (go_at_fn g; refine (hl2 _ S2.i).mono ?_; rintro e w3 ⟨rfl, hI3, hS3⟩; have S3 := S2.step HB.out hI3 hS3; have k0 := S3.c0; have k1 := S3.c1; clear hl2))
            refine bodyPost_ret (results_none rfl _ _ _) rfl ?_
            exact ⟨rfl, by rw [← HN.out]; exact S3.i, S3.st⟩
      · have h1z : ¬ (2 * (root : Int) + 1 + 1 < (hi : Int)) := by omega
        cases hG : lt dk[first + root]! dk[first + (2 * root + 1)]! with
        | true =>
          have hl2 := HE.out.lessV dk (first + root) (first + (2 * root + 1)) ((first : Int) + (root : Int)) ((first : Int) + (2 * (root : Int) + 1)) true hG (by omega) (by omega) (by omega) (by omega)
          have HN : Hid (siftDown lt hi first (2 * root + 1) (swp dk (first + root) (first + (2 * root + 1))) = siftDown lt hi first lo d) := by show _ = _; rw [← HK.out, sd_left_go lt dk (by omega) (fun h => absurd h h1) hG]
          go_wp2_with (go_at_fn g; refine (hl2 _ S.i).mono ?_; rintro e w3 ⟨rfl, hI3, hS3⟩; have S3 := S.step HB.out hI3 hS3; have k0 := S3.c0; have k1 := S3.c1; obtain ⟨W4, hrun, hI4, hS4⟩ := HE.out.swapI dk w3 (first + root) (first + (2 * root + 1)) ((first : Int) + (root : Int)) ((first : Int) + (2 * (root : Int) + 1)) (by omega) (by omega) S3.i (by omega) (by omega); have S4 := S3.step HB.out hI4 hS4; clear hl2)
          go_roundw
          case rel => exact ⟨2 * root + 1, swp dk (first + root) (first + (2 * root + 1)), by go_num, by omega, S4, HN⟩
          case measure => simp [intOf]; omega
        | false =>
          have hl2 := HE.out.lessV dk (first + root) (first + (2 * root + 1)) ((first : Int) + (root : Int)) ((first : Int) + (2 * (root : Int) + 1)) false hG (by omega) (by omega) (by omega) (by omega)
          have HN : Hid (dk = siftDown lt hi first lo d) := by show _ = _; rw [← HK.out, sd_left_stop lt dk (by omega) (fun h => absurd h h1) hG]
          go_wp2_with (go_at_fn g; refine (hl2 _ S.i).mono ?_; rintro e w3 ⟨rfl, hI3, hS3⟩; have S3 := S.step HB.out hI3 hS3; have k0 := S3.c0; have k1 := S3.c1; clear hl2)
          refine bodyPost_ret (results_none rfl _ _ _) rfl ?_
          exact ⟨rfl, by rw [← HN.out]; exact S3.i, S3.st⟩
end Go.Proofs.Ytollijngiioonaa

/- sort.heapSort_func, sort.reverseRange_func, by a comparison that may lay blocks. Conditions: rows of less than 2^62 elements. -/
namespace Go.Proofs.Ytollijngiioonaa
set_option maxRecDepth 100000
open Go.RowKit Go.Sort

variable {α : Type} [Inhabited α]
variable {g : Nat} {lb : Array Value} {sf : Nat} {sb : Array Value} {lt : α → α → Bool} {n blk base : Nat} {I : Array α → World → Prop}

set_option maxHeartbeats 1000000 in
theorem reverse_any (E : SEnv g lb sf sb lt n blk base I) (a b : Nat) (d : Array α) (w : World) (h : I d w) (hab : a < b) (hb : b ≤ n) :
    Calls Try.prog 113 #[.agg #[.func (.func g) #[] lb, .func (.func sf) #[] sb], .int .i64 a, .int .i64 b] w fun e w' => e = .returned (.tuple #[]) ∧ I (reverseRange d a b) w' ∧ Stay (fun k => k ≠ blk) w w' := by
  have eg := E.eg
  have hbig := E.big
  have HB : Hid (w.heap.size ≠ blk) := by have := E.lt _ _ h; have := E.bb; show _ ≠ _; omega
  have HE : Hid (SEnv g lb sf sb lt n blk base I) := E
  have S0 := SSt.start E h 128
  clear E h
  go_enter Try.func113, Try.ntmps113
  go_wp2
  go_loopw [6, 7] (fun vi vj wr => ∃ (i j : Nat) (dk : Array α), vi = .int .i64 i ∧ vj = .int .i64 j ∧ j < b ∧ i ≤ b ∧ SSt blk I w w.heap.size g lb sf sb dk wr ∧ Hid (reverseLoop i j dk = reverseRange d a b)) (fun vi vj _ => (intOf vj).toNat - (intOf vi).toNat)
  case atStart => exact ⟨a, b - 1, d, rfl, by congr 1; omega, by omega, by omega, S0, rfl⟩
  case round =>
    obtain ⟨i, j, dk, rfl, rfl, hj, hi, S, HK⟩ := hrel
    clear S0
    have c0 := S.c0
    have c1 := S.c1
    by_cases hij : i < j
    · have hijz : (i : Int) < (j : Int) := by omega
      obtain ⟨W4, hrun, hI4, hS4⟩ := HE.out.swapI dk wr i j i j rfl rfl S.i (by omega) (by omega)
      have S4 := S.step HB.out hI4 hS4
      have HN : Hid (reverseLoop (i + 1) (j - 1) (swp dk i j) = reverseRange d a b) := by have := HK.out; rw [reverseLoop, if_pos hij] at this; exact this
      go_wp2
      go_roundw
      case rel => exact ⟨i + 1, j - 1, swp dk i j, by go_num, by congr 1; omega, by omega, by omega, S4, HN⟩
      case measure => simp [intOf] <;> omega
    · have hijz : ¬ (i : Int) < (j : Int) := by omega
      have HN : Hid (dk = reverseRange d a b) := by have := HK.out; rw [reverseLoop, if_neg hij] at this; exact this
      go_wp2
      go_end0
      exact ⟨rfl, by rw [← HN.out]; exact S.i, S.st⟩

set_option maxHeartbeats 1000000 in
theorem heapSort_any (E : SEnv g lb sf sb lt n blk base I) (a b : Nat) (d : Array α) (w : World) (h : I d w) (hab : a < b) (hb : b ≤ n) :
    Calls Try.prog 110 #[.agg #[.func (.func g) #[] lb, .func (.func sf) #[] sb], .int .i64 a, .int .i64 b] w fun e w' => e = .returned (.tuple #[]) ∧ I (heapSort lt d a b) w' ∧ Stay (fun k => k ≠ blk) w w' := by
  have eg := E.eg
  have hbig := E.big
  have HB : Hid (w.heap.size ≠ blk) := by have := E.lt _ _ h; have := E.bb; show _ ≠ _; omega
  have HE : Hid (SEnv g lb sf sb lt n blk base I) := E
  have S0 := SSt.start E h 128
  clear E h
  go_enter Try.func110, Try.ntmps110
  have hdiv : IntKind.i64.wrap ((b : Int) - (a : Int)) = ((b - a : Nat) : Int) := by rw [IntKind.wrap_i64]; omega
  have hcb : (b : Int) - (a : Int) = ((b - a : Nat) : Int) := by omega
  obtain ⟨N, hN⟩ : ∃ N, N = b - a := ⟨_, rfl⟩
  rw [← hN] at hdiv hcb
  have hN1 : 1 ≤ N := by omega
  have hNa : a + N ≤ n := by omega
  have HH : Hid (heapSort lt d a b = heapPop lt a N (heapBuild lt N a ((N - 1) / 2 + 1) d)) := by show _ = _; unfold heapSort; rw [hN]
  have htd : ((N : Int) - 1).tdiv 2 = (((N - 1) / 2 : Nat) : Int) := by rw [show (N : Int) - 1 = ((N - 1 : Nat) : Int) by omega]; rfl
  clear hN
  go_wp2
  go_loopw [9] (fun v wr => ∃ (kx : Nat) (dk : Array α), v = .int .i64 ((kx : Int) - 1) ∧ kx ≤ (N - 1) / 2 + 1 ∧ SSt blk I w w.heap.size g lb sf sb dk wr ∧ Hid (heapBuild lt N a kx dk = heapBuild lt N a ((N - 1) / 2 + 1) d)) (fun v _ => (intOf v + 1).toNat)
  case atStart => exact ⟨(N - 1) / 2 + 1, d, by congr 1; omega, Nat.le_refl _, S0, rfl⟩
  case round =>
    obtain ⟨kx, dk, rfl, hkx, S, HK⟩ := hrel
    clear S0
    have c0 := S.c0
    have c1 := S.c1
    cases kx with
    | zero =>
      have HK2 : Hid (dk = heapBuild lt N a ((N - 1) / 2 + 1) d) := by show _ = _; rw [← HK.out, heapBuild]
      clear HK
      go_wp2
      go_loopw [10] (fun v wr2 => ∃ (kx : Nat) (dj : Array α), v = .int .i64 ((kx : Int) - 1) ∧ kx ≤ N ∧ SSt blk I w w.heap.size g lb sf sb dj wr2 ∧ Hid (heapPop lt a kx dj = heapPop lt a N dk)) (fun v _ => (intOf v + 1).toNat)
      case atStart => exact ⟨N, dk, rfl, Nat.le_refl _, S, rfl⟩
      case round =>
        obtain ⟨kx, dj, rfl, hkx2, S2, HK3⟩ := hrel
        clear S c0 c1
        have c0 := S2.c0
        have c1 := S2.c1
        cases kx with
        | zero =>
          have HF : Hid (dj = heapSort lt d a b) := by show _ = _; rw [HH.out, ← HK2.out, ← HK3.out, heapPop]
          go_wp2
          go_end0
          exact ⟨rfl, by rw [← HF.out]; exact S2.i, S2.st⟩
        | succ kx =>
          simp only [show (((kx + 1 : Nat) : Int) - 1) = (kx : Int) by omega]
          have hz : (0 : Int) ≤ (kx : Int) := by omega
          have hw1 : IntKind.i64.wrap ((a : Int) + (kx : Int)) = (a : Int) + (kx : Int) := by rw [IntKind.wrap_i64]; omega
          obtain ⟨W4, hrun, hI4, hS4⟩ := HE.out.swapI dj wr a (a + kx) a ((a : Int) + (kx : Int)) rfl (by omega) S2.i (by omega) (by omega)
          have S4 := S2.step HB.out hI4 hS4
          have k0 := S4.c0
          have k1 := S4.c1
          have C := siftDown_any HE.out 0 kx a (swp dj a (a + kx)) W4 S4.i (by omega) (by omega)
          have HN : Hid (heapPop lt a kx (siftDown lt kx a 0 (swp dj a (a + kx))) = heapPop lt a N dk) := by show _ = _; rw [← HK3.out, heapPop]
          go_wp2_with (go_at_call 120; refine C.mono ?_; rintro e w5 ⟨rfl, hI5, hS5⟩; have S5 := S4.step HB.out hI5 hS5; clear C)
          go_roundw
          case rel =>
            first
              | exact ⟨kx, _, by first | rfl | (congr 1; omega), by omega, S5, HN⟩
              | ((repeat apply Exists.intro); exact ⟨⟨kx, _, by first | rfl | (congr 1; omega), by omega, S5, HN⟩, rfl⟩)
          case measure => simp [intOf] <;> omega
    | succ kx =>
      simp only [show (((kx + 1 : Nat) : Int) - 1) = (kx : Int) by omega]
      have hz : (0 : Int) ≤ (kx : Int) := by omega
      have C := siftDown_any HE.out kx N a dk wr S.i (by omega) (by omega)
      have HN : Hid (heapBuild lt N a kx (siftDown lt N a kx dk) = heapBuild lt N a ((N - 1) / 2 + 1) d) := by show _ = _; rw [← HK.out, heapBuild]
      go_wp2_with (go_at_call 120; refine C.mono ?_; rintro e w5 ⟨rfl, hI5, hS5⟩; have S5 := S.step HB.out hI5 hS5; clear C)
      go_roundw
      case rel =>
        first
          | exact ⟨kx, _, by first | rfl | (congr 1; omega), by omega, S5, HN⟩
          | ((repeat apply Exists.intro); exact ⟨⟨kx, _, by first | rfl | (congr 1; omega), by omega, S5, HN⟩, rfl⟩)
      case measure => simp [intOf] <;> omega
end Go.Proofs.Ytollijngiioonaa

/- sort.order2_func, sort.median_func, sort.medianAdjacent_func, by a comparison that may lay blocks. Conditions: rows of less than 2^62 elements. -/
namespace Go.Proofs.Ytollijngiioonaa
set_option maxRecDepth 100000
open Go.RowKit Go.Sort

variable {α : Type} [Inhabited α]
variable {g : Nat} {lb : Array Value} {sf : Nat} {sb : Array Value} {lt : α → α → Bool} {n blk base : Nat} {I : Array α → World → Prop}

/-- The row, and the count of swaps in block P. -/
structure PSt (blk P : Nat) (I : Array α → World → Prop) (w : World) (d : Array α) (s : Nat) (wr : World) : Prop where
  i : I d wr
  c : wr.cell? ⟨P, 0, none⟩ = some (.int .i64 s)
  f : wr.frozen? ⟨P, 0, none⟩ = false
  st : Stay (fun k => k ≠ blk ∧ k ≠ P) w wr
omit [Inhabited α] in
theorem PSt.trans {P : Nat} {w w1 w2 : World} {d : Array α} {s s' : Nat} (h : PSt blk P I w d s w1) (k : PSt blk P I w1 d s' w2) : PSt blk P I w d s' w2 := ⟨k.i, k.c, k.f, h.st.trans k.st⟩

set_option maxHeartbeats 2000000 in
theorem order2_any (E : SEnv g lb sf sb lt n blk base I) (a b P s : Nat) (d : Array α) (w : World) (h : I d w) (ha : a < n) (hb : b < n) (hP : base ≤ P) (hc : w.cell? ⟨P, 0, none⟩ = some (.int .i64 s)) (hf : w.frozen? ⟨P, 0, none⟩ = false) (hs : s ≤ 100) :
    Calls Try.prog 127 #[.agg #[.func (.func g) #[] lb, .func (.func sf) #[] sb], .int .i64 a, .int .i64 b, .pointer (some ⟨P, 0, none⟩)] w fun e w' => e = .returned (.tuple #[.int .i64 (order2 lt d a b s).1, .int .i64 (order2 lt d a b s).2.1]) ∧ PSt blk P I w d (order2 lt d a b s).2.2 w' := by
  have eg := E.eg
  have hbig := E.big
  have hbb := E.bb
  have hlt0 := E.lt _ _ h
  have hPl : P < w.heap.size := World.block_lt_of_cell? _ _ hc
  have HB : Hid (w.heap.size ≠ blk) := by show _ ≠ _; omega
  have HP : Hid (P ≠ blk) := by show _ ≠ _; omega
  have HE : Hid (SEnv g lb sf sb lt n blk base I) := E
  have S0 := SSt.start E h 128
  obtain ⟨W, hW⟩ : ∃ W, W = w.alloc (.cells #[.func (.func g) #[] lb, .func (.func sf) #[] sb] 128) := ⟨_, rfl⟩
  rw [← hW] at S0
  have hbW : Below w.heap.size w W := by rw [hW]; exact (Below.refl _ _).alloc (Nat.le_refl _) _
  have hcW := keepC hbW hc
  have hfW : W.frozen? ⟨P, 0, none⟩ = false := (hbW.frozen (p := ⟨P, 0, none⟩) hPl).trans hf
  have c0 := S0.c0
  have c1 := S0.c1
  clear E h hc hf
  cases hL : lt d[b]! d[a]! with
  | true =>
    have HO : Hid (order2 lt d a b s = (b, a, s + 1)) := by show _ = _; unfold order2; rw [hL]; rfl
    have hl := HE.out.lessV d b a b a true hL rfl rfl hb ha W S0.i
    have hs2 : (s : Int) ≤ 100 := by omega
    clear hL
    rw [HO.out]
    go_enter Try.func127, Try.ntmps127
    go_wp2_with (go_at_fn g; rw [← hW]; refine hl.mono ?_; rintro e w2 ⟨rfl, hI2, hS2⟩; have S2 := S0.step HB.out hI2 hS2; have hc2 := hS2.cell hcW HP.out; have hf2 := (hS2.frozen (p := ⟨P, 0, none⟩) (World.block_lt_of_cell? _ _ hcW) HP.out).trans hfW; clear hl hW hcW hfW c0 c1)
    go_ret2
    refine ⟨rfl, HE.out.set _ _ _ _ hI2 hP, ?_, by rw [World.frozen?_setCell]; exact hf2, (S2.st.weak (fun _ _ hk => hk.1)).trans (.setCell _ _ (fun hk => hk.2 rfl))⟩
    rw [World.cell?_setCell_same _ _ _ hc2]; simp
  | false =>
    have HO : Hid (order2 lt d a b s = (a, b, s)) := by show _ = _; unfold order2; rw [hL]; rfl
    have hl := HE.out.lessV d b a b a false hL rfl rfl hb ha W S0.i
    clear hL
    rw [HO.out]
    go_enter Try.func127, Try.ntmps127
    go_wp2_with (go_at_fn g; rw [← hW]; refine hl.mono ?_; rintro e w2 ⟨rfl, hI2, hS2⟩; have S2 := S0.step HB.out hI2 hS2; have hc2 := hS2.cell hcW HP.out; have hf2 := (hS2.frozen (p := ⟨P, 0, none⟩) (World.block_lt_of_cell? _ _ hcW) HP.out).trans hfW; clear hl hW hcW hfW c0 c1)
    go_ret2
    exact ⟨rfl, hI2, hc2, hf2, S2.st.weak (fun _ _ hk => hk.1)⟩

theorem order2_lt (lt : α → α → Bool) (d : Array α) {a b s m : Nat} (ha : a < m) (hb : b < m) : (order2 lt d a b s).1 < m ∧ (order2 lt d a b s).2.1 < m ∧ (order2 lt d a b s).2.2 ≤ s + 1 := by
  unfold order2
  split <;> simp <;> omega

set_option maxHeartbeats 2000000 in
theorem median_any (E : SEnv g lb sf sb lt n blk base I) (a b c P s : Nat) (d : Array α) (w : World) (h : I d w) (ha : a < n) (hb : b < n) (hc' : c < n) (hP : base ≤ P) (hc : w.cell? ⟨P, 0, none⟩ = some (.int .i64 s)) (hf : w.frozen? ⟨P, 0, none⟩ = false) (hs : s ≤ 90) :
    Calls Try.prog 124 #[.agg #[.func (.func g) #[] lb, .func (.func sf) #[] sb], .int .i64 a, .int .i64 b, .int .i64 c, .pointer (some ⟨P, 0, none⟩)] w fun e w' => e = .returned (.int .i64 (median lt d a b c s).1) ∧ PSt blk P I w d (median lt d a b c s).2 w' := by
  have hPl : P < w.heap.size := World.block_lt_of_cell? _ _ hc
  have HE : Hid (SEnv g lb sf sb lt n blk base I) := E
  obtain ⟨W, hW⟩ : ∃ W, W = w.alloc (.cells #[.func (.func g) #[] lb, .func (.func sf) #[] sb] 128) := ⟨_, rfl⟩
  have hbW : Below w.heap.size w W := by rw [hW]; exact (Below.refl _ _).alloc (Nat.le_refl _) _
  have S0 : PSt blk P I w d s W := ⟨E.on _ _ _ h hbW, keepC hbW hc, (hbW.frozen (p := ⟨P, 0, none⟩) hPl).trans hf, .of_below hbW (fun _ hk _ => hk)⟩
  have b0 : W.cell? ⟨w.heap.size, 0, none⟩ = some (.func (.func g) #[] lb) := by rw [hW]; simp
  have b1 : W.cell? ⟨w.heap.size, 1, none⟩ = some (.func (.func sf) #[] sb) := by rw [hW]; simp
  have HN : Hid (w.heap.size ≠ blk ∧ w.heap.size ≠ P) := by have := E.lt _ _ h; have := E.bb; exact ⟨by omega, by omega⟩
  obtain ⟨x1, y1, s1, e1⟩ : ∃ x1 y1 s1, order2 lt d a b s = (x1, y1, s1) := ⟨_, _, _, rfl⟩
  have q1 := order2_lt lt d (s := s) ha hb
  rw [e1] at q1
  dsimp only at q1
  obtain ⟨x2, y2, s2, e2⟩ : ∃ x2 y2 s2, order2 lt d y1 c s1 = (x2, y2, s2) := ⟨_, _, _, rfl⟩
  have q2 := order2_lt lt d (s := s1) q1.2.1 hc'
  rw [e2] at q2
  dsimp only at q2
  obtain ⟨x3, y3, s3, e3⟩ : ∃ x3 y3 s3, order2 lt d x1 x2 s2 = (x3, y3, s3) := ⟨_, _, _, rfl⟩
  have HM : Hid (median lt d a b c s = (y3, s3)) := by show _ = _; unfold median; simp only [e1, e2, e3]
  have C1 := order2_any E a b P s d W S0.i ha hb hP S0.c S0.f (by omega)
  rw [e1] at C1
  have C2 := fun (W' : World) (S : PSt blk P I w d s1 W') => order2_any HE.out y1 c P s1 d W' S.i q1.2.1 hc' hP S.c S.f (by omega)
  have C3 := fun (W' : World) (S : PSt blk P I w d s2 W') => order2_any HE.out x1 x2 P s2 d W' S.i q1.1 q2.1 hP S.c S.f (by omega)
  simp only [e2] at C2
  simp only [e3] at C3
  rw [HM.out]
  clear E h hc hf e1 e2 e3 q1 q2
  go_enter Try.func124, Try.ntmps124
  go_wp2_with (first
    | (go_at_call 127; rw [← hW]; refine C1.mono ?_; rintro e w1 ⟨rfl, K1⟩; have S1 := S0.trans K1; have d0 := K1.st.cell b0 HN.out; have d1 := K1.st.cell b1 HN.out; clear C1 S0 K1 hW b0 b1)
    | (go_at_call 127; refine (C2 _ S1).mono ?_; rintro e w2 ⟨rfl, K2⟩; have S2 := S1.trans K2; have g0 := K2.st.cell d0 HN.out; have g1 := K2.st.cell d1 HN.out; clear C2 S1 K2 d0 d1)
    | (go_at_call 127; refine (C3 _ S2).mono ?_; rintro e w3 ⟨rfl, K3⟩; have S3 := S2.trans K3; clear C3 S2 K3 g0 g1))
  go_ret
  exact ⟨rfl, S3⟩

set_option maxHeartbeats 2000000 in
theorem medianAdj_any (E : SEnv g lb sf sb lt n blk base I) (a P s : Nat) (d : Array α) (w : World) (h : I d w) (ha0 : 1 ≤ a) (ha : a + 1 < n) (hP : base ≤ P) (hc : w.cell? ⟨P, 0, none⟩ = some (.int .i64 s)) (hf : w.frozen? ⟨P, 0, none⟩ = false) (hs : s ≤ 90) :
    Calls Try.prog 123 #[.agg #[.func (.func g) #[] lb, .func (.func sf) #[] sb], .int .i64 a, .pointer (some ⟨P, 0, none⟩)] w fun e w' => e = .returned (.int .i64 (medianAdjacent lt d a s).1) ∧ PSt blk P I w d (medianAdjacent lt d a s).2 w' := by
  have hPl : P < w.heap.size := World.block_lt_of_cell? _ _ hc
  have hbig := E.big
  obtain ⟨W, hW⟩ : ∃ W, W = w.alloc (.cells #[.func (.func g) #[] lb, .func (.func sf) #[] sb] 128) := ⟨_, rfl⟩
  have hbW : Below w.heap.size w W := by rw [hW]; exact (Below.refl _ _).alloc (Nat.le_refl _) _
  have S0 : PSt blk P I w d s W := ⟨E.on _ _ _ h hbW, keepC hbW hc, (hbW.frozen (p := ⟨P, 0, none⟩) hPl).trans hf, .of_below hbW (fun _ hk _ => hk)⟩
  have C := median_any E (a - 1) a (a + 1) P s d W S0.i (by omega) (by omega) (by omega) hP S0.c S0.f hs
  rw [show ((a - 1 : Nat) : Int) = (a : Int) - 1 by omega, show ((a + 1 : Nat) : Int) = (a : Int) + 1 by omega] at C
  clear E h hc hf
  unfold medianAdjacent
  go_enter Try.func123, Try.ntmps123
  go_wp2_with (go_at_call 124; rw [← hW]; refine C.mono ?_; rintro e w1 ⟨rfl, K1⟩; have S1 := S0.trans K1; clear C S0 K1 hW)
  go_ret
  exact ⟨rfl, S1⟩
end Go.Proofs.Ytollijngiioonaa

/- sort.choosePivot_func, by a comparison that may lay blocks. Conditions: rows of less than 2^62 elements; at least eight elements. -/
namespace Go.Proofs.Ytollijngiioonaa
set_option maxRecDepth 100000
open Go.RowKit Go.Sort

variable {α : Type} [Inhabited α]
variable {g : Nat} {lb : Array Value} {sf : Nat} {sb : Array Value} {lt : α → α → Bool} {n blk base : Nat} {I : Array α → World → Prop}

def hintI : Hint → Int
  | .unknown => 0
  | .increasing => 1
  | .decreasing => 2

theorem median_lt (lt : α → α → Bool) (d : Array α) {a b c s m : Nat} (ha : a < m) (hb : b < m) (hc : c < m) : (median lt d a b c s).1 < m ∧ (median lt d a b c s).2 ≤ s + 3 := by
  unfold median
  have q1 := order2_lt lt d (s := s) ha hb
  have q2 := order2_lt lt d (s := (order2 lt d a b s).2.2) q1.2.1 hc
  have q3 := order2_lt lt d (s := (order2 lt d (order2 lt d a b s).2.1 c (order2 lt d a b s).2.2).2.2) q1.1 q2.1
  exact ⟨q3.2.1, by dsimp only; omega⟩
/-- What was there before the call but the row lies as it lay. -/
theorem fin_stay {w wr : World} {P : Nat} (hP : w.heap.size ≤ P) (h : Stay (fun k => k ≠ blk ∧ k ≠ P) w wr) : Stay (fun k => k ≠ blk) w wr := h.weak (fun k hk h => ⟨h, by omega⟩)

set_option maxHeartbeats 2000000 in
theorem choosePivot_any (E : SEnv g lb sf sb lt n blk base I) (a b : Nat) (d : Array α) (w : World) (h : I d w) (hab : a + 8 ≤ b) (hb : b ≤ n) :
    Calls Try.prog 112 #[.agg #[.func (.func g) #[] lb, .func (.func sf) #[] sb], .int .i64 a, .int .i64 b] w fun e w' => e = .returned (.tuple #[.int .i64 (choosePivot lt d a b).1, .int .i64 (hintI (choosePivot lt d a b).2)]) ∧ I d w' ∧ Stay (fun k => k ≠ blk) w w' := by
  have hbig := E.big
  obtain ⟨N, hN⟩ : ∃ N, N = b - a := ⟨_, rfl⟩
  obtain ⟨q, hq⟩ : ∃ q, q = N / 4 := ⟨_, rfl⟩
  have hbN : (b : Int) - (a : Int) = (N : Int) := by omega
  have hw0 : IntKind.i64.wrap ((b : Int) - (a : Int)) = (N : Int) := by rw [IntKind.wrap_i64]; omega
  have htd : (N : Int).tdiv 4 = (q : Int) := by rw [hq]; rfl
  have HC : Hid (choosePivot lt d a b = (let i := a + q; let j := a + q * 2; let k := a + q * 3; let r : Nat × Nat := if N ≥ 50 then (let ri := medianAdjacent lt d i 0; let rj := medianAdjacent lt d j ri.2; let rk := medianAdjacent lt d k rj.2; median lt d ri.1 rj.1 rk.1 rk.2) else median lt d i j k 0; (r.1, if r.2 = 0 then .increasing else if r.2 = 12 then .decreasing else .unknown))) := by
    show _ = _
    unfold choosePivot
    simp only [← hN, ← hq, Nat.mul_one]
    rw [if_pos (show N ≥ 8 by omega)]
  have hq4 : 4 * q ≤ N ∧ 2 ≤ q := by omega
  have HE : Hid (SEnv g lb sf sb lt n blk base I) := E
  have hdiv : (N : Int) / 4 = (q : Int) := by omega
  have hNn : a + N ≤ n := by omega
  obtain ⟨W, hW⟩ : ∃ W, W = (w.alloc (.cells #[.func (.func g) #[] lb, .func (.func sf) #[] sb] 128)).alloc (.cells #[.int .i64 0] 3) := ⟨_, rfl⟩
  have hbW : Below w.heap.size w W := by rw [hW]; exact ((Below.refl _ _).alloc (Nat.le_refl _) _).alloc (by simp) _
  have hP1 : w.heap.size ≤ w.heap.size + 1 := by omega
  have hP : base ≤ w.heap.size + 1 := by have := E.lt _ _ h; omega
  have HN : Hid (w.heap.size ≠ blk ∧ w.heap.size ≠ w.heap.size + 1) := by have := E.lt _ _ h; have := E.bb; exact ⟨by omega, by omega⟩
  have S0 : PSt blk (w.heap.size + 1) I w d 0 W := ⟨E.on _ _ _ h hbW, by rw [hW]; simp [go_sem], by rw [hW]; simp [go_sem], .of_below hbW (fun _ hk _ => hk)⟩
  have S00 : W.cell? ⟨w.heap.size, 0, none⟩ = some (.func (.func g) #[] lb) := by rw [hW]; simp [go_sem]
  have S01 : W.cell? ⟨w.heap.size, 1, none⟩ = some (.func (.func sf) #[] sb) := by rw [hW]; simp [go_sem]
  clear E h hN hq hab hbW
  by_cases h50 : 50 ≤ N
  · have h50z : (50 : Int) ≤ (N : Int) := by omega
    have h8z : (8 : Int) ≤ (N : Int) := by omega
    obtain ⟨i1, s1, e1⟩ : ∃ i1 s1, medianAdjacent lt d (a + q) 0 = (i1, s1) := ⟨_, _, rfl⟩
    obtain ⟨j1, s2, e2⟩ : ∃ j1 s2, medianAdjacent lt d (a + q * 2) s1 = (j1, s2) := ⟨_, _, rfl⟩
    obtain ⟨k1, s3, e3⟩ : ∃ k1 s3, medianAdjacent lt d (a + q * 3) s2 = (k1, s3) := ⟨_, _, rfl⟩
    obtain ⟨pv, sw, e4⟩ : ∃ pv sw, median lt d i1 j1 k1 s3 = (pv, sw) := ⟨_, _, rfl⟩
    have r1 := median_lt lt d (s := 0) (m := n) (a := a + q - 1) (b := a + q) (c := a + q + 1) (by omega) (by omega) (by omega)
    have r2 := median_lt lt d (s := s1) (m := n) (a := a + q * 2 - 1) (b := a + q * 2) (c := a + q * 2 + 1) (by omega) (by omega) (by omega)
    have r3 := median_lt lt d (s := s2) (m := n) (a := a + q * 3 - 1) (b := a + q * 3) (c := a + q * 3 + 1) (by omega) (by omega) (by omega)
    unfold medianAdjacent at e1 e2 e3
    rw [e1] at r1; rw [e2] at r2; rw [e3] at r3
    dsimp only at r1 r2 r3
    have r4 := median_lt lt d (s := s3) (m := n) r1.1 r2.1 r3.1
    rw [e4] at r4
    dsimp only at r4
    have A1 := fun (W' : World) (S : PSt blk (w.heap.size + 1) I w d 0 W') => medianAdj_any HE.out (a + q) (w.heap.size + 1) 0 d W' S.i (by omega) (by omega) hP S.c S.f (by omega)
    have A2 := fun (W' : World) (S : PSt blk (w.heap.size + 1) I w d s1 W') => medianAdj_any HE.out (a + q * 2) (w.heap.size + 1) s1 d W' S.i (by omega) (by omega) hP S.c S.f (by omega)
    have A3 := fun (W' : World) (S : PSt blk (w.heap.size + 1) I w d s2 W') => medianAdj_any HE.out (a + q * 3) (w.heap.size + 1) s2 d W' S.i (by omega) (by omega) hP S.c S.f (by omega)
    have CM := fun (W' : World) (S : PSt blk (w.heap.size + 1) I w d s3 W') => median_any HE.out i1 j1 k1 (w.heap.size + 1) s3 d W' S.i r1.1 r2.1 r3.1 hP S.c S.f (by omega)
    unfold medianAdjacent at A1 A2 A3
    simp only [e1] at A1
    simp only [e2] at A2
    simp only [e3] at A3
    simp only [e4] at CM
    simp only [show ((a + q : Nat) : Int) = (a : Int) + (q : Int) by omega] at A1
    simp only [show ((a + q * 2 : Nat) : Int) = (a : Int) + (q : Int) * 2 by omega] at A2
    simp only [show ((a + q * 3 : Nat) : Int) = (a : Int) + (q : Int) * 3 by omega] at A3
    have HF : Hid (choosePivot lt d a b = (pv, if sw = 0 then Hint.increasing else if sw = 12 then Hint.decreasing else Hint.unknown)) := by show _ = _; rw [HC.out]; simp only [medianAdjacent, e1, e2, e3, e4]; rw [if_pos h50]
    have hswb : (sw : Int) ≤ 100 := by omega
    clear HC
    by_cases hs0 : sw = 0
    · subst hs0
      rw [HF.out]
      go_enter Try.func112, Try.ntmps112
      go_wp2_with (first
        | (go_at_call 123; rw [← hW]; refine (A1 _ S0).mono ?_; rintro e w1 ⟨rfl, K1⟩; have S1 := S0.trans K1; have S10 := K1.st.cell S00 HN.out; have S11 := K1.st.cell S01 HN.out; clear A1 K1 S00 S01)
        | (go_at_call 123;  refine (A2 _ S1).mono ?_; rintro e w2 ⟨rfl, K2⟩; have S2 := S1.trans K2; have S20 := K2.st.cell S10 HN.out; have S21 := K2.st.cell S11 HN.out; clear A2 K2 S10 S11)
        | (go_at_call 123;  refine (A3 _ S2).mono ?_; rintro e w3 ⟨rfl, K3⟩; have S3 := S2.trans K3; have S30 := K3.st.cell S20 HN.out; have S31 := K3.st.cell S21 HN.out; clear A3 K3 S20 S21)
        | (go_at_call 124;  refine (CM _ S3).mono ?_; rintro e w9 ⟨rfl, K9⟩; have S9 := S3.trans K9; have c9 := S9.c; clear CM K9))
      go_ret2
      exact ⟨rfl, S9.i, fin_stay hP1 S9.st⟩
    · have hs0e : ((sw : Int) == 0) = false := by simp [hs0]
      by_cases hs12 : sw = 12
      · subst hs12
        rw [HF.out]
        go_enter Try.func112, Try.ntmps112
        go_wp2_with (first
          | (go_at_call 123; rw [← hW]; refine (A1 _ S0).mono ?_; rintro e w1 ⟨rfl, K1⟩; have S1 := S0.trans K1; have S10 := K1.st.cell S00 HN.out; have S11 := K1.st.cell S01 HN.out; clear A1 K1 S00 S01)
          | (go_at_call 123;  refine (A2 _ S1).mono ?_; rintro e w2 ⟨rfl, K2⟩; have S2 := S1.trans K2; have S20 := K2.st.cell S10 HN.out; have S21 := K2.st.cell S11 HN.out; clear A2 K2 S10 S11)
          | (go_at_call 123;  refine (A3 _ S2).mono ?_; rintro e w3 ⟨rfl, K3⟩; have S3 := S2.trans K3; have S30 := K3.st.cell S20 HN.out; have S31 := K3.st.cell S21 HN.out; clear A3 K3 S20 S21)
          | (go_at_call 124;  refine (CM _ S3).mono ?_; rintro e w9 ⟨rfl, K9⟩; have S9 := S3.trans K9; have c9 := S9.c; clear CM K9))
        go_ret2
        exact ⟨rfl, S9.i, fin_stay hP1 S9.st⟩
      · have hs12e : ((sw : Int) == 12) = false := by simp; omega
        rw [HF.out, if_neg hs0, if_neg hs12]
        go_enter Try.func112, Try.ntmps112
        go_wp2_with (first
          | (go_at_call 123; rw [← hW]; refine (A1 _ S0).mono ?_; rintro e w1 ⟨rfl, K1⟩; have S1 := S0.trans K1; have S10 := K1.st.cell S00 HN.out; have S11 := K1.st.cell S01 HN.out; clear A1 K1 S00 S01)
          | (go_at_call 123;  refine (A2 _ S1).mono ?_; rintro e w2 ⟨rfl, K2⟩; have S2 := S1.trans K2; have S20 := K2.st.cell S10 HN.out; have S21 := K2.st.cell S11 HN.out; clear A2 K2 S10 S11)
          | (go_at_call 123;  refine (A3 _ S2).mono ?_; rintro e w3 ⟨rfl, K3⟩; have S3 := S2.trans K3; have S30 := K3.st.cell S20 HN.out; have S31 := K3.st.cell S21 HN.out; clear A3 K3 S20 S21)
          | (go_at_call 124;  refine (CM _ S3).mono ?_; rintro e w9 ⟨rfl, K9⟩; have S9 := S3.trans K9; have c9 := S9.c; clear CM K9))
        go_ret2
        exact ⟨rfl, S9.i, fin_stay hP1 S9.st⟩
  · have h50z : ¬ (50 : Int) ≤ (N : Int) := by omega
    have h8z : (8 : Int) ≤ (N : Int) := by omega
    obtain ⟨pv, sw, e4⟩ : ∃ pv sw, median lt d (a + q) (a + q * 2) (a + q * 3) 0 = (pv, sw) := ⟨_, _, rfl⟩
    have r4 := median_lt lt d (s := 0) (m := n) (a := a + q) (b := a + q * 2) (c := a + q * 3) (by omega) (by omega) (by omega)
    rw [e4] at r4
    dsimp only at r4
    have CM := fun (W' : World) (S : PSt blk (w.heap.size + 1) I w d 0 W') => median_any HE.out (a + q) (a + q * 2) (a + q * 3) (w.heap.size + 1) 0 d W' S.i (by omega) (by omega) (by omega) hP S.c S.f (by omega)
    simp only [e4] at CM
    simp only [show ((a + q : Nat) : Int) = (a : Int) + (q : Int) by omega, show ((a + q * 2 : Nat) : Int) = (a : Int) + (q : Int) * 2 by omega, show ((a + q * 3 : Nat) : Int) = (a : Int) + (q : Int) * 3 by omega] at CM
    have HF : Hid (choosePivot lt d a b = (pv, if sw = 0 then Hint.increasing else if sw = 12 then Hint.decreasing else Hint.unknown)) := by show _ = _; rw [HC.out]; simp only [e4]; rw [if_neg h50]
    have hswb : (sw : Int) ≤ 100 := by omega
    clear HC
    by_cases hs0 : sw = 0
    · subst hs0
      rw [HF.out]
      go_enter Try.func112, Try.ntmps112
      go_wp2_with (first
        | (go_at_call 124; rw [← hW]; refine (CM _ S0).mono ?_; rintro e w9 ⟨rfl, K9⟩; have S9 := S0.trans K9; have c9 := S9.c; clear CM K9))
      go_ret2
      exact ⟨rfl, S9.i, fin_stay hP1 S9.st⟩
    · have hs0e : ((sw : Int) == 0) = false := by simp [hs0]
      by_cases hs12 : sw = 12
      · omega
      · have hs12e : ((sw : Int) == 12) = false := by simp; omega
        rw [HF.out, if_neg hs0, if_neg hs12]
        go_enter Try.func112, Try.ntmps112
        go_wp2_with (first
          | (go_at_call 124; rw [← hW]; refine (CM _ S0).mono ?_; rintro e w9 ⟨rfl, K9⟩; have S9 := S0.trans K9; have c9 := S9.c; clear CM K9))
        go_ret2
        exact ⟨rfl, S9.i, fin_stay hP1 S9.st⟩
end Go.Proofs.Ytollijngiioonaa

/- sort.partitionEqual_func, by a comparison that may lay blocks. Conditions: rows of less than 2^62 elements. -/
namespace Go.Proofs.Ytollijngiioonaa
set_option maxRecDepth 100000
open Go.RowKit Go.Sort

variable {α : Type} [Inhabited α]
variable {g : Nat} {lb : Array Value} {sf : Nat} {sb : Array Value} {lt : α → α → Bool} {n blk base : Nat} {I : Array α → World → Prop}

set_option maxHeartbeats 4000000 in
theorem partitionEqual_any (E : SEnv g lb sf sb lt n blk base I) (a b pivot : Nat) (d : Array α) (w : World) (h : I d w) (hap : a ≤ pivot) (hpb : pivot < b) (hb : b ≤ n) :
    Calls Try.prog 115 #[.agg #[.func (.func g) #[] lb, .func (.func sf) #[] sb], .int .i64 a, .int .i64 b, .int .i64 pivot] w fun e w' => e = .returned (.int .i64 (partitionEqual lt d a b pivot).1) ∧ I (partitionEqual lt d a b pivot).2 w' ∧ Stay (fun k => k ≠ blk) w w' := by
  have eg := E.eg
  have hbig := E.big
  have HB : Hid (w.heap.size ≠ blk) := by have := E.lt _ _ h; have := E.bb; show _ ≠ _; omega
  have HE : Hid (SEnv g lb sf sb lt n blk base I) := E
  have S0 := SSt.start E h 128
  obtain ⟨W, hW⟩ : ∃ W, W = w.alloc (.cells #[.func (.func g) #[] lb, .func (.func sf) #[] sb] 128) := ⟨_, rfl⟩
  rw [← hW] at S0
  obtain ⟨W1, hrun0, hI1, hS1⟩ := E.swapI d W a pivot a pivot rfl rfl S0.i (by omega) (by omega)
  have S1' := S0.step HB.out hI1 hS1
  rw [hW] at hrun0
  have z0 : (w.alloc (.cells #[.func (.func g) #[] lb, .func (.func sf) #[] sb] 128)).cell? ⟨w.heap.size, 0, none⟩ = some (.func (.func g) #[] lb) := by simp
  have z1 : (w.alloc (.cells #[.func (.func g) #[] lb, .func (.func sf) #[] sb] 128)).cell? ⟨w.heap.size, 1, none⟩ = some (.func (.func sf) #[] sb) := by simp
  clear E h S0 hI1 hS1 hW
  go_enter Try.func115, Try.ntmps115
  go_wp2
  go_loopw [9, 10] (fun vi vj wr => ∃ (i j : Nat) (dk : Array α), vi = .int .i64 i ∧ vj = .int .i64 j ∧ a < i ∧ i ≤ j + 1 ∧ j < b ∧ SSt blk I w w.heap.size g lb sf sb dk wr ∧ Hid (partEqLoop lt a i j dk = partitionEqual lt d a b pivot)) (fun vi vj _ => (intOf vj).toNat + 1 - (intOf vi).toNat)
  case atStart => exact ⟨a + 1, b - 1, swp d a pivot, by go_num, by congr 1; omega, by omega, by omega, by omega, S1', rfl⟩
  case round =>
    obtain ⟨i, j, dk, rfl, rfl, hai, hij, hjb, S, HK⟩ := hrel
    clear S1'
    go_wp2
    go_loopw [9] (fun vi w1 => ∃ i1 : Nat, vi = .int .i64 i1 ∧ i ≤ i1 ∧ i1 ≤ j + 1 ∧ SSt blk I w w.heap.size g lb sf sb dk w1 ∧ Hid (scanUp (fun x => !lt dk[a]! x) dk j i1 = scanUp (fun x => !lt dk[a]! x) dk j i)) (fun vi _ => j + 1 - (intOf vi).toNat)
    case atStart => exact ⟨i, by first | rfl | go_num | (congr 1; omega), Nat.le_refl _, hij, S, rfl⟩
    case round =>
      obtain ⟨i1, rfl, h1, h2, S1, HU⟩ := hrel
      have c0 := S1.c0
      have c1 := S1.c1
      by_cases hle : i1 ≤ j
      · have hlez : (i1 : Int) ≤ (j : Int) := by omega
        cases hv : lt dk[a]! dk[i1]! with
        | false =>
          have hl := HE.out.lessV dk a i1 a i1 false hv rfl rfl (by omega) (by omega) _ S1.i
          have HU2 : Hid (scanUp (fun x => !lt dk[a]! x) dk j (i1 + 1) = scanUp (fun x => !lt dk[a]! x) dk j i) := (scanUp_go (fun x => !lt dk[a]! x) dk j i1 hle (by simp [hv])).symm.trans HU.out
          go_wp2_with (go_at_fn g; refine hl.mono ?_; rintro e w4 ⟨rfl, hI4, hS4⟩; have S4 := S1.step HB.out hI4 hS4; clear hl)
          go_roundw
          case rel =>
            first
              | exact ⟨i1 + 1, by go_num, by omega, by omega, S4, HU2⟩
              | ((repeat apply Exists.intro); refine ⟨?_, rfl⟩; exact ⟨i1 + 1, by go_num, by omega, by omega, S4, HU2⟩)
              | ((repeat apply Exists.intro); exact ⟨⟨i1 + 1, by go_num, by omega, by omega, S4, HU2⟩, by rw [DEC.out, show ((i1 + 1 : Nat) : Int) = (i1 : Int) + 1 by omega]⟩)
          case measure => simp [intOf] <;> omega
        | true =>
          have hl := HE.out.lessV dk a i1 a i1 true hv rfl rfl (by omega) (by omega) _ S1.i
          have HI : Hid (i1 = scanUp (fun x => !lt dk[a]! x) dk j i) := (scanUp_end (fun x => !lt dk[a]! x) dk j i1 (Or.inr (by simp [hv]))).symm.trans HU.out
          go_wp2_with (go_at_fn g; refine hl.mono ?_; rintro e w4 ⟨rfl, hI4, hS4⟩; have S2 := S1.step HB.out hI4 hS4; clear hl c0 c1)
          go_loopw [10] (fun vj w2 => ∃ j1 : Nat, vj = .int .i64 j1 ∧ j1 ≤ j ∧ i1 ≤ j1 + 1 ∧ SSt blk I w w.heap.size g lb sf sb dk w2 ∧ Hid (scanDown (fun x => lt dk[a]! x) dk i1 j1 = scanDown (fun x => lt dk[a]! x) dk i1 j)) (fun vj _ => (intOf vj).toNat)
          case atStart => exact ⟨j, by first | rfl | go_num | (congr 1; omega), Nat.le_refl _, h2, S2, rfl⟩
          case round =>
            obtain ⟨j1, rfl, g1, g2, S3, HD⟩ := hrel
            have k0 := S3.c0
            have k1 := S3.c1
            by_cases hle2 : i1 ≤ j1
            · have hle2z : (i1 : Int) ≤ (j1 : Int) := by omega
              cases hv2 : lt dk[a]! dk[j1]! with
              | true =>
                have hl := HE.out.lessV dk a j1 a j1 true hv2 rfl rfl (by omega) (by omega) _ S3.i
                have HD2 : Hid (scanDown (fun x => lt dk[a]! x) dk i1 (j1 - 1) = scanDown (fun x => lt dk[a]! x) dk i1 j) := (scanDown_go (fun x => lt dk[a]! x) dk i1 j1 hle2 (by omega) (hv2)).symm.trans HD.out
                go_wp2_with (go_at_fn g; refine hl.mono ?_; rintro e w4 ⟨rfl, hI4, hS4⟩; have S4 := S3.step HB.out hI4 hS4; clear hl)
                go_roundw
                case rel =>
                  first
                    | exact ⟨j1 - 1, by congr 1 <;> omega, by omega, by omega, S4, HD2⟩
                    | ((repeat apply Exists.intro); refine ⟨?_, rfl⟩; exact ⟨j1 - 1, by congr 1 <;> omega, by omega, by omega, S4, HD2⟩)
                    | ((repeat apply Exists.intro); exact ⟨⟨j1 - 1, by congr 1 <;> omega, by omega, by omega, S4, HD2⟩, by rw [DEC.out, show ((j1 - 1 : Nat) : Int) = (j1 : Int) - 1 by omega]⟩)
                case measure => simp [intOf] <;> omega
              | false =>
                have hl := HE.out.lessV dk a j1 a j1 false hv2 rfl rfl (by omega) (by omega) _ S3.i
                have HJ : Hid (j1 = scanDown (fun x => lt dk[a]! x) dk i1 j) := (scanDown_end (fun x => lt dk[a]! x) dk i1 j1 (Or.inr (hv2))).symm.trans HD.out
                have hlt3 := scans_lt lt a i j dk (by omega) HI.out HJ.out hle2
                have hngt : ¬ (j1 : Int) < (i1 : Int) := by omega
                go_wp2_with (go_at_fn g; refine hl.mono ?_; rintro e w4 ⟨rfl, hI4, hS4⟩; have S4 := S3.step HB.out hI4 hS4; have m0 := S4.c0; have m1 := S4.c1; obtain ⟨W5, hrun, hI5, hS5⟩ := HE.out.swapI dk w4 i1 j1 i1 j1 rfl rfl S4.i (by omega) (by omega); have S5 := S4.step HB.out hI5 hS5; clear hl)
                have HN : Hid (partEqLoop lt a (i1 + 1) (j1 - 1) (swp dk i1 j1) = partitionEqual lt d a b pivot) := by show _ = _; rw [← HK.out]; exact (partEq_go lt a i j dk HI.out HJ.out (by omega)).symm
                go_roundw
                case rel =>
                  first
                    | exact ⟨i1 + 1, j1 - 1, swp dk i1 j1, by go_num, by congr 1 <;> omega, by omega, by omega, by omega, S5, HN⟩
                    | ((repeat apply Exists.intro); refine ⟨?_, rfl⟩; exact ⟨i1 + 1, j1 - 1, swp dk i1 j1, by go_num, by congr 1 <;> omega, by omega, by omega, by omega, S5, HN⟩)
                    | ((repeat apply Exists.intro); exact ⟨⟨i1 + 1, j1 - 1, swp dk i1 j1, by go_num, by congr 1 <;> omega, by omega, by omega, by omega, S5, HN⟩, by rw [DEC.out, show ((i1 + 1 : Nat) : Int) = (i1 : Int) + 1 by omega, show ((j1 - 1 : Nat) : Int) = (j1 : Int) - 1 by omega]⟩)
                case measure => simp [intOf] <;> omega
            · have hle2z : ¬ (i1 : Int) ≤ (j1 : Int) := by omega
              have HJ : Hid (j1 = scanDown (fun x => lt dk[a]! x) dk i1 j) := (scanDown_end (fun x => lt dk[a]! x) dk i1 j1 (Or.inl hle2)).symm.trans HD.out
              have hgt : (j1 : Int) < (i1 : Int) := by omega
              have HN : Hid ((i1, dk) = partitionEqual lt d a b pivot) := by show _ = _; rw [← HK.out]; exact (partEq_break lt a i j dk HI.out HJ.out (by omega)).symm
              go_wp2
              go_ret
              exact ⟨by rw [← HN.out]; rfl, by rw [← HN.out]; exact S3.i, S3.st⟩
      · have hlez : ¬ (i1 : Int) ≤ (j : Int) := by omega
        have HI : Hid (i1 = scanUp (fun x => !lt dk[a]! x) dk j i) := (scanUp_end (fun x => !lt dk[a]! x) dk j i1 (Or.inl hle)).symm.trans HU.out
        clear c0 c1
        go_wp2
        go_loopw [10] (fun vj w2 => ∃ j1 : Nat, vj = .int .i64 j1 ∧ j1 ≤ j ∧ i1 ≤ j1 + 1 ∧ SSt blk I w w.heap.size g lb sf sb dk w2 ∧ Hid (scanDown (fun x => lt dk[a]! x) dk i1 j1 = scanDown (fun x => lt dk[a]! x) dk i1 j)) (fun vj _ => (intOf vj).toNat)
        case atStart => exact ⟨j, by first | rfl | go_num | (congr 1; omega), Nat.le_refl _, h2, S1, rfl⟩
        case round =>
          obtain ⟨j1, rfl, g1, g2, S3, HD⟩ := hrel
          have k0 := S3.c0
          have k1 := S3.c1
          by_cases hle2 : i1 ≤ j1
          · exfalso; omega
          · have hle2z : ¬ (i1 : Int) ≤ (j1 : Int) := by omega
            have HJ : Hid (j1 = scanDown (fun x => lt dk[a]! x) dk i1 j) := (scanDown_end (fun x => lt dk[a]! x) dk i1 j1 (Or.inl hle2)).symm.trans HD.out
            have hgt : (j1 : Int) < (i1 : Int) := by omega
            have HN : Hid ((i1, dk) = partitionEqual lt d a b pivot) := by show _ = _; rw [← HK.out]; exact (partEq_break lt a i j dk HI.out HJ.out (by omega)).symm
            go_wp2
            go_ret
            exact ⟨by rw [← HN.out]; rfl, by rw [← HN.out]; exact S3.i, S3.st⟩
end Go.Proofs.Ytollijngiioonaa

