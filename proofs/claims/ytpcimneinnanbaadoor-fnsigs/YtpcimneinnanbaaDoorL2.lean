/- The contract of the drawn list of functions. Conditions: the code has at most 1048576 bytes. -/
import Derived.Test.YtpcimneinnanbaaDoorProg
import Derived.Test.YtpcimneinnanbaaDoorSymA
import Derived.Test.YtpcimneinnanbaaDoorDrawP
namespace Go.Proofs.YtpcimneinnanbaaDoor
open Go.RowKit

def sig7 : List SymD := [⟨⟨#[116, 116]⟩, 0, false⟩, ⟨⟨#[97]⟩, 0, false⟩, ⟨⟨#[98]⟩, 0, false⟩, ⟨⟨#[103]⟩, 1, false⟩, ⟨⟨#[104]⟩, 2, false⟩, ⟨⟨#[102]⟩, 2, true⟩, ⟨⟨#[107]⟩, 2, true⟩]

theorem l2Sig_any (w : World) :
    Calls Tryd.prog 38 #[] w fun e w' => e = .returned (.slice (some ⟨w.heap.size, 0, none⟩) 7 7) ∧ w'.ownsRow w.heap.size 38 3 (.slice (some ⟨w.heap.size, 0, none⟩) 7 7) 7 (symCs sig7) ∧ Below w.heap.size w w' := by
  go_enter Tryd.func38, Tryd.ntmps38
  go_wp2
  go_ret
  exact ⟨rfl, World.ownsRow_lit w (symCs sig7).toArray 7 (Nat.le_refl _) (by unfold maxLen; omega) rfl, (Below.refl _ _).alloc (Nat.le_refl _) _⟩

theorem below_grownL {w w' : World} {c : Nat} (h : Below w.heap.size w w') : w.grownBy w' (some c) := ⟨h.os, h.tape, h.output, h.size, fun i hi _ => h.block i hi⟩
/-- A drawn list of functions: few of them, their names short, their numbers small. -/
def smallSyms (ss : List SymD) : Prop := ss.length ≤ 9 ∧ ∀ s ∈ ss, s.name.size ≤ 9 ∧ -1 ≤ s.ar ∧ s.ar ≤ 4

theorem l2_fin {w W : World} {c : Nat} {a : Option Addr} {bs : List Int} {cap : Nat} {ss : List SymD} (hown : W.ownsRow w.heap.size 38 3 (.slice (some ⟨w.heap.size, 0, none⟩) 7 7) 7 (symCs ss)) (h7 : 7 = ss.length) (hs : smallSyms ss) (hC : Cur 62 W c a bs cap) (hg : w.grownBy W (some c)) :
    ∃ (g o lc : Nat) (ss : List SymD), Ending.returned (Value.slice (some ⟨w.heap.size, 0, none⟩) 7 7) = .returned (.slice (some ⟨g, o, none⟩) ss.length lc) ∧ smallSyms ss ∧ w.heap.size ≤ g ∧ RdS W (some ⟨g, o, none⟩) ss ∧ Cur 62 W c a bs cap ∧ w.grownBy W (some c) :=
  ⟨w.heap.size, 0, 7, ss, by rw [← h7], hs, Nat.le_refl _, RdS.own h7 hown, hC, hg⟩
theorem small7 : smallSyms sig7 := by
  refine ⟨by decide, fun s hs => ?_⟩
  simp [sig7] at hs
  rcases hs with rfl | rfl | rfl | rfl | rfl | rfl | rfl <;> simp [ByteArray.size]
theorem small_set {ss : List SymD} {k : Nat} {s : SymD} (h : smallSyms ss) (hs : s.name.size ≤ 9 ∧ -1 ≤ s.ar ∧ s.ar ≤ 4) : smallSyms (ss.set k s) := by
  refine ⟨by rw [List.length_set]; exact h.1, fun t ht => ?_⟩
  rcases List.mem_or_eq_of_mem_set ht with ht | rfl
  · exact h.2 t ht
  · exact hs
theorem small_sub {ss ts : List SymD} (h : smallSyms ss) (hs : ts.Sublist ss) : smallSyms ts :=
  ⟨Nat.le_trans hs.length_le h.1, fun t ht => h.2 t (hs.subset ht)⟩
theorem RdS_drop {W : World} {B g c : Nat} {ss : List SymD} {j : Nat} (h : W.ownsRow B 38 3 (.slice (some ⟨g, 0, none⟩) ss.length c) ss.length (symCs ss)) : RdS W (some ⟨g, j * 3, none⟩) (ss.drop j) := by
  refine .inr ⟨g, j * 3, rfl, (h.lt g rfl).2, fun i hi => ?_⟩
  rw [List.length_drop] at hi
  have := cells3 rfl (show j + i < ss.length by omega) h
  rw [show (j + i) * 3 = j * 3 + i * 3 by omega] at this
  simpa using this
theorem RdS_take {W : World} {B g c : Nat} {ss : List SymD} {j : Nat} (h : W.ownsRow B 38 3 (.slice (some ⟨g, 0, none⟩) ss.length c) ss.length (symCs ss)) : RdS W (some ⟨g, 0, none⟩) (ss.take j) := by
  refine .inr ⟨g, 0, rfl, (h.lt g rfl).2, fun i hi => ?_⟩
  rw [List.length_take] at hi
  have := cells3 rfl (show i < ss.length by omega) h
  simpa using this
theorem info38 : (Tryd.prog.info? 38).map (fun i => (i.zero, i.size, i.bytes)) = some (some (.agg #[.string ⟨#[]⟩, .int .i64 0, .bool false]), 3, 32) := by kernel_rfl
theorem lit_news (w : World) (cs : List Value) (t : TypeId) : ∀ j u, cs[j]? = some u → (w.alloc (.cells cs.toArray t)).cell? ((⟨w.heap.size, 0, none⟩ : Addr).add j) = some u := by
  intro j u h
  have e : (⟨w.heap.size, 0, none⟩ : Addr).add j = ⟨w.heap.size, j, none⟩ := by by_cases hj : j = 0 <;> simp [Addr.add, hj]
  rw [e, World.cell?_alloc_at _ _ _ _ rfl]
  simpa using h
theorem symCs_one (ss : List SymD) : ∀ u ∈ symCs ss, u.oneCell' = true := by
  intro u hu
  simp [symCs, symC] at hu
  obtain ⟨s, _, rfl | rfl | rfl⟩ := hu <;> rfl
theorem own_some {w : World} {base : Nat} {e : TypeId} {size : Nat} {v : Value} {n : Nat} {xs : List Value} {a : Addr} {m c : Nat} {q : Prop} (h : w.ownsRow base e size v n xs) (hv : v = .slice none 0 0 ↔ .slice (some a) m c = Value.slice none 0 0 ∧ q) : ∃ g c, v = .slice (some ⟨g, 0, none⟩) n c := by
  rcases h.2 with ⟨h, _⟩ | ⟨g, cap, _, rfl, _⟩
  · have := (hv.1 h).1; simp at this
  · exact ⟨g, cap, rfl⟩
def names2 : List ByteArray := [⟨#[120, 50]⟩, ⟨#[120, 49]⟩]
def names6 : List ByteArray := [⟨#[]⟩, ⟨#[65]⟩, ⟨#[116, 116]⟩, ⟨#[97, 98, 99, 100, 101, 102, 103, 104, 105]⟩, ⟨#[49, 97]⟩, ⟨#[97, 49]⟩]

set_option maxHeartbeats 3200000 in
theorem l2Draw_any (c : Nat) (a : Option Addr) (bs : List Int) (cap : Nat) (w : World) (hl : bs.length ≤ 1048576) (hc : Cur 62 w c a bs cap) (hbs : bs = [] ∨ ∀ x, a = some x → x.block < w.heap.size) :
    Calls Tryd.prog 23 #[.pointer (some ⟨c, 0, none⟩)] w fun e w' => ∃ (g o lc : Nat) (ss : List SymD), e = .returned (.slice (some ⟨g, o, none⟩) ss.length lc) ∧ smallSyms ss ∧ w.heap.size ≤ g ∧ RdS w' (some ⟨g, o, none⟩) ss ∧ Cur 62 w' c a bs cap ∧ w.grownBy w' (some c) := by
  have hclt := hc.lt
  have HS := l2Sig_any w
  go_enter Tryd.func23, Tryd.ntmps23
  go_wp2_with (go_at_call 38; refine HS.mono ?_; rintro e w1 ⟨rfl, hown1, hb1⟩; clear HS; have hC1 := hc.below hb1; have hg1 := below_grownL (c := c) hb1; clear hc hb1)
  go_wp2_with (go_at_call 26; refine (below_any c a bs cap 10 _ hl (by omega) (by omega) hC1).mono ?_; rintro e w2 ⟨k, rfl, hk, hC2, hg2⟩; have hown2 := hown1.kept hg2 (.inr (by simp [Value.ownBlock]; omega)); have hgr2 := grown_then hg1 hg2; have c11 : w2.cell? ⟨w.heap.size, 11, none⟩ = some (.bool false) := (hown2.cellAt 11 (by omega)).trans rfl; have f11 := hown2.frozenAt 11; clear hown1 hC1 hg1 hg2)
  · have hs2 := hgr2.size
    go_wp2_with (go_at_call 25; refine (pickStr_any _ _ _ _ _ _ names6 _ _ hl rfl (by decide) (by decide) (hC2.below ((Below.refl _ _).alloc (Nat.le_refl _) _)) (by simp) (Nat.ne_of_gt hC2.lt) (lit_strs w2 names6)).mono ?_; rintro e w3 ⟨s, rfl, hs, hC3, hg3⟩; have hown3 := (hown2.alloc _).kept hg3 (.inr (by simp [Value.ownBlock]; omega)); have hgr3 := grown_then (grown_alloc hgr2 _) hg3; have c3 : w3.cell? ⟨w.heap.size, 3, none⟩ = some (.string ⟨#[97]⟩) := (hown3.cellAt 3 (by omega)).trans rfl; have f3 := hown3.frozenAt 3; clear hown2 hC2 hgr2 hg3 c11 f11)
    go_ret
    have R := hown3.stored 3 (.string s)
    have hall : ∀ s ∈ names6, s.size ≤ 9 := by decide
    exact l2_fin (ss := sig7.set 1 ⟨s, 0, false⟩) R.1 rfl (small_set small7 ⟨hall s hs, by simp, by simp⟩) (hC3.grown R.2 hclt (Nat.le_refl _) hbs) (grown_own hgr3 R.2 (Nat.le_refl _))
  · have hs2 := hgr2.size
    go_wp2_with (go_at_call 39; refine (pickInt_any _ _ _ _ _ _ [-1, 3, 4] _ _ hl rfl (by decide) (by decide) (hC2.below ((Below.refl _ _).alloc (Nat.le_refl _) _)) (by simp) (Nat.ne_of_gt hC2.lt) (lit_cells w2 [-1, 3, 4])).mono ?_; rintro e w3 ⟨z, rfl, hz, hC3, hg3⟩; have hown3 := (hown2.alloc _).kept hg3 (.inr (by simp [Value.ownBlock]; omega)); have hgr3 := grown_then (grown_alloc hgr2 _) hg3; have c3 : w3.cell? ⟨w.heap.size, 7, none⟩ = some (.int .i64 0) := (hown3.cellAt 7 (by omega)).trans rfl; have f3 := hown3.frozenAt 7; clear hown2 hC2 hgr2 hg3 c11 f11)
    go_ret
    have R := hown3.stored 7 (.int .i64 z)
    have hz2 : -1 ≤ z ∧ z ≤ 4 := by simp at hz; omega
    exact l2_fin (ss := sig7.set 2 ⟨⟨#[98]⟩, z, false⟩) R.1 rfl (small_set small7 ⟨by simp [ByteArray.size], hz2.1, hz2.2⟩) (hC3.grown R.2 hclt (Nat.le_refl _) hbs) (grown_own hgr3 R.2 (Nat.le_refl _))
  · go_ret
    have R := hown2.stored 11 (.bool true)
    exact l2_fin (ss := sig7.set 3 ⟨⟨#[103]⟩, 1, true⟩) R.1 rfl (small_set small7 ⟨by decide, by simp, by simp⟩) (hC2.grown R.2 hclt (Nat.le_refl _) hbs) (grown_own hgr2 R.2 (Nat.le_refl _))
  · go_ret
    exact ⟨w.heap.size, 3, 6, sig7.drop 1, rfl, small_sub small7 (List.drop_sublist _ _), Nat.le_refl _, RdS_drop hown2, hC2, hgr2⟩
  · go_wp2_with (go_at_call 26; refine (below_any c a bs cap 4 _ hl (by omega) (by omega) hC2).mono ?_; rintro e w3 ⟨k4, rfl, hk4, hC3, hg3⟩; have hown3 := hown2.kept hg3 (.inr (by simp [Value.ownBlock]; omega)); have hgr3 := grown_then hgr2 hg3; clear hown2 hC2 hgr2 hg3 c11 f11)
    go_ret
    have hl4 : (sig7.take k4).length = k4 := by simp [sig7]; omega
    exact ⟨w.heap.size, 0, 7, sig7.take k4, by rw [hl4]; rfl, small_sub small7 (List.take_sublist _ _), Nat.le_refl _, RdS_take hown3, hC3, hgr3⟩
  · have hs2 := hgr2.size
    obtain ⟨i0, hi, hz0, hz1, hz2⟩ := info_parts info38
    go_wp2_with (first
      | (go_at_call 25; refine (pickStr_any _ _ _ _ _ _ names2 _ _ hl rfl (by decide) (by decide) (hC2.below ((Below.refl _ _).alloc (Nat.le_refl _) _)) (by simp) (Nat.ne_of_gt hC2.lt) (lit_strs w2 names2)).mono ?_; rintro e w3 ⟨s, rfl, hs, hC3, hg3⟩; have hown3 := (hown2.alloc _).kept hg3 (.inr (by simp [Value.ownBlock]; omega)); have hgr3 := grown_then (grown_alloc hgr2 _) hg3; have hs3 := hgr3.size; clear hown2 hC2 hgr2 hg3 c11 f11)
      | (at_builtin; refine wpList_append_own _ rfl (.tmp 40) (.tmp 46) 24 rfl w.heap.size 38 i0 _ 3 32 Tryd.underlying24 hi hz0 hz1 hz2 rfl (by decide) _ 7 _ rfl (hown3.alloc _) ⟨w3.heap.size, 0, none⟩ 2 2 (symCs [⟨⟨#[120, 49]⟩, 0, false⟩, ⟨s, 0, false⟩]) rfl rfl (lit_news w3 _ _) (symCs_one _) (by unfold maxLen; omega) (by omega) (by simp; omega) ?_; intro v' w4 hown4 hgrow4 hnil4; obtain ⟨g4, c4, rfl⟩ := own_some hown4 hnil4; have hg4 : (w3.alloc (.cells (symCs [⟨⟨#[120, 49]⟩, 0, false⟩, ⟨s, 0, false⟩]).toArray 38)).grownBy w4 (some w.heap.size) := hgrow4; clear hnil4 hgrow4))
    have hall : ∀ s ∈ names2, s.size ≤ 9 := by decide
    have hsz := hall s hs
    go_ret
    have hown5 : w4.ownsRow w.heap.size 38 3 (.slice (some ⟨g4, 0, none⟩) 9 c4) 9 (symCs (sig7 ++ [⟨⟨#[120, 49]⟩, 0, false⟩, ⟨s, 0, false⟩])) := by simpa [symCs] using hown4
    refine ⟨g4, 0, c4, sig7 ++ [⟨⟨#[120, 49]⟩, 0, false⟩, ⟨s, 0, false⟩], rfl, ⟨by simp [sig7], fun t ht => ?_⟩, (hown5.lt g4 rfl).1, RdS.own rfl hown5, (hC3.below ((Below.refl _ _).alloc (Nat.le_refl _) _)).grown hg4 hclt (Nat.le_refl _) hbs, grown_own (grown_alloc hgr3 _) hg4 (Nat.le_refl _)⟩
    rcases List.mem_append.1 ht with ht | ht
    · exact small7.2 t ht
    · simp at ht
      rcases ht with rfl | rfl
      · simp [ByteArray.size]
      · exact ⟨hsz, by simp, by simp⟩
  · go_ret
    exact l2_fin (ss := sig7) hown2 rfl small7 hC2 hgr2
end Go.Proofs.YtpcimneinnanbaaDoor
