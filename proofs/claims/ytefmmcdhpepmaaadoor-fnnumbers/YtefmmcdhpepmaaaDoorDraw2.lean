/- Contracts of what the laws of chapter 1 draw: a number, a text, a list of numbers. Conditions: the code has at most 1048576 bytes. -/
import Derived.Test.YtefmmcdhpepmaaaDoorDraw
namespace Go.Proofs.YtefmmcdhpepmaaaDoor
open Go.RowKit

theorem lit_cells (w : World) (zs : List Int) : ∀ i, i < zs.length → (w.alloc (.cells (ints zs).toArray 3)).cell? ⟨w.heap.size, 0 + i, none⟩ = some (.int .i64 (zs[i]?.getD 0)) := by
  intro i hi
  rw [World.cell?_alloc_at _ _ _ _ rfl]
  simp [ints, hi]
theorem grown_below {w w' : World} {B c : Nat} (hg : w.grownBy w' (some c)) (hB : B ≤ w.heap.size) (hc : B ≤ c) : Below B w w' :=
  (Below.refl B w).grown hg hB (fun k hk => by cases hk; exact hc)

def digitList : List Int := [0, 7, -12, 100000, 9223372036854775807, -9223372036854775808]
set_option maxHeartbeats 800000 in
theorem drawDigits_any (a : Option Addr) (bs : List Int) (n cap : Nat) (w : World) (hn : n = bs.length) (hl : bs.length ≤ 1048576) (hr : ∀ c, w.heap.size ≤ c → RdB w c a bs) :
    Calls Tryd.prog 8 #[.slice a n cap] w fun e w' => ∃ z : Int, e = .returned (.int .i64 z) ∧ isInt z ∧ Below w.heap.size w w' := by
  have H := new_any a bs n cap w hn hl hr
  subst hn
  clear hr
  go_enter Tryd.func8, Tryd.ntmps8
  go_wp2_with (go_at_call 26; refine H.mono ?_; rintro e w1 ⟨rfl, hC, hb⟩; clear H)
  go_wp2_with (go_at_call 25; refine (pickInt_any _ _ _ _ _ _ digitList _ _ hl rfl (by decide) (by decide) (hC.below ((Below.refl _ _).alloc (Nat.le_refl _) _)) (by simp) (Nat.ne_of_gt hC.lt) (lit_cells w1 digitList)).mono ?_; rintro e w2 ⟨z, rfl, hz, hC2, hg2⟩)
  go_ret
  refine ⟨z, rfl, ?_, ?_⟩
  · simp [digitList] at hz
    unfold isInt
    omega
  · exact (hb.alloc hb.size _).trans (grown_below hg2 (by have := hb.size; simp; omega) (Nat.le_refl _))

def numberList : List ByteArray := [⟨#[48]⟩, ⟨#[55]⟩, ⟨#[57, 57, 57, 57, 57, 57]⟩, ⟨#[49, 48, 48, 48, 48, 48, 48]⟩, ⟨#[48, 49]⟩, ⟨#[]⟩, ⟨#[45, 49]⟩, ⟨#[120]⟩, ⟨#[49, 50, 97]⟩]
theorem lit_strs (w : World) (ss : List ByteArray) : ∀ i, i < ss.length → (w.alloc (.cells (ss.map Value.string).toArray 9)).cell? ⟨w.heap.size, i, none⟩ = some (.string (ss[i]?.getD ByteArray.empty)) := by
  intro i hi
  rw [World.cell?_alloc_at _ _ _ _ rfl]
  simp [hi]
set_option maxHeartbeats 800000 in
theorem drawNumber_any (a : Option Addr) (bs : List Int) (n cap : Nat) (w : World) (hn : n = bs.length) (hl : bs.length ≤ 1048576) (hr : ∀ c, w.heap.size ≤ c → RdB w c a bs) :
    Calls Tryd.prog 9 #[.slice a n cap] w fun e w' => ∃ s : ByteArray, e = .returned (.string s) ∧ s.size ≤ 7 ∧ Below w.heap.size w w' := by
  have H := new_any a bs n cap w hn hl hr
  subst hn
  clear hr
  go_enter Tryd.func9, Tryd.ntmps9
  go_wp2_with (go_at_call 26; refine H.mono ?_; rintro e w1 ⟨rfl, hC, hb⟩; clear H)
  go_wp2_with (go_at_call 27; refine (pickStr_any _ _ _ _ _ _ numberList _ _ hl rfl (by decide) (by decide) (hC.below ((Below.refl _ _).alloc (Nat.le_refl _) _)) (by simp) (Nat.ne_of_gt hC.lt) (lit_strs w1 numberList)).mono ?_; rintro e w2 ⟨s, rfl, hz, hC2, hg2⟩)
  go_ret
  refine ⟨s, rfl, ?_, ?_⟩
  · have hall : ∀ s ∈ numberList, s.size ≤ 7 := by decide
    exact hall s hz
  · exact (hb.alloc hb.size _).trans (grown_below hg2 (by have := hb.size; simp; omega) (Nat.le_refl _))

def smallList : List Int := [0, 1, 2, 5, 9, -3]
theorem info3' : (Tryd.prog.info? 3).map (fun i => (i.zero, i.size, i.bytes)) = some (some (.int .i64 0), 1, 8) := by kernel_rfl
theorem one_new (w : World) (u : Value) (t : TypeId) : ∀ j v, [u][j]? = some v → (w.alloc (.cells #[u] t)).cell? ((⟨w.heap.size, 0, none⟩ : Addr).add j) = some v := by
  intro j v hj
  match j, hj with
  | 0, hj => simp at hj; subst hj; simp [Addr.add]
  | j + 1, hj => simp at hj
theorem one_cell (n : Int) : ∀ u ∈ [Value.int .i64 n], u.oneCell' = true := by
  intro u hu; simp at hu; subst hu; rfl
theorem own_some {w : World} {base : Nat} {e : TypeId} {size : Nat} {v : Value} {n : Nat} {xs : List Value} {a : Addr} {m c : Nat} {q : Prop} (h : w.ownsRow base e size v n xs) (hv : v = .slice none 0 0 ↔ .slice (some a) m c = Value.slice none 0 0 ∧ q) : ∃ g c, v = .slice (some ⟨g, 0, none⟩) n c := by
  rcases h.2 with ⟨h, _⟩ | ⟨g, cap, _, rfl, _⟩
  · have := (hv.1 h).1; simp at this
  · exact ⟨g, cap, rfl⟩
theorem grown_alloc {a w : World} {row : Option Nat} (h : a.grownBy w row) (o : Obj) : a.grownBy (w.alloc o) row :=
  ⟨h.os, h.tape, h.output, Nat.le_trans h.size (by simp), fun i hi hr => (Below.heap_alloc w o i (Nat.lt_of_lt_of_le hi h.size)).trans (h.block i hi hr)⟩
theorem grown_own {a w w' : World} {c g : Nat} (h : a.grownBy w (some c)) (k : w.grownBy w' (some g)) (hg : a.heap.size ≤ g) : a.grownBy w' (some c) :=
  ⟨k.os.trans h.os, k.tape.trans h.tape, k.output.trans h.output, Nat.le_trans h.size k.size, fun i hi hr => (k.block i (Nat.lt_of_lt_of_le hi h.size) (by simp; omega)).trans (h.block i hi hr)⟩
theorem Cur.grown {w w' : World} {c g : Nat} {a : Option Addr} {bs : List Int} {cap : Nat} {B : Nat} (h : Cur w c a bs cap) (hg : w.grownBy w' (some g)) (hc : c < B) (hB : B ≤ g) (hbs : bs = [] ∨ ∀ x, a = some x → x.block < B) : Cur w' c a bs cap := by
  have hlt := h.lt
  obtain ⟨hr, i, x, hi, hx, hk⟩ := h
  refine ⟨⟨hr.1, ?_⟩, i, x, hi, hx, by rw [hg.block c hlt (by simp; omega)]; exact hk⟩
  rcases hr.2 with h | ⟨b, off, rfl, hlt, hne, hcs⟩
  · exact .inl h
  · rcases hbs with rfl | hbs
    · exact .inl rfl
    have hb := hbs _ rfl
    simp at hb
    refine .inr ⟨b, off, rfl, Nat.lt_of_lt_of_le hlt hg.size, hne, fun j hj => ?_⟩
    rw [← hcs j hj]
    exact World.cell?_of_block (w := w) (hg.block b hlt (by simp; omega))

theorem own_base {w : World} {base base' : Nat} {e : TypeId} {size g n c : Nat} {xs : List Value} (h : w.ownsRow base e size (.slice (some ⟨g, 0, none⟩) n c) n xs) (hb : base' ≤ base) : w.ownsRow base' e size (.slice (some ⟨g, 0, none⟩) n c) n xs := by
  obtain ⟨h1, h2⟩ := h
  refine ⟨h1, ?_⟩
  rcases h2 with ⟨h, _⟩ | ⟨g', cap, cur, h, hg, r⟩
  · simp at h
  · exact .inr ⟨g', cap, cur, h, by omega, r⟩

set_option maxHeartbeats 1600000 in
theorem drawList_any (c : Nat) (a : Option Addr) (bs : List Int) (cap : Nat) (w : World) (hl : bs.length ≤ 1048576) (hc : Cur w c a bs cap) (hbs : bs = [] ∨ ∀ x, a = some x → x.block < w.heap.size) :
    Calls Tryd.prog 31 #[.pointer (some ⟨c, 0, none⟩)] w fun e w' => ∃ (g lc : Nat) (o : List Int), e = .returned (.slice (some ⟨g, 0, none⟩) o.length lc) ∧ o.length ≤ 5 ∧ (∀ z ∈ o, isInt z) ∧ w'.ownsRow w.heap.size 3 1 (.slice (some ⟨g, 0, none⟩) o.length lc) o.length (ints o) ∧ Cur w' c a bs cap ∧ w.grownBy w' (some c) := by
  obtain ⟨i0, hi, hz0, hz1, hz2⟩ := info_parts info3'
  have hclt := hc.lt
  go_enter Tryd.func31, Tryd.ntmps31
  go_wp2
  go_loopw [3, 4] (fun v i wr => ∃ (o : List Int) (g lc : Nat), o.length ≤ 5 ∧ i = .int .i64 o.length ∧ v = .slice (some ⟨g, 0, none⟩) o.length lc ∧ Hid (∀ z ∈ o, isInt z) ∧ wr.ownsRow w.heap.size 3 1 (.slice (some ⟨g, 0, none⟩) o.length lc) o.length (ints o) ∧ Cur wr c a bs cap ∧ w.grownBy wr (some c)) (fun _ i _ => 6 - (intOf i).toNat)
  case atStart => exact ⟨[], w.heap.size, 0, by simp, rfl, rfl, fun z hz => by simp at hz, World.ownsRow_made w #[] 0 (Nat.le_refl _) (Nat.zero_le _) rfl, hc.below ((Below.refl _ _).alloc (Nat.le_refl _) _), grown_alloc ⟨rfl, rfl, rfl, Nat.le_refl _, fun _ _ _ => rfl⟩ _⟩
  case round =>
    obtain ⟨o, g, lc, ho, rfl, rfl, HO, hown, hC, hg⟩ := hrel
    have H := below_any c a bs cap 6 wr hl (by omega) (by omega) hC
    have hgB : w.heap.size ≤ g := (hown.lt g rfl).1
    have hws := hg.size
    have hne : g ≠ c := by omega
    go_wp2_with (go_at_call 35; refine H.mono ?_; rintro e w1 ⟨k, rfl, hk, hC1, hg1⟩; clear H; have hown1 := hown.kept hg1 (.inr (by simp [Value.ownBlock, hne])); have hgr1 := grown_then hg hg1; clear hown hC hg hg1)
    · have hlt : o.length < k := by assumption
      have ho' : o.length ≤ 4 := by omega
      have hs1 := hgr1.size
      go_wp2_with (first
        | (go_at_call 25; refine (pickInt_any _ _ _ _ _ _ smallList _ _ hl rfl (by decide) (by decide) (hC1.below ((Below.refl _ _).alloc (Nat.le_refl _) _)) (by simp) (Nat.ne_of_gt hC1.lt) (lit_cells w1 smallList)).mono ?_; rintro e w2 ⟨z, rfl, hz, hC2, hg2⟩; have hown2 := (hown1.alloc _).kept hg2 (.inr (by simp [Value.ownBlock, hne])); have hgr2 := grown_then (grown_alloc hgr1 _) hg2; have hs2 := hgr2.size; clear hown1 hC1 hgr1 hg2)
        | (at_builtin; refine wpList_append_own _ rfl (.tmp 12) (.tmp 16) 28 rfl w.heap.size 3 i0 (.int .i64 0) 1 8 Tryd.underlying28 hi hz0 hz1 hz2 rfl (by decide) _ o.length _ rfl (hown2.alloc _) ⟨w2.heap.size, 0, none⟩ 1 1 [.int .i64 z] rfl rfl (one_new _ _ _) (one_cell _) (by unfold maxLen; omega) (by omega) (by simp; omega) ?_; intro v' w3 hown3 hgrow3 hnil3; obtain ⟨g3, c3, rfl⟩ := own_some hown3 hnil3; clear hnil3))
      have hgrow : (w2.alloc (.cells #[.int .i64 z] 3)).grownBy w3 (some g) := hgrow3
      have R1 : w3.ownsRow w.heap.size 3 1 (.slice (some ⟨g3, 0, none⟩) (o ++ [z]).length c3) (o ++ [z]).length (ints (o ++ [z])) := by simpa [ints] using hown3
      have R2 : Cur w3 c a bs cap := (hC2.below ((Below.refl _ _).alloc (Nat.le_refl _) _)).grown hgrow hclt hgB hbs
      have R3 : w.grownBy w3 (some c) := grown_own (grown_alloc hgr2 _) hgrow hgB
      have R4 : Hid (∀ y ∈ o ++ [z], isInt y) := by
        intro y hy
        rcases List.mem_append.1 hy with hy | hy
        · exact HO.out y hy
        · simp at hy; subst hy
          simp [smallList] at hz
          unfold isInt; omega
      clear hown3 hgrow3 hgrow hC2 hgr2 hown2 HO
      go_roundw
      case rel => exact ⟨o ++ [z], g3, c3, by simp; omega, by simp, by simp, R4, R1, R2, R3⟩
      case measure => simp [intOf]; omega
    · go_ret
      exact ⟨g, lc, o, rfl, ho, HO.out, hown1, hC1, hgr1⟩

theorem Rd_new {w : World} {a : Option Addr} {bs : List Int} (hr : ∀ c, w.heap.size ≤ c → RdB w c a bs) : bs = [] ∨ ∀ x, a = some x → x.block < w.heap.size := by
  rcases (hr _ (Nat.le_refl _)).2 with h | ⟨b, off, rfl, hlt, _⟩
  · exact .inl h
  · exact .inr fun x hx => by cases hx; exact hlt

set_option maxHeartbeats 800000 in
theorem drawText_any (a : Option Addr) (bs : List Int) (n cap : Nat) (w : World) (hn : n = bs.length) (hl : bs.length ≤ 1048576) (hr : ∀ c, w.heap.size ≤ c → RdB w c a bs) :
    Calls Tryd.prog 14 #[.slice a n cap] w fun e w' => ∃ (g lc : Nat) (o : List Int), e = .returned (.slice (some ⟨g, 0, none⟩) o.length lc) ∧ o.length ≤ 5 ∧ (∀ z ∈ o, isInt z) ∧ w'.ownsRow w.heap.size 3 1 (.slice (some ⟨g, 0, none⟩) o.length lc) o.length (ints o) ∧ Below w.heap.size w w' := by
  have H := new_any a bs n cap w hn hl hr
  have hbs := Rd_new hr
  subst hn
  clear hr
  go_enter Tryd.func14, Tryd.ntmps14
  go_wp2_with (go_at_call 26; refine H.mono ?_; rintro e w1 ⟨rfl, hC, hb⟩; clear H)
  go_wp2_with (go_at_call 31; refine (drawList_any _ a bs cap _ hl hC (hbs.imp id fun h x hx => Nat.lt_of_lt_of_le (h x hx) hb.size)).mono ?_; rintro e w2 ⟨g, lc, o, rfl, h1, h2, h3, h4, h5⟩)
  go_ret
  exact ⟨g, lc, o, rfl, h1, h2, own_base h3 hb.size, hb.trans (grown_below h5 hb.size (Nat.le_refl _))⟩

set_option maxHeartbeats 800000 in
theorem drawIn_any (a : Option Addr) (bs : List Int) (n cap : Nat) (w : World) (hn : n = bs.length) (hl : bs.length ≤ 1048576) (hr : ∀ c, w.heap.size ≤ c → RdB w c a bs) :
    Calls Tryd.prog 29 #[.slice a n cap] w fun e w' => ∃ (g lc : Nat) (o : List Int) (k : Nat), e = .returned (.tuple #[.slice (some ⟨g, 0, none⟩) o.length lc, .int .i64 k]) ∧ k < 6 ∧ o.length ≤ 5 ∧ (∀ z ∈ o, isInt z) ∧ w'.ownsRow w.heap.size 3 1 (.slice (some ⟨g, 0, none⟩) o.length lc) o.length (ints o) ∧ Below w.heap.size w w' := by
  have H := new_any a bs n cap w hn hl hr
  have hbs := Rd_new hr
  subst hn
  clear hr
  go_enter Tryd.func29, Tryd.ntmps29
  go_wp2_with (go_at_call 26; refine H.mono ?_; rintro e w1 ⟨rfl, hC, hb⟩; clear H)
  go_wp2_with (go_at_call 31; refine (drawList_any _ a bs cap _ hl hC (hbs.imp id fun h x hx => Nat.lt_of_lt_of_le (h x hx) hb.size)).mono ?_; rintro e w2 ⟨g, lc, o, rfl, h1, h2, h3, h4, h5⟩; have hclt := hC.lt; clear hC hbs)
  go_wp2_with (go_at_call 35; refine (below_any _ a bs cap 6 _ hl (by omega) (by omega) h4).mono ?_; rintro e w3 ⟨k, rfl, hk, hC3, hg3⟩)
  go_ret2
  have hg1 : w1.heap.size ≤ g := (h3.lt g rfl).1
  have hgne : g ≠ w.heap.size := by omega
  exact ⟨g, lc, o, k, rfl, by omega, h1, h2, (own_base h3 hb.size).kept hg3 (.inr (by simp [Value.ownBlock, hgne])), (hb.trans (grown_below h5 hb.size (Nat.le_refl _))).trans (grown_below hg3 (by have := hb.size; have := h5.size; omega) (Nat.le_refl _))⟩

theorem drawAdd_any (a : Option Addr) (bs : List Int) (n cap : Nat) (w : World) (hn : n = bs.length) (hl : bs.length ≤ 1048576) (hr : ∀ c, w.heap.size ≤ c → RdB w c a bs) :
    Calls Tryd.prog 12 #[.slice a n cap] w fun e w' => ∃ (g lc : Nat) (o : List Int) (k : Nat), e = .returned (.tuple #[.slice (some ⟨g, 0, none⟩) o.length lc, .int .i64 k]) ∧ k < 6 ∧ o.length ≤ 5 ∧ (∀ z ∈ o, isInt z) ∧ w'.ownsRow w.heap.size 3 1 (.slice (some ⟨g, 0, none⟩) o.length lc) o.length (ints o) ∧ Below w.heap.size w w' := by
  have H := drawIn_any a bs n cap w hn hl hr
  clear hn hl hr
  go_enter Tryd.func12, Tryd.ntmps12
  go_wp2_with (go_at_call 29; refine H.mono ?_; rintro e w1 ⟨g, lc, o, k, rfl, h⟩; clear H)
  go_ret2
  exact ⟨g, lc, o, k, rfl, h⟩
end Go.Proofs.YtefmmcdhpepmaaaDoor
