/- Contracts of what the laws of chapter 2 draw. Conditions: the code has at most 1048576 bytes. -/
import Derived.Test.YtpcimneinnanbaaDoorL2
namespace Go.Proofs.YtpcimneinnanbaaDoor
open Go.RowKit

set_option maxHeartbeats 800000 in
theorem drawSigOk_any (a : Option Addr) (bs : List Int) (n cap : Nat) (w : World) (hn : n = bs.length) (hl : bs.length ≤ 1048576) (hr : ∀ c, w.heap.size ≤ c → RdB w c a bs) :
    Calls Tryd.prog 5 #[.slice a n cap] w fun e w' => ∃ (g o lc : Nat) (ss : List SymD), e = .returned (.slice (some ⟨g, o, none⟩) ss.length lc) ∧ smallSyms ss ∧ RdS w' (some ⟨g, o, none⟩) ss ∧ Below w.heap.size w w' := by
  have H := new_any a bs n cap w hn hl hr
  have hbs := Rd_new hr
  subst hn
  clear hr
  go_enter Tryd.func5, Tryd.ntmps5
  go_wp2_with (go_at_call 24; refine H.mono ?_; rintro e w1 ⟨rfl, hC, hb⟩; clear H)
  go_wp2_with (go_at_call 23; refine (l2Draw_any _ a bs cap _ hl hC (hbs.imp id fun h x hx => Nat.lt_of_lt_of_le (h x hx) hb.size)).mono ?_; rintro e w2 ⟨g, o, lc, ss, rfl, h1, h2, h3, h4, h5⟩)
  go_ret
  exact ⟨g, o, lc, ss, rfl, h1, h3, hb.trans (grown_below h5 hb.size (Nat.le_refl _))⟩

set_option maxHeartbeats 800000 in
theorem drawSigText_any (a : Option Addr) (bs : List Int) (n cap : Nat) (w : World) (hn : n = bs.length) (hl : bs.length ≤ 1048576) (hr : ∀ c, w.heap.size ≤ c → RdB w c a bs) :
    Calls Tryd.prog 9 #[.slice a n cap] w fun e w' => ∃ (g o lc : Nat) (ss : List SymD), e = .returned (.slice (some ⟨g, o, none⟩) ss.length lc) ∧ smallSyms ss ∧ RdS w' (some ⟨g, o, none⟩) ss ∧ Below w.heap.size w w' := by
  have H := new_any a bs n cap w hn hl hr
  have hbs := Rd_new hr
  subst hn
  clear hr
  go_enter Tryd.func9, Tryd.ntmps9
  go_wp2_with (go_at_call 24; refine H.mono ?_; rintro e w1 ⟨rfl, hC, hb⟩; clear H)
  go_wp2_with (go_at_call 23; refine (l2Draw_any _ a bs cap _ hl hC (hbs.imp id fun h x hx => Nat.lt_of_lt_of_le (h x hx) hb.size)).mono ?_; rintro e w2 ⟨g, o, lc, ss, rfl, h1, h2, h3, h4, h5⟩)
  go_ret
  exact ⟨g, o, lc, ss, rfl, h1, h3, hb.trans (grown_below h5 hb.size (Nat.le_refl _))⟩


theorem RdS_grown {w w' : World} {c g o : Nat} {ss : List SymD} (h : RdS w (some ⟨g, o, none⟩) ss) (hne : g ≠ c) (hg : w.grownBy w' (some c)) : RdS w' (some ⟨g, o, none⟩) ss := by
  rcases h with h | ⟨b, off, e, hlt, hc⟩
  · exact .inl h
  · cases e
    refine .inr ⟨g, o, rfl, Nat.lt_of_lt_of_le hlt hg.size, fun i hi => ?_⟩
    obtain ⟨h0, h1, h2⟩ := hc i hi
    have q : ∀ j, w'.cell? ⟨g, j, none⟩ = w.cell? ⟨g, j, none⟩ := fun j => World.cell?_of_block (w := w) (hg.block g hlt (by simp [hne]))
    exact ⟨(q _).trans h0, (q _).trans h1, (q _).trans h2⟩

def names5 : List ByteArray := [⟨#[102]⟩, ⟨#[116, 116]⟩, ⟨#[97]⟩, ⟨#[122, 122]⟩, ⟨#[]⟩]
set_option maxHeartbeats 1600000 in
theorem drawSymOf_any (a : Option Addr) (bs : List Int) (n cap : Nat) (w : World) (hn : n = bs.length) (hl : bs.length ≤ 1048576) (hr : ∀ c, w.heap.size ≤ c → RdB w c a bs) :
    Calls Tryd.prog 6 #[.slice a n cap] w fun e w' => ∃ (g o lc : Nat) (ss : List SymD) (nm : ByteArray), e = .returned (.tuple #[.slice (some ⟨g, o, none⟩) ss.length lc, .string nm]) ∧ nm.size ≤ 9 ∧ smallSyms ss ∧ RdS w' (some ⟨g, o, none⟩) ss ∧ Below w.heap.size w w' := by
  have H := new_any a bs n cap w hn hl hr
  have hbs := Rd_new hr
  subst hn
  clear hr
  go_enter Tryd.func6, Tryd.ntmps6
  go_wp2_with (go_at_call 24; refine H.mono ?_; rintro e w1 ⟨rfl, hC, hb⟩; clear H)
  go_wp2_with (go_at_call 23; refine (l2Draw_any _ a bs cap _ hl hC (hbs.imp id fun h x hx => Nat.lt_of_lt_of_le (h x hx) hb.size)).mono ?_; rintro e w2 ⟨g, o, lc, ss, rfl, h1, h2, h3, h4, h5⟩; have hclt := hC.lt; have hs2 := h5.size; clear hC hbs)
  go_wp2_with (go_at_call 25; refine (pickStr_any _ _ _ _ _ _ names5 _ _ hl rfl (by decide) (by decide) (h4.below ((Below.refl _ _).alloc (Nat.le_refl _) _)) (by simp) (Nat.ne_of_gt h4.lt) (lit_strs w2 names5)).mono ?_; rintro e w3 ⟨s, rfl, hs, hC3, hg3⟩)
  go_ret2
  have hall : ∀ s ∈ names5, s.size ≤ 9 := by decide
  have hB2 : Below w.heap.size w w2 := hb.trans (grown_below h5 hb.size (Nat.le_refl _))
  exact ⟨g, o, lc, ss, s, rfl, hall s hs, h1, RdS_grown (h3.below ((Below.refl _ _).alloc (Nat.le_refl _) _)) (by omega) hg3, (hB2.alloc hB2.size _).trans (grown_below hg3 (by have := hB2.size; simp; omega) (Nat.le_refl _))⟩

set_option maxHeartbeats 1600000 in
theorem drawBlind_any (a : Option Addr) (bs : List Int) (n cap : Nat) (w : World) (hn : n = bs.length) (hl : bs.length ≤ 1048576) (hr : ∀ c, w.heap.size ≤ c → RdB w c a bs) :
    Calls Tryd.prog 7 #[.slice a n cap] w fun e w' => ∃ (g o lc : Nat) (ss : List SymD) (f : Int), e = .returned (.tuple #[.slice (some ⟨g, o, none⟩) ss.length lc, .int .i64 f]) ∧ (-2 ≤ f ∧ f ≤ 8) ∧ smallSyms ss ∧ RdS w' (some ⟨g, o, none⟩) ss ∧ Below w.heap.size w w' := by
  have H := new_any a bs n cap w hn hl hr
  have hbs := Rd_new hr
  subst hn
  clear hr
  go_enter Tryd.func7, Tryd.ntmps7
  go_wp2_with (go_at_call 24; refine H.mono ?_; rintro e w1 ⟨rfl, hC, hb⟩; clear H)
  go_wp2_with (go_at_call 23; refine (l2Draw_any _ a bs cap _ hl hC (hbs.imp id fun h x hx => Nat.lt_of_lt_of_le (h x hx) hb.size)).mono ?_; rintro e w2 ⟨g, o, lc, ss, rfl, h1, h2, h3, h4, h5⟩; have hclt := hC.lt; have hs2 := h5.size; clear hC hbs)
  go_wp2_with (go_at_call 26; refine (below_any _ a bs cap 11 _ hl (by omega) (by omega) h4).mono ?_; rintro e w3 ⟨k, rfl, hk, hC3, hg3⟩)
  go_ret2
  have hB2 : Below w.heap.size w w2 := hb.trans (grown_below h5 hb.size (Nat.le_refl _))
  exact ⟨g, o, lc, ss, (k : Int) - 2, rfl, ⟨by omega, by omega⟩, h1, RdS_grown h3 (by omega) hg3, hB2.trans (grown_below hg3 (by have := hB2.size; omega) (Nat.le_refl _))⟩

theorem drawArity_any (a : Option Addr) (bs : List Int) (n cap : Nat) (w : World) (hn : n = bs.length) (hl : bs.length ≤ 1048576) (hr : ∀ c, w.heap.size ≤ c → RdB w c a bs) :
    Calls Tryd.prog 8 #[.slice a n cap] w fun e w' => ∃ (g o lc : Nat) (ss : List SymD) (f : Int), e = .returned (.tuple #[.slice (some ⟨g, o, none⟩) ss.length lc, .int .i64 f]) ∧ (-2 ≤ f ∧ f ≤ 8) ∧ smallSyms ss ∧ RdS w' (some ⟨g, o, none⟩) ss ∧ Below w.heap.size w w' := by
  have H := drawBlind_any a bs n cap w hn hl hr
  clear hn hl hr
  go_enter Tryd.func8, Tryd.ntmps8
  go_wp2_with (go_at_call 7; refine H.mono ?_; rintro e w1 ⟨g, o, lc, ss, f, rfl, h⟩; clear H)
  go_ret2
  exact ⟨g, o, lc, ss, f, rfl, h⟩

def names8 : List ByteArray := [⟨#[]⟩, ⟨#[97]⟩, ⟨#[97, 49]⟩, ⟨#[49, 97]⟩, ⟨#[65]⟩, ⟨#[97, 98, 99, 100, 101, 102, 103, 104]⟩, ⟨#[97, 98, 99, 100, 101, 102, 103, 104, 105]⟩, ⟨#[97, 95, 98]⟩]
set_option maxHeartbeats 800000 in
theorem drawNameOk_any (a : Option Addr) (bs : List Int) (n cap : Nat) (w : World) (hn : n = bs.length) (hl : bs.length ≤ 1048576) (hr : ∀ c, w.heap.size ≤ c → RdB w c a bs) :
    Calls Tryd.prog 10 #[.slice a n cap] w fun e w' => ∃ s : ByteArray, e = .returned (.string s) ∧ s.size ≤ 9 ∧ Below w.heap.size w w' := by
  have H := new_any a bs n cap w hn hl hr
  subst hn
  clear hr
  go_enter Tryd.func10, Tryd.ntmps10
  go_wp2_with (go_at_call 24; refine H.mono ?_; rintro e w1 ⟨rfl, hC, hb⟩; clear H)
  go_wp2_with (go_at_call 25; refine (pickStr_any _ _ _ _ _ _ names8 _ _ hl rfl (by decide) (by decide) (hC.below ((Below.refl _ _).alloc (Nat.le_refl _) _)) (by simp) (Nat.ne_of_gt hC.lt) (lit_strs w1 names8)).mono ?_; rintro e w2 ⟨s, rfl, hz, hC2, hg2⟩)
  go_ret
  have hall : ∀ s ∈ names8, s.size ≤ 9 := by decide
  exact ⟨s, rfl, hall s hz, (hb.alloc hb.size _).trans (grown_below hg2 (by have := hb.size; simp; omega) (Nat.le_refl _))⟩
end Go.Proofs.YtpcimneinnanbaaDoor
