/- Contract of the program's SigText: the whole. Conditions: at most 1048577 functions and bytes in all; the library's table of powers of ten holds what its own text lays. -/
import Derived.Test.YtpcimneinnanbaaDoorImpText
namespace Go.Proofs.YtpcimneinnanbaaDoor
open Go.RowKit Go.Maps

set_option maxHeartbeats 1600000 in
theorem impSigText_any (a : Option Addr) (ss : List SymD) (n cap : Nat) (w : World) (hn : n = ss.length) (hr : RdS w a ss) (hl : ss.length ≤ 1048577) (hb : bytesOf ss ≤ 1048577) (hi : ∀ s ∈ ss, isI s.ar) (hsz : ∀ s ∈ ss, s.name.size ≤ maxLen)
    (htab : Lib.TabIs Tryd.prog w "internal/strconv.uint64pow10" .u64 Lib.pow10Tab) :
    Calls Tryd.prog 19 #[.slice a n cap] w fun e w' => e = .returned (.string ⟨(sigTextK ss ss.length).toArray⟩) ∧ Below w.heap.size w w' := by
  subst hn
  have h1 : Below w.heap.size w (w.alloc (.cells #[.slice a ss.length cap] 24)) := (Below.refl w.heap.size w).alloc (Nat.le_refl _) _
  have TB := tableOf_any a ss _ cap (w.alloc (.cells #[.slice a ss.length cap] 24)) rfl (hr.below h1) hl hsz
  have TX := fun (v : Value) (base : Nat) (w' : World) (h : Below (w.alloc (.cells #[.slice a ss.length cap] 24)).heap.size (w.alloc (.cells #[.slice a ss.length cap] 24)) w') (hv : w'.ownsRow base 3 1 v ss.length (ints (upTo ss.length))) =>
    text_any w.heap.size a ss cap v base w' ((h.cell (p := ⟨w.heap.size, 0, none⟩) (by simp)).trans (by simp [go_sem])) ((hr.below h1).below h) hl hb hi hv (tab_below gPow (by decide) htab (h1.trans (h.mono (by simp))))
  clear htab hr hi hsz
  go_enter Tryd.func19, Tryd.ntmps19
  go_wp2_with (first
    | (go_at_call 27; (refine TB.mono ?_; rintro e w2 ⟨av, cv, D, rfl, hm2, hD, hrow2, hb2, _⟩; have hm3 : w2.ownsMap Tryd.prog 9 (plainElem Tryd.prog 3) (w.heap.size + 1 + 1) ss.length D := (by simpa using hm2); have NU := numbers_any _ _ av cv ss D w2 hm3 hD hrow2 hl; clear TB hm2 hm3 hrow2))
    | (go_at_call 33; (refine NU.mono ?_; rintro e w3 ⟨v, rfl, hown3, hb3⟩; have hb23 := hb2.trans (hb3.mono hb2.size); have X := TX v _ w3 hb23 hown3; clear NU TX hb2 hb3 hown3))
    | (go_at_call 34; (refine X.mono ?_; rintro e w4 ⟨rfl, hb4⟩; clear X)))
  go_ret
  have hs3 : w.heap.size ≤ w3.heap.size := by have := hb23.size; simp at this; omega
  have hB3 : Below w.heap.size w w3 := h1.trans (hb23.mono (by simp))
  exact ⟨rfl, hB3.trans (hb4.mono hs3)⟩
end Go.Proofs.YtpcimneinnanbaaDoor
