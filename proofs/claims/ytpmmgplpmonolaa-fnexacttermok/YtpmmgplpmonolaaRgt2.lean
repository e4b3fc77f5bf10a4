/- Whether a term is right, its size too, as the specification tells it. Conditions: terms of at most 4194304 parts, at most 1048577 functions. -/
import Derived.Test.YtpmmgplpmonolaaRgt
namespace Go.Proofs.Ytpmmgplpmonolaa
set_option maxRecDepth 100000
open Go.RowKit

set_option maxHeartbeats 3200000 in
theorem specTermOk_any (sa : Option Addr) (ss : List SymD) (sc : Nat) (hss : ss.length ≤ 1048577) (hnm : ∀ s ∈ ss, s.name.size ≤ 1048576) (t : TermD) (a : Option Addr) (c hi : Nat) (w : World) (hf : isW t.f) (hs : RdS w sa ss) (hp : partsT t ≤ 4194304) (hr : RdK w hi a t.kids) (hhi : hi ≤ w.heap.size) :
    Calls Try.prog 28 #[.slice sa ss.length sc, .agg #[.int .i64 t.f, .int .i64 t.v, .slice a t.kids.length c]] w fun e w' => e = .returned (.bool (sigOk ss && decide (partsT t ≤ 60) && rightT ss t)) ∧ Below w.heap.size w w' := by
  obtain ⟨W, hW⟩ : ∃ W, W = w.alloc (.cells #[.int .i64 t.f, .int .i64 t.v, .slice a t.kids.length c] 27) := ⟨_, rfl⟩
  have hB : Below w.heap.size w W := by rw [hW]; exact (Below.refl _ _).alloc (Nat.le_refl _) _
  have p0 : W.cell? ⟨w.heap.size, 0, none⟩ = some (.int .i64 t.f) := by rw [hW]; simp [go_sem]
  have p1 : W.cell? ⟨w.heap.size, 1, none⟩ = some (.int .i64 t.v) := by rw [hW]; simp [go_sem]
  have p2 : W.cell? ⟨w.heap.size, 2, none⟩ = some (.slice a t.kids.length c) := by rw [hW]; simp [go_sem]
  have CS := fun W' (h : Below W.heap.size W W') => specSigOk_any sa ss ss.length sc W' rfl ((hs.below hB).below h) hss hnm
  have CP := fun W' (h : Below W.heap.size W W') => specParts_any (partsT t) t a c hi W' (Nat.le_refl _) hp (hr.on ((hB.trans (h.mono hB.size)).mono hhi)) (Nat.le_trans hhi (Nat.le_trans hB.size h.size))
  have CR := fun W' (h : Below W.heap.size W W') => l4Right_any sa ss sc hss (partsT t) t a c hi W' hf ((hs.below hB).below h) (Nat.le_refl _) hp (hr.on ((hB.trans (h.mono hB.size)).mono hhi)) (Nat.le_trans hhi (Nat.le_trans hB.size h.size))
  clear hs hr hf
  cases hsg : sigOk ss with
  | false =>
    simp only [hsg] at CS
    clear CP CR
    go_enter Try.func28, Try.ntmps28
    go_wp2_with (go_at_call 71; rw [← hW]; refine (CS _ (Below.refl _ _)).mono ?_; rintro e w1 ⟨rfl, hw⟩; subst w1; clear hW)
    go_ret
    exact ⟨rtB (by simp), hB⟩
  | true =>
    simp only [hsg] at CS
    by_cases h60 : partsT t ≤ 60
    · have h60i : ((partsT t : Nat) : Int) ≤ 60 := by omega
      rw [decide_eq_true h60]
      go_enter Try.func28, Try.ntmps28
      go_wp2_with (first
        | (go_at_call 71; rw [← hW]; refine (CS _ (Below.refl _ _)).mono ?_; rintro e w1 ⟨rfl, hw⟩; subst w1; clear hW)
        | (go_at_call 72; refine (CP _ (Below.refl _ _)).mono ?_; rintro e w2 ⟨rfl, hb2⟩; have q0 := keepC hb2 p0; have q1 := keepC hb2 p1; have q2 := keepC hb2 p2; have hB2 : Below w.heap.size w w2 := hB.trans (hb2.mono hB.size); clear p0 p1 p2)
        | (go_at_call 73; refine (CR _ hb2).mono ?_; rintro e w3 ⟨rfl, hb3⟩; have hB3 : Below w.heap.size w w3 := hB2.trans (hb3.mono hB2.size)))
      go_ret
      exact ⟨rtB (by simp), hB3⟩
    · have h60i : ¬ ((partsT t : Nat) : Int) ≤ 60 := by omega
      rw [decide_eq_false h60]
      clear CR
      go_enter Try.func28, Try.ntmps28
      go_wp2_with (first
        | (go_at_call 71; rw [← hW]; refine (CS _ (Below.refl _ _)).mono ?_; rintro e w1 ⟨rfl, hw⟩; subst w1; clear hW)
        | (go_at_call 72; refine (CP _ (Below.refl _ _)).mono ?_; rintro e w2 ⟨rfl, hb2⟩; have q0 := keepC hb2 p0; have q1 := keepC hb2 p1; have q2 := keepC hb2 p2; have hB2 : Below w.heap.size w w2 := hB.trans (hb2.mono hB.size); clear p0 p1 p2))
      go_ret
      exact ⟨rtB (by simp), hB2⟩
end Go.Proofs.Ytpmmgplpmonolaa
