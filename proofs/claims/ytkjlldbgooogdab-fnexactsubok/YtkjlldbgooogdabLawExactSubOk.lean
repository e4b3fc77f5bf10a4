/- The law FnExactSubOk answers true at every list of functions and every list of what is put and leaves them as they were: at every argument SubOk answers as its specification, and writes into no argument. Conditions: none beyond the given row's own. -/
import Derived.Test.YtkjlldbgooogdabRows
import Derived.Test.YtkjlldbgooogdabPackExactSubOk12
import Derived.WalkKit
import Derived.ProofKit
import Derived.OpenShut
import Derived.ShutString
import Derived.ChangeOld
import Derived.Below
namespace Go.Proofs.Ytkjlldbgooogdab.fnExactSubOk
open Go.ChangeShapes Go.WideShapes Go.ChangeAt Go.RowKit
open Go.ChangeMaps (open_string shut_string)
set_option linter.unusedVariables false

theorem own : ownKnob Try.prog.godebug = none := by kernel_rfl
theorem laidOut : laidOutB Try.prog = true := by kernel_rfl

theorem name_le {ss : List SymD} {s : SymD} (h : s ∈ ss) : s.name.size ≤ bytesOf ss := by
  induction ss with
  | nil => simp at h
  | cons t ss ih =>
    simp only [bytesOf, List.map_cons, List.sum_cons] at *
    rcases List.mem_cons.1 h with rfl | h
    · omega
    · have := ih h; omega

set_option maxHeartbeats 6400000 in
set_option maxRecDepth 100000 in
/-- The law's own walk: it answers true, and nothing that was there is written. -/
theorem walk (w : World) (a0 : Option Addr) (len0 cap0 : Nat) (ss : List SymD) (hn : len0 = ss.length) (hle0 : len0 ≤ maxLen) (hr0 : RdS w a0 ss) (hall : ∀ s ∈ ss, s.name.size ≤ maxLen ∧ (Lit.int .i64 s.ar).wf = true)
    (ka : Option Addr) (klen kcap : Nat) (us : List BindD) (hkn : klen = us.length) (hkle : klen ≤ maxLen ∧ klen ≤ kcap) (hkr : RdU w w.heap.size ka us) :
    Calls Try.prog 4 #[.slice a0 len0 cap0, .slice ka klen kcap] w fun e w' => e = .returned (.bool true) ∧ Below w.heap.size w w' := by
  have hsz : ∀ s ∈ ss, s.name.size ≤ maxLen := fun s hs => (hall s hs).1
  unfold maxLen at hle0
  subst hn hkn
  have hul : us.length ≤ 9223372036854775807 := by have := hkle.1; unfold maxLen at this; omega
  have SY := szSyms_any a0 ss ss.length cap0 1048576 w rfl hr0 (by omega) (by omega) (by omega) (fun s hs => by have := hsz s hs; unfold maxLen at this; omega)
  clear hkle
  go_enter Try.func4, Try.ntmps4
  go_wp2_with (go_at_call 7; refine SY.mono ?_; rintro e w1 ⟨r, rfl, hsm, hrm, hB1⟩; clear SY)
  · go_ret
    exact ⟨rfl, hB1⟩
  · have hr0' : 0 ≤ r := by omega
    have hsum := hsm hr0'
    have hl : ss.length ≤ 1048577 := by omega
    have hnm : ∀ s ∈ ss, s.name.size ≤ 1048576 := fun s hs => by have := name_le hs; omega
    have SZ := szBindS_any us ka kcap w.heap.size r w1 hr0' hrm hul (hkr.on hB1) hB1.size
    clear hsm
    by_cases hb1 : (partsU us : Int) ≤ r
    · rw [show szU us r = r - partsU us by unfold szU; rw [if_pos hb1]] at SZ
      have hn1 : ¬ (r - (partsU us : Int)) < 0 := by omega
      have hpu : partsU us ≤ 1048576 := by omega
      have hpk : partsU us ≤ 4194303 := by omega
      clear hb1 hsum
      generalize r - (partsU us : Int) = r2 at SZ hn1
      have TT := fun (W' : World) (h : Below w.heap.size w W') => toBindS_any us ka kcap w.heap.size W' hpk (hkr.on h) h.size
      have CS := fun (sa y : Option Addr) (sc c' hi : Nat) (W' : World) (h1 : RdS W' sa ss) (h2 : RdU W' hi y us) (h3 : hi ≤ W'.heap.size) => specSubOk_any sa ss sc hl hnm us y c' hi W' hpu h1 h2 h3
      have CI := fun (sa y : Option Addr) (sc c' hi : Nat) (W' : World) (h1 : RdS W' sa ss) (h2 : RdU W' hi y us) (h3 : hi ≤ W'.heap.size) => impSubOk_any sa ss sc hsz us y c' hi W' hpu h1 h2 h3
      have hE : tb (numP us ∧ tokP ss us ∧ goneP us) = tb (∀ i, i < us.length → oneP ss us i) := by rw [show (numP us ∧ tokP ss us ∧ goneP us) = (∀ i, i < us.length → oneP ss us i) from propext (sub_same ss us)]
      rw [hE] at CI
      clear hE
      generalize tb (∀ i, i < us.length → oneP ss us i) = ok at CS CI
      have hok : (ok != ok) = false := by simp
      go_wp2_with (first
        | (go_at_call 20; refine SZ.mono ?_; rintro e w2 ⟨rfl, hb⟩; have hB2 := hB1.trans (hb.mono hB1.size); clear SZ hb hB1)
        | (go_at_call 10; refine (toSyms_any a0 ss _ cap0 _ rfl (hr0.below hB2) hl).mono ?_; rintro e w3 ⟨rfl, ho3, hb⟩; have hc3 := RdS.own rfl ho3; have hB3 := hB2.trans (hb.mono hB2.size); clear hb ho3 hB2)
        | (go_at_call 22; refine (TT w3 hB3).mono ?_; rintro e w4 ⟨rfl, ho4, hb⟩; have hc4 := hc3.below hb; have hB4 := hB3.trans (hb.mono hB3.size); clear hb hc3 hB3)
        | (go_at_call 21; refine (CS _ _ _ _ w4.heap.size _ hc4 ho4.rd (Nat.le_refl _)).mono ?_; rintro e w5 ⟨rfl, hb⟩; have hB5 := hB4.trans (hb.mono hB4.size); clear hb hc4 ho4 hB4)
        | (go_at_call 10; refine (toSyms_any a0 ss _ cap0 _ rfl (hr0.below hB5) hl).mono ?_; rintro e w6 ⟨rfl, ho6, hb⟩; have hc6 := RdS.own rfl ho6; have hB6 := hB5.trans (hb.mono hB5.size); clear hb ho6 hB5)
        | (go_at_call 22; refine (TT w6 hB6).mono ?_; rintro e w7 ⟨rfl, ho7, hb⟩; have hc7 := hc6.below hb; have hB7 := hB6.trans (hb.mono hB6.size); have hu7 := ho7.rd; clear hb hc6 hB6 ho7)
        | (go_at_call 23; refine (CI _ _ _ _ w7.heap.size _ hc7 hu7 (Nat.le_refl _)).mono ?_; rintro e w8 ⟨rfl, hb⟩; have hB8 := hB7.trans (hb.mono hB7.size); have hc8 := hc7.below hb; have hu8 := (hu7.on hb).mono hb.size; clear hb hc7 hu7 hB7)
        | (go_at_call 10; refine (toSyms_any a0 ss _ cap0 _ rfl (hr0.below hB8) hl).mono ?_; rintro e w9 ⟨rfl, ho9, hb⟩; have hcs := RdS.own rfl ho9; have hB9 := hB8.trans (hb.mono hB8.size); have hc9 := hc8.below hb; have hu9 := (hu8.on hb).mono hb.size; clear hb ho9 hB8 hc8 hu8)
        | (go_at_call 14; refine (eqSyms_same _ _ ss _ _ _ _ _ rfl rfl hc9 hcs hl).mono ?_; rintro e w10 ⟨rfl, hb⟩; have hB10 := hB9.trans (hb.mono hB9.size); have hu10 := (hu9.on hb).mono hb.size; clear hb hcs hc9 hu9 hB9)
        | (go_at_call 22; refine (TT w10 hB10).mono ?_; rintro e w11 ⟨rfl, ho11, hb⟩; have hB11 := hB10.trans (hb.mono hB10.size); have hu11 := (hu10.on hb).mono hb.size; clear hb hB10 hu10)
        | (go_at_call 24; refine (eqBindS_same us _ _ _ _ w11.heap.size _ hpk hu11 ho11.rd (Nat.le_refl _)).mono ?_; rintro e w12 ⟨rfl, hb⟩; have hB12 := hB11.trans (hb.mono hB11.size); clear hb))
      go_ret
      exact ⟨rfl, hB12⟩
    · rw [show szU us r = -1 by unfold szU; rw [if_neg hb1]] at SZ
      go_wp2_with (go_at_call 20; refine SZ.mono ?_; rintro e w2 ⟨rfl, hb⟩; have hB2 : Below w.heap.size w w2 := hB1.trans (hb.mono hB1.size); clear SZ hb)
      go_ret
      exact ⟨rfl, hB2⟩

set_option maxRecDepth 100000 in
theorem lifted (os : Os) (started : os.Started) (H : Type) (enc : TypeId × Value → H) :
    ReturnsInHanded {} Try.checked os 4 .any (Rows.fnExactSubOkSpec.pre6 enc Try.prog Try.f4 Rows.fnExactSubOkRow.domain false) (Rows.fnExactSubOkSpec.post enc Try.prog Try.f4 false true false false) := by
  refine returnsInHanded_of_change (C := Try.checked) own started (by kernel_rfl) Try.func4
    (ChangeSpec.witness6 (enc := enc) (C := Try.checked) false ⟨#[], #[.slice none 0 0, .slice none 0 0], []⟩ 8 (by kernel_rfl) (by kernel_rfl) (by kernel_rfl) (by kernel_rfl)) ?_
  intro W base args ds gs before hval0 hW hcnd _
  have hval : ∀ (j : Nat) t v, Try.f4.params[j]? = some t → args[j]? = some v → Value.okWide Try.prog W .any base t v := hval0
  have hW' := hW
  obtain ⟨p, q, hA0, hV, rfl, hfz, hnd⟩ := hW
  have hA : DataW.TrodAll enc Try.prog W 0 (fun _ => true) true Try.f4.params.toList args.toList ds p := hA0
  rw [Try.params4] at hA hval
  obtain ⟨v0, vs0, d0, ds0, p0, q0, hargs, rfl, rfl, h0, r0⟩ := trodAll_cons hA
  obtain ⟨v1, vs1, d1, ds1, p1, q1, rfl, rfl, rfl, h1, r1⟩ := trodAll_cons r0
  obtain ⟨rfl, rfl, rfl⟩ := trodAll_nil r1
  obtain rfl : args = #[v0, v1] := by cases args; simp_all
  obtain ⟨rfl, rfl⟩ := trodVars_none hV
  obtain ⟨a0, len0, cap0, rfl⟩ := okWide_slice Try.underlying22 (hval 0 22 v0 rfl rfl)
  have k0 := h0
  have lt0 : ∀ x ∈ p0, x.block < W.heap.size := by obtain ⟨m, hm⟩ := k0; exact DataW.trod_lt m _ _ _ hm
  obtain ⟨ss0, hn0, hle0, hr0, hall0⟩ := open_syms rfl h0
  obtain ⟨a1, len1, cap1, rfl⟩ := okWide_slice Try.underlying40 (hval 1 40 v1 rfl rfl)
  have k1 := h1
  have lt1 : ∀ x ∈ p1, x.block < W.heap.size := by obtain ⟨m, hm⟩ := k1; exact DataW.trod_lt m _ _ _ hm
  obtain ⟨ts1, hn1, hle1, hr1⟩ := open_binds rfl h1
  clear hA0 hval0
  refine (walk W a0 len0 cap0 ss0 hn0 hle0 hr0 hall0 a1 len1 cap1 ts1 hn1 hle1 hr1).mono fun e W' ⟨he, bel⟩ => ?_
  subst he
  exact ⟨_, rfl, _, _, _, [], _, [], hW', trodAll_mk1 (shut_bool Try.underlying4 _), (trodAll_cons_mk (Below.trod laidOut (by kernel_rfl) (of_decide_eq_true (by kernel_rfl)) k0 bel lt0) (trodAll_cons_mk (Below.trod laidOut (by kernel_rfl) (of_decide_eq_true (by kernel_rfl)) k1 bel lt1) trodAll_mk0)), by first | rfl | simp, bel.frame _, fun h => by cases h⟩

theorem over : Rows.fnExactSubOkRow.holds Try.pinned (OpenSpec.ofChange Rows.fnExactSubOkSpec) :=
  OpenClaim.holds_of_wide 4 Try.f4 rfl rfl rfl rfl rfl rfl rfl ⟨rfl, rfl, rfl, rfl, rfl⟩ rfl rfl rfl rfl rfl (by kernel_rfl) Try.func4 (by kernel_rfl)
    (of_decide_eq_true (by kernel_rfl)) (by unfold Func.isWrapper; first | (rw [if_pos (by decide +kernel)]; kernel_rfl) | (rw [if_neg (by decide +kernel)]; exact ⟨rfl, rfl⟩))
    (fun os started H enc _ => lifted os started H enc)

theorem proved : Rows.FnExactSubOkSaid := over
end Go.Proofs.Ytkjlldbgooogdab.fnExactSubOk
namespace Go.Proofs.Ytkjlldbgooogdab
theorem fnExactSubOk_holds : Rows.FnExactSubOkSaid := fnExactSubOk.proved
#print axioms fnExactSubOk_holds
end Go.Proofs.Ytkjlldbgooogdab
