/- The law FnExactNumAdd answers true at every list of numbers and every number, and leaves both as they were: at every argument NumAdd answers as its specification, in new memory. Conditions: none beyond the given row's own. -/
import Derived.Test.YtefmmcdhpepmaaaRows
import Derived.Test.YtefmmcdhpepmaaaKit3
import Derived.WalkKit
import Derived.ProofKit
import Derived.OpenShut
import Derived.ShutString
import Derived.ChangeOld
import Derived.Below
namespace Go.Proofs.Ytefmmcdhpepmaaa.fnExactNumAdd
open Go.ChangeShapes Go.WideShapes Go.ChangeAt Go.RowKit
open Go.ChangeMaps (open_string shut_string)
set_option linter.unusedVariables false

theorem own : ownKnob Try.prog.godebug = none := by kernel_rfl
theorem laidOut : laidOutB Try.prog = true := by kernel_rfl

theorem own_base {w : World} {base base' : Nat} {e : TypeId} {size g n c : Nat} {xs : List Value} (h : w.ownsRow base e size (.slice (some ⟨g, 0, none⟩) n c) n xs) (hb : base' ≤ base) : w.ownsRow base' e size (.slice (some ⟨g, 0, none⟩) n c) n xs := by
  obtain ⟨h1, h2⟩ := h
  refine ⟨h1, ?_⟩
  rcases h2 with ⟨h, _⟩ | ⟨g', cap, cur, h, hg, r⟩
  · simp at h
  · exact .inr ⟨g', cap, cur, h, by omega, r⟩
theorem own_cells {w : World} {base g c : Nat} {zs : List Int} {n : Nat} (hn : n = zs.length) (h : w.ownsRow base 3 1 (.slice (some ⟨g, 0, none⟩) n c) n (ints zs)) :
    g < w.heap.size ∧ ∀ i, i < zs.length → w.cell? ⟨g, 0 + i, none⟩ = some (.int .i64 (zs[i]?.getD 0)) := by
  subst hn
  refine ⟨(h.lt g rfl).2, fun i hi => ?_⟩
  rw [show (0 + i) = i by omega, h.cellAt i (by omega)]
  simp [ints, hi]

/-- What is known of memory from the middle of the law on: the specification's list, the copy and the program's list lie in three blocks of the call's own. -/
structure St (w : World) (zs : List Int) (x : Int) (gW cW gX gG : Nat) (X G : List Int) (W : World) : Prop where
  bel : Below w.heap.size w W
  ownW : W.ownsRow w.heap.size 3 1 (.slice (some ⟨gW, 0, none⟩) (ins zs x).length cW) (ins zs x).length (ints (ins zs x))
  ownX : W.ownsRow w.heap.size 3 1 (.slice (some ⟨gX, 0, none⟩) zs.length zs.length) zs.length (ints X)
  ownG : W.ownsRow w.heap.size 3 1 (.slice (some ⟨gG, 0, none⟩) (ins zs x).length (zs.length + 1)) (ins zs x).length (ints G)
  wx : gW ≠ gX
  wg : gW ≠ gG
  xg : gX ≠ gG

theorem St.start {w w2 w3 w4 : World} {zs : List Int} {x : Int} {gW cW : Nat} (hB2 : Below w.heap.size w w2) (hW : w2.ownsRow w.heap.size 3 1 (.slice (some ⟨gW, 0, none⟩) (ins zs x).length cW) (ins zs x).length (ints (ins zs x)))
    (hX : w3.ownsRow w2.heap.size 3 1 (.slice (some ⟨w2.heap.size, 0, none⟩) zs.length zs.length) zs.length (ints zs)) (hb3 : Below w2.heap.size w2 w3)
    (hG : w4.ownsRow w3.heap.size 3 1 (.slice (some ⟨w3.heap.size, 0, none⟩) (ins zs x).length (zs.length + 1)) (ins zs x).length (ints (ins zs x))) (hb4 : Below w3.heap.size w3 w4) :
    St w zs x gW cW w2.heap.size w3.heap.size zs (ins zs x) w4 := by
  have h1 := (hW.lt gW rfl).2
  have h2 : w2.heap.size < w3.heap.size := (hX.lt _ rfl).2
  have h3 := hB2.size
  have h4 := hb3.size
  exact ⟨(hB2.trans (hb3.mono hB2.size)).trans (hb4.mono (by omega)), own_below (own_below hW hb3) hb4, own_below (own_base hX hB2.size) hb4, own_base hG (by omega), by omega, by omega, by omega⟩
theorem St.rW {w : World} {zs : List Int} {x : Int} {gW cW gX gG : Nat} {X G : List Int} {W : World} (h : St w zs x gW cW gX gG X G W) : Rd W (some ⟨gW, 0, none⟩) (ins zs x) := Rd.own rfl h.ownW
theorem St.rX {w : World} {zs : List Int} {x : Int} {gW cW gX gG : Nat} {G : List Int} {W : World} (h : St w zs x gW cW gX gG zs G W) : Rd W (some ⟨gX, 0, none⟩) zs := Rd.own rfl h.ownX
theorem St.rG {w : World} {zs : List Int} {x : Int} {gW cW gX gG : Nat} {X : List Int} {W : World} (h : St w zs x gW cW gX gG X (ins zs x) W) : Rd W (some ⟨gG, 0, none⟩) (ins zs x) := Rd.own rfl h.ownG
theorem St.rGm {w : World} {zs : List Int} {x : Int} {gW cW gX gG : Nat} {X : List Int} {W : World} (h : St w zs x gW cW gX gG X (upFrom 1 (ins zs x).length) W) : Rd W (some ⟨gG, 0, none⟩) (upFrom 1 (ins zs x).length) := Rd.own (upFrom_len _ _).symm h.ownG
theorem St.on {w : World} {zs : List Int} {x : Int} {gW cW gX gG : Nat} {X G : List Int} {W W' : World} (h : St w zs x gW cW gX gG X G W) (hb : Below W.heap.size W W') : St w zs x gW cW gX gG X G W' :=
  ⟨h.bel.trans (hb.mono h.bel.size), own_below h.ownW hb, own_below h.ownX hb, own_below h.ownG hb, h.wx, h.wg, h.xg⟩
theorem St.draw {w : World} {zs : List Int} {x : Int} {gW cW gX gG : Nat} {X G : List Int} {W : World} (h : St w zs x gW cW gX gG X G W) (q : Nat) : St w zs x gW cW gX gG X G (W.drewN q) :=
  h.on (below_drewN (Below.refl _ _) q)
theorem St.markX {w : World} {zs : List Int} {x : Int} {gW cW gX gG : Nat} {X G Y : List Int} {W W' : World} (h : St w zs x gW cW gX gG X G W)
    (ho : W'.ownsRow w.heap.size 3 1 (.slice (some ⟨gX, 0, none⟩) zs.length zs.length) zs.length (ints Y)) (hg : W.grownBy W' (some gX)) : St w zs x gW cW gX gG Y G W' :=
  ⟨h.bel.grown hg h.bel.size (fun k hk => by cases hk; exact (h.ownX.lt gX rfl).1), h.ownW.kept hg (.inr (by simp [Value.ownBlock]; exact h.wx)), ho, h.ownG.kept hg (.inr (by simp [Value.ownBlock]; exact fun e => h.xg e.symm)), h.wx, h.wg, h.xg⟩
theorem St.markG {w : World} {zs : List Int} {x : Int} {gW cW gX gG : Nat} {X G Y : List Int} {W W' : World} (h : St w zs x gW cW gX gG X G W)
    (ho : W'.ownsRow w.heap.size 3 1 (.slice (some ⟨gG, 0, none⟩) (ins zs x).length (zs.length + 1)) (ins zs x).length (ints Y)) (hg : W.grownBy W' (some gG)) : St w zs x gW cW gX gG X Y W' :=
  ⟨h.bel.grown hg h.bel.size (fun k hk => by cases hk; exact (h.ownG.lt gG rfl).1), h.ownW.kept hg (.inr (by simp [Value.ownBlock]; exact h.wg)), h.ownX.kept hg (.inr (by simp [Value.ownBlock]; exact h.xg)), ho, h.wx, h.wg, h.xg⟩

set_option maxHeartbeats 3200000 in
theorem walk_small (a0 : Option Addr) (cap0 : Nat) (zs : List Int) (x : Int) (w : World) (hrd : Rd w a0 zs) (hl : zs.length ≤ 1048576) :
    Calls Try.prog 4 #[.slice a0 zs.length cap0, .int .i64 x] w fun e w' => e = .returned (.bool true) ∧ Below w.heap.size w w' := by
  have hbig' : ¬ (1048576 : Int) < (zs.length : Int) := by omega
  have hl2 : zs.length ≤ 1048577 := by omega
  have hil := ins_len zs x
  have hil2 : (ins zs x).length ≤ 1048577 := by omega
  have T1 := toInts_any a0 zs _ cap0 w rfl hrd hl2
  go_enter Try.func4, Try.ntmps4
  go_wp2_with (go_at_call 6; refine T1.mono ?_; rintro e w1 ⟨rfl, hown1, hb1⟩; clear T1; have hra := hrd.below hb1; obtain ⟨hlt1, hc1⟩ := own_cells rfl hown1; clear hown1)
  go_wp2_with (go_at_call 9; refine (specNumAdd_any _ zs _ _ _ rfl hlt1 hc1 hl2).mono ?_; rintro e w2 ⟨gW, cW, rfl, hW, hb2⟩; clear hlt1 hc1; have hrb := hra.below hb2; have hB2 : Below w.heap.size w w2 := hb1.trans (hb2.mono hb1.size); have hW' := own_base hW hb1.size; clear hra hb1 hb2 hW)
  go_wp2_with (go_at_call 6; refine (toInts_any a0 zs _ cap0 _ rfl hrb hl2).mono ?_; rintro e w3 ⟨rfl, hX, hb3⟩; have hrc := hrb.below hb3; obtain ⟨hlt3, hc3⟩ := own_cells rfl hX)
  go_wp2_with (go_at_call 10; refine (implNumAdd_any _ _ zs _ _ _ _ rfl hlt3 hc3 hl2).mono ?_; rintro e w4 ⟨rfl, hG, hb4⟩; clear hlt3 hc3; have S4 := St.start hB2 hW' hX hb3 hG hb4; clear hB2 hW' hX hb3 hG hb4 hrb hrc)
  go_wp2_with (go_at_call 8; refine (eqInts_any _ _ _ _ _ _ _ _ _ rfl rfl S4.rG S4.rW hil2 hil2).mono ?_; rintro e w5 ⟨rfl, q5, rfl⟩; have S5 := S4.draw q5; clear S4; rw [eqB_self])
  go_wp2_with (go_at_call 6; refine (toInts_any a0 zs _ cap0 _ rfl (hrd.below S5.bel) hl2).mono ?_; rintro e w6 ⟨rfl, hT, hb6⟩; have S6 := S5.on hb6; have hr6 := Rd.own rfl hT; clear S5 hb6 hT)
  go_wp2_with (go_at_call 8; refine (eqInts_any _ _ _ _ _ _ _ _ _ rfl rfl S6.rX hr6 hl2 hl2).mono ?_; rintro e w7 ⟨rfl, q7, rfl⟩; have S7 := S6.draw q7; clear S6 hr6; rw [eqB_self])
  go_wp2_with (go_at_call 11; refine (mark_any _ _ zs 1 _ _ _ rfl S7.ownX hl2 (by omega) (by omega)).mono ?_; rintro e w8 ⟨rfl, hM, hg8⟩; have S8 := S7.markX hM hg8; clear S7 hM hg8)
  go_wp2_with (go_at_call 8; refine (eqInts_any _ _ _ _ _ _ _ _ _ rfl rfl S8.rG S8.rW hil2 hil2).mono ?_; rintro e w9 ⟨rfl, q9, rfl⟩; have S9 := S8.draw q9; clear S8; rw [eqB_self])
  go_wp2_with (go_at_call 11; refine (mark_any _ _ (ins zs x) 1 _ _ _ rfl S9.ownG hil2 (by omega) (by omega)).mono ?_; rintro e w10 ⟨rfl, hM, hg10⟩; have S10 := S9.markG hM hg10; clear S9 hM hg10)
  go_wp2_with (go_at_call 12; refine (held_any _ 1 _ _ _ S10.rGm hil2 (by omega) (by omega)).mono ?_; rintro e w11 ⟨rfl, hw⟩; subst w11)
  go_wp2_with (go_at_call 6; refine (toInts_any a0 zs _ cap0 _ rfl (hrd.below S10.bel) hl2).mono ?_; rintro e w12 ⟨rfl, hT, hb12⟩; have S12 := S10.on hb12; obtain ⟨hlt12, hc12⟩ := own_cells rfl hT; clear S10 hb12 hT)
  go_wp2_with (go_at_call 10; refine (implNumAdd_any _ _ zs _ _ _ _ rfl hlt12 hc12 hl2).mono ?_; rintro e w13 ⟨rfl, hH, hb13⟩; clear hlt12 hc12; have S13 := S12.on hb13; have hr13 := Rd.own rfl hH; clear S12 hb13 hH)
  go_wp2_with (go_at_call 8; refine (eqInts_any _ _ _ _ _ _ _ _ _ rfl rfl hr13 S13.rW hil2 hil2).mono ?_; rintro e w14 ⟨rfl, q14, rfl⟩; have S14 := S13.draw q14; clear S13 hr13; rw [eqB_self])
  go_wp2_with (go_at_call 12; refine (held_any _ 1 _ _ _ S14.rGm hil2 (by omega) (by omega)).mono ?_; rintro e w15 ⟨rfl, hw⟩; subst w15)
  go_ret
  exact ⟨rfl, S14.bel⟩

/-- The law's own walk: it answers true, and nothing that was there is written. -/
theorem walk (a0 : Option Addr) (len0 cap0 : Nat) (z0 : List Int) (a1 : Int) (w : World) (w0 : IsRow .i64 w a0 len0 cap0 z0) (w1 : (Lit.int .i64 a1).wf = true) :
    Calls Try.prog 4 #[.slice a0 len0 cap0, .int .i64 a1] w fun e w' => e = .returned (.bool true) ∧ Below w.heap.size w w' := by
  obtain ⟨hrd, hlen, hle⟩ := rd_of w0
  clear w0 w1
  by_cases hbig : 1048576 < len0
  · have hbig' : (1048576 : Int) < (len0 : Int) := by omega
    clear hbig hrd hlen
    unfold maxLen at hle
    go_enter Try.func4, Try.ntmps4
    go_wp2
    go_ret
    exact ⟨rfl, Below.refl _ _⟩
  · generalize hzs : z0.take len0 = zs at hrd hlen
    clear hzs
    subst hlen
    have hl : zs.length ≤ 1048576 := by omega
    clear hle
    exact walk_small a0 cap0 zs a1 w hrd hl

set_option maxRecDepth 100000 in
theorem lifted (os : Os) (started : os.Started) (H : Type) (enc : TypeId × Value → H) :
    ReturnsInHanded {} Try.checked os 4 .any (Rows.fnExactNumAddSpec.pre6 enc Try.prog Try.f4 Rows.fnExactNumAddRow.domain false) (Rows.fnExactNumAddSpec.post enc Try.prog Try.f4 false true false false) := by
  refine returnsInHanded_of_change (C := Try.checked) own started (by kernel_rfl) Try.func4
    (ChangeSpec.witness6 (enc := enc) (C := Try.checked) false ⟨#[], #[.slice none 0 0, .int .i64 0], []⟩ 8 (by kernel_rfl) (by kernel_rfl) (by kernel_rfl) (by kernel_rfl)) ?_
  intro W base args ds gs before hval0 hW hcnd _
  have hval : ∀ (j : Nat) t v, Try.f4.params[j]? = some t → args[j]? = some v → Value.okWide Try.prog W .any base t v := hval0
  have hW' := hW
  obtain ⟨p, q, hA0, hV, rfl, hfz, hnd⟩ := hW
  have hA : DataW.TrodAll enc Try.prog W 0 (fun _ => true) true Try.f4.params.toList args.toList ds p := hA0
  rw [Try.params4] at hA hval
  obtain ⟨v0, vs0, d0, ds0, p0, q0, hargs, rfl, rfl, h0, r0⟩ := trodAll_cons hA
  obtain ⟨v1, vs1, d1, ds1, p1, q1, rfl, rfl, rfl, h1, r1⟩ := trodAll_cons r0
  obtain ⟨rfl, rfl, rfl⟩ := trodAll_nil r1
  obtain rfl : args = #[v0, v1] := by cases args; simp_all
  obtain ⟨rfl, rfl⟩ := trodVars_none hV
  obtain ⟨a0, len0, cap0, rfl⟩ := okWide_slice Try.underlying22 (hval 0 22 v0 rfl rfl)
  have k0 := h0
  have lt0 : ∀ x ∈ p0, x.block < W.heap.size := by obtain ⟨m, hm⟩ := k0; exact DataW.trod_lt m _ _ _ hm
  obtain ⟨z0, w0⟩ : ∃ zs, IsRow .i64 W a0 len0 cap0 zs := by
    obtain ⟨fuel, hf⟩ := h0
    rcases open_ints Try.underlying22 Try.underlying3 (by kernel_rfl) hf with ⟨hcs, _⟩ | ⟨x, l, c, zs, hcs, _, hl, hm, hz, _, hcell, hwz⟩
    · simp [Value.cells] at hcs
      obtain ⟨rfl, rfl, rfl⟩ := hcs
      exact ⟨[], .inl ⟨rfl, rfl, rfl, rfl⟩⟩
    · simp [Value.cells] at hcs
      obtain ⟨rfl, rfl, rfl⟩ := hcs
      exact ⟨zs, .inr ⟨_, rfl, hl, hm, by simpa using hz, hcell, hwz⟩⟩
  obtain ⟨a1, rfl, rfl, rfl, w1⟩ := open_int Try.underlying3 (hval 1 3 v1 rfl rfl) h1
  clear hA0 hval0
  refine (walk a0 len0 cap0 z0 a1 W w0 w1).mono fun e W' ⟨he, bel⟩ => ?_
  subst he
  exact ⟨_, rfl, _, _, _, [], _, [], hW', trodAll_mk1 (shut_bool Try.underlying4 _), (trodAll_cons_mk (Below.trod laidOut (by kernel_rfl) (of_decide_eq_true (by kernel_rfl)) k0 bel lt0) (trodAll_cons_mk (shut_int Try.underlying3 w1) trodAll_mk0)), rfl, bel.frame _, fun h => by cases h⟩

theorem over : Rows.fnExactNumAddRow.holds Try.pinned (OpenSpec.ofChange Rows.fnExactNumAddSpec) :=
  OpenClaim.holds_of_wide 4 Try.f4 rfl rfl rfl rfl rfl rfl rfl ⟨rfl, rfl, rfl, rfl, rfl⟩ rfl rfl rfl rfl rfl (by kernel_rfl) Try.func4 (by kernel_rfl)
    (of_decide_eq_true (by kernel_rfl)) (by unfold Func.isWrapper; first | (rw [if_pos (by decide +kernel)]; kernel_rfl) | (rw [if_neg (by decide +kernel)]; exact ⟨rfl, rfl⟩))
    (fun os started H enc _ => lifted os started H enc)

theorem proved : Rows.FnExactNumAddSaid := over
end Go.Proofs.Ytefmmcdhpepmaaa.fnExactNumAdd
namespace Go.Proofs.Ytefmmcdhpepmaaa
theorem fnExactNumAdd_holds : Rows.FnExactNumAddSaid := fnExactNumAdd.proved
#print axioms fnExactNumAdd_holds
end Go.Proofs.Ytefmmcdhpepmaaa
