/- Contracts of the specification's NumIn and NumAdd, and of the program's NumAdd: a number in a list, and put into it. Conditions: at most 1048577 numbers. -/
import Derived.Test.YtpmmgplpmonolabProg
import Derived.Test.YtpmmgplpmonolabRd
import Derived.Test.YtpmmgplpmonolabIns
import Derived.Test.YtpmmgplpmonolabTermA
import Derived.BigQuiet
import Derived.Deep.QuietTactic
import Derived.OpenShut
import Derived.ProofKit
import Derived.WalkKit
import Derived.WalkSmall
namespace Go.Proofs.Ytpmmgplpmonolab
open Go.RowKit

theorem one_new (w : World) (u : Value) (t : TypeId) : ∀ j v, [u][j]? = some v → (w.alloc (.cells #[u] t)).cell? ((⟨w.heap.size, 0, none⟩ : Addr).add j) = some v := by
  intro j v hj
  match j, hj with
  | 0, hj => simp at hj; subst hj; simp [Addr.add]
  | j + 1, hj => simp at hj
theorem one_cell (n : Int) : ∀ u ∈ [Value.int .i64 n], u.oneCell' = true := by
  intro u hu; simp at hu; subst hu; rfl
theorem own_some {w : World} {base : Nat} {e : TypeId} {size : Nat} {v : Value} {n : Nat} {xs : List Value} {a : Addr} {m c : Nat} {q : Prop} (h : w.ownsRow base e size v n xs) (hv : v = .slice none 0 0 ↔ .slice (some a) m c = Value.slice none 0 0 ∧ q) : ∃ g c, v = .slice (some ⟨g, 0, none⟩) n c := by
  rcases h.2 with ⟨h, _⟩ | ⟨g, cap, _, rfl, _⟩
  · have := (hv.1 h).1; simp at this
  · exact ⟨g, cap, rfl⟩
theorem Try.info3 : (Try.prog.info? 3).map (fun i => (i.zero, i.size, i.bytes)) = some (some (.int .i64 0), 1, 8) := by kernel_rfl

set_option maxHeartbeats 400000 in
theorem specNumIn_any (a : Option Addr) (zs : List Int) (n cap : Nat) (x : Int) (w : World) (hn : n = zs.length) (hr : Rd w a zs) (hl : zs.length ≤ 1048577) :
    Calls Try.prog 33 #[.slice a n cap, .int .i64 x] w fun e w' => e = .returned (.bool (hasB zs x)) ∧ w' = w := by
  subst hn
  rcases hr with rfl | ⟨b, off, rfl, hlt, hc⟩
  · go_enter Try.func33, Try.ntmps33
    go_wp2
    refine wp_loop_rounds 1 ?_
    rw [rounds_succ]
    go_wp2
    go_ret
    exact ⟨rfl, rfl⟩
  · go_enter Try.func33, Try.ntmps33
    go_wp2
    go_loop [5] (fun i => ∃ k : Nat, k ≤ zs.length ∧ i = .int .i64 k ∧ hasB (zs.take k) x = false) (fun i => zs.length - (intOf i).toNat)
    case atStart => exact ⟨0, Nat.zero_le _, rfl, rfl⟩
    case round =>
      obtain ⟨k, hk, rfl, h0⟩ := hrel
      have H0 : Hid (hasB (zs.take k) x = false) := h0
      clear h0
      by_cases hk' : k < zs.length
      · have hck := hc k hk'
        go_wp2
        · go_ret
          exact ⟨rtB (hasB_hit hk' (by assumption)).symm, rfl⟩
        · go_round
          case rel => exact ⟨k + 1, by omega, by go_num, hasB_step hk' H0.out (by assumption)⟩
          case measure => simp [intOf]; omega
      · go_wp2
        go_ret
        exact ⟨rtB (hasB_all hk' H0.out).symm, rfl⟩

theorem own_one {w : World} {B g c : Nat} {o : List Int} {x : Int} (h : w.ownsRow B 3 1 (.slice (some ⟨g, 0, none⟩) (o.length + 1) c) (o.length + 1) (ints o ++ [.int .i64 x])) :
    w.ownsRow B 3 1 (.slice (some ⟨g, 0, none⟩) (o ++ [x]).length c) (o ++ [x]).length (ints (o ++ [x])) := by
  simpa [ints] using h
theorem own_two {w : World} {B g c : Nat} {o : List Int} {x y : Int} (h : w.ownsRow B 3 1 (.slice (some ⟨g, 0, none⟩) (o.length + 1 + 1) c) (o.length + 1 + 1) (ints o ++ [.int .i64 x] ++ [.int .i64 y])) :
    w.ownsRow B 3 1 (.slice (some ⟨g, 0, none⟩) (o ++ [x] ++ [y]).length c) (o ++ [x] ++ [y]).length (ints (o ++ [x] ++ [y])) := by
  simpa [ints] using h

theorem add_at (b off j : Nat) : (⟨b, off, none⟩ : Addr).add j = ⟨b, off + j, none⟩ := by
  by_cases h : j = 0 <;> simp [Addr.add, h]
theorem news_of {w : World} {b off : Nat} {l : List Int} (hc : ∀ i, i < l.length → w.cell? ⟨b, off + i, none⟩ = some (.int .i64 (l[i]?.getD 0))) : ∀ j u, (ints l)[j]? = some u → w.cell? ((⟨b, off, none⟩ : Addr).add j) = some u := by
  intro j u h
  have hj : j < l.length := by
    have := (List.getElem?_eq_some_iff.1 h).1
    simpa [ints] using this
  rw [add_at, hc j hj, ← h]
  simp [ints, hj]
theorem news_take {w W : World} {b : Nat} {zs : List Int} {k : Nat} (hlt : b < w.heap.size) (hc : ∀ i, i < zs.length → w.cell? ⟨b, 0 + i, none⟩ = some (.int .i64 (zs[i]?.getD 0))) (hb : Below w.heap.size w W) (o : Obj) :
    ∀ j u, (ints (zs.take k))[j]? = some u → (W.alloc o).cell? ((⟨b, 0, none⟩ : Addr).add j) = some u := by
  refine news_of (off := 0) fun i h => ?_
  rw [List.length_take] at h
  rw [(hb.alloc hb.size o).cell (p := ⟨b, 0 + i, none⟩) hlt, hc i (by omega), List.getElem?_take, if_pos (by omega)]
theorem news_drop {w W : World} {b : Nat} {zs : List Int} {k : Nat} (hlt : b < w.heap.size) (hc : ∀ i, i < zs.length → w.cell? ⟨b, 0 + i, none⟩ = some (.int .i64 (zs[i]?.getD 0))) (hb : Below w.heap.size w W) :
    ∀ j u, (ints (zs.drop k))[j]? = some u → W.cell? ((⟨b, k, none⟩ : Addr).add j) = some u := by
  refine news_of (off := k) fun i h => ?_
  rw [List.length_drop] at h
  have := hc (k + i) (by omega)
  rw [show 0 + (k + i) = k + i by omega] at this
  rw [hb.cell (p := ⟨b, k + i, none⟩) hlt, this, List.getElem?_drop]
theorem below_app {w w2 w3 : World} {g n c : Nat} {e : TypeId} {size : Nat} {xs : List Value} {o : Obj} (hb : Below w.heap.size w w2) (hown : w2.ownsRow w.heap.size e size (.slice (some ⟨g, 0, none⟩) n c) n xs) (hg : (w2.alloc o).grownBy w3 (some g)) : Below w.heap.size w w3 :=
  (hb.alloc hb.size o).grown hg (by have := hb.size; simp; omega) (fun k hk => by cases hk; exact (hown.lt g rfl).1)
theorem below_app' {w w2 w3 : World} {g n c : Nat} {e : TypeId} {size : Nat} {xs : List Value} (hb : Below w.heap.size w w2) (hown : w2.ownsRow w.heap.size e size (.slice (some ⟨g, 0, none⟩) n c) n xs) (hg : w2.grownBy w3 (some g)) : Below w.heap.size w w3 :=
  hb.grown hg hb.size (fun k hk => by cases hk; exact (hown.lt g rfl).1)
theorem own_cap {w : World} {base : Nat} {e : TypeId} {size g n c : Nat} {xs : List Value} (h : w.ownsRow base e size (.slice (some ⟨g, 0, none⟩) n c) n xs) : n ≤ c := by
  rcases h.2 with ⟨h, _⟩ | ⟨g', cap, _, h, _, _, hn, _⟩
  · simp at h
  · simp at h; omega
theorem ints_one (l : List Int) : ∀ u ∈ ints l, u.oneCell' = true := by
  intro u hu; simp [ints] at hu; obtain ⟨n, _, rfl⟩ := hu; rfl
set_option maxRecDepth 100000 in
set_option maxHeartbeats 1600000 in
theorem specNumAdd_any (b : Nat) (zs : List Int) (n cap : Nat) (x : Int) (w : World) (hn : n = zs.length) (hcap : n ≤ cap) (hlt : b < w.heap.size) (hc : ∀ i, i < zs.length → w.cell? ⟨b, 0 + i, none⟩ = some (.int .i64 (zs[i]?.getD 0))) (hl : zs.length ≤ 1048577) :
    Calls Try.prog 32 #[.slice (some ⟨b, 0, none⟩) n cap, .int .i64 x] w fun e w' => ∃ g c, e = .returned (.slice (some ⟨g, 0, none⟩) (ins zs x).length c) ∧ w'.ownsRow w.heap.size 3 1 (.slice (some ⟨g, 0, none⟩) (ins zs x).length c) (ins zs x).length (ints (ins zs x)) ∧ Below w.heap.size w w' := by
  subst hn
  obtain ⟨i0, hi, hz0, hz1, hz2⟩ := info_parts Try.info3
  have H := specNumIn_any (some ⟨b, 0, none⟩) zs _ cap x w rfl (.inr ⟨b, 0, rfl, hlt, hc⟩) hl
  by_cases hh : hasB zs x = true
  · rw [hh] at H
    go_enter Try.func32, Try.ntmps32
    have hN := news_of (off := 0) (l := zs) (w := w.alloc (.cells #[] 3)) (fun i h => ((((Below.refl w.heap.size w).alloc (Nat.le_refl _) _).cell (p := ⟨b, 0 + i, none⟩) hlt).trans (hc i h)))
    clear hc
    go_wp2_with (first
      | (go_at_call 33; refine H.mono ?_; rintro e w' ⟨rfl, hw⟩; subst w'; clear H)
      | (at_builtin; refine wpList_append_own _ rfl (.tmp 10) (.tmp 11) 53 rfl w.heap.size 3 i0 (.int .i64 0) 1 8 Try.underlying53 hi hz0 hz1 hz2 rfl (by decide) _ 0 [] rfl (World.ownsRow_made w #[] 0 (Nat.le_refl _) (Nat.zero_le _) rfl) ⟨b, 0, none⟩ zs.length cap (ints zs) rfl (by simp [ints]) hN (ints_one zs) (by unfold maxLen; omega) (by omega) (by simp) ?_; intro v' w2 hown2 hgrow2 hnil2; obtain ⟨g, c, rfl⟩ := own_some hown2 hnil2; have hg2 : (w.alloc (.cells #[] 3)).grownBy w2 (some w.heap.size) := hgrow2; clear hnil2 hN hgrow2; simp only [Nat.zero_add, List.nil_append] at hown2 ⊢))
    go_ret
    have e : ins zs x = zs := by simp [ins, hh]
    rw [e]
    exact ⟨g, c, rfl, hown2, ((Below.refl w.heap.size w).alloc (Nat.le_refl _) _).grown hg2 (by simp) (by simp)⟩
  · have hh' : hasB zs x = false := by simpa using hh
    rw [hh'] at H
    have HH : Hid (hasB zs x = false) := hh'
    clear hh hh'
    go_enter Try.func32, Try.ntmps32
    go_wp2_with (go_at_call 33; refine H.mono ?_; rintro e w' ⟨rfl, hw⟩; subst w'; clear H)
    go_loop [5] (fun i => ∃ k : Nat, k ≤ zs.length ∧ i = .int .i64 k ∧ Hid (∀ j, (h : j < zs.length) → j < k → zs[j] < x)) (fun i => zs.length - (intOf i).toNat)
    case atStart => exact ⟨0, Nat.zero_le _, rfl, fun j _ hj => absurd hj (by omega)⟩
    case round =>
      obtain ⟨k, hk, rfl, HL⟩ := hrel
      by_cases hgo : ∃ h : k < zs.length, zs[k] < x
      · obtain ⟨hk', hlx⟩ := hgo
        have hck : w.cell? ⟨b, k, none⟩ = some (.int .i64 zs[k]) := by have := hc k hk'; simpa [hk'] using this
        have HL' : Hid (∀ j, (h : j < zs.length) → j < k + 1 → zs[j] < x) := by
          intro j h hj
          by_cases e : j = k
          · subst e; exact hlx
          · exact HL.out j h (by omega)
        clear hc
        go_wp2
        go_round
        case rel => exact ⟨k + 1, by omega, by go_num, HL'⟩
        case measure => simp [intOf]; omega
      · have HI := ins_at hk HH.out HL.out (fun h hx => hgo ⟨h, hx⟩)
        have HIH : Hid (ins zs x = zs.take k ++ [x] ++ zs.drop k) := HI
        clear HI HL
        by_cases hk' : k < zs.length
        · have hlx : ¬ zs[k] < x := fun h => hgo ⟨hk', h⟩
          have hck : w.cell? ⟨b, k, none⟩ = some (.int .i64 zs[k]) := by have := hc k hk'; simpa [hk'] using this
          have hN1 := news_take (k := k) hlt hc (Below.refl w.heap.size w) (.cells #[] 3)
          have hD := fun W (hW : Below w.heap.size w W) => news_drop (k := k) hlt hc hW
          clear hgo hc
          go_wp2_with (first
            | (at_builtin; refine wpList_append_own _ rfl (.tmp 27) (.tmp 30) 53 rfl w.heap.size 3 i0 (.int .i64 0) 1 8 Try.underlying53 hi hz0 hz1 hz2 rfl (by decide) _ 0 [] rfl (World.ownsRow_made w #[] 0 (Nat.le_refl _) (Nat.zero_le _) rfl) ⟨b, 0, none⟩ k cap (ints (zs.take k)) rfl (by simp [ints]; omega) hN1 (ints_one _) (by unfold maxLen; omega) (by omega) (by simp) ?_; intro v' w2 hown2 hgrow2 hnil2; obtain ⟨g, c, rfl⟩ := own_some hown2 hnil2; have hb2 : Below w.heap.size w w2 := ((Below.refl w.heap.size w).alloc (Nat.le_refl _) (.cells #[] 3)).grown (row := some w.heap.size) hgrow2 (by simp) (by simp); clear hnil2 hN1 hgrow2; simp only [Nat.zero_add, List.nil_append] at hown2 ⊢)
            | (at_builtin; refine wpList_append_own _ rfl (.tmp 32) (.tmp 34) 53 rfl w.heap.size 3 i0 (.int .i64 0) 1 8 Try.underlying53 hi hz0 hz1 hz2 rfl (by decide) _ k _ rfl (hown2.alloc _) ⟨w2.heap.size, 0, none⟩ 1 1 [.int .i64 x] rfl rfl (one_new _ _ _) (one_cell _) (by unfold maxLen; omega) (by omega) (by have := hb2.size; simp; omega) ?_; intro v3 w3 hown3 hgrow3 hnil3; obtain ⟨g3, c3, rfl⟩ := own_some hown3 hnil3; have hb3 := below_app hb2 hown2 hgrow3; clear hnil3 hgrow3 hown2 hb2)
            | (at_builtin; refine wpList_append_own _ rfl (.tmp 36) (.tmp 39) 53 rfl w.heap.size 3 i0 (.int .i64 0) 1 8 Try.underlying53 hi hz0 hz1 hz2 rfl (by decide) _ (k + 1) _ rfl hown3 ⟨b, k, none⟩ (zs.length - k) (cap - k) (ints (zs.drop k)) rfl (by simp [ints]) (hD w3 hb3) (ints_one _) (by unfold maxLen; omega) (by omega) hb3.size ?_; intro v4 w4 hown4 hgrow4 hnil4; obtain ⟨g4, c4, rfl⟩ := own_some hown4 hnil4; have hb4 := below_app' hb3 hown3 hgrow4; clear hnil4 hgrow4 hown3 hb3 hD))
          go_ret
          have HE := HIH.out
          have hlen : (ins zs x).length = k + 1 + (zs.length - k) := by rw [HE]; simp; omega
          have hin : ints (ins zs x) = ints (zs.take k) ++ [Value.int .i64 x] ++ ints (zs.drop k) := by rw [HE]; simp [ints]
          rw [hlen, hin]
          exact ⟨g4, c4, rfl, hown4, hb4⟩
        · have e : k = zs.length := by omega
          subst e
          have hN1 := news_of (off := 0) (l := zs) (w := w.alloc (.cells #[] 3)) (fun i h => ((((Below.refl w.heap.size w).alloc (Nat.le_refl _) _).cell (p := ⟨b, 0 + i, none⟩) hlt).trans (hc i h)))
          clear hgo hc hk' hk
          go_wp2_with (first
            | (at_builtin; refine wpList_append_own _ rfl (.tmp 27) (.tmp 30) 53 rfl w.heap.size 3 i0 (.int .i64 0) 1 8 Try.underlying53 hi hz0 hz1 hz2 rfl (by decide) _ 0 [] rfl (World.ownsRow_made w #[] 0 (Nat.le_refl _) (Nat.zero_le _) rfl) ⟨b, 0, none⟩ zs.length cap (ints zs) rfl (by simp [ints]) hN1 (ints_one _) (by unfold maxLen; omega) (by omega) (by simp) ?_; intro v' w2 hown2 hgrow2 hnil2; obtain ⟨g, c, rfl⟩ := own_some hown2 hnil2; have hb2 : Below w.heap.size w w2 := ((Below.refl w.heap.size w).alloc (Nat.le_refl _) (.cells #[] 3)).grown (row := some w.heap.size) hgrow2 (by simp) (by simp); clear hnil2 hN1 hgrow2; simp only [Nat.zero_add, List.nil_append] at hown2 ⊢)
            | (at_builtin; refine wpList_append_own _ rfl (.tmp 32) (.tmp 34) 53 rfl w.heap.size 3 i0 (.int .i64 0) 1 8 Try.underlying53 hi hz0 hz1 hz2 rfl (by decide) _ zs.length _ rfl (hown2.alloc _) ⟨w2.heap.size, 0, none⟩ 1 1 [.int .i64 x] rfl rfl (one_new _ _ _) (one_cell _) (by unfold maxLen; omega) (by omega) (by have := hb2.size; simp; omega) ?_; intro v3 w3 hown3 hgrow3 hnil3; obtain ⟨g3, c3, rfl⟩ := own_some hown3 hnil3; have hcap3 := own_cap hown3; have hb3 := below_app hb2 hown2 hgrow3; clear hnil3 hgrow3 hown2 hb2))
          all_goals
            go_ret
            have HE := HIH.out
            have hlen : (ins zs x).length = zs.length + 1 := by rw [HE]; simp
            have hin : ints (ins zs x) = ints zs ++ [Value.int .i64 x] := by rw [HE]; simp [ints]
            rw [hlen, hin]
            exact ⟨g3, c3, rfl, hown3, hb3⟩

end Go.Proofs.Ytpmmgplpmonolab
