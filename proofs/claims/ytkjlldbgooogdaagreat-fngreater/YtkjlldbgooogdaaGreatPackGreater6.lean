/- What the proof of FnGreater stands on, part 6 of 12: each piece says what it proves and under which conditions. Conditions: as each piece says. -/
import Derived.Test.YtkjlldbgooogdaaGreatPackGreater5
import Derived.Test.YtkjlldbgooogdaaGreatProg
import Derived.BigQuiet
import Derived.Deep.QuietTactic
import Derived.OpenShut
import Derived.ProofKit
import Derived.WalkKit
import Derived.WalkSmall
import Derived.Lib.SlicesCompact
import Derived.Shelf.Small.Bits
import Derived.Shelf.Small.Wraps
import Derived.Shelf.Strconv.Itoa0
import Derived.Shelf.Sort.Plain
import Derived.Ground.GgsProg
import Derived.Shelf.GgSortFunc.Tiny
import Derived.Ground.Names2Prog
import Derived.Shelf.Slices.CompactI
import Derived.Shelf.Slices.Cells
import Derived.Shelf.Slices.In.SortNone
import Derived.Shelf.SlSortFunc.Xorshift
import Derived.Sort.OwnSortedInts
import Derived.Lib.OwnBridge
import Derived.Lib.RowBridge
/- Contracts of the specification's NumIn and NumAdd, and of the program's NumAdd: a number in a list, and put into it. Conditions: at most 1048577 numbers. -/
namespace Go.Proofs.YtkjlldbgooogdaaGreat
set_option maxRecDepth 100000
open Go.RowKit

theorem one_new (w : World) (u : Value) (t : TypeId) : ∀ j v, [u][j]? = some v → (w.alloc (.cells #[u] t)).cell? ((⟨w.heap.size, 0, none⟩ : Addr).add j) = some v := by
  intro j v hj
  match j, hj with
  | 0, hj => simp at hj; subst hj; simp [Addr.add]
  | j + 1, hj => simp at hj
theorem one_cell (n : Int) : ∀ u ∈ [Value.int .i64 n], u.oneCell' = true := by
  intro u hu; simp at hu; subst hu; rfl
theorem own_some {w : World} {base : Nat} {e : TypeId} {size : Nat} {v : Value} {n : Nat} {xs : List Value} {a : Addr} {m c : Nat} {q : Prop} (h : w.ownsRow base e size v n xs) (hv : v = .slice none 0 0 ↔ .slice (some a) m c = Value.slice none 0 0 ∧ q) : ∃ g c, v = .slice (some ⟨g, 0, none⟩) n c := by
  rcases h.2 with ⟨h, _⟩ | ⟨g, cap, _, rfl, _⟩
  · have := (hv.1 h).1; simp at this
  · exact ⟨g, cap, rfl⟩
theorem Tryz.info3 : (Tryz.prog.info? 3).map (fun i => (i.zero, i.size, i.bytes)) = some (some (.int .i64 0), 1, 8) := by kernel_rfl

set_option maxHeartbeats 400000 in
theorem specNumIn_any (a : Option Addr) (zs : List Int) (n cap : Nat) (x : Int) (w : World) (hn : n = zs.length) (hr : Rd w a zs) (hl : zs.length ≤ 1048577) :
    Calls Tryz.prog 97 #[.slice a n cap, .int .i64 x] w fun e w' => e = .returned (.bool (hasB zs x)) ∧ w' = w := by
  subst hn
  rcases hr with rfl | ⟨b, off, rfl, hlt, hc⟩
  · go_enter Tryz.func97, Tryz.ntmps97
    go_wp2
    refine wp_loop_rounds 1 ?_
    rw [rounds_succ]
    go_wp2
    go_ret
    exact ⟨rfl, rfl⟩
  · go_enter Tryz.func97, Tryz.ntmps97
    go_wp2
    go_loop [5] (fun i => ∃ k : Nat, k ≤ zs.length ∧ i = .int .i64 k ∧ hasB (zs.take k) x = false) (fun i => zs.length - (intOf i).toNat)
    case atStart => exact ⟨0, Nat.zero_le _, rfl, rfl⟩
    case round =>
      obtain ⟨k, hk, rfl, h0⟩ := hrel
      have H0 : Hid (hasB (zs.take k) x = false) := h0
      clear h0
      by_cases hk' : k < zs.length
      · have hck := hc k hk'
        go_wp2
        · go_ret
          exact ⟨rtB (hasB_hit hk' (by assumption)).symm, rfl⟩
        · go_round
          case rel => exact ⟨k + 1, by omega, by go_num, hasB_step hk' H0.out (by assumption)⟩
          case measure => simp [intOf]; omega
      · go_wp2
        go_ret
        exact ⟨rtB (hasB_all hk' H0.out).symm, rfl⟩

theorem own_one {w : World} {B g c : Nat} {o : List Int} {x : Int} (h : w.ownsRow B 3 1 (.slice (some ⟨g, 0, none⟩) (o.length + 1) c) (o.length + 1) (ints o ++ [.int .i64 x])) :
    w.ownsRow B 3 1 (.slice (some ⟨g, 0, none⟩) (o ++ [x]).length c) (o ++ [x]).length (ints (o ++ [x])) := by
  simpa [ints] using h
theorem own_two {w : World} {B g c : Nat} {o : List Int} {x y : Int} (h : w.ownsRow B 3 1 (.slice (some ⟨g, 0, none⟩) (o.length + 1 + 1) c) (o.length + 1 + 1) (ints o ++ [.int .i64 x] ++ [.int .i64 y])) :
    w.ownsRow B 3 1 (.slice (some ⟨g, 0, none⟩) (o ++ [x] ++ [y]).length c) (o ++ [x] ++ [y]).length (ints (o ++ [x] ++ [y])) := by
  simpa [ints] using h

theorem add_at (b off j : Nat) : (⟨b, off, none⟩ : Addr).add j = ⟨b, off + j, none⟩ := by
  by_cases h : j = 0 <;> simp [Addr.add, h]
theorem news_of {w : World} {b off : Nat} {l : List Int} (hc : ∀ i, i < l.length → w.cell? ⟨b, off + i, none⟩ = some (.int .i64 (l[i]?.getD 0))) : ∀ j u, (ints l)[j]? = some u → w.cell? ((⟨b, off, none⟩ : Addr).add j) = some u := by
  intro j u h
  have hj : j < l.length := by
    have := (List.getElem?_eq_some_iff.1 h).1
    simpa [ints] using this
  rw [add_at, hc j hj, ← h]
  simp [ints, hj]
theorem news_take {w W : World} {b : Nat} {zs : List Int} {k : Nat} (hlt : b < w.heap.size) (hc : ∀ i, i < zs.length → w.cell? ⟨b, 0 + i, none⟩ = some (.int .i64 (zs[i]?.getD 0))) (hb : Below w.heap.size w W) (o : Obj) :
    ∀ j u, (ints (zs.take k))[j]? = some u → (W.alloc o).cell? ((⟨b, 0, none⟩ : Addr).add j) = some u := by
  refine news_of (off := 0) fun i h => ?_
  rw [List.length_take] at h
  rw [(hb.alloc hb.size o).cell (p := ⟨b, 0 + i, none⟩) hlt, hc i (by omega), List.getElem?_take, if_pos (by omega)]
theorem news_drop {w W : World} {b : Nat} {zs : List Int} {k : Nat} (hlt : b < w.heap.size) (hc : ∀ i, i < zs.length → w.cell? ⟨b, 0 + i, none⟩ = some (.int .i64 (zs[i]?.getD 0))) (hb : Below w.heap.size w W) :
    ∀ j u, (ints (zs.drop k))[j]? = some u → W.cell? ((⟨b, k, none⟩ : Addr).add j) = some u := by
  refine news_of (off := k) fun i h => ?_
  rw [List.length_drop] at h
  have := hc (k + i) (by omega)
  rw [show 0 + (k + i) = k + i by omega] at this
  rw [hb.cell (p := ⟨b, k + i, none⟩) hlt, this, List.getElem?_drop]
theorem below_app {w w2 w3 : World} {g n c : Nat} {e : TypeId} {size : Nat} {xs : List Value} {o : Obj} (hb : Below w.heap.size w w2) (hown : w2.ownsRow w.heap.size e size (.slice (some ⟨g, 0, none⟩) n c) n xs) (hg : (w2.alloc o).grownBy w3 (some g)) : Below w.heap.size w w3 :=
  (hb.alloc hb.size o).grown hg (by have := hb.size; simp; omega) (fun k hk => by cases hk; exact (hown.lt g rfl).1)
theorem below_app' {w w2 w3 : World} {g n c : Nat} {e : TypeId} {size : Nat} {xs : List Value} (hb : Below w.heap.size w w2) (hown : w2.ownsRow w.heap.size e size (.slice (some ⟨g, 0, none⟩) n c) n xs) (hg : w2.grownBy w3 (some g)) : Below w.heap.size w w3 :=
  hb.grown hg hb.size (fun k hk => by cases hk; exact (hown.lt g rfl).1)
theorem own_cap {w : World} {base : Nat} {e : TypeId} {size g n c : Nat} {xs : List Value} (h : w.ownsRow base e size (.slice (some ⟨g, 0, none⟩) n c) n xs) : n ≤ c := by
  rcases h.2 with ⟨h, _⟩ | ⟨g', cap, _, h, _, _, hn, _⟩
  · simp at h
  · simp at h; omega
theorem ints_one (l : List Int) : ∀ u ∈ ints l, u.oneCell' = true := by
  intro u hu; simp [ints] at hu; obtain ⟨n, _, rfl⟩ := hu; rfl
set_option maxRecDepth 100000 in
set_option maxHeartbeats 1600000 in
theorem specNumAdd_any (b : Nat) (zs : List Int) (n cap : Nat) (x : Int) (w : World) (hn : n = zs.length) (hcap : n ≤ cap) (hlt : b < w.heap.size) (hc : ∀ i, i < zs.length → w.cell? ⟨b, 0 + i, none⟩ = some (.int .i64 (zs[i]?.getD 0))) (hl : zs.length ≤ 1048577) :
    Calls Tryz.prog 86 #[.slice (some ⟨b, 0, none⟩) n cap, .int .i64 x] w fun e w' => ∃ g c, e = .returned (.slice (some ⟨g, 0, none⟩) (ins zs x).length c) ∧ w'.ownsRow w.heap.size 3 1 (.slice (some ⟨g, 0, none⟩) (ins zs x).length c) (ins zs x).length (ints (ins zs x)) ∧ Below w.heap.size w w' := by
  subst hn
  obtain ⟨i0, hi, hz0, hz1, hz2⟩ := info_parts Tryz.info3
  have H := specNumIn_any (some ⟨b, 0, none⟩) zs _ cap x w rfl (.inr ⟨b, 0, rfl, hlt, hc⟩) hl
  by_cases hh : hasB zs x = true
  · rw [hh] at H
    go_enter Tryz.func86, Tryz.ntmps86
    have hN := news_of (off := 0) (l := zs) (w := w.alloc (.cells #[] 3)) (fun i h => ((((Below.refl w.heap.size w).alloc (Nat.le_refl _) _).cell (p := ⟨b, 0 + i, none⟩) hlt).trans (hc i h)))
    clear hc
    go_wp2_with (first
      | (go_at_call 97; refine H.mono ?_; rintro e w' ⟨rfl, hw⟩; subst w'; clear H)
      | (at_builtin; refine wpList_append_own _ rfl (.tmp 10) (.tmp 11) 45 rfl w.heap.size 3 i0 (.int .i64 0) 1 8 Tryz.underlying45 hi hz0 hz1 hz2 rfl (by decide) _ 0 [] rfl (World.ownsRow_made w #[] 0 (Nat.le_refl _) (Nat.zero_le _) rfl) ⟨b, 0, none⟩ zs.length cap (ints zs) rfl (by simp [ints]) hN (ints_one zs) (by unfold maxLen; omega) (by omega) (by simp) ?_; intro v' w2 hown2 hgrow2 hnil2; obtain ⟨g, c, rfl⟩ := own_some hown2 hnil2; have hg2 : (w.alloc (.cells #[] 3)).grownBy w2 (some w.heap.size) := hgrow2; clear hnil2 hN hgrow2; simp only [Nat.zero_add, List.nil_append] at hown2 ⊢))
    go_ret
    have e : ins zs x = zs := by simp [ins, hh]
    rw [e]
    exact ⟨g, c, rfl, hown2, ((Below.refl w.heap.size w).alloc (Nat.le_refl _) _).grown hg2 (by simp) (by simp)⟩
  · have hh' : hasB zs x = false := by simpa using hh
    rw [hh'] at H
    have HH : Hid (hasB zs x = false) := hh'
    clear hh hh'
    go_enter Tryz.func86, Tryz.ntmps86
    go_wp2_with (go_at_call 97; refine H.mono ?_; rintro e w' ⟨rfl, hw⟩; subst w'; clear H)
    go_loop [5] (fun i => ∃ k : Nat, k ≤ zs.length ∧ i = .int .i64 k ∧ Hid (∀ j, (h : j < zs.length) → j < k → zs[j] < x)) (fun i => zs.length - (intOf i).toNat)
    case atStart => exact ⟨0, Nat.zero_le _, rfl, fun j _ hj => absurd hj (by omega)⟩
    case round =>
      obtain ⟨k, hk, rfl, HL⟩ := hrel
      by_cases hgo : ∃ h : k < zs.length, zs[k] < x
      · obtain ⟨hk', hlx⟩ := hgo
        have hck : w.cell? ⟨b, k, none⟩ = some (.int .i64 zs[k]) := by have := hc k hk'; simpa [hk'] using this
        have HL' : Hid (∀ j, (h : j < zs.length) → j < k + 1 → zs[j] < x) := by
          intro j h hj
          by_cases e : j = k
          · subst e; exact hlx
          · exact HL.out j h (by omega)
        clear hc
        go_wp2
        go_round
        case rel => exact ⟨k + 1, by omega, by go_num, HL'⟩
        case measure => simp [intOf]; omega
      · have HI := ins_at hk HH.out HL.out (fun h hx => hgo ⟨h, hx⟩)
        have HIH : Hid (ins zs x = zs.take k ++ [x] ++ zs.drop k) := HI
        clear HI HL
        by_cases hk' : k < zs.length
        · have hlx : ¬ zs[k] < x := fun h => hgo ⟨hk', h⟩
          have hck : w.cell? ⟨b, k, none⟩ = some (.int .i64 zs[k]) := by have := hc k hk'; simpa [hk'] using this
          have hN1 := news_take (k := k) hlt hc (Below.refl w.heap.size w) (.cells #[] 3)
          have hD := fun W (hW : Below w.heap.size w W) => news_drop (k := k) hlt hc hW
          clear hgo hc
          go_wp2_with (first
            | (at_builtin; refine wpList_append_own _ rfl (.tmp 27) (.tmp 30) 45 rfl w.heap.size 3 i0 (.int .i64 0) 1 8 Tryz.underlying45 hi hz0 hz1 hz2 rfl (by decide) _ 0 [] rfl (World.ownsRow_made w #[] 0 (Nat.le_refl _) (Nat.zero_le _) rfl) ⟨b, 0, none⟩ k cap (ints (zs.take k)) rfl (by simp [ints]; omega) hN1 (ints_one _) (by unfold maxLen; omega) (by omega) (by simp) ?_; intro v' w2 hown2 hgrow2 hnil2; obtain ⟨g, c, rfl⟩ := own_some hown2 hnil2; have hb2 : Below w.heap.size w w2 := ((Below.refl w.heap.size w).alloc (Nat.le_refl _) (.cells #[] 3)).grown (row := some w.heap.size) hgrow2 (by simp) (by simp); clear hnil2 hN1 hgrow2; simp only [Nat.zero_add, List.nil_append] at hown2 ⊢)
            | (at_builtin; refine wpList_append_own _ rfl (.tmp 32) (.tmp 34) 45 rfl w.heap.size 3 i0 (.int .i64 0) 1 8 Tryz.underlying45 hi hz0 hz1 hz2 rfl (by decide) _ k _ rfl (hown2.alloc _) ⟨w2.heap.size, 0, none⟩ 1 1 [.int .i64 x] rfl rfl (one_new _ _ _) (one_cell _) (by unfold maxLen; omega) (by omega) (by have := hb2.size; simp; omega) ?_; intro v3 w3 hown3 hgrow3 hnil3; obtain ⟨g3, c3, rfl⟩ := own_some hown3 hnil3; have hb3 := below_app hb2 hown2 hgrow3; clear hnil3 hgrow3 hown2 hb2)
            | (at_builtin; refine wpList_append_own _ rfl (.tmp 36) (.tmp 39) 45 rfl w.heap.size 3 i0 (.int .i64 0) 1 8 Tryz.underlying45 hi hz0 hz1 hz2 rfl (by decide) _ (k + 1) _ rfl hown3 ⟨b, k, none⟩ (zs.length - k) (cap - k) (ints (zs.drop k)) rfl (by simp [ints]) (hD w3 hb3) (ints_one _) (by unfold maxLen; omega) (by omega) hb3.size ?_; intro v4 w4 hown4 hgrow4 hnil4; obtain ⟨g4, c4, rfl⟩ := own_some hown4 hnil4; have hb4 := below_app' hb3 hown3 hgrow4; clear hnil4 hgrow4 hown3 hb3 hD))
          go_ret
          have HE := HIH.out
          have hlen : (ins zs x).length = k + 1 + (zs.length - k) := by rw [HE]; simp; omega
          have hin : ints (ins zs x) = ints (zs.take k) ++ [Value.int .i64 x] ++ ints (zs.drop k) := by rw [HE]; simp [ints]
          rw [hlen, hin]
          exact ⟨g4, c4, rfl, hown4, hb4⟩
        · have e : k = zs.length := by omega
          subst e
          have hN1 := news_of (off := 0) (l := zs) (w := w.alloc (.cells #[] 3)) (fun i h => ((((Below.refl w.heap.size w).alloc (Nat.le_refl _) _).cell (p := ⟨b, 0 + i, none⟩) hlt).trans (hc i h)))
          clear hgo hc hk' hk
          go_wp2_with (first
            | (at_builtin; refine wpList_append_own _ rfl (.tmp 27) (.tmp 30) 45 rfl w.heap.size 3 i0 (.int .i64 0) 1 8 Tryz.underlying45 hi hz0 hz1 hz2 rfl (by decide) _ 0 [] rfl (World.ownsRow_made w #[] 0 (Nat.le_refl _) (Nat.zero_le _) rfl) ⟨b, 0, none⟩ zs.length cap (ints zs) rfl (by simp [ints]) hN1 (ints_one _) (by unfold maxLen; omega) (by omega) (by simp) ?_; intro v' w2 hown2 hgrow2 hnil2; obtain ⟨g, c, rfl⟩ := own_some hown2 hnil2; have hb2 : Below w.heap.size w w2 := ((Below.refl w.heap.size w).alloc (Nat.le_refl _) (.cells #[] 3)).grown (row := some w.heap.size) hgrow2 (by simp) (by simp); clear hnil2 hN1 hgrow2; simp only [Nat.zero_add, List.nil_append] at hown2 ⊢)
            | (at_builtin; refine wpList_append_own _ rfl (.tmp 32) (.tmp 34) 45 rfl w.heap.size 3 i0 (.int .i64 0) 1 8 Tryz.underlying45 hi hz0 hz1 hz2 rfl (by decide) _ zs.length _ rfl (hown2.alloc _) ⟨w2.heap.size, 0, none⟩ 1 1 [.int .i64 x] rfl rfl (one_new _ _ _) (one_cell _) (by unfold maxLen; omega) (by omega) (by have := hb2.size; simp; omega) ?_; intro v3 w3 hown3 hgrow3 hnil3; obtain ⟨g3, c3, rfl⟩ := own_some hown3 hnil3; have hcap3 := own_cap hown3; have hb3 := below_app hb2 hown2 hgrow3; clear hnil3 hgrow3 hown2 hb2))
          all_goals
            go_ret
            have HE := HIH.out
            have hlen : (ins zs x).length = zs.length + 1 := by rw [HE]; simp
            have hin : ints (ins zs x) = ints zs ++ [Value.int .i64 x] := by rw [HE]; simp [ints]
            rw [hlen, hin]
            exact ⟨g3, c3, rfl, hown3, hb3⟩

end Go.Proofs.YtkjlldbgooogdaaGreat

/- The variables of a term, and the contract of the specification's VarsOf. Conditions: terms of at most 1048576 parts. -/
namespace Go.Proofs.YtkjlldbgooogdaaGreat
set_option maxRecDepth 100000
open Go.RowKit

mutual
/-- The variables of a term, put into a list. -/
def varsT : TermD → List Int → List Int
  | .mk f v ks, out => varsL ks (if f = -1 then ins out v else out)
def varsL : List TermD → List Int → List Int
  | [], out => out
  | t :: ts, out => varsL ts (varsT t out)
end

theorem varsT_eq (t : TermD) (out : List Int) : varsT t out = varsL t.kids (if t.f = -1 then ins out t.v else out) := by cases t; rw [varsT]; rfl
theorem varsL_append (a b : List TermD) (out : List Int) : varsL (a ++ b) out = varsL b (varsL a out) := by
  induction a generalizing out with
  | nil => simp [varsL]
  | cons t ts ih => simp only [List.cons_append, varsL, ih]
theorem varsL_next {ts : List TermD} {k : Nat} (h : k < ts.length) (out : List Int) : varsL (ts.take (k + 1)) out = varsT ts[k] (varsL (ts.take k) out) := by
  rw [List.take_succ_eq_append_getElem h, varsL_append]
  simp [varsL]
mutual
theorem varsT_len : ∀ (t : TermD) (out : List Int), (varsT t out).length ≤ out.length + partsT t
  | .mk f v ks, out => by
    have h1 := varsL_len ks (if f = -1 then ins out v else out)
    have h2 := ins_len out v
    rw [varsT, partsT]
    split at h1 <;> simp_all <;> omega
theorem varsL_len : ∀ (ts : List TermD) (out : List Int), (varsL ts out).length ≤ out.length + partsL ts
  | [], out => by simp [varsL, partsL]
  | t :: ts, out => by
    have h1 := varsT_len t out
    have h2 := varsL_len ts (varsT t out)
    rw [varsL, partsL]; omega
end

theorem own_lower {w : World} {base base' : Nat} {e : TypeId} {size : Nat} {v : Value} {n : Nat} {xs : List Value} (h : w.ownsRow base e size v n xs) (hb : base' ≤ base) : w.ownsRow base' e size v n xs := by
  obtain ⟨h1, h2⟩ := h
  refine ⟨h1, ?_⟩
  rcases h2 with h2 | ⟨g, cap, cur, rfl, hg1, r⟩
  · exact .inl h2
  · exact .inr ⟨g, cap, cur, rfl, Nat.le_trans hb hg1, r⟩

theorem own_cells {w : World} {base g c : Nat} {zs : List Int} {n : Nat} (hn : n = zs.length) (h : w.ownsRow base 3 1 (.slice (some ⟨g, 0, none⟩) n c) n (ints zs)) :
    g < w.heap.size ∧ ∀ i, i < zs.length → w.cell? ⟨g, 0 + i, none⟩ = some (.int .i64 (zs[i]?.getD 0)) := by
  subst hn
  refine ⟨(h.lt g rfl).2, fun i hi => ?_⟩
  rw [show (0 + i) = i by omega, h.cellAt i (by omega)]
  simp [ints, hi]

/-- The row of the numbers met so far. -/
def OutRow (w : World) (B g c : Nat) (zs : List Int) : Prop := w.ownsRow B 3 1 (.slice (some ⟨g, 0, none⟩) zs.length c) zs.length (ints zs)

set_option maxHeartbeats 1600000 in
theorem specVars_any (N : Nat) : ∀ (t : TermD) (a : Option Addr) (c hi B g oc : Nat) (zs : List Int) (w : World), partsT t ≤ N → zs.length + partsT t ≤ 1048577 → RdK w hi a t.kids → hi ≤ w.heap.size → B ≤ w.heap.size → OutRow w B g oc zs →
    Calls Tryz.prog 54 #[.agg #[.int .i64 t.f, .int .i64 t.v, .slice a t.kids.length c], .slice (some ⟨g, 0, none⟩) zs.length oc] w fun e w' => ∃ g' c', e = .returned (.slice (some ⟨g', 0, none⟩) (varsT t zs).length c') ∧ OutRow w' B g' c' (varsT t zs) ∧ Below w.heap.size w w' := by
  induction N with
  | zero => intro t a c hi B g oc zs w h; rw [partsT_eq] at h; omega
  | succ N ih =>
    intro t a c hi B g oc zs w hN hM hr hhi hBw hout
    rw [partsT_eq] at hN hM
    rw [varsT_eq]
    have hlen := partsL_len t.kids
    generalize t.kids = ks at *
    have HR : Hid (RdK w hi a ks) := hr
    clear hr
    by_cases hf : t.f = -1
    · obtain ⟨zs1, hz1⟩ : ∃ z, z = ins zs t.v := ⟨_, rfl⟩
      have HV : Hid (varsL ks (if t.f = -1 then ins zs t.v else zs) = varsL ks zs1) := by show _ = _; rw [if_pos hf, hz1]
      rw [HV.out]
      have hlz : zs1.length ≤ zs.length + 1 := by rw [hz1]; exact ins_len zs t.v
      have h0 : Below w.heap.size w (w.alloc (.cells #[.int .i64 (-1), .int .i64 t.v, .slice a ks.length c] 27)) := (Below.refl w.heap.size w).alloc (Nat.le_refl _) _
      have hout1 := own_below hout h0
      obtain ⟨hgl, hgc⟩ := own_cells rfl hout1
      have A := specNumAdd_any g zs _ oc t.v _ rfl (own_cap hout) hgl hgc (by omega)
      rw [← hz1] at A
      clear hz1 hgl hgc hout1 hout
      go_enter Tryz.func54, Tryz.ntmps54
      go_wp2_with (go_at_call 86; refine A.mono ?_; rintro e w1 ⟨g1, c1, rfl, hO0, hb1⟩; clear A; have hB1 := h0.trans (hb1.mono h0.size); have hO : OutRow w1 B g1 c1 zs1 := own_lower hO0 (Nat.le_trans hBw h0.size); have hct : w1.cell? ⟨w.heap.size, 2, none⟩ = some (.slice a ks.length c) := keepC hb1 (by simp [go_sem]); have hwl1 : w.heap.size < w1.heap.size := (by have := hb1.size; simp at this; omega); clear hO0 hb1 h0)
      go_loopw [1, 5] (fun o i wr => ∃ (k g2 c2 : Nat), k ≤ ks.length ∧ i = .int .i64 k ∧ o = .slice (some ⟨g2, 0, none⟩) (varsL (ks.take k) zs1).length c2 ∧ OutRow wr B g2 c2 (varsL (ks.take k) zs1) ∧ wr.cell? ⟨w.heap.size, 2, none⟩ = some (.slice a ks.length c) ∧ Below w.heap.size w wr ∧ w.heap.size < wr.heap.size) (fun _ i _ => ks.length - (intOf i).toNat)
      case atStart => exact ⟨0, g1, c1, Nat.zero_le _, rfl, by simp [varsL], by simpa [varsL] using hO, hct, hB1, hwl1⟩
      case round =>
        obtain ⟨k, g2, c2, hk, rfl, rfl, hO2, hct2, hbr, hwl⟩ := hrel
        have hpk := partsL_take ks k
        have hvl := varsL_len (ks.take k) zs1
        clear hO hct hB1 hwl1
        by_cases hk' : k < ks.length
        · obtain ⟨b, off, a', c', rfl, hlt, d0, d1, d2, hkr⟩ := RdK.kid (HR.out.on (hbr.mono hhi)) hk'
          have hpg := partsL_get hk'
          have hpn := partsL_next hk'
          have hpk2 := partsL_take ks (k + 1)
          have hki : (k : Int) < (ks.length : Int) := by omega
          have HP : Hid (varsL (ks.take (k + 1)) zs1 = varsT ks[k] (varsL (ks.take k) zs1)) := varsL_next hk' zs1
          have I := ih ks[k] a' c' hi B g2 c2 (varsL (ks.take k) zs1) wr (by omega) (by omega) hkr (Nat.le_trans hhi hbr.size) (Nat.le_trans hBw hbr.size) hO2
          clear hkr hO2
          go_wp2_with (go_at_call 54; refine I.mono ?_; rintro e w3 ⟨g3, c3, rfl, hO3, hb3⟩; clear I; have hct3 := keepC hb3 hct2; have hbb := hbr.trans (hb3.mono hbr.size); have hwl3 : w.heap.size < w3.heap.size := (Nat.lt_of_lt_of_le hwl hb3.size); clear hbr hb3)
          go_roundw
          case rel => exact ⟨k + 1, g3, c3, by omega, by go_num, by rw [HP.out], by rw [HP.out]; exact hO3, hct3, hbb, hwl3⟩
          case measure => simp [intOf]; omega
        · have E : Hid (k = ks.length) := (by omega : k = ks.length)
          go_wp2_with fail
          go_ret
          have e2 : varsL (ks.take k) zs1 = varsL ks zs1 := by rw [E.out, List.take_length]
          rw [e2] at hO2 ⊢
          exact ⟨g2, c2, rfl, hO2, hbr⟩
    · obtain ⟨zs1, hz1⟩ : ∃ z, z = zs := ⟨_, rfl⟩
      have HV : Hid (varsL ks (if t.f = -1 then ins zs t.v else zs) = varsL ks zs1) := by show _ = _; rw [if_neg hf, hz1]
      rw [HV.out]
      subst hz1
      have hf' : (t.f == -1) = false := by simp [hf]
      have hlz : zs1.length ≤ zs1.length + 1 := by omega
      have hB1 : Below w.heap.size w (w.alloc (.cells #[.int .i64 t.f, .int .i64 t.v, .slice a ks.length c] 27)) := (Below.refl w.heap.size w).alloc (Nat.le_refl _) _
      obtain ⟨g1, hg1⟩ : ∃ x, x = g := ⟨_, rfl⟩
      obtain ⟨c1, hc1⟩ : ∃ x, x = oc := ⟨_, rfl⟩
      subst hg1 hc1
      have hO : OutRow (w.alloc (.cells #[.int .i64 t.f, .int .i64 t.v, .slice a ks.length c] 27)) B g1 c1 zs1 := own_below hout hB1
      have hct : (w.alloc (.cells #[.int .i64 t.f, .int .i64 t.v, .slice a ks.length c] 27)).cell? ⟨w.heap.size, 2, none⟩ = some (.slice a ks.length c) := by simp [go_sem]
      have hwl1 : w.heap.size < (w.alloc (.cells #[.int .i64 t.f, .int .i64 t.v, .slice a ks.length c] 27)).heap.size := by simp
      clear hf hout
      go_enter Tryz.func54, Tryz.ntmps54
      go_wp2_with fail
      go_loopw [1, 5] (fun o i wr => ∃ (k g2 c2 : Nat), k ≤ ks.length ∧ i = .int .i64 k ∧ o = .slice (some ⟨g2, 0, none⟩) (varsL (ks.take k) zs1).length c2 ∧ OutRow wr B g2 c2 (varsL (ks.take k) zs1) ∧ wr.cell? ⟨w.heap.size, 2, none⟩ = some (.slice a ks.length c) ∧ Below w.heap.size w wr ∧ w.heap.size < wr.heap.size) (fun _ i _ => ks.length - (intOf i).toNat)
      case atStart => exact ⟨0, g1, c1, Nat.zero_le _, rfl, by simp [varsL], by simpa [varsL] using hO, hct, hB1, hwl1⟩
      case round =>
        obtain ⟨k, g2, c2, hk, rfl, rfl, hO2, hct2, hbr, hwl⟩ := hrel
        have hpk := partsL_take ks k
        have hvl := varsL_len (ks.take k) zs1
        clear hO hct hB1 hwl1
        by_cases hk' : k < ks.length
        · obtain ⟨b, off, a', c', rfl, hlt, d0, d1, d2, hkr⟩ := RdK.kid (HR.out.on (hbr.mono hhi)) hk'
          have hpg := partsL_get hk'
          have hpn := partsL_next hk'
          have hpk2 := partsL_take ks (k + 1)
          have hki : (k : Int) < (ks.length : Int) := by omega
          have HP : Hid (varsL (ks.take (k + 1)) zs1 = varsT ks[k] (varsL (ks.take k) zs1)) := varsL_next hk' zs1
          have I := ih ks[k] a' c' hi B g2 c2 (varsL (ks.take k) zs1) wr (by omega) (by omega) hkr (Nat.le_trans hhi hbr.size) (Nat.le_trans hBw hbr.size) hO2
          clear hkr hO2
          go_wp2_with (go_at_call 54; refine I.mono ?_; rintro e w3 ⟨g3, c3, rfl, hO3, hb3⟩; clear I; have hct3 := keepC hb3 hct2; have hbb := hbr.trans (hb3.mono hbr.size); have hwl3 : w.heap.size < w3.heap.size := (Nat.lt_of_lt_of_le hwl hb3.size); clear hbr hb3)
          go_roundw
          case rel => exact ⟨k + 1, g3, c3, by omega, by go_num, by rw [HP.out], by rw [HP.out]; exact hO3, hct3, hbb, hwl3⟩
          case measure => simp [intOf]; omega
        · have E : Hid (k = ks.length) := (by omega : k = ks.length)
          go_wp2_with fail
          go_ret
          have e2 : varsL (ks.take k) zs1 = varsL ks zs1 := by rw [E.out, List.take_length]
          rw [e2] at hO2 ⊢
          exact ⟨g2, c2, rfl, hO2, hbr⟩

set_option maxHeartbeats 800000 in
theorem specVarsOf_any (t : TermD) (a : Option Addr) (c hi : Nat) (w : World) (hp : partsT t ≤ 1048577) (hr : RdK w hi a t.kids) (hhi : hi ≤ w.heap.size) :
    Calls Tryz.prog 25 #[.agg #[.int .i64 t.f, .int .i64 t.v, .slice a t.kids.length c]] w fun e w' => ∃ g' c', e = .returned (.slice (some ⟨g', 0, none⟩) (varsT t []).length c') ∧ OutRow w' w.heap.size g' c' (varsT t []) ∧ Below w.heap.size w w' := by
  have h0 : Below w.heap.size w ((w.alloc (.cells #[.int .i64 t.f, .int .i64 t.v, .slice a t.kids.length c] 27)).alloc (.cells #[] 3)) := ((Below.refl w.heap.size w).alloc (Nat.le_refl _) _).alloc (by simp) _
  have O0 : OutRow ((w.alloc (.cells #[.int .i64 t.f, .int .i64 t.v, .slice a t.kids.length c] 27)).alloc (.cells #[] 3)) (w.heap.size + 1) (w.heap.size + 1) 0 [] := by
    have := World.ownsRow_made (e := 3) (size := 1) (w.alloc (.cells #[.int .i64 t.f, .int .i64 t.v, .slice a t.kids.length c] 27)) #[] 0 (Nat.le_refl _) (Nat.zero_le _) rfl
    simpa [OutRow, ints] using this
  have I := specVars_any (partsT t) t a c hi w.heap.size (w.heap.size + 1) 0 [] _ (Nat.le_refl _) (by simpa using hp) (hr.on (h0.mono hhi)) (Nat.le_trans hhi h0.size) h0.size (own_lower O0 (by omega))
  simp only [List.length_nil] at I
  generalize t.kids = ks at *
  go_enter Tryz.func25, Tryz.ntmps25
  go_wp2_with (go_at_call 54; refine I.mono ?_; rintro e w1 ⟨g1, c1, rfl, hO1, hb1⟩; clear I)
  go_ret
  exact ⟨g1, c1, rfl, hO1, h0.trans (hb1.mono h0.size)⟩
end Go.Proofs.YtkjlldbgooogdaaGreat

/- The variables of a term: put in one by one they are those that stand in it, in order, each once. Conditions: none. -/
namespace Go.Proofs.YtkjlldbgooogdaaGreat
set_option maxRecDepth 100000
open Go.RowKit

/-- The numbers of the variables among terms. -/
def vl (l : List TermD) : List Int := (l.filter fun x => x.f == -1).map TermD.v
theorem vl_append (a b : List TermD) : vl (a ++ b) = vl a ++ vl b := by simp [vl]
theorem vl_len (l : List TermD) : (vl l).length ≤ l.length := by simp only [vl, List.length_map]; exact List.length_filter_le _ _
mutual
theorem vl_pre : ∀ (t : TermD) (out : List Int), varsT t out = (vl (preT t)).foldl ins out
  | .mk f v ks, out => by
    have h := vl_preL ks
    rw [varsT, preT, h, show TermD.mk f v ks :: preL ks = [TermD.mk f v ks] ++ preL ks from rfl, vl_append, List.foldl_append]
    congr 1
    by_cases e : f = -1 <;> simp [vl, TermD.f, TermD.v, e]
theorem vl_preL : ∀ (ts : List TermD) (out : List Int), varsL ts out = (vl (preL ts)).foldl ins out
  | [], out => by simp [varsL, preL, vl]
  | t :: ts, out => by
    rw [varsL, preL, vl_append, List.foldl_append, vl_pre t, vl_preL ts]
end

theorem ss_ext : ∀ {a b : List Int}, a.Pairwise (· < ·) → b.Pairwise (· < ·) → (∀ x, x ∈ a ↔ x ∈ b) → a = b
  | [], [], _, _, _ => rfl
  | [], y :: b, _, _, h => by have := (h y).2 (by simp); simp at this
  | x :: a, [], _, _, h => by have := (h x).1 (by simp); simp at this
  | x :: a, y :: b, ha, hb, h => by
    rw [List.pairwise_cons] at ha hb
    have e : x = y := by
      have h1 := (h x).1 (by simp)
      have h2 := (h y).2 (by simp)
      rcases List.mem_cons.1 h1 with h1 | h1
      · exact h1
      · rcases List.mem_cons.1 h2 with h2 | h2
        · exact h2.symm
        · have := hb.1 x h1; have := ha.1 y h2; omega
    subst e
    congr 1
    refine ss_ext ha.2 hb.2 (fun z => ⟨fun hz => ?_, fun hz => ?_⟩)
    · rcases List.mem_cons.1 ((h z).1 (by simp [hz])) with e | e
      · have := ha.1 z hz; omega
      · exact e
    · rcases List.mem_cons.1 ((h z).2 (by simp [hz])) with e | e
      · have := hb.1 z hz; omega
      · exact e

theorem drop_ge (x : Int) : ∀ {zs : List Int}, zs.Pairwise (· < ·) → ∀ z ∈ zs.dropWhile (fun y => decide (y < x)), ¬ z < x
  | [], _, z, h => by simp at h
  | y :: zs, hp, z, h => by
    rw [List.pairwise_cons] at hp
    by_cases e : y < x
    · simp only [List.dropWhile_cons, e, decide_true, if_true] at h
      exact drop_ge x hp.2 z h
    · simp only [List.dropWhile_cons, e, decide_false] at h
      rcases List.mem_cons.1 h with h | h
      · omega
      · have := hp.1 z h; omega
theorem take_lt (x : Int) : ∀ {zs : List Int}, ∀ z ∈ zs.takeWhile (fun y => decide (y < x)), z < x
  | [], z, h => by simp at h
  | y :: zs, z, h => by
    by_cases e : y < x
    · simp only [List.takeWhile_cons, e, decide_true, if_true] at h
      rcases List.mem_cons.1 h with h | h
      · omega
      · exact take_lt x z h
    · simp only [List.takeWhile_cons, e, decide_false] at h
      simp at h
theorem hasB_iff (zs : List Int) (x : Int) : hasB zs x = true ↔ x ∈ zs := by
  simp only [hasB, List.any_eq_true]
  constructor
  · rintro ⟨y, hy, e⟩; have : y = x := by simpa using e
    subst this; exact hy
  · intro h; exact ⟨x, h, by simp⟩
theorem ins_mem (zs : List Int) (x y : Int) : y ∈ ins zs x ↔ y = x ∨ y ∈ zs := by
  unfold ins
  split
  · rename_i h
    rw [hasB_iff] at h
    exact ⟨.inr, fun e => e.elim (fun e => e ▸ h) id⟩
  · rw [List.mem_append, List.mem_cons]
    conv => rhs; rw [← List.takeWhile_append_dropWhile (p := fun y => decide (y < x)) (l := zs), List.mem_append]
    exact ⟨fun h => h.elim (fun h => .inr (.inl h)) (fun h => h.elim .inl (fun h => .inr (.inr h))), fun h => h.elim (fun h => .inr (.inl h)) (fun h => h.elim .inl (fun h => .inr (.inr h)))⟩
theorem ins_ss {zs : List Int} (h : zs.Pairwise (· < ·)) (x : Int) : (ins zs x).Pairwise (· < ·) := by
  unfold ins
  split
  · exact h
  · rename_i hx
    rw [hasB_iff] at hx
    have hd : ∀ z ∈ zs.dropWhile (fun y => decide (y < x)), x < z := fun z hz => by
      have h1 := drop_ge x h z hz
      have h2 : z ≠ x := fun e => hx (e ▸ (List.dropWhile_sublist _).subset hz)
      omega
    rw [List.pairwise_append]
    refine ⟨h.sublist (List.takeWhile_sublist _), List.pairwise_cons.2 ⟨hd, h.sublist (List.dropWhile_sublist _)⟩, fun a ha b hb => ?_⟩
    have h1 := take_lt x a ha
    rcases List.mem_cons.1 hb with e | e
    · omega
    · have := hd b e; omega
theorem fold_ss : ∀ (l out : List Int), out.Pairwise (· < ·) → (l.foldl ins out).Pairwise (· < ·) ∧ ∀ y, y ∈ l.foldl ins out ↔ y ∈ l ∨ y ∈ out
  | [], out, h => by simp [h]
  | x :: l, out, h => by
    obtain ⟨h1, h2⟩ := fold_ss l (ins out x) (ins_ss h x)
    refine ⟨h1, fun y => ?_⟩
    rw [List.foldl_cons, h2, ins_mem, List.mem_cons]
    constructor
    · rintro (h | h | h)
      · exact .inl (.inr h)
      · exact .inl (.inl h)
      · exact .inr h
    · rintro ((h | h) | h)
      · exact .inr (.inl h)
      · exact .inl h
      · exact .inr (.inr h)

theorem comp_upto (d : Array Int) (hd : ∀ i j, i ≤ j → j < d.size → d[i]! ≤ d[j]!) : ∀ m, m ≤ d.size →
    (Lib.compactUpTo d m).Pairwise (· < ·) ∧ (∀ y, y ∈ Lib.compactUpTo d m ↔ ∃ j, j < m ∧ d[j]! = y)
  | 0, _ => by simp [Lib.compactUpTo]
  | m + 1, h => by
    obtain ⟨h1, h2⟩ := comp_upto d hd m (by omega)
    rw [Lib.compactUpTo_succ]
    by_cases e : m = 0
    · subst e
      have hk := Lib.keeps_lt_one d 0 (by omega)
      simp only [hk, if_true]
      have e0 : Lib.compactUpTo d 0 = [] := by simp [Lib.compactUpTo]
      rw [e0]
      refine ⟨by simp, fun y => ?_⟩
      simp only [List.nil_append, List.mem_singleton]
      constructor
      · intro h; exact ⟨0, by omega, h.symm⟩
      · rintro ⟨j, hj, rfl⟩; rw [show j = 0 by omega]
    · by_cases ed : d[m]! = d[m - 1]!
      · rw [Lib.keeps_neg (by omega) ed]
        simp only [Bool.false_eq_true, if_false, List.append_nil]
        refine ⟨h1, fun y => (h2 y).trans ⟨fun ⟨j, hj, e⟩ => ⟨j, by omega, e⟩, fun ⟨j, hj, e'⟩ => ?_⟩⟩
        by_cases ej : j = m
        · subst ej; exact ⟨j - 1, by omega, ed ▸ e'⟩
        · exact ⟨j, by omega, e'⟩
      · rw [Lib.keeps_pos ed]
        simp only [if_true]
        refine ⟨?_, fun y => ?_⟩
        · rw [List.pairwise_append]
          refine ⟨h1, by simp, fun a ha b hb => ?_⟩
          obtain ⟨j, hj, rfl⟩ := (h2 a).1 ha
          have eb : b = d[m]! := by simpa using hb
          subst eb
          have q1 := hd j (m - 1) (by omega) (by omega)
          have q2 := hd (m - 1) m (by omega) (by omega)
          omega
        · rw [List.mem_append, h2, List.mem_singleton]
          constructor
          · rintro (⟨j, hj, e'⟩ | e')
            · exact ⟨j, by omega, e'⟩
            · exact ⟨m, by omega, e'.symm⟩
          · rintro ⟨j, hj, e'⟩
            by_cases ej : j = m
            · subst ej; exact .inr e'.symm
            · exact .inl ⟨j, by omega, e'⟩

/-- Sorted and each once: as put in one by one. -/
theorem comp_fold (l : List Int) : Lib.compact (l.mergeSort fun x y => decide (x ≤ y)) = l.foldl ins [] := by
  have hs : (l.mergeSort fun x y => decide (x ≤ y)).Pairwise (fun a b => decide (a ≤ b) = true) := List.pairwise_mergeSort (fun a b c h1 h2 => by simp at *; omega) (fun a b => by simp; omega) l
  have hm : ∀ y, y ∈ (l.mergeSort fun x y => decide (x ≤ y)) ↔ y ∈ l := fun y => List.mem_mergeSort
  generalize l.mergeSort (fun x y => decide (x ≤ y)) = s at *
  have hd : ∀ i j, i ≤ j → j < s.toArray.size → s.toArray[i]! ≤ s.toArray[j]! := by
    intro i j hij hj
    simp only [List.size_toArray] at hj
    have hi : i < s.length := by omega
    have e1 : s.toArray[i]! = s[i] := by simp [hi]
    have e2 : s.toArray[j]! = s[j] := by simp [hj]
    rw [e1, e2]
    by_cases e : i = j
    · subst e; exact Int.le_refl _
    · have := List.pairwise_iff_getElem.1 hs i j hi hj (by omega)
      simpa using this
  obtain ⟨h1, h2⟩ := comp_upto s.toArray hd s.length (by simp)
  obtain ⟨h3, h4⟩ := fold_ss l [] (by simp)
  refine ss_ext h1 h3 (fun y => ?_)
  have e0 : y ∈ Lib.compact s ↔ ∃ j, j < s.length ∧ s.toArray[j]! = y := h2 y
  refine (h2 y).trans ?_
  rw [h4, ← hm]
  simp only [List.not_mem_nil, or_false]
  constructor
  · rintro ⟨j, hj, rfl⟩; simp [hj]
  · intro h
    obtain ⟨j, hj, e⟩ := List.getElem_of_mem h
    exact ⟨j, hj, by simp [hj, e]⟩

theorem vars_comp (t : TermD) : Lib.compact ((vl (preT t)).mergeSort fun x y => decide (x ≤ y)) = varsT t [] := by rw [comp_fold, vl_pre]
end Go.Proofs.YtkjlldbgooogdaaGreat

/- The library's contracts for slices.Sort, slices.Compact, sort.Slice and what they call, laid at this program by the kit's own tool, in plain words. Conditions: as each says. -/
namespace Go.Proofs
open Go.Shelf
def Tryz.lays128_ren : Go.Shelf.Ren := ⟨fun | 128 => 109 | n => n, fun | 51 => 139 | 3 => 3 | 4 => 4 | 46 => 120 | 5 => 5 | 9 => 9 | n => n, fun | n => n⟩
theorem Tryz.lays128 : Go.Proofs.Lays.n128 Tryz.prog Tryz.lays128_ren := {
  mixed := by kernel_rfl
  f128 := Tryz.func109.trans (congrArg some (by kernel_rfl))
  t3 := Tryz.underlying3
  a3 := Tryz.isAgg3
  z3 := Tryz.sizeOf3
  v3 := Tryz.zeroValue3
  t4 := Tryz.underlying4
  a4 := Tryz.isAgg4
  z4 := Tryz.sizeOf4
  v4 := Tryz.zeroValue4
  t5 := Tryz.underlying5
  a5 := Tryz.isAgg5
  z5 := Tryz.sizeOf5
  v5 := Tryz.zeroValue5
  t9 := Tryz.underlying9
  a9 := Tryz.isAgg9
  z9 := Tryz.sizeOf9
  v9 := Tryz.zeroValue9
  t46 := Tryz.underlying120
  a46 := Tryz.isAgg120
  z46 := Tryz.sizeOf120
  v46 := Tryz.zeroValue120
  t51 := Tryz.underlying139
  a51 := Tryz.isAgg139
  z51 := Tryz.sizeOf139
  v51 := Tryz.zeroValue139 }
theorem Tryz.bits_Len32 (x : Int) (w : World) (h0 : 0 ≤ x) (h1 : x ≤ 4294967295) :
    Calls Tryz.prog 109 #[.int .u32 x] w fun e w' => e = .returned (.int .i64 (Lib.bitLen x.toNat)) ∧ w' = w := Any.bits_Len32 Tryz.lays128 x w h0 h1
def Tryz.lays125_ren : Go.Shelf.Ren := ⟨fun | 125 => 94 | 128 => 109 | 129 => 110 | n => n, fun | 46 => 120 | 3 => 3 | 51 => 139 | 53 => 141 | 4 => 4 | 5 => 5 | 9 => 9 | n => n, fun | n => n⟩
theorem Tryz.lays125 : Go.Proofs.Lays.n125 Tryz.prog Tryz.lays125_ren := {
  mixed := by kernel_rfl
  f125 := Tryz.func94.trans (congrArg some (by kernel_rfl))
  f128 := Tryz.func109.trans (congrArg some (by kernel_rfl))
  f129 := Tryz.func110.trans (congrArg some (by kernel_rfl))
  t3 := Tryz.underlying3
  a3 := Tryz.isAgg3
  z3 := Tryz.sizeOf3
  v3 := Tryz.zeroValue3
  t4 := Tryz.underlying4
  a4 := Tryz.isAgg4
  z4 := Tryz.sizeOf4
  v4 := Tryz.zeroValue4
  t5 := Tryz.underlying5
  a5 := Tryz.isAgg5
  z5 := Tryz.sizeOf5
  v5 := Tryz.zeroValue5
  t9 := Tryz.underlying9
  a9 := Tryz.isAgg9
  z9 := Tryz.sizeOf9
  v9 := Tryz.zeroValue9
  t46 := Tryz.underlying120
  a46 := Tryz.isAgg120
  z46 := Tryz.sizeOf120
  v46 := Tryz.zeroValue120
  t51 := Tryz.underlying139
  a51 := Tryz.isAgg139
  z51 := Tryz.sizeOf139
  v51 := Tryz.zeroValue139
  t53 := Tryz.underlying141
  a53 := Tryz.isAgg141
  z53 := Tryz.sizeOf141
  v53 := Tryz.zeroValue141 }
theorem Tryz.bits_Len (x : Int) (w : World) (h0 : 0 ≤ x) (h1 : x ≤ 18446744073709551615) :
    Calls Tryz.prog 94 #[.int .u64 x] w fun e w' => e = .returned (.int .i64 (Lib.bitLen x.toNat)) ∧ w' = w := Any.bits_Len Tryz.lays125 x w h0 h1
def Tryz.lays215_ren : Go.Shelf.Ren := ⟨fun | 215 => 76 | n => n, fun | 3 => 3 | 4 => 4 | n => n, fun | n => n⟩
theorem Tryz.lays215 : Go.Proofs.Lays.n215 Tryz.prog Tryz.lays215_ren := {
  mixed := by kernel_rfl
  f215 := Tryz.func76.trans (congrArg some (by kernel_rfl))
  t3 := Tryz.underlying3
  a3 := Tryz.isAgg3
  z3 := Tryz.sizeOf3
  v3 := Tryz.zeroValue3
  t4 := Tryz.underlying4
  a4 := Tryz.isAgg4
  z4 := Tryz.sizeOf4
  v4 := Tryz.zeroValue4 }
open Go.RowKit in
theorem Tryz.cmp_isNaN_int (x : Int) (w : World) :
    Calls Tryz.prog 76 #[.int .i64 x] w fun e w' => e = .returned (.bool false) ∧ w' = w := Any.cmp_isNaN_int Tryz.lays215 x w
def Tryz.lays122_ren : Go.Shelf.Ren := ⟨fun | 122 => 47 | 215 => 76 | n => n, fun | 3 => 3 | 4 => 4 | n => n, fun | n => n⟩
theorem Tryz.lays122 : Go.Proofs.Lays.n122 Tryz.prog Tryz.lays122_ren := {
  mixed := by kernel_rfl
  f122 := Tryz.func47.trans (congrArg some (by kernel_rfl))
  f215 := Tryz.func76.trans (congrArg some (by kernel_rfl))
  t3 := Tryz.underlying3
  a3 := Tryz.isAgg3
  z3 := Tryz.sizeOf3
  v3 := Tryz.zeroValue3
  t4 := Tryz.underlying4
  a4 := Tryz.isAgg4
  z4 := Tryz.sizeOf4
  v4 := Tryz.zeroValue4 }
open Go.RowKit in
theorem Tryz.cmp_Compare_int (x y : Int) (w : World) :
    Calls Tryz.prog 47 #[.int .i64 x, .int .i64 y] w fun e w' => e = .returned (.int .i64 (Lib.compareInt x y)) ∧ w' = w := Any.cmp_Compare_int Tryz.lays122 x y w
def Tryz.lays129_ren : Go.Shelf.Ren := ⟨fun | 129 => 110 | n => n, fun | 53 => 141 | 3 => 3 | 4 => 4 | 46 => 120 | 5 => 5 | 9 => 9 | n => n, fun | n => n⟩
theorem Tryz.lays129 : Go.Proofs.Lays.n129 Tryz.prog Tryz.lays129_ren := {
  mixed := by kernel_rfl
  f129 := Tryz.func110.trans (congrArg some (by kernel_rfl))
  t3 := Tryz.underlying3
  a3 := Tryz.isAgg3
  z3 := Tryz.sizeOf3
  v3 := Tryz.zeroValue3
  t4 := Tryz.underlying4
  a4 := Tryz.isAgg4
  z4 := Tryz.sizeOf4
  v4 := Tryz.zeroValue4
  t5 := Tryz.underlying5
  a5 := Tryz.isAgg5
  z5 := Tryz.sizeOf5
  v5 := Tryz.zeroValue5
  t9 := Tryz.underlying9
  a9 := Tryz.isAgg9
  z9 := Tryz.sizeOf9
  v9 := Tryz.zeroValue9
  t46 := Tryz.underlying120
  a46 := Tryz.isAgg120
  z46 := Tryz.sizeOf120
  v46 := Tryz.zeroValue120
  t53 := Tryz.underlying141
  a53 := Tryz.isAgg141
  z53 := Tryz.sizeOf141
  v53 := Tryz.zeroValue141 }
theorem Tryz.bits_Len64 (x : Int) (w : World) (h0 : 0 ≤ x) (h1 : x ≤ 18446744073709551615) :
    Calls Tryz.prog 110 #[.int .u64 x] w fun e w' => e = .returned (.int .i64 (Lib.bitLen x.toNat)) ∧ w' = w := Any.bits_Len64 Tryz.lays129 x w h0 h1
def Tryz.lays189_ren : Go.Shelf.Ren := ⟨fun | 189 => 74 | 125 => 94 | 257 => 93 | 128 => 109 | 129 => 110 | 294 => 100 | 295 => 101 | 296 => 102 | 297 => 103 | 298 => 104 | 299 => 105 | 216 => 106 | 300 => 107 | 301 => 108 | 328 => 115 | 329 => 116 | 330 => 117 | 331 => 118 | 332 => 119 | 215 => 76 | 343 => 137 | n => n, fun | 28 => 45 | 3 => 3 | 46 => 120 | 0 => 0 | 51 => 139 | 53 => 141 | 4 => 4 | 183 => 133 | 182 => 132 | 131 => 67 | 5 => 5 | 9 => 9 | 218 => 153 | 222 => 157 | 228 => 169 | 229 => 170 | n => n, fun | n => n⟩
theorem Tryz.lays189 : Go.Proofs.Lays.n189 Tryz.prog Tryz.lays189_ren := {
  mixed := by kernel_rfl
  f125 := Tryz.func94.trans (congrArg some (by kernel_rfl))
  f128 := Tryz.func109.trans (congrArg some (by kernel_rfl))
  f129 := Tryz.func110.trans (congrArg some (by kernel_rfl))
  f189 := Tryz.func74.trans (congrArg some (by kernel_rfl))
  f215 := Tryz.func76.trans (congrArg some (by kernel_rfl))
  f216 := Tryz.func106.trans (congrArg some (by kernel_rfl))
  f257 := Tryz.func93.trans (congrArg some (by kernel_rfl))
  f294 := Tryz.func100.trans (congrArg some (by kernel_rfl))
  f295 := Tryz.func101.trans (congrArg some (by kernel_rfl))
  f296 := Tryz.func102.trans (congrArg some (by kernel_rfl))
  f297 := Tryz.func103.trans (congrArg some (by kernel_rfl))
  f298 := Tryz.func104.trans (congrArg some (by kernel_rfl))
  f299 := Tryz.func105.trans (congrArg some (by kernel_rfl))
  f300 := Tryz.func107.trans (congrArg some (by kernel_rfl))
  f301 := Tryz.func108.trans (congrArg some (by kernel_rfl))
  f328 := Tryz.func115.trans (congrArg some (by kernel_rfl))
  f329 := Tryz.func116.trans (congrArg some (by kernel_rfl))
  f330 := Tryz.func117.trans (congrArg some (by kernel_rfl))
  f331 := Tryz.func118.trans (congrArg some (by kernel_rfl))
  f332 := Tryz.func119.trans (congrArg some (by kernel_rfl))
  f343 := Tryz.func137.trans (congrArg some (by kernel_rfl))
  t0 := Tryz.underlying0
  a0 := Tryz.isAgg0
  z0 := Tryz.sizeOf0
  v0 := Tryz.zeroValue0
  t3 := Tryz.underlying3
  a3 := Tryz.isAgg3
  z3 := Tryz.sizeOf3
  v3 := Tryz.zeroValue3
  t4 := Tryz.underlying4
  a4 := Tryz.isAgg4
  z4 := Tryz.sizeOf4
  v4 := Tryz.zeroValue4
  t5 := Tryz.underlying5
  a5 := Tryz.isAgg5
  z5 := Tryz.sizeOf5
  v5 := Tryz.zeroValue5
  t9 := Tryz.underlying9
  a9 := Tryz.isAgg9
  z9 := Tryz.sizeOf9
  v9 := Tryz.zeroValue9
  t28 := Tryz.underlying45
  a28 := Tryz.isAgg45
  z28 := Tryz.sizeOf45
  v28 := Tryz.zeroValue45
  t46 := Tryz.underlying120
  a46 := Tryz.isAgg120
  z46 := Tryz.sizeOf120
  v46 := Tryz.zeroValue120
  t51 := Tryz.underlying139
  a51 := Tryz.isAgg139
  z51 := Tryz.sizeOf139
  v51 := Tryz.zeroValue139
  t53 := Tryz.underlying141
  a53 := Tryz.isAgg141
  z53 := Tryz.sizeOf141
  v53 := Tryz.zeroValue141
  t131 := Tryz.underlying67
  a131 := Tryz.isAgg67
  z131 := Tryz.sizeOf67
  v131 := Tryz.zeroValue67
  t182 := Tryz.underlying132
  a182 := Tryz.isAgg132
  z182 := Tryz.sizeOf132
  v182 := Tryz.zeroValue132
  t183 := Tryz.underlying133
  a183 := Tryz.isAgg133
  z183 := Tryz.sizeOf133
  v183 := Tryz.zeroValue133
  t218 := Tryz.underlying153
  a218 := Tryz.isAgg153
  z218 := Tryz.sizeOf153
  v218 := Tryz.zeroValue153
  t222 := Tryz.underlying157
  a222 := Tryz.isAgg157
  z222 := Tryz.sizeOf157
  v222 := Tryz.zeroValue157
  t228 := Tryz.underlying169
  a228 := Tryz.isAgg169
  z228 := Tryz.sizeOf169
  v228 := Tryz.zeroValue169
  t229 := Tryz.underlying170
  a229 := Tryz.isAgg170
  z229 := Tryz.sizeOf170
  v229 := Tryz.zeroValue170 }
open Go.Sort Go.RowKit in
theorem Tryz.slices_Sort_int (blk off cap : Nat) (zs : List Int) (w : World) (hH : Holds (Value.int .i64) w blk off zs.toArray) (hblk : blk < w.heap.size) (hsz : zs.length < 4611686018427387904) :
    Calls Tryz.prog 74 #[.slice (some ⟨blk, off, none⟩) zs.length cap] w fun e w' =>
      e = .returned (.tuple #[]) ∧ ∃ n os, w' = grow (putRow (Value.int .i64) (Sort.ahead w n) blk off (zs.mergeSort fun x y => decide (x ≤ y)).toArray) os := Any.slices_Sort_int Tryz.lays189 blk off cap zs w hH hblk hsz
def Tryz.laysGg26_ren : Go.Shelf.Ren := ⟨fun | 26 => 129 | n => n, fun | 44 => 152 | 3 => 3 | 0 => 0 | 4 => 4 | 26 => 128 | 37 => 147 | n => n, fun | n => n⟩
theorem Tryz.laysGg26 : Go.Proofs.LaysGg.n26 Tryz.prog Tryz.laysGg26_ren := {
  mixed := by kernel_rfl
  f26 := Tryz.func129.trans (congrArg some (by kernel_rfl))
  t0 := Tryz.underlying0
  a0 := Tryz.isAgg0
  z0 := Tryz.sizeOf0
  v0 := Tryz.zeroValue0
  i0 := by kernel_rfl
  t3 := Tryz.underlying3
  a3 := Tryz.isAgg3
  z3 := Tryz.sizeOf3
  v3 := Tryz.zeroValue3
  i3 := by kernel_rfl
  t4 := Tryz.underlying4
  a4 := Tryz.isAgg4
  z4 := Tryz.sizeOf4
  v4 := Tryz.zeroValue4
  i4 := by kernel_rfl
  t26 := Tryz.underlying128
  a26 := Tryz.isAgg128
  z26 := Tryz.sizeOf128
  v26 := Tryz.zeroValue128
  i26 := by kernel_rfl
  t37 := Tryz.underlying147
  a37 := Tryz.isAgg147
  z37 := Tryz.sizeOf147
  v37 := Tryz.zeroValue147
  i37 := by kernel_rfl
  t44 := Tryz.underlying152
  a44 := Tryz.isAgg152
  z44 := Tryz.sizeOf152
  v44 := Tryz.zeroValue152
  i44 := by kernel_rfl }
open Go.RowKit Go.Lib Go.Sort in
theorem Tryz.insertionSort_func_none (lf : Fn) (la lb : Array Value) (f : Nat) (sb : Array Value) (a b : Nat) (h : b ≤ a + 1) (ha : a < 4611686018427387904) (w : World) :
    Calls Tryz.prog 129 #[.agg #[.func lf la lb, .func (.func f) #[] sb], .int .i64 a, .int .i64 b] w fun e w' => e = .returned (.tuple #[]) ∧ w' = w.alloc (.cells #[.func lf la lb, .func (.func f) #[] sb] 152) := Any.insertionSort_func_none Tryz.laysGg26 lf la lb f sb a b h ha w
def Tryz.laysGg14_ren : Go.Shelf.Ren := ⟨fun | 14 => 114 | 26 => 129 | 27 => 130 | 28 => 131 | 29 => 132 | 30 => 133 | 31 => 134 | 32 => 135 | 33 => 136 | 34 => 138 | 35 => 139 | 36 => 140 | 37 => 141 | 38 => 142 | 13 => 94 | 39 => 143 | 24 => 109 | 25 => 110 | n => n, fun | 44 => 152 | 3 => 3 | 0 => 0 | 4 => 4 | 54 => 164 | 53 => 163 | 26 => 128 | 58 => 67 | 37 => 147 | 60 => 172 | 41 => 120 | 51 => 141 | 64 => 157 | 66 => 175 | 67 => 170 | 49 => 139 | 5 => 5 | 9 => 9 | n => n, fun | n => n⟩
theorem Tryz.laysGg14 : Go.Proofs.LaysGg.n14 Tryz.prog Tryz.laysGg14_ren := {
  mixed := by kernel_rfl
  f13 := Tryz.func94.trans (congrArg some (by kernel_rfl))
  f14 := Tryz.func114.trans (congrArg some (by kernel_rfl))
  f24 := Tryz.func109.trans (congrArg some (by kernel_rfl))
  f25 := Tryz.func110.trans (congrArg some (by kernel_rfl))
  f26 := Tryz.func129.trans (congrArg some (by kernel_rfl))
  f27 := Tryz.func130.trans (congrArg some (by kernel_rfl))
  f28 := Tryz.func131.trans (congrArg some (by kernel_rfl))
  f29 := Tryz.func132.trans (congrArg some (by kernel_rfl))
  f30 := Tryz.func133.trans (congrArg some (by kernel_rfl))
  f31 := Tryz.func134.trans (congrArg some (by kernel_rfl))
  f32 := Tryz.func135.trans (congrArg some (by kernel_rfl))
  f33 := Tryz.func136.trans (congrArg some (by kernel_rfl))
  f34 := Tryz.func138.trans (congrArg some (by kernel_rfl))
  f35 := Tryz.func139.trans (congrArg some (by kernel_rfl))
  f36 := Tryz.func140.trans (congrArg some (by kernel_rfl))
  f37 := Tryz.func141.trans (congrArg some (by kernel_rfl))
  f38 := Tryz.func142.trans (congrArg some (by kernel_rfl))
  f39 := Tryz.func143.trans (congrArg some (by kernel_rfl))
  t0 := Tryz.underlying0
  a0 := Tryz.isAgg0
  z0 := Tryz.sizeOf0
  v0 := Tryz.zeroValue0
  i0 := by kernel_rfl
  t3 := Tryz.underlying3
  a3 := Tryz.isAgg3
  z3 := Tryz.sizeOf3
  v3 := Tryz.zeroValue3
  i3 := by kernel_rfl
  t4 := Tryz.underlying4
  a4 := Tryz.isAgg4
  z4 := Tryz.sizeOf4
  v4 := Tryz.zeroValue4
  i4 := by kernel_rfl
  t5 := Tryz.underlying5
  a5 := Tryz.isAgg5
  z5 := Tryz.sizeOf5
  v5 := Tryz.zeroValue5
  i5 := by kernel_rfl
  t9 := Tryz.underlying9
  a9 := Tryz.isAgg9
  z9 := Tryz.sizeOf9
  v9 := Tryz.zeroValue9
  i9 := by kernel_rfl
  t26 := Tryz.underlying128
  a26 := Tryz.isAgg128
  z26 := Tryz.sizeOf128
  v26 := Tryz.zeroValue128
  i26 := by kernel_rfl
  t37 := Tryz.underlying147
  a37 := Tryz.isAgg147
  z37 := Tryz.sizeOf147
  v37 := Tryz.zeroValue147
  i37 := by kernel_rfl
  t41 := Tryz.underlying120
  a41 := Tryz.isAgg120
  z41 := Tryz.sizeOf120
  v41 := Tryz.zeroValue120
  i41 := by kernel_rfl
  t44 := Tryz.underlying152
  a44 := Tryz.isAgg152
  z44 := Tryz.sizeOf152
  v44 := Tryz.zeroValue152
  i44 := by kernel_rfl
  t49 := Tryz.underlying139
  a49 := Tryz.isAgg139
  z49 := Tryz.sizeOf139
  v49 := Tryz.zeroValue139
  i49 := by kernel_rfl
  t51 := Tryz.underlying141
  a51 := Tryz.isAgg141
  z51 := Tryz.sizeOf141
  v51 := Tryz.zeroValue141
  i51 := by kernel_rfl
  t53 := Tryz.underlying163
  a53 := Tryz.isAgg163
  z53 := Tryz.sizeOf163
  v53 := Tryz.zeroValue163
  i53 := by kernel_rfl
  t54 := Tryz.underlying164
  a54 := Tryz.isAgg164
  z54 := Tryz.sizeOf164
  v54 := Tryz.zeroValue164
  i54 := by kernel_rfl
  t58 := Tryz.underlying67
  a58 := Tryz.isAgg67
  z58 := Tryz.sizeOf67
  v58 := Tryz.zeroValue67
  i58 := by kernel_rfl
  t60 := Tryz.underlying172
  a60 := Tryz.isAgg172
  z60 := Tryz.sizeOf172
  v60 := Tryz.zeroValue172
  i60 := by kernel_rfl
  t64 := Tryz.underlying157
  a64 := Tryz.isAgg157
  z64 := Tryz.sizeOf157
  v64 := Tryz.zeroValue157
  i64 := by kernel_rfl
  t66 := Tryz.underlying175
  a66 := Tryz.isAgg175
  z66 := Tryz.sizeOf175
  v66 := Tryz.zeroValue175
  i66 := by kernel_rfl
  t67 := Tryz.underlying170
  a67 := Tryz.isAgg170
  z67 := Tryz.sizeOf170
  v67 := Tryz.zeroValue170
  i67 := by kernel_rfl }
open Go.RowKit Go.Lib Go.Sort in
theorem Tryz.pdqsort_func_tiny (lf : Fn) (la lb : Array Value) (f : Nat) (sb : Array Value) (n : Nat) (h : n ≤ 1) (lim : Int) (w : World) :
    Calls Tryz.prog 114 #[.agg #[.func lf la lb, .func (.func f) #[] sb], .int .i64 0, .int .i64 n, .int .i64 lim] w fun e w' => e = .returned (.tuple #[]) ∧ w' = (w.alloc (.cells #[.func lf la lb, .func (.func f) #[] sb] 152)).alloc (.cells #[.func lf la lb, .func (.func f) #[] sb] 152) := Any.pdqsort_func_tiny Tryz.laysGg14 lf la lb f sb n h lim w
def Tryz.laysGg6_ren : Go.Shelf.Ren := ⟨fun | 6 => 95 | 10 => 111 | 11 => 112 | 12 => 113 | 13 => 94 | 14 => 114 | 24 => 109 | 25 => 110 | 26 => 129 | 27 => 130 | 28 => 131 | 29 => 132 | 30 => 133 | 31 => 134 | 32 => 135 | 33 => 136 | 34 => 138 | 35 => 139 | 36 => 140 | 37 => 141 | 38 => 142 | 39 => 143 | n => n, fun | 20 => 20 | 26 => 128 | 35 => 145 | 0 => 0 | 37 => 147 | 3 => 3 | 41 => 120 | 44 => 152 | 49 => 139 | 51 => 141 | 4 => 4 | 54 => 164 | 53 => 163 | 58 => 67 | 5 => 5 | 9 => 9 | 60 => 172 | 64 => 157 | 66 => 175 | 67 => 170 | 17 => 17 | 32 => 142 | 33 => 143 | 82 => 190 | 12 => 12 | 75 => 183 | 76 => 184 | 77 => 185 | 78 => 186 | 79 => 187 | 80 => 188 | n => n, fun | n => n⟩
theorem Tryz.laysGg6 : Go.Proofs.LaysGg.n6 Tryz.prog Tryz.laysGg6_ren := {
  mixed := by kernel_rfl
  f6 := Tryz.func95.trans (congrArg some (by kernel_rfl))
  f10 := Tryz.func111.trans (congrArg some (by kernel_rfl))
  f11 := Tryz.func112.trans (congrArg some (by kernel_rfl))
  f12 := Tryz.func113.trans (congrArg some (by kernel_rfl))
  f13 := Tryz.func94.trans (congrArg some (by kernel_rfl))
  f14 := Tryz.func114.trans (congrArg some (by kernel_rfl))
  f24 := Tryz.func109.trans (congrArg some (by kernel_rfl))
  f25 := Tryz.func110.trans (congrArg some (by kernel_rfl))
  f26 := Tryz.func129.trans (congrArg some (by kernel_rfl))
  f27 := Tryz.func130.trans (congrArg some (by kernel_rfl))
  f28 := Tryz.func131.trans (congrArg some (by kernel_rfl))
  f29 := Tryz.func132.trans (congrArg some (by kernel_rfl))
  f30 := Tryz.func133.trans (congrArg some (by kernel_rfl))
  f31 := Tryz.func134.trans (congrArg some (by kernel_rfl))
  f32 := Tryz.func135.trans (congrArg some (by kernel_rfl))
  f33 := Tryz.func136.trans (congrArg some (by kernel_rfl))
  f34 := Tryz.func138.trans (congrArg some (by kernel_rfl))
  f35 := Tryz.func139.trans (congrArg some (by kernel_rfl))
  f36 := Tryz.func140.trans (congrArg some (by kernel_rfl))
  f37 := Tryz.func141.trans (congrArg some (by kernel_rfl))
  f38 := Tryz.func142.trans (congrArg some (by kernel_rfl))
  f39 := Tryz.func143.trans (congrArg some (by kernel_rfl))
  t0 := Tryz.underlying0
  a0 := Tryz.isAgg0
  z0 := Tryz.sizeOf0
  v0 := Tryz.zeroValue0
  i0 := by kernel_rfl
  t3 := Tryz.underlying3
  a3 := Tryz.isAgg3
  z3 := Tryz.sizeOf3
  v3 := Tryz.zeroValue3
  i3 := by kernel_rfl
  t4 := Tryz.underlying4
  a4 := Tryz.isAgg4
  z4 := Tryz.sizeOf4
  v4 := Tryz.zeroValue4
  i4 := by kernel_rfl
  t5 := Tryz.underlying5
  a5 := Tryz.isAgg5
  z5 := Tryz.sizeOf5
  v5 := Tryz.zeroValue5
  i5 := by kernel_rfl
  t9 := Tryz.underlying9
  a9 := Tryz.isAgg9
  z9 := Tryz.sizeOf9
  v9 := Tryz.zeroValue9
  i9 := by kernel_rfl
  t12 := Tryz.underlying12
  a12 := Tryz.isAgg12
  z12 := Tryz.sizeOf12
  v12 := Tryz.zeroValue12
  i12 := by kernel_rfl
  t17 := Tryz.underlying17
  a17 := Tryz.isAgg17
  z17 := Tryz.sizeOf17
  v17 := Tryz.zeroValue17
  i17 := by kernel_rfl
  t20 := Tryz.underlying20
  a20 := Tryz.isAgg20
  z20 := Tryz.sizeOf20
  v20 := Tryz.zeroValue20
  i20 := by kernel_rfl
  t26 := Tryz.underlying128
  a26 := Tryz.isAgg128
  z26 := Tryz.sizeOf128
  v26 := Tryz.zeroValue128
  i26 := by kernel_rfl
  t32 := Tryz.underlying142
  a32 := Tryz.isAgg142
  z32 := Tryz.sizeOf142
  v32 := Tryz.zeroValue142
  i32 := by kernel_rfl
  t33 := Tryz.underlying143
  a33 := Tryz.isAgg143
  z33 := Tryz.sizeOf143
  v33 := Tryz.zeroValue143
  i33 := by kernel_rfl
  t35 := Tryz.underlying145
  a35 := Tryz.isAgg145
  z35 := Tryz.sizeOf145
  v35 := Tryz.zeroValue145
  i35 := by kernel_rfl
  t37 := Tryz.underlying147
  a37 := Tryz.isAgg147
  z37 := Tryz.sizeOf147
  v37 := Tryz.zeroValue147
  i37 := by kernel_rfl
  t41 := Tryz.underlying120
  a41 := Tryz.isAgg120
  z41 := Tryz.sizeOf120
  v41 := Tryz.zeroValue120
  i41 := by kernel_rfl
  t44 := Tryz.underlying152
  a44 := Tryz.isAgg152
  z44 := Tryz.sizeOf152
  v44 := Tryz.zeroValue152
  i44 := by kernel_rfl
  t49 := Tryz.underlying139
  a49 := Tryz.isAgg139
  z49 := Tryz.sizeOf139
  v49 := Tryz.zeroValue139
  i49 := by kernel_rfl
  t51 := Tryz.underlying141
  a51 := Tryz.isAgg141
  z51 := Tryz.sizeOf141
  v51 := Tryz.zeroValue141
  i51 := by kernel_rfl
  t53 := Tryz.underlying163
  a53 := Tryz.isAgg163
  z53 := Tryz.sizeOf163
  v53 := Tryz.zeroValue163
  i53 := by kernel_rfl
  t54 := Tryz.underlying164
  a54 := Tryz.isAgg164
  z54 := Tryz.sizeOf164
  v54 := Tryz.zeroValue164
  i54 := by kernel_rfl
  t58 := Tryz.underlying67
  a58 := Tryz.isAgg67
  z58 := Tryz.sizeOf67
  v58 := Tryz.zeroValue67
  i58 := by kernel_rfl
  t60 := Tryz.underlying172
  a60 := Tryz.isAgg172
  z60 := Tryz.sizeOf172
  v60 := Tryz.zeroValue172
  i60 := by kernel_rfl
  t64 := Tryz.underlying157
  a64 := Tryz.isAgg157
  z64 := Tryz.sizeOf157
  v64 := Tryz.zeroValue157
  i64 := by kernel_rfl
  t66 := Tryz.underlying175
  a66 := Tryz.isAgg175
  z66 := Tryz.sizeOf175
  v66 := Tryz.zeroValue175
  i66 := by kernel_rfl
  t67 := Tryz.underlying170
  a67 := Tryz.isAgg170
  z67 := Tryz.sizeOf170
  v67 := Tryz.zeroValue170
  i67 := by kernel_rfl
  t75 := Tryz.underlying183
  a75 := Tryz.isAgg183
  z75 := Tryz.sizeOf183
  v75 := Tryz.zeroValue183
  i75 := by kernel_rfl
  t76 := Tryz.underlying184
  a76 := Tryz.isAgg184
  z76 := Tryz.sizeOf184
  v76 := Tryz.zeroValue184
  i76 := by kernel_rfl
  t77 := Tryz.underlying185
  a77 := Tryz.isAgg185
  z77 := Tryz.sizeOf185
  v77 := Tryz.zeroValue185
  i77 := by kernel_rfl
  t78 := Tryz.underlying186
  a78 := Tryz.isAgg186
  z78 := Tryz.sizeOf186
  v78 := Tryz.zeroValue186
  i78 := by kernel_rfl
  t79 := Tryz.underlying187
  a79 := Tryz.isAgg187
  z79 := Tryz.sizeOf187
  v79 := Tryz.zeroValue187
  i79 := by kernel_rfl
  t80 := Tryz.underlying188
  a80 := Tryz.isAgg188
  z80 := Tryz.sizeOf188
  v80 := Tryz.zeroValue188
  i80 := by kernel_rfl
  t82 := Tryz.underlying190
  a82 := Tryz.isAgg190
  z82 := Tryz.sizeOf190
  v82 := Tryz.zeroValue190
  i82 := by kernel_rfl }
def Tryz.laysNm220_ren : Go.Shelf.Ren := ⟨fun | 20 => 75 | n => n, fun | 22 => 45 | 3 => 3 | 4 => 4 | 0 => 0 | n => n, fun | n => n⟩
theorem Tryz.laysNm220 : Go.Proofs.Lays2.n20 Tryz.prog Tryz.laysNm220_ren := {
  mixed := by kernel_rfl
  f20 := Tryz.func75.trans (congrArg some (by kernel_rfl))
  t0 := Tryz.underlying0
  a0 := Tryz.isAgg0
  z0 := Tryz.sizeOf0
  v0 := Tryz.zeroValue0
  t3 := Tryz.underlying3
  a3 := Tryz.isAgg3
  z3 := Tryz.sizeOf3
  v3 := Tryz.zeroValue3
  t4 := Tryz.underlying4
  a4 := Tryz.isAgg4
  z4 := Tryz.sizeOf4
  v4 := Tryz.zeroValue4
  t22 := Tryz.underlying45
  a22 := Tryz.isAgg45
  z22 := Tryz.sizeOf45
  v22 := Tryz.zeroValue45
  i3 := by kernel_rfl }
open Go.RowKit Go.Lib Go.Sort in
theorem Tryz.slices_Compact_int_arr (blk off cap : Nat) (d : Array Int) (w : World) (hH : Holds encI w blk off d) (hsz : d.size ≤ 9223372036854775807) (hcap : d.size ≤ cap) :
    Calls Tryz.prog 75 #[.slice (some ⟨blk, off, none⟩) d.size cap] w fun e w' => e = .returned (.slice (some ⟨blk, off, none⟩) (compactUpTo d d.size).length cap) ∧ ∃ q, w' = putRow encI (Sort.ahead w q) blk off (compactUpTo d d.size ++ List.replicate (d.size - (compactUpTo d d.size).length) 0).toArray := Any.slices_Compact_int_arr Tryz.laysNm220 blk off cap d w hH hsz hcap
open Go.RowKit Go.Lib Go.Sort in
theorem Tryz.slices_Compact_int (blk off cap : Nat) (zs : List Int) (w : World) (hH : Holds (Value.int .i64) w blk off zs.toArray) (hsz : zs.length ≤ 9223372036854775807) (hcap : zs.length ≤ cap) :
    Calls Tryz.prog 75 #[.slice (some ⟨blk, off, none⟩) zs.length cap] w fun e w' => e = .returned (.slice (some ⟨blk, off, none⟩) (Lib.compact zs).length cap) ∧ ∃ q, w' = putRow (Value.int .i64) (Sort.ahead w q) blk off (Lib.compact zs ++ List.replicate (zs.length - (Lib.compact zs).length) 0).toArray := Any.slices_Compact_int Tryz.laysNm220 blk off cap zs w hH hsz hcap
open Go.RowKit Go.Lib Go.Sort in
theorem Tryz.slices_Compact_int_empty (a : Option Addr) (cap : Nat) (w : World) :
    Calls Tryz.prog 75 #[.slice a 0 cap] w fun e w' => e = .returned (.slice a 0 cap) ∧ w' = w := Any.slices_Compact_int_empty Tryz.laysNm220 a cap w
open Go.RowKit Go.Lib Go.Sort in
theorem Tryz.slices_Compact_int_cells (b off n c : Nat) (zs : List Int) (w : World) (hz : n ≤ zs.length) (hbig : n ≤ 9223372036854775807) (hcap : n ≤ c) (hc : ∀ j, j < zs.length → w.cell? ⟨b, off + j, none⟩ = some (.int .i64 (zs.getD j 0))) (hf : ∀ j, j < n → w.frozen? ⟨b, off + j, none⟩ = false) :
    Calls Tryz.prog 75 #[.slice (some ⟨b, off, none⟩) n c] w fun e w' => e = .returned (.slice (some ⟨b, off, none⟩) (Lib.compact (zs.take n)).length c) ∧ ∃ q, w' = (w.drewN q).setCells b off ((Lib.compact (zs.take n) ++ List.replicate (n - (Lib.compact (zs.take n)).length) 0).map (Value.int .i64)) := Any.slices_Compact_int_cells Tryz.laysNm220 b off n c zs w hz hbig hcap hc hf
open Go.RowKit Go.Sort in
theorem Tryz.slices_Sort_int_none (p : Option Addr) (cap : Nat) (w : World) :
    Calls Tryz.prog 74 #[.slice p 0 cap] w fun e w' => e = .returned (.tuple #[]) ∧ w' = w := Any.slices_Sort_int_none Tryz.lays189 p cap w
def Tryz.laysGg36_ren : Go.Shelf.Ren := ⟨fun | 36 => 140 | n => n, fun | 66 => 175 | 51 => 141 | 0 => 0 | 60 => 172 | 41 => 120 | n => n, fun | n => n⟩
theorem Tryz.laysGg36 : Go.Proofs.LaysGg.n36 Tryz.prog Tryz.laysGg36_ren := {
  mixed := by kernel_rfl
  f36 := Tryz.func140.trans (congrArg some (by kernel_rfl))
  t0 := Tryz.underlying0
  a0 := Tryz.isAgg0
  z0 := Tryz.sizeOf0
  v0 := Tryz.zeroValue0
  i0 := by kernel_rfl
  t41 := Tryz.underlying120
  a41 := Tryz.isAgg120
  z41 := Tryz.sizeOf120
  v41 := Tryz.zeroValue120
  i41 := by kernel_rfl
  t51 := Tryz.underlying141
  a51 := Tryz.isAgg141
  z51 := Tryz.sizeOf141
  v51 := Tryz.zeroValue141
  i51 := by kernel_rfl
  t60 := Tryz.underlying172
  a60 := Tryz.isAgg172
  z60 := Tryz.sizeOf172
  v60 := Tryz.zeroValue172
  i60 := by kernel_rfl
  t66 := Tryz.underlying175
  a66 := Tryz.isAgg175
  z66 := Tryz.sizeOf175
  v66 := Tryz.zeroValue175
  i66 := by kernel_rfl }
open Go.RowKit Go.Lib Go.Sort in
theorem Tryz.xorshift_Next (rb ro X : Nat) (hX : X < 18446744073709551616) (w : World) (hc : w.cell? ⟨rb, ro, none⟩ = some (.int .u64 X)) (hf : w.frozen? ⟨rb, ro, none⟩ = false) :
    Calls Tryz.prog 140 #[.pointer (some ⟨rb, ro, none⟩)] w fun e w' => e = .returned (.int .u64 (xorNextN X : Nat)) ∧ w' = (w.setCell ⟨rb, ro, none⟩ (.int .u64 (xorNextN X : Nat))).drewN 3 := Any.xorshift_Next Tryz.laysGg36 rb ro X hX w hc hf
def Tryz.laysGg35_ren : Go.Shelf.Ren := ⟨fun | 35 => 139 | 13 => 94 | 24 => 109 | 25 => 110 | n => n, fun | 3 => 3 | 41 => 120 | 49 => 139 | 51 => 141 | 4 => 4 | 5 => 5 | 9 => 9 | n => n, fun | n => n⟩
theorem Tryz.laysGg35 : Go.Proofs.LaysGg.n35 Tryz.prog Tryz.laysGg35_ren := {
  mixed := by kernel_rfl
  f13 := Tryz.func94.trans (congrArg some (by kernel_rfl))
  f24 := Tryz.func109.trans (congrArg some (by kernel_rfl))
  f25 := Tryz.func110.trans (congrArg some (by kernel_rfl))
  f35 := Tryz.func139.trans (congrArg some (by kernel_rfl))
  t3 := Tryz.underlying3
  a3 := Tryz.isAgg3
  z3 := Tryz.sizeOf3
  v3 := Tryz.zeroValue3
  i3 := by kernel_rfl
  t4 := Tryz.underlying4
  a4 := Tryz.isAgg4
  z4 := Tryz.sizeOf4
  v4 := Tryz.zeroValue4
  i4 := by kernel_rfl
  t5 := Tryz.underlying5
  a5 := Tryz.isAgg5
  z5 := Tryz.sizeOf5
  v5 := Tryz.zeroValue5
  i5 := by kernel_rfl
  t9 := Tryz.underlying9
  a9 := Tryz.isAgg9
  z9 := Tryz.sizeOf9
  v9 := Tryz.zeroValue9
  i9 := by kernel_rfl
  t41 := Tryz.underlying120
  a41 := Tryz.isAgg120
  z41 := Tryz.sizeOf120
  v41 := Tryz.zeroValue120
  i41 := by kernel_rfl
  t49 := Tryz.underlying139
  a49 := Tryz.isAgg139
  z49 := Tryz.sizeOf139
  v49 := Tryz.zeroValue139
  i49 := by kernel_rfl
  t51 := Tryz.underlying141
  a51 := Tryz.isAgg141
  z51 := Tryz.sizeOf141
  v51 := Tryz.zeroValue141
  i51 := by kernel_rfl }
open Go.RowKit Go.Lib Go.Sort in
theorem Tryz.nextPowerOfTwo (n : Nat) (hn : n < 4611686018427387904) (w : World) :
    Calls Tryz.prog 139 #[.int .i64 n] w fun e w' => e = .returned (.int .u64 ((1 <<< bitsLen n : Nat) : Int)) ∧ w' = w := Any.nextPowerOfTwo Tryz.laysGg35 n hn w
end Go.Proofs

/- The variables of a term as the program tells them: gathered, sorted, each once. Conditions: terms of at most 1048577 parts. -/
namespace Go.Proofs.YtkjlldbgooogdaaGreat
set_option maxRecDepth 100000
open Go.RowKit Go.Shelf Go.Sort
attribute [local go_sem] Oper.semAt_some

/-- A row of numbers of one's own, sorted. -/
theorem sort_any (base : Nat) (av : Option Addr) (zs : List Int) (n cv : Nat) (w : World) (hn : n = zs.length) (h : w.ownsRow base 3 1 (.slice av n cv) n (ints zs)) (hl : zs.length ≤ 4194304) :
    Calls Tryz.prog 74 #[.slice av n cv] w fun e w' => e = .returned (.tuple #[]) ∧ w'.ownsRow base 3 1 (.slice av n cv) n (ints (zs.mergeSort fun x y => decide (x ≤ y))) ∧ w.grownBy w' (Value.slice av n cv).ownBlock := by
  subst hn
  rcases h.2 with ⟨hv, h0⟩ | ⟨g, cap, cur, hv, hg, hb, hc1, hc2, hc3, hc4⟩
  · have hz : zs = [] := List.length_eq_zero_iff.1 h0
    subst hz
    obtain ⟨rfl, rfl⟩ : av = none ∧ cv = 0 := by simpa using hv
    refine (Tryz.slices_Sort_int_none none 0 w).mono ?_
    rintro e w' ⟨rfl, rfl⟩
    exact ⟨rfl, by simpa using h, World.grownBy.refl _ _⟩
  · cases hv
    rw [Nat.mul_one] at hc4
    have hH : Holds (Value.int .i64) w g 0 zs.toArray := holds_of_blockI hb hc4
    refine (Tryz.slices_Sort_int g 0 cv zs w hH (Array.getElem?_eq_some_iff.1 hb).1 (by omega)).mono ?_
    rintro e w' ⟨rfl, m, os, rfl⟩
    exact ⟨rfl, ownsRow_sortedI (by simp) hg hb hc1 hc2 hc3, grownBy_sortedI _⟩

theorem compact_any (base : Nat) (av : Option Addr) (zs : List Int) (n cv : Nat) (w : World) (hn : n = zs.length) (h : w.ownsRow base 3 1 (.slice av n cv) n (ints zs)) (hl : zs.length ≤ 4194304) :
    Calls Tryz.prog 75 #[.slice av n cv] w fun e w' => e = .returned (.slice av (Lib.compact zs).length cv) ∧ w'.ownsRow base 3 1 (.slice av (Lib.compact zs).length cv) (Lib.compact zs).length (ints (Lib.compact zs)) ∧ w.grownBy w' (Value.slice av n cv).ownBlock := by
  subst hn
  rcases h.2 with ⟨hv, h0⟩ | ⟨g, cap, cur, hv, hg, hb, hc1, hc2, hc3, hc4⟩
  · have hz : zs = [] := List.length_eq_zero_iff.1 h0
    subst hz
    obtain ⟨rfl, rfl⟩ : av = none ∧ cv = 0 := by simpa using hv
    have e0 : Lib.compact ([] : List Int) = [] := rfl
    rw [e0]
    refine (Tryz.slices_Compact_int_empty none 0 w).mono ?_
    rintro e w' ⟨rfl, rfl⟩
    exact ⟨rfl, by simpa using h, World.grownBy.refl _ _⟩
  · cases hv
    rw [Nat.mul_one] at hc4
    have hH : Holds (Value.int .i64) w g 0 zs.toArray := holds_of_blockI hb hc4
    have hle := Lib.compact_length_le zs
    refine (Tryz.slices_Compact_int g 0 cv zs w hH (by omega) hc1).mono ?_
    rintro e w' ⟨rfl, q, rfl⟩
    have := Lib.ownsRow_putRow (enc := Value.int .i64) (q := q) (k := (Lib.compact zs).length) (ys := Lib.compact zs ++ List.replicate (zs.length - (Lib.compact zs).length) 0) h (by simp; omega) (by omega)
    rw [List.take_left] at this
    have hgr := grownBy_sortedI (w := w) (g := g) (n := q) (os := #[]) (Lib.compact zs ++ List.replicate (zs.length - (Lib.compact zs).length) 0).toArray
    have e1 : ∀ u : World, grow u #[] = u := fun u => by simp [grow]
    rw [e1] at hgr
    exact ⟨rfl, this, hgr⟩

theorem vl_snoc (l : List El) (x : El) : vl ((l ++ [x]).map El.t) = vl (l.map El.t) ++ if vofB x.t = true then [vofI x.t] else [] := by
  rw [List.map_append, vl_append]
  congr 1
  by_cases h1 : x.t.f = -1 <;> simp [vl, vofB, vofI, h1]
theorem ints_append (a b : List Int) : ints (a ++ b) = ints a ++ ints b := by simp [ints]

/-- What the loop holds between two rounds: the list that is gathered lies in memory of the call's own. -/
structure VInv (w W0 : World) (pre : List El) (S : Nat → Prop) (W : World) : Prop where
  lo : ∀ k, k < W0.heap.size → S k
  hi : ∀ k, S k → k < W.heap.size
  v : ∃ v, W.cell? ⟨w.heap.size + 1, 0, none⟩ = some v ∧ W.ownsRow W0.heap.size 3 1 v (vl (pre.map El.t)).length (ints (vl (pre.map El.t))) ∧ ∀ g, v.ownBlock = some g → S g
  f : W.frozen? ⟨w.heap.size + 1, 0, none⟩ = false
  b : Below w.heap.size w W
  z : w.heap.size + 1 < W0.heap.size
theorem VInv.lt {w W0 A : World} {pre : List El} {S : Nat → Prop} (h : VInv w W0 pre S A) : w.heap.size + 1 < A.heap.size := h.hi _ (h.lo _ h.z)
theorem VInv.le {w W0 A : World} {pre : List El} {S : Nat → Prop} (h : VInv w W0 pre S A) : W0.heap.size ≤ A.heap.size := by
  have hz := h.z
  have := h.hi (W0.heap.size - 1) (h.lo _ (by omega))
  omega
theorem VInv.stay {w W0 A B : World} {pre : List El} {S : Nat → Prop} (h : VInv w W0 pre S A) (hs : Stay S A B) : VInv w W0 pre S B := by
  have hz := h.z
  have hl := h.lt
  obtain ⟨v, h1, h2, h3⟩ := h.v
  exact ⟨h.lo, fun k hk => Nat.lt_of_lt_of_le (h.hi k hk) hs.size, ⟨v, hs.cell h1 (h.lo _ hz), own_stay h2 hs h3, h3⟩, (hs.frozen hl (h.lo _ hz)).trans h.f, h.b.trans (hs.below h.b.size (fun k hk => h.lo k (by omega))), hz⟩
theorem VInv.more {w W0 A : World} {pre : List El} {S T : Nat → Prop} (h : VInv w W0 pre S A) (hs : ∀ k, S k → T k) (ht : ∀ k, T k → k < A.heap.size) : VInv w W0 pre T A := by
  obtain ⟨v, h1, h2, h3⟩ := h.v
  exact ⟨fun k hk => hs k (h.lo k hk), ht, ⟨v, h1, h2, fun g hg => hs g (h3 g hg)⟩, h.f, h.b, h.z⟩

set_option maxHeartbeats 3200000 in
set_option maxRecDepth 100000 in
theorem impVarsOf_any (t : TermD) (a : Option Addr) (c hi : Nat) (w : World) (hp : partsT t ≤ 4194304) (hr : RdK w hi a t.kids) (hhi : hi ≤ w.heap.size) (hc : t.kids.length ≤ c) :
    Calls Tryz.prog 45 #[.agg #[.int .i64 t.f, .int .i64 t.v, .slice a t.kids.length c]] w fun e w' => ∃ a' c', e = .returned (.slice a' (varsT t []).length c') ∧ w'.ownsRow w.heap.size 3 1 (.slice a' (varsT t []).length c') (varsT t []).length (ints (varsT t [])) ∧ Below w.heap.size w w' := by
  refine (callsIn_wide (n := 5)).1 ?_
  obtain ⟨i0, hi0, hz0, hz1, hz2⟩ := info_parts Tryz.info3
  refine callsIn_of_wp_marks Tryz.func45 rfl trivial ?_ rfl
  simp only [Tryz.ntmps45, List.size_toArray, List.length_cons, List.length_nil, Nat.reduceAdd, Nat.reduceSub, Array.replicate_succ, Array.replicate_zero, List.push_toArray, List.append_toArray, List.nil_append, List.cons_append]
  gi_wp2_with (refine ⟨trivial, ?_⟩; gi_at_call 41; refine (callsIn_wide.2 (within_any t a c _)).mono ?_; rintro e w' ⟨rfl, rfl⟩)
  obtain ⟨W0, hW0⟩ : ∃ W0, W0 = ((w.alloc (.cells #[.int .i64 t.f, .int .i64 t.v, .slice a t.kids.length c] 27)).alloc (.cells #[.slice none 0 0] 45)).alloc (.cells #[.int .i64 t.f, .int .i64 t.v, .slice a t.kids.length c] 27) := ⟨_, rfl⟩
  have hB0 : Below w.heap.size w W0 := by rw [hW0]; exact (((Below.refl _ _).alloc (Nat.le_refl _) _).alloc (by simp) _).alloc (by simp; omega) _
  have hz : W0.heap.size = w.heap.size + 1 + 1 + 1 := by rw [hW0]; simp
  have v0 : W0.cell? ⟨w.heap.size + 1, 0, none⟩ = some (.slice none 0 0) := by rw [hW0]; simp [go_sem]
  have f0 : W0.frozen? ⟨w.heap.size + 1, 0, none⟩ = false := by rw [hW0]; simp [go_sem]
  have t0 : W0.cell? ⟨w.heap.size + 1 + 1, 0, none⟩ = some (.int .i64 t.f) := by rw [hW0]; simp [go_sem]
  have t1 : W0.cell? ⟨w.heap.size + 1 + 1, 1, none⟩ = some (.int .i64 t.v) := by rw [hW0]; simp [go_sem]
  have t2 : W0.cell? ⟨w.heap.size + 1 + 1, 2, none⟩ = some (.slice a t.kids.length c) := by rw [hW0]; simp [go_sem]
  rw [← hW0]
  clear hW0
  refine wpIn_rangeFunc_priv rfl (by omega) (gf := 67) (lb := #[.pointer (some ⟨w.heap.size + 1 + 1, 0, none⟩)]) rfl trivial (enters_of Tryz.func67 (by kernel_rfl) rfl)
    (within_seq Fence.wide 4 trivial rfl (by omega) W0 t a c hi w.heap.size (w.heap.size + 1 + 1) hp hc (hr.on (hB0.mono hhi)) hhi hB0.size t0 t1 t2) hB0.size (Below.refl _ _) (fun _ => rfl)
    (fun pre S W => VInv w W0 pre S W) (fun _ _ _ _ => False) (fun pre S A B h hs => h.stay hs)
    (fun _ _ _ _ _ h _ => h) (fun pre S A h => h.hi) (fun k => k < W0.heap.size) (fun _ h => h) ⟨fun _ h => h, fun _ h => h, ⟨_, v0, by simpa [vl, ints] using World.ownsRow_nil W0 W0.heap.size 3 1, fun g hg => by cases hg⟩, f0, hB0, by omega⟩
    (fun pre x S a₁ W => VInv w W0 pre S W ∧ ∃ Bx, BoxEl x Bx S W ∧ a₁ = { tmps := #[.agg #[.int .i64 t.f, .int .i64 t.v, .slice a t.kids.length c], .pointer (some ⟨w.heap.size, 0, none⟩), .slice none 0 0, .pointer (some ⟨w.heap.size + 1, 0, none⟩), .pointer (some ⟨Bx, 0, none⟩), undef, undef, .agg #[.int .i64 t.f, .int .i64 t.v, .slice a t.kids.length c], .func (.func 67) #[] #[.pointer (some ⟨w.heap.size + 1 + 1, 0, none⟩)], .agg #[.int .i64 x.t.f, .int .i64 x.t.v, .slice x.a x.t.kids.length x.c], undef, undef, undef, undef, undef, undef, undef, undef, undef, undef, undef, undef, undef, undef], defers := [] })
    (fun pre x S a₁ A B h hs => by
      obtain ⟨h1, Bx, h2, h3⟩ := h
      exact ⟨h1.stay hs, Bx, h2.stay hs, h3⟩)
    ?assign ?body ?done ?stop
  case assign =>
    intro l pre x S W K hi hlen hok hK
    dsimp only [El.enc]
    gi_wp2
    refine hK _ (fun k => S k ∨ k = W.heap.size) _ ⟨(hi.stay (.alloc _ _ _)).more (fun _ h => .inl h) (fun k h => h.elim (fun h => by have := hi.hi k h; simp; omega) (fun e => by simp; omega)), W.heap.size, ⟨.inr rfl, ?_, ?_, ?_⟩, by simp⟩ (fun k h => h.imp id (fun e => by omega)) (.alloc _ _ _)
    all_goals simp [go_sem]
  case body =>
    rintro l pre x S a₁ W ⟨h, Bx, hx, rfl⟩ hlen hok
    have C := variableOf_any x.t x.a x.t.kids.length x.c W
    have x0 := hx.c0
    have x1 := hx.c1
    have x2 := hx.c2
    have hvn := vl_snoc pre x
    have hvl : (vl (pre.map El.t)).length < 4194304 := by have := vl_len (pre.map El.t); simp at this; omega
    cases hvb : vofB x.t with
    | false =>
      rw [hvb] at C hvn
      have e0 : vl ((pre ++ [x]).map El.t) = vl (pre.map El.t) := by rw [hvn]; simp
      have F0 : Hid (∀ w1, Below W.heap.size W w1 → VInv w W0 (pre ++ [x]) S w1 ∧ Stay (fun k => k < w.heap.size ∨ ¬ S k) W w1) := fun w1 hb => by
        have h1 := h.stay (.of_below hb (fun _ hk _ => hk))
        exact ⟨⟨h1.lo, h1.hi, by rw [e0]; exact h1.v, h1.f, h1.b, h1.z⟩, .of_below hb (fun _ hk _ => hk)⟩
      clear hvn hvb e0 h hx
      gi_wp2_with (refine ⟨trivial, ?_⟩; gi_at_call 49; refine (CallsIn.inRound l (callsIn_wide.2 C)).mono ?_; rintro e w1 ⟨rfl, hb1⟩; clear C)
      obtain ⟨q1, q2⟩ := F0.out w1 hb1
      exact ⟨S, q1, fun k h => .inl h, q2⟩
    | true =>
      rw [hvb] at C hvn
      have e0 : vl ((pre ++ [x]).map El.t) = vl (pre.map El.t) ++ [vofI x.t] := by rw [hvn]; simp
      clear hvn hvb
      gi_wp2_with (first
        | (refine ⟨trivial, ?_⟩; gi_at_call 49; refine (CallsIn.inRound l (callsIn_wide.2 C)).mono ?_; rintro e w1 ⟨rfl, hb1⟩; clear C; have h1 := h.stay (.of_below hb1 (fun _ hk _ => hk)); have hle1 := h1.le; obtain ⟨v1, c1, r1, s1⟩ := h1.v; obtain ⟨av, cv, rfl, _⟩ := own_form r1; clear x0 x1 x2 h hx)
        | (gi_at_builtin; (refine wpListIn_append_own_at _ rfl (.tmp 16) (.tmp 18) 45 rfl W0.heap.size 3 i0 (.int .i64 0) 1 8 Tryz.underlying45 hi0 hz0 hz1 hz2 rfl (by decide) _ _ _ rfl (r1.alloc _) ⟨w1.heap.size, 0, none⟩ 1 1 [.int .i64 (vofI x.t)] rfl rfl (one_new1 _ _ _ _ rfl) (one_cell _) (by unfold maxLen; omega) (by omega) (by simp; omega) ?_; intro v6 w6 hown6 hgrow6 hnil6 hat6; clear hnil6; have HAT : Hid _ := hat6; clear hat6; obtain ⟨g6, c6, rfl, _, hg6, hl6⟩ := own_slot hown6; have hne : ∀ g, (Value.slice av (vl (List.map El.t pre)).length cv).ownBlock = some g → W0.heap.size ≤ g := (fun g hg => (r1.lt g hg).1); have hbk : w6.heap[w.heap.size + 1]? = w1.heap[w.heap.size + 1]? := (hgrow6.block (w.heap.size + 1) (by simp; omega) (fun e => by have := hne _ e.symm; omega)).trans (Below.heap_alloc _ _ _ h1.lt); have c6' : w6.cell? ⟨w.heap.size + 1, 0, none⟩ = some (.slice av (vl (List.map El.t pre)).length cv) := (World.cell?_of_block hbk).trans c1; have f6 : w6.frozen? ⟨w.heap.size + 1, 0, none⟩ = false := (World.frozen?_of_block hbk).trans h1.f; clear hbk)))
      have hz6 := hgrow6.size
      simp only [World.size_alloc] at hz6
      have hz1' := hb1.size
      have hgS : S g6 ∨ w1.heap.size ≤ g6 := by
        rcases HAT.out with e | e
        · exact .inl (s1 g6 e.symm)
        · have : g6 = w1.heap.size + 1 := by simpa [Value.ownBlock] using e
          exact .inr (by omega)
      have hng : ∀ g, (Value.slice (some ⟨g6, 0, none⟩) ((vl (pre.map El.t)).length + 1) c6).ownBlock = some g → g ≠ w.heap.size + 1 := fun g hg => by
        have e : g6 = g := by simpa [Value.ownBlock] using hg
        omega
      have hrow : (w6.setCell ⟨w.heap.size + 1, 0, none⟩ (.slice (some ⟨g6, 0, none⟩) ((vl (pre.map El.t)).length + 1) c6)).ownsRow W0.heap.size 3 1 (.slice (some ⟨g6, 0, none⟩) ((vl (pre.map El.t)).length + 1) c6) ((vl (pre.map El.t)).length + 1) (ints (vl (pre.map El.t)) ++ [.int .i64 (vofI x.t)]) :=
        own_stay hown6 (Stay.setCell (S := fun k => k ≠ w.heap.size + 1) _ _ (by simp)) (fun g hg => hng g hg)
      refine ⟨fun k => S k ∨ (w1.heap.size ≤ k ∧ k < w6.heap.size), ⟨fun k hk => .inl (h1.lo k hk), fun k hk => ?_, ⟨_, World.cell?_setCell_same' _ _ _ (by rw [c6']; rfl), ?_, fun g hg => ?_⟩, by rw [World.frozen?_setCell]; exact f6, ((h1.b.alloc h1.b.size _).grown hgrow6 (by simp; omega) (fun k e => by have := hne k e; omega)).setCell (p := ⟨w.heap.size + 1, 0, none⟩) (by simp) _, h1.z⟩, fun k h => h.imp id (fun h => by omega), ?_⟩
      · have : k < w6.heap.size := hk.elim (fun h => by have := h1.hi k h; omega) (fun h => h.2)
        simpa using this
      · rw [e0, List.length_append, ints_append]; exact hrow
      · have e : g6 = g := by simpa [Value.ownBlock] using hg
        subst e
        exact hgS.imp id (fun h => ⟨h, hl6⟩)
      · exact (((Stay.of_below hb1 (fun _ hk _ => hk)).trans (.alloc _ _ _)).trans (.grown hgrow6 (fun k e h => h.elim (fun h => by have := hne k e; omega) (fun h => h (s1 k e))))).trans (.setCell _ _ (fun h => h.elim (fun h => by simp only at h; omega) (fun h => h (h1.lo _ (by simp only; omega)))))
  case done =>
    rintro D xs S W hxs h hK hD hSD
    obtain ⟨v1, c1, r1, s1⟩ := h.v
    rw [hxs] at r1
    have hll : (vl (preT t)).length ≤ 4194304 := by have := vl_len (preT t); rw [preT_len] at this; omega
    have hfin := vars_comp t
    have h5 := h.b
    have hlt := h.lt
    generalize vl (preT t) = zs at *
    obtain ⟨av, cv, rfl, _⟩ := own_form r1
    have hne : ∀ g, (Value.slice av zs.length cv).ownBlock = some g → W0.heap.size ≤ g := fun g hg => (r1.lt g hg).1
    have hnD : ∀ g, (Value.slice av zs.length cv).ownBlock = some g → g ≠ D := fun g hg e => hSD (e ▸ s1 g hg)
    have SO := sort_any _ av zs zs.length cv W rfl r1 hll
    have HN : Hid _ := hne
    have HD : Hid _ := hnD
    have HF : Hid _ := hfin
    clear hne hnD s1 h hfin
    gi_wp2_with (first
      | (refine ⟨trivial, ?_⟩; gi_at_call 74; refine (callsIn_wide.2 SO).mono ?_; rintro e w2 ⟨rfl, r2, hg2⟩; clear SO; have c2 : w2.cell? ⟨w.heap.size + 1, 0, none⟩ = some (.slice av zs.length cv) := (World.cell?_of_block (hg2.block (w.heap.size + 1) hlt (fun e => by have := HN.out _ e.symm; omega))).trans c1; have hb2 : Below w.heap.size w w2 := (h5.grown hg2 h5.size (fun k e => by have := HN.out k e; omega)); have hK2 : w2.heap[D]? = some (.deferred (some [])) := (hg2.block D (Array.getElem?_eq_some_iff.1 hK).1 (fun e => HD.out _ e.symm rfl)).trans hK; have hz2 := hg2.size; have CO := compact_any _ av _ zs.length cv w2 (by simp) r2 (by simpa using hll); clear r1 c1 hK h5 hg2)
      | (refine ⟨trivial, ?_⟩; gi_at_call 75; refine (callsIn_wide.2 CO).mono ?_; rintro e w3 ⟨rfl, r3, hg3⟩; clear CO; have hb3 : Below w.heap.size w w3 := (hb2.grown hg3 hb2.size (fun k e => by have := HN.out k e; omega)); have hK3 : w3.heap[D]? = some (.deferred (some [])) := (hg3.block D (Array.getElem?_eq_some_iff.1 hK2).1 (fun e => HD.out _ e.symm rfl)).trans hK2; clear hg3 hK2 hb2 c2))
    have r4 : (w3.putObj D (.deferred none)).ownsRow w.heap.size 3 1 (.slice av (Lib.compact (zs.mergeSort fun x y => decide (x ≤ y))).length cv) (Lib.compact (zs.mergeSort fun x y => decide (x ≤ y))).length (ints (Lib.compact (zs.mergeSort fun x y => decide (x ≤ y)))) :=
      own_lower (own_stay r3 (Stay.putObj (S := fun k => k ≠ D) _ _ (by simp)) (fun g hg => HD.out g (by cases av with | none => cases hg | some b => exact hg))) (by omega)
    rw [HF.out] at r4 ⊢
    refine ⟨by simp, .inl ⟨_, _, rfl, run_takeDeferred hK3, ?_⟩⟩
    exact ⟨_, results_tmp rfl _ _ _, av, cv, rfl, r4, hb3.trans ((Stay.putObj (S := fun k => k < w.heap.size) w3 _ (by omega)).below hb3.size (fun _ h => h))⟩
  case stop =>
    rintro D c pre S W _ h
    exact h.elim
end Go.Proofs.YtkjlldbgooogdaaGreat

/- Contracts of the laws' marks on a term that owns its memory: nothing else is written. Conditions: terms of at most 4194304 parts. -/
namespace Go.Proofs.YtkjlldbgooogdaaGreat
set_option maxRecDepth 100000
open Go.RowKit

/-- Between two worlds only blocks of S have turned. -/
structure Only (S : Nat → Prop) (w w' : World) : Prop where
  os : w'.os = w.os
  tape : w'.tape = w.tape
  output : w'.output = w.output
  size : w'.heap.size = w.heap.size
  block : ∀ x, ¬ S x → w'.heap[x]? = w.heap[x]?

theorem Only.refl (S : Nat → Prop) (w : World) : Only S w w := ⟨rfl, rfl, rfl, rfl, fun _ _ => rfl⟩
theorem Only.trans {S : Nat → Prop} {a b c : World} (h : Only S a b) (k : Only S b c) : Only S a c := ⟨k.os.trans h.os, k.tape.trans h.tape, k.output.trans h.output, k.size.trans h.size, fun x hx => (k.block x hx).trans (h.block x hx)⟩
theorem Only.mono {S S' : Nat → Prop} {a b : World} (h : Only S a b) (hs : ∀ x, S x → S' x) : Only S' a b := ⟨h.os, h.tape, h.output, h.size, fun x hx => h.block x (fun k => hx (hs x k))⟩
theorem Only.setCell {S : Nat → Prop} {a b : World} (h : Only S a b) (p : Addr) (hp : S p.block) (u : Value) : Only S a (b.setCell p u) :=
  ⟨h.os, by simp [h.tape], h.output, by simp [h.size], fun x hx => (Below.heap_setCell b p u x (fun e => hx (e ▸ hp))).trans (h.block x hx)⟩
theorem Only.below {S : Nat → Prop} {a b : World} {B : Nat} (h : Only S a b) (hs : ∀ x, S x → B ≤ x) : Below B a b := ⟨h.os, h.tape, h.output, Nat.le_of_eq h.size.symm, fun x hx => h.block x (fun k => by have := hs x k; omega)⟩
theorem Only.cell {S : Nat → Prop} {a b : World} (h : Only S a b) {p : Addr} (hp : ¬ S p.block) : b.cell? p = a.cell? p := World.cell?_of_block (h.block _ hp)
theorem Only.frozen {S : Nat → Prop} {a b : World} (h : Only S a b) {p : Addr} (hp : ¬ S p.block) : b.frozen? p = a.frozen? p := World.frozen?_of_block (h.block _ hp)

theorem rt_mark {a b : Int} (h : a = b) : Ending.returned (.int .i64 a) = .returned (.int .i64 b) := by rw [h]

/-- What is still to be marked of a row of terms. -/
structure MarkSt (wr : World) (S : Nat → Prop) (b off : Nat) (ts : List TermD) (A : Nat → Option Addr) (C : Nat → Nat) (K : Nat → Nat → Prop) (k : Nat) : Prop where
  cells : ∀ i, (h : i < ts.length) → k ≤ i → wr.cell? ⟨b, off + i * 3, none⟩ = some (.int .i64 ts[i].f) ∧ wr.cell? ⟨b, off + i * 3 + 1, none⟩ = some (.int .i64 ts[i].v) ∧ wr.cell? ⟨b, off + i * 3 + 2, none⟩ = some (.slice (A i) ts[i].kids.length (C i))
  frozen : ∀ j, wr.frozen? ⟨b, j, none⟩ = false
  kid : ∀ i, (h : i < ts.length) → k ≤ i → OwnS wr (K i) (A i) ts[i].kids

theorem MarkSt.next {wr w1 : World} {S : Nat → Prop} {b off : Nat} {ts : List TermD} {A : Nat → Option Addr} {C : Nat → Nat} {K : Nat → Nat → Prop} {k : Nat} (h : MarkSt wr S b off ts A C K k) (hk : k < ts.length)
    (hsub : ∀ i x, i < ts.length → K i x → S x ∧ x ≠ b) (hdis : ∀ i j x, i < ts.length → j < ts.length → i ≠ j → K i x → ¬ K j x) (x y : Value)
    (ho : Only (K k) ((wr.setCell ⟨b, off + k * 3, none⟩ x).setCell ⟨b, off + k * 3 + 1, none⟩ y) w1) : MarkSt w1 S b off ts A C K (k + 1) := by
  have hkb : ¬ K k b := fun e => (hsub k b hk e).2 rfl
  refine ⟨fun i hi hki => ?_, fun j => ?_, fun i hi hki => ?_⟩
  · obtain ⟨c0, c1, c2⟩ := h.cells i hi (by omega)
    have d : ∀ o v, (off + k * 3 ≠ o) → (off + k * 3 + 1 ≠ o) → wr.cell? ⟨b, o, none⟩ = some v → w1.cell? ⟨b, o, none⟩ = some v := by
      intro o v h1 h2 hv
      rw [ho.cell (p := ⟨b, o, none⟩) hkb, World.cell?_setCell_other _ _ _ _ (fun e => h2 (by injection e)), World.cell?_setCell_other _ _ _ _ (fun e => h1 (by injection e))]
      exact hv
    exact ⟨d _ _ (by omega) (by omega) c0, d _ _ (by omega) (by omega) c1, d _ _ (by omega) (by omega) c2⟩
  · rw [ho.frozen (p := ⟨b, j, none⟩) hkb]
    simp only [World.frozen?_setCell]
    exact h.frozen j
  · have hib : ¬ K i b := fun e => (hsub i b hi e).2 rfl
    have o := ((h.kid i hi (by omega)).setCell ⟨b, off + k * 3, none⟩ hib x).setCell ⟨b, off + k * 3 + 1, none⟩ hib y
    exact o.frame (fun z hz => ho.block z (fun e => hdis i k z hi hk (by omega) hz e)) (Nat.le_of_eq ho.size.symm)

end Go.Proofs.YtkjlldbgooogdaaGreat

/- What lies in memory while the law on a term's variables goes on; marks on lists of numbers that may be nil. Conditions: at most 1048577 numbers. -/
namespace Go.Proofs.YtkjlldbgooogdaaGreat
set_option maxRecDepth 100000
open Go.RowKit

theorem Rd.ownV {w : World} {base : Nat} {av : Option Addr} {n cap : Nat} {zs : List Int} (hn : n = zs.length) (h : w.ownsRow base 3 1 (.slice av n cap) n (ints zs)) : Rd w av zs := by
  rcases h.2 with ⟨_, h0⟩ | ⟨g, c, cur, hv, _⟩
  · exact .inl (List.length_eq_zero_iff.1 (by omega))
  · cases hv
    exact Rd.own hn h

/-- The middle of the law. -/
structure LSt (w : World) (t : TermD) (a : Option Addr) (c L1 L2 gW cW : Nat) (ag : Option Addr) (cg : Nat) (V G : List Int) (W : World) : Prop where
  bel : Below w.heap.size w W
  p0 : W.cell? ⟨w.heap.size, 0, none⟩ = some (.int .i64 t.f)
  p1 : W.cell? ⟨w.heap.size, 1, none⟩ = some (.int .i64 t.v)
  p2 : W.cell? ⟨w.heap.size, 2, none⟩ = some (.slice a t.kids.length c)
  rW : W.ownsRow (w.heap.size + 1) 3 1 (.slice (some ⟨gW, 0, none⟩) V.length cW) V.length (ints V)
  rG : W.ownsRow (L2 + 1) 3 1 (.slice ag V.length cg) V.length (ints G)
  gw : gW < L1
  lo : w.heap.size < L1
  l12 : L1 ≤ L2
  hi : L2 < W.heap.size

namespace LSt
variable {w : World} {t : TermD} {a : Option Addr} {c L1 L2 gW cW : Nat} {ag : Option Addr} {cg : Nat} {V G : List Int} {W W' : World}
theorem on (h : LSt w t a c L1 L2 gW cW ag cg V G W) (hb : Below W.heap.size W W') : LSt w t a c L1 L2 gW cW ag cg V G W' :=
  ⟨h.bel.trans (hb.mono h.bel.size), keepC hb h.p0, keepC hb h.p1, keepC hb h.p2, own_on h.rW hb, own_on h.rG hb, h.gw, h.lo, h.l12, Nat.lt_of_lt_of_le h.hi hb.size⟩
theorem draw (h : LSt w t a c L1 L2 gW cW ag cg V G W) (q : Nat) : LSt w t a c L1 L2 gW cW ag cg V G (W.drewN q) := h.on (below_drewN (Below.refl _ _) q)
theorem rdW (h : LSt w t a c L1 L2 gW cW ag cg V G W) : Rd W (some ⟨gW, 0, none⟩) V := Rd.own rfl h.rW
theorem rdG (h : LSt w t a c L1 L2 gW cW ag cg V V W) : Rd W ag V := Rd.ownV rfl h.rG
theorem rdM (h : LSt w t a c L1 L2 gW cW ag cg V (upFrom 1 V.length) W) : Rd W ag (upFrom 1 V.length) := Rd.ownV (upFrom_len _ _).symm h.rG
theorem stay {S : Nat → Prop} (h : LSt w t a c L1 L2 gW cW ag cg V G W) (hs : Stay S W W') (h1 : ∀ k, k < L1 → S k) (h2 : ∀ k, L2 < k → S k) : LSt w t a c L1 L2 gW cW ag cg V G W' := by
  have hlo := h.lo
  refine ⟨h.bel.trans (hs.below h.bel.size (fun k hk => h1 k (by omega))), hs.cell h.p0 (h1 _ hlo), hs.cell h.p1 (h1 _ hlo), hs.cell h.p2 (h1 _ hlo), own_stay h.rW hs (fun g hg => ?_), own_stay h.rG hs (fun g hg => h2 g (h.rG.lt g hg).1), h.gw, hlo, h.l12, Nat.lt_of_lt_of_le h.hi hs.size⟩
  have e : gW = g := by simpa [Value.ownBlock] using hg
  exact h1 g (e ▸ h.gw)
/-- The copy's own blocks are written. -/
theorem markX {w0 : World} (h : LSt w t a c L1 L2 gW cW ag cg V G W) (hb : Below W.heap.size W w0) (ho : Only (fun x => L1 ≤ x ∧ x < L2) w0 W') : LSt w t a c L1 L2 gW cW ag cg V G W' :=
  (h.on hb).stay (S := fun x => ¬ (L1 ≤ x ∧ x < L2)) ⟨ho.os, ho.tape, ho.output, Nat.le_of_eq ho.size.symm, fun k _ hk => ho.block k hk⟩ (fun k hk => by omega) (fun k hk => by omega)
/-- The answer's numbers are written. -/
theorem markG {G' : List Int} (h : LSt w t a c L1 L2 gW cW ag cg V G W) (ho : W'.ownsRow (L2 + 1) 3 1 (.slice ag V.length cg) V.length (ints G')) (hg : W.grownBy W' (Value.slice ag V.length cg).ownBlock) : LSt w t a c L1 L2 gW cW ag cg V G' W' := by
  have hlo := h.lo
  have hl := h.l12
  have hgw := h.gw
  have hs : Stay (fun k => k < L1) W W' := .grown hg (fun k e hk => by have := (h.rG.lt k e).1; omega)
  refine ⟨h.bel.trans (hs.below h.bel.size (fun k hk => by omega)), hs.cell h.p0 hlo, hs.cell h.p1 hlo, hs.cell h.p2 hlo, own_stay h.rW hs (fun g hg => ?_), ho, hgw, hlo, hl, Nat.lt_of_lt_of_le h.hi hs.size⟩
  have e : gW = g := by simpa [Value.ownBlock] using hg
  omega
end LSt
end Go.Proofs.YtkjlldbgooogdaaGreat

