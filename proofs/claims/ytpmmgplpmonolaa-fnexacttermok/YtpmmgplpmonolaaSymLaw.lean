/- Contracts of the laws' helpers on lists of functions: a copy, how much it holds, whether two are alike. Conditions: lists that are copied have at most 1048577 functions. -/
import Derived.Test.YtpmmgplpmonolaaProg
import Derived.Test.YtpmmgplpmonolaaSymA
import Derived.Deep.RegionWith
namespace Go.Proofs.Ytpmmgplpmonolaa
set_option maxRecDepth 100000
open Go.RowKit

set_option maxHeartbeats 800000 in
theorem toSym_any (n : ByteArray) (ar : Int) (ac : Bool) (w : World) :
    Calls Try.prog 76 #[.agg #[.string n, .int .i64 ar, .bool ac]] w fun e w' => e = .returned (.agg #[.string n, .int .i64 ar, .bool ac]) ∧ Below w.heap.size w w' := by
  go_enter Try.func76, Try.ntmps76
  go_wp2
  exact bodyPost_ret (v := .agg #[.string n, .int .i64 ar, .bool ac]) (by simp [results, Try.results76, go_sem]) rfl ⟨rfl, (((Below.refl _ _).alloc (Nat.le_refl _) _).alloc (by simp) _).alloc (by simp; omega) _⟩

set_option maxHeartbeats 800000 in
theorem szSym_any (n : ByteArray) (ar : Int) (ac : Bool) (k : Int) (w : World) (hk : k ≤ 1048576) (hk0 : 0 ≤ k) (hn : n.size ≤ 9223372036854775807) :
    Calls Try.prog 75 #[.agg #[.string n, .int .i64 ar, .bool ac], .int .i64 k] w fun e w' => e = .returned (.int .i64 (if k < n.size then -1 else k - n.size)) ∧ Below w.heap.size w w' := by
  by_cases h : k < n.size
  · rw [if_pos h]
    have h' : k - (n.size : Int) < 0 := by omega
    go_enter Try.func75, Try.ntmps75
    go_wp2
    go_ret
    exact ⟨rfl, (Below.refl _ _).alloc (Nat.le_refl _) _⟩
  · rw [if_neg h]
    have h' : ¬ k - (n.size : Int) < 0 := by omega
    go_enter Try.func75, Try.ntmps75
    go_wp2
    go_ret
    exact ⟨rfl, (Below.refl _ _).alloc (Nat.le_refl _) _⟩


theorem info39 : (Try.prog.info? 83).map (fun i => (i.zero, i.size, i.bytes)) = some (some (.agg #[.string ⟨#[]⟩, .int .i64 0, .bool false]), 3, 32) := by kernel_rfl

set_option maxHeartbeats 1600000 in
theorem toSyms_any (a : Option Addr) (ss : List SymD) (n cap : Nat) (w : World) (hn : n = ss.length) (hr : RdS w a ss) (hl : ss.length ≤ 1048577) :
    Calls Try.prog 33 #[.slice a n cap] w fun e w' => e = .returned (.slice (some ⟨w.heap.size, 0, none⟩) n n) ∧ w'.ownsRow w.heap.size 83 3 (.slice (some ⟨w.heap.size, 0, none⟩) n n) n (symCs ss) ∧ Below w.heap.size w w' := by
  subst hn
  obtain ⟨i0, hi, hz0, hz1, hz2⟩ := info_parts info39
  rcases hr with rfl | ⟨b, off, rfl, hlt, hc⟩
  · go_enter Try.func33, Try.ntmps33
    go_wp2_with (first
      | (at_make; refine wpList_make_full _ rfl _ _ 24 rfl w.heap.size 83 i0 _ 3 Try.underlying24 hi hz0 hz1 _ _ _ _ 0 rfl rfl rfl rfl (by omega) (by unfold maxLen; omega) (Nat.le_refl _) ?_)
      | go_in)
    intro w1 hown hgrow
    have hb1 : Below w.heap.size w w1 := (Below.refl _ _).grown hgrow (Nat.le_refl _) (by simp)
    clear hgrow
    go_wp2
    refine wp_loop_rounds 1 ?_
    rw [rounds_succ]
    go_wp2
    go_ret
    exact ⟨rfl, by simpa [madeCells, symCs] using hown, hb1⟩
  · go_enter Try.func33, Try.ntmps33
    go_wp2_with (first
      | (at_make; refine wpList_make_full _ rfl _ _ 24 rfl w.heap.size 83 i0 _ 3 Try.underlying24 hi hz0 hz1 _ _ _ _ ss.length rfl rfl rfl rfl (by rw [hz2]; omega) (by unfold maxLen; omega) (Nat.le_refl _) ?_)
      | go_in)
    intro w1 hown hgrow
    have hb1 : Below w.heap.size w w1 := (Below.refl _ _).grown hgrow (Nat.le_refl _) (by simp)
    clear hgrow
    go_wp2
    go_loopw [4] (fun i wr => ∃ k : Nat, k ≤ ss.length ∧ i = .int .i64 k ∧ wr.ownsRow w.heap.size 83 3 (.slice (some ⟨w.heap.size, 0, none⟩) ss.length ss.length) ss.length (symCs (ss.take k ++ List.replicate (ss.length - k) zeroSym)) ∧ Below w.heap.size w wr) (fun i _ => ss.length - (intOf i).toNat)
    case atStart => exact ⟨0, Nat.zero_le _, rfl, by have h := hown; rw [made3] at h; simpa using h, hb1⟩
    case round =>
      obtain ⟨k, hk, rfl, hown', hb⟩ := hrel
      clear hown hb1
      by_cases hk' : k < ss.length
      · obtain ⟨c0, c1, c2⟩ := hc k hk'
        have d0 := (hb.cell (p := ⟨b, off + k * 3, none⟩) hlt).trans c0
        have d1 := (hb.cell (p := ⟨b, off + k * 3 + 1, none⟩) hlt).trans c1
        have d2 := (hb.cell (p := ⟨b, off + k * 3 + 2, none⟩) hlt).trans c2
        clear c0 c1 c2 hc
        go_wp2_with (go_at_call 76; refine (toSym_any _ _ _ _).mono ?_; rintro e w2 ⟨rfl, hb2⟩; have hown2 := own_belowS hown' hb2; obtain ⟨e0, e1, e2⟩ := cells3 (len3 hk) (lt3 hk') hown2; have f0 := hown2.frozenAt (k * 3); have f1 := hown2.frozenAt (k * 3 + 1); have f2 := hown2.frozenAt (k * 3 + 2); have R1 := store3 ss[k] (lt3 hk') hown2; rw [step3 hk'] at R1; have hB := hb.trans (hb2.mono hb.size); clear hown' hown2 hb hb2 d0 d1 d2)
        go_roundw
        case rel => exact ⟨k + 1, by omega, by go_num, R1, ((hB.setCell (p := ⟨w.heap.size, _, none⟩) (Nat.le_refl _) _).setCell (p := ⟨w.heap.size, _, none⟩) (Nat.le_refl _) _).setCell (p := ⟨w.heap.size, _, none⟩) (Nat.le_refl _) _⟩
        case measure => simp [intOf]; omega
      · go_wp2
        go_ret
        have e : k = ss.length := by omega
        subst e
        refine ⟨rfl, ?_, hb⟩
        simpa using hown'

set_option maxHeartbeats 1600000 in
theorem szSyms_any (a : Option Addr) (ss : List SymD) (n cap : Nat) (m : Int) (w : World) (hn : n = ss.length) (hr : RdS w a ss) (hl : ss.length ≤ 9223372036854775807) (hm0 : 0 ≤ m) (hm : m ≤ 1048576) (hsz : ∀ s ∈ ss, s.name.size ≤ 9223372036854775807) :
    Calls Try.prog 31 #[.slice a n cap, .int .i64 m] w fun e w' => ∃ r : Int, e = .returned (.int .i64 r) ∧ (0 ≤ r → (ss.length : Int) + bytesOf ss ≤ m) ∧ r ≤ m ∧ Below w.heap.size w w' := by
  subst hn
  by_cases hbig : m - (ss.length : Int) < 0
  · go_enter Try.func31, Try.ntmps31
    go_wp2
    go_ret
    exact ⟨-1, rfl, fun h => by omega, by omega, Below.refl _ _⟩
  · rcases hr with rfl | ⟨b, off, rfl, hlt, hc⟩
    · go_enter Try.func31, Try.ntmps31
      go_wp2
      refine wp_loop_rounds 1 ?_
      rw [rounds_succ]
      go_wp2
      go_ret
      exact ⟨m, rfl, fun _ => (by simp [bytesOf]; omega), Int.le_refl _, Below.refl _ _⟩
    · go_enter Try.func31, Try.ntmps31
      go_wp2
      go_loopw [1, 5] (fun t i wr => ∃ (k : Nat) (l : Int), k ≤ ss.length ∧ i = .int .i64 k ∧ t = .int .i64 l ∧ 0 ≤ l ∧ l ≤ m ∧ Hid ((ss.length : Int) + bytesOf (ss.take k) + l = m) ∧ Below w.heap.size w wr) (fun _ i _ => ss.length - (intOf i).toNat)
      case atStart => exact ⟨0, m - ss.length, Nat.zero_le _, rfl, rfl, by omega, by omega, by show _ = _; simp [bytesOf]; omega, Below.refl _ _⟩
      case round =>
        obtain ⟨k, l, hk, rfl, rfl, hl0, hl1, HS, hb⟩ := hrel
        by_cases hk' : k < ss.length
        · obtain ⟨c0, c1, c2⟩ := hc k hk'
          have d0 := (hb.cell (p := ⟨b, off + k * 3, none⟩) hlt).trans c0
          have d1 := (hb.cell (p := ⟨b, off + k * 3 + 1, none⟩) hlt).trans c1
          have d2 := (hb.cell (p := ⟨b, off + k * 3 + 2, none⟩) hlt).trans c2
          have hs := hsz ss[k] (List.getElem_mem hk')
          have HB : Hid (bytesOf (ss.take (k + 1)) = bytesOf (ss.take k) + ss[k].name.size) := bytesOf_next hk'
          have S := szSym_any ss[k].name ss[k].ar ss[k].ac l wr (by omega) hl0 hs
          clear c0 c1 c2 hc hsz
          by_cases hlt2 : l < (ss[k].name.size : Int)
          · rw [if_pos hlt2] at S
            go_wp2_with (go_at_call 75; refine S.mono ?_; rintro e w2 ⟨rfl, hb2⟩; clear S)
            go_ret
            exact ⟨-1, rfl, fun h => by omega, by omega, hb.trans (hb2.mono hb.size)⟩
          · rw [if_neg hlt2] at S
            have hge : ¬ l - (ss[k].name.size : Int) < 0 := by omega
            go_wp2_with (go_at_call 75; refine S.mono ?_; rintro e w2 ⟨rfl, hb2⟩; clear S)
            go_roundw
            case rel => exact ⟨k + 1, l - ss[k].name.size, by omega, by go_num, rfl, by omega, by omega, by have h1 := HS.out; have h2 := HB.out; show _ = _; omega, hb.trans (hb2.mono hb.size)⟩
            case measure => simp [intOf]; omega
        · go_wp2
          go_ret
          have e : k = ss.length := by omega
          have h1 := HS.out
          rw [e, List.take_length] at h1
          exact ⟨l, rfl, fun _ => by omega, hl1, hb⟩

set_option maxHeartbeats 1600000 in
theorem eqSym_any (s t : SymD) (w : World) :
    Calls Try.prog 77 #[.agg #[.string s.name, .int .i64 s.ar, .bool s.ac], .agg #[.string t.name, .int .i64 t.ar, .bool t.ac]] w fun e w' => e = .returned (.bool (symEq s t)) ∧ Below w.heap.size w w' := by
  have hB : ∀ o1 o2, Below w.heap.size w ((w.alloc o1).alloc o2) := fun o1 o2 => ((Below.refl _ _).alloc (Nat.le_refl _) o1).alloc (by simp) o2
  go_enter Try.func77, Try.ntmps77
  go_wp2
  · go_ret
    have h : (!s.name.toList == t.name.toList) = true := by assumption
    exact ⟨ret_bool (by simp at h; simp [symEq, h]), hB _ _⟩
  · go_ret
    have h : (s.ar != t.ar) = true := by assumption
    exact ⟨ret_bool (by simp at h; simp [symEq, h]), hB _ _⟩
  · go_ret
    have h : (!s.ac == t.ac) = true := by assumption
    exact ⟨ret_bool (by simp at h; simp [symEq, h]), hB _ _⟩
  · go_ret
    have h1 : (!s.name.toList == t.name.toList) = false := by assumption
    have h2 : (s.ar != t.ar) = false := by assumption
    have h3 : (!s.ac == t.ac) = false := by assumption
    exact ⟨ret_bool (by simp at h1 h2 h3; simp [symEq, h1, h2, h3]), hB _ _⟩

set_option maxHeartbeats 1600000 in
theorem eqSyms_same (a a' : Option Addr) (ss : List SymD) (n cap n' cap' : Nat) (w : World) (hn : n = ss.length) (hn' : n' = ss.length) (hr : RdS w a ss) (hr' : RdS w a' ss) (hl : ss.length ≤ 1048577) :
    Calls Try.prog 35 #[.slice a n cap, .slice a' n' cap'] w fun e w' => e = .returned (.bool true) ∧ Below w.heap.size w w' := by
  subst hn hn'
  rcases hr with rfl | ⟨b, off, rfl, hlt, hc⟩
  · go_enter Try.func35, Try.ntmps35
    go_wp2
    refine wp_loop_rounds 1 ?_
    rw [rounds_succ]
    go_wp2
    go_ret
    exact ⟨rfl, Below.refl _ _⟩
  · rcases hr' with rfl | ⟨b', off', rfl, hlt', hc'⟩
    · go_enter Try.func35, Try.ntmps35
      go_wp2
      refine wp_loop_rounds 1 ?_
      rw [rounds_succ]
      go_wp2
      go_ret
      exact ⟨rfl, Below.refl _ _⟩
    · go_enter Try.func35, Try.ntmps35
      go_wp2
      go_loopw [5] (fun i wr => ∃ k : Nat, k ≤ ss.length ∧ i = .int .i64 k ∧ Below w.heap.size w wr) (fun i _ => ss.length - (intOf i).toNat)
      case atStart => exact ⟨0, Nat.zero_le _, rfl, Below.refl _ _⟩
      case round =>
        obtain ⟨k, hk, rfl, hb⟩ := hrel
        by_cases hk' : k < ss.length
        · obtain ⟨c0, c1, c2⟩ := hc k hk'
          obtain ⟨g0, g1, g2⟩ := hc' k hk'
          have d0 := (hb.cell (p := ⟨b, off + k * 3, none⟩) hlt).trans c0
          have d1 := (hb.cell (p := ⟨b, off + k * 3 + 1, none⟩) hlt).trans c1
          have d2 := (hb.cell (p := ⟨b, off + k * 3 + 2, none⟩) hlt).trans c2
          have q0 := (hb.cell (p := ⟨b', off' + k * 3, none⟩) hlt').trans g0
          have q1 := (hb.cell (p := ⟨b', off' + k * 3 + 1, none⟩) hlt').trans g1
          have q2 := (hb.cell (p := ⟨b', off' + k * 3 + 2, none⟩) hlt').trans g2
          have hi1 : (k : Int) < (ss.length : Int) := by omega
          clear c0 c1 c2 g0 g1 g2 hc hc'
          go_wp2
          go_region_with (go_at_call 77; refine (eqSym_any ss[k] ss[k] _).mono ?_; rw [symEq_self]; rintro e w2 ⟨rfl, hb2⟩)
          all_goals go_wp2
          all_goals
            go_roundw
            case rel => exact ⟨k + 1, by omega, by go_num, hb.drew.trans (hb2.mono hb.size)⟩
            case measure => simp [intOf]; omega
        · go_wp2
          go_ret
          exact ⟨rfl, hb⟩
end Go.Proofs.Ytpmmgplpmonolaa
