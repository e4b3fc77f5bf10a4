/- What the proof of FnExactLitOk stands on, part 4 of 6: each piece says what it proves and under which conditions. Conditions: as each piece says. -/
import Derived.Test.YtollijngiioonaaPackExactLitOk3
import Derived.Test.YtollijngiioonaaProg
import Derived.Deep.RegionWith
import Derived.Deep.Slices
import Derived.RangeFuncNested
import Derived.RangeFuncBound
import Derived.RangeFuncCalls
import Derived.RangeFuncLeaves
import Derived.Shelf.Abstract
import Derived.Shelf.RegionOpen
import Derived.WalkKit
import Derived.OwnWalkIn
import Derived.TacticsInMore
import Derived.LoopNIn
import Derived.LoopIn
import Derived.Maps.OwnIn
import Derived.Deep.RegionHeld3
import Derived.Tactics
/- Contracts of the laws' helpers on lists of functions: a copy, how much it holds, whether two are alike. Conditions: lists that are copied have at most 1048577 functions. -/
namespace Go.Proofs.Ytollijngiioonaa
set_option maxRecDepth 100000
open Go.RowKit

set_option maxHeartbeats 800000 in
theorem toSym_any (n : ByteArray) (ar : Int) (ac : Bool) (w : World) :
    Calls Try.prog 54 #[.agg #[.string n, .int .i64 ar, .bool ac]] w fun e w' => e = .returned (.agg #[.string n, .int .i64 ar, .bool ac]) ∧ Below w.heap.size w w' := by
  go_enter Try.func54, Try.ntmps54
  go_wp2
  exact bodyPost_ret (v := .agg #[.string n, .int .i64 ar, .bool ac]) (by simp [results, Try.results54, go_sem]) rfl ⟨rfl, (((Below.refl _ _).alloc (Nat.le_refl _) _).alloc (by simp) _).alloc (by simp; omega) _⟩

set_option maxHeartbeats 800000 in
theorem szSym_any (n : ByteArray) (ar : Int) (ac : Bool) (k : Int) (w : World) (hk : k ≤ 1048576) (hk0 : 0 ≤ k) (hn : n.size ≤ 9223372036854775807) :
    Calls Try.prog 51 #[.agg #[.string n, .int .i64 ar, .bool ac], .int .i64 k] w fun e w' => e = .returned (.int .i64 (if k < n.size then -1 else k - n.size)) ∧ Below w.heap.size w w' := by
  by_cases h : k < n.size
  · rw [if_pos h]
    have h' : k - (n.size : Int) < 0 := by omega
    go_enter Try.func51, Try.ntmps51
    go_wp2
    go_ret
    exact ⟨rfl, (Below.refl _ _).alloc (Nat.le_refl _) _⟩
  · rw [if_neg h]
    have h' : ¬ k - (n.size : Int) < 0 := by omega
    go_enter Try.func51, Try.ntmps51
    go_wp2
    go_ret
    exact ⟨rfl, (Below.refl _ _).alloc (Nat.le_refl _) _⟩


theorem info39 : (Try.prog.info? 83).map (fun i => (i.zero, i.size, i.bytes)) = some (some (.agg #[.string ⟨#[]⟩, .int .i64 0, .bool false]), 3, 32) := by kernel_rfl

set_option maxHeartbeats 1600000 in
theorem toSyms_any (a : Option Addr) (ss : List SymD) (n cap : Nat) (w : World) (hn : n = ss.length) (hr : RdS w a ss) (hl : ss.length ≤ 1048577) :
    Calls Try.prog 18 #[.slice a n cap] w fun e w' => e = .returned (.slice (some ⟨w.heap.size, 0, none⟩) n n) ∧ w'.ownsRow w.heap.size 83 3 (.slice (some ⟨w.heap.size, 0, none⟩) n n) n (symCs ss) ∧ Below w.heap.size w w' := by
  subst hn
  obtain ⟨i0, hi, hz0, hz1, hz2⟩ := info_parts info39
  rcases hr with rfl | ⟨b, off, rfl, hlt, hc⟩
  · go_enter Try.func18, Try.ntmps18
    go_wp2_with (first
      | (at_make; refine wpList_make_full _ rfl _ _ 24 rfl w.heap.size 83 i0 _ 3 Try.underlying24 hi hz0 hz1 _ _ _ _ 0 rfl rfl rfl rfl (by omega) (by unfold maxLen; omega) (Nat.le_refl _) ?_)
      | go_in)
    intro w1 hown hgrow
    have hb1 : Below w.heap.size w w1 := (Below.refl _ _).grown hgrow (Nat.le_refl _) (by simp)
    clear hgrow
    go_wp2
    refine wp_loop_rounds 1 ?_
    rw [rounds_succ]
    go_wp2
    go_ret
    exact ⟨rfl, by simpa [madeCells, symCs] using hown, hb1⟩
  · go_enter Try.func18, Try.ntmps18
    go_wp2_with (first
      | (at_make; refine wpList_make_full _ rfl _ _ 24 rfl w.heap.size 83 i0 _ 3 Try.underlying24 hi hz0 hz1 _ _ _ _ ss.length rfl rfl rfl rfl (by rw [hz2]; omega) (by unfold maxLen; omega) (Nat.le_refl _) ?_)
      | go_in)
    intro w1 hown hgrow
    have hb1 : Below w.heap.size w w1 := (Below.refl _ _).grown hgrow (Nat.le_refl _) (by simp)
    clear hgrow
    go_wp2
    go_loopw [4] (fun i wr => ∃ k : Nat, k ≤ ss.length ∧ i = .int .i64 k ∧ wr.ownsRow w.heap.size 83 3 (.slice (some ⟨w.heap.size, 0, none⟩) ss.length ss.length) ss.length (symCs (ss.take k ++ List.replicate (ss.length - k) zeroSym)) ∧ Below w.heap.size w wr) (fun i _ => ss.length - (intOf i).toNat)
    case atStart => exact ⟨0, Nat.zero_le _, rfl, by have h := hown; rw [made3] at h; simpa using h, hb1⟩
    case round =>
      obtain ⟨k, hk, rfl, hown', hb⟩ := hrel
      clear hown hb1
      by_cases hk' : k < ss.length
      · obtain ⟨c0, c1, c2⟩ := hc k hk'
        have d0 := (hb.cell (p := ⟨b, off + k * 3, none⟩) hlt).trans c0
        have d1 := (hb.cell (p := ⟨b, off + k * 3 + 1, none⟩) hlt).trans c1
        have d2 := (hb.cell (p := ⟨b, off + k * 3 + 2, none⟩) hlt).trans c2
        clear c0 c1 c2 hc
        go_wp2_with (go_at_call 54; refine (toSym_any _ _ _ _).mono ?_; rintro e w2 ⟨rfl, hb2⟩; have hown2 := own_belowS hown' hb2; obtain ⟨e0, e1, e2⟩ := cells3 (len3 hk) (lt3 hk') hown2; have f0 := hown2.frozenAt (k * 3); have f1 := hown2.frozenAt (k * 3 + 1); have f2 := hown2.frozenAt (k * 3 + 2); have R1 := store3 ss[k] (lt3 hk') hown2; rw [step3 hk'] at R1; have hB := hb.trans (hb2.mono hb.size); clear hown' hown2 hb hb2 d0 d1 d2)
        go_roundw
        case rel => exact ⟨k + 1, by omega, by go_num, R1, ((hB.setCell (p := ⟨w.heap.size, _, none⟩) (Nat.le_refl _) _).setCell (p := ⟨w.heap.size, _, none⟩) (Nat.le_refl _) _).setCell (p := ⟨w.heap.size, _, none⟩) (Nat.le_refl _) _⟩
        case measure => simp [intOf]; omega
      · go_wp2
        go_ret
        have e : k = ss.length := by omega
        subst e
        refine ⟨rfl, ?_, hb⟩
        simpa using hown'

set_option maxHeartbeats 1600000 in
theorem szSyms_any (a : Option Addr) (ss : List SymD) (n cap : Nat) (m : Int) (w : World) (hn : n = ss.length) (hr : RdS w a ss) (hl : ss.length ≤ 9223372036854775807) (hm0 : 0 ≤ m) (hm : m ≤ 1048576) (hsz : ∀ s ∈ ss, s.name.size ≤ 9223372036854775807) :
    Calls Try.prog 15 #[.slice a n cap, .int .i64 m] w fun e w' => ∃ r : Int, e = .returned (.int .i64 r) ∧ (0 ≤ r → (ss.length : Int) + bytesOf ss ≤ m) ∧ r ≤ m ∧ Below w.heap.size w w' := by
  subst hn
  by_cases hbig : m - (ss.length : Int) < 0
  · go_enter Try.func15, Try.ntmps15
    go_wp2
    go_ret
    exact ⟨-1, rfl, fun h => by omega, by omega, Below.refl _ _⟩
  · rcases hr with rfl | ⟨b, off, rfl, hlt, hc⟩
    · go_enter Try.func15, Try.ntmps15
      go_wp2
      refine wp_loop_rounds 1 ?_
      rw [rounds_succ]
      go_wp2
      go_ret
      exact ⟨m, rfl, fun _ => (by simp [bytesOf]; omega), Int.le_refl _, Below.refl _ _⟩
    · go_enter Try.func15, Try.ntmps15
      go_wp2
      go_loopw [1, 5] (fun t i wr => ∃ (k : Nat) (l : Int), k ≤ ss.length ∧ i = .int .i64 k ∧ t = .int .i64 l ∧ 0 ≤ l ∧ l ≤ m ∧ Hid ((ss.length : Int) + bytesOf (ss.take k) + l = m) ∧ Below w.heap.size w wr) (fun _ i _ => ss.length - (intOf i).toNat)
      case atStart => exact ⟨0, m - ss.length, Nat.zero_le _, rfl, rfl, by omega, by omega, by show _ = _; simp [bytesOf]; omega, Below.refl _ _⟩
      case round =>
        obtain ⟨k, l, hk, rfl, rfl, hl0, hl1, HS, hb⟩ := hrel
        by_cases hk' : k < ss.length
        · obtain ⟨c0, c1, c2⟩ := hc k hk'
          have d0 := (hb.cell (p := ⟨b, off + k * 3, none⟩) hlt).trans c0
          have d1 := (hb.cell (p := ⟨b, off + k * 3 + 1, none⟩) hlt).trans c1
          have d2 := (hb.cell (p := ⟨b, off + k * 3 + 2, none⟩) hlt).trans c2
          have hs := hsz ss[k] (List.getElem_mem hk')
          have HB : Hid (bytesOf (ss.take (k + 1)) = bytesOf (ss.take k) + ss[k].name.size) := bytesOf_next hk'
          have S := szSym_any ss[k].name ss[k].ar ss[k].ac l wr (by omega) hl0 hs
          clear c0 c1 c2 hc hsz
          by_cases hlt2 : l < (ss[k].name.size : Int)
          · rw [if_pos hlt2] at S
            go_wp2_with (go_at_call 51; refine S.mono ?_; rintro e w2 ⟨rfl, hb2⟩; clear S)
            go_ret
            exact ⟨-1, rfl, fun h => by omega, by omega, hb.trans (hb2.mono hb.size)⟩
          · rw [if_neg hlt2] at S
            have hge : ¬ l - (ss[k].name.size : Int) < 0 := by omega
            go_wp2_with (go_at_call 51; refine S.mono ?_; rintro e w2 ⟨rfl, hb2⟩; clear S)
            go_roundw
            case rel => exact ⟨k + 1, l - ss[k].name.size, by omega, by go_num, rfl, by omega, by omega, by have h1 := HS.out; have h2 := HB.out; show _ = _; omega, hb.trans (hb2.mono hb.size)⟩
            case measure => simp [intOf]; omega
        · go_wp2
          go_ret
          have e : k = ss.length := by omega
          have h1 := HS.out
          rw [e, List.take_length] at h1
          exact ⟨l, rfl, fun _ => by omega, hl1, hb⟩

set_option maxHeartbeats 1600000 in
theorem eqSym_any (s t : SymD) (w : World) :
    Calls Try.prog 57 #[.agg #[.string s.name, .int .i64 s.ar, .bool s.ac], .agg #[.string t.name, .int .i64 t.ar, .bool t.ac]] w fun e w' => e = .returned (.bool (symEq s t)) ∧ Below w.heap.size w w' := by
  have hB : ∀ o1 o2, Below w.heap.size w ((w.alloc o1).alloc o2) := fun o1 o2 => ((Below.refl _ _).alloc (Nat.le_refl _) o1).alloc (by simp) o2
  go_enter Try.func57, Try.ntmps57
  go_wp2
  · go_ret
    have h : (!s.name.toList == t.name.toList) = true := by assumption
    exact ⟨ret_bool (by simp at h; simp [symEq, h]), hB _ _⟩
  · go_ret
    have h : (s.ar != t.ar) = true := by assumption
    exact ⟨ret_bool (by simp at h; simp [symEq, h]), hB _ _⟩
  · go_ret
    have h : (!s.ac == t.ac) = true := by assumption
    exact ⟨ret_bool (by simp at h; simp [symEq, h]), hB _ _⟩
  · go_ret
    have h1 : (!s.name.toList == t.name.toList) = false := by assumption
    have h2 : (s.ar != t.ar) = false := by assumption
    have h3 : (!s.ac == t.ac) = false := by assumption
    exact ⟨ret_bool (by simp at h1 h2 h3; simp [symEq, h1, h2, h3]), hB _ _⟩

set_option maxHeartbeats 1600000 in
theorem eqSyms_same (a a' : Option Addr) (ss : List SymD) (n cap n' cap' : Nat) (w : World) (hn : n = ss.length) (hn' : n' = ss.length) (hr : RdS w a ss) (hr' : RdS w a' ss) (hl : ss.length ≤ 1048577) :
    Calls Try.prog 22 #[.slice a n cap, .slice a' n' cap'] w fun e w' => e = .returned (.bool true) ∧ Below w.heap.size w w' := by
  subst hn hn'
  rcases hr with rfl | ⟨b, off, rfl, hlt, hc⟩
  · go_enter Try.func22, Try.ntmps22
    go_wp2
    refine wp_loop_rounds 1 ?_
    rw [rounds_succ]
    go_wp2
    go_ret
    exact ⟨rfl, Below.refl _ _⟩
  · rcases hr' with rfl | ⟨b', off', rfl, hlt', hc'⟩
    · go_enter Try.func22, Try.ntmps22
      go_wp2
      refine wp_loop_rounds 1 ?_
      rw [rounds_succ]
      go_wp2
      go_ret
      exact ⟨rfl, Below.refl _ _⟩
    · go_enter Try.func22, Try.ntmps22
      go_wp2
      go_loopw [5] (fun i wr => ∃ k : Nat, k ≤ ss.length ∧ i = .int .i64 k ∧ Below w.heap.size w wr) (fun i _ => ss.length - (intOf i).toNat)
      case atStart => exact ⟨0, Nat.zero_le _, rfl, Below.refl _ _⟩
      case round =>
        obtain ⟨k, hk, rfl, hb⟩ := hrel
        by_cases hk' : k < ss.length
        · obtain ⟨c0, c1, c2⟩ := hc k hk'
          obtain ⟨g0, g1, g2⟩ := hc' k hk'
          have d0 := (hb.cell (p := ⟨b, off + k * 3, none⟩) hlt).trans c0
          have d1 := (hb.cell (p := ⟨b, off + k * 3 + 1, none⟩) hlt).trans c1
          have d2 := (hb.cell (p := ⟨b, off + k * 3 + 2, none⟩) hlt).trans c2
          have q0 := (hb.cell (p := ⟨b', off' + k * 3, none⟩) hlt').trans g0
          have q1 := (hb.cell (p := ⟨b', off' + k * 3 + 1, none⟩) hlt').trans g1
          have q2 := (hb.cell (p := ⟨b', off' + k * 3 + 2, none⟩) hlt').trans g2
          have hi1 : (k : Int) < (ss.length : Int) := by omega
          clear c0 c1 c2 g0 g1 g2 hc hc'
          go_wp2
          go_region_with (go_at_call 57; refine (eqSym_any ss[k] ss[k] _).mono ?_; rw [symEq_self]; rintro e w2 ⟨rfl, hb2⟩)
          all_goals go_wp2
          all_goals
            go_roundw
            case rel => exact ⟨k + 1, by omega, by go_num, hb.drew.trans (hb2.mono hb.size)⟩
            case measure => simp [intOf]; omega
        · go_wp2
          go_ret
          exact ⟨rfl, hb⟩
end Go.Proofs.Ytollijngiioonaa

/- How a list of functions that came in as an argument is opened: its cells, and that each part is in its bounds. Conditions: none. -/
namespace Go.Proofs.Ytollijngiioonaa
set_option maxRecDepth 100000
open Go.RowKit Go.ChangeShapes Go.WideShapes Go.ChangeAt

theorem cells38 : Try.prog.cellsOf 85 = 3 := by kernel_rfl
theorem cells9 : Try.prog.cellsOf 9 = 1 := by kernel_rfl
theorem cells3i : Try.prog.cellsOf 3 = 1 := by kernel_rfl
theorem cells4 : Try.prog.cellsOf 4 = 1 := by kernel_rfl

set_option maxRecDepth 100000 in
theorem sym_of_trod {H : Type} {enc : TypeId × Value → H} {w : World} {base : Nat} {spare : Nat → Bool} {held : Bool} {n : Nat} {cs : List Value} {x : DataW H × List MemPlace}
    (h : DataW.trod enc Try.prog w base spare held n 85 cs = some x) : ∃ s : SymD, cs = symC s ∧ s.name.size ≤ maxLen ∧ (Lit.int .i64 s.ar).wf = true := by
  obtain ⟨xs, m, rfl, rfl, hlen, hxl, hf⟩ := DataW.trod_struct Try.underlying85 h
  rw [cells38] at hlen
  match cs, hlen with
  | [c0, c1, c2], _ =>
    match xs, hxl with
    | [y0, y1, y2], _ =>
      have h0 : DataW.trod enc Try.prog w base spare held m 9 [c0] = some y0 := by have := hf 0 _ rfl; simpa [cells9] using this
      have h1 : DataW.trod enc Try.prog w base spare held m 3 [c1] = some y1 := by have := hf 1 _ rfl; simpa [cells3i] using this
      have h2 : DataW.trod enc Try.prog w base spare held m 4 [c2] = some y2 := by have := hf 2 _ rfl; simpa [cells4] using this
      obtain ⟨s, e0, _, hs⟩ := DataW.trod_string Try.underlying9 h0
      obtain ⟨z, e1, _, hz⟩ := DataW.trod_int Try.underlying3 h1
      obtain ⟨b, e2, _⟩ := DataW.trod_bool Try.underlying4 h2
      simp at e0 e1 e2
      subst e0 e1 e2
      exact ⟨⟨s, z, b⟩, rfl, hs, hz⟩

set_option maxRecDepth 100000 in
theorem open_syms {H : Type} {enc : TypeId × Value → H} {W : World} {base : Nat} {spare : Nat → Bool} {held : Bool} {v : Value} {d : DataW H} {p : List MemPlace} {a : Option Addr} {len cap : Nat} (hv : v = .slice a len cap)
    (h : DataW.Trod enc Try.prog W base spare held 36 v d p) : ∃ ss : List SymD, len = ss.length ∧ len ≤ maxLen ∧ RdS W a ss ∧ ∀ s ∈ ss, s.name.size ≤ maxLen ∧ (Lit.int .i64 s.ar).wf = true := by
  subst hv
  obtain ⟨fuel, hf⟩ := h
  rcases Deep.open_slice Try.underlying36 hf with ⟨hcs, _⟩ | ⟨x, l, c, m, n, Dd, Pl, hcs, _, hl, hm, hmm, _, hel⟩
  · simp [Value.cells] at hcs
    obtain ⟨rfl, rfl, rfl⟩ := hcs
    exact ⟨[], rfl, Nat.zero_le _, .inl rfl, fun s hs => by simp at hs⟩
  · simp [Value.cells] at hcs
    obtain ⟨rfl, rfl, rfl⟩ := hcs
    rw [cells38] at hel
    have hlm : len ≤ m := by rw [hmm]; split <;> omega
    have hall : ∀ i, i < len → ∃ s : SymD, W.cells? base (x.add (i * 3)) 3 = some (symC s) ∧ s.name.size ≤ maxLen ∧ (Lit.int .i64 s.ar).wf = true := by
      intro i hi
      obtain ⟨cs', h1, h2⟩ := hel i (by omega)
      obtain ⟨s, rfl, h3, h4⟩ := sym_of_trod h2
      exact ⟨s, h1, h3, h4⟩
    obtain ⟨F, hF⟩ := Deep.choose_lt hall
    refine ⟨(List.range len).map F, by simp, by omega, ?_, ?_⟩
    · by_cases h0 : len = 0
      · subst h0; exact .inl rfl
      · have hcell : ∀ i, (hi : i < len) → ∀ j, j < 3 → W.cell? ((x.add (i * 3)).add j) = (symC (F i))[j]? := fun i hi j hj => (World.cells?_some (hF i hi).1).2.2 j hj
        obtain ⟨b, off, spot⟩ := x
        have hc0 := hcell 0 (by omega) 0 (by omega)
        have hspot : spot = none := by
          have h1 : W.cell? (⟨b, off, spot⟩ : Addr) = some (.string (F 0).name) := by simpa [Addr.add, symC] using hc0
          simpa using World.cell?_spot h1
        subst hspot
        have hadd : ∀ i j, ((⟨b, off, none⟩ : Addr).add i).add j = ⟨b, off + i + j, none⟩ := by
          intro i j
          by_cases h1 : i = 0 <;> by_cases h2 : j = 0 <;> simp [Addr.add, h1, h2, Nat.add_assoc]
        have hb : b < W.heap.size := by
          have h1 : W.cell? (⟨b, off, none⟩ : Addr) = some (.string (F 0).name) := by simpa [Addr.add, symC] using hc0
          exact World.block_lt_of_cell? _ _ h1
        refine .inr ⟨b, off, rfl, hb, fun i hi => ?_⟩
        simp at hi
        have g0 := hcell i hi 0 (by omega)
        have g1 := hcell i hi 1 (by omega)
        have g2 := hcell i hi 2 (by omega)
        rw [hadd] at g0 g1 g2
        simp [symC] at g0 g1 g2
        simp [g0, g1, g2]
    · intro s hs
      simp at hs
      obtain ⟨i, hi, rfl⟩ := hs
      exact ⟨(hF i hi).2.1, (hF i hi).2.2⟩
end Go.Proofs.Ytollijngiioonaa

/- The rest of a slice of terms behind its first. Conditions: none. -/
namespace Go.Proofs.Ytollijngiioonaa
set_option maxRecDepth 100000
open Go.RowKit

theorem slice_tail (b off n c : Nat) (w : World) : (Instr.slice 25 (.slice (some ⟨b, off, none⟩) (n + 1) c) (some (.int .i64 1)) none none).run Try.prog w = .ok (.slice (tailA b off c) n (c - 1)) w := by
  have h0 : (sizeOf 27).run Try.prog w = .ok 3 w := by simp [go_sem]
  simp only [Instr.slice, Sem.run_bind, run_underlying Try.underlying25, Result.andThen]
  have hb : (Instr.sliceBounds true (n + 1) c (some (.int .i64 1)) none none).run Try.prog w = .ok (1, n + 1, c) w := by
    simp [Instr.sliceBounds, Instr.sliceBound, asIntOf, go_sem]
    omega
  simp only [hb, h0, Sem.run_pure]
  unfold tailA
  split <;> simp [Addr.add]
theorem sliceAt_tail (b off n c : Nat) (w : World) : (Instr.sliceAt 25 (.slice (some ⟨b, off, none⟩) (n + 1) c) (some (.int .i64 1)) none none).run Try.prog w = .ok (.slice (tailA b off c) n (c - 1)) w := by
  simp only [Instr.sliceAt, Sem.run_bind, run_underlying Try.underlying25, Result.andThen, slice_tail b off n c w]

end Go.Proofs.Ytollijngiioonaa

/- All terms within a term, in the order in which the program goes over them, and its stack of lists. Conditions: none. -/
namespace Go.Proofs.Ytollijngiioonaa
set_option maxRecDepth 100000
open Go.RowKit

mutual
/-- A term and all terms within it, a term ahead of its Kids. -/
def preT : TermD → List TermD
  | .mk f v ks => .mk f v ks :: preL ks
def preL : List TermD → List TermD
  | [] => []
  | t :: ts => preT t ++ preL ts
end
theorem preT_eq (t : TermD) : preT t = t :: preL t.kids := by cases t; rw [preT]; rfl
mutual
theorem preT_len : ∀ t : TermD, (preT t).length = partsT t
  | .mk f v ks => by have := preL_len ks; rw [preT, partsT, List.length_cons, this]
theorem preL_len : ∀ ts : List TermD, (preL ts).length = partsL ts
  | [] => by simp [preL, partsL]
  | t :: ts => by have h1 := preT_len t; have h2 := preL_len ts; rw [preL, partsL, List.length_append, h1, h2]
end
/-- How often variable v stands among terms. -/
def cntP (v : Int) (l : List TermD) : Nat := (l.filter fun x => x.f == -1 && x.v == v).length
theorem cntP_append (v : Int) (a b : List TermD) : cntP v (a ++ b) = cntP v a + cntP v b := by simp [cntP]
mutual
theorem cntP_pre (v : Int) : ∀ t : TermD, cntP v (preT t) = cntT v t
  | .mk f u ks => by
    have := cntP_preL v ks
    rw [preT, cntT, ← this, show TermD.mk f u ks :: preL ks = [TermD.mk f u ks] ++ preL ks from rfl, cntP_append]
    congr 1
    by_cases h1 : f = -1 <;> by_cases h2 : u = v <;> simp [cntP, TermD.f, TermD.v, h1, h2]
theorem cntP_preL (v : Int) : ∀ ts : List TermD, cntP v (preL ts) = cntL v ts
  | [] => by simp [preL, cntL, cntP]
  | t :: ts => by have h1 := cntP_pre v t; have h2 := cntP_preL v ts; rw [preL, cntL, cntP_append, h1, h2]
end

/-- What comes to the loop: a term, and where its Kids lie. -/
structure El where
  t : TermD
  a : Option Addr
  c : Nat
/-- As it comes. -/
def El.enc (x : El) : Array Value := #[.agg #[.int .i64 x.t.f, .int .i64 x.t.v, .slice x.a x.t.kids.length x.c]]

/-- One list on the stack. -/
structure LE where
  a : Option Addr
  c : Nat
  ts : List TermD
def cellsL : List LE → List Value
  | [] => []
  | e :: E => cellsL E ++ [.slice e.a e.ts.length e.c]
theorem cellsL_len (E : List LE) : (cellsL E).length = E.length * 1 := by
  induction E with
  | nil => rfl
  | cons e E ih => simp only [cellsL, List.length_append, ih, List.length_cons, List.length_nil]; omega
/-- All that is still to come. -/
def preS : List LE → List TermD
  | [] => []
  | e :: E => preL e.ts ++ preS E
def sizeL : List LE → Nat
  | [] => 0
  | e :: E => 2 * partsL e.ts + 1 + sizeL E
theorem sizeL_len (E : List LE) : E.length ≤ sizeL E := by
  induction E with
  | nil => simp
  | cons e E ih => simp only [sizeL, List.length_cons]; omega

theorem cellsL_top {w : World} {B T g c : Nat} {e : LE} {E : List LE} (h : w.ownsRow B T 1 (.slice (some ⟨g, 0, none⟩) (E.length + 1) c) (E.length + 1) (cellsL (e :: E))) :
    w.cell? ⟨g, E.length, none⟩ = some (.slice e.a e.ts.length e.c) := by
  have hl := cellsL_len E
  refine (h.cellAt _ (by omega)).trans ?_
  rw [cellsL, List.getElem?_append_right (by omega)]; simp [hl]
theorem cellsL_set {w : World} {B T g c : Nat} {e : LE} {E : List LE} (h : w.ownsRow B T 1 (.slice (some ⟨g, 0, none⟩) (E.length + 1) c) (E.length + 1) (cellsL (e :: E))) (d : LE) :
    (w.setCell ⟨g, E.length, none⟩ (.slice d.a d.ts.length d.c)).ownsRow B T 1 (.slice (some ⟨g, 0, none⟩) (E.length + 1) c) (E.length + 1) (cellsL (d :: E)) := by
  have hl := cellsL_len E
  have h1 := (h.stored E.length (.slice d.a d.ts.length d.c)).1
  have e1 : (cellsL (e :: E)).set E.length (.slice d.a d.ts.length d.c) = cellsL (d :: E) := by
    simp only [cellsL]
    rw [List.set_append_right _ _ (by omega)]
    simp [hl]
  rwa [e1] at h1
theorem cellsL_pop {w : World} {B T g c : Nat} {e : LE} {E : List LE} (h : w.ownsRow B T 1 (.slice (some ⟨g, 0, none⟩) (E.length + 1) c) (E.length + 1) (cellsL (e :: E))) :
    w.ownsRow B T 1 (.slice (some ⟨g, 0, none⟩) E.length c) E.length (cellsL E) := ownsRow_pop (cellsL_len E) h

/-- The blocks in which the terms lie. -/
def Rx (n B k : Nat) : Prop := k < n ∨ k = B

/-- The list at 'a' lies in wr, in a block of S; its terms' Kids lie in w0 below n. -/
def RdF (w0 : World) (n : Nat) (wr : World) (S : Nat → Prop) (a : Option Addr) (ts : List TermD) : Prop :=
  ts = [] ∨ ∃ (b off : Nat) (A : Nat → Option Addr) (C : Nat → Nat), a = some ⟨b, off, none⟩ ∧ S b ∧ (∀ i, (h : i < ts.length) → ts[i].kids.length ≤ C i) ∧
    (∀ i, (h : i < ts.length) → wr.cell? ⟨b, off + i * 3, none⟩ = some (.int .i64 ts[i].f) ∧ wr.cell? ⟨b, off + i * 3 + 1, none⟩ = some (.int .i64 ts[i].v) ∧ wr.cell? ⟨b, off + i * 3 + 2, none⟩ = some (.slice (A i) ts[i].kids.length (C i))) ∧
    (∀ i, (h : i < ts.length) → RdK w0 n (A i) ts[i].kids)
theorem RdF.stay {w0 wr wr' : World} {n : Nat} {S : Nat → Prop} {a : Option Addr} {ts : List TermD} (h : RdF w0 n wr S a ts) (hb : Stay S wr wr') : RdF w0 n wr' S a ts := by
  rcases h with h | ⟨b, off, A, C, h1, h2, h3, h4, h5⟩
  · exact .inl h
  · refine .inr ⟨b, off, A, C, h1, h2, h3, fun i hi => ?_, h5⟩
    obtain ⟨q0, q1, q2⟩ := h4 i hi
    exact ⟨hb.cell q0 h2, hb.cell q1 h2, hb.cell q2 h2⟩
theorem RdF.head {w0 wr : World} {n : Nat} {S : Nat → Prop} {a : Option Addr} {t : TermD} {ts : List TermD} (h : RdF w0 n wr S a (t :: ts)) :
    ∃ b off a' c', a = some ⟨b, off, none⟩ ∧ S b ∧ wr.cell? ⟨b, off, none⟩ = some (.int .i64 t.f) ∧ wr.cell? ⟨b, off + 1, none⟩ = some (.int .i64 t.v) ∧ wr.cell? ⟨b, off + 2, none⟩ = some (.slice a' t.kids.length c') ∧ t.kids.length ≤ c' ∧ RdK w0 n a' t.kids := by
  rcases h with h | ⟨b, off, A, C, h1, h2, h3, h4, h5⟩
  · simp at h
  · have q := h4 0 (by simp)
    simp only [Nat.zero_mul, Nat.add_zero, List.getElem_cons_zero] at q
    exact ⟨b, off, A 0, C 0, h1, h2, q.1, q.2.1, q.2.2, h3 0 (by simp), h5 0 (by simp)⟩
theorem RdF.tailA {w0 wr : World} {n : Nat} {S : Nat → Prop} {b off : Nat} {t : TermD} {ts : List TermD} (h : RdF w0 n wr S (some ⟨b, off, none⟩) (t :: ts)) {c : Nat} (hc : ts.length + 1 ≤ c) : RdF w0 n wr S (tailA b off c) ts := by
  rcases h with h | ⟨b', off', A, C, h1, h2, h3, h4, h5⟩
  · simp at h
  · cases h1
    unfold Go.Proofs.Ytollijngiioonaa.tailA
    split
    · exact .inl (List.eq_nil_of_length_eq_zero (by omega))
    · refine .inr ⟨b, off + 3, fun i => A (i + 1), fun i => C (i + 1), rfl, h2, fun i hi => ?_, fun i hi => ?_, fun i hi => ?_⟩
      · have := h3 (i + 1) (by simpa using hi); simpa using this
      · have := h4 (i + 1) (by simpa using hi)
        rw [show off + (i + 1) * 3 = off + 3 + i * 3 by omega] at this
        simpa using this
      · have := h5 (i + 1) (by simpa using hi); simpa using this
theorem RdK.f {w0 wr : World} {n : Nat} {S : Nat → Prop} {a : Option Addr} {ts : List TermD} (h : RdK w0 n a ts) (he : ∀ k, k < n → wr.heap[k]? = w0.heap[k]?) (hs : ∀ k, k < n → S k) : RdF w0 n wr S a ts := by
  cases h with
  | nil a => exact .inl rfl
  | row b off ts A C hlt hl hz hc hk =>
    refine .inr ⟨b, off, A, C, rfl, hs _ hlt, hl.2, fun i hi => ?_, hk⟩
    obtain ⟨q0, q1, q2⟩ := hc i hi
    exact ⟨(World.cell?_of_block (he b hlt)).trans q0, (World.cell?_of_block (he b hlt)).trans q1, (World.cell?_of_block (he b hlt)).trans q2⟩
/-- It read so before what came behind it was laid. -/
theorem RdK.back {w w' : World} {hi : Nat} {a : Option Addr} {ts : List TermD} (h : RdK w' hi a ts) (hb : ∀ k, k < hi → w'.heap[k]? = w.heap[k]?) : RdK w hi a ts := by
  induction h with
  | nil a => exact .nil a
  | row b off ts A C hlt hl hz hc hk ih =>
    refine .row b off ts A C hlt hl hz (fun i h => ?_) ih
    obtain ⟨h0, h1, h2⟩ := hc i h
    exact ⟨(World.cell?_of_block (hb b hlt).symm).trans h0, (World.cell?_of_block (hb b hlt).symm).trans h1, (World.cell?_of_block (hb b hlt).symm).trans h2⟩

/-- The iterator's own memory, apart from the blocks of S. -/
structure WSt (w0 : World) (n B T : Nat) (S : Nat → Prop) (E : List LE) (v : Value) (wr : World) : Prop where
  row : wr.ownsRow n T 1 v E.length (cellsL E)
  own : ∀ g, v.ownBlock = some g → ¬ S g ∧ g ≠ B
  nB : ¬ S B
  lB : B < wr.heap.size
  nle : n ≤ B
  good : ∀ e ∈ E, RdF w0 n wr (Rx n B) e.a e.ts ∧ e.ts.length ≤ e.c
  same : ∀ k, k < n → wr.heap[k]? = w0.heap[k]?

namespace WSt
variable {w0 : World} {n B T : Nat} {S S' : Nat → Prop} {E : List LE} {v : Value} {wr wr' : World}

theorem out (h : WSt w0 n B T S E v wr) : ∀ g, v.ownBlock = some g → ¬ Rx n B g := fun g hg hx => hx.elim (fun h1 => by have := (h.row.lt g hg).1; omega) (h.own g hg).2

/-- New blocks alone. -/
theorem on (h : WSt w0 n B T S E v wr) (hb : Below wr.heap.size wr wr') : WSt w0 n B T S E v wr' :=
  ⟨own_on h.row hb, h.own, h.nB, Nat.lt_of_lt_of_le h.lB hb.size, h.nle, fun e he => ⟨(h.good e he).1.stay (.of_below hb (fun _ hk _ => hk)), (h.good e he).2⟩, fun k hk => (hb.block k (by have := h.lB; have := h.nle; omega)).trans (h.same k hk)⟩

/-- Over a round: the body turns nothing below n, nor outside S. -/
theorem round (h : WSt w0 n B T S E v wr) (hs : Stay (fun k => k < n ∨ ¬ S k) wr wr') (hS : ∀ k, S' k → S k ∨ wr.heap.size ≤ k) : WSt w0 n B T S' E v wr' := by
  have hl := h.row.lt
  refine ⟨own_stay h.row hs (fun g hg => .inr (h.own g hg).1), fun g hg => ⟨fun hg' => ?_, (h.own g hg).2⟩, fun hB => ?_, Nat.lt_of_lt_of_le h.lB hs.size, h.nle, fun e he => ⟨(h.good e he).1.stay (hs.weak (fun _ _ hk => hk.elim .inl (fun e => .inr (e ▸ h.nB)))), (h.good e he).2⟩, fun k hk => (hs.block k (by have := h.lB; have := h.nle; omega) (.inl hk)).trans (h.same k hk)⟩
  · rcases hS g hg' with h1 | h1
    · exact (h.own g hg).1 h1
    · have := (hl g hg).2; omega
  · rcases hS B hB with h1 | h1
    · exact h.nB h1
    · have := h.lB; omega

theorem pop {g c : Nat} {e : LE} (h : WSt w0 n B T S (e :: E) (.slice (some ⟨g, 0, none⟩) (E.length + 1) c) wr) : WSt w0 n B T S E (.slice (some ⟨g, 0, none⟩) E.length c) wr :=
  ⟨cellsL_pop h.row, fun g' hg => h.own g' hg, h.nB, h.lB, h.nle, fun e he => h.good e (by simp [he]), h.same⟩

theorem set {g c : Nat} {e d : LE} (h : WSt w0 n B T S (e :: E) (.slice (some ⟨g, 0, none⟩) (E.length + 1) c) wr) (hd : RdF w0 n wr (Rx n B) d.a d.ts ∧ d.ts.length ≤ d.c) :
    WSt w0 n B T S (d :: E) (.slice (some ⟨g, 0, none⟩) (E.length + 1) c) (wr.setCell ⟨g, E.length, none⟩ (.slice d.a d.ts.length d.c)) := by
  have hs : Stay (Rx n B) wr (wr.setCell ⟨g, E.length, none⟩ (.slice d.a d.ts.length d.c)) := Stay.setCell _ _ (h.out g rfl)
  refine ⟨cellsL_set h.row d, h.own, h.nB, Nat.lt_of_lt_of_le h.lB hs.size, h.nle, fun f hf => ?_, fun k hk => (hs.block k (by have := h.lB; have := h.nle; omega) (.inl hk)).trans (h.same k hk)⟩
  rcases List.mem_cons.1 hf with rfl | hf
  · exact ⟨hd.1.stay hs, hd.2⟩
  · exact ⟨(h.good f (by simp [hf])).1.stay hs, (h.good f (by simp [hf])).2⟩

theorem push {v' : Value} {d : LE} (h : WSt w0 n B T S E v wr) (hS : ∀ k, S k → k < wr.heap.size) (hrow : wr'.ownsRow n T 1 v' (E.length + 1) (cellsL E ++ [.slice d.a d.ts.length d.c])) (hg : wr.grownBy wr' v.ownBlock) (hv : v'.ownBlock = v.ownBlock ∨ v'.ownBlock = some wr.heap.size) (hd : RdF w0 n wr (Rx n B) d.a d.ts ∧ d.ts.length ≤ d.c) :
    WSt w0 n B T S (d :: E) v' wr' := by
  have hs : Stay (Rx n B) wr wr' := .grown hg (fun k hk => h.out k hk)
  refine ⟨hrow, fun g hg' => ?_, h.nB, Nat.lt_of_lt_of_le h.lB hs.size, h.nle, fun f hf => ?_, fun k hk => (hs.block k (by have := h.lB; have := h.nle; omega) (.inl hk)).trans (h.same k hk)⟩
  · rcases hv with e | e
    · exact h.own g (e ▸ hg')
    · rw [hg'] at e
      cases e
      exact ⟨fun h1 => by have := hS _ h1; omega, fun e => by have := h.lB; omega⟩
  · rcases List.mem_cons.1 hf with rfl | hf
    · exact ⟨hd.1.stay hs, hd.2⟩
    · exact ⟨(h.good f hf).1.stay hs, (h.good f hf).2⟩
end WSt

theorem one_slice (x : Option Addr) (l c : Nat) : ∀ u ∈ [Value.slice x l c], u.oneCell' = true := by
  intro u hu; simp at hu; subst hu; rfl
theorem one_new1 (w : World) (u : Value) (t : TypeId) (n : Nat) (hn : n = w.heap.size) : ∀ j v, [u][j]? = some v → (w.alloc (.cells #[u] t)).cell? ((⟨n, 0, none⟩ : Addr).add j) = some v := by
  subst hn
  intro j v hj
  match j, hj with
  | 0, hj => simp at hj; subst hj; simp [Addr.add]
  | j + 1, hj => simp at hj
end Go.Proofs.Ytollijngiioonaa

/- The program's iterator over all terms within a term: its contract. Conditions: terms of at most 549755813888 parts. -/
namespace Go.Proofs.Ytollijngiioonaa
set_option maxRecDepth 100000
open Go.RowKit Go.Shelf
attribute [local go_sem] Oper.semAt_some

theorem info24 : (Try.prog.info? 25).map (fun i => (i.zero, i.size, i.bytes)) = some (some (.slice none 0 0), 1, 24) := by kernel_rfl

/-- What comes next: a term within t, all ahead of it having come; its Kids read. -/
def InT (w : World) (n₀ : Nat) (t : TermD) (pre : List El) (x : El) : Prop := (∃ r, pre.map El.t ++ x.t :: r = preT t) ∧ RdK w n₀ x.a x.t.kids ∧ x.t.kids.length ≤ x.c

/-- What holds between two rounds. -/
structure WRel (w0 : World) (n B M : Nat) (t : TermD) (J : List El → (Nat → Prop) → World → Prop) (pre : List El) (S : Nat → Prop) (E : List LE) (v : Value) (wr : World) : Prop where
  st : WSt w0 n B 25 S E v wr
  j : J pre S wr
  got : pre.map El.t ++ preS E = preT t
  size : sizeL E ≤ M

theorem with_start {t : TermD} {a : Option Addr} {c hi n : Nat} {w W : World} {S : Nat → Prop} (hc : t.kids.length ≤ c) (hr : RdK w hi a t.kids) (hhi : hi ≤ n) (hn : n ≤ w.heap.size) (hbW : Below w.heap.size w W) (hS : ∀ k, S k → k < W.heap.size) :
    WSt w n W.heap.size 25 S [⟨some ⟨W.heap.size, 0, none⟩, 1, [t]⟩] (.slice (some ⟨W.heap.size + 1, 0, none⟩) 1 1) ((W.alloc (.cells #[.int .i64 t.f, .int .i64 t.v, .slice a t.kids.length c] 27)).alloc (.cells #[.slice (some ⟨W.heap.size, 0, none⟩) 1 1] 25)) := by
  have hrow := World.ownsRow_lit (base := n) (size := 1) (e := 25) (W.alloc (.cells #[.int .i64 t.f, .int .i64 t.v, .slice a t.kids.length c] 27)) #[.slice (some ⟨W.heap.size, 0, none⟩) 1 1] 1 (by simp; have := hbW.size; omega) (by unfold maxLen; omega) rfl
  rw [World.size_alloc] at hrow
  have hb : Below W.heap.size W ((W.alloc (.cells #[.int .i64 t.f, .int .i64 t.v, .slice a t.kids.length c] 27)).alloc (.cells #[.slice (some ⟨W.heap.size, 0, none⟩) 1 1] 25)) := ((Below.refl _ _).alloc (Nat.le_refl _) _).alloc (by simp) _
  refine ⟨hrow, fun g hg => ?_, fun h => by have := hS _ h; omega, by simp; omega, Nat.le_trans hn hbW.size, fun e he => ?_, fun k hk => (hb.block k (by have := hbW.size; omega)).trans (hbW.block k (by omega))⟩
  · have e : W.heap.size + 1 = g := by simpa [Value.ownBlock] using hg
    subst e
    exact ⟨fun h => by have := hS _ h; omega, by omega⟩
  · simp only [List.mem_singleton] at he
    subst he
    refine ⟨.inr ⟨W.heap.size, 0, fun _ => a, fun _ => c, rfl, .inr rfl, fun i hi => ?_, fun i hi => ?_, fun i hi => ?_⟩, Nat.le_refl _⟩
    all_goals
      have e : i = 0 := by simp at hi; omega
      subst e
      simp only [List.getElem_cons_zero]
    · exact hc
    · simp [go_sem]
    · exact hr.mono hhi

set_option maxHeartbeats 3200000 in
set_option maxRecDepth 100000 in
theorem within_seq (F : Fence) (n : Nat) (h64 : F.fn 94) (hro : F.round = none) (hn : 1 ≤ n) (w : World) (t : TermD) (a : Option Addr) (c hi n₀ Bt : Nat) (hp : partsT t ≤ 549755813888) (hc : t.kids.length ≤ c) (hr : RdK w hi a t.kids) (hhi : hi ≤ n₀) (hn₀ : n₀ ≤ w.heap.size)
    (b0 : w.cell? ⟨Bt, 0, none⟩ = some (.int .i64 t.f)) (b1 : w.cell? ⟨Bt, 1, none⟩ = some (.int .i64 t.v)) (b2 : w.cell? ⟨Bt, 2, none⟩ = some (.slice a t.kids.length c)) :
    SeqPriv F n Try.prog 94 #[.pointer (some ⟨Bt, 0, none⟩)] El.enc n₀ (fun xs => xs.map El.t = preT t) (fun pre => ∃ r, pre.map El.t ++ r = preT t) (InT w n₀ t) (partsT t) w := by
  intro l J Jx S₀ W hbW hJ hJx hJb hY h0
  obtain ⟨i0, hi0, hz0, hz1, hz2⟩ := info_parts info24
  have c0 := keepC hbW b0
  have c1 := keepC hbW b1
  have c2 := keepC hbW b2
  refine callsIn_of_wp Try.func94 rfl h64 ?_ hro
  simp only [Try.ntmps94, List.size_toArray, List.length_cons, List.length_nil, Nat.reduceAdd, Nat.reduceSub, Array.replicate_succ, Array.replicate_zero, List.push_toArray, List.append_toArray, List.nil_append, List.cons_append]
  have st0 := with_start (S := S₀) hc hr hhi hn₀ hbW (hJb _ _ _ h0)
  have R0 : WRel w n₀ W.heap.size (2 * partsT t + 1) t J [] S₀ [⟨some ⟨W.heap.size, 0, none⟩, 1, [t]⟩] (.slice (some ⟨W.heap.size + 1, 0, none⟩) 1 1) ((W.alloc (.cells #[.int .i64 t.f, .int .i64 t.v, .slice a t.kids.length c] 27)).alloc (.cells #[.slice (some ⟨W.heap.size, 0, none⟩) 1 1] 25)) :=
    ⟨st0, hJ _ _ _ _ (hJ _ _ _ _ h0 (.alloc _ _ _)) (.alloc _ _ _), by simp [preS, preL], by simp [sizeL, partsL]⟩
  have HM : Hid (2 * partsT t + 1 ≤ 1099511627777) := (by omega : 2 * partsT t + 1 ≤ 1099511627777)
  have HJ : Hid (∀ pre S A B, J pre S A → Stay S A B → J pre S B) := hJ
  have HJB : Hid (∀ pre S A, J pre S A → ∀ k, S k → k < A.heap.size) := hJb
  have HY : Hid (∀ pre x S A, J pre S A → pre.length < partsT t → InT w n₀ t pre x → YieldAt F (n - 1) Try.prog l (El.enc x) A fun e B =>
      (e = .returned (.bool true) ∧ ∃ S', J (pre ++ [x]) S' B ∧ (∀ k, S' k → S k ∨ A.heap.size ≤ k) ∧ Stay (fun k => k < n₀ ∨ ¬ S k) A B) ∨
      (e = .returned (.bool false) ∧ ∃ S', Jx (pre ++ [x]) S' B)) := hY
  clear hJ hJx hJb hY h0 st0 b0 b1 b2 hr hp hc hhi
  have HPT : Hid ((preT t).length = partsT t) := preT_len t
  generalize 2 * partsT t + 1 = M at *
  gi_wp2
  clear c0 c1 c2
  generalize W.heap.size = B at *
  gi_loopw [3] (fun v wr => ∃ pre S E, WRel w n₀ B M t J pre S E v wr) (fun v wr => leastN (fun m => ∃ pre S E, WRel w n₀ B M t J pre S E v wr ∧ sizeL E = m))
  case atStart => exact ⟨_, _, _, R0⟩
  case round =>
    obtain ⟨pre1, S1, E1, R1⟩ := hrel
    obtain ⟨m0, ⟨pre, S, E, R, hm0⟩, hmin⟩ := leastN_spec (p := fun m => ∃ pre S E, WRel w n₀ B M t J pre S E u3 wr ∧ sizeL E = m) ⟨_, pre1, S1, E1, R1, rfl⟩
    clear R1 R0
    obtain ⟨st, hj, hgot, hsz⟩ := R
    cases E with
    | nil =>
      obtain ⟨a5, c5, rfl, _⟩ := own_form st.row
      have HG : Hid (pre.map El.t = preT t) := by show _ = _; simpa [preS] using hgot
      clear st hmin hm0 hgot
      gi_wp2
      go_end0
      exact ⟨⟨_, rfl⟩, .inl ⟨pre, S, HG.out, hj⟩⟩
    | cons e E =>
      obtain ⟨g, cap, rfl, hcap, hg0, hgl⟩ := own_slot st.row
      have q0 := cellsL_top st.row
      obtain ⟨hrd, hlec⟩ := st.good e (by simp)
      have hlen := sizeL_len (e :: E)
      have HM' := HM.out
      have hEl : E.length ≤ 1099511627776 := by simp only [List.length_cons] at hlen; omega
      have hEi : (E.length : Int) ≤ cap := by omega
      clear hlen HM'
      obtain ⟨ea, ec, ets⟩ := e
      cases ets with
      | nil =>
        have R' : WRel w n₀ B M t J pre S E (.slice (some ⟨g, 0, none⟩) E.length cap) wr := ⟨st.pop, hj, by simpa [preS, preL] using hgot, by simp only [sizeL] at hsz; omega⟩
        have Q0 : Hid (sizeL E < m0) := by show _ < _; rw [← hm0]; simp only [sizeL]; omega
        simp only [List.length_nil] at q0
        clear st hgot hj hsz hm0 hrd hlec
        gi_wp2
        go_roundw
        case rel => exact ⟨_, _, _, R'⟩
        case measure => exact Nat.lt_of_le_of_lt (leastN_le ⟨_, _, _, R', rfl⟩) (by rw [hmin]; exact Q0.out)
      | cons x xs =>
        obtain ⟨b, off, xa, xc, hb, hSb, x0, x1, x2, hxc, hxr⟩ := hrd.head
        simp only at hb
        subst hb
        simp only [List.length_cons] at q0 hlec
        have hgg := st.out g rfl
        have hSg := (st.own g rfl).1
        have hbg : b ≠ g := fun e => hgg (e ▸ hSb)
        have hbl : b < wr.heap.size := World.block_lt_of_cell? _ _ x0
        have hbk : (0 : Int) ≤ E.length := by omega
        have hs1 := slice_tail b off xs.length ec
        have hs3 := sliceAt_tail b off xs.length ec
        have fz : ∀ j, wr.frozen? ⟨g, j, none⟩ = false := fun j => st.row.frozenAt j
        obtain ⟨W2, hW2⟩ : ∃ W2, W2 = wr.setCell ⟨g, E.length, none⟩ (.slice (tailA b off ec) xs.length (ec - 1)) := ⟨_, rfl⟩
        have hz2' : W2.heap.size = wr.heap.size := by rw [hW2]; simp
        have st2 : WSt w n₀ B 25 S (⟨tailA b off ec, ec - 1, xs⟩ :: E) (.slice (some ⟨g, 0, none⟩) (E.length + 1) cap) W2 := by
          rw [hW2]; exact st.set (d := ⟨tailA b off ec, ec - 1, xs⟩) ⟨hrd.tailA hlec, by simp only; omega⟩
        obtain ⟨W3, hW3⟩ : ∃ W3, W3 = W2.alloc (.cells #[.int .i64 x.f, .int .i64 x.v, .slice xa x.kids.length xc] 27) := ⟨_, rfl⟩
        have hb3 : Below W2.heap.size W2 W3 := by rw [hW3]; exact (Below.refl _ _).alloc (Nat.le_refl _) _
        have hz3 : W3.heap.size = wr.heap.size + 1 := by rw [hW3, ← hz2']; simp
        have st3 := st2.on hb3
        have hj3 : J pre S W3 := by
          rw [hW3, hW2]; exact HJ.out _ _ _ _ (HJ.out _ _ _ _ hj (.setCell _ _ hSg)) (.alloc _ _ _)
        have hSk := HJB.out _ _ _ hj
        have nbn : ¬ S wr.heap.size := fun h => by have := hSk _ h; omega
        have X0 : W3.cell? ⟨wr.heap.size, 0, none⟩ = some (.int .i64 x.f) ∧ W3.cell? ⟨wr.heap.size, 1, none⟩ = some (.int .i64 x.v) ∧ W3.cell? ⟨wr.heap.size, 2, none⟩ = some (.slice xa x.kids.length xc) := by
          rw [hW3, ← hz2']; simp [go_sem]
        have hxr3 : Hid (RdK w n₀ xa x.kids) := hxr
        have hin : InT w n₀ t pre ⟨x, xa, xc⟩ := ⟨⟨preL x.kids ++ (preL xs ++ preS E), by rw [← hgot]; simp [preS, preL, preT_eq]⟩, hxr, hxc⟩
        have HG : Hid ((pre ++ [(⟨x, xa, xc⟩ : El)]).map El.t ++ (preL x.kids ++ (preL xs ++ preS E)) = preT t) := by
          show _ = _
          rw [← hgot]; simp [preS, preL, preT_eq]
        have HS : Hid (sizeL (⟨xa, xc, x.kids⟩ :: ⟨tailA b off ec, ec - 1, xs⟩ :: E) < m0) := by show _ < _; rw [← hm0]; simp only [sizeL, partsL, partsT_eq]; omega
        have HS2 : Hid (m0 ≤ M) := by show _ ≤ _; rw [← hm0]; exact hsz
        have hpl : pre.length < partsT t := by rw [← HPT.out, ← hgot]; simp [preS, preL, preT_eq]
        obtain ⟨fn, tmps, assign, body, hy, hR⟩ := HY.out pre ⟨x, xa, xc⟩ S W3 hj3 hpl hin
        clear hin
        dsimp only [El.enc] at hy
        rw [hW2] at hW3
        rw [hW3] at hy
        clear st hj hgot hsz hm0 hrd st2 hxr hj3 hSk hb3 hz2' hW2
        gi_wp2
        rw [← hW3]
        refine hR.mono ?_
        rintro e W4 (⟨rfl, S', hj4, hsub, hst4⟩ | ⟨rfl, S', hjx⟩)
        · have st4 := st3.round hst4 hsub
          have X0 := hst4.cell X0.2.2 (.inr nbn)
          have HSk : Hid (∀ k, S' k → k < W4.heap.size) := HJB.out _ _ _ hj4
          have hE2 : E.length + 1 + 1 ≤ 1099511627778 := by omega
          have hn4 : n₀ ≤ W4.heap.size := Nat.le_trans st4.nle (Nat.le_of_lt st4.lB)
          clear hy hR hW3 hsub hst4 st3 q0 hs1 hs3 fz hz3
          gi_wp2_with (gi_at_builtin; refine wpListIn_append_own_at _ rfl (.tmp 42) (.tmp 45) 138 rfl n₀ 25 i0 _ 1 24 Try.underlying138 hi0 hz0 hz1 hz2 rfl (by decide) _ _ _ rfl (st4.row.alloc _) ⟨W4.heap.size, 0, none⟩ 1 1 _ rfl rfl (one_new1 _ _ _ _ rfl) (one_slice _ _ _) (by unfold maxLen; simp only [List.length_cons]; omega) (by simp only [List.length_cons]; omega) (by simp; omega) ?_; intro v6 w6 hown6 hgrow6 hnil6 hat6; clear hnil6)
          have st6 := (st4.on ((Below.refl _ _).alloc (Nat.le_refl _) _)).push (d := ⟨xa, xc, x.kids⟩) (fun k h => by have := HSk.out k h; simp; omega) hown6 hgrow6 hat6 ⟨hxr3.out.f (st4.on ((Below.refl _ _).alloc (Nat.le_refl _) _)).same (fun k hk => .inl hk), hxc⟩
          have hj6 := HJ.out _ _ _ _ (HJ.out _ _ _ _ hj4 (.alloc _ _ _)) (.grown hgrow6 (fun k hk => (st4.own k hk).1))
          have R6 : WRel w n₀ B M t J _ S' _ v6 w6 := ⟨st6, hj6, HG.out, by have h1 := HS.out; have h2 := HS2.out; exact Nat.le_of_lt (Nat.lt_of_lt_of_le h1 h2)⟩
          clear st4 st6 hj6 hown6 hgrow6 hat6 hxr3
          go_roundw
          case rel => exact ⟨_, _, _, R6⟩
          case measure => exact Nat.lt_of_le_of_lt (leastN_le ⟨_, _, _, R6, rfl⟩) (by rw [hmin]; exact HS.out)
        · clear hy hR hW3 st3 hxr3 q0 hs1 hs3 fz hz3
          gi_wp2
          refine bodyPost_ret (results_none rfl _ _ _) rfl ?_
          exact ⟨⟨_, rfl⟩, .inr ⟨_, S', ⟨_, HG.out⟩, hjx⟩⟩
end Go.Proofs.Ytollijngiioonaa

/- Whether a term is a variable, and which, as the program tells it by a type switch. Conditions: none. -/
namespace Go.Proofs.Ytollijngiioonaa
set_option maxRecDepth 100000
open Go.RowKit

theorem pieceOf_var (t : TermD) (a : Option Addr) (n c : Nat) (w : World) (h : t.f = -1) :
    Calls Try.prog 119 #[.agg #[.int .i64 t.f, .int .i64 t.v, .slice a n c]] w fun e w' => e = .returned (.iface 161 (.agg #[.int .i64 t.v])) ∧ Below w.heap.size w w' := by
  go_enter Try.func119, Try.ntmps119
  go_wp2
  go_ret
  exact ⟨rfl, (Below.refl _ _).alloc (Nat.le_refl _) _⟩

theorem pieceOf_fun (t : TermD) (a : Option Addr) (n c : Nat) (w : World) (h : (t.f == -1) = false) :
    Calls Try.prog 119 #[.agg #[.int .i64 t.f, .int .i64 t.v, .slice a n c]] w fun e w' => e = .returned (.iface 170 (.agg #[.int .i64 t.f, .slice a n c])) ∧ Below w.heap.size w w' := by
  go_enter Try.func119, Try.ntmps119
  go_wp2
  go_ret
  exact ⟨rfl, (Below.refl _ _).alloc (Nat.le_refl _) _⟩

theorem ta_hit (v : Value) (w : World) : (Instr.typeAssert (.iface 161 v) 158 161 true).run Try.prog w = .ok (.tuple #[v, .bool true]) w := by
  simp [Instr.typeAssert, run_underlying Try.underlying161, go_sem]
theorem ta_miss (v : Value) (w : World) : (Instr.typeAssert (.iface 170 v) 158 161 true).run Try.prog w = .ok (.tuple #[.agg #[.int .i64 0], .bool false]) w := by
  have hz : (zeroValue 161).run Try.prog w = .ok (.agg #[.int .i64 0]) w := by simp [go_sem]
  simp [Instr.typeAssert, run_underlying Try.underlying161, go_sem, hz]

/-- What is told of a term: its number where it is a variable. -/
def vofI (t : TermD) : Int := if t.f = -1 then t.v else 0
def vofB (t : TermD) : Bool := t.f == -1
theorem rtT {a b : Int} {p q : Bool} (h : a = b) (h' : p = q) : Ending.returned (.tuple #[.int .i64 a, .bool p]) = .returned (.tuple #[.int .i64 b, .bool q]) := by rw [h, h']

set_option maxHeartbeats 1600000 in
set_option maxRecDepth 100000 in
theorem variableOf_any (t : TermD) (a : Option Addr) (n c : Nat) (w : World) :
    Calls Try.prog 95 #[.agg #[.int .i64 t.f, .int .i64 t.v, .slice a n c]] w fun e w' => e = .returned (.tuple #[.int .i64 (vofI t), .bool (vofB t)]) ∧ Below w.heap.size w w' := by
  by_cases h : t.f = -1
  · have HI : Hid (vofI t = t.v) := by show _ = _; simp [vofI, h]
    have HB : Hid (vofB t = true) := by show _ = _; simp [vofB, h]
    have C := fun w => pieceOf_var t a n c w h
    clear h
    have hA := ta_hit
    go_enter Try.func95, Try.ntmps95
    go_wp2_with (go_at_call 119; refine (C _).mono ?_; rintro e w1 ⟨rfl, hb1⟩; clear C)
    go_ret2
    have h0 : Below w.heap.size w w1 := ((Below.refl _ _).alloc (Nat.le_refl _) _).trans (hb1.mono (by simp))
    exact ⟨rtT HI.out.symm HB.out.symm, h0.alloc h0.size _⟩
  · have h' : (t.f == -1) = false := by simp [h]
    have HI : Hid (vofI t = 0) := by show _ = _; simp [vofI, h]
    have HB : Hid (vofB t = false) := by show _ = _; simp [vofB, h]
    have C := fun w => pieceOf_fun t a n c w h'
    clear h h'
    have hA := ta_miss
    go_enter Try.func95, Try.ntmps95
    go_wp2_with (go_at_call 119; refine (C _).mono ?_; rintro e w1 ⟨rfl, hb1⟩; clear C)
    go_ret2
    exact ⟨rtT HI.out.symm HB.out.symm, ((Below.refl _ _).alloc (Nat.le_refl _) _).trans (hb1.mono (by simp))⟩
end Go.Proofs.Ytollijngiioonaa

/- The program makes an iterator over a term. Conditions: none. -/
namespace Go.Proofs.Ytollijngiioonaa
set_option maxRecDepth 100000
open Go.RowKit Go.Shelf
attribute [local go_sem] Oper.semAt_some

theorem within_any (t : TermD) (a : Option Addr) (c : Nat) (w : World) :
    Calls Try.prog 79 #[.agg #[.int .i64 t.f, .int .i64 t.v, .slice a t.kids.length c]] w fun e w' => e = .returned (.func (.func 94) #[] #[.pointer (some ⟨w.heap.size, 0, none⟩)]) ∧ w' = w.alloc (.cells #[.int .i64 t.f, .int .i64 t.v, .slice a t.kids.length c] 27) := by
  generalize t.kids.length = n at *
  go_enter Try.func79, Try.ntmps79
  go_wp2
  go_ret
  exact ⟨rfl, rfl⟩

end Go.Proofs.Ytollijngiioonaa

/- A round's own variable. Conditions: none. -/
namespace Go.Proofs.Ytollijngiioonaa
set_option maxRecDepth 100000
open Go.RowKit
/-- The round's own variable lies in a block of its own. -/
structure BoxEl (x : El) (Bx : Nat) (S : Nat → Prop) (W : World) : Prop where
  s : S Bx
  c0 : W.cell? ⟨Bx, 0, none⟩ = some (.int .i64 x.t.f)
  c1 : W.cell? ⟨Bx, 1, none⟩ = some (.int .i64 x.t.v)
  c2 : W.cell? ⟨Bx, 2, none⟩ = some (.slice x.a x.t.kids.length x.c)
theorem BoxEl.stay {x : El} {Bx : Nat} {S : Nat → Prop} {A B : World} (h : BoxEl x Bx S A) (hs : Stay S A B) : BoxEl x Bx S B := ⟨h.s, hs.cell h.c0 h.s, hs.cell h.c1 h.s, hs.cell h.c2 h.s⟩
end Go.Proofs.Ytollijngiioonaa

/- The one result of a function, where it lies in a cell. Conditions: none. -/
namespace Go.Proofs.Ytollijngiioonaa
set_option maxRecDepth 100000
open Go.RowKit

theorem results_cell1 {fn : Func} {p : Tmp} {ty : TypeId} (h : fn.results = #[.cell p ty]) (tmps : Array Value) (P : Program) (w : World) :
    (results fn tmps).run P w = ((asAddr (tmps.getD p undef)).run P w).andThen fun a w₁ => (loadVar ty a).run P w₁ := by
  simp only [results, h]
  simp [Sem.run_bind, Result.andThen]
theorem load_bool {w : World} {p : Addr} {b : Bool} (h : w.cell? p = some (.bool b)) : (loadVar 4 p).run Try.prog w = .ok (.bool b) w := by
  simp [loadVar, go_sem, h]
theorem results_bool {fn : Func} {p : Tmp} (h : fn.results = #[.cell p 4]) {tmps : Array Value} {w : World} {a : Addr} (ha : tmps.getD p undef = .pointer (some a)) {b : Bool} (hc : w.cell? a = some (.bool b)) :
    (results fn tmps).run Try.prog w = .ok (.bool b) w := by
  rw [results_cell1 h, ha]
  simp [go_sem, hc, Result.andThen]
end Go.Proofs.Ytollijngiioonaa

/- Whether a term has at most 60 parts, as the program tells it: it stops at the first one too many. Conditions: terms of at most 549755813888 parts. -/
namespace Go.Proofs.Ytollijngiioonaa
set_option maxRecDepth 100000
open Go.RowKit Go.Shelf
attribute [local go_sem] Oper.semAt_some

/-- What the loop holds between two rounds. -/
structure FInv (w W0 : World) (pre : List El) (S : Nat → Prop) (W : World) : Prop where
  lo : ∀ k, k < W0.heap.size → S k
  hi : ∀ k, S k → k < W.heap.size
  r : W.cell? ⟨w.heap.size + 1, 0, none⟩ = some (.bool false)
  f : W.frozen? ⟨w.heap.size + 1, 0, none⟩ = false
  n : W.cell? ⟨w.heap.size + 1 + 1, 0, none⟩ = some (.int .i64 (pre.length : Int))
  g : W.frozen? ⟨w.heap.size + 1 + 1, 0, none⟩ = false
  b : Below w.heap.size w W
  z : w.heap.size + 1 + 1 < W0.heap.size
  le : pre.length ≤ 60
theorem FInv.stay {w W0 A B : World} {pre : List El} {S : Nat → Prop} (h : FInv w W0 pre S A) (hs : Stay S A B) : FInv w W0 pre S B := by
  have hz := h.z
  exact ⟨h.lo, fun k hk => Nat.lt_of_lt_of_le (h.hi k hk) hs.size, hs.cell h.r (h.lo _ (by simp only; omega)), (hs.frozen (World.block_lt_of_cell? _ _ h.r) (h.lo _ (by simp only; omega))).trans h.f, hs.cell h.n (h.lo _ hz), (hs.frozen (World.block_lt_of_cell? _ _ h.n) (h.lo _ hz)).trans h.g, h.b.trans (hs.below h.b.size (fun k hk => h.lo k (by omega))), hz, h.le⟩
/-- What is left where there was one too many. -/
structure FOut (w W0 : World) (pre : List El) (S : Nat → Prop) (W : World) : Prop where
  lo : ∀ k, k < W0.heap.size → S k
  r : W.cell? ⟨w.heap.size + 1, 0, none⟩ = some (.bool false)
  b : Below w.heap.size w W
  z : w.heap.size + 1 + 1 < W0.heap.size
  hit : 60 < pre.length
theorem FOut.stay {w W0 A B : World} {pre : List El} {S : Nat → Prop} (h : FOut w W0 pre S A) (hs : Stay S A B) : FOut w W0 pre S B := by
  have hz := h.z
  exact ⟨h.lo, hs.cell h.r (h.lo _ (by simp only; omega)), h.b.trans (hs.below h.b.size (fun k hk => h.lo k (by omega))), hz, h.hit⟩

set_option maxHeartbeats 3200000 in
theorem fewParts_any (t : TermD) (a : Option Addr) (c hi : Nat) (w : World) (hp : partsT t ≤ 549755813888) (hr : RdK w hi a t.kids) (hhi : hi ≤ w.heap.size) (hc : t.kids.length ≤ c) :
    Calls Try.prog 78 #[.agg #[.int .i64 t.f, .int .i64 t.v, .slice a t.kids.length c]] w fun e w' => e = .returned (.bool (decide (partsT t ≤ 60))) ∧ Below w.heap.size w w' := by
  refine (callsIn_wide (n := 5)).1 ?_
  refine callsIn_of_wp_marks Try.func78 rfl trivial ?_ rfl
  simp only [Try.ntmps78, List.size_toArray, List.length_cons, List.length_nil, Nat.reduceAdd, Nat.reduceSub, Array.replicate_succ, Array.replicate_zero, List.push_toArray, List.append_toArray, List.nil_append, List.cons_append]
  gi_wp2_with (refine ⟨trivial, ?_⟩; gi_at_call 79; refine (callsIn_wide.2 (within_any t a c _)).mono ?_; rintro e w' ⟨rfl, rfl⟩)
  obtain ⟨W0, hW0⟩ : ∃ W0, W0 = (((w.alloc (.cells #[.int .i64 t.f, .int .i64 t.v, .slice a t.kids.length c] 27)).alloc (.cells #[.bool false] 4)).alloc (.cells #[.int .i64 0] 3)).alloc (.cells #[.int .i64 t.f, .int .i64 t.v, .slice a t.kids.length c] 27) := ⟨_, rfl⟩
  have hB0 : Below w.heap.size w W0 := by rw [hW0]; exact ((((Below.refl _ _).alloc (Nat.le_refl _) _).alloc (by simp) _).alloc (by simp; omega) _).alloc (by simp; omega) _
  have hz : W0.heap.size = w.heap.size + 1 + 1 + 1 + 1 := by rw [hW0]; simp
  have r0 : W0.cell? ⟨w.heap.size + 1, 0, none⟩ = some (.bool false) := by rw [hW0]; simp [go_sem]
  have f0 : W0.frozen? ⟨w.heap.size + 1, 0, none⟩ = false := by rw [hW0]; simp [go_sem]
  have n0 : W0.cell? ⟨w.heap.size + 1 + 1, 0, none⟩ = some (.int .i64 0) := by rw [hW0]; simp [go_sem]
  have g0 : W0.frozen? ⟨w.heap.size + 1 + 1, 0, none⟩ = false := by rw [hW0]; simp [go_sem]
  have t0 : W0.cell? ⟨w.heap.size + 1 + 1 + 1, 0, none⟩ = some (.int .i64 t.f) := by rw [hW0]; simp [go_sem]
  have t1 : W0.cell? ⟨w.heap.size + 1 + 1 + 1, 1, none⟩ = some (.int .i64 t.v) := by rw [hW0]; simp [go_sem]
  have t2 : W0.cell? ⟨w.heap.size + 1 + 1 + 1, 2, none⟩ = some (.slice a t.kids.length c) := by rw [hW0]; simp [go_sem]
  rw [← hW0]
  clear hW0
  refine wpIn_rangeFunc_priv rfl (by omega) (gf := 94) (lb := #[.pointer (some ⟨w.heap.size + 1 + 1 + 1, 0, none⟩)]) rfl trivial (enters_of Try.func94 (by kernel_rfl) rfl)
    (within_seq Fence.wide 4 trivial rfl (by omega) W0 t a c hi w.heap.size (w.heap.size + 1 + 1 + 1) hp hc (hr.on (hB0.mono hhi)) hhi hB0.size t0 t1 t2) hB0.size (Below.refl _ _) (fun _ => rfl)
    (fun pre S W => FInv w W0 pre S W) (fun cd pre S W => cd = .ret ∧ FOut w W0 pre S W) (fun pre S A B h hs => h.stay hs)
    (fun _ _ _ _ _ h hs => ⟨h.1, h.2.stay hs⟩) (fun pre S A h => h.hi) (fun k => k < W0.heap.size) (fun _ h => h) ⟨fun _ h => h, fun _ h => h, r0, f0, n0, g0, hB0, by omega, by simp⟩
    (fun pre x S a₁ W => FInv w W0 pre S W ∧ a₁ = { tmps := #[.agg #[.int .i64 t.f, .int .i64 t.v, .slice a t.kids.length c], .pointer (some ⟨w.heap.size, 0, none⟩), .pointer (some ⟨w.heap.size + 1, 0, none⟩), .pointer (some ⟨w.heap.size + 1 + 1, 0, none⟩), .agg #[.int .i64 t.f, .int .i64 t.v, .slice a t.kids.length c], .func (.func 94) #[] #[.pointer (some ⟨w.heap.size + 1 + 1 + 1, 0, none⟩)], .agg #[.int .i64 x.t.f, .int .i64 x.t.v, .slice x.a x.t.kids.length x.c], undef, undef, undef, undef], defers := [] })
    (fun pre x S a₁ A B h hs => ⟨h.1.stay hs, h.2⟩)
    ?assign ?body ?done ?stop
  case assign =>
    intro l pre x S W K hi hlen hok hK
    dsimp only [El.enc]
    gi_wp2
    exact hK _ S _ ⟨hi, by simp⟩ (fun _ h => .inl h) (.refl _ _)
  case body =>
    rintro l pre x S a₁ W ⟨h, rfl⟩ hlen hok
    have hr0 := h.r
    have hf0 := h.f
    have hn0 := h.n
    have hg0 := h.g
    have hz0 := h.z
    have hl0 := h.le
    have nlo : ∀ k, k < W0.heap.size → S k := h.lo
    have N1 : FInv w W0 pre S W := h
    by_cases h60 : pre.length < 60
    · have F0 : Hid (FInv w W0 (pre ++ [x]) S (W.setCell ⟨w.heap.size + 1 + 1, 0, none⟩ (.int .i64 ((pre.length : Int) + 1))) ∧ Stay (fun k => k < w.heap.size ∨ ¬ S k) W (W.setCell ⟨w.heap.size + 1 + 1, 0, none⟩ (.int .i64 ((pre.length : Int) + 1)))) := by
        refine ⟨⟨h.lo, fun k hk => by simpa using h.hi k hk, ?_, ?_, ?_, ?_, h.b.setCell (p := ⟨w.heap.size + 1 + 1, 0, none⟩) (by simp; omega) _, hz0, by simp; omega⟩, .setCell _ _ (fun h' => h'.elim (fun h' => by simp only at h'; omega) (fun h' => h' (h.lo _ hz0)))⟩
        · exact (World.cell?_of_block (Below.heap_setCell _ _ _ _ (by simp))).trans hr0
        · rw [World.frozen?_setCell]; exact hf0
        · rw [World.cell?_setCell_same _ _ _ hn0]; simp
        · rw [World.frozen?_setCell]; exact hg0
      have hb60 : (pre.length : Int) < 60 := by omega
      clear h N1 nlo hlen hok
      gi_wp2
      exact ⟨S, F0.out.1, fun k h => .inl h, F0.out.2⟩
    · have e60 : (pre.length : Int) = 60 := by omega
      have F1 : Hid (∀ v, FOut w W0 (pre ++ [x]) S ((W.setCell ⟨w.heap.size + 1 + 1, 0, none⟩ v).setCell ⟨w.heap.size + 1, 0, none⟩ (.bool false)) ∧ Stay (fun k => k < w.heap.size ∨ ¬ S k) W ((W.setCell ⟨w.heap.size + 1 + 1, 0, none⟩ v).setCell ⟨w.heap.size + 1, 0, none⟩ (.bool false))) := fun v => by
        refine ⟨⟨h.lo, ?_, (h.b.setCell (p := ⟨w.heap.size + 1 + 1, 0, none⟩) (by simp; omega) _).setCell (p := ⟨w.heap.size + 1, 0, none⟩) (by simp) _, hz0, by simp; omega⟩, (Stay.setCell _ _ (fun h' => h'.elim (fun h' => by simp only at h'; omega) (fun h' => h' (h.lo _ hz0)))).trans (.setCell _ _ (fun h' => h'.elim (fun h' => by simp only at h'; omega) (fun h' => h' (h.lo _ (by simp only; omega)))))⟩
        exact World.cell?_setCell_same _ _ _ ((World.cell?_of_block (Below.heap_setCell _ _ _ _ (by simp))).trans hr0)
      rw [e60] at hn0
      have hr1 : ∀ v, (W.setCell ⟨w.heap.size + 1 + 1, 0, none⟩ v).cell? ⟨w.heap.size + 1, 0, none⟩ = some (.bool false) := fun v => (World.cell?_of_block (Below.heap_setCell _ _ _ _ (by simp))).trans hr0
      have HR1 : Hid _ := hr1
      clear h N1 nlo hlen hok h60 e60 hl0 hr1
      gi_wp2
      exact ⟨S, ⟨rfl, (F1.out _).1⟩, fun k h => .inl h, (F1.out _).2⟩
  case done =>
    rintro D xs S W hxs h hK hD hSD
    have h3 := h.r
    have h4 := h.f
    have h5 := h.b
    have hg : Hid (decide (partsT t ≤ 60) = true) := by
      show _ = _
      have h6 := h.le
      have : xs.length = partsT t := by rw [← preT_len, ← hxs]; simp
      simp; omega
    clear h
    gi_wp2
    refine ⟨by simp, .inl ⟨_, _, rfl, run_takeDeferred (by rw [Below.heap_setCell _ _ _ _ (by simp only; omega)]; exact hK), ?_⟩⟩
    have e5 := (h5.setCell (p := ⟨w.heap.size + 1, 0, none⟩) (by simp) (.bool true))
    exact ⟨_, results_bool rfl rfl (b := true) ((World.cell?_of_block (World.putObj_heap_other (by simp only; omega))).trans (World.cell?_setCell_same _ _ _ h3)), rtB hg.out.symm, e5.trans ((Stay.putObj (S := fun k => k < w.heap.size) _ _ (by omega)).below e5.size (fun _ h => h))⟩
  case stop =>
    rintro D cd pre S W ⟨r, hpre⟩ ⟨rfl, h⟩ hK hD hSD
    have h3 := h.r
    have h5 := h.b
    have hg : Hid (decide (partsT t ≤ 60) = false) := by
      show _ = _
      have h6 := h.hit
      have : pre.length + r.length = partsT t := by rw [← preT_len, ← hpre]; simp
      simp; omega
    clear h
    gi_wp2
    refine ⟨by simp, .inl ⟨_, _, rfl, run_takeDeferred hK, ?_⟩⟩
    exact ⟨_, results_bool rfl rfl (b := false) ((World.cell?_of_block (World.putObj_heap_other (by simp only; omega))).trans h3), rtB hg.out.symm, h5.trans ((Stay.putObj (S := fun k => k < w.heap.size) W _ (by omega)).below h5.size (fun _ h => h))⟩
end Go.Proofs.Ytollijngiioonaa

/- How the program holds the heads of two terms against each other. Conditions: none. -/
namespace Go.Proofs.Ytollijngiioonaa
set_option maxRecDepth 100000
open Go.RowKit

theorem isNaN_any (x : Int) (w : World) : Calls Try.prog 117 #[.int .i64 x] w fun e w' => e = .returned (.bool false) ∧ w' = w := by
  have h : (x != x) = false := by simp
  go_enter Try.func117, Try.ntmps117
  go_wp2
  go_ret
  exact ⟨rfl, rfl⟩

theorem compare_any (x y : Int) (w : World) : Calls Try.prog 89 #[.int .i64 x, .int .i64 y] w fun e w' => e = .returned (.int .i64 (cmpI x y)) ∧ w' = w := by
  by_cases h1 : x < y
  · have HC : Hid (cmpI x y = -1) := by show _ = _; unfold cmpI; rw [if_pos h1]
    go_enter Try.func89, Try.ntmps89
    go_wp2_with (go_at_call 117; refine (isNaN_any _ _).mono ?_; rintro e w' ⟨rfl, rfl⟩)
    go_ret
    exact ⟨rtI HC.out.symm, rfl⟩
  · by_cases h2 : y < x
    · have HC : Hid (cmpI x y = 1) := by show _ = _; unfold cmpI; rw [if_neg h1, if_pos h2]
      go_enter Try.func89, Try.ntmps89
      go_wp2_with (go_at_call 117; refine (isNaN_any _ _).mono ?_; rintro e w' ⟨rfl, rfl⟩)
      go_ret
      exact ⟨rtI HC.out.symm, rfl⟩
    · have HC : Hid (cmpI x y = 0) := by show _ = _; unfold cmpI; rw [if_neg h1, if_neg h2]
      go_enter Try.func89, Try.ntmps89
      go_wp2_with (go_at_call 117; refine (isNaN_any _ _).mono ?_; rintro e w' ⟨rfl, rfl⟩)
      go_ret
      exact ⟨rtI HC.out.symm, rfl⟩

theorem or3_any (g : Nat) (x y z : Int) (w : World) (h0 : w.cell? ⟨g, 0, none⟩ = some (.int .i64 x)) (h1 : w.cell? ⟨g, 1, none⟩ = some (.int .i64 y)) (h2 : w.cell? ⟨g, 2, none⟩ = some (.int .i64 z)) :
    Calls Try.prog 88 #[.slice (some ⟨g, 0, none⟩) 3 3] w fun e w' => e = .returned (.int .i64 (or3 x y z)) ∧ w' = w := by
  go_enter Try.func88, Try.ntmps88
  go_wp2
  refine wp_loop_rounds 4 ?_
  rw [rounds_succ]
  by_cases e0 : x = 0
  · have b0 : (x != 0) = false := by simp [e0]
    go_wp2
    rw [rounds_succ]
    by_cases e1 : y = 0
    · have b1 : (y != 0) = false := by simp [e1]
      go_wp2
      rw [rounds_succ]
      by_cases e2 : z = 0
      · have b2 : (z != 0) = false := by simp [e2]
        have HC : Hid (or3 x y z = 0) := by show _ = _; unfold or3; simp [e0, e1, e2]
        clear e0 e1 e2
        go_wp2
        rw [rounds_succ]
        go_wp2
        go_ret
        exact ⟨rtI HC.out.symm, rfl⟩
      · have b2 : (z != 0) = true := by simp [e2]
        have HC : Hid (or3 x y z = z) := by show _ = _; unfold or3; simp [e0, e1]
        clear e0 e1 e2
        go_wp2
        go_ret
        exact ⟨rtI HC.out.symm, rfl⟩
    · have b1 : (y != 0) = true := by simp [e1]
      have HC : Hid (or3 x y z = y) := by show _ = _; unfold or3; simp [e0, e1]
      clear e0 e1
      go_wp2
      go_ret
      exact ⟨rtI HC.out.symm, rfl⟩
  · have b0 : (x != 0) = true := by simp [e0]
    have HC : Hid (or3 x y z = x) := by show _ = _; unfold or3; simp [e0]
    clear e0
    go_wp2
    go_ret
    exact ⟨rtI HC.out.symm, rfl⟩

set_option maxHeartbeats 1600000 in
theorem headOrder_any (t u : TermD) (a a' : Option Addr) (c c' : Nat) (w : World) :
    Calls Try.prog 70 #[.agg #[.int .i64 t.f, .int .i64 t.v, .slice a t.kids.length c], .agg #[.int .i64 u.f, .int .i64 u.v, .slice a' u.kids.length c']] w fun e w' => e = .returned (.int .i64 (headO t u)) ∧ Below w.heap.size w w' := by
  have HC : Hid (headO t u = or3 (cmpI t.f u.f) (cmpI t.v u.v) (cmpI t.kids.length u.kids.length)) := rfl
  generalize t.kids.length = n at *
  generalize u.kids.length = m at *
  go_enter Try.func70, Try.ntmps70
  go_wp2_with fail
  go_region_held3 (fun w' => w'.cell? ⟨w.heap.size, 0, none⟩ = some (.int .i64 t.f) ∧ w'.cell? ⟨w.heap.size, 1, none⟩ = some (.int .i64 t.v) ∧ w'.cell? ⟨w.heap.size, 2, none⟩ = some (.slice a n c) ∧ w'.cell? ⟨w.heap.size + 1, 0, none⟩ = some (.int .i64 u.f) ∧ w'.cell? ⟨w.heap.size + 1, 1, none⟩ = some (.int .i64 u.v) ∧ w'.cell? ⟨w.heap.size + 1, 2, none⟩ = some (.slice a' m c')) (first | go_keep | skip)
    (first | (go_at_call 89; refine (compare_any _ _ _).mono ?_; rintro e w' ⟨rfl, hw⟩; subst w') | (go_at_call 88; refine (or3_any _ (cmpI t.f u.f) (cmpI t.v u.v) (cmpI n m) _ ?_ ?_ ?_).mono ?_; (simp [go_sem]); (simp [go_sem]); (simp [go_sem]); rintro e w' ⟨rfl, hw⟩; subst w'))
  go_wp2_with fail
  go_ret
  exact ⟨rtI HC.out.symm, (((((Below.refl w.heap.size w).alloc (Nat.le_refl _) _).alloc (by simp) _).alloc (by simp; omega) _).drew)⟩
end Go.Proofs.Ytollijngiioonaa

/- How the program holds two terms against each other. Conditions: terms of at most 549755813888 parts. -/
namespace Go.Proofs.Ytollijngiioonaa
set_option maxRecDepth 100000
open Go.RowKit

theorem info99 : (Try.prog.info? 105).map (fun i => (i.zero, i.size, i.bytes)) = some (some (.agg #[.slice none 0 0, .slice none 0 0]), 2, 48) := by kernel_rfl

theorem far2 (w : World) {g j j' : Nat} {v v' : Value} {p : Addr} (h : p.block ≠ g) : ((w.setCell ⟨g, j, none⟩ v).setCell ⟨g, j', none⟩ v').drew.cell? p = w.cell? p := by
  show World.cell? ((w.setCell ⟨g, j, none⟩ v).setCell ⟨g, j', none⟩ v') p = _
  refine World.cell?_of_block ?_
  rw [Below.heap_setCell _ _ _ _ h, Below.heap_setCell _ _ _ _ h]

/-- The stack as it is laid at first. -/
theorem ord_start {t u : TermD} {a a' : Option Addr} {c c' hi : Nat} {w w1 w2 : World} {v : Value} {cap g : Nat} (hr : RdK w hi a t.kids) (hr' : RdK w hi a' u.kids) (hle : t.kids.length ≤ c) (hle' : u.kids.length ≤ c') (hhi : hi ≤ w.heap.size) (hb1 : Below w.heap.size w w1) (hg : g < w1.heap.size)
    (hown : w2.ownsRow w.heap.size 105 2 v (0 + 1) ([] ++ [.slice (some ⟨w1.heap.size, 0, none⟩) 1 1, .slice (some ⟨w1.heap.size + 1, 0, none⟩) 1 1]))
    (hgrow : (((w1.alloc (.cells #[.int .i64 t.f, .int .i64 t.v, .slice a t.kids.length c] 27)).alloc (.cells #[.int .i64 u.f, .int .i64 u.v, .slice a' u.kids.length c'] 27)).alloc (.cells #[.slice (some ⟨w1.heap.size, 0, none⟩) 1 1, .slice (some ⟨w1.heap.size + 1, 0, none⟩) 1 1] 105)).grownBy w2 (Value.slice (some ⟨g, 0, none⟩) 0 cap).ownBlock)
    (hbase : w.heap.size ≤ g) : ∃ E, OrdSt w w1.heap.size 105 27 (ordT t u) (2 * partsT t + 1) E v w2 := by
  have hx : w1.heap.size ≠ g ∧ w1.heap.size + 1 ≠ g := by omega
  have hs1 := hb1.size
  have hc : ∀ k, k < w1.heap.size + 3 → k ≠ g → w2.heap[k]? = ((((w1.alloc (.cells #[.int .i64 t.f, .int .i64 t.v, .slice a t.kids.length c] 27)).alloc (.cells #[.int .i64 u.f, .int .i64 u.v, .slice a' u.kids.length c'] 27)).alloc (.cells #[.slice (some ⟨w1.heap.size, 0, none⟩) 1 1, .slice (some ⟨w1.heap.size + 1, 0, none⟩) 1 1] 105)).heap[k]? : Option Obj) :=
    fun k hk hne => hgrow.block k (by simp; omega) (fun e => hne (by simpa [Value.ownBlock] using e))
  have b0 : w2.heap[w1.heap.size]? = some (.cells #[.int .i64 t.f, .int .i64 t.v, .slice a t.kids.length c] 27) := by
    rw [hc _ (by omega) hx.1, Below.heap_alloc _ _ _ (by simp; omega), Below.heap_alloc _ _ _ (by simp)]; exact World.alloc_heap_new _ _
  have b1 : w2.heap[w1.heap.size + 1]? = some (.cells #[.int .i64 u.f, .int .i64 u.v, .slice a' u.kids.length c'] 27) := by
    rw [hc _ (by omega) hx.2, Below.heap_alloc _ _ _ (by simp)]
    have := World.alloc_heap_new (w1.alloc (.cells #[.int .i64 t.f, .int .i64 t.v, .slice a t.kids.length c] 27)) (.cells #[.int .i64 u.f, .int .i64 u.v, .slice a' u.kids.length c'] 27)
    rwa [World.size_alloc] at this
  have hb2 : Below w.heap.size w w2 := by
    refine ((((hb1.alloc hs1 _).alloc (by simp; omega) _).alloc (by simp; omega) _).grown hgrow (by simp; omega) (fun k e => ?_))
    have : g = k := by simpa [Value.ownBlock] using e
    omega
  have cell : ∀ {b : Nat} {cs : Array Value} {T : Nat} (j : Nat), w2.heap[b]? = some (.cells cs T) → w2.cell? ⟨b, j, none⟩ = cs[j]? := fun j h => by simp [World.cell?, h]
  have hk : ∀ {b : Nat} {x : TermD} {y : Option Addr} {z : Nat}, Fx w.heap.size w1.heap.size b → w2.heap[b]? = some (.cells #[.int .i64 x.f, .int .i64 x.v, .slice y x.kids.length z] 27) → x.kids.length ≤ z → RdK w hi y x.kids → RdP w2 (Fx w.heap.size w1.heap.size) (some ⟨b, 0, none⟩) [x] := by
    intro b x y z hb h hz hr
    refine .row b 0 [x] (fun _ => y) (fun _ => z) hb (fun i hi => ?_) (fun i hi => ?_) (fun i hi => ?_)
    all_goals
      have e : i = 0 := by simp at hi; omega
      subst e
      simp only [List.getElem_cons_zero]
    · exact hz
    · refine ⟨?_, ?_, ?_⟩
      all_goals rw [cell _ h]; simp
    · exact (hr.on (hb2.mono hhi)).p (fun k hk => .inl (by omega))
  refine ⟨[⟨some ⟨w1.heap.size, 0, none⟩, 1, [t], some ⟨w1.heap.size + 1, 0, none⟩, 1, [u]⟩], hown, ⟨_, _, b0⟩, ⟨_, _, b1⟩, by decide, hs1, fun e he => ?_, ?_, ?_, hb2⟩
  · simp only [List.mem_singleton] at he
    subst he
    exact ⟨hk (.inr (.inl rfl)) b0 hle hr, hk (.inr (.inr rfl)) b1 hle' hr', Nat.le_refl _, Nat.le_refl _, rfl⟩
  · simp only [dataP, List.map_cons, List.map_nil, ordS, ordL_cons, ordL_nil]; by_cases e : ordT t u = 0 <;> simp [e]
  · simp [dataP, sizeS, partsL]

set_option maxHeartbeats 3200000 in
set_option maxRecDepth 100000 in
theorem termOrder_any (t u : TermD) (a a' : Option Addr) (c c' hi : Nat) (w : World) (hp : partsT t ≤ 549755813888) (hr : RdK w hi a t.kids) (hr' : RdK w hi a' u.kids) (hle : t.kids.length ≤ c) (hle' : u.kids.length ≤ c') (hhi : hi ≤ w.heap.size) :
    Calls Try.prog 45 #[.agg #[.int .i64 t.f, .int .i64 t.v, .slice a t.kids.length c], .agg #[.int .i64 u.f, .int .i64 u.v, .slice a' u.kids.length c']] w fun e w' => e = .returned (.int .i64 (ordT t u)) ∧ Below w.heap.size w w' := by
  obtain ⟨i0, hi0, hz0, hz1, hz2⟩ := info_parts info99
  obtain ⟨W, hW⟩ : ∃ W, W = (w.alloc (.cells #[.int .i64 t.f, .int .i64 t.v, .slice a t.kids.length c] 27)).alloc (.cells #[.int .i64 u.f, .int .i64 u.v, .slice a' u.kids.length c'] 27) := ⟨_, rfl⟩
  have hWs : W.heap.size = w.heap.size + 1 + 1 := by rw [hW]; simp
  have hWb : Below w.heap.size w W := by rw [hW]; exact ((Below.refl _ _).alloc (Nat.le_refl _) _).alloc (by simp) _
  have P0 : W.cell? ⟨w.heap.size, 0, none⟩ = some (.int .i64 t.f) ∧ W.cell? ⟨w.heap.size, 1, none⟩ = some (.int .i64 t.v) ∧ W.cell? ⟨w.heap.size, 2, none⟩ = some (.slice a t.kids.length c) ∧ W.cell? ⟨w.heap.size + 1, 0, none⟩ = some (.int .i64 u.f) ∧ W.cell? ⟨w.heap.size + 1, 1, none⟩ = some (.int .i64 u.v) ∧ W.cell? ⟨w.heap.size + 1, 2, none⟩ = some (.slice a' u.kids.length c') := by rw [hW]; simp [go_sem]
  obtain ⟨r, hrr⟩ : ∃ r, r = ordT t u := ⟨_, rfl⟩
  rw [← hrr]
  have HRR : Hid (r = ordT t u) := hrr
  clear hrr
  go_enter Try.func45, Try.ntmps45
  go_wp2_with (first
    | (at_make; rw [← hW]; refine wpList_make_own _ rfl _ _ 103 rfl w.heap.size 105 i0 _ 2 Try.underlying103 hi0 hz0 hz1 _ _ _ 8 rfl rfl (by omega) (by rw [hz2]; omega) (by unfold maxLen; omega) (by omega) ?_; intro w1 hown1 hgrow1; rw [hWs] at hown1 ⊢; have hb1 : Below W.heap.size W w1 := (Below.refl _ _).grown hgrow1 (Nat.le_refl _) (fun k e => by cases e); have hg1 : w.heap.size + 1 + 1 < w1.heap.size := (hown1.lt _ rfl).2; have hg2 : w.heap.size + 1 < w1.heap.size := (by omega); have hg3 : w.heap.size < w1.heap.size := (by omega); obtain ⟨p0, p1, p2, p3, p4, p5⟩ := P0; have p0 := keepC hb1 p0; have p1 := keepC hb1 p1; have p2 := keepC hb1 p2; have p3 := keepC hb1 p3; have p4 := keepC hb1 p4; have p5 := keepC hb1 p5; have hB1 : Below w.heap.size w w1 := hWb.trans (hb1.mono hWb.size); clear hW hWb hgrow1 hb1 hWs)
    | (at_builtin; refine wpList_append_own _ rfl (.tmp 12) (.tmp 18) 103 rfl w.heap.size 105 i0 _ 2 48 Try.underlying103 hi0 hz0 hz1 hz2 rfl (by decide) _ _ _ rfl (((hown1.alloc _).alloc _).alloc _) ⟨w1.heap.size + 1 + 1, 0, none⟩ 1 1 _ rfl rfl (two_new _ _ _ _ _ (by simp)) (two_cell _ _ _ _ _ _) (by unfold maxLen; omega) (by omega) (by simp; omega) ?_; intro v2 w2 hown2 hgrow2 hnil2; clear hnil2; obtain ⟨E0, st0⟩ := ord_start hr hr' hle hle' hhi hB1 hg1 hown2 hgrow2 (by omega); rw [← HRR.out] at st0; clear hown2 hgrow2 hown1 p0 p1 p2 p3 p4 p5))
  have hS : w.heap.size ≤ w1.heap.size := hB1.size
  have HM : Hid (2 * partsT t + 1 ≤ 1099511627777) := (by omega : 2 * partsT t + 1 ≤ 1099511627777)
  generalize 2 * partsT t + 1 = M at *
  clear hg1 hg2 hg3 p0 p1 p2 p3 p4 p5 hB1 hr hr' hle hle' hhi hp HRR
  generalize w1.heap.size = B at *
  go_loopw [5] (fun v wr => ∃ E, OrdSt w B 105 27 r M E v wr) (fun v wr => leastN (fun n => ∃ E, OrdSt w B 105 27 r M E v wr ∧ sizeS (dataP E) = n))
  case atStart => exact ⟨E0, st0⟩
  case round =>
    obtain ⟨E1, st1⟩ := hrel
    obtain ⟨n0, ⟨E, st, hn0⟩, hmin⟩ := leastN_spec (p := fun n => ∃ E, OrdSt w B 105 27 r M E u5 wr ∧ sizeS (dataP E) = n) ⟨_, E1, st1, rfl⟩
    clear st1 st0
    cases E with
    | nil =>
      have HZ : Hid (r = 0) := by show _ = _; have := st.ord; simpa [dataP, ordS] using this.symm
      have hb := st.below
      obtain ⟨a5, c5, rfl, _⟩ := own_form st.row
      clear st hmin hn0
      go_wp2_with fail
      go_ret
      exact ⟨rtI HZ.out.symm, hb⟩
    | cons e E =>
      obtain ⟨g, cap, rfl, hcap, hg0, hgl⟩ := own_slot st.row
      obtain ⟨q0, q1⟩ := cellsP_top st.row
      have ok := st.good e (by simp)
      have hlen := sizeS_len (dataP (e :: E))
      have hsz := st.size
      have HM' := HM.out
      have hEl : E.length ≤ 1099511627776 := by simp [dataP] at hlen; simp [dataP] at hsz; omega
      have hEi : (E.length : Int) ≤ cap := by omega
      clear hlen hsz HM' HM
      obtain ⟨ea, ec, ets, ea', ec', eus⟩ := e
      cases ets with
      | nil =>
        have st' := (st.pop rfl).on ((Below.refl wr.heap.size wr).alloc (Nat.le_refl _) (.cells #[.slice ea 0 ec, .slice ea' eus.length ec'] 105))
        simp only [List.length_nil] at q0
        have Q0 : Hid (sizeS (dataP E) < n0) := by show _ < _; rw [← hn0]; simp [dataP, sizeS]
        clear st ok hn0
        go_wp2_with fail
        go_roundw
        case rel => exact ⟨E, st'⟩
        case measure => exact Nat.lt_of_le_of_lt (leastN_le ⟨E, st', rfl⟩) (by rw [hmin]; exact Q0.out)
      | cons x xs =>
        cases eus with
        | nil => have := ok.eq; simp at this
        | cons y ys =>
          obtain ⟨b, off, xa, xc, hb, hSb, x0, x1, x2, hxc, hxr⟩ := ok.r.head
          obtain ⟨b', off', ya, yc, hb', hSb', y0, y1, y2, hyc, hyr⟩ := ok.r'.head
          simp only at hb hb'
          subst hb
          subst hb'
          have hle1 := ok.le
          have hle2 := ok.le'
          simp only [List.length_cons] at hle1 hle2 q0 q1
          have hgg := st.own g rfl
          have hbg : b ≠ g := fun e => hgg (e ▸ hSb)
          have hbg' : b' ≠ g := fun e => hgg (e ▸ hSb')
          obtain ⟨W2, hW2⟩ : ∃ W2, W2 = wr.alloc (.cells #[.slice (some ⟨b, off, none⟩) (xs.length + 1) ec, .slice (some ⟨b', off', none⟩) (ys.length + 1) ec'] 105) := ⟨_, rfl⟩
          have hb2 : Below wr.heap.size wr W2 := by rw [hW2]; exact (Below.refl _ _).alloc (Nat.le_refl _) _
          have hz2' : W2.heap.size = wr.heap.size + 1 := by rw [hW2]; simp
          have c0 : W2.cell? ⟨wr.heap.size, 0, none⟩ = some (.slice (some ⟨b, off, none⟩) (xs.length + 1) ec) := by rw [hW2]; simp [go_sem]
          have c1 : W2.cell? ⟨wr.heap.size, 1, none⟩ = some (.slice (some ⟨b', off', none⟩) (ys.length + 1) ec') := by rw [hW2]; simp [go_sem]
          have x0' := keepC hb2 x0
          have x1' := keepC hb2 x1
          have x2' := keepC hb2 x2
          have y0' := keepC hb2 y0
          have y1' := keepC hb2 y1
          have y2' := keepC hb2 y2
          clear x0 x1 x2 y0 y1 y2
          go_wp2_with fail
          rw [← hW2]
          clear hW2
          go_region_held3 (fun w' => w'.cell? ⟨wr.heap.size, 0, none⟩ = some (.slice (some ⟨b, off, none⟩) (xs.length + 1) ec) ∧ w'.cell? ⟨wr.heap.size, 1, none⟩ = some (.slice (some ⟨b', off', none⟩) (ys.length + 1) ec') ∧ w'.cell? ⟨b, off, none⟩ = some (.int .i64 x.f) ∧ w'.cell? ⟨b, off + 1, none⟩ = some (.int .i64 x.v) ∧ w'.cell? ⟨b, off + 2, none⟩ = some (.slice xa x.kids.length xc) ∧ w'.cell? ⟨b', off', none⟩ = some (.int .i64 y.f) ∧ w'.cell? ⟨b', off' + 1, none⟩ = some (.int .i64 y.v) ∧ w'.cell? ⟨b', off' + 2, none⟩ = some (.slice ya y.kids.length yc)) (first | go_keep | skip) (fail)
          all_goals clear x0' x1' x2' y0' y1' y2'
          all_goals
            first
            | (obtain ⟨W3, hW3⟩ : ∃ W3, W3 = ((W2.alloc (.cells #[.int .i64 x.f, .int .i64 x.v, .slice xa x.kids.length xc] 27)).alloc (.cells #[.int .i64 y.f, .int .i64 y.v, .slice ya y.kids.length yc] 27)).drew := ⟨_, rfl⟩
               rw [← hW3]
               have hB3 : Below W2.heap.size W2 W3 := by rw [hW3]; exact ((((Below.refl _ _).alloc (Nat.le_refl _) _).alloc (by simp) _).drew)
               obtain ⟨bq, hbq⟩ : ∃ bq, bq = wr.heap.size + 1 + 1 := ⟨_, rfl⟩
               obtain ⟨bx, hbx⟩ : ∃ bx, bx = wr.heap.size + 1 := ⟨_, rfl⟩
               rw [← hbq, ← hbx]
               have X0 : W3.cell? ⟨bx, 0, none⟩ = some (.int .i64 x.f) ∧ W3.cell? ⟨bx, 1, none⟩ = some (.int .i64 x.v) ∧ W3.cell? ⟨bx, 2, none⟩ = some (.slice xa x.kids.length xc) := by rw [hW3, hbx]; simp [go_sem, hz2']
               have Y0 : W3.cell? ⟨bq, 0, none⟩ = some (.int .i64 y.f) ∧ W3.cell? ⟨bq, 1, none⟩ = some (.int .i64 y.v) ∧ W3.cell? ⟨bq, 2, none⟩ = some (.slice ya y.kids.length yc) := by rw [hW3, hbq]; simp [go_sem, hz2']
               have nx : bx ≠ g := by omega
               have ny : bq ≠ g := by omega
               clear hbx hbq hW3)
            | (obtain ⟨W3, hW3⟩ : ∃ W3, W3 = ((W2.alloc (.cells #[.int .i64 y.f, .int .i64 y.v, .slice ya y.kids.length yc] 27)).alloc (.cells #[.int .i64 x.f, .int .i64 x.v, .slice xa x.kids.length xc] 27)).drew := ⟨_, rfl⟩
               rw [← hW3]
               have hB3 : Below W2.heap.size W2 W3 := by rw [hW3]; exact ((((Below.refl _ _).alloc (Nat.le_refl _) _).alloc (by simp) _).drew)
               obtain ⟨bx, hbx⟩ : ∃ bx, bx = wr.heap.size + 1 + 1 := ⟨_, rfl⟩
               obtain ⟨bq, hbq⟩ : ∃ bq, bq = wr.heap.size + 1 := ⟨_, rfl⟩
               rw [← hbx, ← hbq]
               have X0 : W3.cell? ⟨bx, 0, none⟩ = some (.int .i64 x.f) ∧ W3.cell? ⟨bx, 1, none⟩ = some (.int .i64 x.v) ∧ W3.cell? ⟨bx, 2, none⟩ = some (.slice xa x.kids.length xc) := by rw [hW3, hbx]; simp [go_sem, hz2']
               have Y0 : W3.cell? ⟨bq, 0, none⟩ = some (.int .i64 y.f) ∧ W3.cell? ⟨bq, 1, none⟩ = some (.int .i64 y.v) ∧ W3.cell? ⟨bq, 2, none⟩ = some (.slice ya y.kids.length yc) := by rw [hW3, hbq]; simp [go_sem, hz2']
               have nx : bx ≠ g := by omega
               have ny : bq ≠ g := by omega
               clear hbx hbq hW3)
            obtain ⟨X0, X1, X2⟩ := X0
            obtain ⟨Y0, Y1, Y2⟩ := Y0
          all_goals
            have c0' := keepC hB3 c0
            have c1' := keepC hB3 c1
            have st3 := st.on (hb2.trans (hB3.mono (by omega)))
            have fz : ∀ j, W3.frozen? ⟨g, j, none⟩ = false := fun j => st3.row.frozenAt j
            have hs1 := slice_tail b off xs.length ec
            have hs2 := slice_tail b' off' ys.length ec'
            have hs3 := sliceAt_tail b off xs.length ec
            have hs4 := sliceAt_tail b' off' ys.length ec'
            obtain ⟨d0, d1⟩ := cellsP_top st3.row
            simp only [List.length_cons] at d0 d1
            have hk0 : (0 : Int) ≤ E.length := by omega
            have hk1 : (E.length : Int) < ((E.length + 1 : Nat) : Int) := by omega
            have hk2 : (E.length : Int) < (E.length : Int) + 1 := by omega
            have ng : g ≠ wr.heap.size := by omega
            have ng' : wr.heap.size ≠ g := by omega
            go_wp2_with fail
            go_region_held3 (fun w' => w'.cell? ⟨wr.heap.size, 0, none⟩ = some (.slice (some ⟨b, off, none⟩) (xs.length + 1) ec) ∧ w'.cell? ⟨wr.heap.size, 1, none⟩ = some (.slice (some ⟨b', off', none⟩) (ys.length + 1) ec')) (first | go_keep | skip) (fail)
            obtain ⟨W4, hW4⟩ : ∃ W4, W4 = ((W3.setCell ⟨g, E.length * 2, none⟩ (.slice (tailA b off ec) xs.length (ec - 1))).setCell ⟨g, E.length * 2 + 1, none⟩ (.slice (tailA b' off' ec') ys.length (ec' - 1))).drew := ⟨_, rfl⟩
            rw [← hW4]
            have ok3 := st3.good _ (List.mem_cons_self ..)
            have hsz0 := st.size
            have st4 : OrdSt w B 105 27 (ordS ((xs, ys) :: dataP E)) M (⟨tailA b off ec, ec - 1, xs, tailA b' off' ec', ec' - 1, ys⟩ :: E) (.slice (some ⟨g, 0, none⟩) (E.length + 1) cap) W4 := by
              rw [hW4]
              refine (st3.set (d := ⟨tailA b off ec, ec - 1, xs, tailA b' off' ec', ec' - 1, ys⟩) ⟨ok3.r.tailA hle1, ok3.r'.tailA hle2, by simp only; omega, by simp only; omega, by have := ok3.eq; simpa using this⟩ rfl ?_).on ((Below.refl _ _).drew)
              simp only [dataP, List.map_cons, sizeS, partsL] at hsz0 ⊢
              omega
            have sW : Stay (Fx w.heap.size B) wr W4 := by
              rw [hW4]
              exact (((Stay.of_below (hb2.trans (hB3.mono (by omega))) (fun k hk _ => hk)).trans (Stay.setCell _ _ hgg)).trans (Stay.setCell _ _ hgg)).trans (.drew _ _)
            have hxr4 := hxr.stay sW
            have hyr4 := hyr.stay sW
            have X0 : W4.cell? ⟨bx, 0, none⟩ = some (.int .i64 x.f) ∧ W4.cell? ⟨bx, 1, none⟩ = some (.int .i64 x.v) ∧ W4.cell? ⟨bx, 2, none⟩ = some (.slice xa x.kids.length xc) := by rw [hW4]; exact ⟨(far2 _ nx).trans X0, (far2 _ nx).trans X1, (far2 _ nx).trans X2⟩
            have Y0 : W4.cell? ⟨bq, 0, none⟩ = some (.int .i64 y.f) ∧ W4.cell? ⟨bq, 1, none⟩ = some (.int .i64 y.v) ∧ W4.cell? ⟨bq, 2, none⟩ = some (.slice ya y.kids.length yc) := by rw [hW4]; exact ⟨(far2 _ ny).trans Y0, (far2 _ ny).trans Y1, (far2 _ ny).trans Y2⟩
            have hkl : x.kids.length = y.kids.length ∨ headO x y ≠ 0 := by
              by_cases e : headO x y = 0
              · exact .inl (headO_zero.1 e).2.2
              · exact .inr e
            have HO : Hid (headO x y ≠ 0 → r = headO x y) := fun e => by have := st.ord; rw [← this]; exact ordS_hit e
            have HP : Hid (headO x y = 0 → ordS ((x.kids, y.kids) :: (xs, ys) :: dataP E) = r) := fun e => by have := st.ord; rw [← this]; exact (ordS_push e).symm
            have HS : Hid (sizeS ((x.kids, y.kids) :: (xs, ys) :: dataP E) < n0) := by show _ < _; rw [← hn0]; exact sizeS_push x y xs ys _
            have HS2 : Hid (n0 ≤ M) := by show _ ≤ _; rw [← hn0]; exact hsz0
            have hE2 : E.length + 1 + 1 ≤ 1099511627778 := by omega
            obtain ⟨X0, X1, X2⟩ := X0
            obtain ⟨Y0, Y1, Y2⟩ := Y0
            have C := headOrder_any x y xa ya xc yc W4
            clear hW4 sW ok3 hsz0 hn0 st st3 c0 c1 c0' c1' fz hs1 hs2 hs3 hs4 hB3 hb2 hxr hyr ok q0 q1 d0 d1 hSb hSb' hle1 hle2
            by_cases e0 : headO x y = 0
            · have HP := HP.out e0
              have hkl' : x.kids.length = y.kids.length := hkl.resolve_right (fun h => h e0)
              rw [e0] at C
              have HPh : Hid (ordS ((x.kids, y.kids) :: (xs, ys) :: dataP E) = r) := HP
              have HK : Hid (x.kids.length = y.kids.length) := hkl'
              have HMI : Hid ((leastN fun n => ∃ E_1, OrdSt w B 105 27 r M E_1 (Value.slice (some ⟨g, 0, none⟩) (E.length + 1) cap) wr ∧ sizeS (dataP E_1) = n) = n0) := hmin
              clear HP HO hkl hkl' e0 hmin
              go_wp2_with (first
                | (go_at_call 70; refine C.mono ?_; rintro e w5 ⟨rfl, hb5⟩; have X0 := keepC hb5 X0; have X1 := keepC hb5 X1; have X2 := keepC hb5 X2; have Y0 := keepC hb5 Y0; have Y1 := keepC hb5 Y1; have Y2 := keepC hb5 Y2; have st5 := st4.on hb5; have hxr5 := hxr4.stay (.of_below hb5 (fun k hk _ => hk)); have hyr5 := hyr4.stay (.of_below hb5 (fun k hk _ => hk)); clear C st4 hxr4 hyr4 hb5)
                | (at_builtin; refine wpList_append_own _ rfl (.tmp 61) (.tmp 67) 103 rfl w.heap.size 105 i0 _ 2 48 Try.underlying103 hi0 hz0 hz1 hz2 rfl (by decide) _ _ _ rfl (st5.row.alloc _) ⟨w5.heap.size, 0, none⟩ 1 1 _ rfl rfl (two_new _ _ _ _ _ rfl) (two_cell _ _ _ _ _ _) (by unfold maxLen; simp only [List.length_cons]; omega) (by simp only [List.length_cons]; omega) (by have := st5.below.size; simp; omega) ?_; intro v6 w6 hown6 hgrow6 hnil6; clear hnil6))
              have st6 := (st5.on ((Below.refl _ _).alloc (Nat.le_refl _) _)).push (d := ⟨xa, xc, x.kids, ya, yc, y.kids⟩) (M' := M) hown6 hgrow6 ⟨hxr5.stay (.alloc _ _ _), hyr5.stay (.alloc _ _ _), hxc, hyc, HK.out⟩ HPh.out (by have h1 := HS.out; have h2 := HS2.out; exact Nat.le_of_lt (Nat.lt_of_lt_of_le h1 h2))
              clear st5 hown6 hgrow6 hxr5 hyr5
              go_roundw
              case rel => exact ⟨_, st6⟩
              case measure => exact Nat.lt_of_le_of_lt (leastN_le ⟨_, st6, rfl⟩) (by rw [HMI.out]; exact HS.out)
            · have HOh : Hid (r = headO x y) := HO.out e0
              have hne : (headO x y != 0) = true := by simp [e0]
              have hb4 := st4.below
              clear HO HP hkl e0 hmin hxr4 hyr4 st4
              go_wp2_with (go_at_call 70; refine C.mono ?_; rintro e w5 ⟨rfl, hb5⟩; clear C)
              go_ret
              exact ⟨rtI HOh.out.symm, hb4.trans (hb5.mono hb4.size)⟩
end Go.Proofs.Ytollijngiioonaa

/- Whether two terms are the same, and which is before, as the program tells it. Conditions: terms of at most 549755813888 parts. -/
namespace Go.Proofs.Ytollijngiioonaa
set_option maxRecDepth 100000
open Go.RowKit

set_option maxHeartbeats 1600000 in
theorem impSame_any (N : Nat) (t u : TermD) (a a' : Option Addr) (c c' hi : Nat) (w : World) (hN : partsT t ≤ N) (hM : N ≤ 549755813888) (hr : RdK w hi a t.kids) (hr' : RdK w hi a' u.kids) (hhi : hi ≤ w.heap.size) (hc : t.kids.length ≤ c) (hc' : u.kids.length ≤ c') :
    Calls Try.prog 11 #[.agg #[.int .i64 t.f, .int .i64 t.v, .slice a t.kids.length c], .agg #[.int .i64 u.f, .int .i64 u.v, .slice a' u.kids.length c']] w fun e w' => e = .returned (.bool (sameT t u)) ∧ Below w.heap.size w w' := by
  obtain ⟨W, hW⟩ : ∃ W, W = (w.alloc (.cells #[.int .i64 t.f, .int .i64 t.v, .slice a t.kids.length c] 27)).alloc (.cells #[.int .i64 u.f, .int .i64 u.v, .slice a' u.kids.length c'] 27) := ⟨_, rfl⟩
  have hWb : Below w.heap.size w W := by rw [hW]; exact ((Below.refl _ _).alloc (Nat.le_refl _) _).alloc (by simp) _
  have C := termOrder_any t u a a' c c' hi W (Nat.le_trans hN hM) (hr.on (hWb.mono hhi)) (hr'.on (hWb.mono hhi)) hc hc' (Nat.le_trans hhi hWb.size)
  have HE : Hid ((ordT t u == 0) = sameT t u) := by
    show _ = _
    rw [Bool.eq_iff_iff, ← ordT_same]
    simp
  clear hr hr' hc hc' hN
  generalize t.kids.length = n at *
  generalize u.kids.length = m at *
  go_enter Try.func11, Try.ntmps11
  go_wp2_with (go_at_call 45; rw [← hW]; refine C.mono ?_; rintro e w1 ⟨rfl, hb1⟩; clear C hW)
  go_ret
  exact ⟨rtB HE.out, hWb.trans (hb1.mono hWb.size)⟩

set_option maxHeartbeats 1600000 in
theorem impBef_any (N : Nat) (t u : TermD) (a a' : Option Addr) (c c' hi : Nat) (w : World) (hN : partsT t ≤ N) (hM : N ≤ 549755813888) (hr : RdK w hi a t.kids) (hr' : RdK w hi a' u.kids) (hhi : hi ≤ w.heap.size) (hc : t.kids.length ≤ c) (hc' : u.kids.length ≤ c') :
    Calls Try.prog 56 #[.agg #[.int .i64 t.f, .int .i64 t.v, .slice a t.kids.length c], .agg #[.int .i64 u.f, .int .i64 u.v, .slice a' u.kids.length c']] w fun e w' => e = .returned (.bool (befT t u)) ∧ Below w.heap.size w w' := by
  obtain ⟨W, hW⟩ : ∃ W, W = (w.alloc (.cells #[.int .i64 t.f, .int .i64 t.v, .slice a t.kids.length c] 27)).alloc (.cells #[.int .i64 u.f, .int .i64 u.v, .slice a' u.kids.length c'] 27) := ⟨_, rfl⟩
  have hWb : Below w.heap.size w W := by rw [hW]; exact ((Below.refl _ _).alloc (Nat.le_refl _) _).alloc (by simp) _
  have C := termOrder_any t u a a' c c' hi W (Nat.le_trans hN hM) (hr.on (hWb.mono hhi)) (hr'.on (hWb.mono hhi)) hc hc' (Nat.le_trans hhi hWb.size)
  have HE : Hid (decide (ordT t u < 0) = befT t u) := ordT_bef t u
  clear hr hr' hc hc' hN
  generalize t.kids.length = n at *
  generalize u.kids.length = m at *
  go_enter Try.func56, Try.ntmps56
  go_wp2_with (go_at_call 45; rw [← hW]; refine C.mono ?_; rintro e w1 ⟨rfl, hb1⟩; clear C hW)
  go_ret
  exact ⟨rtB HE.out, hWb.trans (hb1.mono hWb.size)⟩
end Go.Proofs.Ytollijngiioonaa

