/- What the proof of FnExactNorm stands on, part 8 of 8: each piece says what it proves and under which conditions. Conditions: as each piece says. -/
import Derived.Test.YtkecnljdloffdaaPackExactNorm7
import Derived.Test.YtkecnljdloffdaaProg
import Derived.Deep.Slices
import Derived.Deep.RegionHeld3
import Derived.Deep.DeepMust
/- How a term that came in as an argument is opened: its cells, all the way down. Conditions: none. -/
namespace Go.Proofs.Ytkecnljdloffdaa
set_option maxRecDepth 100000
open Go.RowKit Go.ChangeShapes Go.WideShapes Go.ChangeAt

theorem cellsT : Try.prog.cellsOf 51 = 3 := by kernel_rfl
theorem cellsI : Try.prog.cellsOf 3 = 1 := by kernel_rfl
theorem cellsK : Try.prog.cellsOf 49 = 1 := by kernel_rfl

theorem isW_of {z : Int} (h : (Lit.int .i64 z).wf = true) : isW z := by
  simp [Lit.wf, IntKind.min, IntKind.max, IntKind.signed, IntKind.bits] at h
  exact ⟨by omega, by omega⟩

set_option maxRecDepth 100000 in
/-- The three cells of a term, given what its list of kids reads as. -/
theorem term_trod {H : Type} {enc : TypeId × Value → H} {W : World} {base : Nat} {spare : Nat → Bool} {held : Bool} {fuel : Nat} {cs : List Value} {x : DataW H × List MemPlace}
    (h : DataW.trod enc Try.prog W base spare held fuel 51 cs = some x)
    (K : ∀ m, m < fuel → ∀ (cs : List Value) (x : DataW H × List MemPlace), DataW.trod enc Try.prog W base spare held m 49 cs = some x → ∃ a n cap ts, cs = [.slice a n cap] ∧ n = ts.length ∧ (n ≤ maxLen ∧ n ≤ cap) ∧ RdK W W.heap.size a ts) :
    ∃ (t : TermD) (a : Option Addr) (c : Nat), cs = [.int .i64 t.f, .int .i64 t.v, .slice a t.kids.length c] ∧ isW t.f ∧ isW t.v ∧ (t.kids.length ≤ maxLen ∧ t.kids.length ≤ c) ∧ RdK W W.heap.size a t.kids := by
  obtain ⟨xs, m, rfl, rfl, hlen, hxl, hf⟩ := DataW.trod_struct Try.underlying51 h
  rw [cellsT] at hlen
  match cs, hlen with
  | [c0, c1, c2], _ =>
    match xs, hxl with
    | [y0, y1, y2], _ =>
      have h0 : DataW.trod enc Try.prog W base spare held m 3 [c0] = some y0 := by have := hf 0 _ rfl; simpa [cellsI] using this
      have h1 : DataW.trod enc Try.prog W base spare held m 3 [c1] = some y1 := by have := hf 1 _ rfl; simpa [cellsI] using this
      have h2 : DataW.trod enc Try.prog W base spare held m 49 [c2] = some y2 := by have := hf 2 _ rfl; simpa [cellsK] using this
      obtain ⟨z0, e0, _, w0⟩ := DataW.trod_int Try.underlying3 h0
      obtain ⟨z1, e1, _, w1⟩ := DataW.trod_int Try.underlying3 h1
      obtain ⟨a, n, cap, ts, e2, hn, hm, hr⟩ := K m (by omega) _ _ h2
      simp at e0 e1 e2
      subst e0 e1 e2 hn
      exact ⟨.mk z0 z1 ts, a, cap, rfl, isW_of w0, isW_of w1, hm, hr⟩

theorem kids_trod {H : Type} {enc : TypeId × Value → H} {W : World} {base : Nat} {spare : Nat → Bool} {held : Bool} : ∀ (fuel : Nat) (cs : List Value) (x : DataW H × List MemPlace),
    DataW.trod enc Try.prog W base spare held fuel 49 cs = some x → ∃ a n cap ts, cs = [.slice a n cap] ∧ n = ts.length ∧ (n ≤ maxLen ∧ n ≤ cap) ∧ RdK W W.heap.size a ts := by
  intro fuel
  induction fuel using Nat.strongRecOn with
  | ind fuel ih =>
    intro cs x h
    rcases DataW.trod_slice Try.underlying49 h with ⟨rfl, _⟩ | ⟨x0, len, cap, elems, rest, n, rfl, rfl, _, hb, hl, hm, hlen, hel, _, _⟩
    · exact ⟨none, 0, 0, [], rfl, rfl, ⟨Nat.zero_le _, Nat.zero_le _⟩, .nil _⟩
    · rw [cellsT] at hel
      have hall : ∀ i, i < len → ∃ y : TermD × Option Addr × Nat, W.cells? base (x0.add (i * 3)) 3 = some [.int .i64 y.1.f, .int .i64 y.1.v, .slice y.2.1 y.1.kids.length y.2.2] ∧ isW y.1.f ∧ isW y.1.v ∧ RdK W W.heap.size y.2.1 y.1.kids ∧ y.1.kids.length ≤ y.2.2 := by
        intro i hi
        have h1 := hel i hi
        rw [List.getElem?_eq_getElem (by omega)] at h1
        obtain ⟨cs', g1, g2⟩ := Option.bind_eq_some_iff.1 h1
        obtain ⟨t, a, c, rfl, q1, q2, ⟨_, q4⟩, q3⟩ := term_trod g2 (fun m hm cs x hx => ih m (by omega) cs x hx)
        exact ⟨⟨t, a, c⟩, g1, q1, q2, q3, q4⟩
      obtain ⟨F, hF⟩ := Deep.choose_lt hall
      refine ⟨some x0, len, cap, (List.range len).map (fun i => (F i).1), rfl, by simp, ⟨by omega, by omega⟩, ?_⟩
      by_cases h0 : len = 0
      · subst h0; exact .nil _
      · have hcell : ∀ i, (hi : i < len) → ∀ j, j < 3 → W.cell? ((x0.add (i * 3)).add j) = [Value.int .i64 (F i).1.f, .int .i64 (F i).1.v, .slice (F i).2.1 (F i).1.kids.length (F i).2.2][j]? := fun i hi j hj => (World.cells?_some (hF i hi).1).2.2 j hj
        obtain ⟨b, off, spot⟩ := x0
        have hc0 := hcell 0 (by omega) 0 (by omega)
        have h1 : W.cell? (⟨b, off, spot⟩ : Addr) = some (.int .i64 (F 0).1.f) := by simpa [Addr.add] using hc0
        have hspot : spot = none := by simpa using World.cell?_spot h1
        subst hspot
        have hadd : ∀ i j, ((⟨b, off, none⟩ : Addr).add i).add j = ⟨b, off + i + j, none⟩ := by
          intro i j
          by_cases h1 : i = 0 <;> by_cases h2 : j = 0 <;> simp [Addr.add, h1, h2, Nat.add_assoc]
        have hbl : b < W.heap.size := World.block_lt_of_cell? _ _ h1
        refine .row b off _ (fun i => (F i).2.1) (fun i => (F i).2.2) hbl ⟨by simp; unfold maxLen at hm; omega, fun i hi => by simp at hi; simp only [List.getElem_map, List.getElem_range]; exact (hF i hi).2.2.2.2⟩ (fun i hi => ?_) (fun i hi => ?_) (fun i hi => ?_)
        · simp at hi
          simp only [List.getElem_map, List.getElem_range]
          exact ⟨(hF i hi).2.1, (hF i hi).2.2.1⟩
        · simp at hi
          simp only [List.getElem_map, List.getElem_range]
          have g0 := hcell i hi 0 (by omega)
          have g1 := hcell i hi 1 (by omega)
          have g2 := hcell i hi 2 (by omega)
          rw [hadd] at g0 g1 g2
          exact ⟨by simpa using g0, by simpa using g1, by simpa using g2⟩
        · simp at hi
          simp only [List.getElem_map, List.getElem_range]
          exact (hF i hi).2.2.2.1

theorem open_term {H : Type} {enc : TypeId × Value → H} {W : World} {base : Nat} {spare : Nat → Bool} {held : Bool} {v : Value} {d : DataW H} {p : List MemPlace} {cs : Array Value} (hv : v = .agg cs)
    (h : DataW.Trod enc Try.prog W base spare held 51 v d p) : ∃ (t : TermD) (a : Option Addr) (c : Nat), v = .agg #[.int .i64 t.f, .int .i64 t.v, .slice a t.kids.length c] ∧ isW t.f ∧ isW t.v ∧ (t.kids.length ≤ maxLen ∧ t.kids.length ≤ c) ∧ RdK W W.heap.size a t.kids := by
  subst hv
  obtain ⟨fuel, hf⟩ := h
  obtain ⟨t, a, c, e, r⟩ := term_trod hf (fun m _ cs x hx => kids_trod m cs x hx)
  refine ⟨t, a, c, ?_, r⟩
  have e2 : cs.toList = [.int .i64 t.f, .int .i64 t.v, .slice a t.kids.length c] := by simpa [Value.cells] using e
  rw [show cs = #[.int .i64 t.f, .int .i64 t.v, .slice a t.kids.length c] from Array.toList_inj.1 e2]
end Go.Proofs.Ytkecnljdloffdaa

/- How a list of functions that came in as an argument is opened: its cells, and that each part is in its bounds. Conditions: none. -/
namespace Go.Proofs.Ytkecnljdloffdaa
set_option maxRecDepth 100000
open Go.RowKit Go.ChangeShapes Go.WideShapes Go.ChangeAt

theorem cells38 : Try.prog.cellsOf 96 = 3 := by kernel_rfl
theorem cells9 : Try.prog.cellsOf 9 = 1 := by kernel_rfl
theorem cells3i : Try.prog.cellsOf 3 = 1 := by kernel_rfl
theorem cells4 : Try.prog.cellsOf 4 = 1 := by kernel_rfl

set_option maxRecDepth 100000 in
theorem sym_of_trod {H : Type} {enc : TypeId × Value → H} {w : World} {base : Nat} {spare : Nat → Bool} {held : Bool} {n : Nat} {cs : List Value} {x : DataW H × List MemPlace}
    (h : DataW.trod enc Try.prog w base spare held n 96 cs = some x) : ∃ s : SymD, cs = symC s ∧ s.name.size ≤ maxLen ∧ (Lit.int .i64 s.ar).wf = true := by
  obtain ⟨xs, m, rfl, rfl, hlen, hxl, hf⟩ := DataW.trod_struct Try.underlying96 h
  rw [cells38] at hlen
  match cs, hlen with
  | [c0, c1, c2], _ =>
    match xs, hxl with
    | [y0, y1, y2], _ =>
      have h0 : DataW.trod enc Try.prog w base spare held m 9 [c0] = some y0 := by have := hf 0 _ rfl; simpa [cells9] using this
      have h1 : DataW.trod enc Try.prog w base spare held m 3 [c1] = some y1 := by have := hf 1 _ rfl; simpa [cells3i] using this
      have h2 : DataW.trod enc Try.prog w base spare held m 4 [c2] = some y2 := by have := hf 2 _ rfl; simpa [cells4] using this
      obtain ⟨s, e0, _, hs⟩ := DataW.trod_string Try.underlying9 h0
      obtain ⟨z, e1, _, hz⟩ := DataW.trod_int Try.underlying3 h1
      obtain ⟨b, e2, _⟩ := DataW.trod_bool Try.underlying4 h2
      simp at e0 e1 e2
      subst e0 e1 e2
      exact ⟨⟨s, z, b⟩, rfl, hs, hz⟩

set_option maxRecDepth 100000 in
theorem open_syms {H : Type} {enc : TypeId × Value → H} {W : World} {base : Nat} {spare : Nat → Bool} {held : Bool} {v : Value} {d : DataW H} {p : List MemPlace} {a : Option Addr} {len cap : Nat} (hv : v = .slice a len cap)
    (h : DataW.Trod enc Try.prog W base spare held 48 v d p) : ∃ ss : List SymD, len = ss.length ∧ len ≤ maxLen ∧ RdS W a ss ∧ ∀ s ∈ ss, s.name.size ≤ maxLen ∧ (Lit.int .i64 s.ar).wf = true := by
  subst hv
  obtain ⟨fuel, hf⟩ := h
  rcases Deep.open_slice Try.underlying48 hf with ⟨hcs, _⟩ | ⟨x, l, c, m, n, Dd, Pl, hcs, _, hl, hm, hmm, _, hel⟩
  · simp [Value.cells] at hcs
    obtain ⟨rfl, rfl, rfl⟩ := hcs
    exact ⟨[], rfl, Nat.zero_le _, .inl rfl, fun s hs => by simp at hs⟩
  · simp [Value.cells] at hcs
    obtain ⟨rfl, rfl, rfl⟩ := hcs
    rw [cells38] at hel
    have hlm : len ≤ m := by rw [hmm]; split <;> omega
    have hall : ∀ i, i < len → ∃ s : SymD, W.cells? base (x.add (i * 3)) 3 = some (symC s) ∧ s.name.size ≤ maxLen ∧ (Lit.int .i64 s.ar).wf = true := by
      intro i hi
      obtain ⟨cs', h1, h2⟩ := hel i (by omega)
      obtain ⟨s, rfl, h3, h4⟩ := sym_of_trod h2
      exact ⟨s, h1, h3, h4⟩
    obtain ⟨F, hF⟩ := Deep.choose_lt hall
    refine ⟨(List.range len).map F, by simp, by omega, ?_, ?_⟩
    · by_cases h0 : len = 0
      · subst h0; exact .inl rfl
      · have hcell : ∀ i, (hi : i < len) → ∀ j, j < 3 → W.cell? ((x.add (i * 3)).add j) = (symC (F i))[j]? := fun i hi j hj => (World.cells?_some (hF i hi).1).2.2 j hj
        obtain ⟨b, off, spot⟩ := x
        have hc0 := hcell 0 (by omega) 0 (by omega)
        have hspot : spot = none := by
          have h1 : W.cell? (⟨b, off, spot⟩ : Addr) = some (.string (F 0).name) := by simpa [Addr.add, symC] using hc0
          simpa using World.cell?_spot h1
        subst hspot
        have hadd : ∀ i j, ((⟨b, off, none⟩ : Addr).add i).add j = ⟨b, off + i + j, none⟩ := by
          intro i j
          by_cases h1 : i = 0 <;> by_cases h2 : j = 0 <;> simp [Addr.add, h1, h2, Nat.add_assoc]
        have hb : b < W.heap.size := by
          have h1 : W.cell? (⟨b, off, none⟩ : Addr) = some (.string (F 0).name) := by simpa [Addr.add, symC] using hc0
          exact World.block_lt_of_cell? _ _ h1
        refine .inr ⟨b, off, rfl, hb, fun i hi => ?_⟩
        simp at hi
        have g0 := hcell i hi 0 (by omega)
        have g1 := hcell i hi 1 (by omega)
        have g2 := hcell i hi 2 (by omega)
        rw [hadd] at g0 g1 g2
        simp [symC] at g0 g1 g2
        simp [g0, g1, g2]
    · intro s hs
      simp at hs
      obtain ⟨i, hi, rfl⟩ := hs
      exact ⟨(hF i hi).2.1, (hF i hi).2.2⟩
end Go.Proofs.Ytkecnljdloffdaa

/- Contracts of the laws' helpers on terms: how much one holds. Conditions: none beyond the reading's. -/
namespace Go.Proofs.Ytkecnljdloffdaa
set_option maxRecDepth 100000
open Go.RowKit

theorem rt_int {a b : Int} (h : a = b) : Ending.returned (.int .i64 a) = .returned (.int .i64 b) := by rw [h]

set_option maxHeartbeats 1600000 in
theorem szTerm_of (t : TermD) (a : Option Addr) (c : Nat) (m : Int) (w : World)
    (H : ∀ w', Below w.heap.size w w' → Calls Try.prog 83 #[.slice a t.kids.length c, .int .i64 m] w' fun e w'' => e = .returned (.int .i64 (szR t.kids m)) ∧ Below w'.heap.size w' w'') :
    Calls Try.prog 34 #[.agg #[.int .i64 t.f, .int .i64 t.v, .slice a t.kids.length c], .int .i64 m] w fun e w' => e = .returned (.int .i64 (szR t.kids m)) ∧ Below w.heap.size w w' := by
  have h0 : Below w.heap.size w (w.alloc (.cells #[.int .i64 t.f, .int .i64 t.v, .slice a t.kids.length c] 51)) := (Below.refl w.heap.size w).alloc (Nat.le_refl _) _
  have H1 := H _ h0
  clear H
  have hr : szR t.kids m < 0 → szR t.kids m = -1 := by unfold szR; split <;> omega
  generalize szR t.kids m = r at *
  by_cases hn : r < 0
  · have hr1 := hr hn
    subst hr1
    clear hr
    go_enter Try.func34, Try.ntmps34
    go_wp2_with (go_at_call 83; refine H1.mono ?_; rintro e w1 ⟨rfl, hb1⟩; clear H1)
    go_ret
    exact ⟨rfl, h0.trans (hb1.mono h0.size)⟩
  · clear hr
    go_enter Try.func34, Try.ntmps34
    go_wp2_with (go_at_call 83; refine H1.mono ?_; rintro e w1 ⟨rfl, hb1⟩; clear H1)
    go_ret
    exact ⟨rfl, h0.trans (hb1.mono h0.size)⟩

set_option maxHeartbeats 1600000 in
theorem szTermS_any (N : Nat) : ∀ (ts : List TermD) (a : Option Addr) (c hi : Nat) (m : Int) (w : World), partsL ts ≤ N → 0 ≤ m → m ≤ 1048576 → RdK w hi a ts → hi ≤ w.heap.size →
    Calls Try.prog 83 #[.slice a ts.length c, .int .i64 m] w fun e w' => e = .returned (.int .i64 (szR ts m)) ∧ Below w.heap.size w w' := by
  induction N with
  | zero =>
    intro ts a c hi m w hN hm0 hm hr hhi
    have h1 := partsL_len ts
    have : ts = [] := List.length_eq_zero_iff.1 (by omega)
    subst this
    have HS : Hid (szR [] m = m) := by show _ = _; simp [szR, partsL, hm0]
    have hm0' : ¬ m < 0 := by omega
    go_enter Try.func83, Try.ntmps83
    go_wp2_with fail
    refine wp_loop_rounds 1 ?_
    rw [rounds_succ]
    go_wp2_with fail
    go_ret
    exact ⟨rt_int HS.out.symm, Below.refl _ _⟩
  | succ N ih =>
    intro ts a c hi m w hN hm0 hm hr hhi
    have hlen := hr.len
    by_cases hbig : m - (ts.length : Int) < 0
    · have HS : Hid (szR ts m = -1) := by show _ = _; have := partsL_len ts; unfold szR; rw [if_neg (by omega)]
      clear hr
      go_enter Try.func83, Try.ntmps83
      go_wp2_with fail
      go_ret
      exact ⟨rt_int HS.out.symm, Below.refl _ _⟩
    · have HR : Hid (RdK w hi a ts) := hr
      clear hr
      go_enter Try.func83, Try.ntmps83
      go_wp2_with fail
      go_loopw [1, 5] (fun l i wr => ∃ (k : Nat) (x : Int), k ≤ ts.length ∧ i = .int .i64 k ∧ l = .int .i64 x ∧ 0 ≤ x ∧ x ≤ m ∧ Hid (x = m - ts.length + k - partsL (ts.take k)) ∧ Below w.heap.size w wr) (fun _ i _ => ts.length - (intOf i).toNat)
      case atStart => exact ⟨0, m - ts.length, Nat.zero_le _, rfl, rfl, by omega, by omega, by show _ = _; simp [partsL], Below.refl _ _⟩
      case round =>
        obtain ⟨k, x, hk, rfl, rfl, hx0, hx1, HX, hbr⟩ := hrel
        by_cases hk' : k < ts.length
        · obtain ⟨b, off, a', c', rfl, hlt, d0, d1, d2, hkr⟩ := RdK.kid (HR.out.on (hbr.mono hhi)) hk'
          have hpg := partsL_get hk'
          have hpt := partsT_eq ts[k]
          have hki : (k : Int) < (ts.length : Int) := by omega
          have hwr := Nat.le_trans hhi hbr.size
          have S := szTerm_of ts[k] a' c' x wr (fun w' h => ih ts[k].kids a' c' hi x w' (by omega) hx0 (by omega) (hkr.on (h.mono hwr)) (Nat.le_trans hwr h.size))
          have HP := partsL_next hk'
          have HR2 := partsL_rest ts (k + 1)
          have hxo := HX.out
          by_cases hle : (partsL ts[k].kids : Int) ≤ x
          · have e : szR ts[k].kids x = x - partsL ts[k].kids := by unfold szR; rw [if_pos hle]
            rw [e] at S
            have hnn : ¬ x - (partsL ts[k].kids : Int) < 0 := by omega
            have HX' : Hid (x - (partsL ts[k].kids : Int) = m - ts.length + ((k + 1 : Nat) : Int) - partsL (ts.take (k + 1))) := by show _ = _; omega
            clear hkr hxo HP HR2 hpt e
            go_wp2_with (go_at_call 34; refine S.mono ?_; rintro e w1 ⟨rfl, hb1⟩; clear S)
            go_roundw
            case rel => exact ⟨k + 1, _, by omega, by go_num, rfl, by omega, by omega, HX', hbr.trans (hb1.mono hbr.size)⟩
            case measure => simp [intOf]; omega
          · have e : szR ts[k].kids x = -1 := by unfold szR; rw [if_neg hle]
            rw [e] at S
            have HS : Hid (szR ts m = -1) := by show _ = _; unfold szR; rw [if_neg (by omega)]
            clear hkr hxo HP HR2 hpt e
            go_wp2_with (go_at_call 34; refine S.mono ?_; rintro e w1 ⟨rfl, hb1⟩; clear S)
            go_ret
            exact ⟨rt_int HS.out.symm, hbr.trans (hb1.mono hbr.size)⟩
        · have HS : Hid (szR ts m = x) := by
            show _ = _
            have hxo := HX.out
            have e : k = ts.length := by omega
            rw [e, List.take_length] at hxo
            unfold szR; rw [if_pos (by omega)]; omega
          go_wp2_with fail
          go_ret
          exact ⟨rt_int HS.out.symm, hbr⟩

theorem szTerm_any (t : TermD) (a : Option Addr) (c hi : Nat) (m : Int) (w : World) (hm0 : 0 ≤ m) (hm : m ≤ 1048576) (hr : RdK w hi a t.kids) (hhi : hi ≤ w.heap.size) :
    Calls Try.prog 34 #[.agg #[.int .i64 t.f, .int .i64 t.v, .slice a t.kids.length c], .int .i64 m] w fun e w' => e = .returned (.int .i64 (szR t.kids m)) ∧ Below w.heap.size w w' :=
  szTerm_of t a c m w (fun w' h => szTermS_any (partsL t.kids) t.kids a c hi m w' (Nat.le_refl _) hm0 hm (hr.on (h.mono hhi)) (Nat.le_trans hhi h.size))
end Go.Proofs.Ytkecnljdloffdaa

