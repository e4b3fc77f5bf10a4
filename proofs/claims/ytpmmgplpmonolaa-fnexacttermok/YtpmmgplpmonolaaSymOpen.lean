/- How a list of functions that came in as an argument is opened: its cells, and that each part is in its bounds. Conditions: none. -/
import Derived.Test.YtpmmgplpmonolaaProg
import Derived.Test.YtpmmgplpmonolaaSymA
import Derived.Deep.Slices
namespace Go.Proofs.Ytpmmgplpmonolaa
set_option maxRecDepth 100000
open Go.RowKit Go.ChangeShapes Go.WideShapes Go.ChangeAt

theorem cells38 : Try.prog.cellsOf 95 = 3 := by kernel_rfl
theorem cells9 : Try.prog.cellsOf 9 = 1 := by kernel_rfl
theorem cells3i : Try.prog.cellsOf 3 = 1 := by kernel_rfl
theorem cells4 : Try.prog.cellsOf 4 = 1 := by kernel_rfl

set_option maxRecDepth 100000 in
theorem sym_of_trod {H : Type} {enc : TypeId × Value → H} {w : World} {base : Nat} {spare : Nat → Bool} {held : Bool} {n : Nat} {cs : List Value} {x : DataW H × List MemPlace}
    (h : DataW.trod enc Try.prog w base spare held n 95 cs = some x) : ∃ s : SymD, cs = symC s ∧ s.name.size ≤ maxLen ∧ (Lit.int .i64 s.ar).wf = true := by
  obtain ⟨xs, m, rfl, rfl, hlen, hxl, hf⟩ := DataW.trod_struct Try.underlying95 h
  rw [cells38] at hlen
  match cs, hlen with
  | [c0, c1, c2], _ =>
    match xs, hxl with
    | [y0, y1, y2], _ =>
      have h0 : DataW.trod enc Try.prog w base spare held m 9 [c0] = some y0 := by have := hf 0 _ rfl; simpa [cells9] using this
      have h1 : DataW.trod enc Try.prog w base spare held m 3 [c1] = some y1 := by have := hf 1 _ rfl; simpa [cells3i] using this
      have h2 : DataW.trod enc Try.prog w base spare held m 4 [c2] = some y2 := by have := hf 2 _ rfl; simpa [cells4] using this
      obtain ⟨s, e0, _, hs⟩ := DataW.trod_string Try.underlying9 h0
      obtain ⟨z, e1, _, hz⟩ := DataW.trod_int Try.underlying3 h1
      obtain ⟨b, e2, _⟩ := DataW.trod_bool Try.underlying4 h2
      simp at e0 e1 e2
      subst e0 e1 e2
      exact ⟨⟨s, z, b⟩, rfl, hs, hz⟩

set_option maxRecDepth 100000 in
theorem open_syms {H : Type} {enc : TypeId × Value → H} {W : World} {base : Nat} {spare : Nat → Bool} {held : Bool} {v : Value} {d : DataW H} {p : List MemPlace} {a : Option Addr} {len cap : Nat} (hv : v = .slice a len cap)
    (h : DataW.Trod enc Try.prog W base spare held 45 v d p) : ∃ ss : List SymD, len = ss.length ∧ len ≤ maxLen ∧ RdS W a ss ∧ ∀ s ∈ ss, s.name.size ≤ maxLen ∧ (Lit.int .i64 s.ar).wf = true := by
  subst hv
  obtain ⟨fuel, hf⟩ := h
  rcases Deep.open_slice Try.underlying45 hf with ⟨hcs, _⟩ | ⟨x, l, c, m, n, Dd, Pl, hcs, _, hl, hm, hmm, _, hel⟩
  · simp [Value.cells] at hcs
    obtain ⟨rfl, rfl, rfl⟩ := hcs
    exact ⟨[], rfl, Nat.zero_le _, .inl rfl, fun s hs => by simp at hs⟩
  · simp [Value.cells] at hcs
    obtain ⟨rfl, rfl, rfl⟩ := hcs
    rw [cells38] at hel
    have hlm : len ≤ m := by rw [hmm]; split <;> omega
    have hall : ∀ i, i < len → ∃ s : SymD, W.cells? base (x.add (i * 3)) 3 = some (symC s) ∧ s.name.size ≤ maxLen ∧ (Lit.int .i64 s.ar).wf = true := by
      intro i hi
      obtain ⟨cs', h1, h2⟩ := hel i (by omega)
      obtain ⟨s, rfl, h3, h4⟩ := sym_of_trod h2
      exact ⟨s, h1, h3, h4⟩
    obtain ⟨F, hF⟩ := Deep.choose_lt hall
    refine ⟨(List.range len).map F, by simp, by omega, ?_, ?_⟩
    · by_cases h0 : len = 0
      · subst h0; exact .inl rfl
      · have hcell : ∀ i, (hi : i < len) → ∀ j, j < 3 → W.cell? ((x.add (i * 3)).add j) = (symC (F i))[j]? := fun i hi j hj => (World.cells?_some (hF i hi).1).2.2 j hj
        obtain ⟨b, off, spot⟩ := x
        have hc0 := hcell 0 (by omega) 0 (by omega)
        have hspot : spot = none := by
          have h1 : W.cell? (⟨b, off, spot⟩ : Addr) = some (.string (F 0).name) := by simpa [Addr.add, symC] using hc0
          simpa using World.cell?_spot h1
        subst hspot
        have hadd : ∀ i j, ((⟨b, off, none⟩ : Addr).add i).add j = ⟨b, off + i + j, none⟩ := by
          intro i j
          by_cases h1 : i = 0 <;> by_cases h2 : j = 0 <;> simp [Addr.add, h1, h2, Nat.add_assoc]
        have hb : b < W.heap.size := by
          have h1 : W.cell? (⟨b, off, none⟩ : Addr) = some (.string (F 0).name) := by simpa [Addr.add, symC] using hc0
          exact World.block_lt_of_cell? _ _ h1
        refine .inr ⟨b, off, rfl, hb, fun i hi => ?_⟩
        simp at hi
        have g0 := hcell i hi 0 (by omega)
        have g1 := hcell i hi 1 (by omega)
        have g2 := hcell i hi 2 (by omega)
        rw [hadd] at g0 g1 g2
        simp [symC] at g0 g1 g2
        simp [g0, g1, g2]
    · intro s hs
      simp at hs
      obtain ⟨i, hi, rfl⟩ := hs
      exact ⟨(hF i hi).2.1, (hF i hi).2.2⟩
end Go.Proofs.Ytpmmgplpmonolaa
