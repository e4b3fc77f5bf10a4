/- How a code (a list of bytes) that came in as an argument is opened. Conditions: none. -/
import Derived.Test.YtpcimneinnanbaaDoorProg
import Derived.Test.YtpcimneinnanbaaDoorDrawA
namespace Go.Proofs.YtpcimneinnanbaaDoor
open Go.RowKit Go.ChangeShapes Go.WideShapes Go.ChangeAt

theorem code_add (b off j : Nat) : (⟨b, off, none⟩ : Addr).add j = ⟨b, off + j, none⟩ := by
  by_cases h : j = 0 <;> simp [Addr.add, h]

theorem open_code {H : Type} {enc : TypeId × Value → H} {W : World} {base : Nat} {spare : Nat → Bool} {held : Bool} {v : Value} {d : DataW H} {p : List MemPlace} {a : Option Addr} {len cap : Nat} (hv : v = .slice a len cap)
    (h : DataW.Trod enc Tryd.prog W base spare held 22 v d p) : ∃ bs : List Int, len = bs.length ∧ len ≤ maxLen ∧ ∀ c, W.heap.size ≤ c → RdB W c a bs := by
  subst hv
  obtain ⟨fuel, hf⟩ := h
  rcases open_ints Tryd.underlying22 Tryd.underlying5 (by kernel_rfl) hf with ⟨hcs, _⟩ | ⟨x, l, c, zs, hcs, _, hl, hm, hz, _, hc, hw⟩
  · simp [Value.cells] at hcs
    obtain ⟨rfl, rfl, rfl⟩ := hcs
    exact ⟨[], rfl, Nat.zero_le _, fun c _ => ⟨fun z hz => by simp at hz, .inl rfl⟩⟩
  · simp [Value.cells] at hcs
    obtain ⟨rfl, rfl, rfl⟩ := hcs
    have hz' : len ≤ zs.length := by rw [hz]; split <;> omega
    have hlen : (zs.take len).length = len := by rw [List.length_take]; omega
    refine ⟨zs.take len, hlen.symm, by omega, fun c hcc => ⟨fun z hz' => bounds_u8 (hw z (List.mem_of_mem_take hz')), ?_⟩⟩
    by_cases h0 : len = 0
    · subst h0; exact .inl (by simp)
    · obtain ⟨b, off, spot⟩ := x
      have hc0 := hc 0 (by omega)
      have hspot : spot = none := by simpa [Addr.add] using World.cell?_spot hc0
      subst hspot
      have h1 : W.cell? ⟨b, off, none⟩ = some (.int .u8 (zs.getD 0 0)) := by simpa [Addr.add] using hc0
      have hb := World.block_lt_of_cell? _ _ h1
      simp at hb
      refine .inr ⟨b, off, rfl, hb, by omega, fun i hi => ?_⟩
      rw [hlen] at hi
      have h2 := hc i (by omega)
      rw [code_add] at h2
      rw [h2]
      simp [hi]
end Go.Proofs.YtpcimneinnanbaaDoor
