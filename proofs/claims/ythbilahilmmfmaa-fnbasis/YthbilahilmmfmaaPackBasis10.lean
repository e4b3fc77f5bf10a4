/- What the proof of FnBasis stands on, part 10 of 10: each piece says what it proves and under which conditions. Conditions: as each piece says. -/
import Derived.Test.YthbilahilmmfmaaPackBasis9
import Derived.Test.YthbilahilmmfmaaProg
/- What the law of the basis asks, as plain mathematics. Conditions: as each says. -/
namespace Go.Proofs.Ythbilahilmmfmaa
set_option maxRecDepth 100000
open Go.RowKit

theorem basP_bas {a b : List Int} (h : (basP a b).2 = true) : (basP a b).1 = basL a b ∧ fineB a = true ∧ fineB b = true := by
  unfold basP at h ⊢
  by_cases hf : (fineB a && fineB b) = true
  · rw [if_pos hf] at h ⊢
    by_cases hl : 60 < (basL a b).length
    · rw [if_pos hl] at h; cases h
    · rw [if_neg hl]
      simp only [Bool.and_eq_true] at hf
      exact ⟨rfl, hf.1, hf.2⟩
  · rw [if_neg hf] at h; cases h
theorem okRow_solv {a b r : List Int} (h : OkRow a b r) : solvB a b r = true := by
  obtain ⟨h1, h2, h3⟩ := h
  unfold solvB
  rw [decide_eq_true h1, decide_eq_true h3, Bool.true_and, Bool.and_true]
  exact List.all_eq_true.2 (fun v hv => by simpa using (h2 v hv).1)
/-- None of a basis is beneath another one of it, or itself. -/
theorem bas_apart {a b : List Int} {R : List (List Int)} (hR : R = basL a b) : ∀ x ∈ R, ∀ y ∈ R, leastB x y = false := by
  subst hR
  intro x hx y hy
  have h1 := (List.mem_filter.1 (show x ∈ (solL a b).filter (minB (solL a b)) from hx)).1
  have h2 := (List.mem_filter.1 (show y ∈ (solL a b).filter (minB (solL a b)) from hy)).2
  unfold minB at h2
  simp only [Bool.not_eq_true'] at h2
  have := List.any_eq_false.1 h2 x h1
  simpa using this
theorem dot_cut {a x : List Int} (h : a.length ≤ x.length) : dotL a (x.take a.length) = dotL a x := by
  rw [dot_F a x (fun i => x[i]?.getD 0) h (fun i h1 h2 => by rw [List.getElem?_eq_getElem h2, Option.getD_some]), dot_F a (x.take a.length) (fun i => x[i]?.getD 0) (by simp; omega) (fun i h1 h2 => by rw [List.getElem_take, List.getElem?_eq_getElem (by omega), Option.getD_some])]
/-- What solves and has none of the basis beneath it is all 0. -/
theorem solv_zero {a b : List Int} {R : List (List Int)} (hR : R = basL a b) (ha : fineB a = true) (hb : fineB b = true) {x : List Int} (hs : solvB a b x = true) (hn : benE R x = false) : zB x = true := by
  unfold solvB at hs
  simp only [Bool.and_eq_true, decide_eq_true_eq, List.all_eq_true] at hs
  obtain ⟨h1, h2, h3⟩ := hs
  cases hz : zB x with
  | true => rfl
  | false =>
    have e : x = x.take a.length ++ x.drop a.length := (List.take_append_drop _ _).symm
    obtain ⟨r, hr, hv⟩ := basis_beneath (a := a) (b := b) (x := x.take a.length) (y := x.drop a.length) ha hb (by simp; omega) (by simp; omega) (fun v hv => h2 v (List.mem_of_mem_take hv)) (fun v hv => h2 v (List.mem_of_mem_drop hv)) (by rw [dot_cut (by omega)]; exact h3) (by rw [← e]; exact hz)
    rw [← e] at hv
    have : benE R x = true := by
      unfold benE
      rw [hR]
      exact List.any_eq_true.2 ⟨r, hr, by rcases hv with h | h <;> simp [h]⟩
    rw [this] at hn
    cases hn
theorem quiet_at0 {P : Program} {f : FuncId} {args : Array Value} {w : World} {n : Nat} {v : Value}
    (h : Calls P f args (w.drewN n) fun e w' => e = .returned v ∧ ∃ m, w' = (w.drewN n).drewN m) : Calls P f args (w.drewN n) fun e w'' => e = .returned v ∧ ∃ m, w'' = w.drewN m :=
  h.mono fun _ _ ⟨he, m, hm⟩ => ⟨he, n + m, by rw [hm, World.drewN_drewN]⟩
/-- A list of lists, each with the room that it tells. -/
def RdC (w : World) (a : Option Addr) (rows : List (List Int)) : Prop :=
  rows = [] ∨ ∃ b off, a = some ⟨b, off, none⟩ ∧ b < w.heap.size ∧ ∀ i, (h : i < rows.length) → ∃ ai ci, w.cell? ⟨b, off + i, none⟩ = some (.slice ai rows[i].length ci) ∧ Rd w ai rows[i] ∧ rows[i].length ≤ ci
theorem RdC.below {w w' : World} {a : Option Addr} {rows : List (List Int)} (h : RdC w a rows) (hb : Below w.heap.size w w') : RdC w' a rows := by
  rcases h with h | ⟨b, off, rfl, hlt, hc⟩
  · exact .inl h
  · refine .inr ⟨b, off, rfl, Nat.lt_of_lt_of_le hlt hb.size, fun i hi => ?_⟩
    obtain ⟨ai, ci, h1, h2, h3⟩ := hc i hi
    exact ⟨ai, ci, keepC hb h1, h2.below hb, h3⟩
theorem RdC.rd {w : World} {a : Option Addr} {rows : List (List Int)} (h : RdC w a rows) : RdQ w a rows := by
  rcases h with h | ⟨b, off, rfl, hlt, hc⟩
  · exact .inl h
  · exact .inr ⟨b, off, rfl, hlt, fun i hi => by obtain ⟨ai, ci, h1, h2, h3⟩ := hc i hi; exact ⟨ai, ci, h1, h2⟩⟩
theorem RdC.get {w : World} {a : Option Addr} {rows : List (List Int)} (h : RdC w a rows) {k : Nat} (hk : k < rows.length) : ∃ b off ai ci, a = some ⟨b, off, none⟩ ∧ w.cell? ⟨b, off + k, none⟩ = some (.slice ai rows[k].length ci) ∧ Rd w ai rows[k] ∧ rows[k].length ≤ ci := by
  rcases h with h | ⟨b, off, rfl, hlt, hc⟩
  · rw [h] at hk; simp at hk
  · obtain ⟨ai, ci, h1, h2, h3⟩ := hc k hk
    exact ⟨b, off, ai, ci, rfl, h1, h2, h3⟩
theorem li_rdc {B : Nat} {S : Nat → Prop} {W : World} {la : Option Addr} {c : Nat} {L : List (List Int)} (h : LI B S W (.slice la L.length c) L) : RdC W la L := by
  obtain ⟨gs, h1, h2⟩ := h.own
  have hlen := h2.len
  by_cases hL : L = []
  · exact .inl hL
  · rcases h1.2 with ⟨_, e0⟩ | ⟨g, cap, cur, e, _, hh, _⟩
    · exact absurd (List.length_eq_zero_iff.1 e0) hL
    · cases e
      refine .inr ⟨g, 0, rfl, (h1.lt g rfl).2, fun i hi => ?_⟩
      have hg : i < gs.length := by omega
      have c0 := h1.cellAt i (by omega)
      rw [cellsG_get hg hi] at c0
      have ho := h2.own i hg hi
      exact ⟨some ⟨gs[i].1, 0, none⟩, gs[i].2, by rw [Nat.zero_add]; exact c0, Rd.own rfl ho, own_capS ho⟩
/-- While the law goes on: what was drawn, and both answers. -/
structure BN (w : World) (g1 : Nat) (xs : List Int) (g2 : Nat) (ys : List Int) (aG aW : Option Addr) (R : List (List Int)) (W : World) : Prop where
  bel : Below w.heap.size w W
  rx : Rd W (some ⟨g1, 0, none⟩) xs
  ry : Rd W (some ⟨g2, 0, none⟩) ys
  rg : RdC W aG R
  rw' : RdQ W aW R
theorem BN.on {w : World} {g1 : Nat} {xs : List Int} {g2 : Nat} {ys : List Int} {aG aW : Option Addr} {R : List (List Int)} {W W' : World} (h : BN w g1 xs g2 ys aG aW R W) (hb : Below W.heap.size W W') : BN w g1 xs g2 ys aG aW R W' :=
  ⟨h.bel.trans (hb.mono h.bel.size), h.rx.below hb, h.ry.below hb, h.rg.below hb, h.rw'.below hb⟩
end Go.Proofs.Ythbilahilmmfmaa

/- How a code (a list of bytes) that came in as an argument is opened. Conditions: none. -/
namespace Go.Proofs.Ythbilahilmmfmaa
set_option maxRecDepth 100000
open Go.RowKit Go.ChangeShapes Go.WideShapes Go.ChangeAt

theorem code_add (b off j : Nat) : (⟨b, off, none⟩ : Addr).add j = ⟨b, off + j, none⟩ := by
  by_cases h : j = 0 <;> simp [Addr.add, h]

theorem open_code {H : Type} {enc : TypeId × Value → H} {W : World} {base : Nat} {spare : Nat → Bool} {held : Bool} {v : Value} {d : DataW H} {p : List MemPlace} {a : Option Addr} {len cap : Nat} (hv : v = .slice a len cap)
    (h : DataW.Trod enc Try.prog W base spare held 22 v d p) : ∃ bs : List Int, len = bs.length ∧ len ≤ maxLen ∧ ∀ c, W.heap.size ≤ c → RdB W c a bs := by
  subst hv
  obtain ⟨fuel, hf⟩ := h
  rcases open_ints Try.underlying22 Try.underlying5 (by kernel_rfl) hf with ⟨hcs, _⟩ | ⟨x, l, c, zs, hcs, _, hl, hm, hz, _, hc, hw⟩
  · simp [Value.cells] at hcs
    obtain ⟨rfl, rfl, rfl⟩ := hcs
    exact ⟨[], rfl, Nat.zero_le _, fun c _ => ⟨fun z hz => by simp at hz, .inl rfl⟩⟩
  · simp [Value.cells] at hcs
    obtain ⟨rfl, rfl, rfl⟩ := hcs
    have hz' : len ≤ zs.length := by rw [hz]; split <;> omega
    have hlen : (zs.take len).length = len := by rw [List.length_take]; omega
    refine ⟨zs.take len, hlen.symm, by omega, fun c hcc => ⟨fun z hz' => bounds_u8 (hw z (List.mem_of_mem_take hz')), ?_⟩⟩
    by_cases h0 : len = 0
    · subst h0; exact .inl (by simp)
    · obtain ⟨b, off, spot⟩ := x
      have hc0 := hc 0 (by omega)
      have hspot : spot = none := by simpa [Addr.add] using World.cell?_spot hc0
      subst hspot
      have h1 : W.cell? ⟨b, off, none⟩ = some (.int .u8 (zs.getD 0 0)) := by simpa [Addr.add] using hc0
      have hb := World.block_lt_of_cell? _ _ h1
      simp at hb
      refine .inr ⟨b, off, rfl, hb, by omega, fun i hi => ?_⟩
      rw [hlen] at hi
      have h2 := hc i (by omega)
      rw [code_add] at h2
      rw [h2]
      simp [hi]
end Go.Proofs.Ythbilahilmmfmaa

