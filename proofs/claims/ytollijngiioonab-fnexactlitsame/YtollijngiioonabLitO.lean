/- An equation that holds, or does not, that came in as an argument, opened. Conditions: none. -/
import Derived.Test.YtollijngiioonabLitA
namespace Go.Proofs.Ytollijngiioonab
set_option maxRecDepth 100000
open Go.RowKit Go.ChangeShapes Go.WideShapes Go.ChangeAt

theorem cellsLit : Try.prog.cellsOf 26 = 7 := by kernel_rfl
theorem cellsBool : Try.prog.cellsOf 4 = 1 := by kernel_rfl
theorem lit_trod {H : Type} {enc : TypeId × Value → H} {W : World} {base : Nat} {spare : Nat → Bool} {held : Bool} {fuel : Nat} {cs : List Value} {x : DataW H × List MemPlace}
    (h : DataW.trod enc Try.prog W base spare held fuel 26 cs = some x) :
    ∃ (u : LitD) (a1 : Option Addr) (c1 : Nat) (a2 : Option Addr) (c2 : Nat), cs = [.bool u.p, .int .i64 u.l.f, .int .i64 u.l.v, .slice a1 u.l.kids.length c1, .int .i64 u.r.f, .int .i64 u.r.v, .slice a2 u.r.kids.length c2] ∧ (isW u.l.f ∧ isW u.l.v) ∧ (isW u.r.f ∧ isW u.r.v) ∧ (u.l.kids.length ≤ c1 ∧ u.r.kids.length ≤ c2) ∧ RdK W W.heap.size a1 u.l.kids ∧ RdK W W.heap.size a2 u.r.kids := by
  obtain ⟨xs, m, rfl, rfl, hlen, hxl, hf⟩ := DataW.trod_struct Try.underlying26 h
  rw [cellsLit] at hlen
  match cs, hlen with
  | [c0, c1, c2, c3, c4, c5, c6], _ =>
    match xs, hxl with
    | [y0, y1, y2], _ =>
      have h0 : DataW.trod enc Try.prog W base spare held m 4 [c0] = some y0 := by have := hf 0 _ rfl; simpa [cellsBool] using this
      have h1 : DataW.trod enc Try.prog W base spare held m 24 [c1, c2, c3] = some y1 := by have := hf 1 _ rfl; simpa [cellsBool, cellsT] using this
      have h2 : DataW.trod enc Try.prog W base spare held m 24 [c4, c5, c6] = some y2 := by have := hf 2 _ rfl; simpa [cellsBool, cellsT] using this
      obtain ⟨z0, e0, _⟩ := DataW.trod_bool Try.underlying4 h0
      obtain ⟨t, a1, d1, e1, q1, q2, q3, q4⟩ := term_trod h1 (fun m _ cs x hx => kids_trod m cs x hx)
      obtain ⟨t', a2, d2, e2, p1, p2, p3, p4⟩ := term_trod h2 (fun m _ cs x hx => kids_trod m cs x hx)
      simp at e0 e1 e2
      obtain ⟨e1, e3, e4⟩ := e1
      obtain ⟨e2, e5, e6⟩ := e2
      subst e0 e1 e2 e3 e4 e5 e6
      exact ⟨⟨z0, t, t'⟩, a1, d1, a2, d2, rfl, ⟨q1, q2⟩, ⟨p1, p2⟩, ⟨q3.2, p3.2⟩, q4, p4⟩
theorem open_lit {H : Type} {enc : TypeId × Value → H} {W : World} {base : Nat} {spare : Nat → Bool} {held : Bool} {v : Value} {d : DataW H} {p : List MemPlace} {cs : Array Value} (hv : v = .agg cs)
    (h : DataW.Trod enc Try.prog W base spare held 26 v d p) : ∃ (x : LitD) (a1 : Option Addr) (c1 : Nat) (a2 : Option Addr) (c2 : Nat), v = litV x a1 c1 a2 c2 ∧ (isW x.l.f ∧ isW x.l.v) ∧ (isW x.r.f ∧ isW x.r.v) ∧ (x.l.kids.length ≤ c1 ∧ x.r.kids.length ≤ c2) ∧ RdK W W.heap.size a1 x.l.kids ∧ RdK W W.heap.size a2 x.r.kids := by
  subst hv
  obtain ⟨fuel, hf⟩ := h
  obtain ⟨x, a1, c1, a2, c2, e, r⟩ := lit_trod hf
  refine ⟨x, a1, c1, a2, c2, ?_, r⟩
  have e2 : cs.toList = [.bool x.p, .int .i64 x.l.f, .int .i64 x.l.v, .slice a1 x.l.kids.length c1, .int .i64 x.r.f, .int .i64 x.r.v, .slice a2 x.r.kids.length c2] := by simpa [Value.cells] using e
  unfold litV
  rw [show cs = #[.bool x.p, .int .i64 x.l.f, .int .i64 x.l.v, .slice a1 x.l.kids.length c1, .int .i64 x.r.f, .int .i64 x.r.v, .slice a2 x.r.kids.length c2] from Array.toList_inj.1 e2]
end Go.Proofs.Ytollijngiioonab
