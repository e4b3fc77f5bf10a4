/- What the proof of FnOneForm stands on, part 11 of 11: each piece says what it proves and under which conditions. Conditions: as each piece says. -/
import Derived.Test.YtollijngiioonaaPackOneForm10
import Derived.Test.YtollijngiioonaaProg
/- Short rows of terms: three, two and one of them, read at some place; laid anew. Conditions: none. -/
namespace Go.Proofs.Ytollijngiioonaa
set_option maxRecDepth 100000
open Go.RowKit

/-- What a row says of one of its terms. -/
structure KC (W : World) (hi b o : Nat) (x : TermD) (a : Option Addr) (c : Nat) : Prop where
  c0 : W.cell? ⟨b, o, none⟩ = some (.int .i64 x.f)
  c1 : W.cell? ⟨b, o + 1, none⟩ = some (.int .i64 x.v)
  c2 : W.cell? ⟨b, o + 2, none⟩ = some (.slice a x.kids.length c)
  l : x.kids.length ≤ c
  r : RdK W hi a x.kids
  w : isW x.f ∧ isW x.v
theorem KC.on {W W' : World} {b o : Nat} {x : TermD} {a : Option Addr} {c : Nat} (h : KC W W.heap.size b o x a c) (hb : Below W.heap.size W W') : KC W' W'.heap.size b o x a c :=
  ⟨keepC hb h.c0, keepC hb h.c1, keepC hb h.c2, h.l, (h.r.on hb).mono hb.size, h.w⟩
theorem row1 {W : World} {hi b o : Nat} {x : TermD} {xa : Option Addr} {xc : Nat} (hb : b < hi) (hx : KC W hi b o x xa xc) : RdK W hi (some ⟨b, o, none⟩) [x] := by
  refine .row b o [x] (fun _ => xa) (fun _ => xc) hb ⟨by simp, fun i h => ?_⟩ (fun i h => ?_) (fun i h => ?_) (fun i h => ?_)
  all_goals
    match i, h with
    | 0, _ => first | exact hx.l | exact hx.w | (simp only [Nat.zero_mul, Nat.add_zero, List.getElem_cons_zero]; exact ⟨hx.c0, hx.c1, hx.c2⟩) | exact hx.r
theorem row2 {W : World} {hi b o : Nat} {x y : TermD} {xa ya : Option Addr} {xc yc : Nat} (hb : b < hi) (hx : KC W hi b o x xa xc) (hy : KC W hi b (o + 3) y ya yc) : RdK W hi (some ⟨b, o, none⟩) [x, y] := by
  refine .row b o [x, y] (fun i => match i with | 0 => xa | _ => ya) (fun i => match i with | 0 => xc | _ => yc) hb ⟨by simp, fun i h => ?_⟩ (fun i h => ?_) (fun i h => ?_) (fun i h => ?_)
  all_goals
    match i, h with
    | 0, _ => first | exact hx.l | exact hx.w | (simp only [Nat.zero_mul, Nat.add_zero, List.getElem_cons_zero]; exact ⟨hx.c0, hx.c1, hx.c2⟩) | exact hx.r
    | 1, _ => first | exact hy.l | exact hy.w | (simp only [Nat.one_mul, List.getElem_cons_zero, List.getElem_cons_succ]; exact ⟨hy.c0, hy.c1, hy.c2⟩) | exact hy.r
theorem row3 {W : World} {hi b o : Nat} {x y z : TermD} {xa ya za : Option Addr} {xc yc zc : Nat} (hb : b < hi) (hx : KC W hi b o x xa xc) (hy : KC W hi b (o + 3) y ya yc) (hz : KC W hi b (o + 6) z za zc) : RdK W hi (some ⟨b, o, none⟩) [x, y, z] := by
  refine .row b o [x, y, z] (fun i => match i with | 0 => xa | 1 => ya | _ => za) (fun i => match i with | 0 => xc | 1 => yc | _ => zc) hb ⟨by simp, fun i h => ?_⟩ (fun i h => ?_) (fun i h => ?_) (fun i h => ?_)
  all_goals
    match i, h with
    | 0, _ => first | exact hx.l | exact hx.w | (simp only [Nat.zero_mul, Nat.add_zero, List.getElem_cons_zero]; exact ⟨hx.c0, hx.c1, hx.c2⟩) | exact hx.r
    | 1, _ => first | exact hy.l | exact hy.w | (simp only [Nat.one_mul, List.getElem_cons_zero, List.getElem_cons_succ]; exact ⟨hy.c0, hy.c1, hy.c2⟩) | exact hy.r
    | 2, _ => first | exact hz.l | exact hz.w | (simp only [Nat.reduceMul, List.getElem_cons_zero, List.getElem_cons_succ]; exact ⟨hz.c0, hz.c1, hz.c2⟩) | exact hz.r
/-- Three terms, each as a row says it. -/
theorem kids3 {W : World} {ka : Option Addr} {x y z : TermD} (h : RdK W W.heap.size ka [x, y, z]) : ∃ b o xa xc ya yc za zc, ka = some ⟨b, o, none⟩ ∧ b < W.heap.size ∧ KC W W.heap.size b o x xa xc ∧ KC W W.heap.size b (o + 3) y ya yc ∧ KC W W.heap.size b (o + 6) z za zc := by
  obtain ⟨b, o, xa, xc, rfl, hlt, d0, d1, d2, i0, r0⟩ := RdK.kidc h (i := 0) (by simp)
  obtain ⟨b1, o1, ya, yc, e1, _, d3, d4, d5, i1, r1⟩ := RdK.kidc h (i := 1) (by simp)
  cases e1
  obtain ⟨b2, o2, za, zc, e2, _, d6, d7, d8, i2, r2⟩ := RdK.kidc h (i := 2) (by simp)
  cases e2
  have w0 := h.ints (i := 0) (by simp)
  have w1 := h.ints (i := 1) (by simp)
  have w2 := h.ints (i := 2) (by simp)
  simp only [List.getElem_cons_zero, List.getElem_cons_succ, Nat.zero_mul, Nat.one_mul, Nat.add_zero] at d0 d1 d2 d3 d4 d5 d6 d7 d8 i0 i1 i2 r0 r1 r2 w0 w1 w2
  exact ⟨b, o, xa, xc, ya, yc, za, zc, rfl, hlt, ⟨d0, d1, d2, i0, r0, w0⟩, ⟨d3, d4, d5, i1, r1, w1⟩, ⟨d6, d7, d8, i2, r2, w2⟩⟩
/-- Laid anew, in another order. -/
theorem lay3 {W : World} {x y z : TermD} {xa ya za : Option Addr} {xc yc zc : Nat} {b : Nat} {o1 o2 o3 : Nat} (hx : KC W W.heap.size b o1 x xa xc) (hy : KC W W.heap.size b o2 y ya yc) (hz : KC W W.heap.size b o3 z za zc) (T : TypeId) :
    RdK (W.alloc (.cells #[.int .i64 x.f, .int .i64 x.v, .slice xa x.kids.length xc, .int .i64 y.f, .int .i64 y.v, .slice ya y.kids.length yc, .int .i64 z.f, .int .i64 z.v, .slice za z.kids.length zc] T)) (W.alloc (.cells #[.int .i64 x.f, .int .i64 x.v, .slice xa x.kids.length xc, .int .i64 y.f, .int .i64 y.v, .slice ya y.kids.length yc, .int .i64 z.f, .int .i64 z.v, .slice za z.kids.length zc] T)).heap.size (some ⟨W.heap.size, 0, none⟩) [x, y, z] := by
  have hb : Below W.heap.size W (W.alloc (.cells #[.int .i64 x.f, .int .i64 x.v, .slice xa x.kids.length xc, .int .i64 y.f, .int .i64 y.v, .slice ya y.kids.length yc, .int .i64 z.f, .int .i64 z.v, .slice za z.kids.length zc] T)) := (Below.refl _ _).alloc (Nat.le_refl _) _
  exact row3 (by simp) ⟨by simp [go_sem], by simp [go_sem], by simp [go_sem], hx.l, (hx.r.on hb).mono hb.size, hx.w⟩ ⟨by simp [go_sem], by simp [go_sem], by simp [go_sem], hy.l, (hy.r.on hb).mono hb.size, hy.w⟩ ⟨by simp [go_sem], by simp [go_sem], by simp [go_sem], hz.l, (hz.r.on hb).mono hb.size, hz.w⟩
/-- A list of one term that grew by one. -/
theorem grow2 {b o b' o' : Nat} (W : World) (x y : TermD) (xa ya : Option Addr) (xc yc : Nat) (zr : Array Value) (T : TypeId) (hx : KC W W.heap.size b' o' x xa xc) (hy : KC W W.heap.size b o y ya yc) :
    RdK (W.alloc (.cells (#[.int .i64 x.f, .int .i64 x.v, .slice xa x.kids.length xc] ++ (#[.int .i64 y.f, .int .i64 y.v, .slice ya y.kids.length yc] ++ zr)) T)) (W.alloc (.cells (#[.int .i64 x.f, .int .i64 x.v, .slice xa x.kids.length xc] ++ (#[.int .i64 y.f, .int .i64 y.v, .slice ya y.kids.length yc] ++ zr)) T)).heap.size (some ⟨W.heap.size, 0, none⟩) [x, y] := by
  have hb : Below W.heap.size W (W.alloc (.cells (#[.int .i64 x.f, .int .i64 x.v, .slice xa x.kids.length xc] ++ (#[.int .i64 y.f, .int .i64 y.v, .slice ya y.kids.length yc] ++ zr)) T)) := (Below.refl _ _).alloc (Nat.le_refl _) _
  have e : ∀ j, j < 6 → (#[.int .i64 x.f, .int .i64 x.v, .slice xa x.kids.length xc] ++ (#[.int .i64 y.f, .int .i64 y.v, .slice ya y.kids.length yc] ++ zr) : Array Value)[j]? = (#[.int .i64 x.f, .int .i64 x.v, .slice xa x.kids.length xc, .int .i64 y.f, .int .i64 y.v, .slice ya y.kids.length yc] : Array Value)[j]? := fun j hj => by
    match j, hj with
    | 0, _ => simp [Array.getElem?_append]
    | 1, _ => simp [Array.getElem?_append]
    | 2, _ => simp [Array.getElem?_append]
    | 3, _ => simp [Array.getElem?_append]
    | 4, _ => simp [Array.getElem?_append]
    | 5, _ => simp [Array.getElem?_append]
  have c : ∀ j v, j < 6 → (#[.int .i64 x.f, .int .i64 x.v, .slice xa x.kids.length xc, .int .i64 y.f, .int .i64 y.v, .slice ya y.kids.length yc] : Array Value)[j]? = some v → (W.alloc (.cells (#[.int .i64 x.f, .int .i64 x.v, .slice xa x.kids.length xc] ++ (#[.int .i64 y.f, .int .i64 y.v, .slice ya y.kids.length yc] ++ zr)) T)).cell? ⟨W.heap.size, j, none⟩ = some v := fun j v hj hv => by
    have := (e j hj).trans hv
    simpa [go_sem] using this
  exact row2 (by simp) ⟨c 0 _ (by omega) rfl, c 1 _ (by omega) rfl, c 2 _ (by omega) rfl, hx.l, (hx.r.on hb).mono hb.size, hx.w⟩ ⟨c 3 _ (by omega) rfl, c 4 _ (by omega) rfl, c 5 _ (by omega) rfl, hy.l, (hy.r.on hb).mono hb.size, hy.w⟩
/-- A list of nothing. -/
def SL0 (_ : World) (s : Value) : Prop := ∃ q c, s = .slice (some q) 0 c
theorem SL0.on {W W' : World} {s : Value} (h : SL0 W s) (_ : Below W.heap.size W W') : SL0 W' s := h
/-- A list of one term, in a block of its own. -/
def KB (W : World) (s : Value) (x : TermD) (xa : Option Addr) (xc : Nat) : Prop := ∃ B, s = .slice (some ⟨B, 0, none⟩) 1 1 ∧ B < W.heap.size ∧ KC W W.heap.size B 0 x xa xc
theorem KB.on {W W' : World} {s : Value} {x : TermD} {xa : Option Addr} {xc : Nat} (h : KB W s x xa xc) (hb : Below W.heap.size W W') : KB W' s x xa xc := by
  obtain ⟨B, e, hl, hk⟩ := h
  exact ⟨B, e, Nat.lt_of_lt_of_le hl hb.size, hk.on hb⟩
/-- A list of terms. -/
def KL (W : World) (s : Value) (ts : List TermD) : Prop := ∃ B c, s = .slice (some ⟨B, 0, none⟩) ts.length c ∧ RdK W W.heap.size (some ⟨B, 0, none⟩) ts ∧ ts.length ≤ c
theorem KL.on {W W' : World} {s : Value} {ts : List TermD} (h : KL W s ts) (hb : Below W.heap.size W W') : KL W' s ts := by
  obtain ⟨B, c, e, hr, hc⟩ := h
  exact ⟨B, c, e, (hr.on hb).mono hb.size, hc⟩
end Go.Proofs.Ytollijngiioonaa

/- How a code (a list of bytes) that came in as an argument is opened. Conditions: none. -/
namespace Go.Proofs.Ytollijngiioonaa
set_option maxRecDepth 100000
open Go.RowKit Go.ChangeShapes Go.WideShapes Go.ChangeAt

theorem code_add (b off j : Nat) : (⟨b, off, none⟩ : Addr).add j = ⟨b, off + j, none⟩ := by
  by_cases h : j = 0 <;> simp [Addr.add, h]

theorem open_code {H : Type} {enc : TypeId × Value → H} {W : World} {base : Nat} {spare : Nat → Bool} {held : Bool} {v : Value} {d : DataW H} {p : List MemPlace} {a : Option Addr} {len cap : Nat} (hv : v = .slice a len cap)
    (h : DataW.Trod enc Try.prog W base spare held 22 v d p) : ∃ bs : List Int, len = bs.length ∧ len ≤ maxLen ∧ ∀ c, W.heap.size ≤ c → RdB W c a bs := by
  subst hv
  obtain ⟨fuel, hf⟩ := h
  rcases open_ints Try.underlying22 Try.underlying5 (by kernel_rfl) hf with ⟨hcs, _⟩ | ⟨x, l, c, zs, hcs, _, hl, hm, hz, _, hc, hw⟩
  · simp [Value.cells] at hcs
    obtain ⟨rfl, rfl, rfl⟩ := hcs
    exact ⟨[], rfl, Nat.zero_le _, fun c _ => ⟨fun z hz => by simp at hz, .inl rfl⟩⟩
  · simp [Value.cells] at hcs
    obtain ⟨rfl, rfl, rfl⟩ := hcs
    have hz' : len ≤ zs.length := by rw [hz]; split <;> omega
    have hlen : (zs.take len).length = len := by rw [List.length_take]; omega
    refine ⟨zs.take len, hlen.symm, by omega, fun c hcc => ⟨fun z hz' => bounds_u8 (hw z (List.mem_of_mem_take hz')), ?_⟩⟩
    by_cases h0 : len = 0
    · subst h0; exact .inl (by simp)
    · obtain ⟨b, off, spot⟩ := x
      have hc0 := hc 0 (by omega)
      have hspot : spot = none := by simpa [Addr.add] using World.cell?_spot hc0
      subst hspot
      have h1 : W.cell? ⟨b, off, none⟩ = some (.int .u8 (zs.getD 0 0)) := by simpa [Addr.add] using hc0
      have hb := World.block_lt_of_cell? _ _ h1
      simp at hb
      refine .inr ⟨b, off, rfl, hb, by omega, fun i hi => ?_⟩
      rw [hlen] at hi
      have h2 := hc i (by omega)
      rw [code_add] at h2
      rw [h2]
      simp [hi]
end Go.Proofs.Ytollijngiioonaa

