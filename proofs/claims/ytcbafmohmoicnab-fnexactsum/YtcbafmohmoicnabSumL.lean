/- What lies in memory while the law on Sum goes on. Conditions: none. -/
import Derived.Test.YtcbafmohmoicnabIR
import Derived.Test.YtcbafmohmoicnabSumB
import Derived.Test.YtcbafmohmoicnabSumC
namespace Go.Proofs.Ytcbafmohmoicnab
set_option maxRecDepth 100000
open Go.RowKit

theorem rd_own {w : World} {base cap : Nat} {a : Option Addr} {zs : List Int} {n : Nat} (hn : n = zs.length) (h : w.ownsRow base 3 1 (.slice a n cap) n (ints zs)) : Rd w a zs := by
  rcases h.2 with ⟨e, h0⟩ | ⟨g, c, cur, e, _⟩
  · exact .inl (List.length_eq_zero_iff.1 (hn.symm.trans h0))
  · cases e
    exact Rd.own hn h
theorem rdq_own {W : World} {lo g n c : Nat} {T : TypeId} {L : List Nat} {rows : List (List Int)} (hn : n = rows.length) (h : W.ownsRow lo T 1 (.slice (some ⟨g, 0, none⟩) n c) n (cellsQ L rows)) (q : OwnQ W lo g L rows) (hL : L.length = rows.length) : RdQ W (some ⟨g, 0, none⟩) rows := by
  subst hn
  refine .inr ⟨g, 0, rfl, (h.lt g rfl).2, fun i hi => ?_⟩
  have h1 := h.cellAt i (by omega)
  rw [cellsQ_get (by omega) hi] at h1
  rw [Nat.zero_add]
  exact ⟨_, _, h1, Rd.own rfl (q.own i (by omega) hi)⟩

/-- What was wanted, and the answer. -/
structure QG (w : World) (S : List Int) (gW cW H2 : Nat) (aG : Option Addr) (cG : Nat) (G : List Int) (W : World) : Prop where
  bel : Below w.heap.size w W
  hW : W.ownsRow w.heap.size 3 1 (.slice (some ⟨gW, 0, none⟩) S.length cW) S.length (ints S)
  hG : W.ownsRow H2 3 1 (.slice aG S.length cG) S.length (ints G)
  ltW : gW < H2
  h0 : w.heap.size ≤ H2
  h2 : H2 ≤ W.heap.size
theorem QG.on {w : World} {S : List Int} {gW cW H2 : Nat} {aG : Option Addr} {cG : Nat} {G : List Int} {W W' : World} (h : QG w S gW cW H2 aG cG G W) (hb : Below W.heap.size W W') : QG w S gW cW H2 aG cG G W' :=
  ⟨h.bel.trans (hb.mono h.bel.size), own_below h.hW hb, own_below h.hG hb, h.ltW, h.h0, Nat.le_trans h.h2 hb.size⟩
theorem QG.draw {w : World} {S : List Int} {gW cW H2 : Nat} {aG : Option Addr} {cG : Nat} {G : List Int} {W : World} (h : QG w S gW cW H2 aG cG G W) (q : Nat) : QG w S gW cW H2 aG cG G (W.drewN q) := h.on (below_drewN (Below.refl _ _) q)
theorem QG.markG {w : World} {S : List Int} {gW cW H2 : Nat} {aG : Option Addr} {cG : Nat} {G G' : List Int} {W W' : World} (h : QG w S gW cW H2 aG cG G W) (hb : Below H2 W W') (ho : W'.ownsRow H2 3 1 (.slice aG S.length cG) S.length (ints G')) : QG w S gW cW H2 aG cG G' W' :=
  ⟨h.bel.trans (hb.mono h.h0), own_fr h.hW (hb.block gW h.ltW), ho, h.ltW, h.h0, Nat.le_trans h.h2 hb.size⟩
/-- The argument's copy besides. -/
structure QS (w : World) (rows : List (List Int)) (S : List Int) (gW cW H1 gX : Nat) (L : List Nat) (H2 : Nat) (aG : Option Addr) (cG : Nat) (W : World) : Prop where
  g : QG w S gW cW H2 aG cG S W
  hX : W.ownsRow H1 46 1 (.slice (some ⟨gX, 0, none⟩) rows.length rows.length) rows.length (cellsQ L rows)
  qX : OwnQ W H1 gX L rows
  hL : L.length = rows.length
  lt1 : gW < H1
  ltX : gX < H2 ∧ ∀ x ∈ L, x < H2
  h01 : w.heap.size ≤ H1
theorem QS.on {w : World} {rows : List (List Int)} {S : List Int} {gW cW H1 gX : Nat} {L : List Nat} {H2 : Nat} {aG : Option Addr} {cG : Nat} {W W' : World} (h : QS w rows S gW cW H1 gX L H2 aG cG W) (hb : Below W.heap.size W W') : QS w rows S gW cW H1 gX L H2 aG cG W' :=
  ⟨h.g.on hb, own_below h.hX hb, h.qX.on hb, h.hL, h.lt1, h.ltX, h.h01⟩
theorem QS.rX {w : World} {rows : List (List Int)} {S : List Int} {gW cW H1 gX : Nat} {L : List Nat} {H2 : Nat} {aG : Option Addr} {cG : Nat} {W : World} (h : QS w rows S gW cW H1 gX L H2 aG cG W) : RdQ W (some ⟨gX, 0, none⟩) rows := rdq_own rfl h.hX h.qX h.hL
theorem own_ge {w : World} {base n c : Nat} {a : Option Addr} {e : TypeId} {size : Nat} {xs : List Value} (h : w.ownsRow base e size (.slice a n c) n xs) {w' : World} (hs : ∀ k, base ≤ k → k < w.heap.size → w'.heap[k]? = w.heap[k]?) : w'.ownsRow base e size (.slice a n c) n xs := by
  rcases h.2 with ⟨e, h0⟩ | ⟨g, c, cur, e, hg, hh, _⟩
  · exact ⟨h.1, .inl ⟨e, h0⟩⟩
  · cases e
    exact own_fr h (hs g hg (Array.getElem?_eq_some_iff.1 hh).1)
theorem QS.marked {w : World} {rows : List (List Int)} {S : List Int} {gW cW H1 gX : Nat} {L : List Nat} {H2 : Nat} {aG : Option Addr} {cG : Nat} {W W' : World} (h : QS w rows S gW cW H1 gX L H2 aG cG W) (hs : Stay (fun x => x ∉ L) W W') : QG w S gW cW H2 aG cG S W' := by
  have hlo : ∀ k, k < H1 → k ∉ L := fun k hk hm => by have := (h.qX.lt k hm).1; omega
  have hhi : ∀ k, H2 ≤ k → k ∉ L := fun k hk hm => by have := h.ltX.2 k hm; omega
  have hlw := (h.g.hW.lt gW rfl).2
  exact ⟨h.g.bel.trans (hs.below h.g.bel.size (fun k hk => hlo k (Nat.lt_of_lt_of_le hk h.h01))), own_fr h.g.hW (hs.block gW hlw (hlo gW h.lt1)), own_ge h.g.hG (fun k h1 h2 => hs.block k h2 (hhi k h1)), h.g.ltW, h.g.h0, Nat.le_trans h.g.h2 hs.size⟩
theorem QS.start {w w2 w3 w4 : World} {rows : List (List Int)} {S : List Int} {gW cW : Nat} {L : List Nat} {aG : Option Addr} {cG : Nat} (B2 : Below w.heap.size w w2) (hW : w2.ownsRow w.heap.size 3 1 (.slice (some ⟨gW, 0, none⟩) S.length cW) S.length (ints S)) (hL : L.length = rows.length)
    (hX : w3.ownsRow w2.heap.size 46 1 (.slice (some ⟨w2.heap.size, 0, none⟩) rows.length rows.length) rows.length (cellsQ L rows)) (qX : OwnQ w3 w2.heap.size w2.heap.size L rows) (b3 : Below w2.heap.size w2 w3) (hG : w4.ownsRow w3.heap.size 3 1 (.slice aG S.length cG) S.length (ints S)) (b4 : Below w3.heap.size w3 w4) : QS w rows S gW cW w2.heap.size w2.heap.size L w3.heap.size aG cG w4 := by
  have h1 := (hW.lt gW rfl).2
  have h2 : w2.heap.size < w3.heap.size := (hX.lt _ rfl).2
  have h3 := B2.size
  have h4 := b4.size
  exact ⟨⟨(B2.trans (b3.mono B2.size)).trans (b4.mono (by omega)), own_below (own_below hW b3) b4, hG, by omega, by omega, h4⟩, own_below hX b4, qX.on b4, hL, h1, ⟨h2, fun x hx => (qX.lt x hx).2.1⟩, h3⟩

theorem mark_opt (base : Nat) (a : Option Addr) (zs : List Int) (n cap : Nat) (w : World) (hn : n = zs.length) (hown : w.ownsRow base 3 1 (.slice a n cap) n (ints zs)) (hl : n ≤ 1048577) :
    Calls Try.prog 32 #[.slice a n cap, .int .i64 1] w fun e w' => e = .returned (.int .i64 (1 + n)) ∧ w'.ownsRow base 3 1 (.slice a n cap) n (ints (upFrom 1 n)) ∧ Below base w w' := by
  rcases hown.2 with ⟨e, h0⟩ | ⟨g, c, cur, e, hg, _⟩
  · cases e
    clear h0
    go_enter Try.func32, Try.ntmps32
    go_wp2
    refine wp_loop_rounds 1 ?_
    rw [rounds_succ]
    go_wp2
    go_ret
    exact ⟨rfl, ⟨rfl, .inl ⟨rfl, rfl⟩⟩, Below.refl _ _⟩
  · cases e
    refine (mark_any base g zs 1 n cap w hn hown hl (by omega) (by omega)).mono fun e w' ⟨h1, h2, h3⟩ => ⟨h1, h2, ⟨h3.os, h3.tape, h3.output, h3.size, fun k hk => ?_⟩⟩
    by_cases hkw : k < w.heap.size
    · exact h3.block k hkw (fun e => by cases e; omega)
    · exact absurd (Nat.lt_of_lt_of_le hk (Nat.le_of_lt (Nat.lt_of_le_of_lt hg (hown.lt g rfl).2))) hkw
end Go.Proofs.Ytcbafmohmoicnab
