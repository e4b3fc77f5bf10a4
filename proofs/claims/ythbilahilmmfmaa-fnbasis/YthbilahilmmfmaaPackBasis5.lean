/- What the proof of FnBasis stands on, part 5 of 10: each piece says what it proves and under which conditions. Conditions: as each piece says. -/
import Derived.Test.YthbilahilmmfmaaPackBasis4
import Derived.Test.YthbilahilmmfmaaProg
import Derived.ChangeSlices
import Derived.Stop.RegionWithIn
import Derived.Sort.CutIn
import Derived.BigQuiet
import Derived.Deep.QuietTactic
import Derived.OpenShut
import Derived.ProofKit
import Derived.WalkKit
import Derived.WalkSmall
/- Lists of numbers as arguments of a law: opened, and copied. Conditions: each list has at most 1048577 numbers. -/
namespace Go.Proofs.Ythbilahilmmfmaa
set_option maxRecDepth 100000
open Go.RowKit Go.ChangeShapes Go.WideShapes Go.ChangeAt

/-- A slice of numbers that came in: nil, or a row of 'cap' cells that hold 'zs'. -/
def IsRow (k : IntKind) (w : World) (a : Option Addr) (len cap : Nat) (zs : List Int) : Prop :=
  (a = none ∧ len = 0 ∧ cap = 0 ∧ zs = []) ∨
  ∃ x, a = some x ∧ len ≤ cap ∧ cap ≤ maxLen ∧ zs.length = cap ∧ (∀ i, i < zs.length → w.cell? (x.add i) = some (.int k (zs.getD i 0))) ∧ ∀ n ∈ zs, (Lit.int k n).wf = true

theorem rd_of {w : World} {a : Option Addr} {len cap : Nat} {zs : List Int} (h : IsRow .i64 w a len cap zs) : Rd w a (zs.take len) ∧ len = (zs.take len).length ∧ len ≤ maxLen ∧ ∀ x ∈ zs.take len, isW x := by
  rcases h with ⟨rfl, rfl, rfl, rfl⟩ | ⟨x, rfl, hl, hm, hz, hc, hw⟩
  · exact ⟨.inl rfl, rfl, Nat.zero_le _, fun x hx => by simp at hx⟩
  · have hlen : (zs.take len).length = len := by rw [List.length_take]; omega
    refine ⟨?_, hlen.symm, by omega, fun x hx => isW_of (hw x (List.mem_of_mem_take hx))⟩
    by_cases h0 : len = 0
    · subst h0; exact .inl (by simp)
    · obtain ⟨b, off, spot⟩ := x
      have hc0 := hc 0 (by omega)
      have hspot : spot = none := by simpa [Addr.add] using World.cell?_spot hc0
      subst hspot
      refine .inr ⟨b, off, rfl, ?_, fun i hi => ?_⟩
      · have h1 : w.cell? ⟨b, off, none⟩ = some (.int .i64 (zs.getD 0 0)) := by simpa [Addr.add] using hc0
        exact World.block_lt_of_cell? _ _ h1
      · rw [hlen] at hi
        have h2 := hc i (by omega)
        have e : (⟨b, off, none⟩ : Addr).add i = ⟨b, off + i, none⟩ := by
          by_cases hi0 : i = 0 <;> simp [Addr.add, hi0]
        rw [e] at h2
        rw [h2]
        simp [hi]

/-- An argument, opened. -/
theorem open_introw {H : Type} {enc : TypeId × Value → H} {W : World} {base : Nat} {held : Bool} {v : Value} {d : DataW H} {p : List MemPlace} {a : Option Addr} {len cap : Nat} (hv : v = .slice a len cap)
    (h : DataW.Trod enc Try.prog W base (fun _ => true) held 24 v d p) : ∃ zs : List Int, len = zs.length ∧ len ≤ maxLen ∧ Rd W a zs ∧ ∀ x ∈ zs, isW x := by
  subst hv
  obtain ⟨z0, w0⟩ : ∃ zs, IsRow .i64 W a len cap zs := by
    obtain ⟨fuel, hf⟩ := h
    rcases open_ints Try.underlying24 Try.underlying3 (by kernel_rfl) hf with ⟨hcs, _⟩ | ⟨x, l, c, zs, hcs, _, hl, hm, hz, _, hcell, hwz⟩
    · simp [Value.cells] at hcs
      obtain ⟨rfl, rfl, rfl⟩ := hcs
      exact ⟨[], .inl ⟨rfl, rfl, rfl, rfl⟩⟩
    · simp [Value.cells] at hcs
      obtain ⟨rfl, rfl, rfl⟩ := hcs
      exact ⟨zs, .inr ⟨_, rfl, hl, hm, by simpa using hz, hcell, hwz⟩⟩
  obtain ⟨h1, h2, h3, h4⟩ := rd_of w0
  exact ⟨_, h2, h3, h1, h4⟩

/-- A row of one's own at another bound. -/
theorem own_base {w : World} {base base' : Nat} {e : TypeId} {size g n c : Nat} {xs : List Value} (h : w.ownsRow base e size (.slice (some ⟨g, 0, none⟩) n c) n xs) (hb : base' ≤ base) : w.ownsRow base' e size (.slice (some ⟨g, 0, none⟩) n c) n xs := by
  obtain ⟨h1, h2⟩ := h
  refine ⟨h1, ?_⟩
  rcases h2 with ⟨h, _⟩ | ⟨g', cap, cur, h, hg, r⟩
  · simp at h
  · exact .inr ⟨g', cap, cur, h, by omega, r⟩

set_option maxHeartbeats 800000 in
theorem toInts_any (a : Option Addr) (zs : List Int) (n cap : Nat) (w : World) (hn : n = zs.length) (hr : Rd w a zs) (hl : zs.length ≤ 1048577) :
    Calls Try.prog 32 #[.slice a n cap] w fun e w' => e = .returned (.slice (some ⟨w.heap.size, 0, none⟩) n n) ∧ w'.ownsRow w.heap.size 3 1 (.slice (some ⟨w.heap.size, 0, none⟩) n n) n (ints zs) ∧ Below w.heap.size w w' := by
  subst hn
  obtain ⟨i0, hi, hz0, hz1, hz2⟩ := info_parts Try.info3
  rcases hr with rfl | ⟨b, off, rfl, hlt, hc⟩
  · go_enter Try.func32, Try.ntmps32
    go_wp2_with (first
      | (at_make; refine wpList_make_full _ rfl _ _ 24 rfl w.heap.size 3 i0 (.int .i64 0) 1 Try.underlying24 hi hz0 hz1 _ _ _ _ 0 rfl rfl rfl rfl (by omega) (by unfold maxLen; omega) (Nat.le_refl _) ?_)
      | go_in)
    intro w1 hown hgrow
    have hb1 : Below w.heap.size w w1 := (Below.refl _ _).grown hgrow (Nat.le_refl _) (by simp)
    clear hgrow
    go_wp2
    refine wp_loop_rounds 1 ?_
    rw [rounds_succ]
    go_wp2
    go_ret
    exact ⟨rfl, by simpa [made_zero, ints] using hown, hb1⟩
  · go_enter Try.func32, Try.ntmps32
    go_wp2_with (first
      | (at_make; refine wpList_make_full _ rfl _ _ 24 rfl w.heap.size 3 i0 (.int .i64 0) 1 Try.underlying24 hi hz0 hz1 _ _ _ _ zs.length rfl rfl rfl rfl (by rw [hz2]; omega) (by unfold maxLen; omega) (Nat.le_refl _) ?_)
      | go_in)
    intro w1 hown hgrow
    have hb1 : Below w.heap.size w w1 := (Below.refl _ _).grown hgrow (Nat.le_refl _) (by simp)
    clear hgrow
    go_wp2
    go_loopw [4] (fun i wr => ∃ k : Nat, k ≤ zs.length ∧ i = .int .i64 k ∧ wr.ownsRow w.heap.size 3 1 (.slice (some ⟨w.heap.size, 0, none⟩) zs.length zs.length) zs.length (ints (zs.take k) ++ List.replicate (zs.length - k) (Value.int .i64 0)) ∧ Below w.heap.size w wr) (fun i _ => zs.length - (intOf i).toNat)
    case atStart => exact ⟨0, Nat.zero_le _, rfl, by simpa [ints, made_zero] using hown, hb1⟩
    case round =>
      obtain ⟨k, hk, rfl, hown', hb⟩ := hrel
      clear hown hb1
      by_cases hk' : k < zs.length
      · have hck : wr.cell? ⟨b, off + k, none⟩ = some (.int .i64 (zs[k]?.getD 0)) := (hb.cell (p := ⟨b, off + k, none⟩) hlt).trans (hc k hk')
        have hfz := hown'.frozenAt k
        have hce : wr.cell? ⟨w.heap.size, k, none⟩ = some (.int .i64 0) := (hown'.cellAt k (by omega)).trans (copy_at hk')
        have R := hown'.stored k (.int .i64 zs[k])
        rw [copy_step hk'] at R
        obtain ⟨R1, R2⟩ := R
        have R3 : Below w.heap.size w (wr.setCell ⟨w.heap.size, k, none⟩ (.int .i64 zs[k])) := hb.setCell (Nat.le_refl _) _
        clear hown' hb R2 hc
        go_wp2
        go_roundw
        case rel => exact ⟨k + 1, by omega, by go_num, R1, R3⟩
        case measure => simp [intOf]; omega
      · go_wp2
        go_ret
        refine ⟨rfl, ?_, hb⟩
        have e : k = zs.length := by omega
        subst e
        simpa using hown'
end Go.Proofs.Ythbilahilmmfmaa

/- The program's iterator over all ways that solve: what its contract says, and what the proof of it stands on. Conditions: none. -/
namespace Go.Proofs.Ythbilahilmmfmaa
set_option maxRecDepth 100000
open Go.RowKit Go.Shelf
attribute [local go_sem] Oper.semAt_some

theorem solutions_any (a0 a1 : Option Addr) (n c0 m c1 : Nat) (w : World) :
    Calls Try.prog 41 #[.slice a0 n c0, .slice a1 m c1] w fun e w' => e = .returned (.func (.func 68) #[] #[.pointer (some ⟨w.heap.size, 0, none⟩), .pointer (some ⟨w.heap.size + 1, 0, none⟩)]) ∧ w' = (w.alloc (.cells #[.slice a0 n c0] 24)).alloc (.cells #[.slice a1 m c1] 24) := by
  go_enter Try.func41, Try.ntmps41
  go_wp2
  go_ret
  exact ⟨rfl, rfl⟩

/-- One way, and where it lies. -/
structure So where
  t : List Int
  g : Nat
  c : Nat
def So.enc (x : So) : Array Value := #[.slice (some ⟨x.g, 0, none⟩) x.t.length x.c]
/-- What comes with it: a row of its own, that reads as it. -/
def SoOk (a b : List Int) (lo : Nat) (pre : List So) (x : So) (W : World) : Prop := (∃ r, pre.map So.t ++ x.t :: r = solL a b) ∧ W.ownsRow lo 3 1 (.slice (some ⟨x.g, 0, none⟩) x.t.length x.c) x.t.length (ints x.t)

/-- What holds in both loops: the iterator's own memory lies apart from the loop's body's. -/
structure SI (Kp : Nat → Prop) (B1 B2 yb l : Nat) (a0 a1 : Option Addr) (c0 c1 : Nat) (a b : List Int) (J : List So → (Nat → Prop) → World → Prop) (ways : List (List Int)) (lo pv S : Nat → Prop) (W : World) : Prop where
  ex : ∃ got SJ, got.map So.t = ways ∧ J got SJ W ∧ ∀ k, SJ k → S k ∧ ¬ pv k
  lo : ∀ k, lo k → S k
  hi : ∀ k, S k → k < W.heap.size
  kp : ∀ k, Kp k → S k
  sy : S yb
  y : W.cell? ⟨yb, 0, none⟩ = some (.func (.yield l) #[] #[])
  b1 : W.cell? ⟨B1, 0, none⟩ = some (.slice a0 a.length c0)
  b2 : W.cell? ⟨B2, 0, none⟩ = some (.slice a1 b.length c1)
  ra : RdI Kp W a0 a
  rb : RdI Kp W a1 b
theorem RdI.stay {S T : Nat → Prop} {w w' : World} {a : Option Addr} {zs : List Int} (h : RdI S w a zs) (hs : Stay T w w') (ht : ∀ x, S x → T x) : RdI S w' a zs := h.grow hs (fun x hx _ => ht x hx) (fun _ hx _ => hx)
theorem SI.stay {Kp : Nat → Prop} {B1 B2 yb l : Nat} {a0 a1 : Option Addr} {c0 c1 : Nat} {a b : List Int} {J : List So → (Nat → Prop) → World → Prop} {ways : List (List Int)} {lo pv S : Nat → Prop} {A B : World} (hJ : ∀ pre S A B, J pre S A → Stay S A B → J pre S B) (h1 : Kp B1) (h2 : Kp B2)
    (h : SI Kp B1 B2 yb l a0 a1 c0 c1 a b J ways lo pv S A) (hs : Stay S A B) : SI Kp B1 B2 yb l a0 a1 c0 c1 a b J ways lo pv S B := by
  obtain ⟨got, SJ, e1, e2, e3⟩ := h.ex
  exact ⟨⟨got, SJ, e1, hJ _ _ _ _ e2 (hs.weak (fun k _ hk => (e3 k hk).1)), e3⟩, h.lo, fun k hk => Nat.lt_of_lt_of_le (h.hi k hk) hs.size, h.kp, h.sy, hs.cell h.y h.sy, hs.cell h.b1 (h.kp _ h1), hs.cell h.b2 (h.kp _ h2), h.ra.stay hs h.kp, h.rb.stay hs h.kp⟩
/-- The set grows. -/
theorem SI.more {Kp : Nat → Prop} {B1 B2 yb l : Nat} {a0 a1 : Option Addr} {c0 c1 : Nat} {a b : List Int} {J : List So → (Nat → Prop) → World → Prop} {ways : List (List Int)} {lo lo' pv pv' S S' : Nat → Prop} {A : World}
    (h : SI Kp B1 B2 yb l a0 a1 c0 c1 a b J ways lo pv S A) (hS : ∀ k, S k → S' k) (hlo : ∀ k, lo' k → S' k) (hhi : ∀ k, S' k → k < A.heap.size) (hpv : ∀ k, S k → ¬ pv k → ¬ pv' k) : SI Kp B1 B2 yb l a0 a1 c0 c1 a b J ways lo' pv' S' A := by
  obtain ⟨got, SJ, e1, e2, e3⟩ := h.ex
  exact ⟨⟨got, SJ, e1, e2, fun k hk => ⟨hS k (e3 k hk).1, hpv k (e3 k hk).1 (e3 k hk).2⟩⟩, hlo, hhi, fun k hk => hS k (h.kp k hk), hS _ h.sy, h.y, h.b1, h.b2, h.ra, h.rb⟩

/-- The set shrinks to what the body may have. -/
theorem SI.less {Kp : Nat → Prop} {B1 B2 yb l : Nat} {a0 a1 : Option Addr} {c0 c1 : Nat} {a b : List Int} {J : List So → (Nat → Prop) → World → Prop} {ways : List (List Int)} {lo lo' pv pv' S S' : Nat → Prop} {A : World} (hJb : ∀ pre S A, J pre S A → ∀ k, S k → k < A.heap.size)
    (h : SI Kp B1 B2 yb l a0 a1 c0 c1 a b J ways lo pv S A) (hS : ∀ k, k < A.heap.size → ¬ pv k → S' k) (hlo : ∀ k, lo' k → S' k) (hhi : ∀ k, S' k → k < A.heap.size) (hkp : ∀ k, Kp k → S' k) (hsy : S' yb) (hpv : ∀ k, ¬ pv k → ¬ pv' k) : SI Kp B1 B2 yb l a0 a1 c0 c1 a b J ways lo' pv' S' A := by
  obtain ⟨got, SJ, e1, e2, e3⟩ := h.ex
  exact ⟨⟨got, SJ, e1, e2, fun k hk => ⟨hS k (hJb _ _ _ e2 k hk) (e3 k hk).2, hpv k (e3 k hk).2⟩⟩, hlo, hhi, hkp, hsy, h.y, h.b1, h.b2, h.ra, h.rb⟩
theorem ways_small {n m : Nat} (hm : m ≤ 4) {x : List Int} (h : x ∈ waysL n m) : smallL x := by
  intro v hv
  obtain ⟨i, hi, rfl⟩ := List.mem_iff_getElem.1 hv
  have := ways_pd (by omega : m ≤ 1000) h i
  unfold pd at this
  rw [show x.getD i 0 = x[i] by simp [hi]] at this
  omega
theorem dot_big {a x : List Int} (hl : a.length ≤ x.length) (ha : smallL a) (hx : smallL x) (h5 : a.length ≤ 5 := by omega) : -3138550867693340381917894711603833208051177722232017256448 ≤ dotL a x ∧ dotL a x < 3138550867693340381917894711603833208051177722232017256448 := by
  have := dot_bound ha hx hl a.length (Nat.le_refl _)
  rw [List.take_length] at this
  omega
theorem fine_len {a : List Int} (h : fineB a = true) : 1 ≤ a.length ∧ a.length ≤ 5 ∧ (∀ v ∈ a, 1 ≤ v ∧ v ≤ 4) := by
  simp only [fineB, Bool.and_eq_true, decide_eq_true_eq, List.all_eq_true] at h
  exact ⟨h.2.1, h.2.2, h.1⟩
theorem top_fine : ∀ (a : List Int) (d : Int), 0 ≤ d → d ≤ 4 → (∀ v ∈ a, 1 ≤ v ∧ v ≤ 4) → 0 ≤ a.foldl max d ∧ a.foldl max d ≤ 4
  | [], d, h0, h1, _ => ⟨h0, h1⟩
  | v :: a, d, h0, h1, h => by
    have := h v (by simp)
    exact top_fine a (max d v) (by omega) (by omega) (fun u hu => h u (by simp [hu]))

theorem Box5.rdx {W : World} {B : Nat} {x : List Int} (h : Box5 W B x) (h5 : x.length ≤ 5) : Rd W (some ⟨B, 0, none⟩) x :=
  .inr ⟨B, 0, rfl, World.block_lt_of_cell? _ _ (h 0 (by omega)), fun i hi => by
    rw [Nat.zero_add, h i (by omega)]
    simp [pd]⟩
theorem sol_prefix {a b x y : List Int} {pre rr pre2 rr2 : List (List Int)} {A B : List (List Int)} (hs : solL a b = solX a b A) (hx : ∀ xs x, solX a b (xs ++ [x]) = solX a b xs ++ solY a b x B) (h1 : pre ++ x :: rr = A) (h2 : pre2 ++ y :: rr2 = B) (hok : okB a b x y = true) :
    ∃ R, (solX a b pre ++ solY a b x pre2) ++ (x ++ y) :: R = solL a b := by
  have e1 : pre ++ x :: rr = (pre ++ [x]) ++ rr := by simp
  have e2 : pre2 ++ y :: rr2 = (pre2 ++ [y]) ++ rr2 := by simp
  have e3 : ∀ u v, solX a b (u ++ v) = solX a b u ++ solX a b v := fun u v => by simp [solX]
  have e4 : ∀ u v, solY a b x (u ++ v) = solY a b x u ++ solY a b x v := fun u v => by simp [solY]
  rw [hs, ← h1, e1, e3, hx, ← h2, e2, e4, solY_snoc, hok]
  exact ⟨solY a b x rr2 ++ solX a b rr, by simp⟩
theorem round_any {n m : Nat} {P : Program} {l l1 l2 : Nat} {f : FuncId} {tmps : Array Value} {assign body : Code} {w : World} {R : Ending → World → Prop} (h : RoundIn Fence.wide n P l f tmps assign body w R) : RoundIn ((Fence.wide.inRound l1).inRound l2) m P l f tmps assign body w R :=
  ⟨h.1, fun c cs _ => h.2 c cs (fun d hd => by cases hd)⟩
theorem two_flat (x y : List Int) : [x, y].flatten = x ++ y := by simp
/-- A box with counts, in a block of the set. -/
structure XB (S : Nat → Prop) (W : World) (B : Nat) (x : List Int) : Prop where
  s : S B
  c : Box5 W B x
theorem XB.stay {S : Nat → Prop} {W W' : World} {B : Nat} {x : List Int} (h : XB S W B x) (hs : Stay S W W') : XB S W' B x := ⟨h.s, fun j hj => hs.cell (h.c j hj) h.s⟩
def pad5 (x : List Int) : List Int := [pd x 0, pd x 1, pd x 2, pd x 3, pd x 4]
theorem pad5_get {x : List Int} {i : Nat} (h : i < 5) : (pad5 x)[i]? = some (pd x i) := by
  obtain rfl | rfl | rfl | rfl | rfl : i = 0 ∨ i = 1 ∨ i = 2 ∨ i = 3 ∨ i = 4 := by omega
  all_goals rfl
theorem dot_pad {a x : List Int} (h : a.length = x.length) (h5 : x.length ≤ 5) : dotL a (pad5 x) = dotL a x := by
  unfold dotL
  congr 1
  apply List.ext_getElem?
  intro i
  simp only [List.getElem?_zipWith]
  by_cases hi : i < x.length
  · rw [pad5_get (by omega), List.getElem?_eq_getElem hi]
    simp [pd, hi]
  · rw [List.getElem?_eq_none (by omega : a.length ≤ i)]
theorem pad5_mem {x : List Int} {v : Int} (h : v ∈ pad5 x) : ∃ j, v = pd x j := by
  simp only [pad5, List.mem_cons, List.not_mem_nil, or_false] at h
  rcases h with rfl | rfl | rfl | rfl | rfl
  all_goals exact ⟨_, rfl⟩
/-- A number of 192 bits in a box. -/
structure WB (W : World) (B : Nat) (z : Int) : Prop where
  c0 : W.cell? ⟨B, 0, none⟩ = some (.int .u64 (limb z 0))
  c1 : W.cell? ⟨B, 1, none⟩ = some (.int .u64 (limb z 1))
  c2 : W.cell? ⟨B, 2, none⟩ = some (.int .u64 (limb z 2))
theorem WB.lt {W : World} {B : Nat} {z : Int} (h : WB W B z) : B < W.heap.size := World.block_lt_of_cell? _ _ h.c0
theorem WB.stay {S : Nat → Prop} {W W' : World} {B : Nat} {z : Int} (h : WB W B z) (hs : Stay S W W') (hB : S B) : WB W' B z := ⟨hs.cell h.c0 hB, hs.cell h.c1 hB, hs.cell h.c2 hB⟩
theorem WB.set {W : World} {B : Nat} {z : Int} {x y v : Value} (h0 : W.cell? ⟨B, 0, none⟩ = some x) (h1 : W.cell? ⟨B, 1, none⟩ = some y) (h2 : W.cell? ⟨B, 2, none⟩ = some v) :
    WB (((W.setCell ⟨B, 0, none⟩ (.int .u64 (limb z 0))).setCell ⟨B, 1, none⟩ (.int .u64 (limb z 1))).setCell ⟨B, 2, none⟩ (.int .u64 (limb z 2))) B z := by
  obtain ⟨z0, z1, z2⟩ := set3_cells (u := W) (r := B) (x := .int .u64 (limb z 0)) (y := .int .u64 (limb z 1)) (z := .int .u64 (limb z 2)) h0 h1 h2
  exact ⟨z0, z1, z2⟩
theorem Box5.rd {W : World} {B : Nat} {x : List Int} (h : Box5 W B x) : Rd W (some ⟨B, 0, none⟩) (pad5 x) :=
  .inr ⟨B, 0, rfl, World.block_lt_of_cell? _ _ (h 0 (by omega)), fun i hi => by
    have hi5 : i < 5 := by simpa [pad5] using hi
    rw [pad5_get hi5, Nat.zero_add, h i hi5]; rfl⟩

/-- The contract of the iterator. -/
def SolsSeq : Prop := ∀ (w : World) (a b : List Int) (a0 a1 : Option Addr) (c0 c1 B1 B2 : Nat), fineB a = true → fineB b = true → ∀ (Kp : Nat → Prop), Kp B1 → Kp B2 → (∀ k, Kp k → k < w.heap.size) → w.cell? ⟨B1, 0, none⟩ = some (.slice a0 a.length c0) → w.cell? ⟨B2, 0, none⟩ = some (.slice a1 b.length c1) → RdI Kp w a0 a → RdI Kp w a1 b →
    SeqKeep Fence.wide 11 Try.prog 68 #[.pointer (some ⟨B1, 0, none⟩), .pointer (some ⟨B2, 0, none⟩)] So.enc Kp (fun xs => xs.map So.t = solL a b) (fun pre => ∃ r, pre.map So.t ++ r = solL a b) (fun x k => k = x.g) (SoOk a b w.heap.size) ((solL a b).length + 1) w
end Go.Proofs.Ythbilahilmmfmaa

/- All ways that solve, as the specification goes over them: both loops. Conditions: 1 to 5 numbers on each side, from 1 to 4. -/
namespace Go.Proofs.Ythbilahilmmfmaa
set_option maxRecDepth 100000
open Go.RowKit

theorem flat_len {f : List Int → List (List Int)} {m : Nat} : ∀ (l : List (List Int)), (∀ x ∈ l, (f x).length ≤ m) → (l.flatMap f).length ≤ l.length * m
  | [], _ => by simp
  | x :: l, h => by
    have ih := flat_len l (fun y hy => h y (by simp [hy]))
    have hx := h x (by simp)
    rw [List.flatMap_cons, List.length_append, List.length_cons, Nat.succ_mul]
    omega
theorem specY_len (a b x : List Int) (ys : List (List Int)) : (specY a b x ys).length ≤ ys.length := by
  unfold specY; rw [List.length_map]; exact List.length_filter_le _ _
/-- What both loops have laid: the first i sides of the left, and of side i the first k of the right. -/
def allP (a b : List Int) (xs ys : List (List Int)) (i k : Nat) : List (List Int) := (xs.take i).flatMap (fun x => specY a b x ys) ++ (if h : i < xs.length then specY a b xs[i] (ys.take k) else [])
theorem allP_le (a b : List Int) (xs ys : List (List Int)) (i k : Nat) (hx : xs.length ≤ 126) (hy : ys.length ≤ 126) : (allP a b xs ys i k).length ≤ 16002 := by
  unfold allP
  rw [List.length_append]
  have h1 := flat_len (f := fun x => specY a b x ys) (m := 126) (xs.take i) (fun x _ => Nat.le_trans (specY_len _ _ _ _) hy)
  have h2 : (xs.take i).length ≤ 126 := by simp; omega
  have h3 : (xs.take i).length * 126 ≤ 126 * 126 := Nat.mul_le_mul_right _ h2
  split
  · have := specY_len a b (xs[i]'(by assumption)) (ys.take k)
    have h4 : (ys.take k).length ≤ 126 := by simp; omega
    omega
  · simp only [List.length_nil]; omega
theorem allP_zero (a b : List Int) (xs ys : List (List Int)) : allP a b xs ys 0 0 = [] := by
  unfold allP; split <;> simp [specY]
theorem allP_hit {a b : List Int} {xs ys : List (List Int)} {i k : Nat} (hi : i < xs.length) (hk : k < ys.length) (h : dotL b ys[k] = dotL a xs[i]) : allP a b xs ys i (k + 1) = allP a b xs ys i k ++ [xs[i] ++ ys[k]] := by
  unfold allP
  rw [dif_pos hi, dif_pos hi, List.take_succ_eq_append_getElem hk, List.append_assoc]
  congr 1
  unfold specY
  rw [List.filter_append, List.map_append]
  simp [h]
theorem allP_miss {a b : List Int} {xs ys : List (List Int)} {i k : Nat} (hi : i < xs.length) (hk : k < ys.length) (h : ¬ dotL b ys[k] = dotL a xs[i]) : allP a b xs ys i (k + 1) = allP a b xs ys i k := by
  unfold allP
  rw [dif_pos hi, dif_pos hi, List.take_succ_eq_append_getElem hk]
  congr 1
  unfold specY
  rw [List.filter_append, List.map_append]
  simp [h]
theorem allP_next {a b : List Int} {xs ys : List (List Int)} {i k : Nat} (hi : i < xs.length) (hk : ys.length ≤ k) : allP a b xs ys i k = allP a b xs ys (i + 1) 0 := by
  unfold allP
  rw [dif_pos hi, List.take_of_length_le hk, List.take_succ_eq_append_getElem hi, List.flatMap_append]
  split <;> simp [specY]
theorem allP_end {a b : List Int} {xs ys : List (List Int)} {i : Nat} (hi : xs.length ≤ i) : allP a b xs ys i 0 = xs.flatMap (fun x => specY a b x ys) := by
  unfold allP
  rw [dif_neg (by omega), List.take_of_length_le hi]; simp
theorem RdQI.at_ {S : Nat → Prop} {w : World} {a : Option Addr} {rows : List (List Int)} (h : RdQI S w a rows) {i : Nat} (hi : i < rows.length) : ∃ b off ai ci, a = some ⟨b, off, none⟩ ∧ w.cell? ⟨b, off + i, none⟩ = some (.slice ai rows[i].length ci) ∧ RdI S w ai rows[i] := by
  obtain ⟨b, off, h1, h2, h3, h4⟩ := h
  obtain ⟨ai, ci, q1, q2⟩ := h4 i hi
  exact ⟨b, off, ai, ci, h1, q1, q2⟩
theorem ways_smallL {n m : Nat} (hm : m ≤ 4) {x : List Int} (h : x ∈ waysL n m) : smallL x := by
  obtain ⟨h1, h2⟩ := waysL_nonneg n m x h
  intro v hv
  have h0 := h1 v hv
  have key : ∀ (l : List Int), (∀ v ∈ l, 0 ≤ v) → 0 ≤ l.sum ∧ ∀ v ∈ l, v ≤ l.sum := by
    intro l
    induction l with
    | nil => intro _; exact ⟨by simp, fun v hv => by simp at hv⟩
    | cons a l ih =>
      intro h
      have ⟨i1, i2⟩ := ih (fun v hv => h v (by simp [hv]))
      have ha := h a (by simp)
      refine ⟨by simp only [List.sum_cons]; omega, fun v hv => ?_⟩
      simp only [List.sum_cons]
      rcases List.mem_cons.1 hv with rfl | hv
      · omega
      · have := i2 v hv; omega
  have := (key x h1).2 v hv
  omega
theorem own0 {W : World} {B n c : Nat} {p : Option Addr} {xs : List Value} (h : W.ownsRow B 3 1 (.slice p (0 + n) c) (0 + n) ([] ++ xs)) : W.ownsRow B 3 1 (.slice p n c) n xs := by
  rw [Nat.zero_add] at h; exact h
theorem drewN_stay (S : Nat → Prop) (w : World) (q : Nat) : Stay S w (w.drewN q) := ⟨rfl, rfl, rfl, Nat.le_refl _, fun _ _ _ => rfl⟩

set_option maxHeartbeats 6400000 in
set_option maxRecDepth 100000 in
theorem l7All_any (a0 a1 : Option Addr) (a b : List Int) (c0 c1 : Nat) (w : World) (hra : Rd w a0 a) (hrb : Rd w a1 b) (ha : fineB a = true) (hb : fineB b = true) :
    Calls Try.prog 44 #[.slice a0 a.length c0, .slice a1 b.length c1] w fun e w' => ∃ a' c, e = .returned (.slice a' (solL a b).length c) ∧ RdQI (fun x => w.heap.size ≤ x) w' a' (solL a b) ∧ Below w.heap.size w w' := by
  obtain ⟨i0, hi, hz0, hz1, hz2⟩ := info_parts Try.infoR
  obtain ⟨j0, hjj, hy0, hy1, hy2⟩ := info_parts Try.info3
  have hfa : 1 ≤ a.length ∧ a.length ≤ 5 ∧ ∀ v ∈ a, 1 ≤ v ∧ v ≤ 4 := by
    simp only [fineB, Bool.and_eq_true, decide_eq_true_eq, List.all_eq_true] at ha
    exact ⟨ha.2.1, ha.2.2, ha.1⟩
  have hfb : 1 ≤ b.length ∧ b.length ≤ 5 ∧ ∀ v ∈ b, 1 ≤ v ∧ v ≤ 4 := by
    simp only [fineB, Bool.and_eq_true, decide_eq_true_eq, List.all_eq_true] at hb
    exact ⟨hb.2.1, hb.2.2, hb.1⟩
  obtain ⟨ha1, ha5, hav⟩ := hfa
  obtain ⟨hb1, hb5, hbv⟩ := hfb
  have top : ∀ (l : List Int) (d : Int), 0 ≤ d → d ≤ 4 → (∀ v ∈ l, 1 ≤ v ∧ v ≤ 4) → 0 ≤ l.foldl max d ∧ l.foldl max d ≤ 4 := by
    intro l
    induction l with
    | nil => intro d h0 h1 _; exact ⟨h0, h1⟩
    | cons v l ih => intro d h0 h1 h; have := h v (by simp); exact ih (max d v) (by omega) (by omega) (fun u hu => h u (by simp [hu]))
  obtain ⟨ta, hta⟩ : ∃ ta : Nat, topL a = (ta : Int) := ⟨(topL a).toNat, by have := top a 0 (by omega) (by omega) hav; unfold topL; omega⟩
  obtain ⟨tb, htb⟩ : ∃ tb : Nat, topL b = (tb : Int) := ⟨(topL b).toNat, by have := top b 0 (by omega) (by omega) hbv; unfold topL; omega⟩
  have hta4 : ta ≤ 4 := by have := top a 0 (by omega) (by omega) hav; unfold topL at hta; omega
  have htb4 : tb ≤ 4 := by have := top b 0 (by omega) (by omega) hbv; unfold topL at htb; omega
  have SP : solL a b = (waysL a.length tb).tail.flatMap (fun x => specY a b x (waysL b.length ta).tail) := by
    obtain ⟨n, hn⟩ : ∃ n, a.length = n + 1 := ⟨a.length - 1, by omega⟩
    obtain ⟨m, hm⟩ : ∃ m, b.length = m + 1 := ⟨b.length - 1, by omega⟩
    rw [sol_spec (fun v hv => (hav v hv).1) (fun v hv => (hbv v hv).1) hn hm, hta, htb]; rfl
  have hl1 : (waysL a.length tb).length ≤ 126 := ways_len a.length (by omega) tb (by omega)
  have hl2 : (waysL b.length ta).length ≤ 126 := ways_len b.length (by omega) ta (by omega)
  have HW1 : Hid (∀ x ∈ waysL a.length tb, smallL x ∧ x.length = a.length) := fun x hx => ⟨ways_smallL htb4 hx, waysL_len _ _ x hx⟩
  have HW2 : Hid (∀ x ∈ waysL b.length ta, smallL x ∧ x.length = b.length) := fun x hx => ⟨ways_smallL hta4 hx, waysL_len _ _ x hx⟩
  have T1 := fun W h => l7Top_any a0 a c0 W h (by omega)
  have T2 := fun W h => l7Top_any a1 b c1 W h (by omega)
  rw [hta] at T1
  rw [htb] at T2
  have C1 := fun W => l7Ways_any a.length tb W ha5 htb4
  have C2 := fun W => l7Ways_any b.length ta W hb5 hta4
  have HSA : Hid (smallL a) := fun v hv => by have := hav v hv; omega
  have HSB : Hid (smallL b) := fun v hv => by have := hbv v hv; omega
  have HRA : Hid (Rd w a0 a) := hra
  have HRB : Hid (Rd w a1 b) := hrb
  obtain ⟨X, hX⟩ : ∃ X, X = (waysL a.length tb).tail := ⟨_, rfl⟩
  obtain ⟨Y, hY⟩ : ∃ Y, Y = (waysL b.length ta).tail := ⟨_, rfl⟩
  rw [← hX, ← hY] at SP
  have hX1 : X.length + 1 = (waysL a.length tb).length := by
    have := (ways_link (a.length - 1) tb).2.1
    rw [show a.length - 1 + 1 = a.length by omega] at this
    rw [hX]
    cases hw : waysL a.length tb with
    | nil => rw [hw] at this; simp at this
    | cons _ _ => simp
  have hY1 : Y.length + 1 = (waysL b.length ta).length := by
    have := (ways_link (b.length - 1) ta).2.1
    rw [show b.length - 1 + 1 = b.length by omega] at this
    rw [hY]
    cases hw : waysL b.length ta with
    | nil => rw [hw] at this; simp at this
    | cons _ _ => simp
  have HGX : Hid (∀ i, (h : i < X.length) → (waysL a.length tb)[i + 1]? = some X[i]) := fun i h => by subst hX; rw [List.getElem?_eq_getElem (by omega)]; simp
  have HGY : Hid (∀ i, (h : i < Y.length) → (waysL b.length ta)[i + 1]? = some Y[i]) := fun i h => by subst hY; rw [List.getElem?_eq_getElem (by omega)]; simp
  have HSP : Hid (solL a b = X.flatMap (fun x => specY a b x Y)) := SP
  clear hX hY SP hta htb top ha hb hra hrb
  generalize waysL a.length tb = L1 at *
  generalize waysL b.length ta = L2 at *
  have hxl : X.length ≤ 126 := by omega
  have hyl : Y.length ≤ 126 := by omega
  rw [HSP.out]
  simp only [← hX1] at C1
  simp only [← hY1] at C2
  have HX1 : Hid (X.length + 1 = L1.length) := hX1
  have HY1 : Hid (Y.length + 1 = L2.length) := hY1
  clear hX1 hY1 hl1 hl2
  go_enter Try.func44, Try.ntmps44
  go_wp2_with (go_at_call 73; refine (T2 _ (HRB.out.below ((Below.refl _ _).alloc (Nat.le_refl _) _))).mono ?_; rintro e w1 ⟨rfl, hw⟩; subst w1; clear T2)
  obtain ⟨W0, hW0⟩ : ∃ W0, W0 = w.alloc (.cells #[] 24) := ⟨_, rfl⟩
  have hB0 : Below w.heap.size w W0 := by rw [hW0]; exact (Below.refl _ _).alloc (Nat.le_refl _) _
  have HZ0 : Hid (W0.heap.size = w.heap.size + 1) := by show _ = _; rw [hW0]; simp
  have HO0 : Hid (W0.ownsRow w.heap.size 24 1 (.slice (some ⟨w.heap.size, 0, none⟩) 0 0) 0 []) := by rw [hW0]; exact World.ownsRow_made w #[] 0 (Nat.le_refl _) (Nat.zero_le _) rfl
  rw [← hW0]
  clear hW0
  refine (C1 W0).mono ?_
  rintro e w2 ⟨a1', c1', rfl, hq1, hb1'⟩
  have hB2 : Below w.heap.size w w2 := hB0.trans (hb1'.mono hB0.size)
  have hlt2 : w.heap.size < w2.heap.size := by have h1 := hb1'.size; have h2 := HZ0.out; omega
  have HO2 : Hid (w2.ownsRow w.heap.size 24 1 (.slice (some ⟨w.heap.size, 0, none⟩) 0 0) 0 []) := own_frB HO0.out (hb1'.block _ (by have h2 := HZ0.out; omega))
  have HQ1 : Hid (RdQI (fun x => w.heap.size < x) w2 a1' L1) := hq1.grow (Stay.refl (fun _ => True) _) (fun _ _ _ => trivial) (fun x hx _ => by have h2 := HZ0.out; omega)
  clear C1 hq1 hb1'
  go_wp2_with (go_at_call 73; refine (T1 _ (HRA.out.below hB2)).mono ?_; rintro e w3 ⟨rfl, hw⟩; subst w3; clear T1)
  refine (C2 w2).mono ?_
  rintro e w4 ⟨a2', c2', rfl, hq2, hb2'⟩
  have HQ2 : Hid (RdQI (fun x => w.heap.size < x) w4 a2' L2) := hq2.grow (Stay.refl (fun _ => True) _) (fun _ _ _ => trivial) (fun x hx _ => by omega)
  have HQ14 : Hid (RdQI (fun x => w.heap.size < x) w4 a1' L1) := HQ1.out.grow (.of_below hb2' (fun _ hk _ => hk) : Stay (fun _ => True) _ _) (fun _ _ _ => trivial) (fun x hx _ => hx)
  have hB4 : Below w.heap.size w w4 := hB2.trans (hb2'.mono hB2.size)
  have HO4 : Hid (w4.ownsRow w.heap.size 24 1 (.slice (some ⟨w.heap.size, 0, none⟩) 0 0) 0 []) := own_frB HO2.out (hb2'.block _ hlt2)
  have hlt4 : w.heap.size < w4.heap.size := Nat.lt_of_lt_of_le hlt2 hb2'.size
  clear C2 hq2 hb2' HQ1 HO2 hB2 hlt2 HO0 hB0
  go_wp2_with fail
  go_loopw [5, 8] (fun o i wr => ∃ (k g c : Nat) (vs : List Value), k ≤ X.length ∧ i = .int .i64 (k + 1 : Nat) ∧ o = .slice (some ⟨g, 0, none⟩) (allP a b X Y k 0).length c ∧ Hid (wr.ownsRow w.heap.size 24 1 (.slice (some ⟨g, 0, none⟩) (allP a b X Y k 0).length c) (allP a b X Y k 0).length vs) ∧ Hid (RowsV (fun x => w.heap.size ≤ x ∧ x ≠ g) wr vs (allP a b X Y k 0)) ∧ Hid (RdQI (fun x => x ≠ g) wr a1' L1) ∧ Hid (RdQI (fun x => x ≠ g) wr a2' L2) ∧ Below w.heap.size w wr) (fun _ i _ => X.length + 1 - (intOf i).toNat)
  case atStart => exact ⟨0, w.heap.size, 0, [], Nat.zero_le _, rfl, by rw [allP_zero]; rfl, by rw [allP_zero]; exact HO4, by rw [allP_zero]; exact ⟨rfl, fun i h => by simp at h⟩, HQ14.out.grow (Stay.refl (fun _ => True) _) (fun _ _ _ => trivial) (fun x hx _ => by omega), HQ2.out.grow (Stay.refl (fun _ => True) _) (fun _ _ _ => trivial) (fun x hx _ => by omega), hB4⟩
  case round =>
    obtain ⟨k, g, c, vs, hk, rfl, rfl, HO, HV, HQa, HQb, hb⟩ := hrel
    clear HO4 HQ14 HQ2
    by_cases hk' : k < X.length
    · have hx1 := HX1.out
      obtain ⟨b1, o1, ai, ci, rfl, cX, rX⟩ := HQa.out.at_ (i := k + 1) (by omega)
      have eX : L1[k + 1]'(by omega) = X[k] := by
        have h1 := HGX.out k hk'
        rw [List.getElem?_eq_getElem (by omega)] at h1
        exact Option.some.inj h1
      rw [eX] at cX rX
      have hxx : smallL X[k] ∧ X[k].length = a.length := by rw [← eX]; exact HW1.out _ (List.getElem_mem _)
      have HST1 : Hid (∀ j, (h : j < Y.length) → dotL b Y[j] = dotL a X[k] → allP a b X Y k (j + 1) = allP a b X Y k j ++ [X[k] ++ Y[j]]) := fun j h e => allP_hit hk' h e
      have HST2 : Hid (∀ j, (h : j < Y.length) → ¬ dotL b Y[j] = dotL a X[k] → allP a b X Y k (j + 1) = allP a b X Y k j) := fun j h e => allP_miss hk' h e
      have HNX : Hid (allP a b X Y k Y.length = allP a b X Y (k + 1) 0) := allP_next hk' (Nat.le_refl _)
      have HLE : Hid (∀ j, (allP a b X Y k j).length ≤ 16002) := fun j => allP_le a b X Y k j hxl hyl
      have hki : ((k + 1 : Nat) : Int) < ((X.length + 1 : Nat) : Int) := by omega
      have hki0 : (0 : Int) ≤ ((k + 1 : Nat) : Int) := by omega
      clear eX hx1
      have eL := HGX.out k hk'
      obtain ⟨x, hx⟩ : ∃ x, X[k] = x := ⟨_, rfl⟩
      rw [hx] at cX rX hxx HST1 HST2 eL
      clear hx
      have HEL : Hid (L1[k + 1]? = some x) := eL
      clear eL
      have C0 := l7Total_any a0 ai a x c0 ci 0 wr (HRA.out.below hb) rX.rd (by omega) (by omega) (by omega) HSA.out hxx.1
      simp only [List.drop_zero] at C0
      obtain ⟨d, hd⟩ : ∃ d, dotL a x = d := ⟨_, rfl⟩
      rw [hd] at C0 HST1 HST2
      clear hd
      have HXX : Hid (smallL x ∧ x.length = a.length) := hxx
      clear hxx
      go_wp2_with (go_at_call 49; refine C0.mono ?_; rintro e w5 ⟨rfl, q, rfl⟩; clear C0)
      have HQa2 : Hid (RdQI (fun x => x ≠ g) (wr.drewN q) (some ⟨b1, o1, none⟩) L1) := HQa.out.grow (drewN_stay (fun _ => True) wr q) (fun _ _ _ => trivial) (fun x hx _ => hx)
      have HQb2 : Hid (RdQI (fun x => x ≠ g) (wr.drewN q) a2' L2) := HQb.out.grow (drewN_stay (fun _ => True) wr q) (fun _ _ _ => trivial) (fun x hx _ => hx)
      have HV2 : Hid (RowsV (fun x => w.heap.size ≤ x ∧ x ≠ g) (wr.drewN q) vs (allP a b X Y k 0)) := HV.out.grow (drewN_stay (fun _ => True) wr q) (fun _ _ _ => trivial) (fun x hx _ => hx)
      have HO2 : Hid ((wr.drewN q).ownsRow w.heap.size 24 1 (.slice (some ⟨g, 0, none⟩) (allP a b X Y k 0).length c) (allP a b X Y k 0).length vs) := own_frB HO.out rfl
      have hb2 : Below w.heap.size w (wr.drewN q) := below_drewN hb q
      clear HO HV HQa HQb hb cX rX
      go_wp2_with fail
      go_loopw [5, 10] (fun o i wr => ∃ (j g c : Nat) (vs : List Value), j ≤ Y.length ∧ i = .int .i64 (j + 1 : Nat) ∧ o = .slice (some ⟨g, 0, none⟩) (allP a b X Y k j).length c ∧ Hid (wr.ownsRow w.heap.size 24 1 (.slice (some ⟨g, 0, none⟩) (allP a b X Y k j).length c) (allP a b X Y k j).length vs) ∧ Hid (RowsV (fun x => w.heap.size ≤ x ∧ x ≠ g) wr vs (allP a b X Y k j)) ∧ Hid (RdQI (fun x => x ≠ g) wr (some ⟨b1, o1, none⟩) L1) ∧ Hid (RdQI (fun x => x ≠ g) wr a2' L2) ∧ Hid (Below w.heap.size w wr)) (fun _ i _ => Y.length + 1 - (intOf i).toNat)
      case atStart => exact ⟨0, g, c, vs, Nat.zero_le _, rfl, rfl, HO2, HV2, HQa2, HQb2, hb2⟩
      case round =>
        obtain ⟨j, g2, cc, vs2, hj, rfl, rfl, HO3, HV3, HQ3, HR3, HB3⟩ := hrel
        clear HO2 HV2 HQa2 HQb2 hb2
        by_cases hj' : j < Y.length
        · have hy1' := HY1.out
          have hx1' := HX1.out
          obtain ⟨b2, o2, aj, cj, rfl, cY, rY⟩ := HR3.out.at_ (i := j + 1) (by omega)
          have eY : L2[j + 1]'(by omega) = Y[j] := by
            have h1 := HGY.out j hj'
            rw [List.getElem?_eq_getElem (by omega)] at h1
            exact Option.some.inj h1
          rw [eY] at cY rY
          have hyy : smallL Y[j] ∧ Y[j].length = b.length := by rw [← eY]; exact HW2.out _ (List.getElem_mem _)
          have hji : ((j + 1 : Nat) : Int) < ((Y.length + 1 : Nat) : Int) := by omega
          have hji0 : (0 : Int) ≤ ((j + 1 : Nat) : Int) := by omega
          have HS1 : Hid _ := HST1.out j hj'
          have HS2 : Hid _ := HST2.out j hj'
          have hle := HLE.out (j + 1)
          have hle0 := HLE.out j
          obtain ⟨b3, o3, aj', cj', e3, cX, rX⟩ := HQ3.out.at_ (i := k + 1) (by omega)
          cases e3
          have eX : L1[k + 1]'(by omega) = x := by
            have h1 := HEL.out
            rw [List.getElem?_eq_getElem (by omega)] at h1
            exact Option.some.inj h1
          rw [eX] at cX rX
          clear eY
          obtain ⟨y, hy⟩ : ∃ y, Y[j] = y := ⟨_, rfl⟩
          rw [hy] at cY rY hyy HS1 HS2
          clear hy eX hy1' hx1'
          have C5 := l7Total_any a1 aj b y c1 cj 0 wr (HRB.out.below HB3.out) rY.rd (by omega) (by omega) (by omega) HSB.out hyy.1
          simp only [List.drop_zero] at C5
          obtain ⟨e, he⟩ : ∃ e, dotL b y = e := ⟨_, rfl⟩
          rw [he] at C5 HS1 HS2
          clear he
          have hylen := hyy.2
          have hxlen := HXX.out.2
          have hxL : x.length ≤ 5 := by omega
          have hyL : y.length ≤ 5 := by omega
          clear hyy hylen hxlen
          obtain ⟨P0, hP0⟩ : ∃ P0, allP a b X Y k j = P0 := ⟨_, rfl⟩
          obtain ⟨P1, hP1⟩ : ∃ P1, allP a b X Y k (j + 1) = P1 := ⟨_, rfl⟩
          rw [hP0, hP1] at HS1 HS2
          rw [hP0] at HO3 HV3 hle0 ⊢
          have HP1 : Hid (allP a b X Y k (j + 1) = P1) := hP1
          clear hP0 hP1
          have hg2 := HO3.out.lt g2 rfl
          have hbw := HB3.out.size
          by_cases hed : e = d
          · have HS : Hid (P1 = P0 ++ [x ++ y]) := HS1.out hed
            subst hed
            obtain ⟨bx, ox, rfl, hSx, hlx, hcx⟩ := rX
            obtain ⟨by_, oy, rfl, hSy, hly, hcy⟩ := rY
            have hdd : (e == e) = true := by simp
            have HI : Hid (ints x ++ ints y = ints (x ++ y)) := by show _ = _; simp [ints]
            have hilx : (ints x).length = x.length := by simp [ints]
            have hily : (ints y).length = y.length := by simp [ints]
            have HCX : Hid (∀ i, i < x.length → wr.cell? ⟨bx, ox + i, none⟩ = some (.int .i64 (x[i]?.getD 0))) := fun i hi => hcx i hi
            have HCY : Hid (∀ i, i < y.length → wr.cell? ⟨by_, oy + i, none⟩ = some (.int .i64 (y[i]?.getD 0))) := fun i hi => hcy i hi
            have hlxy : P1.length = P0.length + 1 := by rw [HS.out]; simp
            clear hcx hcy
            go_wp2_with (first
              | (go_at_call 49; refine C5.mono ?_; rintro e' w5 ⟨rfl, q5, hw5⟩; have S5 : Stay (fun _ => True) wr w5 := hw5 ▸ drewN_stay _ wr q5; have cX5 := S5.cell cX trivial; have cY5 := S5.cell cY trivial; have cX6 : (w5.alloc (.cells #[] 3)).cell? ⟨b1, o1 + (k + 1), none⟩ = some (.slice (some ⟨bx, ox, none⟩) x.length cj') := keepC ((Below.refl _ _).alloc (Nat.le_refl _) _) cX5; have z5 := S5.size; have HNX : Hid (∀ W : World, Below w5.heap.size w5 W → ∀ q u, (ints x)[q]? = some u → W.cell? ((⟨bx, ox, none⟩ : Addr).add q) = some u) := fun W hW => news_of (off := ox) (l := x) (fun q hq => (hW.cell (p := ⟨bx, ox + q, none⟩) (Nat.lt_of_lt_of_le hlx z5)).trans (S5.cell (HCX.out q hq) trivial)); have HNY : Hid (∀ W : World, Below w5.heap.size w5 W → ∀ q u, (ints y)[q]? = some u → W.cell? ((⟨by_, oy, none⟩ : Addr).add q) = some u) := fun W hW => news_of (off := oy) (l := y) (fun q hq => (hW.cell (p := ⟨by_, oy + q, none⟩) (Nat.lt_of_lt_of_le hly z5)).trans (S5.cell (HCY.out q hq) trivial)); have HS5 : Hid _ := S5; clear hw5 C5 S5)
              | (at_builtin; refine wpList_append_own_at _ rfl (.tmp 49) (.tmp 53) 24 rfl w5.heap.size 3 j0 (.int .i64 0) 1 8 Try.underlying24 hjj hy0 hy1 hy2 rfl (by decide) _ 0 _ rfl (World.ownsRow_made w5 #[] 0 (Nat.le_refl _) (Nat.zero_le _) rfl) ⟨bx, ox, none⟩ x.length cj' (ints x) rfl (by simp [ints]) (HNX.out _ ((Below.refl _ _).alloc (Nat.le_refl _) _)) (ints_one x) (by unfold maxLen; omega) (by omega) (by simp) ?_; intro v7 w7 hown7 hgrow7 hnil7 hat7; obtain ⟨g7, c7, rfl⟩ := own_some hown7 hnil7; have hb7 : Below w5.heap.size w5 w7 := ((Below.refl w5.heap.size w5).alloc (Nat.le_refl _) (.cells #[] 3)).grown (row := some w5.heap.size) hgrow7 (by simp) (by simp); have HO7 : Hid (w7.ownsRow w5.heap.size 3 1 (.slice (some ⟨g7, 0, none⟩) x.length c7) x.length (ints x)) := own0 hown7; have cY7 := keepC hb7 cY5; have hNY7 := HNY.out w7 hb7; clear hnil7 hgrow7 hat7 hown7)
              | (at_builtin; refine wpList_append_own_at _ rfl (.tmp 56) (.tmp 60) 24 rfl w5.heap.size 3 j0 (.int .i64 0) 1 8 Try.underlying24 hjj hy0 hy1 hy2 rfl (by decide) _ x.length _ rfl HO7.out ⟨by_, oy, none⟩ y.length cj (ints y) rfl (by simp [ints]) hNY7 (ints_one y) (by unfold maxLen; omega) (by omega) hb7.size ?_; intro v8 w8 hown8 hgrow8 hnil8 hat8; obtain ⟨g8, c8, rfl⟩ := own_some hown8 hnil8; have hb8 : Below w5.heap.size w5 w8 := hb7.grown hgrow8 hb7.size (fun k hk => by cases hk; exact (HO7.out.lt g7 rfl).1); have HO8 : Hid (w8.ownsRow w5.heap.size 3 1 (.slice (some ⟨g8, 0, none⟩) (x.length + y.length) c8) (x.length + y.length) (ints x ++ ints y)) := hown8; have HB8 : Hid (w8.heap[g2]? = wr.heap[g2]?) := (hb8.block g2 (Nat.lt_of_lt_of_le hg2.2 z5)).trans (HS5.out.block g2 hg2.2 trivial); have z8 := hb8.size; clear hnil8 hgrow8 hat8 hown8 HO7 hNY7 cY7)
              | (at_builtin; refine wpList_append_own_at _ rfl (.tmp 55) (.tmp 62) 27 rfl w.heap.size 24 i0 (.slice none 0 0) 1 24 Try.underlying27 hi hz0 hz1 hz2 rfl (by decide) _ P0.length vs2 rfl ((own_frB HO3.out HB8.out).alloc _) ⟨w8.heap.size, 0, none⟩ 1 1 [.slice (some ⟨g8, 0, none⟩) (x.length + y.length) c8] rfl rfl (one_new _ _ _) (slice_one _ _ _) (by unfold maxLen; omega) (by omega) (by simp; omega) ?_; intro v9 w9 hown9 hgrow9 hnil9 hat9; obtain ⟨g9, c9, rfl⟩ := own_some hown9 hnil9; have hg9 := own_at hat9; have HO9 : Hid (w9.ownsRow w.heap.size 24 1 (.slice (some ⟨g9, 0, none⟩) (P0.length + 1) c9) (P0.length + 1) (vs2 ++ [.slice (some ⟨g8, 0, none⟩) (x.length + y.length) c8])) := hown9; have HS9 : Hid (Stay (fun x => x ≠ g2) w5 w9) := two_stay hb8 hgrow9; have HG9 : Hid (Stay (fun x => x ≠ g2) w8 w9) := two_stay (Below.refl _ _) hgrow9; clear hnil9 hgrow9 hat9 hown9))
            have HS95 : Stay (fun x => x ≠ g2) wr w9 := (HS5.out.weak (fun _ _ _ => trivial)).trans HS9.out
            have hg8l := HO8.out.lt g8 rfl
            simp only [World.size_alloc] at hg9
            have hz9 := HS95.size
            have hlr : x.length + y.length = (x ++ y).length := by simp
            go_roundw
            case rel =>
              refine ⟨j + 1, g9, c9, vs2 ++ [.slice (some ⟨g8, 0, none⟩) (x.length + y.length) c8], by omega, by go_num, by rw [HP1.out, hlxy], ?_, ?_, ?_, ?_, ?_⟩
              · show World.ownsRow _ _ _ _ _ _ _
                rw [HP1.out, hlxy]; exact HO9.out
              · show RowsV _ _ _ _
                rw [HP1.out, HS.out, hlr]
                refine (HV3.out.grow HS95 (fun x hx _ => hx.2) (fun x hx hxl => ⟨hx.1, by have := hx.2; omega⟩)).snoc ((own_rdi (S := fun x => x = g8) hlr (by rw [← HI.out]; exact HO8.out) rfl).grow HG9.out (fun x hx _ => by have h : x = g8 := hx; omega) (fun x hx _ => by have h : x = g8 := hx; exact ⟨by omega, by omega⟩))
              · exact HQ3.out.grow HS95 (fun x hx _ => hx) (fun x hx hxl => by omega)
              · exact HR3.out.grow HS95 (fun x hx _ => hx) (fun x hx hxl => by omega)
              · exact HB3.out.trans (HS95.below (by omega) (fun x hx => by omega))
            case measure => simp [intOf]; omega
          · have HS : Hid (P1 = P0) := HS2.out hed
            have hed' : (e == d) = false := by simpa using hed
            go_wp2_with (go_at_call 49; refine C5.mono ?_; rintro e w5 ⟨rfl, q5, rfl⟩; clear C5)
            go_roundw
            case rel => exact ⟨j + 1, g2, cc, vs2, by omega, by go_num, by rw [HP1.out, HS.out], by rw [HP1.out, HS.out]; exact own_frB HO3.out rfl, by rw [HP1.out, HS.out]; exact HV3.out.grow (drewN_stay (fun _ => True) wr _) (fun _ _ _ => trivial) (fun _ hx _ => hx), HQ3.out.grow (drewN_stay (fun _ => True) wr _) (fun _ _ _ => trivial) (fun _ hx _ => hx), HR3.out.grow (drewN_stay (fun _ => True) wr _) (fun _ _ _ => trivial) (fun _ hx _ => hx), below_drewN HB3.out _⟩
            case measure => simp [intOf]; omega
        · have hji : ¬ ((j + 1 : Nat) : Int) < ((Y.length + 1 : Nat) : Int) := by omega
          have e1 : j = Y.length := by omega
          subst e1
          rw [HNX.out] at HO3 HV3 ⊢
          clear HNX HST1 HST2 HLE
          go_wp2_with fail
          go_roundw
          case rel => exact ⟨k + 1, g2, cc, vs2, by omega, by go_num, rfl, HO3, HV3, HQ3, HR3, HB3.out⟩
          case measure => simp [intOf]; omega
    · have hki : ¬ ((k + 1 : Nat) : Int) < ((X.length + 1 : Nat) : Int) := by omega
      have e : k = X.length := by omega
      subst e
      have eE : allP a b X Y X.length 0 = X.flatMap (fun x => specY a b x Y) := allP_end (Nat.le_refl _)
      rw [eE] at HO HV ⊢
      have hgl := HO.out.lt g rfl
      have HQ : Hid (RdQI (fun x => w.heap.size ≤ x) wr (some ⟨g, 0, none⟩) (X.flatMap (fun x => specY a b x Y))) := HV.out.rd rfl HO.out hgl.1 (fun x hx => hx.1)
      clear HO HV eE
      go_wp2_with fail
      go_ret
      first
        | exact ⟨_, _, rfl, HQ.out, hb⟩
        | exact ⟨_, ⟨_, rfl⟩, HQ.out, hb⟩
end Go.Proofs.Ythbilahilmmfmaa

/- Whether one list of numbers lies beneath another one: the specification's way and the program's. Conditions: at most 1048577 numbers. -/
namespace Go.Proofs.Ythbilahilmmfmaa
set_option maxRecDepth 100000
open Go.RowKit

set_option maxHeartbeats 800000 in
theorem specLeast_any (a a' : Option Addr) (xs ys : List Int) (n cap n' cap' : Nat) (w : World) (hn : n = xs.length) (hn' : n' = ys.length) (hr : Rd w a xs) (hr' : Rd w a' ys) (hl : xs.length ≤ 1048577) (hl' : ys.length ≤ 1048577) :
    Calls Try.prog 17 #[.slice a n cap, .slice a' n' cap'] w fun e w' => e = .returned (.bool (leastB xs ys)) ∧ ∃ q, w' = w.drewN q := by
  subst hn hn'
  go_enter Try.func17, Try.ntmps17
  go_wp2_with fail
  go_loopw [5, 6] (fun bl i wr => ∃ k q : Nat, k ≤ xs.length ∧ k ≤ ys.length ∧ i = .int .i64 k ∧ bl = .bool (blwB (xs.take k) (ys.take k)) ∧ wr = w.drewN q ∧ Hid (abvB (xs.take k) (ys.take k) = false)) (fun _ i _ => xs.length - (intOf i).toNat)
  case atStart => exact ⟨0, 0, Nat.zero_le _, Nat.zero_le _, rfl, rfl, rfl, rfl⟩
  case round =>
    obtain ⟨k, q, hk, hk2, rfl, rfl, rfl, H0⟩ := hrel
    by_cases hx : k < xs.length
    · have hi1 : (k : Int) < (xs.length : Int) := by omega
      have hi0 : (0 : Int) ≤ (k : Int) := by omega
      by_cases hy : k < ys.length
      · have hi2 : (k : Int) < (ys.length : Int) := by omega
        rcases hr with h | ⟨b, off, rfl, hlt, hc⟩
        · subst h; simp at hx
        rcases hr' with h | ⟨b', off', rfl, hlt', hc'⟩
        · subst h; simp at hy
        have c1 : w.cell? ⟨b, off + k, none⟩ = some (.int .i64 xs[k]) := by rw [hc k hx]; simp [hx]
        have c2 : w.cell? ⟨b', off' + k, none⟩ = some (.int .i64 ys[k]) := by rw [hc' k hy]; simp [hy]
        have HB : Hid (blwB (xs.take (k + 1)) (ys.take (k + 1)) = (blwB (xs.take k) (ys.take k) || decide (xs[k] < ys[k]))) := blw_step hx hy
        have HS : Hid (decide (ys[k] < xs[k]) = false → abvB (xs.take (k + 1)) (ys.take (k + 1)) = false) := abv_step hx hy H0.out
        have HT : Hid (decide (ys[k] < xs[k]) = true → abvB xs ys = true) := abv_hit hx hy
        clear hc hc'
        generalize xs[k] = x at c1 HB HS HT
        generalize ys[k] = y at c2 HB HS HT
        generalize blwB (xs.take k) (ys.take k) = bl at HB ⊢
        by_cases hxy : y < x
        · have e := HT.out (by simpa using hxy)
          clear HB HS HT
          go_wp2_with fail
          go_quiet (fail)
          go_wp2_with fail
          go_ret
          exact ⟨rtB (least_abv e).symm, _, World.drewN_drewN _ _ _⟩
        · have e : Hid _ := HS.out (by simpa using hxy)
          clear HS HT H0
          cases bl
          · go_wp2_with fail
            go_quiet (fail)
            go_wp2_with fail
            go_quiet (fail)
            go_wp2_with fail
            go_roundw
            case rel => exact ⟨k + 1, _, by omega, by omega, by go_num, by rw [HB.out]; simp, rfl, e⟩
            case measure => simp [intOf]; omega
          · go_wp2_with fail
            go_quiet (fail)
            go_wp2_with fail
            go_quiet (fail)
            go_wp2_with fail
            go_roundw
            case rel => exact ⟨k + 1, _, by omega, by omega, by go_num, by rw [HB.out]; simp, rfl, e⟩
            case measure => simp [intOf]; omega
      · have hi2 : ¬ (k : Int) < (ys.length : Int) := by omega
        have e1 := blw_all (xs := xs) (ys := ys) (k := k) (by omega)
        have e2 := abv_all (xs := xs) (ys := ys) (k := k) (by omega)
        have hne : ¬ xs.length = ys.length := by omega
        have hb : ((xs.length : Int) == (ys.length : Int)) = false := by simp; omega
        have HE : Hid (leastB xs ys = false) := least_len hne
        rw [e1]
        clear e1 e2 H0 hne hr hr'
        cases blwB xs ys
        · go_wp2_with fail
          go_ret
          exact ⟨rtB HE.out.symm, _, rfl⟩
        · go_wp2_with fail
          go_ret
          exact ⟨rtB HE.out.symm, _, rfl⟩
    · have hi1 : ¬ (k : Int) < (xs.length : Int) := by omega
      have e1 := blw_all (xs := xs) (ys := ys) (k := k) (by omega)
      have e2 := abv_all (xs := xs) (ys := ys) (k := k) (by omega)
      have ha : abvB xs ys = false := e2.symm.trans H0.out
      have HE : Hid (leastB xs ys = (blwB xs ys && (xs.length == ys.length))) := by show _ = _; simp [leastB, ha]
      rw [e1]
      clear e1 e2 H0 ha hr hr'
      by_cases hne : xs.length = ys.length
      · have hb : ((xs.length : Int) == (ys.length : Int)) = true := by simp; omega
        have HN : Hid (xs.length = ys.length) := hne
        clear hne
        generalize blwB xs ys = bl at HE ⊢
        cases bl
        · go_wp2_with fail
          go_ret
          exact ⟨rtB (by rw [HE.out]; simp), _, rfl⟩
        · go_wp2_with fail
          go_ret
          exact ⟨rtB (by rw [HE.out]; simp [HN.out]), _, rfl⟩
      · have hb : ((xs.length : Int) == (ys.length : Int)) = false := by simp; omega
        have HN : Hid (¬ xs.length = ys.length) := hne
        clear hne
        generalize blwB xs ys = bl at HE ⊢
        cases bl
        · go_wp2_with fail
          go_ret
          exact ⟨rtB (by rw [HE.out]; simp), _, rfl⟩
        · go_wp2_with fail
          go_ret
          exact ⟨rtB (by rw [HE.out]; simp [HN.out]), _, rfl⟩
end Go.Proofs.Ythbilahilmmfmaa

/- The basis, as the specification tells it. Conditions: at most 1048577 numbers on each side. -/
namespace Go.Proofs.Ythbilahilmmfmaa
set_option maxRecDepth 100000
open Go.RowKit
/-- No rows, or rows in blocks of S. -/
def QI (S : Nat → Prop) (w : World) (a : Option Addr) (rows : List (List Int)) : Prop := rows = [] ∨ RdQI S w a rows
theorem QI.rd {S : Nat → Prop} {w : World} {a : Option Addr} {rows : List (List Int)} (h : QI S w a rows) : RdQ w a rows := by
  rcases h with h | h
  · exact .inl h
  · exact h.rd

/-- What Basis answers. -/
def basP (a b : List Int) : List (List Int) × Bool := if fineB a && fineB b then (if 60 < (basL a b).length then ([], false) else (basL a b, true)) else ([], false)
theorem solL_le (a b : List Int) (ha : fineB a = true) (hb : fineB b = true) : (solL a b).length ≤ 16002 ∧ ∀ x ∈ solL a b, x.length ≤ 10 := by
  simp only [fineB, Bool.and_eq_true, decide_eq_true_eq, List.all_eq_true] at ha hb
  have top : ∀ (l : List Int) (d : Int), 0 ≤ d → d ≤ 4 → (∀ v ∈ l, 1 ≤ v ∧ v ≤ 4) → 0 ≤ l.foldl max d ∧ l.foldl max d ≤ 4 := by
    intro l
    induction l with
    | nil => intro d h0 h1 _; exact ⟨h0, h1⟩
    | cons v l ih => intro d h0 h1 h; have := h v (by simp); exact ih (max d v) (by omega) (by omega) (fun u hu => h u (by simp [hu]))
  have h1 := top a 0 (by omega) (by omega) ha.1
  have h2 := top b 0 (by omega) (by omega) hb.1
  have l1 : (waysL a.length (topL b).toNat).length ≤ 126 := ways_len a.length (by omega) _ (by unfold topL; omega)
  have l2 : (waysL b.length (topL a).toNat).length ≤ 126 := ways_len b.length (by omega) _ (by unfold topL; omega)
  refine ⟨?_, fun x hx => by have := solL_len a b x hx; omega⟩
  have h3 := flat_len (f := fun x => solY a b x (waysL b.length (topL a).toNat)) (m := 126) (waysL a.length (topL b).toNat) (fun x _ => by
    unfold solY
    rw [List.length_map]
    exact Nat.le_trans (List.length_filter_le _ _) l2)
  have h4 : (waysL a.length (topL b).toNat).length * 126 ≤ 126 * 126 := Nat.mul_le_mul_right _ l1
  have e : solL a b = (waysL a.length (topL b).toNat).flatMap (fun x => solY a b x (waysL b.length (topL a).toNat)) := rfl
  rw [e]
  omega

theorem filt_hit {R : List (List Int)} {i : Nat} (hi : i < R.length) (h : minB R R[i] = true) : (R.take (i + 1)).filter (minB R) = (R.take i).filter (minB R) ++ [R[i]] := by
  rw [List.take_succ_eq_append_getElem hi, List.filter_append]; simp [h]
theorem filt_miss {R : List (List Int)} {i : Nat} (hi : i < R.length) (h : minB R R[i] = false) : (R.take (i + 1)).filter (minB R) = (R.take i).filter (minB R) := by
  rw [List.take_succ_eq_append_getElem hi, List.filter_append]; simp [h]

theorem quiet_at {P : Program} {f : FuncId} {args : Array Value} {w : World} {q n : Nat} {v : Value}
    (h : Calls P f args (w.drewN (q + n)) fun e w' => e = .returned v ∧ ∃ m, w' = (w.drewN (q + n)).drewN m) : Calls P f args (w.drewN (q + n)) fun e w'' => e = .returned v ∧ ∃ m, w'' = w.drewN (q + m) :=
  h.mono fun _ _ ⟨he, m, hm⟩ => ⟨he, n + m, by rw [hm, World.drewN_drewN, Nat.add_assoc]⟩

set_option maxHeartbeats 6400000 in
set_option maxRecDepth 100000 in
theorem specBasis_own (a0 a1 : Option Addr) (a b : List Int) (c0 c1 : Nat) (w : World) (hra : Rd w a0 a) (hrb : Rd w a1 b) (hla : a.length ≤ 1048577) (hlb : b.length ≤ 1048577) :
    Calls Try.prog 10 #[.slice a0 a.length c0, .slice a1 b.length c1] w fun e w' => ∃ a' c, e = .returned (.tuple #[.slice a' (basP a b).1.length c, .bool (basP a b).2]) ∧ QI (fun x => w.heap.size ≤ x) w' a' (basP a b).1 ∧ Below w.heap.size w w' := by
  obtain ⟨i0, hi, hz0, hz1, hz2⟩ := info_parts Try.infoR
  obtain ⟨W0, hW0⟩ : ∃ W0, W0 = w.alloc (.cells #[] 24) := ⟨_, rfl⟩
  have hB0 : Below w.heap.size w W0 := by rw [hW0]; exact (Below.refl _ _).alloc (Nat.le_refl _) _
  have HZ0 : Hid (W0.heap.size = w.heap.size + 1) := by show _ = _; rw [hW0]; simp
  have HO0 : Hid (W0.ownsRow w.heap.size 24 1 (.slice (some ⟨w.heap.size, 0, none⟩) 0 0) 0 []) := by rw [hW0]; exact World.ownsRow_made w #[] 0 (Nat.le_refl _) (Nat.zero_le _) rfl
  have F1 := l7Fine_any a0 a c0 W0 (hra.below hB0) hla
  have F2 := l7Fine_any a1 b c1 W0 (hrb.below hB0) hlb
  cases hfa : fineB a with
  | false =>
    have HP : Hid (basP a b = ([], false)) := by show _ = _; simp [basP, hfa]
    rw [hfa] at F1
    clear F2
    rw [HP.out]
    subst hW0
    go_enter Try.func10, Try.ntmps10
    go_wp2_with (go_at_call 43; refine F1.mono ?_; rintro e w1 ⟨rfl, hw⟩; subst w1; clear F1)
    exact bodyPost_ret (v := .tuple #[.slice (some ⟨w.heap.size, 0, none⟩) 0 0, .bool false]) (by simp [results, Try.results10, go_sem]) rfl ⟨_, _, rfl, .inl rfl, hB0⟩
  | true =>
    rw [hfa] at F1
    cases hfb : fineB b with
    | false =>
      have HP : Hid (basP a b = ([], false)) := by show _ = _; simp [basP, hfb]
      rw [hfb] at F2
      rw [HP.out]
      subst hW0
      go_enter Try.func10, Try.ntmps10
      go_wp2_with (go_at_call 43; refine F1.mono ?_; rintro e w1 ⟨rfl, hw⟩; subst w1; clear F1)
      go_wp2_with (go_at_call 43; refine F2.mono ?_; rintro e w1 ⟨rfl, hw⟩; subst w1; clear F2)
      exact bodyPost_ret (v := .tuple #[.slice (some ⟨w.heap.size, 0, none⟩) 0 0, .bool false]) (by simp [results, Try.results10, go_sem]) rfl ⟨_, _, rfl, .inl rfl, hB0⟩
    | true =>
      rw [hfb] at F2
      obtain ⟨hn1, hn2⟩ := solL_le a b hfa hfb
      have C1 := l7All_any a0 a1 a b c0 c1 W0 (hra.below hB0) (hrb.below hB0) hfa hfb
      have HP : Hid (basP a b = if 60 < ((solL a b).filter (minB (solL a b))).length then ([], false) else ((solL a b).filter (minB (solL a b)), true)) := by show _ = _; simp only [basP, hfa, hfb, Bool.and_true, if_true]; rfl
      generalize solL a b = R at C1 HP hn1 hn2
      generalize basP a b = PB at HP ⊢
      have HN2 : Hid (∀ x ∈ R, x.length ≤ 10) := hn2
      clear hn2 hfa hfb
      subst hW0
      go_enter Try.func10, Try.ntmps10
      go_wp2_with (go_at_call 43; refine F1.mono ?_; rintro e w1 ⟨rfl, hw⟩; subst w1; clear F1)
      go_wp2_with (go_at_call 43; refine F2.mono ?_; rintro e w1 ⟨rfl, hw⟩; subst w1; clear F2)
      go_wp2_with (go_at_call 44; refine C1.mono ?_; rintro e w2 ⟨aR, cR, rfl, hq, hb1⟩; have HO2 : Hid (w2.ownsRow w.heap.size 24 1 (.slice (some ⟨w.heap.size, 0, none⟩) 0 0) 0 []) := own_frB HO0.out (hb1.block _ (by have := HZ0.out; omega)); have HQ2 : Hid (RdQI (fun x => w.heap.size < x) w2 aR R) := hq.grow (Stay.refl (fun _ => True) _) (fun _ _ _ => trivial) (fun x hx _ => by have := HZ0.out; omega); have hB2 : Below w.heap.size w w2 := hB0.trans (hb1.mono hB0.size); clear C1 hq hb1)
      go_loopw [6, 8] (fun o i wr => ∃ (k g c : Nat) (vs : List Value), k ≤ R.length ∧ i = .int .i64 k ∧ o = .slice (some ⟨g, 0, none⟩) ((R.take k).filter (minB R)).length c ∧ Hid (wr.ownsRow w.heap.size 24 1 (.slice (some ⟨g, 0, none⟩) ((R.take k).filter (minB R)).length c) ((R.take k).filter (minB R)).length vs) ∧ Hid (RowsV (fun x => w.heap.size ≤ x ∧ x ≠ g) wr vs ((R.take k).filter (minB R))) ∧ Hid (RdQI (fun x => w.heap.size ≤ x ∧ x ≠ g) wr aR R) ∧ Below w.heap.size w wr) (fun _ i _ => R.length - (intOf i).toNat)
      case atStart => exact ⟨0, w.heap.size, 0, [], Nat.zero_le _, rfl, rfl, HO2, ⟨rfl, fun i h => by simp at h⟩, HQ2.out.grow (Stay.refl (fun _ => True) _) (fun _ _ _ => trivial) (fun x hx _ => by omega), hB2⟩
      case round =>
        obtain ⟨k, g, c, vs, hk, rfl, rfl, HO, HV, HQ, hb⟩ := hrel
        clear HO2 HQ2 hB2
        have hfl : ((R.take k).filter (minB R)).length ≤ 16002 := Nat.le_trans (List.length_filter_le _ _) (by simp; omega)
        obtain ⟨F, hF⟩ : ∃ F, (R.take k).filter (minB R) = F := ⟨_, rfl⟩
        rw [hF] at HO HV hfl ⊢
        have HF : Hid ((R.take k).filter (minB R) = F) := hF
        clear hF
        by_cases hk' : k < R.length
        · obtain ⟨b1, o1, ai, ci, rfl, cX, rX⟩ := HQ.out.at_ hk'
          have hki : (k : Int) < (R.length : Int) := by omega
          have hki0 : (0 : Int) ≤ (k : Int) := by omega
          have HH : Hid (minB R R[k] = true → (R.take (k + 1)).filter (minB R) = F ++ [R[k]]) := fun h => by rw [← HF.out]; exact filt_hit hk' h
          have HM : Hid (minB R R[k] = false → (R.take (k + 1)).filter (minB R) = F) := fun h => by rw [← HF.out]; exact filt_miss hk' h
          have hxl := HN2.out R[k] (List.getElem_mem _)
          obtain ⟨x, hx⟩ : ∃ x, R[k] = x := ⟨_, rfl⟩
          rw [hx] at cX rX HH HM hxl
          clear hx
          have hxl' : x.length ≤ 1048577 := by omega
          have HRX : Hid (RdI (fun z => w.heap.size ≤ z ∧ z ≠ g) wr ai x) := rX
          have HCX : Hid (wr.cell? ⟨b1, o1 + k, none⟩ = some (.slice ai x.length ci)) := cX
          have HX : Hid (minB R x = !(R.any (fun y => leastB y x))) := rfl
          clear rX cX
          go_wp2_with fail
          go_loopw [9, 10] (fun l i wv => ∃ (j q : Nat), j ≤ R.length ∧ i = .int .i64 j ∧ l = .bool (!((R.take j).any (fun y => leastB y x))) ∧ wv = wr.drewN q) (fun _ i _ => R.length - (intOf i).toNat)
          case atStart => exact ⟨0, 0, Nat.zero_le _, rfl, by simp, rfl⟩
          case round =>
            obtain ⟨j, q, hj, rfl, rfl, rfl⟩ := hrel
            have hst := drewN_stay (fun _ => True) wr q
            cases hbb : (R.take j).any (fun y => leastB y x) with
            | true =>
              have hmb : minB R x = false := by
                rw [HX.out, Bool.not_eq_false']
                rw [List.any_eq_true] at hbb ⊢
                obtain ⟨y, hy, hy2⟩ := hbb
                exact ⟨y, List.mem_of_mem_take hy, hy2⟩
              have hF1 := HM.out hmb
              rw [show (!true) = false from rfl]
              by_cases hj' : j < R.length
              · have hji : (j : Int) < (R.length : Int) := by omega
                go_wp2_with fail
                go_roundw
                case rel => exact ⟨k + 1, g, c, vs, by omega, by go_num, by rw [hF1], by show World.ownsRow _ _ _ _ _ _ _; rw [hF1]; exact own_frB HO.out rfl, by show RowsV _ _ _ _; rw [hF1]; exact HV.out.grow hst (fun _ _ _ => trivial) (fun _ hx _ => hx), HQ.out.grow hst (fun _ _ _ => trivial) (fun _ hx _ => hx), below_drewN hb _⟩
                case measure => simp [intOf]; omega
              · have hji : ¬ (j : Int) < (R.length : Int) := by omega
                go_wp2_with fail
                go_roundw
                case rel => exact ⟨k + 1, g, c, vs, by omega, by go_num, by rw [hF1], by show World.ownsRow _ _ _ _ _ _ _; rw [hF1]; exact own_frB HO.out rfl, by show RowsV _ _ _ _; rw [hF1]; exact HV.out.grow hst (fun _ _ _ => trivial) (fun _ hx _ => hx), HQ.out.grow hst (fun _ _ _ => trivial) (fun _ hx _ => hx), below_drewN hb _⟩
                case measure => simp [intOf]; omega
            | false =>
              rw [show (!false) = true from rfl]
              by_cases hj' : j < R.length
              · have hji : (j : Int) < (R.length : Int) := by omega
                have hji0 : (0 : Int) ≤ (j : Int) := by omega
                obtain ⟨b2, o2, aj, cj, e2, cY, rY⟩ := HQ.out.at_ hj'
                cases e2
                have hyl := HN2.out R[j] (List.getElem_mem _)
                have HT : Hid ((R.take (j + 1)).any (fun y => leastB y x) = leastB R[j] x) := by
                  show _ = _
                  rw [List.take_succ_eq_append_getElem hj', List.any_append, hbb]; simp
                obtain ⟨y, hy⟩ : ∃ y, R[j] = y := ⟨_, rfl⟩
                rw [hy] at cY rY hyl HT
                clear hy
                have cX := HCX.out
                have C5 := fun m => specLeast_any aj ai y x _ cj _ ci (wr.drewN m) rfl rfl (rY.rd.drewN m) (HRX.out.rd.drewN m) (by omega) hxl'
                clear HO HV HQ HH HM hst
                go_wp2_with fail
                go_quiet ((go_at_call 17; refine quiet_at (C5 _)))
                go_wp2_with fail
                go_roundw
                case rel => exact ⟨j + 1, q + nq, by omega, by go_num, by rw [HT.out], rfl⟩
                case measure => simp [intOf]; omega
              · have hji : ¬ (j : Int) < (R.length : Int) := by omega
                have hmb : minB R x = true := by
                  rw [List.take_of_length_le (by omega)] at hbb
                  rw [HX.out, hbb]; rfl
                have HS : Hid _ := HH.out hmb
                have hlF : ((R.take (k + 1)).filter (minB R)).length = F.length + 1 := by rw [HS.out]; simp
                have cX := HCX.out
                have hgl := HO.out.lt g rfl
                have HOq : Hid ((wr.drewN q).ownsRow w.heap.size 24 1 (.slice (some ⟨g, 0, none⟩) F.length c) F.length vs) := own_frB HO.out rfl
                clear HH HM
                go_wp2_with (at_builtin; refine wpList_append_own_at _ rfl (.tmp 50) (.tmp 55) 27 rfl w.heap.size 24 i0 (.slice none 0 0) 1 24 Try.underlying27 hi hz0 hz1 hz2 rfl (by decide) _ F.length vs rfl (HOq.out.alloc _) ⟨wr.heap.size, 0, none⟩ 1 1 [.slice ai x.length ci] rfl rfl (one_new _ _ _) (slice_one _ _ _) (by unfold maxLen; omega) (by omega) (by simp; have := hb.size; omega) ?_; intro v9 w9 hown9 hgrow9 hnil9 hat9; obtain ⟨g9, c9, rfl⟩ := own_some hown9 hnil9; have hg9 := own_at hat9; have HO9 : Hid (w9.ownsRow w.heap.size 24 1 (.slice (some ⟨g9, 0, none⟩) (F.length + 1) c9) (F.length + 1) (vs ++ [.slice ai x.length ci])) := hown9; have HS9 : Hid (Stay (fun x => x ≠ g) (wr.drewN q) w9) := two_stay (Below.refl _ _) hgrow9; clear hnil9 hgrow9 hat9 hown9)
                have hst9 : Stay (fun x => x ≠ g) wr w9 := (hst.weak (fun _ _ _ => trivial)).trans HS9.out
                go_roundw
                case rel =>
                  have hzw := hb.size
                  have hzq : (wr.drewN q).heap.size = wr.heap.size := rfl
                  have hz9 := hst9.size
                  simp only [World.size_alloc] at hg9
                  refine ⟨k + 1, g9, c9, vs ++ [.slice ai x.length ci], by omega, by go_num, by rw [hlF], ?_, ?_, ?_, ?_⟩
                  · show World.ownsRow _ _ _ _ _ _ _
                    rw [hlF]; exact HO9.out
                  · show RowsV _ _ _ _
                    rw [HS.out]
                    exact (HV.out.grow hst9 (fun z hz _ => hz.2) (fun z hz hzl => ⟨hz.1, by have := hz.2; omega⟩)).snoc (HRX.out.grow hst9 (fun z hz _ => hz.2) (fun z hz hzl => ⟨hz.1, by have := hz.2; omega⟩))
                  · exact HQ.out.grow hst9 (fun z hz _ => hz.2) (fun z hz hzl => ⟨hz.1, by have := hz.2; omega⟩)
                  · exact hb.trans (hst9.below (by omega) (fun z hz => by omega))
                case measure => simp [intOf]; omega
        · have hki : ¬ (k : Int) < (R.length : Int) := by omega
          have e : R.take k = R := List.take_of_length_le (by omega)
          have hPB := HP.out
          rw [e] at HF
          rw [HF.out] at hPB
          have hgl := HO.out.lt g rfl
          have hQ : RdQI (fun x => w.heap.size ≤ x) wr (some ⟨g, 0, none⟩) F := HV.out.rd rfl HO.out hgl.1 (fun x hx => hx.1)
          by_cases h60 : 60 < F.length
          · rw [if_pos h60] at hPB
            have h6 : (60 : Int) < (F.length : Int) := by omega
            clear hQ HO HV HQ HF HP
            go_wp2_with fail
            exact bodyPost_ret (v := .tuple #[.slice (some ⟨wr.heap.size, 0, none⟩) 0 0, .bool false]) (by simp [results, Try.results10, go_sem]) rfl (by first | (rw [hPB]; exact ⟨_, _, rfl, .inl rfl, hb.alloc hb.size _⟩) | exact ⟨_, ⟨_, rfl⟩, .inl rfl, hb.alloc hb.size _⟩)
          · rw [if_neg h60] at hPB
            have h6 : ¬ (60 : Int) < (F.length : Int) := by omega
            have HQQ : Hid (QI (fun x => w.heap.size ≤ x) wr (some ⟨g, 0, none⟩) F) := .inr hQ
            clear hQ HO HV HQ HF HP
            go_wp2_with fail
            exact bodyPost_ret (v := .tuple #[.slice (some ⟨g, 0, none⟩) F.length c, .bool true]) (by simp [results, Try.results10, go_sem]) rfl (by first | (rw [hPB]; exact ⟨_, _, rfl, HQQ.out, hb⟩) | exact ⟨_, ⟨_, rfl⟩, HQQ.out, hb⟩)
theorem specBasis_any (a0 a1 : Option Addr) (a b : List Int) (c0 c1 : Nat) (w : World) (hra : Rd w a0 a) (hrb : Rd w a1 b) (hla : a.length ≤ 1048577) (hlb : b.length ≤ 1048577) :
    Calls Try.prog 10 #[.slice a0 a.length c0, .slice a1 b.length c1] w fun e w' => ∃ a' c, e = .returned (.tuple #[.slice a' (basP a b).1.length c, .bool (basP a b).2]) ∧ RdQ w' a' (basP a b).1 ∧ Below w.heap.size w w' :=
  (specBasis_own a0 a1 a b c0 c1 w hra hrb hla hlb).mono (fun _ _ ⟨a', c, h1, h2, h3⟩ => ⟨a', c, h1, h2.rd, h3⟩)
end Go.Proofs.Ythbilahilmmfmaa

/- Rows of numbers of the call's own, each in a block of its own, with what room it may have. Conditions: none. -/
namespace Go.Proofs.Ythbilahilmmfmaa
set_option maxRecDepth 100000
open Go.RowKit

structure RowO (S : Nat → Prop) (lo : Nat) (v : Value) (W : World) (gs : List (Nat × Nat)) (rows : List (List Int)) : Prop where
  len : gs.length = rows.length
  own : ∀ i, (h : i < gs.length) → (h' : i < rows.length) → W.ownsRow lo 3 1 (.slice (some ⟨gs[i].1, 0, none⟩) rows[i].length gs[i].2) rows[i].length (ints rows[i])
  s : ∀ p ∈ gs, S p.1 ∧ lo ≤ p.1 ∧ v.ownBlock ≠ some p.1
  nd : (gs.map Prod.fst).Nodup
def cellsG (gs : List (Nat × Nat)) (rows : List (List Int)) : List Value := List.zipWith (fun p r => Value.slice (some ⟨p.1, 0, none⟩) r.length p.2) gs rows
theorem cellsG_snoc {gs : List (Nat × Nat)} {rows : List (List Int)} {g c : Nat} {row : List Int} (h : gs.length = rows.length) : cellsG (gs ++ [(g, c)]) (rows ++ [row]) = cellsG gs rows ++ [.slice (some ⟨g, 0, none⟩) row.length c] := by
  unfold cellsG; rw [List.zipWith_append h]; simp
theorem own_low {w : World} {base base' : Nat} {e : TypeId} {size : Nat} {v : Value} {n : Nat} {xs : List Value} (h : w.ownsRow base e size v n xs) (hb : base' ≤ base) : w.ownsRow base' e size v n xs := by
  obtain ⟨h1, h2⟩ := h
  refine ⟨h1, ?_⟩
  rcases h2 with h | ⟨g, cap, cur, q, hg, r⟩
  · exact .inl h
  · exact .inr ⟨g, cap, cur, q, Nat.le_trans hb hg, r⟩
theorem RowO.nil (S : Nat → Prop) (lo : Nat) (v : Value) (W : World) : RowO S lo v W [] [] :=
  ⟨rfl, fun i h => by simp at h, fun p h => by simp at h, by simp⟩
theorem RowO.rows {S : Nat → Prop} {lo : Nat} {v : Value} {W : World} {gs : List (Nat × Nat)} {L : List (List Int)} (h : RowO S lo v W gs L) : RowsV (fun x => S x ∧ lo ≤ x ∧ v.ownBlock ≠ some x) W (cellsG gs L) L := by
  have hl := h.len
  refine ⟨by simp [cellsG, hl], fun i h1 h2 => ?_⟩
  have hg : i < gs.length := by omega
  exact ⟨some ⟨gs[i].1, 0, none⟩, gs[i].2, by simp [cellsG], own_rdi rfl (h.own i hg h2) (h.s _ (List.getElem_mem hg))⟩
theorem RowO.grow {S S' T : Nat → Prop} {lo : Nat} {v v' : Value} {A W : World} {gs : List (Nat × Nat)} {L : List (List Int)} (h : RowO S lo v A gs L) (hs : Stay T A W) (ht : ∀ x, S x → lo ≤ x → v.ownBlock ≠ some x → T x)
    (hS : ∀ x, S x → lo ≤ x → v.ownBlock ≠ some x → x < A.heap.size → S' x ∧ v'.ownBlock ≠ some x) : RowO S' lo v' W gs L := by
  have hl := h.len
  refine ⟨hl, fun i h1 h2 => own_stay (h.own i h1 h2) hs (fun g hg => ?_), fun p hp => ?_, h.nd⟩
  · have e : gs[i].1 = g := by simpa [Value.ownBlock] using hg
    obtain ⟨q1, q2, q3⟩ := h.s _ (List.getElem_mem h1)
    rw [e] at q1 q2 q3
    exact ht g q1 q2 q3
  · obtain ⟨i, hi, rfl⟩ := List.mem_iff_getElem.1 hp
    obtain ⟨q1, q2, q3⟩ := h.s _ hp
    obtain ⟨r1, r2⟩ := hS _ q1 q2 q3 ((h.own i hi (by omega)).lt _ rfl).2
    exact ⟨r1, q2, r2⟩
theorem RowO.snoc {S : Nat → Prop} {lo : Nat} {v : Value} {W : World} {gs : List (Nat × Nat)} {L : List (List Int)} {g c : Nat} {row : List Int} (h : RowO S lo v W gs L) (ho : W.ownsRow lo 3 1 (.slice (some ⟨g, 0, none⟩) row.length c) row.length (ints row)) (hg : S g ∧ lo ≤ g ∧ v.ownBlock ≠ some g)
    (hn : ∀ p ∈ gs, p.1 ≠ g) : RowO S lo v W (gs ++ [(g, c)]) (L ++ [row]) := by
  have hl := h.len
  refine ⟨by simp [hl], fun i h1 h2 => ?_, fun p hp => ?_, ?_⟩
  · by_cases hi : i < gs.length
    · have hi2 : i < L.length := by omega
      simp only [List.getElem_append_left hi, List.getElem_append_left hi2]
      exact h.own i hi hi2
    · have e : i = gs.length := by simp at h1; omega
      subst e
      have e2 : (L ++ [row])[gs.length]'h2 = row := by simp [hl]
      rw [e2]
      simp only [List.getElem_concat_length]
      exact ho
  · rcases List.mem_append.1 hp with q | q
    · exact h.s p q
    · rw [List.mem_singleton.1 q]; exact hg
  · rw [List.map_append, List.nodup_append]
    refine ⟨h.nd, by simp, fun x hx y hy e => ?_⟩
    obtain ⟨p, hp, rfl⟩ := List.mem_map.1 hx
    simp at hy
    exact hn p hp (e.trans hy)
end Go.Proofs.Ythbilahilmmfmaa

