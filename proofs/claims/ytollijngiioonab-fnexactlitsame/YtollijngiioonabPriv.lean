/- A range over a function whose iterator keeps memory of its own: what it promises the loop's body, and what the body promises it, told by sets of blocks; the statement's law. Conditions: none. -/
import Derived.RangeFuncNested
import Derived.RangeFuncCalls
import Derived.RangeFuncLeaves
import Derived.Below
namespace Go.Proofs.Ytollijngiioonab
set_option maxRecDepth 100000
open Go.RowKit

/-- All blocks of S lie as they lay. -/
structure Stay (S : Nat → Prop) (w w' : World) : Prop where
  os : w'.os = w.os
  tape : w'.tape = w.tape
  output : w'.output = w.output
  size : w.heap.size ≤ w'.heap.size
  block : ∀ k, k < w.heap.size → S k → w'.heap[k]? = w.heap[k]?

theorem Stay.refl (S : Nat → Prop) (w : World) : Stay S w w := ⟨rfl, rfl, rfl, Nat.le_refl _, fun _ _ _ => rfl⟩
theorem Stay.trans {S : Nat → Prop} {a b c : World} (h : Stay S a b) (k : Stay S b c) : Stay S a c :=
  ⟨k.os.trans h.os, k.tape.trans h.tape, k.output.trans h.output, Nat.le_trans h.size k.size, fun i hi hs => (k.block i (Nat.lt_of_lt_of_le hi h.size) hs).trans (h.block i hi hs)⟩
theorem Stay.weak {S T : Nat → Prop} {a b : World} (h : Stay S a b) (ht : ∀ k, k < a.heap.size → T k → S k) : Stay T a b :=
  ⟨h.os, h.tape, h.output, h.size, fun k hk hs => h.block k hk (ht k hk hs)⟩
theorem Stay.below {S : Nat → Prop} {a b : World} {B : Nat} (h : Stay S a b) (hB : B ≤ a.heap.size) (hs : ∀ k, k < B → S k) : Below B a b :=
  ⟨h.os, h.tape, h.output, h.size, fun k hk => h.block k (by omega) (hs k hk)⟩
theorem Stay.of_below {S : Nat → Prop} {a b : World} {B : Nat} (h : Below B a b) (hs : ∀ k, k < a.heap.size → S k → k < B) : Stay S a b :=
  ⟨h.os, h.tape, h.output, h.size, fun k hk hk' => h.block k (hs k hk hk')⟩
theorem Stay.grown {S : Nat → Prop} {a b : World} {row : Option Nat} (h : a.grownBy b row) (hr : ∀ k, row = some k → ¬ S k) : Stay S a b :=
  ⟨h.os, h.tape, h.output, h.size, fun k hk hs => h.block k hk (fun e => hr k e.symm hs)⟩
theorem Stay.putObj {S : Nat → Prop} (a : World) {r : Nat} (o : Obj) (hr : ¬ S r) : Stay S a (a.putObj r o) :=
  .grown (grownBy_putObj' a r o) (fun k e => by cases e; exact hr)
theorem Stay.setCell {S : Nat → Prop} (a : World) {p : Addr} (v : Value) (hr : ¬ S p.block) : Stay S a (a.setCell p v) :=
  ⟨rfl, rfl, rfl, by simp [World.setCell], fun k _ hs => Below.heap_setCell _ _ _ _ (fun e => hr (e ▸ hs))⟩
theorem Stay.alloc (S : Nat → Prop) (a : World) (o : Obj) : Stay S a (a.alloc o) :=
  ⟨rfl, rfl, rfl, by simp, fun k hk _ => Below.heap_alloc _ _ _ hk⟩
theorem Stay.drew (S : Nat → Prop) (a : World) : Stay S a a.drew := ⟨rfl, rfl, rfl, Nat.le_refl _, fun _ _ _ => rfl⟩
theorem Stay.cell {S : Nat → Prop} {a b : World} (h : Stay S a b) {p : Addr} {v : Value} (hc : a.cell? p = some v) (hs : S p.block) : b.cell? p = some v :=
  (World.cell?_of_block (h.block p.block (World.block_lt_of_cell? a p hc) hs)).trans hc
theorem Stay.frozen {S : Nat → Prop} {a b : World} (h : Stay S a b) {p : Addr} (hl : p.block < a.heap.size) (hs : S p.block) : b.frozen? p = a.frozen? p :=
  World.frozen?_of_block (h.block p.block hl hs)

/-- The iterator's word: whatever stays while the blocks of S do is not turned by it; the body's: below n₀, and outside S, nothing is turned. -/
def SeqPriv {α : Type} (F : Fence) (n : Nat) (P : Program) (g : Nat) (lb : Array Value) (encs : α → Array Value) (n₀ : Nat) (Sa Sp : List α → Prop) (Ok : List α → α → Prop) (N : Nat) (w : World) : Prop :=
  ∀ (l : Nat) (J Jx : List α → (Nat → Prop) → World → Prop) (S₀ : Nat → Prop) (W : World), Below w.heap.size w W →
    (∀ pre S A B, J pre S A → Stay S A B → J pre S B) → (∀ pre S A B, Jx pre S A → Stay S A B → Jx pre S B) → (∀ pre S A, J pre S A → ∀ k, S k → k < A.heap.size) →
    (∀ pre x S A, J pre S A → pre.length < N → Ok pre x → YieldAt F (n - 1) P l (encs x) A fun e B =>
      (e = .returned (.bool true) ∧ ∃ S', J (pre ++ [x]) S' B ∧ (∀ k, S' k → S k ∨ A.heap.size ≤ k) ∧ Stay (fun k => k < n₀ ∨ ¬ S k) A B) ∨
      (e = .returned (.bool false) ∧ ∃ S', Jx (pre ++ [x]) S' B)) →
    J [] S₀ W →
    CallsIn F n P g (#[.func (.yield l) #[] #[]] ++ lb) W fun e B => (∃ v, e = .returned v) ∧ ((∃ xs S', Sa xs ∧ J xs S' B) ∨ (∃ pre S', Sp pre ∧ Jx pre S' B))

/-- How the body of a round may be left. -/
def privPost {α : Type} (n₀ : Nat) (I : List α → (Nat → Prop) → World → Prop) (Ix : Code → List α → (Nat → Prop) → World → Prop) (xs : List α) (S : Nat → Prop) (W : World) : Exit → Act → World → Prop
  | .normal, _, B => ∃ S', I xs S' B ∧ (∀ k, S' k → S k ∨ W.heap.size ≤ k) ∧ Stay (fun k => k < n₀ ∨ ¬ S k) W B
  | .ret, _, B => ∃ S', Ix .ret xs S' B ∧ (∀ k, S' k → S k ∨ W.heap.size ≤ k) ∧ Stay (fun k => k < n₀ ∨ ¬ S k) W B
  | .exit id, _, B => ∃ S', Ix (.exit id) xs S' B ∧ (∀ k, S' k → S k ∨ W.heap.size ≤ k) ∧ Stay (fun k => k < n₀ ∨ ¬ S k) W B
  | .goto t, _, B => ∃ S', Ix (.goto t) xs S' B ∧ (∀ k, S' k → S k ∨ W.heap.size ≤ k) ∧ Stay (fun k => k < n₀ ∨ ¬ S k) W B
  | .panic _, _, _ => False
  | .outgrown, _, _ => False

variable {F : Fence} {n : Nat} {P : Program}

theorem wpIn_rangeFunc_priv {α : Type} {g : Operand} {ps : Array Tmp} {assign body : Code} {Q : Exit → Act → World → Prop} {a : Act} {w : World}
    (hro : F.round = none) (h1 : 1 ≤ n) {gf : Nat} {lb : Array Value} (hg : a.eval g = .func (.func gf) #[] lb) (hFg : F.fn gf) (eg : ∀ args w, (callFunc gf args).run P w = .ok (.enter gf args) w)
    {encs : α → Array Value} {n₀ : Nat} {Sa Sp : List α → Prop} {Ok : List α → α → Prop} {N : Nat} {w0 : World} (hseq : SeqPriv F (n - 1) P gf lb encs n₀ Sa Sp Ok N w0) (hn₀ : n₀ ≤ w.heap.size) (hb0 : Below w0.heap.size w0 w) (hps : ∀ x, (encs x).size = ps.size)
    (I : List α → (Nat → Prop) → World → Prop) (Ix : Code → List α → (Nat → Prop) → World → Prop)
    (hI : ∀ pre S A B, I pre S A → Stay S A B → I pre S B) (hIx : ∀ c pre S A B, Ix c pre S A → Stay S A B → Ix c pre S B)
    (hIb : ∀ pre S A, I pre S A → ∀ k, S k → k < A.heap.size) (S₀ : Nat → Prop) (hS₀ : ∀ k, S₀ k → k < w.heap.size) (h0 : I [] S₀ w)
    (Ax : List α → α → (Nat → Prop) → Act → World → Prop) (hAx : ∀ pre x S a A B, Ax pre x S a A → Stay S A B → Ax pre x S a B)
    (hassign : ∀ (l : Nat) (pre : List α) (x : α) (S : Nat → Prop) (W : World) (K : Act → World → Prop), I pre S W → pre.length < N → Ok pre x →
      (∀ a₁ S₁ W₁, Ax pre x S₁ a₁ W₁ → (∀ k, S₁ k → S k ∨ W.heap.size ≤ k) → Stay (fun k => k < n₀ ∨ ¬ S k) W W₁ → K a₁ W₁) →
      assign.wpIn (F.inRound l) (n - 1 - 1) P (Exit.then K (fun _ _ _ => False)) { tmps := (ps.zip (encs x)).foldl (fun t (p, v) => t.setIfInBounds p v) a.tmps, defers := [] } W)
    (hbody : ∀ (l : Nat) (pre : List α) (x : α) (S : Nat → Prop) (a₁ : Act) (W : World), Ax pre x S a₁ W → pre.length < N → Ok pre x → body.wpIn (F.inRound l) (n - 1 - 1) P (privPost n₀ I Ix (pre ++ [x]) S W) a₁ W)
    (hdone : ∀ (D : Nat) (xs : List α) (S : Nat → Prop) (W : World), Sa xs → I xs S W → W.heap[D]? = some (.deferred (some [])) → w.heap.size ≤ D → ¬ S D → Q .normal { a with defers := { target := .collected D, args := #[] } :: a.defers } W)
    (hstop : ∀ (D : Nat) (c : Code) (pre : List α) (S : Nat → Prop) (W : World), Sp pre → Ix c pre S W → W.heap[D]? = some (.deferred (some [])) → w.heap.size ≤ D → ¬ S D → c.wpIn F n P Q { a with defers := { target := .collected D, args := #[] } :: a.defers } W) :
    (Code.rangeFunc g ps assign body).wpIn F n P Q a w := by
  refine wpIn_rangeFunc ?_
  intro fn hfn
  rw [hro]
  obtain ⟨rec, hrec⟩ : ∃ rec : LoopState → Option Code → Loop, rec = fun st pe => { state := st, pending := pe, fn, tmps := a.tmps, params := ps, assign, body, defers := w.heap.size } := ⟨_, rfl⟩
  obtain ⟨W1, hW1⟩ : ∃ W1, (w.alloc (.deferred (some []))).alloc (.loop (rec .ready none)) = W1 := ⟨_, rfl⟩
  have hL1 : W1.heap[w.heap.size + 1]? = some (.loop (rec .ready none)) := by
    rw [← hW1]; have := World.alloc_heap_new (w.alloc (.deferred (some []))) (.loop (rec .ready none)); rwa [World.size_alloc] at this
  have hK1 : W1.heap[w.heap.size]? = some (.deferred (some [])) := by
    rw [← hW1]; exact (Below.heap_alloc _ _ _ (by simp)).trans (World.alloc_heap_new w _)
  have hI1 : I [] S₀ W1 := by rw [← hW1]; exact hI _ _ _ _ (hI _ _ _ _ h0 (.alloc _ _ _)) (.alloc _ _ _)
  have hb1 : Below w0.heap.size w0 W1 := by
    rw [← hW1]; exact hb0.trans ((((Below.refl _ w).alloc (Nat.le_refl _) _).alloc (by simp) _).mono hb0.size)
  have hsz : ∀ {A : World} {r : Loop}, A.heap[w.heap.size + 1]? = some (.loop r) → w.heap.size + 1 < A.heap.size := fun h => (Array.getElem?_eq_some_iff.1 h).1
  refine ⟨w.heap.size + 1, [{ target := .collected w.heap.size, args := #[] }], W1, { target := .fn (.func gf) lb, args := #[.func (.yield (w.heap.size + 1)) #[] #[]] }, W1, gf,
    #[.func (.yield (w.heap.size + 1)) #[] #[]] ++ lb, W1, ?_, ?_, ?_, ?_, fun _ => h1, ?_⟩
  · rw [← hW1, hrec]; exact run_enterLoop_outer _ _ _ _ _
  · simp only [resolve, hg]
    simp [go_sem]
  · intro f' hf'; simp [Target.leads] at hf'; subst hf'; exact hFg
  · simp [invoke, go_sem, eg]
  · -- the sets: the caller's, and the two blocks of the loop
    have hst : ∀ {A B : World} {T S : Nat → Prop}, (∀ k, S k ↔ T k ∨ k = w.heap.size ∨ k = w.heap.size + 1) → Stay S A B → Stay T A B := fun hS h => h.weak (fun k _ ht => (hS k).2 (.inl ht))
    refine (hseq (w.heap.size + 1)
      (fun pre S W => ∃ T : Nat → Prop, (∀ k, S k ↔ T k ∨ k = w.heap.size ∨ k = w.heap.size + 1) ∧ (∀ k, T k → k ≠ w.heap.size ∧ k ≠ w.heap.size + 1) ∧ I pre T W ∧ W.heap[w.heap.size + 1]? = some (.loop (rec .ready none)) ∧ W.heap[w.heap.size]? = some (.deferred (some [])))
      (fun pre S W => ∃ T : Nat → Prop, (∀ k, S k ↔ T k ∨ k = w.heap.size ∨ k = w.heap.size + 1) ∧ (∀ k, T k → k ≠ w.heap.size ∧ k ≠ w.heap.size + 1) ∧ ∃ c, Ix c pre T W ∧ W.heap[w.heap.size + 1]? = some (.loop (rec .done (some c))) ∧ W.heap[w.heap.size]? = some (.deferred (some [])))
      (fun k => S₀ k ∨ k = w.heap.size ∨ k = w.heap.size + 1) W1 hb1 ?_ ?_ ?_ ?_ ⟨S₀, fun k => Iff.rfl, fun k hk => by have := hS₀ k hk; omega, hI1, hL1, hK1⟩).mono ?_
    · rintro pre S A B ⟨T, hS, hT, hi, hl, hk⟩ h
      have hlt := hsz hl
      exact ⟨T, hS, hT, hI _ _ _ _ hi (hst hS h), (h.block _ hlt ((hS _).2 (.inr (.inr rfl)))).trans hl, (h.block _ (by omega) ((hS _).2 (.inr (.inl rfl)))).trans hk⟩
    · rintro pre S A B ⟨T, hS, hT, c, hi, hl, hk⟩ h
      have hlt := hsz hl
      exact ⟨T, hS, hT, c, hIx _ _ _ _ _ hi (hst hS h), (h.block _ hlt ((hS _).2 (.inr (.inr rfl)))).trans hl, (h.block _ (by omega) ((hS _).2 (.inr (.inl rfl)))).trans hk⟩
    · rintro pre S A ⟨T, hS, hT, hi, hl, hk⟩ k hk'
      have hlt := hsz hl
      rcases (hS k).1 hk' with h | h | h
      · exact hIb _ _ _ hi k h
      · omega
      · omega
    · -- one round
      rintro pre x S W ⟨T, hS, hT, hi, hl, hk⟩ hlen hok
      have hlt := hsz hl
      have nL : ¬ T (w.heap.size + 1) := fun h => (hT _ h).2 rfl
      have nD : ¬ T w.heap.size := fun h => (hT _ h).1 rfl
      have hy := run_yield (P := P) (args := encs x) hl (by rw [hrec]; exact hps x)
      rw [hrec] at hy
      refine ⟨fn, _, assign, body, hy, roundIn_of_wpIn hfn (hassign _ pre x T W _ hi hlen hok ?_)⟩
      intro a₁ T₁ W₁ hax hT₁ hst₁
      have hL₁ := (hst₁.block (w.heap.size + 1) hlt (.inr nL)).trans hl
      have hD₁ := (hst₁.block w.heap.size (by omega) (.inr nD)).trans hk
      have nL₁ : ¬ T₁ (w.heap.size + 1) := fun h => (hT₁ _ h).elim nL (fun h => by omega)
      have nD₁ : ¬ T₁ w.heap.size := fun h => (hT₁ _ h).elim nD (fun h => by omega)
      have hz₁ := hst₁.size
      refine ⟨_, run_beginRound hL₁ (by rw [hrec]), ?_⟩
      obtain ⟨W2, hW2⟩ : ∃ W2, W2 = W₁.putObj (w.heap.size + 1) (.loop { rec .ready none with state := .busy }) := ⟨_, rfl⟩
      rw [← hW2]
      have hl2 : W2.heap[w.heap.size + 1]? = some (.loop { rec .ready none with state := .busy }) := by rw [hW2]; exact World.putObj_heap_same (by omega)
      have hk2 : W2.heap[w.heap.size]? = some (.deferred (some [])) := by rw [hW2]; exact (World.putObj_heap_other (by omega)).trans hD₁
      have hz2 : W2.heap.size = W₁.heap.size := by rw [hW2]; simp
      have hi2 : Ax pre x T₁ a₁ W2 := by rw [hW2]; exact hAx _ _ _ _ _ _ hax (.putObj _ _ nL₁)
      have hs2 : Stay (fun k => k < n₀ ∨ ¬ S k) W W2 := by
        rw [hW2]
        exact (hst₁.weak (fun k _ h => h.elim .inl (fun h => .inr (fun ht => h ((hS _).2 (.inl ht)))))).trans (.putObj _ _ (fun h => h.elim (fun h => by omega) (fun h => h ((hS _).2 (.inr (.inr rfl))))))
      have sub₁ : ∀ k, k < W.heap.size → T₁ k → T k := fun k hk h => (hT₁ k h).elim id (fun h => by omega)
      refine wpIn_mono (hbody _ pre x T₁ a₁ W2 hi2 hlen hok) ?_
      have fin : ∀ (jump : Option Code) (W3 : World), Stay (fun k => k < n₀ ∨ ¬ T₁ k) W2 W3 →
          (Instr.endRound (w.heap.size + 1) jump).run P W3 = .ok (.bool jump.isNone) (W3.putObj (w.heap.size + 1) (.loop (rec (if jump.isNone then .ready else .done) jump))) ∧
          (W3.putObj (w.heap.size + 1) (.loop (rec (if jump.isNone then .ready else .done) jump))).heap[w.heap.size + 1]? = some (.loop (rec (if jump.isNone then .ready else .done) jump)) ∧
          (W3.putObj (w.heap.size + 1) (.loop (rec (if jump.isNone then .ready else .done) jump))).heap[w.heap.size]? = some (.deferred (some [])) ∧
          Stay (fun k => k < n₀ ∨ ¬ S k) W (W3.putObj (w.heap.size + 1) (.loop (rec (if jump.isNone then .ready else .done) jump))) := fun jump W3 hk3 => by
        have hl3 := (hk3.block (w.heap.size + 1) (by omega) (.inr nL₁)).trans hl2
        have hd3 := (hk3.block w.heap.size (by omega) (.inr nD₁)).trans hk2
        have := run_endRound (P := P) jump hl3
        rw [hrec] at this ⊢
        refine ⟨this, World.putObj_heap_same (Array.getElem?_eq_some_iff.1 hl3).1, (World.putObj_heap_other (by omega)).trans hd3, ?_⟩
        have h34 : Stay (fun k => (k < n₀ ∨ ¬ S k) ∧ k < W.heap.size) W W3 := (hs2.weak (fun _ _ h => h.1)).trans (hk3.weak (fun k _ h => h.1.elim .inl (fun h' => .inr (fun ht => h' ((hS _).2 (.inl (sub₁ k h.2 ht)))))))
        exact (h34.weak (fun k hk h => ⟨h, hk⟩)).trans (.putObj _ _ (fun h => h.elim (fun h => by omega) (fun h => h ((hS _).2 (.inr (.inr rfl))))))
      have sub : ∀ {T' : Nat → Prop}, (∀ k, T' k → T₁ k ∨ W2.heap.size ≤ k) → (∀ k, T' k → k ≠ w.heap.size ∧ k ≠ w.heap.size + 1) ∧ (∀ k, (T' k ∨ k = w.heap.size ∨ k = w.heap.size + 1) → S k ∨ W.heap.size ≤ k) := fun hT' =>
        ⟨fun k hk => (hT' k hk).elim (fun h => (hT₁ k h).elim (hT k) (fun h => by omega)) (fun h => by omega), fun k hk => hk.elim (fun h => (hT' k h).elim (fun h => (hT₁ k h).elim (fun h => .inl ((hS _).2 (.inl h))) .inr) (fun h => .inr (by omega))) (fun h => .inl ((hS _).2 (.inr h)))⟩
      rintro e a3 W3 hp
      cases e with
      | normal =>
        obtain ⟨T', hi3, hT', hk3⟩ := hp
        obtain ⟨hr, hl4, hk4, hst4⟩ := fin none W3 hk3
        obtain ⟨q1, q2⟩ := sub hT'
        exact ⟨_, _, hr, .inl ⟨rfl, fun k => T' k ∨ k = w.heap.size ∨ k = w.heap.size + 1, ⟨T', fun k => Iff.rfl, q1, hI _ _ _ _ hi3 (.putObj _ _ (fun h => (q1 _ h).2 rfl)), hl4, hk4⟩, q2, hst4⟩⟩
      | ret =>
        obtain ⟨T', hi3, hT', hk3⟩ := hp
        obtain ⟨hr, hl4, hk4, hst4⟩ := fin (some .ret) W3 hk3
        obtain ⟨q1, q2⟩ := sub hT'
        exact ⟨_, _, hr, .inr ⟨rfl, fun k => T' k ∨ k = w.heap.size ∨ k = w.heap.size + 1, T', fun k => Iff.rfl, q1, .ret, hIx _ _ _ _ _ hi3 (.putObj _ _ (fun h => (q1 _ h).2 rfl)), hl4, hk4⟩⟩
      | exit id =>
        obtain ⟨T', hi3, hT', hk3⟩ := hp
        obtain ⟨hr, hl4, hk4, hst4⟩ := fin (some (.exit id)) W3 hk3
        obtain ⟨q1, q2⟩ := sub hT'
        exact ⟨_, _, hr, .inr ⟨rfl, fun k => T' k ∨ k = w.heap.size ∨ k = w.heap.size + 1, T', fun k => Iff.rfl, q1, .exit id, hIx _ _ _ _ _ hi3 (.putObj _ _ (fun h => (q1 _ h).2 rfl)), hl4, hk4⟩⟩
      | goto t =>
        obtain ⟨T', hi3, hT', hk3⟩ := hp
        obtain ⟨hr, hl4, hk4, hst4⟩ := fin (some (.goto t)) W3 hk3
        obtain ⟨q1, q2⟩ := sub hT'
        exact ⟨_, _, hr, .inr ⟨rfl, fun k => T' k ∨ k = w.heap.size ∨ k = w.heap.size + 1, T', fun k => Iff.rfl, q1, .goto t, hIx _ _ _ _ _ hi3 (.putObj _ _ (fun h => (q1 _ h).2 rfl)), hl4, hk4⟩⟩
      | panic ch => exact hp.elim
      | outgrown => exact hp.elim
    · -- behind the iterator
      rintro e W2 ⟨⟨v, rfl⟩, (⟨xs, S, hSa, T, hS, hT, hi, hl, hk⟩ | ⟨pre, S, hSp, T, hS, hT, c, hi, hl, hk⟩)⟩
      · exact ⟨none, _, by have := run_endLoop (P := P) hl (by rw [hrec]; simp); rw [hrec] at this; exact this, hdone _ xs T _ hSa (hI _ _ _ _ hi (.putObj _ _ (fun h => (hT _ h).2 rfl))) ((World.putObj_heap_other (by omega)).trans hk) (Nat.le_refl _) (fun h => (hT _ h).1 rfl)⟩
      · exact ⟨some c, _, by have := run_endLoop (P := P) hl (by rw [hrec]; simp); rw [hrec] at this; exact this, hstop _ c pre T _ hSp (hIx _ _ _ _ _ hi (.putObj _ _ (fun h => (hT _ h).2 rfl))) ((World.putObj_heap_other (by omega)).trans hk) (Nat.le_refl _) (fun h => (hT _ h).1 rfl)⟩
end Go.Proofs.Ytollijngiioonab
