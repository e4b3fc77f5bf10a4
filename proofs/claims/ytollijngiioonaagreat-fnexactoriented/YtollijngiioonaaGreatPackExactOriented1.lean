/- What the proof of FnExactOriented stands on, part 1 of 13: each piece says what it proves and under which conditions. Conditions: as each piece says. -/
import Derived.WalkKit
import Derived.ProofKit
import Derived.OpenShut
import Derived.WalkSmall
import Derived.BigQuiet
import Derived.Below
import Derived.RegionTactic
import Derived.RangeFuncNested
import Derived.RangeFuncCalls
import Derived.RangeFuncLeaves
import Derived.Deep.QuietTactic
import Derived.Deep.Draws
/- A region whose order is drawn: what each operation keeps, whatever has been done so far, holds behind it. Conditions: each operation waits only for earlier ones. -/
namespace Go.Proofs.YtollijngiioonaaGreat
set_option maxRecDepth 100000
open Go.RowKit

section
variable {P : Program} {ops : Array Oper} {Q : Exit → Act → World → Prop} {md : Region.Mode}

/-- The operation has been done. -/
def Dn (L : Array Bool) (i : Nat) : Prop := L.getD i false = true
theorem dn_set {L : Array Bool} {i j : Nat} (hi : i < L.size) : Dn (L.setIfInBounds i true) j ↔ j = i ∨ Dn L j := by
  unfold Dn
  by_cases h : j = i
  · subst h; simp [Array.getD, hi]
  · by_cases hj : j < L.size
    · have h' : ¬ i = j := fun e => h e.symm
      simp [Array.getD, hj, h, h']
    · simp [Array.getD, hj, h]
theorem dn_none {n j : Nat} : ¬ Dn (Array.replicate n false) j := by
  unfold Dn
  by_cases h : j < n <;> simp [Array.getD, h]

/-- What an operation waits for. -/
def Waits (md : Region.Mode) (o : Oper) : List Nat := (o.after.toList.filter (Region.binds md)).map (·.on)
/-- What has been done waits for nothing. -/
def Cl (ops : Array Oper) (md : Region.Mode) (L : Array Bool) : Prop := ∀ i o, ops[i]? = some o → Dn L i → ∀ d ∈ Waits md o, Dn L d
/-- What one operation keeps. -/
def StepKeeps (P : Program) (ops : Array Oper) (Q : Exit → Act → World → Prop) (md : Region.Mode) (I : Array Bool → Act → World → Prop) (i : Nat) : Prop :=
  ∀ (L : Array Bool) (a : Act) (w : World), L.size = ops.size → Cl ops md L → ¬ Dn L i → (∀ o, ops[i]? = some o → ∀ d ∈ Waits md o, Dn L d) → I L a w → wpOp P ops Q i (I (L.setIfInBounds i true)) a w

theorem ready_mem {L : Array Bool} {i : Nat} (hL : L.size = ops.size) : i ∈ Region.ready md ops L ↔ i < ops.size ∧ ¬ Dn L i ∧ ∀ o, ops[i]? = some o → ∀ d ∈ Waits md o, Dn L d := by
  unfold Region.ready
  rw [List.mem_filter, List.mem_range]
  constructor
  · rintro ⟨hi, hr⟩
    rw [Bool.and_eq_true] at hr
    obtain ⟨h1, h2⟩ := hr
    refine ⟨hi, fun h => ?_, fun o ho d hd => ?_⟩
    · unfold Dn at h
      have hi' : i < L.size := by omega
      simp [Array.getD, hi'] at h h1
      rw [h] at h1
      cases h1
    · rw [ho] at h2
      simp only [Option.map_some, Option.getD_some, Array.all_eq_true] at h2
      obtain ⟨e, he, rfl⟩ := List.mem_map.1 hd
      rw [List.mem_filter] at he
      obtain ⟨k, hk, rfl⟩ := List.getElem_of_mem he.1
      have := h2 k (by simpa using hk)
      have he2 : Region.binds md o.after[k] = true := by simpa using he.2
      rw [he2] at this
      simpa [Dn] using this
  · rintro ⟨hi, h1, h2⟩
    refine ⟨hi, ?_⟩
    have hi' : i < L.size := by omega
    have hn : L.getD i true = false := by
      unfold Dn at h1
      simp [Array.getD, hi'] at h1 ⊢
      exact h1
    rw [hn]
    have ho : ops[i]? = some ops[i] := by simp [hi]
    rw [ho]
    simp only [Bool.not_false, Bool.true_and, Option.map_some, Option.getD_some, Array.all_eq_true]
    intro k hk
    by_cases hb : Region.binds md ops[i].after[k] = true
    · have := h2 _ ho (ops[i].after[k]).on (List.mem_map.2 ⟨_, List.mem_filter.2 ⟨by simp, hb⟩, rfl⟩)
      unfold Dn at this
      simp [this]
    · simp [hb]

theorem all_done {L : Array Bool} (hL : L.size = ops.size) (hord : ∀ i o, ops[i]? = some o → ∀ d ∈ Waits md o, d < i) (h : Region.ready md ops L = []) : ∀ n j, j < n → j < ops.size → Dn L j := by
  intro n
  induction n with
  | zero => intro j hj; omega
  | succ n ih =>
    intro j hj hs
    by_cases hd : Dn L j
    · exact hd
    · exfalso
      have : j ∈ Region.ready md ops L := (ready_mem hL).2 ⟨hs, hd, fun o ho d hdd => ih d (by have := hord j o ho d hdd; omega) (by have := hord j o ho d hdd; omega)⟩
      rw [h] at this
      cases this

theorem count_set_true {l : List Bool} {i : Nat} (h : i < l.length) (he : l[i] = false) : (l.set i true).count false + 1 = l.count false := by
  induction l generalizing i with
  | nil => simp at h
  | cons x xs ih =>
    cases i with
    | zero => simp at he; subst he; simp
    | succ i =>
      have := ih (i := i) (by simpa using h) (by simpa using he)
      cases x <;> simp <;> omega

theorem wpAny_keeps (I : Array Bool → Act → World → Prop) (hord : ∀ i o, ops[i]? = some o → ∀ d ∈ Waits md o, d < i)
    (hend : ∀ L a w, (∀ j, j < ops.size → Dn L j) → I L a w → Q .normal a w) (hstep : ∀ i, i < ops.size → StepKeeps P ops Q md I i) :
    ∀ (fuel : Nat) (L : Array Bool) (a : Act) (w : World), L.size = ops.size → Cl ops md L → L.toList.count false ≤ fuel → I L a w → wpAny P md ops Q fuel L a w := by
  intro fuel
  induction fuel with
  | zero =>
    intro L a w hL _ hc hI
    have hall : ∀ j, j < ops.size → Dn L j := by
      intro j hj
      unfold Dn
      have hj' : j < L.size := by omega
      simp only [Array.getD, hj', ↓reduceDIte]
      cases hx : L[j] with
      | true => simpa using hx
      | false =>
        exfalso
        have : false ∈ L.toList := List.mem_of_getElem (i := j) (h := by rw [Array.length_toList]; exact hj') (by simpa using hx)
        have := List.count_pos_iff.2 this
        omega
    refine ⟨?_, hend L a w hall hI⟩
    refine List.eq_nil_iff_forall_not_mem.2 fun i hi => ?_
    have := (ready_mem hL).1 hi
    exact this.2.1 (hall i this.1)
  | succ fuel ih =>
    intro L a w hL hcl hc hI
    refine ⟨fun h0 => hend L a w (fun j hj => all_done hL hord h0 (j + 1) j (Nat.lt_succ_self j) hj) hI, fun i hi => ?_⟩
    obtain ⟨h1, h2, h3⟩ := (ready_mem hL).1 hi
    refine wpOp_mono (fun a' w' hI' => ih _ a' w' (by simpa using hL) ?_ ?_ hI') (hstep i h1 L a w hL hcl h2 h3 hI)
    · intro j o ho hj d hd
      have hiL : i < L.size := by omega
      rcases (dn_set hiL).1 hj with rfl | hj
      · exact (dn_set hiL).2 (.inr (h3 o ho d hd))
      · exact (dn_set hiL).2 (.inr (hcl j o ho hj d hd))
    have hi' : i < L.toList.length := by simp; omega
    have he : L.toList[i] = false := by
      unfold Dn at h2
      have : i < L.size := by omega
      simp [Array.getD, this] at h2
      simpa using h2
    have := count_set_true hi' he
    rw [Array.toList_setIfInBounds]
    omega

/-- Each of some operations keeps it. -/
def KeepAll (P : Program) (ops : Array Oper) (Q : Exit → Act → World → Prop) (md : Region.Mode) (I : Array Bool → Act → World → Prop) (rs : List Nat) : Prop := ∀ i ∈ rs, StepKeeps P ops Q md I i
theorem KeepAll.nil {I : Array Bool → Act → World → Prop} : KeepAll P ops Q md I [] := fun _ h => by cases h
theorem KeepAll.cons {I : Array Bool → Act → World → Prop} {i : Nat} {o : Oper} {rs ds : List Nat} (ho : ops[i]? = some o) (hd : Waits md o = ds)
    (h : ∀ (L : Array Bool) (a : Act) (w : World) (K' : Act → World → Prop), (∀ a w, I (L.setIfInBounds i true) a w → K' a w) → i < L.size → Cl ops md L → ¬ Dn L i → (∀ d ∈ ds, Dn L d) → I L a w →
      if Region.wanted o (yielded ops a.tmps) = true then Oper.wp P o a w K' Q else K' (a.put o.dst undef) w)
    (hs : KeepAll P ops Q md I rs) : KeepAll P ops Q md I (i :: rs) := fun j hj => by
  rcases List.mem_cons.1 hj with rfl | hj
  · intro L a w hL hcl hn hw hI
    have hj : j < L.size := by
      rw [hL]
      by_cases h : j < ops.size
      · exact h
      · rw [Array.getElem?_eq_none (by omega)] at ho; cases ho
    exact wpOp_step ho fun K' hK' => h L a w K' hK' hj hcl hn (fun d hdd => hw o ho d (hd ▸ hdd)) hI
  · exact hs j hj

/-- A region whose order is drawn, by what each of its operations keeps. -/
theorem wp_region_keeps {id : Nat} {a : Act} {w : World} (hm : P.follows .mixedOrders = true) (I : Array Bool → Act → World → Prop) {rs : List Nat} (hrs : List.range ops.size = rs)
    (hord : ((List.range ops.size).all fun i => ((ops[i]?).map fun o => (Waits .any o).all fun d => decide (d < i)).getD true) = true)
    (h0 : I (Array.replicate ops.size false) a w.drew) (hend : ∀ L a w, (∀ j, j < ops.size → Dn L j) → I L a w → Q .normal a w) (hstep : KeepAll P ops Q .any I rs) : (Code.region id ops true).wp P Q a w := by
  refine wp_region_any hm (wpAny_keeps I ?_ hend (fun i hi => hstep i (hrs ▸ List.mem_range.2 hi)) ops.size _ a _ (by simp) (fun i o _ h => absurd h dn_none) (by simp) h0)
  intro i o ho d hd
  have hi : i < ops.size := by
    by_cases h : i < ops.size
    · exact h
    · rw [Array.getElem?_eq_none (by omega)] at ho; cases ho
  have := List.all_eq_true.1 hord i (List.mem_range.2 hi)
  rw [ho] at this
  simp only [Option.map_some, Option.getD_some] at this
  have := List.all_eq_true.1 this d hd
  simpa using this
end
end Go.Proofs.YtollijngiioonaaGreat

/- A range over a function whose iterator keeps memory of its own: what it promises the loop's body, and what the body promises it, told by sets of blocks; the statement's law. Conditions: none. -/
namespace Go.Proofs.YtollijngiioonaaGreat
set_option maxRecDepth 100000
open Go.RowKit

/-- All blocks of S lie as they lay. -/
structure Stay (S : Nat → Prop) (w w' : World) : Prop where
  os : w'.os = w.os
  tape : w'.tape = w.tape
  output : w'.output = w.output
  size : w.heap.size ≤ w'.heap.size
  block : ∀ k, k < w.heap.size → S k → w'.heap[k]? = w.heap[k]?

theorem Stay.refl (S : Nat → Prop) (w : World) : Stay S w w := ⟨rfl, rfl, rfl, Nat.le_refl _, fun _ _ _ => rfl⟩
theorem Stay.trans {S : Nat → Prop} {a b c : World} (h : Stay S a b) (k : Stay S b c) : Stay S a c :=
  ⟨k.os.trans h.os, k.tape.trans h.tape, k.output.trans h.output, Nat.le_trans h.size k.size, fun i hi hs => (k.block i (Nat.lt_of_lt_of_le hi h.size) hs).trans (h.block i hi hs)⟩
theorem Stay.weak {S T : Nat → Prop} {a b : World} (h : Stay S a b) (ht : ∀ k, k < a.heap.size → T k → S k) : Stay T a b :=
  ⟨h.os, h.tape, h.output, h.size, fun k hk hs => h.block k hk (ht k hk hs)⟩
theorem Stay.below {S : Nat → Prop} {a b : World} {B : Nat} (h : Stay S a b) (hB : B ≤ a.heap.size) (hs : ∀ k, k < B → S k) : Below B a b :=
  ⟨h.os, h.tape, h.output, h.size, fun k hk => h.block k (by omega) (hs k hk)⟩
theorem Stay.of_below {S : Nat → Prop} {a b : World} {B : Nat} (h : Below B a b) (hs : ∀ k, k < a.heap.size → S k → k < B) : Stay S a b :=
  ⟨h.os, h.tape, h.output, h.size, fun k hk hk' => h.block k (hs k hk hk')⟩
theorem Stay.grown {S : Nat → Prop} {a b : World} {row : Option Nat} (h : a.grownBy b row) (hr : ∀ k, row = some k → ¬ S k) : Stay S a b :=
  ⟨h.os, h.tape, h.output, h.size, fun k hk hs => h.block k hk (fun e => hr k e.symm hs)⟩
theorem Stay.putObj {S : Nat → Prop} (a : World) {r : Nat} (o : Obj) (hr : ¬ S r) : Stay S a (a.putObj r o) :=
  .grown (grownBy_putObj' a r o) (fun k e => by cases e; exact hr)
theorem Stay.setCell {S : Nat → Prop} (a : World) {p : Addr} (v : Value) (hr : ¬ S p.block) : Stay S a (a.setCell p v) :=
  ⟨rfl, rfl, rfl, by simp [World.setCell], fun k _ hs => Below.heap_setCell _ _ _ _ (fun e => hr (e ▸ hs))⟩
theorem Stay.alloc (S : Nat → Prop) (a : World) (o : Obj) : Stay S a (a.alloc o) :=
  ⟨rfl, rfl, rfl, by simp, fun k hk _ => Below.heap_alloc _ _ _ hk⟩
theorem Stay.drew (S : Nat → Prop) (a : World) : Stay S a a.drew := ⟨rfl, rfl, rfl, Nat.le_refl _, fun _ _ _ => rfl⟩
theorem Stay.cell {S : Nat → Prop} {a b : World} (h : Stay S a b) {p : Addr} {v : Value} (hc : a.cell? p = some v) (hs : S p.block) : b.cell? p = some v :=
  (World.cell?_of_block (h.block p.block (World.block_lt_of_cell? a p hc) hs)).trans hc
theorem Stay.frozen {S : Nat → Prop} {a b : World} (h : Stay S a b) {p : Addr} (hl : p.block < a.heap.size) (hs : S p.block) : b.frozen? p = a.frozen? p :=
  World.frozen?_of_block (h.block p.block hl hs)

/-- The iterator's word: whatever stays while the blocks of S do is not turned by it; the body's: below n₀, and outside S, nothing is turned. -/
def SeqPriv {α : Type} (F : Fence) (n : Nat) (P : Program) (g : Nat) (lb : Array Value) (encs : α → Array Value) (n₀ : Nat) (Sa Sp : List α → Prop) (Ok : List α → α → Prop) (N : Nat) (w : World) : Prop :=
  ∀ (l : Nat) (J Jx : List α → (Nat → Prop) → World → Prop) (S₀ : Nat → Prop) (W : World), Below w.heap.size w W →
    (∀ pre S A B, J pre S A → Stay S A B → J pre S B) → (∀ pre S A B, Jx pre S A → Stay S A B → Jx pre S B) → (∀ pre S A, J pre S A → ∀ k, S k → k < A.heap.size) →
    (∀ pre x S A, J pre S A → pre.length < N → Ok pre x → YieldAt F (n - 1) P l (encs x) A fun e B =>
      (e = .returned (.bool true) ∧ ∃ S', J (pre ++ [x]) S' B ∧ (∀ k, S' k → S k ∨ A.heap.size ≤ k) ∧ Stay (fun k => k < n₀ ∨ ¬ S k) A B) ∨
      (e = .returned (.bool false) ∧ ∃ S', Jx (pre ++ [x]) S' B)) →
    J [] S₀ W →
    CallsIn F n P g (#[.func (.yield l) #[] #[]] ++ lb) W fun e B => (∃ v, e = .returned v) ∧ ((∃ xs S', Sa xs ∧ J xs S' B) ∨ (∃ pre S', Sp pre ∧ Jx pre S' B))

/-- How the body of a round may be left. -/
def privPost {α : Type} (n₀ : Nat) (I : List α → (Nat → Prop) → World → Prop) (Ix : Code → List α → (Nat → Prop) → World → Prop) (xs : List α) (S : Nat → Prop) (W : World) : Exit → Act → World → Prop
  | .normal, _, B => ∃ S', I xs S' B ∧ (∀ k, S' k → S k ∨ W.heap.size ≤ k) ∧ Stay (fun k => k < n₀ ∨ ¬ S k) W B
  | .ret, _, B => ∃ S', Ix .ret xs S' B ∧ (∀ k, S' k → S k ∨ W.heap.size ≤ k) ∧ Stay (fun k => k < n₀ ∨ ¬ S k) W B
  | .exit id, _, B => ∃ S', Ix (.exit id) xs S' B ∧ (∀ k, S' k → S k ∨ W.heap.size ≤ k) ∧ Stay (fun k => k < n₀ ∨ ¬ S k) W B
  | .goto t, _, B => ∃ S', Ix (.goto t) xs S' B ∧ (∀ k, S' k → S k ∨ W.heap.size ≤ k) ∧ Stay (fun k => k < n₀ ∨ ¬ S k) W B
  | .panic _, _, _ => False
  | .outgrown, _, _ => False

variable {F : Fence} {n : Nat} {P : Program}

theorem wpIn_rangeFunc_priv {α : Type} {g : Operand} {ps : Array Tmp} {assign body : Code} {Q : Exit → Act → World → Prop} {a : Act} {w : World}
    (hro : F.round = none) (h1 : 1 ≤ n) {gf : Nat} {lb : Array Value} (hg : a.eval g = .func (.func gf) #[] lb) (hFg : F.fn gf) (eg : ∀ args w, (callFunc gf args).run P w = .ok (.enter gf args) w)
    {encs : α → Array Value} {n₀ : Nat} {Sa Sp : List α → Prop} {Ok : List α → α → Prop} {N : Nat} {w0 : World} (hseq : SeqPriv F (n - 1) P gf lb encs n₀ Sa Sp Ok N w0) (hn₀ : n₀ ≤ w.heap.size) (hb0 : Below w0.heap.size w0 w) (hps : ∀ x, (encs x).size = ps.size)
    (I : List α → (Nat → Prop) → World → Prop) (Ix : Code → List α → (Nat → Prop) → World → Prop)
    (hI : ∀ pre S A B, I pre S A → Stay S A B → I pre S B) (hIx : ∀ c pre S A B, Ix c pre S A → Stay S A B → Ix c pre S B)
    (hIb : ∀ pre S A, I pre S A → ∀ k, S k → k < A.heap.size) (S₀ : Nat → Prop) (hS₀ : ∀ k, S₀ k → k < w.heap.size) (h0 : I [] S₀ w)
    (Ax : List α → α → (Nat → Prop) → Act → World → Prop) (hAx : ∀ pre x S a A B, Ax pre x S a A → Stay S A B → Ax pre x S a B)
    (hassign : ∀ (l : Nat) (pre : List α) (x : α) (S : Nat → Prop) (W : World) (K : Act → World → Prop), I pre S W → pre.length < N → Ok pre x →
      (∀ a₁ S₁ W₁, Ax pre x S₁ a₁ W₁ → (∀ k, S₁ k → S k ∨ W.heap.size ≤ k) → Stay (fun k => k < n₀ ∨ ¬ S k) W W₁ → K a₁ W₁) →
      assign.wpIn (F.inRound l) (n - 1 - 1) P (Exit.then K (fun _ _ _ => False)) { tmps := (ps.zip (encs x)).foldl (fun t (p, v) => t.setIfInBounds p v) a.tmps, defers := [] } W)
    (hbody : ∀ (l : Nat) (pre : List α) (x : α) (S : Nat → Prop) (a₁ : Act) (W : World), Ax pre x S a₁ W → pre.length < N → Ok pre x → body.wpIn (F.inRound l) (n - 1 - 1) P (privPost n₀ I Ix (pre ++ [x]) S W) a₁ W)
    (hdone : ∀ (D : Nat) (xs : List α) (S : Nat → Prop) (W : World), Sa xs → I xs S W → W.heap[D]? = some (.deferred (some [])) → w.heap.size ≤ D → ¬ S D → Q .normal { a with defers := { target := .collected D, args := #[] } :: a.defers } W)
    (hstop : ∀ (D : Nat) (c : Code) (pre : List α) (S : Nat → Prop) (W : World), Sp pre → Ix c pre S W → W.heap[D]? = some (.deferred (some [])) → w.heap.size ≤ D → ¬ S D → c.wpIn F n P Q { a with defers := { target := .collected D, args := #[] } :: a.defers } W) :
    (Code.rangeFunc g ps assign body).wpIn F n P Q a w := by
  refine wpIn_rangeFunc ?_
  intro fn hfn
  rw [hro]
  obtain ⟨rec, hrec⟩ : ∃ rec : LoopState → Option Code → Loop, rec = fun st pe => { state := st, pending := pe, fn, tmps := a.tmps, params := ps, assign, body, defers := w.heap.size } := ⟨_, rfl⟩
  obtain ⟨W1, hW1⟩ : ∃ W1, (w.alloc (.deferred (some []))).alloc (.loop (rec .ready none)) = W1 := ⟨_, rfl⟩
  have hL1 : W1.heap[w.heap.size + 1]? = some (.loop (rec .ready none)) := by
    rw [← hW1]; have := World.alloc_heap_new (w.alloc (.deferred (some []))) (.loop (rec .ready none)); rwa [World.size_alloc] at this
  have hK1 : W1.heap[w.heap.size]? = some (.deferred (some [])) := by
    rw [← hW1]; exact (Below.heap_alloc _ _ _ (by simp)).trans (World.alloc_heap_new w _)
  have hI1 : I [] S₀ W1 := by rw [← hW1]; exact hI _ _ _ _ (hI _ _ _ _ h0 (.alloc _ _ _)) (.alloc _ _ _)
  have hb1 : Below w0.heap.size w0 W1 := by
    rw [← hW1]; exact hb0.trans ((((Below.refl _ w).alloc (Nat.le_refl _) _).alloc (by simp) _).mono hb0.size)
  have hsz : ∀ {A : World} {r : Loop}, A.heap[w.heap.size + 1]? = some (.loop r) → w.heap.size + 1 < A.heap.size := fun h => (Array.getElem?_eq_some_iff.1 h).1
  refine ⟨w.heap.size + 1, [{ target := .collected w.heap.size, args := #[] }], W1, { target := .fn (.func gf) lb, args := #[.func (.yield (w.heap.size + 1)) #[] #[]] }, W1, gf,
    #[.func (.yield (w.heap.size + 1)) #[] #[]] ++ lb, W1, ?_, ?_, ?_, ?_, fun _ => h1, ?_⟩
  · rw [← hW1, hrec]; exact run_enterLoop_outer _ _ _ _ _
  · simp only [resolve, hg]
    simp [go_sem]
  · intro f' hf'; simp [Target.leads] at hf'; subst hf'; exact hFg
  · simp [invoke, go_sem, eg]
  · -- the sets: the caller's, and the two blocks of the loop
    have hst : ∀ {A B : World} {T S : Nat → Prop}, (∀ k, S k ↔ T k ∨ k = w.heap.size ∨ k = w.heap.size + 1) → Stay S A B → Stay T A B := fun hS h => h.weak (fun k _ ht => (hS k).2 (.inl ht))
    refine (hseq (w.heap.size + 1)
      (fun pre S W => ∃ T : Nat → Prop, (∀ k, S k ↔ T k ∨ k = w.heap.size ∨ k = w.heap.size + 1) ∧ (∀ k, T k → k ≠ w.heap.size ∧ k ≠ w.heap.size + 1) ∧ I pre T W ∧ W.heap[w.heap.size + 1]? = some (.loop (rec .ready none)) ∧ W.heap[w.heap.size]? = some (.deferred (some [])))
      (fun pre S W => ∃ T : Nat → Prop, (∀ k, S k ↔ T k ∨ k = w.heap.size ∨ k = w.heap.size + 1) ∧ (∀ k, T k → k ≠ w.heap.size ∧ k ≠ w.heap.size + 1) ∧ ∃ c, Ix c pre T W ∧ W.heap[w.heap.size + 1]? = some (.loop (rec .done (some c))) ∧ W.heap[w.heap.size]? = some (.deferred (some [])))
      (fun k => S₀ k ∨ k = w.heap.size ∨ k = w.heap.size + 1) W1 hb1 ?_ ?_ ?_ ?_ ⟨S₀, fun k => Iff.rfl, fun k hk => by have := hS₀ k hk; omega, hI1, hL1, hK1⟩).mono ?_
    · rintro pre S A B ⟨T, hS, hT, hi, hl, hk⟩ h
      have hlt := hsz hl
      exact ⟨T, hS, hT, hI _ _ _ _ hi (hst hS h), (h.block _ hlt ((hS _).2 (.inr (.inr rfl)))).trans hl, (h.block _ (by omega) ((hS _).2 (.inr (.inl rfl)))).trans hk⟩
    · rintro pre S A B ⟨T, hS, hT, c, hi, hl, hk⟩ h
      have hlt := hsz hl
      exact ⟨T, hS, hT, c, hIx _ _ _ _ _ hi (hst hS h), (h.block _ hlt ((hS _).2 (.inr (.inr rfl)))).trans hl, (h.block _ (by omega) ((hS _).2 (.inr (.inl rfl)))).trans hk⟩
    · rintro pre S A ⟨T, hS, hT, hi, hl, hk⟩ k hk'
      have hlt := hsz hl
      rcases (hS k).1 hk' with h | h | h
      · exact hIb _ _ _ hi k h
      · omega
      · omega
    · -- one round
      rintro pre x S W ⟨T, hS, hT, hi, hl, hk⟩ hlen hok
      have hlt := hsz hl
      have nL : ¬ T (w.heap.size + 1) := fun h => (hT _ h).2 rfl
      have nD : ¬ T w.heap.size := fun h => (hT _ h).1 rfl
      have hy := run_yield (P := P) (args := encs x) hl (by rw [hrec]; exact hps x)
      rw [hrec] at hy
      refine ⟨fn, _, assign, body, hy, roundIn_of_wpIn hfn (hassign _ pre x T W _ hi hlen hok ?_)⟩
      intro a₁ T₁ W₁ hax hT₁ hst₁
      have hL₁ := (hst₁.block (w.heap.size + 1) hlt (.inr nL)).trans hl
      have hD₁ := (hst₁.block w.heap.size (by omega) (.inr nD)).trans hk
      have nL₁ : ¬ T₁ (w.heap.size + 1) := fun h => (hT₁ _ h).elim nL (fun h => by omega)
      have nD₁ : ¬ T₁ w.heap.size := fun h => (hT₁ _ h).elim nD (fun h => by omega)
      have hz₁ := hst₁.size
      refine ⟨_, run_beginRound hL₁ (by rw [hrec]), ?_⟩
      obtain ⟨W2, hW2⟩ : ∃ W2, W2 = W₁.putObj (w.heap.size + 1) (.loop { rec .ready none with state := .busy }) := ⟨_, rfl⟩
      rw [← hW2]
      have hl2 : W2.heap[w.heap.size + 1]? = some (.loop { rec .ready none with state := .busy }) := by rw [hW2]; exact World.putObj_heap_same (by omega)
      have hk2 : W2.heap[w.heap.size]? = some (.deferred (some [])) := by rw [hW2]; exact (World.putObj_heap_other (by omega)).trans hD₁
      have hz2 : W2.heap.size = W₁.heap.size := by rw [hW2]; simp
      have hi2 : Ax pre x T₁ a₁ W2 := by rw [hW2]; exact hAx _ _ _ _ _ _ hax (.putObj _ _ nL₁)
      have hs2 : Stay (fun k => k < n₀ ∨ ¬ S k) W W2 := by
        rw [hW2]
        exact (hst₁.weak (fun k _ h => h.elim .inl (fun h => .inr (fun ht => h ((hS _).2 (.inl ht)))))).trans (.putObj _ _ (fun h => h.elim (fun h => by omega) (fun h => h ((hS _).2 (.inr (.inr rfl))))))
      have sub₁ : ∀ k, k < W.heap.size → T₁ k → T k := fun k hk h => (hT₁ k h).elim id (fun h => by omega)
      refine wpIn_mono (hbody _ pre x T₁ a₁ W2 hi2 hlen hok) ?_
      have fin : ∀ (jump : Option Code) (W3 : World), Stay (fun k => k < n₀ ∨ ¬ T₁ k) W2 W3 →
          (Instr.endRound (w.heap.size + 1) jump).run P W3 = .ok (.bool jump.isNone) (W3.putObj (w.heap.size + 1) (.loop (rec (if jump.isNone then .ready else .done) jump))) ∧
          (W3.putObj (w.heap.size + 1) (.loop (rec (if jump.isNone then .ready else .done) jump))).heap[w.heap.size + 1]? = some (.loop (rec (if jump.isNone then .ready else .done) jump)) ∧
          (W3.putObj (w.heap.size + 1) (.loop (rec (if jump.isNone then .ready else .done) jump))).heap[w.heap.size]? = some (.deferred (some [])) ∧
          Stay (fun k => k < n₀ ∨ ¬ S k) W (W3.putObj (w.heap.size + 1) (.loop (rec (if jump.isNone then .ready else .done) jump))) := fun jump W3 hk3 => by
        have hl3 := (hk3.block (w.heap.size + 1) (by omega) (.inr nL₁)).trans hl2
        have hd3 := (hk3.block w.heap.size (by omega) (.inr nD₁)).trans hk2
        have := run_endRound (P := P) jump hl3
        rw [hrec] at this ⊢
        refine ⟨this, World.putObj_heap_same (Array.getElem?_eq_some_iff.1 hl3).1, (World.putObj_heap_other (by omega)).trans hd3, ?_⟩
        have h34 : Stay (fun k => (k < n₀ ∨ ¬ S k) ∧ k < W.heap.size) W W3 := (hs2.weak (fun _ _ h => h.1)).trans (hk3.weak (fun k _ h => h.1.elim .inl (fun h' => .inr (fun ht => h' ((hS _).2 (.inl (sub₁ k h.2 ht)))))))
        exact (h34.weak (fun k hk h => ⟨h, hk⟩)).trans (.putObj _ _ (fun h => h.elim (fun h => by omega) (fun h => h ((hS _).2 (.inr (.inr rfl))))))
      have sub : ∀ {T' : Nat → Prop}, (∀ k, T' k → T₁ k ∨ W2.heap.size ≤ k) → (∀ k, T' k → k ≠ w.heap.size ∧ k ≠ w.heap.size + 1) ∧ (∀ k, (T' k ∨ k = w.heap.size ∨ k = w.heap.size + 1) → S k ∨ W.heap.size ≤ k) := fun hT' =>
        ⟨fun k hk => (hT' k hk).elim (fun h => (hT₁ k h).elim (hT k) (fun h => by omega)) (fun h => by omega), fun k hk => hk.elim (fun h => (hT' k h).elim (fun h => (hT₁ k h).elim (fun h => .inl ((hS _).2 (.inl h))) .inr) (fun h => .inr (by omega))) (fun h => .inl ((hS _).2 (.inr h)))⟩
      rintro e a3 W3 hp
      cases e with
      | normal =>
        obtain ⟨T', hi3, hT', hk3⟩ := hp
        obtain ⟨hr, hl4, hk4, hst4⟩ := fin none W3 hk3
        obtain ⟨q1, q2⟩ := sub hT'
        exact ⟨_, _, hr, .inl ⟨rfl, fun k => T' k ∨ k = w.heap.size ∨ k = w.heap.size + 1, ⟨T', fun k => Iff.rfl, q1, hI _ _ _ _ hi3 (.putObj _ _ (fun h => (q1 _ h).2 rfl)), hl4, hk4⟩, q2, hst4⟩⟩
      | ret =>
        obtain ⟨T', hi3, hT', hk3⟩ := hp
        obtain ⟨hr, hl4, hk4, hst4⟩ := fin (some .ret) W3 hk3
        obtain ⟨q1, q2⟩ := sub hT'
        exact ⟨_, _, hr, .inr ⟨rfl, fun k => T' k ∨ k = w.heap.size ∨ k = w.heap.size + 1, T', fun k => Iff.rfl, q1, .ret, hIx _ _ _ _ _ hi3 (.putObj _ _ (fun h => (q1 _ h).2 rfl)), hl4, hk4⟩⟩
      | exit id =>
        obtain ⟨T', hi3, hT', hk3⟩ := hp
        obtain ⟨hr, hl4, hk4, hst4⟩ := fin (some (.exit id)) W3 hk3
        obtain ⟨q1, q2⟩ := sub hT'
        exact ⟨_, _, hr, .inr ⟨rfl, fun k => T' k ∨ k = w.heap.size ∨ k = w.heap.size + 1, T', fun k => Iff.rfl, q1, .exit id, hIx _ _ _ _ _ hi3 (.putObj _ _ (fun h => (q1 _ h).2 rfl)), hl4, hk4⟩⟩
      | goto t =>
        obtain ⟨T', hi3, hT', hk3⟩ := hp
        obtain ⟨hr, hl4, hk4, hst4⟩ := fin (some (.goto t)) W3 hk3
        obtain ⟨q1, q2⟩ := sub hT'
        exact ⟨_, _, hr, .inr ⟨rfl, fun k => T' k ∨ k = w.heap.size ∨ k = w.heap.size + 1, T', fun k => Iff.rfl, q1, .goto t, hIx _ _ _ _ _ hi3 (.putObj _ _ (fun h => (q1 _ h).2 rfl)), hl4, hk4⟩⟩
      | panic ch => exact hp.elim
      | outgrown => exact hp.elim
    · -- behind the iterator
      rintro e W2 ⟨⟨v, rfl⟩, (⟨xs, S, hSa, T, hS, hT, hi, hl, hk⟩ | ⟨pre, S, hSp, T, hS, hT, c, hi, hl, hk⟩)⟩
      · exact ⟨none, _, by have := run_endLoop (P := P) hl (by rw [hrec]; simp); rw [hrec] at this; exact this, hdone _ xs T _ hSa (hI _ _ _ _ hi (.putObj _ _ (fun h => (hT _ h).2 rfl))) ((World.putObj_heap_other (by omega)).trans hk) (Nat.le_refl _) (fun h => (hT _ h).1 rfl)⟩
      · exact ⟨some c, _, by have := run_endLoop (P := P) hl (by rw [hrec]; simp); rw [hrec] at this; exact this, hstop _ c pre T _ hSp (hIx _ _ _ _ _ hi (.putObj _ _ (fun h => (hT _ h).2 rfl))) ((World.putObj_heap_other (by omega)).trans hk) (Nat.le_refl _) (fun h => (hT _ h).1 rfl)⟩
end Go.Proofs.YtollijngiioonaaGreat

/- Terms as data: how they lie in memory, and what is told of them. Conditions: none. -/
namespace Go.Proofs.YtollijngiioonaaGreat
set_option maxRecDepth 100000
open Go.RowKit

theorem rtI {a b : Int} (h : a = b) : Ending.returned (.int .i64 a) = .returned (.int .i64 b) := by rw [h]
theorem rtB {a b : Bool} (h : a = b) : Ending.returned (.bool a) = .returned (.bool b) := by rw [h]

/-- A term as data. -/
inductive TermD where
  | mk (f v : Int) (kids : List TermD)

namespace TermD
def f : TermD → Int | mk f _ _ => f
def v : TermD → Int | mk _ v _ => v
def kids : TermD → List TermD | mk _ _ k => k
end TermD

instance : Inhabited TermD := ⟨.mk 0 0 []⟩

mutual
/-- How many terms are within it, itself too. -/
def partsT : TermD → Nat
  | .mk _ _ ks => partsL ks + 1
def partsL : List TermD → Nat
  | [] => 0
  | t :: ts => partsT t + partsL ts
end

theorem partsT_eq (t : TermD) : partsT t = partsL t.kids + 1 := by cases t; simp [partsT, TermD.kids]

theorem partsL_append (a b : List TermD) : partsL (a ++ b) = partsL a + partsL b := by
  induction a with
  | nil => simp [partsL]
  | cons t ts ih => simp only [List.cons_append, partsL, ih]; omega

theorem partsL_get {ts : List TermD} {i : Nat} (h : i < ts.length) : partsT ts[i] ≤ partsL ts := by
  induction ts generalizing i with
  | nil => simp at h
  | cons t ts ih =>
    cases i with
    | zero => simp only [List.getElem_cons_zero, partsL]; omega
    | succ i =>
      simp only [List.getElem_cons_succ, partsL]
      have := ih (i := i) (by simpa using h)
      omega

theorem partsL_next {ts : List TermD} {k : Nat} (h : k < ts.length) : partsL (ts.take (k + 1)) = partsL (ts.take k) + partsT ts[k] := by
  rw [List.take_succ_eq_append_getElem h, partsL_append]
  simp [partsL]

theorem partsL_take (ts : List TermD) (k : Nat) : partsL (ts.take k) ≤ partsL ts := by
  have : partsL ts = partsL (ts.take k) + partsL (ts.drop k) := by rw [← partsL_append, List.take_append_drop]
  omega

theorem partsL_len (ts : List TermD) : ts.length ≤ partsL ts := by
  induction ts with
  | nil => simp
  | cons t ts ih => simp only [List.length_cons, partsL, partsT_eq]; omega

def isW (z : Int) : Prop := -9223372036854775808 ≤ z ∧ z ≤ 9223372036854775807

theorem partsL_rest (ts : List TermD) (k : Nat) : partsL (ts.take k) + (ts.length - k) ≤ partsL ts := by
  have h : partsL ts = partsL (ts.take k) + partsL (ts.drop k) := by rw [← partsL_append, List.take_append_drop]
  have h2 := partsL_len (ts.drop k)
  rw [List.length_drop] at h2
  omega

/-- What is left of m when the parts are counted off. -/
def szR (ts : List TermD) (m : Int) : Int := if (partsL ts : Int) ≤ m then m - partsL ts else -1

/-- A cell that was there is as it was behind whatever only lays new blocks. -/
theorem keepC {w w' : World} (h : Below w.heap.size w w') {p : Addr} {v : Value} (hc : w.cell? p = some v) : w'.cell? p = some v := (h.cell (World.block_lt_of_cell? w p hc)).trans hc

/-- The slice of terms that begins at 'a' reads in w as ts, all of its blocks below hi. -/
inductive RdK (w : World) (hi : Nat) : Option Addr → List TermD → Prop
  | nil (a : Option Addr) : RdK w hi a []
  | row (b off : Nat) (ts : List TermD) (A : Nat → Option Addr) (C : Nat → Nat) (hlt : b < hi) (hl : ts.length ≤ 9223372036854775807 ∧ ∀ i, (h : i < ts.length) → ts[i].kids.length ≤ C i) (hz : ∀ i, (h : i < ts.length) → isW ts[i].f ∧ isW ts[i].v)
      (hc : ∀ i, (h : i < ts.length) → w.cell? ⟨b, off + i * 3, none⟩ = some (.int .i64 ts[i].f) ∧ w.cell? ⟨b, off + i * 3 + 1, none⟩ = some (.int .i64 ts[i].v) ∧ w.cell? ⟨b, off + i * 3 + 2, none⟩ = some (.slice (A i) ts[i].kids.length (C i)))
      (hk : ∀ i, (h : i < ts.length) → RdK w hi (A i) ts[i].kids) : RdK w hi (some ⟨b, off, none⟩) ts

theorem RdK.on {w w' : World} {hi : Nat} {a : Option Addr} {ts : List TermD} (h : RdK w hi a ts) (hb : Below hi w w') : RdK w' hi a ts := by
  induction h with
  | nil a => exact .nil a
  | row b off ts A C hlt hl hz hc hk ih =>
    refine .row b off ts A C hlt hl hz (fun i h => ?_) ih
    obtain ⟨h0, h1, h2⟩ := hc i h
    exact ⟨(hb.cell (p := ⟨b, off + i * 3, none⟩) hlt).trans h0, (hb.cell (p := ⟨b, off + i * 3 + 1, none⟩) hlt).trans h1, (hb.cell (p := ⟨b, off + i * 3 + 2, none⟩) hlt).trans h2⟩

theorem RdK.mono {w : World} {hi hi' : Nat} {a : Option Addr} {ts : List TermD} (h : RdK w hi a ts) (hh : hi ≤ hi') : RdK w hi' a ts := by
  induction h with
  | nil a => exact .nil a
  | row b off ts A C hlt hl hz hc hk ih => exact .row b off ts A C (Nat.lt_of_lt_of_le hlt hh) hl hz hc ih

theorem RdK.len {w : World} {hi : Nat} {a : Option Addr} {ts : List TermD} (h : RdK w hi a ts) : ts.length ≤ 9223372036854775807 := by
  cases h with
  | nil a => simp
  | row b off ts A C hlt hl hz hc hk => exact hl.1

theorem RdK.ints {w : World} {hi : Nat} {a : Option Addr} {ts : List TermD} (h : RdK w hi a ts) {i : Nat} (hi' : i < ts.length) : isW ts[i].f ∧ isW ts[i].v := by
  cases h with
  | nil a => simp at hi'
  | row b off ts A C hlt hl hz hc hk => exact hz i hi'

/-- What stands at kid i. -/
theorem RdK.kid {w : World} {hi : Nat} {a : Option Addr} {ts : List TermD} (h : RdK w hi a ts) {i : Nat} (hi' : i < ts.length) :
    ∃ b off a' c', a = some ⟨b, off, none⟩ ∧ b < hi ∧ w.cell? ⟨b, off + i * 3, none⟩ = some (.int .i64 ts[i].f) ∧ w.cell? ⟨b, off + i * 3 + 1, none⟩ = some (.int .i64 ts[i].v) ∧ w.cell? ⟨b, off + i * 3 + 2, none⟩ = some (.slice a' ts[i].kids.length c') ∧ RdK w hi a' ts[i].kids := by
  cases h with
  | nil a => simp at hi'
  | row b off ts A C hlt hl hz hc hk =>
    obtain ⟨h0, h1, h2⟩ := hc i hi'
    exact ⟨b, off, _, _, rfl, hlt, h0, h1, h2, hk i hi'⟩

/-- What stands at kid i, with what its slice's room is. -/
theorem RdK.kidc {w : World} {hi : Nat} {a : Option Addr} {ts : List TermD} (h : RdK w hi a ts) {i : Nat} (hi' : i < ts.length) :
    ∃ b off a' c', a = some ⟨b, off, none⟩ ∧ b < hi ∧ w.cell? ⟨b, off + i * 3, none⟩ = some (.int .i64 ts[i].f) ∧ w.cell? ⟨b, off + i * 3 + 1, none⟩ = some (.int .i64 ts[i].v) ∧ w.cell? ⟨b, off + i * 3 + 2, none⟩ = some (.slice a' ts[i].kids.length c') ∧ ts[i].kids.length ≤ c' ∧ RdK w hi a' ts[i].kids := by
  cases h with
  | nil a => simp at hi'
  | row b off ts A C hlt hl hz hc hk =>
    obtain ⟨h0, h1, h2⟩ := hc i hi'
    exact ⟨b, off, _, _, rfl, hlt, h0, h1, h2, hl.2 i hi', hk i hi'⟩

/-- A term as a value. -/
def termV (t : TermD) (a : Option Addr) (c : Nat) : Value := .agg #[.int .i64 t.f, .int .i64 t.v, .slice a t.kids.length c]

mutual
/-- Whether two terms are the same. -/
def sameT : TermD → TermD → Bool
  | .mk f v ks, .mk f' v' ks' => f == f' && v == v' && ks.length == ks'.length && sameL ks ks'
def sameL : List TermD → List TermD → Bool
  | t :: ts, u :: us => sameT t u && sameL ts us
  | _, _ => true
end

theorem sameT_eq (t u : TermD) : sameT t u = (t.f == u.f && t.v == u.v && t.kids.length == u.kids.length && sameL t.kids u.kids) := by
  cases t; cases u; simp [sameT, TermD.f, TermD.v, TermD.kids]

theorem sameL_hit : ∀ {ts us : List TermD} {k : Nat} (h : k < ts.length) (h' : k < us.length), sameT ts[k] us[k] = false → sameL ts us = false
  | t :: ts, u :: us, 0, _, _, e => by simp only [List.getElem_cons_zero] at e; simp [sameL, e]
  | t :: ts, u :: us, k + 1, h, h', e => by
    simp only [List.getElem_cons_succ] at e
    have := sameL_hit (ts := ts) (us := us) (k := k) (by simpa using h) (by simpa using h') e
    simp [sameL, this]
  | [], _, _, h, _, _ => by simp at h
  | _ :: _, [], _, _, h', _ => by simp at h'

theorem sameL_all : ∀ {ts us : List TermD}, ts.length = us.length → (∀ k, (h : k < ts.length) → (h' : k < us.length) → sameT ts[k] us[k] = true) → sameL ts us = true
  | [], us, _, _ => by simp [sameL]
  | t :: ts, [], h, _ => by simp at h
  | t :: ts, u :: us, h, hall => by
    have h0 := hall 0 (by simp) (by simp)
    have h1 := sameL_all (ts := ts) (us := us) (by simpa using h) (fun k hk hk' => by have := hall (k + 1) (by simpa using hk) (by simpa using hk'); simpa using this)
    simp only [List.getElem_cons_zero] at h0
    simp [sameL, h0, h1]

mutual
/-- Whether a term is before another one. -/
def befT : TermD → TermD → Bool
  | .mk f v ks, .mk f' v' ks' => if f ≠ f' then decide (f < f') else if v ≠ v' then decide (v < v') else if ks.length ≠ ks'.length then decide (ks.length < ks'.length) else befL ks ks'
def befL : List TermD → List TermD → Bool
  | t :: ts, u :: us => if sameT t u then befL ts us else befT t u
  | _, _ => false
end

theorem befT_eq (t u : TermD) : befT t u = if t.f ≠ u.f then decide (t.f < u.f) else if t.v ≠ u.v then decide (t.v < u.v) else if t.kids.length ≠ u.kids.length then decide (t.kids.length < u.kids.length) else befL t.kids u.kids := by
  cases t; cases u; rw [befT]; rfl

theorem befL_hit : ∀ {ts us : List TermD} {k : Nat} (h : k < ts.length) (h' : k < us.length), (∀ j, (hj : j < k) → sameT (ts[j]'(by omega)) (us[j]'(by omega)) = true) → sameT ts[k] us[k] = false → befL ts us = befT ts[k] us[k]
  | t :: ts, u :: us, 0, _, _, _, e => by simp only [List.getElem_cons_zero] at e; simp [befL, e]
  | t :: ts, u :: us, k + 1, h, h', h0, e => by
    have e0 := h0 0 (by omega)
    simp only [List.getElem_cons_zero] at e0
    simp only [List.getElem_cons_succ] at e
    have := befL_hit (ts := ts) (us := us) (k := k) (by simpa using h) (by simpa using h') (fun j hj => by have := h0 (j + 1) (by omega); simpa using this) e
    simp [befL, e0, this]
  | [], _, _, h, _, _, _ => by simp at h
  | _ :: _, [], _, _, h', _, _ => by simp at h'

theorem befL_all : ∀ {ts us : List TermD}, (∀ k, (h : k < ts.length) → (h' : k < us.length) → sameT ts[k] us[k] = true) → befL ts us = false
  | [], us, _ => by simp [befL]
  | t :: ts, [], _ => by simp [befL]
  | t :: ts, u :: us, hall => by
    have h0 := hall 0 (by simp) (by simp)
    have h1 := befL_all (ts := ts) (us := us) (fun k hk hk' => by have := hall (k + 1) (by simpa using hk) (by simpa using hk'); simpa using this)
    simp only [List.getElem_cons_zero] at h0
    simp [befL, h0, h1]

mutual
/-- How often variable v stands in a term. -/
def cntT (v : Int) : TermD → Nat
  | .mk f u ks => (if f = -1 ∧ u = v then 1 else 0) + cntL v ks
def cntL (v : Int) : List TermD → Nat
  | [] => 0
  | t :: ts => cntT v t + cntL v ts
end

theorem cntT_eq (v : Int) (t : TermD) : cntT v t = (if t.f = -1 ∧ t.v = v then 1 else 0) + cntL v t.kids := by cases t; rw [cntT]; rfl
theorem cntL_append (v : Int) (a b : List TermD) : cntL v (a ++ b) = cntL v a + cntL v b := by
  induction a with
  | nil => simp [cntL]
  | cons t ts ih => simp only [List.cons_append, cntL, ih]; omega
theorem cntL_next (v : Int) {ts : List TermD} {k : Nat} (h : k < ts.length) : cntL v (ts.take (k + 1)) = cntL v (ts.take k) + cntT v ts[k] := by
  rw [List.take_succ_eq_append_getElem h, cntL_append]
  simp [cntL]
mutual
theorem cntT_le (v : Int) : ∀ t : TermD, cntT v t ≤ partsT t
  | .mk f u ks => by
    have := cntL_le v ks
    simp only [cntT, partsT]
    split <;> omega
theorem cntL_le (v : Int) : ∀ ts : List TermD, cntL v ts ≤ partsL ts
  | [] => by simp [cntL]
  | t :: ts => by
    have h1 := cntT_le v t
    have h2 := cntL_le v ts
    simp only [cntL, partsL]; omega
end
end Go.Proofs.YtollijngiioonaaGreat

/- Terms that own their memory: no two parts of one lie in one block. Conditions: none. -/
namespace Go.Proofs.YtollijngiioonaaGreat
set_option maxRecDepth 100000
open Go.RowKit

/-- The slice of terms that begins at 'a' reads in w as ts; its blocks are among S, and no two of its parts share one. -/
inductive OwnS (w : World) : (Nat → Prop) → Option Addr → List TermD → Prop
  | nil (S : Nat → Prop) (a : Option Addr) : OwnS w S a []
  | row (S : Nat → Prop) (b off : Nat) (ts : List TermD) (A : Nat → Option Addr) (C : Nat → Nat) (K : Nat → Nat → Prop) (hb : S b) (hlt : b < w.heap.size) (hl : ts.length ≤ 9223372036854775807 ∧ ∀ i, (h : i < ts.length) → ts[i].kids.length ≤ C i) (hz : ∀ i, (h : i < ts.length) → isW ts[i].f ∧ isW ts[i].v)
      (hc : ∀ i, (h : i < ts.length) → w.cell? ⟨b, off + i * 3, none⟩ = some (.int .i64 ts[i].f) ∧ w.cell? ⟨b, off + i * 3 + 1, none⟩ = some (.int .i64 ts[i].v) ∧ w.cell? ⟨b, off + i * 3 + 2, none⟩ = some (.slice (A i) ts[i].kids.length (C i)))
      (hf : ∀ j, w.frozen? ⟨b, j, none⟩ = false)
      (hsub : ∀ i x, i < ts.length → K i x → S x ∧ x ≠ b) (hdis : ∀ i j x, i < ts.length → j < ts.length → i ≠ j → K i x → ¬ K j x)
      (hk : ∀ i, (h : i < ts.length) → OwnS w (K i) (A i) ts[i].kids) : OwnS w S (some ⟨b, off, none⟩) ts

/-- Whatever leaves the blocks of S as they were leaves it. -/
theorem OwnS.frame {w w' : World} {S : Nat → Prop} {a : Option Addr} {ts : List TermD} (h : OwnS w S a ts) (hs : ∀ x, S x → w'.heap[x]? = w.heap[x]?) (hz : w.heap.size ≤ w'.heap.size) : OwnS w' S a ts := by
  induction h with
  | nil S a => exact .nil S a
  | row S b off ts A C K hb hlt hl hz' hc hf hsub hdis hk ih =>
    have e := hs b hb
    refine .row S b off ts A C K hb (Nat.lt_of_lt_of_le hlt hz) hl hz' (fun i h => ?_) (fun j => ?_) hsub hdis (fun i h => ih i h (fun x hx => hs x (hsub i x h hx).1))
    · obtain ⟨h0, h1, h2⟩ := hc i h
      exact ⟨(World.cell?_of_block (a := ⟨b, _, none⟩) e).trans h0, (World.cell?_of_block (a := ⟨b, _, none⟩) e).trans h1, (World.cell?_of_block (a := ⟨b, _, none⟩) e).trans h2⟩
    · exact (World.frozen?_of_block (a := ⟨b, j, none⟩) e).trans (hf j)

theorem OwnS.mono {w : World} {S S' : Nat → Prop} {a : Option Addr} {ts : List TermD} (h : OwnS w S a ts) (hs : ∀ x, S x → S' x) : OwnS w S' a ts := by
  cases h with
  | nil S a => exact .nil S' a
  | row S b off ts A C K hb hlt hl hz' hc hf hsub hdis hk => exact .row S' b off ts A C K (hs b hb) hlt hl hz' hc hf (fun i x h hx => ⟨hs x (hsub i x h hx).1, (hsub i x h hx).2⟩) hdis hk

theorem OwnS.rd {w : World} {S : Nat → Prop} {a : Option Addr} {ts : List TermD} (h : OwnS w S a ts) : RdK w w.heap.size a ts := by
  induction h with
  | nil S a => exact .nil a
  | row S b off ts A C K hb hlt hl hz hc hf hsub hdis hk ih => exact .row b off ts A C hlt hl hz hc ih

theorem OwnS.on {w w' : World} {lo hi : Nat} {a : Option Addr} {ts : List TermD} (h : OwnS w (fun x => lo ≤ x ∧ x < hi) a ts) (hb : Below hi w w') : OwnS w' (fun x => lo ≤ x ∧ x < hi) a ts :=
  h.frame (fun x hx => hb.block x hx.2) hb.size

theorem set3_cells {u : World} {r : Nat} {x y z p q s : Value} (h0 : u.cell? ⟨r, 0, none⟩ = some p) (h1 : u.cell? ⟨r, 1, none⟩ = some q) (h2 : u.cell? ⟨r, 2, none⟩ = some s) :
    (((u.setCell ⟨r, 0, none⟩ x).setCell ⟨r, 1, none⟩ y).setCell ⟨r, 2, none⟩ z).cell? ⟨r, 0, none⟩ = some x ∧ (((u.setCell ⟨r, 0, none⟩ x).setCell ⟨r, 1, none⟩ y).setCell ⟨r, 2, none⟩ z).cell? ⟨r, 1, none⟩ = some y ∧ (((u.setCell ⟨r, 0, none⟩ x).setCell ⟨r, 1, none⟩ y).setCell ⟨r, 2, none⟩ z).cell? ⟨r, 2, none⟩ = some z := by
  refine ⟨?_, ?_, ?_⟩
  · rw [World.cell?_setCell_other _ _ _ _ (by simp), World.cell?_setCell_other _ _ _ _ (by simp)]
    exact World.cell?_setCell_same _ _ _ h0
  · rw [World.cell?_setCell_other _ _ _ _ (by simp)]
    exact World.cell?_setCell_same _ _ _ (by rw [World.cell?_setCell_other _ _ _ _ (by simp)]; exact h1)
  · exact World.cell?_setCell_same _ _ _ (by rw [World.cell?_setCell_other _ _ _ _ (by simp), World.cell?_setCell_other _ _ _ _ (by simp)]; exact h2)

/-- Stores into blocks that are not among S. -/
theorem OwnS.setCell {w : World} {S : Nat → Prop} {a : Option Addr} {ts : List TermD} (h : OwnS w S a ts) (p : Addr) (hp : ¬ S p.block) (u : Value) : OwnS (w.setCell p u) S a ts :=
  h.frame (fun x hx => Below.heap_setCell w p u x (fun e => hp (e ▸ hx))) (by simp)

/-- Three cells an element. -/
def cs3 (l : List (Value × Value × Value)) : List Value := l.flatMap fun t => [t.1, t.2.1, t.2.2]

theorem cs3_len (l : List (Value × Value × Value)) : (cs3 l).length = l.length * 3 := by
  induction l with
  | nil => rfl
  | cons t l ih => simp only [cs3, List.flatMap_cons, List.length_append] at *; rw [ih]; simp; omega

theorem cs3_set (t : Value × Value × Value) : ∀ (l : List (Value × Value × Value)) (k : Nat), k < l.length → (((cs3 l).set (k * 3) t.1).set (k * 3 + 1) t.2.1).set (k * 3 + 2) t.2.2 = cs3 (l.set k t)
  | [], k, h => by simp at h
  | x :: l, 0, _ => by simp [cs3]
  | x :: l, k + 1, h => by
    have ih := cs3_set t l k (by simpa using h)
    have e : ∀ (m : Nat) (L : List Value) (v : Value), ([x.1, x.2.1, x.2.2] ++ L).set (m + 3) v = [x.1, x.2.1, x.2.2] ++ L.set m v := by intro m L v; simp
    have e0 : (k + 1) * 3 = k * 3 + 3 := by omega
    rw [List.set_cons_succ]
    simp only [cs3, List.flatMap_cons] at *
    rw [e0, e, show k * 3 + 3 + 1 = (k * 3 + 1) + 3 by omega, e, show k * 3 + 3 + 2 = (k * 3 + 2) + 3 by omega, e, ih]

theorem cs3_get : ∀ (l : List (Value × Value × Value)) (k : Nat), (h : k < l.length) → (cs3 l)[k * 3]? = some l[k].1 ∧ (cs3 l)[k * 3 + 1]? = some l[k].2.1 ∧ (cs3 l)[k * 3 + 2]? = some l[k].2.2
  | [], k, h => by simp at h
  | x :: l, 0, _ => by simp [cs3]
  | x :: l, k + 1, h => by
    have ih := cs3_get l k (by simpa using h)
    have e : ∀ (m : Nat) (L : List Value), ([x.1, x.2.1, x.2.2] ++ L)[m + 3]? = L[m]? := by
      intro m L
      rw [List.getElem?_append_right (by simp)]
      simp
    have e0 : (k + 1) * 3 = k * 3 + 3 := by omega
    simp only [cs3, List.flatMap_cons, List.getElem_cons_succ] at *
    rw [e0, e, show k * 3 + 3 + 1 = (k * 3 + 1) + 3 by omega, e, show k * 3 + 3 + 2 = (k * 3 + 2) + 3 by omega, e]
    exact ih

theorem cs3_made (a b c : Value) : ∀ (n : Nat), (madeCells #[a, b, c] (n * 3)).toList = cs3 (List.replicate n (a, b, c))
  | 0 => by simp [madeCells, cs3]
  | n + 1 => by
    have ih := cs3_made a b c n
    rw [List.replicate_succ', cs3, List.flatMap_append]
    rw [cs3] at ih
    rw [← ih]
    have e0 : (n + 1) * 3 = n * 3 + 1 + 1 + 1 := by omega
    rw [e0]
    simp only [madeCells, Array.toList_map, Array.toList_range, List.range_succ, List.map_append, List.map_cons, List.map_nil, List.append_assoc]
    have m0 : n * 3 % 3 = 0 := by omega
    have m1 : (n * 3 + 1) % 3 = 1 := by omega
    have m2 : (n * 3 + 1 + 1) % 3 = 2 := by omega
    simp [m0, m1, m2]

theorem own_on {w w' : World} {base : Nat} {e : TypeId} {size : Nat} {v : Value} {n : Nat} {xs : List Value} (h : w.ownsRow base e size v n xs) (hb : Below w.heap.size w w') : w'.ownsRow base e size v n xs := by
  have hl := h.lt
  obtain ⟨h1, h2⟩ := h
  refine ⟨h1, ?_⟩
  rcases h2 with h2 | ⟨g, cap, cur, rfl, hg, hh, r⟩
  · exact .inl h2
  · exact .inr ⟨g, cap, cur, rfl, hg, by rw [hb.block g (hl g rfl).2]; exact hh, r⟩

theorem cs3_store {w : World} {T : TypeId} {B g c n : Nat} {l : List (Value × Value × Value)} (t : Value × Value × Value) {k : Nat} (hk : k < l.length) (h : w.ownsRow B T 3 (.slice (some ⟨g, 0, none⟩) n c) n (cs3 l)) :
    (((w.setCell ⟨g, k * 3, none⟩ t.1).setCell ⟨g, k * 3 + 1, none⟩ t.2.1).setCell ⟨g, k * 3 + 2, none⟩ t.2.2).ownsRow B T 3 (.slice (some ⟨g, 0, none⟩) n c) n (cs3 (l.set k t)) := by
  have h1 := (((h.stored (k * 3) t.1).1.stored (k * 3 + 1) t.2.1).1.stored (k * 3 + 2) t.2.2).1
  rwa [cs3_set t l k hk] at h1

theorem cs3_cells {w : World} {T : TypeId} {B g c n : Nat} {l : List (Value × Value × Value)} {k : Nat} (hn : n = l.length) (hk : k < l.length) (h : w.ownsRow B T 3 (.slice (some ⟨g, 0, none⟩) n c) n (cs3 l)) :
    w.cell? ⟨g, k * 3, none⟩ = some l[k].1 ∧ w.cell? ⟨g, k * 3 + 1, none⟩ = some l[k].2.1 ∧ w.cell? ⟨g, k * 3 + 2, none⟩ = some l[k].2.2 := by
  obtain ⟨g0, g1, g2⟩ := cs3_get l k hk
  exact ⟨(h.cellAt _ (by omega)).trans g0, (h.cellAt _ (by omega)).trans g1, (h.cellAt _ (by omega)).trans g2⟩

/-- The elements of a copy when its first k have been laid. -/
def laidTo (ts : List TermD) (A : Nat → Option Addr) (k : Nat) : List (Value × Value × Value) :=
  (List.range ts.length).map fun i => if i < k then (.int .i64 (ts[i]?.getD default).f, .int .i64 (ts[i]?.getD default).v, .slice (A i) (ts[i]?.getD default).kids.length (ts[i]?.getD default).kids.length) else (.int .i64 0, .int .i64 0, .slice none 0 0)

theorem laidTo_len (ts : List TermD) (A : Nat → Option Addr) (k : Nat) : (laidTo ts A k).length = ts.length := by simp [laidTo]

theorem laidTo_zero (ts : List TermD) (A : Nat → Option Addr) : laidTo ts A 0 = List.replicate ts.length (.int .i64 0, .int .i64 0, .slice none 0 0) := by
  unfold laidTo
  apply List.ext_getElem <;> simp

theorem laidTo_set (ts : List TermD) (A : Nat → Option Addr) {k : Nat} (h : k < ts.length) (a : Option Addr) :
    (laidTo ts A k).set k (.int .i64 ts[k].f, .int .i64 ts[k].v, .slice a ts[k].kids.length ts[k].kids.length) = laidTo ts (fun i => if i = k then a else A i) (k + 1) := by
  unfold laidTo
  apply List.ext_getElem
  · simp
  · intro i h1 h2
    simp only [List.length_set, List.length_map, List.length_range] at h1
    rw [List.getElem_set]
    by_cases e : k = i
    · subst e
      simp [h]
    · rw [if_neg e]
      simp only [List.getElem_map, List.getElem_range]
      have e2 : ¬ i = k := fun h => e h.symm
      by_cases hi : i < k
      · simp [hi, e2, show i < k + 1 by omega]
      · simp [hi, show ¬ i < k + 1 by omega]
end Go.Proofs.YtollijngiioonaaGreat

/- A box of three cells, and two of them written. Conditions: none. -/
namespace Go.Proofs.YtollijngiioonaaGreat
set_option maxRecDepth 100000
open Go.RowKit

/-- A box of three cells. -/
def C3 (W : World) (b : Nat) (x y z : Value) : Prop := W.cell? ⟨b, 0, none⟩ = some x ∧ W.cell? ⟨b, 1, none⟩ = some y ∧ W.cell? ⟨b, 2, none⟩ = some z
theorem C3.stay {W W' : World} {b : Nat} {x y z : Value} {S : Nat → Prop} (h : C3 W b x y z) (hs : Stay S W W') (hb : S b) : C3 W' b x y z := ⟨hs.cell h.1 hb, hs.cell h.2.1 hb, hs.cell h.2.2 hb⟩
theorem C3.on {W W' : World} {b : Nat} {x y z : Value} (h : C3 W b x y z) (hb : Below W.heap.size W W') : C3 W' b x y z := ⟨keepC hb h.1, keepC hb h.2.1, keepC hb h.2.2⟩
theorem C3.lt {W : World} {b : Nat} {x y z : Value} (h : C3 W b x y z) : b < W.heap.size := World.block_lt_of_cell? _ _ h.1
theorem set3_stay (W : World) (b : Nat) (x y z : Value) : Stay (fun k => k ≠ b) W (((W.setCell ⟨b, 0, none⟩ x).setCell ⟨b, 1, none⟩ y).setCell ⟨b, 2, none⟩ z) := ((Stay.setCell _ _ (by simp)).trans (.setCell _ _ (by simp))).trans (.setCell _ _ (by simp))
theorem set3k {W : World} {b o B : Nat} {v x y z : Value} (h : W.cell? ⟨b, o, none⟩ = some v) (hne : b ≠ B) : (((W.setCell ⟨B, 0, none⟩ x).setCell ⟨B, 1, none⟩ y).setCell ⟨B, 2, none⟩ z).cell? ⟨b, o, none⟩ = some v := (set3_stay W B x y z).cell h hne
theorem C3.set {W : World} {b : Nat} {x y z : Value} (h : C3 W b x y z) (x' y' z' : Value) : C3 (((W.setCell ⟨b, 0, none⟩ x').setCell ⟨b, 1, none⟩ y').setCell ⟨b, 2, none⟩ z') b x' y' z' := by
  obtain ⟨z0, z1, z2⟩ := set3_cells (u := W) (r := b) (x := x') (y := y') (z := z') h.1 h.2.1 h.2.2
  exact ⟨z0, z1, z2⟩
theorem C3.new (W : World) (x y z : Value) (T : TypeId) : C3 (W.alloc (.cells #[x, y, z] T)) W.heap.size x y z := ⟨by simp, by simp, by simp⟩
theorem two_set {W : World} {R R' : Nat} {x y z x' y' z' : Value} (h : C3 W R (.int .i64 0) (.int .i64 0) (.slice none 0 0)) (h' : C3 W R' (.int .i64 0) (.int .i64 0) (.slice none 0 0)) (hne : R ≠ R') :
    C3 ((((((W.setCell ⟨R, 0, none⟩ x).setCell ⟨R, 1, none⟩ y).setCell ⟨R, 2, none⟩ z).setCell ⟨R', 0, none⟩ x').setCell ⟨R', 1, none⟩ y').setCell ⟨R', 2, none⟩ z') R x y z ∧ C3 ((((((W.setCell ⟨R, 0, none⟩ x).setCell ⟨R, 1, none⟩ y).setCell ⟨R, 2, none⟩ z).setCell ⟨R', 0, none⟩ x').setCell ⟨R', 1, none⟩ y').setCell ⟨R', 2, none⟩ z') R' x' y' z' ∧ Stay (fun k => k ≠ R ∧ k ≠ R') W ((((((W.setCell ⟨R, 0, none⟩ x).setCell ⟨R, 1, none⟩ y).setCell ⟨R, 2, none⟩ z).setCell ⟨R', 0, none⟩ x').setCell ⟨R', 1, none⟩ y').setCell ⟨R', 2, none⟩ z') :=
  ⟨(h.set x y z).stay (set3_stay _ _ _ _ _) hne, (h'.stay (set3_stay _ _ _ _ _) hne.symm).set _ _ _, ((set3_stay W R x y z).weak (fun _ _ hk => hk.1)).trans ((set3_stay _ R' x' y' z').weak (fun _ _ hk => hk.2))⟩
end Go.Proofs.YtollijngiioonaaGreat

/- While a region whose order is drawn goes on: which block belongs to what; answers that own their memory, boxes of three cells. Conditions: none. -/
namespace Go.Proofs.YtollijngiioonaaGreat
set_option maxRecDepth 100000
open Go.RowKit

/-- Which block belongs to what (0: to nothing that is laid here). -/
structure Tg (w0 : World) (o : Nat → Nat) (W : World) : Prop where
  bel : Below w0.heap.size w0 W
  own : ∀ k, o k ≠ 0 → w0.heap.size ≤ k ∧ k < W.heap.size
/-- A step that writes only into what belongs to t. -/
structure TFr (t : Nat) (o : Nat → Nat) (W : World) (o' : Nat → Nat) (W' : World) : Prop where
  st : Stay (fun k => o k ≠ t) W W'
  old : ∀ k, k < W.heap.size → o' k = o k
theorem Tg.start (w : World) : Tg w (fun _ => 0) w.drew := ⟨Below.drew (Below.refl _ _), fun _ h => absurd rfl h⟩
def upd (o : Nat → Nat) (lo hi g : Nat) : Nat → Nat := fun k => if lo ≤ k ∧ k < hi then g else o k
theorem upd_old {o : Nat → Nat} {lo hi g k : Nat} (h : k < lo) : upd o lo hi g k = o k := by unfold upd; rw [if_neg (by omega)]
theorem upd_new {o : Nat → Nat} {lo hi g k : Nat} (h : lo ≤ k) (h' : k < hi) : upd o lo hi g k = g := by unfold upd; rw [if_pos ⟨h, h'⟩]
theorem Tg.grow {w0 : World} {o : Nat → Nat} {W W' : World} (h : Tg w0 o W) (hb : Below W.heap.size W W') (g : Nat) : Tg w0 (upd o W.heap.size W'.heap.size g) W' := by
  have hs := hb.size
  have hz := h.bel.size
  refine ⟨h.bel.trans (hb.mono hz), fun k hk => ?_⟩
  by_cases hlt : k < W.heap.size
  · rw [upd_old hlt] at hk
    have := h.own k hk
    omega
  · unfold upd at hk
    by_cases hn : W.heap.size ≤ k ∧ k < W'.heap.size
    · omega
    · rw [if_neg hn] at hk
      have := h.own k hk
      omega
theorem TFr.grow (t : Nat) {o : Nat → Nat} {W W' : World} (hb : Below W.heap.size W W') (g : Nat) : TFr t o W (upd o W.heap.size W'.heap.size g) W' := ⟨.of_below hb (fun _ hk _ => hk), fun _ hk => upd_old hk⟩
theorem Tg.set {w0 : World} {o : Nat → Nat} {W : World} {b : Nat} (h : Tg w0 o W) (hb : o b ≠ 0) (x y z : Value) : Tg w0 o (((W.setCell ⟨b, 0, none⟩ x).setCell ⟨b, 1, none⟩ y).setCell ⟨b, 2, none⟩ z) := by
  have hst := set3_stay W b x y z
  have hh := h.own b hb
  refine ⟨h.bel.trans (hst.below h.bel.size (fun k hk => by omega)), fun k hk => ?_⟩
  have := h.own k hk
  have := hst.size
  omega
theorem TFr.set {o : Nat → Nat} {W : World} {b t : Nat} (hb : o b = t) (x y z : Value) : TFr t o W o (((W.setCell ⟨b, 0, none⟩ x).setCell ⟨b, 1, none⟩ y).setCell ⟨b, 2, none⟩ z) := ⟨(set3_stay W b x y z).weak (fun _ _ hk e => hk (e ▸ hb)), fun _ _ => rfl⟩

/-- A term that came of a call: it owns its memory. -/
def FC (o : Nat → Nat) (W : World) (g : Nat) (s : Value) (N : TermD) : Prop := ∃ a c, s = .agg #[.int .i64 N.f, .int .i64 N.v, .slice a N.kids.length c] ∧ OwnS W (fun k => o k = g) a N.kids ∧ N.kids.length ≤ c
/-- A box of three cells. -/
def FB (o : Nat → Nat) (W : World) (g : Nat) (s v : Value) : Prop := ∃ B x y z, s = .pointer (some ⟨B, 0, none⟩) ∧ v = .agg #[x, y, z] ∧ o B = g ∧ (∀ j, W.frozen? ⟨B, j, none⟩ = false) ∧ C3 W B x y z
def FZ (o : Nat → Nat) (W : World) (g : Nat) (s : Value) : Prop := FB o W g s (.agg #[.int .i64 0, .int .i64 0, .slice none 0 0])
theorem FC.fr {w0 : World} {o o' : Nat → Nat} {W W' : World} {g t : Nat} {s : Value} {N : TermD} (h : FC o W g s N) (hT : Tg w0 o W) (hf : TFr t o W o' W') (h0 : g ≠ 0) (hne : g ≠ t) : FC o' W' g s N := by
  obtain ⟨a, c, rfl, ho, hc⟩ := h
  have hl : ∀ k, o k = g → k < W.heap.size := fun k hk => (hT.own k (by rw [hk]; exact h0)).2
  refine ⟨a, c, rfl, (ho.frame (fun k hk => hf.st.block k (hl k hk) ?_) hf.st.size).mono fun k hk => ?_, hc⟩
  · intro e
    exact hne (hk.symm.trans e)
  · rw [hf.old k (hl k hk)]; exact hk
theorem FB.fr {o o' : Nat → Nat} {W W' : World} {g t : Nat} {s v : Value} (h : FB o W g s v) (hf : TFr t o W o' W') (hne : g ≠ t) : FB o' W' g s v := by
  obtain ⟨B, x, y, z, rfl, rfl, hb, hz, hC⟩ := h
  have hn : o B ≠ t := fun e => hne (hb.symm.trans e)
  exact ⟨B, x, y, z, rfl, rfl, (hf.old B hC.lt).trans hb, fun j => (hf.st.frozen (p := ⟨B, j, none⟩) hC.lt hn).trans (hz j), hC.stay hf.st hn⟩
theorem FC.new {o : Nat → Nat} {W W' : World} {a : Option Addr} {c : Nat} {N : TermD} (g : Nat) (ho : OwnS W' (fun x => W.heap.size ≤ x ∧ x < W'.heap.size) a N.kids) (hc : N.kids.length ≤ c) : FC (upd o W.heap.size W'.heap.size g) W' g (.agg #[.int .i64 N.f, .int .i64 N.v, .slice a N.kids.length c]) N :=
  ⟨a, c, rfl, ho.mono fun _ hk => upd_new hk.1 hk.2, hc⟩
theorem FZ.new (o : Nat → Nat) (W : World) (g : Nat) (T : TypeId) : FZ (upd o W.heap.size (W.alloc (.cells #[.int .i64 0, .int .i64 0, .slice none 0 0] T)).heap.size g) (W.alloc (.cells #[.int .i64 0, .int .i64 0, .slice none 0 0] T)) g (.pointer (some ⟨W.heap.size, 0, none⟩)) :=
  ⟨W.heap.size, _, _, _, rfl, rfl, upd_new (Nat.le_refl _) (by simp), fun j => by simp, C3.new _ _ _ _ _⟩
theorem FB.put {o : Nat → Nat} {W : World} {g B : Nat} {x y z : Value} (hb : o B = g) (hz : ∀ j, W.frozen? ⟨B, j, none⟩ = false) (hC : C3 W B x y z) (x' y' z' : Value) : FB o (((W.setCell ⟨B, 0, none⟩ x').setCell ⟨B, 1, none⟩ y').setCell ⟨B, 2, none⟩ z') g (.pointer (some ⟨B, 0, none⟩)) (.agg #[x', y', z']) :=
  ⟨B, x', y', z', rfl, rfl, hb, fun j => by simp [hz j], hC.set _ _ _⟩

/-- Two calls that each answer a term, and a box for either: what lies in memory, whatever has been done so far (i: the calls, j: the boxes laid, k: the boxes written). -/
structure CB (w0 : World) (N1 N2 : TermD) (i1 i2 j1 j2 k1 k2 : Nat) (L : Array Bool) (o : Nat → Nat) (W : World) (v1 v2 p1 p2 : Value) : Prop where
  tg : Tg w0 o W
  c1 : Dn L i1 → FC o W 1 v1 N1
  c2 : Dn L i2 → FC o W 2 v2 N2
  z1 : Dn L j1 → ¬ Dn L k1 → FZ o W 3 p1
  z2 : Dn L j2 → ¬ Dn L k2 → FZ o W 4 p2
  f1 : Dn L k1 → FB o W 3 p1 v1
  f2 : Dn L k2 → FB o W 4 p2 v2
theorem CB.start (w : World) (N1 N2 : TermD) (i1 i2 j1 j2 k1 k2 n : Nat) (v1 v2 p1 p2 : Value) : CB w N1 N2 i1 i2 j1 j2 k1 k2 (Array.replicate n false) (fun _ => 0) w.drew v1 v2 p1 p2 :=
  ⟨Tg.start w, fun h => absurd h dn_none, fun h => absurd h dn_none, fun h => absurd h dn_none, fun h => absurd h dn_none, fun h => absurd h dn_none, fun h => absurd h dn_none⟩
section
variable {w0 : World} {N1 N2 : TermD} {i1 i2 j1 j2 k1 k2 : Nat} {L : Array Bool} {o : Nat → Nat} {W : World} {v1 v2 p1 p2 : Value}
/-- An operation that touches none of them. -/
theorem CB.pure (h : CB w0 N1 N2 i1 i2 j1 j2 k1 k2 L o W v1 v2 p1 p2) {i : Nat} (hi : i < L.size) (hn : i ≠ i1 ∧ i ≠ i2 ∧ i ≠ j1 ∧ i ≠ j2 ∧ i ≠ k1 ∧ i ≠ k2) : CB w0 N1 N2 i1 i2 j1 j2 k1 k2 (L.setIfInBounds i true) o W v1 v2 p1 p2 := by
  obtain ⟨n1, n2, n3, n4, n5, n6⟩ := hn
  have e : ∀ j, i ≠ j → Dn (L.setIfInBounds i true) j → Dn L j := fun j hj hd => ((dn_set hi).1 hd).resolve_left (fun e => hj e.symm)
  have e' : ∀ j, ¬ Dn (L.setIfInBounds i true) j → ¬ Dn L j := fun j hd hx => hd ((dn_set hi).2 (.inr hx))
  exact ⟨h.tg, fun d => h.c1 (e _ n1 d), fun d => h.c2 (e _ n2 d), fun d d' => h.z1 (e _ n3 d) (e' _ d'), fun d d' => h.z2 (e _ n4 d) (e' _ d'), fun d => h.f1 (e _ n5 d), fun d => h.f2 (e _ n6 d)⟩
theorem CB.call1 (h : CB w0 N1 N2 i1 i2 j1 j2 k1 k2 L o W v1 v2 p1 p2) (hi : i1 < L.size) (hn : i1 ≠ i2 ∧ i1 ≠ j1 ∧ i1 ≠ j2 ∧ i1 ≠ k1 ∧ i1 ≠ k2) (hk : ¬ Dn L k1) {W' : World} (hb : Below W.heap.size W W') {a : Option Addr} {c : Nat}
    (ho : OwnS W' (fun x => W.heap.size ≤ x ∧ x < W'.heap.size) a N1.kids) (hc : N1.kids.length ≤ c) : ∃ o', CB w0 N1 N2 i1 i2 j1 j2 k1 k2 (L.setIfInBounds i1 true) o' W' (.agg #[.int .i64 N1.f, .int .i64 N1.v, .slice a N1.kids.length c]) v2 p1 p2 := by
  obtain ⟨n2, n3, n4, n5, n6⟩ := hn
  have e : ∀ j, i1 ≠ j → Dn (L.setIfInBounds i1 true) j → Dn L j := fun j hj hd => ((dn_set hi).1 hd).resolve_left (fun e => hj e.symm)
  have e' : ∀ j, ¬ Dn (L.setIfInBounds i1 true) j → ¬ Dn L j := fun j hd hx => hd ((dn_set hi).2 (.inr hx))
  have F := TFr.grow 9 (o := o) hb 1
  exact ⟨_, h.tg.grow hb 1, fun _ => FC.new 1 ho hc, fun d => (h.c2 (e _ n2 d)).fr h.tg F (by decide) (by decide), fun d d' => FB.fr (h.z1 (e _ n3 d) (e' _ d')) F (by decide), fun d d' => FB.fr (h.z2 (e _ n4 d) (e' _ d')) F (by decide), fun d => absurd (e _ n5 d) hk, fun d => (h.f2 (e _ n6 d)).fr F (by decide)⟩
theorem CB.call2 (h : CB w0 N1 N2 i1 i2 j1 j2 k1 k2 L o W v1 v2 p1 p2) (hi : i2 < L.size) (hn : i2 ≠ i1 ∧ i2 ≠ j1 ∧ i2 ≠ j2 ∧ i2 ≠ k1 ∧ i2 ≠ k2) (hk : ¬ Dn L k2) {W' : World} (hb : Below W.heap.size W W') {a : Option Addr} {c : Nat}
    (ho : OwnS W' (fun x => W.heap.size ≤ x ∧ x < W'.heap.size) a N2.kids) (hc : N2.kids.length ≤ c) : ∃ o', CB w0 N1 N2 i1 i2 j1 j2 k1 k2 (L.setIfInBounds i2 true) o' W' v1 (.agg #[.int .i64 N2.f, .int .i64 N2.v, .slice a N2.kids.length c]) p1 p2 := by
  obtain ⟨n2, n3, n4, n5, n6⟩ := hn
  have e : ∀ j, i2 ≠ j → Dn (L.setIfInBounds i2 true) j → Dn L j := fun j hj hd => ((dn_set hi).1 hd).resolve_left (fun e => hj e.symm)
  have e' : ∀ j, ¬ Dn (L.setIfInBounds i2 true) j → ¬ Dn L j := fun j hd hx => hd ((dn_set hi).2 (.inr hx))
  have F := TFr.grow 9 (o := o) hb 2
  exact ⟨_, h.tg.grow hb 2, fun d => (h.c1 (e _ n2 d)).fr h.tg F (by decide) (by decide), fun _ => FC.new 2 ho hc, fun d d' => FB.fr (h.z1 (e _ n3 d) (e' _ d')) F (by decide), fun d d' => FB.fr (h.z2 (e _ n4 d) (e' _ d')) F (by decide), fun d => (h.f1 (e _ n5 d)).fr F (by decide), fun d => absurd (e _ n6 d) hk⟩
theorem CB.box1 (h : CB w0 N1 N2 i1 i2 j1 j2 k1 k2 L o W v1 v2 p1 p2) (hi : j1 < L.size) (hn : j1 ≠ i1 ∧ j1 ≠ i2 ∧ j1 ≠ j2 ∧ j1 ≠ k1 ∧ j1 ≠ k2) (hk : ¬ Dn L k1) (T : TypeId) :
    ∃ o', CB w0 N1 N2 i1 i2 j1 j2 k1 k2 (L.setIfInBounds j1 true) o' (W.alloc (.cells #[.int .i64 0, .int .i64 0, .slice none 0 0] T)) v1 v2 (.pointer (some ⟨W.heap.size, 0, none⟩)) p2 := by
  obtain ⟨n2, n3, n4, n5, n6⟩ := hn
  have e : ∀ j, j1 ≠ j → Dn (L.setIfInBounds j1 true) j → Dn L j := fun j hj hd => ((dn_set hi).1 hd).resolve_left (fun e => hj e.symm)
  have e' : ∀ j, ¬ Dn (L.setIfInBounds j1 true) j → ¬ Dn L j := fun j hd hx => hd ((dn_set hi).2 (.inr hx))
  have hb : Below W.heap.size W (W.alloc (.cells #[.int .i64 0, .int .i64 0, .slice none 0 0] T)) := (Below.refl _ _).alloc (Nat.le_refl _) _
  have F := TFr.grow 9 (o := o) hb 3
  exact ⟨_, h.tg.grow hb 3, fun d => (h.c1 (e _ n2 d)).fr h.tg F (by decide) (by decide), fun d => (h.c2 (e _ n3 d)).fr h.tg F (by decide) (by decide), fun _ _ => FZ.new o W 3 T, fun d d' => FB.fr (h.z2 (e _ n4 d) (e' _ d')) F (by decide), fun d => absurd (e _ n5 d) hk, fun d => (h.f2 (e _ n6 d)).fr F (by decide)⟩
theorem CB.box2 (h : CB w0 N1 N2 i1 i2 j1 j2 k1 k2 L o W v1 v2 p1 p2) (hi : j2 < L.size) (hn : j2 ≠ i1 ∧ j2 ≠ i2 ∧ j2 ≠ j1 ∧ j2 ≠ k1 ∧ j2 ≠ k2) (hk : ¬ Dn L k2) (T : TypeId) :
    ∃ o', CB w0 N1 N2 i1 i2 j1 j2 k1 k2 (L.setIfInBounds j2 true) o' (W.alloc (.cells #[.int .i64 0, .int .i64 0, .slice none 0 0] T)) v1 v2 p1 (.pointer (some ⟨W.heap.size, 0, none⟩)) := by
  obtain ⟨n2, n3, n4, n5, n6⟩ := hn
  have e : ∀ j, j2 ≠ j → Dn (L.setIfInBounds j2 true) j → Dn L j := fun j hj hd => ((dn_set hi).1 hd).resolve_left (fun e => hj e.symm)
  have e' : ∀ j, ¬ Dn (L.setIfInBounds j2 true) j → ¬ Dn L j := fun j hd hx => hd ((dn_set hi).2 (.inr hx))
  have hb : Below W.heap.size W (W.alloc (.cells #[.int .i64 0, .int .i64 0, .slice none 0 0] T)) := (Below.refl _ _).alloc (Nat.le_refl _) _
  have F := TFr.grow 9 (o := o) hb 4
  exact ⟨_, h.tg.grow hb 4, fun d => (h.c1 (e _ n2 d)).fr h.tg F (by decide) (by decide), fun d => (h.c2 (e _ n3 d)).fr h.tg F (by decide) (by decide), fun d d' => FB.fr (h.z1 (e _ n4 d) (e' _ d')) F (by decide), fun _ _ => FZ.new o W 4 T, fun d => (h.f1 (e _ n5 d)).fr F (by decide), fun d => absurd (e _ n6 d) hk⟩
/-- A box that is written. -/
theorem CB.put1 {B : Nat} {x y z x' y' z' : Value} (h : CB w0 N1 N2 i1 i2 j1 j2 k1 k2 L o W (.agg #[x', y', z']) v2 (.pointer (some ⟨B, 0, none⟩)) p2) (hi : k1 < L.size) (hn : k1 ≠ i1 ∧ k1 ≠ i2 ∧ k1 ≠ j1 ∧ k1 ≠ j2 ∧ k1 ≠ k2) (hob : o B = 3) (hz : ∀ j, W.frozen? ⟨B, j, none⟩ = false) (hC : C3 W B x y z) :
    CB w0 N1 N2 i1 i2 j1 j2 k1 k2 (L.setIfInBounds k1 true) o (((W.setCell ⟨B, 0, none⟩ x').setCell ⟨B, 1, none⟩ y').setCell ⟨B, 2, none⟩ z') (.agg #[x', y', z']) v2 (.pointer (some ⟨B, 0, none⟩)) p2 := by
  obtain ⟨n2, n3, n4, n5, n6⟩ := hn
  have e : ∀ j, k1 ≠ j → Dn (L.setIfInBounds k1 true) j → Dn L j := fun j hj hd => ((dn_set hi).1 hd).resolve_left (fun e => hj e.symm)
  have e' : ∀ j, ¬ Dn (L.setIfInBounds k1 true) j → ¬ Dn L j := fun j hd hx => hd ((dn_set hi).2 (.inr hx))
  have F := TFr.set (W := W) hob x' y' z'
  exact ⟨h.tg.set (by omega) _ _ _, fun d => (h.c1 (e _ n2 d)).fr h.tg F (by decide) (by decide), fun d => (h.c2 (e _ n3 d)).fr h.tg F (by decide) (by decide), fun _ d' => absurd ((dn_set hi).2 (.inl rfl)) d', fun d d' => FB.fr (h.z2 (e _ n5 d) (e' _ d')) F (by decide), fun _ => FB.put hob hz hC _ _ _, fun d => (h.f2 (e _ n6 d)).fr F (by decide)⟩
theorem CB.put2 {B : Nat} {x y z x' y' z' : Value} (h : CB w0 N1 N2 i1 i2 j1 j2 k1 k2 L o W v1 (.agg #[x', y', z']) p1 (.pointer (some ⟨B, 0, none⟩))) (hi : k2 < L.size) (hn : k2 ≠ i1 ∧ k2 ≠ i2 ∧ k2 ≠ j1 ∧ k2 ≠ j2 ∧ k2 ≠ k1) (hob : o B = 4) (hz : ∀ j, W.frozen? ⟨B, j, none⟩ = false) (hC : C3 W B x y z) :
    CB w0 N1 N2 i1 i2 j1 j2 k1 k2 (L.setIfInBounds k2 true) o (((W.setCell ⟨B, 0, none⟩ x').setCell ⟨B, 1, none⟩ y').setCell ⟨B, 2, none⟩ z') v1 (.agg #[x', y', z']) p1 (.pointer (some ⟨B, 0, none⟩)) := by
  obtain ⟨n2, n3, n4, n5, n6⟩ := hn
  have e : ∀ j, k2 ≠ j → Dn (L.setIfInBounds k2 true) j → Dn L j := fun j hj hd => ((dn_set hi).1 hd).resolve_left (fun e => hj e.symm)
  have e' : ∀ j, ¬ Dn (L.setIfInBounds k2 true) j → ¬ Dn L j := fun j hd hx => hd ((dn_set hi).2 (.inr hx))
  have F := TFr.set (W := W) hob x' y' z'
  exact ⟨h.tg.set (by omega) _ _ _, fun d => (h.c1 (e _ n2 d)).fr h.tg F (by decide) (by decide), fun d => (h.c2 (e _ n3 d)).fr h.tg F (by decide) (by decide), fun d d' => FB.fr (h.z1 (e _ n4 d) (e' _ d')) F (by decide), fun _ d' => absurd ((dn_set hi).2 (.inl rfl)) d', fun d => (h.f1 (e _ n6 d)).fr F (by decide), fun _ => FB.put hob hz hC _ _ _⟩
end
end Go.Proofs.YtollijngiioonaaGreat

/- Lists of functions (name, how many arguments, blind or not): what is right, and how they lie in memory. Conditions: none. -/
namespace Go.Proofs.YtollijngiioonaaGreat
set_option maxRecDepth 100000
open Go.RowKit


/-- A function as data. -/
structure SymD where
  name : ByteArray
  ar : Int
  ac : Bool

instance : Inhabited SymD := ⟨⟨ByteArray.empty, 0, false⟩⟩

/-- The slice of functions that begins at 'a' reads in w as ss. -/
def RdS (w : World) (a : Option Addr) (ss : List SymD) : Prop :=
  ss = [] ∨ ∃ b off, a = some ⟨b, off, none⟩ ∧ b < w.heap.size ∧ ∀ i, (h : i < ss.length) →
    w.cell? ⟨b, off + i * 3, none⟩ = some (.string ss[i].name) ∧ w.cell? ⟨b, off + i * 3 + 1, none⟩ = some (.int .i64 ss[i].ar) ∧ w.cell? ⟨b, off + i * 3 + 2, none⟩ = some (.bool ss[i].ac)

theorem RdS.below {w w' : World} {a : Option Addr} {ss : List SymD} (h : RdS w a ss) (hb : Below w.heap.size w w') : RdS w' a ss := by
  rcases h with h | ⟨b, off, rfl, hlt, hc⟩
  · exact .inl h
  · refine .inr ⟨b, off, rfl, Nat.lt_of_lt_of_le hlt hb.size, fun i hi => ?_⟩
    obtain ⟨h0, h1, h2⟩ := hc i hi
    exact ⟨(hb.cell (p := ⟨b, off + i * 3, none⟩) hlt).trans h0, (hb.cell (p := ⟨b, off + i * 3 + 1, none⟩) hlt).trans h1, (hb.cell (p := ⟨b, off + i * 3 + 2, none⟩) hlt).trans h2⟩

theorem ret_int {a b : Int} (h : a = b) : Ending.returned (.int .i64 a) = .returned (.int .i64 b) := by rw [h]

theorem ret_bool {a b : Bool} (h : a = b) : Ending.returned (.bool a) = .returned (.bool b) := by rw [h]

/-- Where the first function of that name stands; -1. -/
def symOf (ss : List SymD) (n : ByteArray) : Int := match ss.findIdx? (fun s => s.name.toList == n.toList) with
  | some i => i
  | none => -1

theorem symOf_hit {ss : List SymD} {n : ByteArray} {k : Nat} (hk : k < ss.length) (h0 : ∀ j, (h : j < ss.length) → j < k → (ss[j].name.toList == n.toList) = false) (h : (ss[k].name.toList == n.toList) = true) : symOf ss n = k := by
  have : ss.findIdx? (fun s => s.name.toList == n.toList) = some k := by
    rw [List.findIdx?_eq_some_iff_getElem]
    exact ⟨hk, h, fun j hj => by simp [h0 j (by omega) hj]⟩
  simp [symOf, this]

theorem symOf_none {ss : List SymD} {n : ByteArray} (h0 : ∀ j, (h : j < ss.length) → (ss[j].name.toList == n.toList) = false) : symOf ss n = -1 := by
  have : ss.findIdx? (fun s => s.name.toList == n.toList) = none := by
    rw [List.findIdx?_eq_none_iff]
    intro s hs
    obtain ⟨j, hj, rfl⟩ := List.getElem_of_mem hs
    exact h0 j hj
  simp [symOf, this]

/-- A function as a value. -/
def symV (s : SymD) : Value := .agg #[.string s.name, .int .i64 s.ar, .bool s.ac]

def symC (s : SymD) : List Value := [.string s.name, .int .i64 s.ar, .bool s.ac]

def symCs (ss : List SymD) : List Value := ss.flatMap symC

theorem symCs_len (ss : List SymD) : (symCs ss).length = ss.length * 3 := by
  induction ss with
  | nil => rfl
  | cons s ss ih => simp only [symCs, List.flatMap_cons, List.length_append] at *; rw [ih]; simp [symC]; omega

def zeroSym : SymD := ⟨⟨#[]⟩, 0, false⟩

theorem set3 (s : SymD) : ∀ (l : List SymD) (k : Nat), k < l.length → (((symCs l).set (k * 3) (.string s.name)).set (k * 3 + 1) (.int .i64 s.ar)).set (k * 3 + 2) (.bool s.ac) = symCs (l.set k s)
  | [], k, h => by simp at h
  | x :: l, 0, _ => by simp [symCs, symC]
  | x :: l, k + 1, h => by
    have ih := set3 s l k (by simpa using h)
    have e : ∀ (m : Nat) (L : List Value) (v : Value), (symC x ++ L).set (m + 3) v = symC x ++ L.set m v := by
      intro m L v
      simp [symC]
    have e0 : (k + 1) * 3 = k * 3 + 3 := by omega
    rw [List.set_cons_succ]
    simp only [symCs, List.flatMap_cons] at *
    rw [e0, e, show k * 3 + 3 + 1 = (k * 3 + 1) + 3 by omega, e, show k * 3 + 3 + 2 = (k * 3 + 2) + 3 by omega, e, ih]

theorem get3 : ∀ (l : List SymD) (k : Nat), (h : k < l.length) → (symCs l)[k * 3]? = some (.string l[k].name) ∧ (symCs l)[k * 3 + 1]? = some (.int .i64 l[k].ar) ∧ (symCs l)[k * 3 + 2]? = some (.bool l[k].ac)
  | [], k, h => by simp at h
  | x :: l, 0, _ => by simp [symCs, symC]
  | x :: l, k + 1, h => by
    have ih := get3 l k (by simpa using h)
    have e : ∀ (m : Nat) (L : List Value), (symC x ++ L)[m + 3]? = L[m]? := by
      intro m L
      rw [List.getElem?_append_right (by simp [symC])]
      simp [symC]
    have e0 : (k + 1) * 3 = k * 3 + 3 := by omega
    simp only [symCs, List.flatMap_cons, List.getElem_cons_succ] at *
    rw [e0, e, show k * 3 + 3 + 1 = (k * 3 + 1) + 3 by omega, e, show k * 3 + 3 + 2 = (k * 3 + 2) + 3 by omega, e]
    exact ih

theorem made3 : ∀ (n : Nat), (madeCells #[.string ⟨#[]⟩, .int .i64 0, .bool false] (n * 3)).toList = symCs (List.replicate n zeroSym)
  | 0 => by simp [madeCells, symCs]
  | n + 1 => by
    have ih := made3 n
    rw [List.replicate_succ', symCs, List.flatMap_append]
    rw [symCs] at ih
    rw [← ih]
    have e0 : (n + 1) * 3 = n * 3 + 1 + 1 + 1 := by omega
    rw [e0]
    simp only [madeCells, Array.toList_map, Array.toList_range, List.range_succ, List.map_append, List.map_cons, List.map_nil, List.append_assoc]
    have m0 : n * 3 % 3 = 0 := by omega
    have m1 : (n * 3 + 1) % 3 = 1 := by omega
    have m2 : (n * 3 + 1 + 1) % 3 = 2 := by omega
    simp [m0, m1, m2, symC, zeroSym]

theorem step3 {ss : List SymD} {k : Nat} (h : k < ss.length) : (ss.take k ++ List.replicate (ss.length - k) zeroSym).set k ss[k] = ss.take (k + 1) ++ List.replicate (ss.length - (k + 1)) zeroSym := by
  have l : (ss.take k).length = k := by rw [List.length_take]; omega
  have e : ss.length - k = (ss.length - (k + 1)) + 1 := by omega
  rw [List.set_append, if_neg (by omega), l, Nat.sub_self, e, List.replicate_succ, List.set_cons_zero, List.take_succ_eq_append_getElem h, List.append_assoc]
  rfl

theorem len3 {ss : List SymD} {k : Nat} (h : k ≤ ss.length) : ss.length = (ss.take k ++ List.replicate (ss.length - k) zeroSym).length := by simp; omega

theorem lt3 {ss : List SymD} {k : Nat} (h : k < ss.length) : k < (ss.take k ++ List.replicate (ss.length - k) zeroSym).length := by rw [← len3 (by omega)]; exact h

theorem own_belowS {w w' : World} {base : Nat} {e : TypeId} {size : Nat} {v : Value} {n : Nat} {xs : List Value} (h : w.ownsRow base e size v n xs) (hb : Below w.heap.size w w') : w'.ownsRow base e size v n xs := by
  have hl := h.lt
  obtain ⟨h1, h2⟩ := h
  refine ⟨h1, ?_⟩
  rcases h2 with h2 | ⟨g, cap, cur, rfl, hg, hh, r⟩
  · exact .inl h2
  · exact .inr ⟨g, cap, cur, rfl, hg, by rw [hb.block g (hl g rfl).2]; exact hh, r⟩

/-- Three stores that lay one function into an owned row. -/
theorem store3 {w : World} {T : TypeId} {B g c n : Nat} {l : List SymD} (s : SymD) {k : Nat} (hk : k < l.length) (h : w.ownsRow B T 3 (.slice (some ⟨g, 0, none⟩) n c) n (symCs l)) :
    (((w.setCell ⟨g, k * 3, none⟩ (.string s.name)).setCell ⟨g, k * 3 + 1, none⟩ (.int .i64 s.ar)).setCell ⟨g, k * 3 + 2, none⟩ (.bool s.ac)).ownsRow B T 3 (.slice (some ⟨g, 0, none⟩) n c) n (symCs (l.set k s)) := by
  have h1 := (((h.stored (k * 3) (.string s.name)).1.stored (k * 3 + 1) (.int .i64 s.ar)).1.stored (k * 3 + 2) (.bool s.ac)).1
  rwa [set3 s l k hk] at h1

theorem cells3 {w : World} {T : TypeId} {B g c n : Nat} {l : List SymD} {k : Nat} (hn : n = l.length) (hk : k < l.length) (h : w.ownsRow B T 3 (.slice (some ⟨g, 0, none⟩) n c) n (symCs l)) :
    w.cell? ⟨g, k * 3, none⟩ = some (.string l[k].name) ∧ w.cell? ⟨g, k * 3 + 1, none⟩ = some (.int .i64 l[k].ar) ∧ w.cell? ⟨g, k * 3 + 2, none⟩ = some (.bool l[k].ac) := by
  obtain ⟨g0, g1, g2⟩ := get3 l k hk
  exact ⟨(h.cellAt _ (by omega)).trans g0, (h.cellAt _ (by omega)).trans g1, (h.cellAt _ (by omega)).trans g2⟩

theorem RdS.own {w : World} {T : TypeId} {base g cap : Nat} {ss : List SymD} {n : Nat} (hn : n = ss.length) (h : w.ownsRow base T 3 (.slice (some ⟨g, 0, none⟩) n cap) n (symCs ss)) : RdS w (some ⟨g, 0, none⟩) ss := by
  refine .inr ⟨g, 0, rfl, (h.lt g rfl).2, fun i hi => ?_⟩
  have := cells3 hn hi h
  simpa using this


/-- How many bytes the names of the first functions take. -/
def bytesOf (ss : List SymD) : Nat := (ss.map fun s => s.name.size).sum

theorem bytesOf_next {ss : List SymD} {k : Nat} (h : k < ss.length) : bytesOf (ss.take (k + 1)) = bytesOf (ss.take k) + ss[k].name.size := by
  rw [List.take_succ_eq_append_getElem h, bytesOf, bytesOf, List.map_append, List.sum_append]
  simp only [List.map_cons, List.map_nil, List.sum_cons, List.sum_nil, Nat.add_zero]

/-- Whether two functions are alike. -/
def symEq (s t : SymD) : Bool := (s.name.toList == t.name.toList) && (s.ar == t.ar) && (s.ac == t.ac)

/-- Whether two lists of functions are alike. -/
def symsEq : List SymD → List SymD → Bool
  | [], [] => true
  | s :: ss, t :: ts => symEq s t && symsEq ss ts
  | _, _ => false

theorem symEq_self (s : SymD) : symEq s s = true := by simp [symEq]


/-- Whether byte c may stand at place i of a name. -/
def chOk (i : Nat) (c : UInt8) : Bool := (decide (97 ≤ c.toNat) && decide (c.toNat ≤ 122)) || (decide (0 < i) && decide (48 ≤ c.toNat) && decide (c.toNat ≤ 57))

/-- Whether the first k bytes may stand in a name. -/
def chsOk (s : ByteArray) : Nat → Bool
  | 0 => true
  | k + 1 => chsOk s k && (if h : k < s.size then chOk k s[k] else true)

def nameOk (s : ByteArray) : Bool := chsOk s s.size && decide (1 ≤ s.size) && decide (s.size ≤ 8)

theorem chs_bad (s : ByteArray) {k : Nat} (h : k < s.size) (hb : chOk k s[k] = false) : nameOk s = false := by
  have : ∀ n, k < n → chsOk s n = false := by
    intro n
    induction n with
    | zero => intro h; omega
    | succ n ih =>
      intro hn
      rw [chsOk]
      by_cases e : k = n
      · subst e; rw [dif_pos h, hb]; simp
      · rw [ih (by omega)]; simp
  rw [nameOk, this s.size h]; rfl

theorem name_pos {s : ByteArray} (h : chsOk s s.size = true) (h1 : (1 : Int) ≤ (s.size : Int)) : nameOk s = decide ((s.size : Int) ≤ 8) := by
  rw [nameOk, h, decide_eq_true (show 1 ≤ s.size by omega)]
  simp only [Bool.true_and]
  exact decide_eq_decide.2 (by omega)

theorem name_neg {s : ByteArray} (h1 : ¬ (1 : Int) ≤ (s.size : Int)) : nameOk s = false := by
  rw [nameOk, decide_eq_false (show ¬ 1 ≤ s.size by omega)]; simp

/-- Whether the function of that number is blind; how many arguments it has. -/
def blindAt (ss : List SymD) (f : Int) : Bool := if 0 ≤ f then (ss[f.toNat]?.map SymD.ac).getD false else false

def arityAt (ss : List SymD) (f : Int) : Int := if 0 ≤ f then (ss[f.toNat]?.map SymD.ar).getD (-1) else -1

theorem blindAt_in {ss : List SymD} {k : Nat} (h : k < ss.length) : blindAt ss k = ss[k].ac := by simp [blindAt, h]

theorem arityAt_in {ss : List SymD} {k : Nat} (h : k < ss.length) : arityAt ss k = ss[k].ar := by simp [arityAt, h]

theorem at_out {ss : List SymD} {f : Int} (h : f < 0 ∨ (ss.length : Int) - 1 < f) : blindAt ss f = false ∧ arityAt ss f = -1 := by
  unfold blindAt arityAt
  by_cases h0 : 0 ≤ f
  · have : ss[f.toNat]? = none := by rw [List.getElem?_eq_none_iff]; omega
    simp [this]
  · simp [h0]


/-- Whether function k of the list is right. -/
def goodAt (ss : List SymD) (k : Nat) (s : SymD) : Bool := nameOk s.name && (symOf ss s.name == (k : Int)) && (decide (0 ≤ s.ar) && decide (s.ar ≤ 3)) && (!s.ac || s.ar == 2)

def goodTo (ss : List SymD) : Nat → Bool
  | 0 => true
  | k + 1 => goodTo ss k && (if h : k < ss.length then goodAt ss k ss[k] else true)

def isTT (s : SymD) : Bool := (s.name.toList == [116, 116]) && (s.ar == 0) && !s.ac

def sigOk (ss : List SymD) : Bool := goodTo ss ss.length && (decide (1 ≤ ss.length) && decide (ss.length ≤ 8)) && (ss.head?.map isTT).getD false

theorem sig_bad {ss : List SymD} {k : Nat} (h : k < ss.length) (hb : goodAt ss k ss[k] = false) : sigOk ss = false := by
  have : ∀ n, k < n → goodTo ss n = false := by
    intro n
    induction n with
    | zero => intro h; omega
    | succ n ih =>
      intro hn
      rw [goodTo]
      by_cases e : k = n
      · subst e; rw [dif_pos h, hb]; simp
      · rw [ih (by omega)]; simp
  rw [sigOk, this ss.length h]; rfl

theorem good_next {ss : List SymD} {k : Nat} (h : k < ss.length) (h0 : goodTo ss k = true) (hg : goodAt ss k ss[k] = true) : goodTo ss (k + 1) = true := by
  rw [goodTo, h0, dif_pos h, hg]; rfl

theorem sig_end {ss : List SymD} (h : goodTo ss ss.length = true) (h1 : 0 < ss.length) (h8 : ss.length ≤ 8) : sigOk ss = isTT ss[0] := by
  rw [sigOk, h, decide_eq_true (show 1 ≤ ss.length by omega), decide_eq_true h8]
  cases ss with
  | nil => simp at h1
  | cons s ss => simp
end Go.Proofs.YtollijngiioonaaGreat

