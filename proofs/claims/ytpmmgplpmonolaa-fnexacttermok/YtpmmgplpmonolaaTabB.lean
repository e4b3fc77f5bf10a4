/- Functions by name: what the map tells of whether all are right. Conditions: none. -/
import Derived.Test.YtpmmgplpmonolaaTabA
namespace Go.Proofs.Ytpmmgplpmonolaa
open Go.RowKit Go.Maps Go.WideMaps

/-- The step of a range over a map of numbers by name. -/
theorem next_si {P : Program} {kt et : TypeId} (hk : P.underlying kt = some .string) (he : P.underlying et = some (.int .i64)) (w : World) {ops : Array Oper} {rest : List Oper} {o : Oper} {a : Act} {Q : Exit → Act → World → Prop}
    (hg : o.guard = none) (it : Operand) (hop : o.op = Op.next it false) (b r n : Nat) (D : DataW Unit) (left : Lit → Bool) (cnt : Nat) (hit : a.eval it = .pointer (some ⟨r, 0, none⟩)) (h : w.ranges P kt (plainElem P et) b r n D left cnt)
    (hDone : cnt = 0 → (∀ kl, left kl = false) → wpList P ops Q rest (a.put o.dst (.tuple #[.bool false])) w)
    (hMore : ∀ (s : ByteArray) (c : Int) (w' : World) (cnt' : Nat), left (.string s.data.toList) = true → (∀ zd, D.atKey (.string s.data.toList) zd = .lit (.int .i64 c)) → w'.ranges P kt (plainElem P et) b r n D (fun z => left z && !z.sameKey (.string s.data.toList)) cnt' → cnt' < cnt →
      w.grownBy w' (some r) → w'.heap.size = w.heap.size → (Instr.entry (.pointer (some ⟨r, 0, none⟩))).run P w' = .ok (.tuple #[.string s, .int .i64 c]) w' → wpList P ops Q rest (a.put o.dst (.tuple #[.bool true, .string s, .int .i64 c])) w') :
    wpList P ops Q (o :: rest) a w :=
  wpList_next_ranges w hg it hop kt (string_keyed hk) (plainElem P et) Value.string (Value.int .i64) (fun key kl hkey => by obtain ⟨s, rfl, _⟩ := string_of_keyOf hk hkey; exact ⟨s, rfl⟩) (fun v y hv => by obtain ⟨c, rfl, _⟩ := plainElem_int_inv he hv; exact ⟨c, rfl⟩)
    b r n D left cnt hit h hDone (fun s c kl y w' cnt' hkey hlk hv hat hrg hlt hgr hsz hen => by
      obtain ⟨s', es, rfl, _⟩ := string_of_keyOf hk hkey
      cases es
      obtain ⟨c', ec, rfl, _⟩ := plainElem_int_inv he hv
      cases ec
      exact hMore s c w' cnt' hlk hat hrg hlt hgr hsz hen)

/-- Whether one function by itself is right. -/
def okB (s : SymD) : Bool := !(s.ac && s.ar != 2) && nameOk s.name && decide (0 ≤ s.ar) && decide (s.ar ≤ 3)

theorem good_ok {ss : List SymD} {k : Nat} {s : SymD} (h : symOf ss s.name = (k : Int)) (ho : okB s = true) : goodAt ss k s = true := by
  unfold goodAt; unfold okB at ho
  simp only [Bool.and_eq_true, Bool.not_eq_true', h, beq_self_eq_true, decide_eq_true_eq] at ho ⊢
  obtain ⟨⟨⟨h1, h2⟩, h3⟩, h4⟩ := ho
  refine ⟨⟨⟨h2, trivial⟩, h3, h4⟩, ?_⟩
  cases hc : s.ac
  · rfl
  · rw [hc] at h1; simp at h1; simp [h1]

theorem bad_ok {ss : List SymD} {k : Nat} {s : SymD} (ho : okB s = false) : goodAt ss k s = false := by
  apply Bool.eq_false_iff.2
  intro hg
  apply Bool.eq_false_iff.1 ho
  unfold goodAt at hg; unfold okB
  simp only [Bool.and_eq_true, decide_eq_true_eq, Bool.not_eq_true'] at hg ⊢
  obtain ⟨⟨⟨h1, _⟩, h3, h4⟩, h5⟩ := hg
  refine ⟨⟨⟨?_, h1⟩, h3⟩, h4⟩
  cases hc : s.ac
  · rfl
  · rw [hc] at h5; simp at h5; simp [h5]

theorem idx_take {ss : List SymD} {k j : Nat} {n : List UInt8} (h : idx (ss.take k) n = some j) : idx ss n = some j := by
  have e : ss.take k ++ ss.drop k = ss := List.take_append_drop k ss
  have : idx (ss.take k ++ ss.drop k) n = some j := by
    unfold idx at *
    rw [List.findIdx?_append, h]; rfl
  rwa [e] at this

theorem idx_lt {ss : List SymD} {n : List UInt8} {j : Nat} (h : idx ss n = some j) : j < ss.length := by
  unfold idx at h
  rw [List.findIdx?_eq_some_iff_getElem] at h
  exact h.1

theorem idx_name {ss : List SymD} {n : List UInt8} {j : Nat} (h : idx ss n = some j) : (ss[j]'(idx_lt h)).name.data.toList = n := by
  unfold idx at h
  rw [List.findIdx?_eq_some_iff_getElem] at h
  obtain ⟨h1, h2, _⟩ := h
  simpa using h2

theorem symOf_some {ss : List SymD} {n : ByteArray} {j : Nat} (h : idx ss n.data.toList = some j) : symOf ss n = (j : Int) := by rw [symOf_idx, h]

theorem again_bad {ss : List SymD} (h : againTo ss ss.length ≠ []) : sigOk ss = false := by
  have : ∀ n, n ≤ ss.length → againTo ss n ≠ [] → ∃ k, ∃ h : k < ss.length, (idx (ss.take k) ss[k].name.data.toList).isSome = true := by
    intro n
    induction n with
    | zero => intro _ h; exact absurd rfl h
    | succ n ih =>
      intro hn h
      have hl : n < ss.length := by omega
      cases hs : (idx (ss.take n) ss[n].name.data.toList).isSome with
      | true => exact ⟨n, hl, hs⟩
      | false => rw [again_new hl hs] at h; exact ih (by omega) h
  obtain ⟨k, hk, hs⟩ := this _ (Nat.le_refl _) h
  refine sig_bad hk ?_
  obtain ⟨j, hj⟩ := Option.isSome_iff_exists.1 hs
  have hjk := idx_lt hj
  rw [List.length_take] at hjk
  have e := symOf_some (idx_take hj)
  unfold goodAt
  rw [e]
  have : ((j : Int) == (k : Int)) = false := by simp; omega
  rw [this]; simp

theorem again_first {ss : List SymD} (h : againTo ss ss.length = []) {k : Nat} (hk : k < ss.length) : idx ss ss[k].name.data.toList = some k := by
  have mono : ∀ n, againTo ss n = [] → ∀ m, m ≤ n → againTo ss m = [] := by
    intro n
    induction n with
    | zero => intro h m hm; have : m = 0 := by omega
              subst this; exact h
    | succ n ih =>
      intro h m hm
      by_cases e : m = n + 1
      · subst e; exact h
      · rw [againTo] at h
        exact ih (List.append_eq_nil_iff.1 h).1 m (by omega)
  have h1 := mono _ h (k + 1) (by omega)
  cases hs : (idx (ss.take k) ss[k].name.data.toList).isSome with
  | true => rw [again_seen hk hs] at h1; simp at h1
  | false =>
    refine idx_take (k := k + 1) ?_
    rw [take_next hk, idx_snoc]
    have : idx (ss.take k) ss[k].name.data.toList = none := by simpa using hs
    rw [this, List.length_take_of_le (by omega)]; simp

theorem sig_right {ss : List SymD} (hp : 0 < ss.length) (h8 : ss.length ≤ 8) (h : againTo ss ss.length = []) (h0 : isTT ss[0] = true) (hall : ∀ n i, n ≠ [116, 116] → (hi : idx ss n = some i) → okB (ss[i]'(idx_lt hi)) = true) : sigOk ss = true := by
  have hg : ∀ k, (hk : k < ss.length) → goodAt ss k ss[k] = true := by
    intro k hk
    have hf := again_first h hk
    refine good_ok (symOf_some hf) ?_
    by_cases e : ss[k].name.data.toList = [116, 116]
    · have hf0 := again_first h hp
      unfold isTT at h0
      simp only [ByteArray.toList_eq, Bool.and_eq_true, beq_iff_eq, Bool.not_eq_true'] at h0
      obtain ⟨⟨a1, a2⟩, a3⟩ := h0
      rw [e] at hf
      rw [a1, hf] at hf0
      have ek : k = 0 := by simpa using hf0
      subst ek
      unfold okB
      have hn : nameOk ss[0].name = true := by
        have : ss[0].name = ⟨#[116, 116]⟩ := by
          have e1 : ss[0].name.data = #[116, 116] := by
            apply Array.toList_inj.1; exact e
          cases hx : ss[0].name with
          | mk d => rw [hx] at e1; exact congrArg _ e1
        rw [this]; decide
      rw [a2, a3, hn]; rfl
    · exact hall _ k e hf
  have : ∀ k, k ≤ ss.length → goodTo ss k = true := by
    intro k
    induction k with
    | zero => intro _; rfl
    | succ k ih => intro hk; exact good_next (by omega) (ih (by omega)) (hg k (by omega))
  rw [sig_end (this _ (Nat.le_refl _)) hp h8, h0]

theorem sig_notTT {ss : List SymD} (hp : 0 < ss.length) (h0 : isTT ss[0] = false) : sigOk ss = false := by
  unfold sigOk
  cases ss with
  | nil => simp at hp
  | cons s ss => simp at h0; simp [h0]

theorem sig_short {ss : List SymD} (h : (ss.length : Int) < 1) : sigOk ss = false := by rw [sigOk, decide_eq_false (show ¬ 1 ≤ ss.length by omega)]; simp
theorem sig_long {ss : List SymD} (h : (8 : Int) < (ss.length : Int)) : sigOk ss = false := by rw [sigOk, decide_eq_false (show ¬ ss.length ≤ 8 by omega)]; simp

/-- Between the names that are still to come and those that were asked. -/
structure Asked (ss : List SymD) (D : DataW Unit) (left : Lit → Bool) : Prop where
  has : ∀ kl, left kl = true → Maps.has D kl = true
  right : ∀ n i, n ≠ [116, 116] → left (.string n) = false → (hi : idx ss n = some i) → okB (ss[i]'(idx_lt hi)) = true

theorem lit_same (a b : List UInt8) : (Lit.string a).sameKey (.string b) = (a == b) := by
  by_cases h : a = b
  · subst h; simp [Lit.sameKey]
  · rw [sameKey_ne (by intro e; injection e with e; exact h e)]; simp [h]

theorem asked_start {ss : List SymD} {D : DataW Unit} (h : MapIs D ss) : Asked ss (D.del (.string [116, 116])) (Maps.has (D.del (.string [116, 116]))) := by
  refine ⟨fun kl h => h, fun n i hn hl hi => ?_⟩
  rw [has_del_other (by intro e; injection e with e; exact hn e), (h.2 n).1, hi] at hl
  simp at hl

theorem asked_one {ss : List SymD} {D : DataW Unit} (h : MapIs D ss) {left : Lit → Bool} (A : Asked ss (D.del (.string [116, 116])) left) {s : List UInt8} {c : Int} (hl : left (.string s) = true) (hat : ∀ zd, (D.del (.string [116, 116])).atKey (.string s) zd = .lit (.int .i64 c)) :
    ∃ i, idx ss s = some i ∧ c = (i : Int) := by
  have h1 := A.has _ hl
  have hne : (Lit.string s) ≠ .string [116, 116] := by intro e; rw [e, has_del_same] at h1; simp at h1
  rw [has_del_other hne, (h.2 s).1] at h1
  obtain ⟨i, hi⟩ := Option.isSome_iff_exists.1 h1
  refine ⟨i, hi, ?_⟩
  have h2 := (h.2 s).2 i hi (.lit (.bool true))
  have h3 := hat (.lit (.bool true))
  rw [atKey_del_other hne, h2] at h3
  injection h3 with h3
  injection h3 with _ h3
  exact h3.symm

theorem asked_next {ss : List SymD} {D : DataW Unit} {left : Lit → Bool} (A : Asked ss D left) {s : List UInt8} {i : Nat} (hi : idx ss s = some i) (ho : okB (ss[i]'(idx_lt hi)) = true) : Asked ss D (fun z => left z && !z.sameKey (.string s)) := by
  refine ⟨fun kl h => A.has kl (by simp at h; exact h.1), fun n j hn hl hj => ?_⟩
  cases hx : left (.string n) with
  | false => exact A.right n j hn hx hj
  | true =>
    rw [hx, lit_same] at hl
    have e : n = s := by simpa using hl
    subst e
    have : i = j := by rw [hi] at hj; simpa using hj
    subst this
    exact ho
end Go.Proofs.Ytpmmgplpmonolaa
