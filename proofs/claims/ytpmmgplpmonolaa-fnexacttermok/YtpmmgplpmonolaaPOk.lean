/- Whether one part of a term is right, and whether all are, as data and as the program tells it. Conditions: terms of at most 4194304 parts. -/
import Derived.Test.YtpmmgplpmonolaaBK
import Derived.Test.YtpmmgplpmonolaaWithin
import Derived.Test.YtpmmgplpmonolaaImpName
namespace Go.Proofs.Ytpmmgplpmonolaa
set_option maxRecDepth 100000
open Go.RowKit

/-- Right, what is within the Kids left away. -/
def pOk (ss : List SymD) (t : TermD) : Bool :=
  if t.f = -1 then decide (0 ≤ t.v ∧ t.v ≤ 99) && t.kids.isEmpty
  else decide (0 ≤ t.f ∧ t.f < ss.length) && t.v == 0 && (if blindAt ss t.f then bkOk t.f t.kids else (t.kids.length : Int) == arityAt ss t.f)
theorem pOk_mk (ss : List SymD) (f v : Int) (ks : List TermD) : pOk ss (.mk f v ks) = if f = -1 then decide (0 ≤ v ∧ v ≤ 99) && ks.isEmpty
  else decide (0 ≤ f ∧ f < ss.length) && v == 0 && (if blindAt ss f then bkOk f ks else (ks.length : Int) == arityAt ss f) := rfl
theorem rightL_parts (ss : List SymD) (f : Int) : ∀ (ks : List TermD) (p : Option TermD), rightL ss f p ks = ((if blindAt ss f then bkL f p ks else true) && ks.all (rightT ss))
  | [], p => by simp [rightL, bkL]
  | k :: ks, p => by
    rw [rightL, rightL_parts ss f ks (some k), List.all_cons]
    cases hb : blindAt ss f
    · simp
    · simp only [Bool.true_and, if_true, bkL]
      cases rightT ss k <;> cases bkL f (some k) ks <;> cases (k.f == f || befO k p) <;> simp
mutual
theorem right_pre (ss : List SymD) : ∀ t : TermD, rightT ss t = (preT t).all (pOk ss)
  | .mk f v ks => by
    have h := right_preL ss ks
    rw [rightT, preT, List.all_cons, ← h, rightL_parts, pOk_mk]
    by_cases hf : f = -1
    · rw [if_pos hf, if_pos hf]
      cases ks with
      | nil => simp
      | cons k ks => simp
    · rw [if_neg hf, if_neg hf]
      cases hb : blindAt ss f
      · simp
      · simp only [if_true, bkOk]
        cases decide (0 ≤ f ∧ f < ss.length) <;> cases v == 0 <;> cases decide (2 ≤ ks.length) <;> cases bkL f none ks <;> simp
theorem right_preL (ss : List SymD) : ∀ ts : List TermD, ts.all (rightT ss) = (preL ts).all (pOk ss)
  | [] => by simp [preL]
  | t :: ts => by rw [List.all_cons, preL, List.all_append, right_pre ss t, right_preL ss ts]
end
theorem rtBB {a b : Bool} (h : a = b) : Ending.returned (.bool a) = .returned (.bool b) := by rw [h]

set_option maxHeartbeats 3200000 in
theorem partOk_any (sa : Option Addr) (ss : List SymD) (sc : Nat) (t : TermD) (a : Option Addr) (c hi : Nat) (w : World) (hs : RdS w sa ss) (hp : partsL t.kids ≤ 4194304) (hr : RdK w hi a t.kids) (hhi : hi ≤ w.heap.size) :
    Calls Try.prog 70 #[.slice sa ss.length sc, .agg #[.int .i64 t.f, .int .i64 t.v, .slice a t.kids.length c]] w fun e w' => e = .returned (.bool (pOk ss t)) ∧ Below w.heap.size w w' := by
  obtain ⟨W, hW⟩ : ∃ W, W = w.alloc (.cells #[.int .i64 t.f, .int .i64 t.v, .slice a t.kids.length c] 27) := ⟨_, rfl⟩
  have hB : Below w.heap.size w W := by rw [hW]; exact (Below.refl _ _).alloc (Nat.le_refl _) _
  have P0 : W.cell? ⟨w.heap.size, 0, none⟩ = some (.int .i64 t.f) ∧ W.cell? ⟨w.heap.size, 1, none⟩ = some (.int .i64 t.v) ∧ W.cell? ⟨w.heap.size, 2, none⟩ = some (.slice a t.kids.length c) := by rw [hW]; simp [go_sem]
  have CV := variableOf_any t a t.kids.length c W
  have hlen := partsL_len t.kids
  by_cases hf : t.f = -1
  · have HP : Hid (pOk ss t = (decide (0 ≤ t.v) && decide (t.v ≤ 99) && decide (t.kids.length = 0))) := by
      show _ = _
      unfold pOk
      rw [if_pos hf]
      cases t.kids <;> by_cases h1 : 0 ≤ t.v <;> by_cases h2 : t.v ≤ 99 <;> simp [h1, h2]
    rw [show vofI t = t.v by simp [vofI, hf], show vofB t = true by simp [vofB, hf]] at CV
    clear hf hs hr hp
    generalize t.kids.length = m at *
    go_enter Try.func70, Try.ntmps70
    go_wp2_with (go_at_call 64; rw [← hW]; refine CV.mono ?_; rintro e w2 ⟨rfl, hb2⟩; obtain ⟨p0, p1, p2⟩ := P0; have q0 := keepC hb2 p0; have q1 := keepC hb2 p1; have q2 := keepC hb2 p2; have hB2 : Below w.heap.size w w2 := hB.trans (hb2.mono hB.size); clear CV hW p0 p1 p2 hb2 hB)
    all_goals
      go_ret
      refine ⟨rtB ?_, hB2⟩
      rw [HP.out]
      first
        | (simp; omega)
        | (simp; intros; omega)
        | (by_cases hm : m = 0 <;> simp [*] <;> omega)
        | (by_cases hm : m = 0 <;> simp [*])
  · rw [show vofI t = 0 by simp [vofI, hf], show vofB t = false by simp [vofB, hf]] at CV
    have IS := fun w => isSym_any sa ss.length sc t.f w
    have IB := fun w (h : Below W.heap.size W w) => impBlind_any sa ss ss.length sc t.f w rfl ((hs.below hB).below h)
    have IA := fun w (h : Below W.heap.size W w) => impArity_any sa ss ss.length sc t.f w rfl ((hs.below hB).below h)
    have IK := fun w (h : Below W.heap.size W w) => blindKidsOk_any t.f t.kids a c hi w hp (hr.on ((hB.trans (h.mono hB.size)).mono hhi)) (Nat.le_trans hhi (Nat.le_trans hB.size h.size))
    have HP : Hid (pOk ss t = (decide (0 ≤ t.f) && decide (t.f < ss.length) && (t.v == 0) && (if blindAt ss t.f then bkOk t.f t.kids else (t.kids.length : Int) == arityAt ss t.f))) := by
      show _ = _
      unfold pOk
      rw [if_neg hf]
      by_cases h1 : 0 ≤ t.f <;> by_cases h2 : t.f < ss.length <;> simp [h1, h2]
    clear hf hs hr hp
    generalize t.kids.length = m at *
    by_cases hin : 0 ≤ t.f ∧ t.f < (ss.length : Int)
    · rw [decide_eq_true hin.1, decide_eq_true hin.2] at HP
      simp only [decide_eq_true hin.1, decide_eq_true hin.2, Bool.and_self] at IS
      by_cases hv : t.v = 0
      · have hve : (t.v == 0) = true := by simp [hv]
        rw [hve] at HP
        clear hv
        cases hbl : blindAt ss t.f with
        | true =>
          simp only [hbl] at IB HP
          clear IA hin
          go_enter Try.func70, Try.ntmps70
          go_wp2_with (first
            | (go_at_call 64; rw [← hW]; refine CV.mono ?_; rintro e w2 ⟨rfl, hb2⟩; obtain ⟨p0, p1, p2⟩ := P0; have q0 := keepC hb2 p0; have q1 := keepC hb2 p1; have q2 := keepC hb2 p2; have hB2 : Below w.heap.size w w2 := hB.trans (hb2.mono hB.size); clear CV hW p0 p1 p2 hB)
            | (go_at_call 55; refine (IS _).mono ?_; rintro e w3 ⟨rfl, hw⟩; subst w3)
            | (go_at_call 17; refine (IB _ hb2).mono ?_; rintro e w3 ⟨rfl, hw⟩; subst w3)
            | (go_at_call 97; refine (IK _ hb2).mono ?_; rintro e w3 ⟨rfl, hb3⟩; have hB3 : Below w.heap.size w w3 := hB2.trans (hb3.mono hB2.size)))
          go_ret
          exact ⟨rtB (by rw [HP.out]; simp), hB3⟩
        | false =>
          simp only [hbl] at IB HP
          clear IK hin
          go_enter Try.func70, Try.ntmps70
          go_wp2_with (first
            | (go_at_call 64; rw [← hW]; refine CV.mono ?_; rintro e w2 ⟨rfl, hb2⟩; obtain ⟨p0, p1, p2⟩ := P0; have q0 := keepC hb2 p0; have q1 := keepC hb2 p1; have q2 := keepC hb2 p2; have hB2 : Below w.heap.size w w2 := hB.trans (hb2.mono hB.size); clear CV hW p0 p1 p2 hB)
            | (go_at_call 55; refine (IS _).mono ?_; rintro e w3 ⟨rfl, hw⟩; subst w3)
            | (go_at_call 17; refine (IB _ hb2).mono ?_; rintro e w3 ⟨rfl, hw⟩; subst w3))
          go_region_held3 (fun w' => w'.cell? ⟨w.heap.size, 0, none⟩ = some (.int .i64 t.f) ∧ w'.cell? ⟨w.heap.size, 2, none⟩ = some (.slice a m c)) (first | go_keep | exact ⟨q0, q2⟩)
            ((go_at_call 98; refine (IA _ ?_).mono ?_; exact hb2.drew; rintro e w3 ⟨rfl, hw⟩; subst w3))
          go_wp2_with fail
          go_ret
          exact ⟨rtB (by rw [HP.out]; simp), hB2.drew⟩
      · have hve : (t.v == 0) = false := by simp [hv]
        rw [hve] at HP
        clear IA IB IK hv hin
        go_enter Try.func70, Try.ntmps70
        go_wp2_with (first
          | (go_at_call 64; rw [← hW]; refine CV.mono ?_; rintro e w2 ⟨rfl, hb2⟩; obtain ⟨p0, p1, p2⟩ := P0; have q0 := keepC hb2 p0; have q1 := keepC hb2 p1; have q2 := keepC hb2 p2; have hB2 : Below w.heap.size w w2 := hB.trans (hb2.mono hB.size); clear CV hW p0 p1 p2 hB)
          | (go_at_call 55; refine (IS _).mono ?_; rintro e w3 ⟨rfl, hw⟩; subst w3))
        go_ret
        exact ⟨rtB (by rw [HP.out]; simp), hB2⟩
    · have hinb : (decide (0 ≤ t.f) && decide (t.f < (ss.length : Int))) = false := by simp; omega
      rw [hinb] at HP
      simp only [hinb] at IS
      clear IA IB IK hin
      go_enter Try.func70, Try.ntmps70
      go_wp2_with (first
        | (go_at_call 64; rw [← hW]; refine CV.mono ?_; rintro e w2 ⟨rfl, hb2⟩; obtain ⟨p0, p1, p2⟩ := P0; have q0 := keepC hb2 p0; have q1 := keepC hb2 p1; have q2 := keepC hb2 p2; have hB2 : Below w.heap.size w w2 := hB.trans (hb2.mono hB.size); clear CV hW p0 p1 p2 hB)
        | (go_at_call 55; refine (IS _).mono ?_; rintro e w3 ⟨rfl, hw⟩; subst w3))
      go_ret
      exact ⟨rtB (by rw [HP.out]; simp), hB2⟩
end Go.Proofs.Ytpmmgplpmonolaa
