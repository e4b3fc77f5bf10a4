/- What the proof of FnBasis stands on, part 7 of 10: each piece says what it proves and under which conditions. Conditions: as each piece says. -/
import Derived.Test.YthbilahilmmfmaaPackBasis6
import Derived.Deep.RegionHeld3
/- The program's iterator over all ways that solve: its contract. Conditions: 1 to 5 numbers on each side, from 1 to 4. -/
namespace Go.Proofs.Ythbilahilmmfmaa
set_option maxRecDepth 100000
open Go.RowKit Go.Shelf
attribute [local go_sem] Oper.semAt_some

theorem cutm {G T : Prop} (f : Hid T → G) (h : T) : G := f h

set_option maxHeartbeats 6400000 in
set_option maxRecDepth 100000 in
theorem sols_seq (w : World) (a b : List Int) (a0 a1 : Option Addr) (c0 c1 B1 B2 : Nat) (ha : fineB a = true) (hb : fineB b = true) (Kp : Nat → Prop) (hK1 : Kp B1) (hK2 : Kp B2)
    (hKl : ∀ k, Kp k → k < w.heap.size) (b1 : w.cell? ⟨B1, 0, none⟩ = some (.slice a0 a.length c0)) (b2 : w.cell? ⟨B2, 0, none⟩ = some (.slice a1 b.length c1)) (ra : RdI Kp w a0 a) (rb : RdI Kp w a1 b) :
    SeqKeep Fence.wide 11 Try.prog 68 #[.pointer (some ⟨B1, 0, none⟩), .pointer (some ⟨B2, 0, none⟩)] So.enc Kp (fun xs => xs.map So.t = solL a b) (fun pre => ∃ r, pre.map So.t ++ r = solL a b) (fun x k => k = x.g) (SoOk a b w.heap.size) ((solL a b).length + 1) w := by
  intro l J Jx S₀ W hbW hJ hJx hJb hY h0
  have c0' := keepC hbW b1
  have c1' := keepC hbW b2
  have ra' : RdI Kp W a0 a := ra.stay (.of_below hbW (fun _ hk _ => hk) : Stay (fun _ => True) w W) (fun _ _ => trivial)
  have rb' : RdI Kp W a1 b := rb.stay (.of_below hbW (fun _ hk _ => hk) : Stay (fun _ => True) w W) (fun _ _ => trivial)
  obtain ⟨ha1, ha5, hav⟩ := fine_len ha
  obtain ⟨hb1, hb5, hbv⟩ := fine_len hb
  obtain ⟨ta, hta⟩ : ∃ ta : Nat, topL a = (ta : Int) := ⟨(topL a).toNat, by have := top_fine a 0 (by omega) (by omega) hav; unfold topL; omega⟩
  obtain ⟨tb, htb⟩ : ∃ tb : Nat, topL b = (tb : Int) := ⟨(topL b).toNat, by have := top_fine b 0 (by omega) (by omega) hbv; unfold topL; omega⟩
  have hta4 : ta ≤ 4 := by have := top_fine a 0 (by omega) (by omega) hav; unfold topL at hta; omega
  have htb4 : tb ≤ 4 := by have := top_fine b 0 (by omega) (by omega) hbv; unfold topL at htb; omega
  have M1 := fun (W : World) (h : RdI Kp W a0 a) => max_rows a0 a c0 W h.rd (by omega) ha1 (fun v hv => by have := hav v hv; omega)
  have M2 := fun (W : World) (h : RdI Kp W a1 b) => max_rows a1 b c1 W h.rd (by omega) hb1 (fun v hv => by have := hbv v hv; omega)
  rw [hta] at M1
  rw [htb] at M2
  have SL : Hid (solL a b = solX a b (waysL a.length tb)) := by show _ = _; unfold solL; rw [htb]; rfl
  have HSX : Hid (∀ xs x, solX a b (xs ++ [x]) = solX a b xs ++ solY a b x (waysL b.length ta)) := fun xs x => by rw [solX_snoc, hta]; rfl
  clear hta htb ha hb
  refine callsIn_of_wp_marks Try.func68 rfl trivial ?_ rfl
  simp only [Try.ntmps68, List.size_toArray, List.length_cons, List.length_nil, Nat.reduceAdd, Nat.reduceSub, Array.replicate_succ, Array.replicate_zero, List.push_toArray, List.append_toArray, List.nil_append, List.cons_append]
  gi_wp2
  obtain ⟨W0, hW0⟩ : ∃ W0, W0 = W.alloc (.cells #[.func (.yield l) #[] #[]] 39) := ⟨_, rfl⟩
  have hB0 : Below W.heap.size W W0 := by rw [hW0]; exact (Below.refl _ _).alloc (Nat.le_refl _) _
  have hz0 : W0.heap.size = W.heap.size + 1 := by rw [hW0]; simp
  have y0 : W0.cell? ⟨W.heap.size, 0, none⟩ = some (.func (.yield l) #[] #[]) := by rw [hW0]; simp [go_sem]
  have J0 : J [] S₀ W0 := by rw [hW0]; exact hJ _ _ _ _ h0 (.alloc _ _ _)
  have d0 := keepC hB0 c0'
  have d1 := keepC hB0 c1'
  have sa : RdI Kp W0 a0 a := ra'.stay (.of_below hB0 (fun _ hk _ => hk) : Stay (fun _ => True) W W0) (fun _ _ => trivial)
  have sb : RdI Kp W0 a1 b := rb'.stay (.of_below hB0 (fun _ hk _ => hk) : Stay (fun _ => True) W W0) (fun _ _ => trivial)
  rw [← hW0]
  have HZ0 : Hid (W0.heap.size = W.heap.size + 1) := hz0
  have hSlt : ∀ k, S₀ k → k < W.heap.size := hJb _ _ _ h0
  have HJ : Hid (∀ pre S A B, J pre S A → Stay S A B → J pre S B) := hJ
  have HJX : Hid (∀ pre S A B, Jx pre S A → Stay S A B → Jx pre S B) := hJx
  have HJB : Hid (∀ pre S A, J pre S A → ∀ k, S k → k < A.heap.size) := hJb
  have HY : Hid (∀ pre x S A, J pre S A → pre.length < (solL a b).length + 1 → (∀ k, (fun (x : So) (k : Nat) => k = x.g) x k → ¬ S k ∧ k < A.heap.size) → SoOk a b w.heap.size pre x A → YieldAt Fence.wide (11 - 1) Try.prog l (So.enc x) A fun e B =>
      (e = .returned (.bool true) ∧ ∃ S', J (pre ++ [x]) S' B ∧ (∀ k, S' k → S k ∨ (fun (x : So) (k : Nat) => k = x.g) x k ∨ A.heap.size ≤ k) ∧ Stay (fun k => Kp k ∨ (¬ S k ∧ ¬ (fun (x : So) (k : Nat) => k = x.g) x k)) A B) ∨
      (e = .returned (.bool false) ∧ ∃ S', Jx (pre ++ [x]) S' B ∧ (∀ k, S' k → S k ∨ (fun (x : So) (k : Nat) => k = x.g) x k ∨ A.heap.size ≤ k) ∧ Stay (fun k => Kp k ∨ (¬ S k ∧ ¬ (fun (x : So) (k : Nat) => k = x.g) x k)) A B)) := hY
  clear hW0 hz0 hJ hJx hJb hY h0 c0' c1' ra' rb' b1 b2 ra rb
  gi_cut [11] from 45 (fun s11 wx => s11 = .func (.func 86) #[] #[.pointer (some ⟨W0.heap.size, 0, none⟩), .pointer (some ⟨W0.heap.size + 1, 0, none⟩)] ∧ wx = ((W0.alloc (.cells #[.int .i64 a.length] 3)).alloc (.cells #[.int .i64 tb] 3)).drew)
  case first =>
    gi_region_with (first
      | (refine ⟨trivial, ?_⟩; gi_at_call 70; refine (callsIn_wide.2 (M2 _ (sb.stay (.drew (fun _ => True) _) (fun _ _ => trivial)))).mono ?_; rintro e w1 ⟨rfl, hw⟩; subst w1)
      | (refine ⟨trivial, ?_⟩; gi_at_call 69; refine (callsIn_wide.2 (countsUpTo_any a.length tb _)).mono ?_; rintro e w2 ⟨rfl, hw2⟩; subst w2))
    all_goals
      gi_wp2_with fail
      gi_meet
      exact ⟨rfl, rfl⟩
  case rest =>
    obtain ⟨rfl, hwc⟩ := hcut
    obtain ⟨W1, hW1⟩ : ∃ W1, W1 = wc := ⟨_, rfl⟩
    subst hW1
    have hB1 : Below W0.heap.size W0 W1 := by rw [hwc]; exact (((Below.refl _ _).alloc (Nat.le_refl _) _).alloc (by simp) _).drew
    have hz1 : W1.heap.size = W0.heap.size + 2 := by rw [hwc]; simp
    have n1 : W1.cell? ⟨W0.heap.size, 0, none⟩ = some (.int .i64 a.length) := by rw [hwc]; simp [go_sem]
    have m1 : W1.cell? ⟨W0.heap.size + 1, 0, none⟩ = some (.int .i64 tb) := by rw [hwc]; simp [go_sem]
    have hS01 : Stay S₀ W0 W1 := .of_below hB1 (fun _ hk _ => hk)
    have I0 : SI Kp B1 B2 W.heap.size l a0 a1 c0 c1 a b J (solX a b []) (fun k => k < W1.heap.size) (fun k => k = W.heap.size ∨ k = W0.heap.size ∨ k = W0.heap.size + 1) (fun k => k < W1.heap.size) W1 := by
      have hz0 := HZ0.out
      have hbz := hbW.size
      refine ⟨⟨[], S₀, rfl, HJ.out _ _ _ _ J0 hS01, fun k hk => ?_⟩, fun _ h => h, fun _ h => h, fun k hk => by have := hKl k hk; omega, by omega, keepC hB1 y0, keepC hB1 d0, keepC hB1 d1, sa.stay (.of_below hB1 (fun _ hk _ => hk) : Stay (fun _ => True) _ _) (fun _ _ => trivial), sb.stay (.of_below hB1 (fun _ hk _ => hk) : Stay (fun _ => True) _ _) (fun _ _ => trivial)⟩
      have := hSlt k hk
      constructor
      · omega
      · rintro (h | h | h) <;> omega
    clear hwc hS01 hSlt J0 y0 d0 d1 sa sb M2
    have HZ1 : Hid (W1.heap.size = W0.heap.size + 2) := hz1
    clear hz1
    have hKl1 : ∀ k, (Kp k ∨ k = W0.heap.size ∨ k = W0.heap.size + 1) → k < W1.heap.size := fun k hk => by
      have h1 := HZ0.out
      have h2 := HZ1.out
      have h3 := hbW.size
      rcases hk with h | h | h
      · have := hKl k h
        omega
      · omega
      · omega
    gi_wp2_with fail
    refine wpIn_rangeFunc_keep (α := List Int) (encs := fun x => #[agg5 x]) rfl (by omega) (gf := 86) (lb := #[.pointer (some ⟨W0.heap.size, 0, none⟩), .pointer (some ⟨W0.heap.size + 1, 0, none⟩)]) rfl trivial (enters_of Try.func86 (by kernel_rfl) rfl)
      (counts_seq 10 (by omega) W1 a.length tb W0.heap.size (W0.heap.size + 1) ha1 ha5 htb4 (fun k => Kp k ∨ k = W0.heap.size ∨ k = W0.heap.size + 1) (.inr (.inl rfl)) (.inr (.inr rfl)) n1 m1) hKl1 (Below.refl _ _) (fun _ => rfl)
      (fun pre S Wc => SI Kp B1 B2 W.heap.size l a0 a1 c0 c1 a b J (solX a b pre) (fun k => k < W1.heap.size) (fun k => k = W.heap.size ∨ k = W0.heap.size ∨ k = W0.heap.size + 1) S Wc)
      (fun c pre S Wc => c = .ret ∧ ∃ got Sx, Jx got Sx Wc ∧ (∃ r, got.map So.t ++ r = solL a b) ∧ ∀ k, Sx k → S k)
      (fun pre S A B h hs => h.stay HJ.out hK1 hK2 hs)
      (fun c pre S A B h hs => by obtain ⟨h1, got, Sx, h2, h3, h4⟩ := h; exact ⟨h1, got, Sx, HJX.out _ _ _ _ h2 (hs.weak (fun k _ hk => h4 k hk)), h3, h4⟩)
      (fun pre S A h => h.hi) (fun k => k < W1.heap.size) (fun _ h => h) I0
      (fun pre x S a₁ Wc => (∃ r, pre ++ x :: r = waysL a.length tb) ∧ ∃ Bx, SI Kp B1 B2 W.heap.size l a0 a1 c0 c1 a b J (solX a b pre) (fun k => k < W1.heap.size) (fun k => (k = W.heap.size ∨ k = W0.heap.size ∨ k = W0.heap.size + 1) ∨ k = Bx) S Wc ∧ XB S Wc Bx x ∧ W1.heap.size ≤ Bx ∧ a₁ = { tmps := #[.func (.yield l) #[] #[], .pointer (some ⟨B1, 0, none⟩), .pointer (some ⟨B2, 0, none⟩), .pointer (some ⟨W.heap.size, 0, none⟩), .pointer (some ⟨Bx, 0, none⟩), undef, undef, u7, u8, u9, u10, .func (.func 86) #[] #[.pointer (some ⟨W0.heap.size, 0, none⟩), .pointer (some ⟨W0.heap.size + 1, 0, none⟩)], .agg #[.int .i64 (pd x 0), .int .i64 (pd x 1), .int .i64 (pd x 2), .int .i64 (pd x 3), .int .i64 (pd x 4)], undef, undef, undef, undef, undef, undef, undef, undef, undef, undef, undef, undef, undef, undef, undef, undef, undef, undef, undef, undef, undef, undef, undef, undef, undef, undef, undef, undef, undef, undef, undef, undef], defers := [] })
      (fun pre x S a₁ A B h hs => by
        obtain ⟨h2, Bx, h1, h3, h4, h6⟩ := h
        exact ⟨h2, Bx, h1.stay HJ.out hK1 hK2 hs, h3.stay hs, h4, h6⟩)
      ?assign ?body ?done ?stop
    case assign =>
      intro l' pre x S Wc K hi hlen hG hok hK
      dsimp only [agg5]
      gi_wp2
      have hal : Stay S Wc (Wc.alloc (.cells #[.int .i64 (pd x 0), .int .i64 (pd x 1), .int .i64 (pd x 2), .int .i64 (pd x 3), .int .i64 (pd x 4)] 97)) := .alloc _ _ _
      refine hK _ (fun k => S k ∨ k = Wc.heap.size) _ ⟨hok, Wc.heap.size, (hi.stay HJ.out hK1 hK2 hal).more (fun _ h => .inl h) (fun k h => .inl (hi.lo k h)) (fun k h => h.elim (fun h => by have := hi.hi k h; simp; omega) (fun e => by simp; omega)) (fun k hk h => fun q => q.elim h (fun e => by have := hi.hi k hk; omega)), ⟨.inr rfl, fun j hj => ?_⟩, ?_, by simp⟩ (fun k h => h.imp id (fun e => .inr (by omega))) (.alloc _ _ _)
      · obtain rfl | rfl | rfl | rfl | rfl : j = 0 ∨ j = 1 ∨ j = 2 ∨ j = 3 ∨ j = 4 := by omega
        all_goals simp [go_sem]
      · have h1 := hi.hi (W1.heap.size - 1) (hi.lo _ (by have := HZ1.out; omega))
        omega
    case body =>
      rintro l1 pre x S a₁ Wb hl1 ⟨r1, hr1⟩ hnl1 ⟨hx, Bx, HI, hX, hBx, rfl⟩ hlen
      obtain ⟨rr, hrr⟩ := hx
      have hmem : x ∈ waysL a.length tb := by rw [← hrr]; simp
      have hxl := waysL_len _ _ x hmem
      have hpd := ways_pd (by omega : tb ≤ 1000) hmem
      have CS := fun (V : World) (h : Below Wb.heap.size Wb V) => sumOf_any a0 (some ⟨Bx, 0, none⟩) a (pad5 x) c0 5 V (HI.ra.stay (.of_below h (fun _ hk _ => hk) : Stay (fun _ => True) Wb V) (fun _ _ => trivial)).rd (hX.c.rd.below h) (by omega) (by simp [pad5]) (by simp [pad5]; omega) (fun v hv => by have := hav v hv; constructor <;> omega) (fun v hv => by
        obtain ⟨j, rfl⟩ := pad5_mem hv
        have := hpd j
        omega)
      rw [dot_pad (by omega) (by omega)] at CS
      simp only [wideV] at CS
      have b1 := HI.b1
      have b2 := HI.b2
      have hB1l : B1 < Wb.heap.size := World.block_lt_of_cell? _ _ b1
      have hB2l : B2 < Wb.heap.size := World.block_lt_of_cell? _ _ b2
      have hB1n : B1 ≠ Wb.heap.size := Nat.ne_of_lt (World.block_lt_of_cell? _ _ b1)
      have hB2n : B2 ≠ Wb.heap.size := Nat.ne_of_lt (World.block_lt_of_cell? _ _ b2)
      gi_wp2_with fail
      gi_cut [5] from 45 (fun s5 wx => ∃ Bs, s5 = .pointer (some ⟨Bs, 0, none⟩) ∧ Below Wb.heap.size Wb wx ∧ Wb.heap.size ≤ Bs ∧ WB wx Bs (dotL a x))
      case first =>
        have D0 : Below Wb.heap.size Wb Wb.drew := (Below.refl _ _).drew
        have D1 : Below Wb.heap.size Wb (Wb.alloc (.cells #[.int .u64 0, .int .u64 0, .int .u64 0] 67)).drew := ((Below.refl _ _).alloc (Nat.le_refl _) _).drew
        obtain ⟨Wz, hWz⟩ : ∃ Wz, Wz = (Wb.alloc (.cells #[.int .u64 0, .int .u64 0, .int .u64 0] 67)).drew := ⟨_, rfl⟩
        have HZA : Hid ((∀ w1 : World, Below Wz.heap.size Wz w1 → w1.cell? ⟨Wb.heap.size, 0, none⟩ = some (.int .u64 0) ∧ w1.cell? ⟨Wb.heap.size, 1, none⟩ = some (.int .u64 0) ∧ w1.cell? ⟨Wb.heap.size, 2, none⟩ = some (.int .u64 0) ∧ ∀ j, w1.frozen? ⟨Wb.heap.size, j, none⟩ = false)) := by
          intro w1 hbw
          have ZA0 : Wz.cell? ⟨Wb.heap.size, 0, none⟩ = some (.int .u64 0) := by rw [hWz]; simp [go_sem]
          have hlt : Wb.heap.size < Wz.heap.size := World.block_lt_of_cell? _ _ ZA0
          exact ⟨keepC hbw ZA0, keepC hbw (by rw [hWz]; simp [go_sem]), keepC hbw (by rw [hWz]; simp [go_sem]), fun j => (hbw.frozen (p := ⟨Wb.heap.size, j, none⟩) hlt).trans (by rw [hWz]; simp [go_sem])⟩
        rw [hWz] at HZA
        clear hWz
        have CS0 := CallsIn.inRound l1 (callsIn_wide (n := 8).2 (CS _ D0))
        have CS1 := CallsIn.inRound l1 (callsIn_wide (n := 8).2 (CS _ D1))
        have c10 : (Wb.alloc (.cells #[.int .u64 0, .int .u64 0, .int .u64 0] 67)).drew.cell? ⟨B1, 0, none⟩ = some (.slice a0 a.length c0) := keepC D1 b1
        gi_region_with (first
          | (refine ⟨trivial, ?_⟩; gi_at_call 48; refine CS0.mono ?_; rintro e w1 ⟨rfl, hbw⟩)
          | (refine ⟨trivial, ?_⟩; gi_at_call 48; refine CS1.mono ?_; rintro e w1 ⟨rfl, hbw⟩; obtain ⟨z0, z1, z2, zf⟩ := HZA.out w1 hbw))
        all_goals
          gi_wp2_with fail
          gi_meet
          first
            | exact ⟨_, rfl, ((D0.trans (hbw.mono D0.size)).alloc (Nat.le_trans D0.size hbw.size) _), Nat.le_trans D0.size hbw.size, ⟨by simp [go_sem], by simp [go_sem], by simp [go_sem]⟩⟩
            | exact ⟨_, rfl, ((((D1.trans (hbw.mono D1.size)).setCell (Nat.le_refl _) _).setCell (Nat.le_refl _) _).setCell (Nat.le_refl _) _), Nat.le_refl _, WB.set z0 z1 z2⟩
            | trace_state
      case rest =>
        obtain ⟨Bs, rfl, hbc, hBs, hW⟩ := hcut
        obtain ⟨W3, hW3⟩ : ∃ W3, W3 = wc := ⟨_, rfl⟩
        subst hW3
        have e1 := keepC hbc b1
        have e2 := keepC hbc b2
        have ra3 : RdI Kp W3 a0 a := HI.ra.stay (.of_below hbc (fun _ hk _ => hk) : Stay (fun _ => True) Wb W3) (fun _ _ => trivial)
        clear CS b1 b2 hB1n hB2n hB1l hB2l
        gi_wp2_with fail
        gi_cut [20] from 45 (fun s20 wx => s20 = .func (.func 86) #[] #[.pointer (some ⟨W3.heap.size, 0, none⟩), .pointer (some ⟨W3.heap.size + 1, 0, none⟩)] ∧ wx = ((W3.alloc (.cells #[.int .i64 b.length] 3)).alloc (.cells #[.int .i64 ta] 3)).drew)
        case first =>
          have CM := CallsIn.inRound l1 (callsIn_wide (n := 8).2 (M1 _ (ra3.stay (.drew (fun _ => True) _) (fun _ _ => trivial))))
          gi_region_with (first
            | (refine ⟨trivial, ?_⟩; gi_at_call 70; refine CM.mono ?_; rintro e w1 ⟨rfl, hw⟩; subst w1)
            | (refine ⟨trivial, ?_⟩; gi_at_call 69; refine (CallsIn.inRound l1 (callsIn_wide.2 (countsUpTo_any b.length ta _))).mono ?_; rintro e w2 ⟨rfl, hw2⟩; subst w2))
          all_goals
            gi_wp2_with fail
            gi_meet
            exact ⟨rfl, rfl⟩
        case rest =>
          obtain ⟨rfl, hwc⟩ := hcut
          obtain ⟨W4, hW4⟩ : ∃ W4, W4 = wc := ⟨_, rfl⟩
          subst hW4
          have hB4 : Below W3.heap.size W3 W4 := by rw [hwc]; exact (((Below.refl _ _).alloc (Nat.le_refl _) _).alloc (by simp) _).drew
          have hz4 : Hid (W4.heap.size = W3.heap.size + 2) := by show _ = _; rw [hwc]; simp
          have n4 : W4.cell? ⟨W3.heap.size, 0, none⟩ = some (.int .i64 b.length) := by rw [hwc]; simp [go_sem]
          have m4 : W4.cell? ⟨W3.heap.size + 1, 0, none⟩ = some (.int .i64 ta) := by rw [hwc]; simp [go_sem]
          clear hwc e1 e2 ra3
          have hBb : Below Wb.heap.size Wb W4 := hbc.trans (hB4.mono hbc.size)
          have hWlt := hW.lt
          have hz34 := hz4.out
          have hzb := hbc.size
          have hl14 : W4.heap[l1]? = some (.loop r1) := (hBb.block l1 (Array.getElem?_eq_some_iff.1 hr1).1).trans hr1
          have hSb : Stay (fun _ => True) Wb W4 := .of_below hBb (fun _ hk _ => hk)
          have hXlt : Bx < Wb.heap.size := HI.hi _ hX.s
          have I4 : SI Kp B1 B2 W.heap.size l a0 a1 c0 c1 a b J (solX a b pre ++ solY a b x []) (fun k => k < W4.heap.size) (fun k => ((((k = W.heap.size ∨ k = W0.heap.size ∨ k = W0.heap.size + 1) ∨ k = Bx) ∨ k = Bs ∨ k = W3.heap.size ∨ k = W3.heap.size + 1) ∨ (¬ S k ∧ k < Wb.heap.size))) (fun k => k < W4.heap.size) W4 := by
            have h1 := (HI.stay HJ.out hK1 hK2 (hSb.weak (fun _ _ _ => trivial)))
            have h2 := h1.more (S' := fun k => k < W4.heap.size) (lo' := fun k => k < W4.heap.size) (pv' := fun k => ((((k = W.heap.size ∨ k = W0.heap.size ∨ k = W0.heap.size + 1) ∨ k = Bx) ∨ k = Bs ∨ k = W3.heap.size ∨ k = W3.heap.size + 1) ∨ (¬ S k ∧ k < Wb.heap.size))) (fun k hk => h1.hi k hk) (fun _ h => h) (fun _ h => h) (fun k hk hp => by
              have hlt := HI.hi k hk
              rintro (((q | q) | q | q | q) | q)
              · exact hp (.inl q)
              · exact hp (.inr q)
              · omega
              · omega
              · omega
              · exact q.1 hk)
            have e : solX a b pre ++ solY a b x [] = solX a b pre := by simp [solY]
            rw [e]
            exact h2
          clear hWlt hz34
          have hKl2 : ∀ k, (Kp k ∨ k = W3.heap.size ∨ k = W3.heap.size + 1) → k < W4.heap.size := fun k hk => by
            have h1 := hz4.out
            rcases hk with h | h | h
            · exact I4.kp k h
            · omega
            · omega
          gi_wp2_with fail
          refine wpIn_rangeFunc_keepN (α := List Int) (encs := fun x => #[agg5 x]) (l₀ := l1) (r₀ := r1) rfl hl14 (by omega) (gf := 86) (lb := #[.pointer (some ⟨W3.heap.size, 0, none⟩), .pointer (some ⟨W3.heap.size + 1, 0, none⟩)]) rfl trivial (enters_of Try.func86 (by kernel_rfl) rfl)
            (counts_seq 8 (by omega) W4 b.length ta W3.heap.size (W3.heap.size + 1) hb1 hb5 hta4 (fun k => Kp k ∨ k = W3.heap.size ∨ k = W3.heap.size + 1) (.inr (.inl rfl)) (.inr (.inr rfl)) n4 m4) hKl2 (Below.refl _ _) (fun _ => rfl)
            (fun pre2 S2 V => SI Kp B1 B2 W.heap.size l a0 a1 c0 c1 a b J (solX a b pre ++ solY a b x pre2) (fun k => k < W4.heap.size) (fun k => ((((k = W.heap.size ∨ k = W0.heap.size ∨ k = W0.heap.size + 1) ∨ k = Bx) ∨ k = Bs ∨ k = W3.heap.size ∨ k = W3.heap.size + 1) ∨ (¬ S k ∧ k < Wb.heap.size))) S2 V ∧ XB S2 V Bx x ∧ (S2 Bs ∧ WB V Bs (dotL a x)) ∧ Stay (fun k => ((Kp k ∨ k = W0.heap.size ∨ k = W0.heap.size + 1) ∨ ¬ S k) ∧ k < Wb.heap.size) Wb V)
            (fun c pre2 S2 V => c = .ret ∧ ∃ got Sx, Jx got Sx V ∧ (∃ r, got.map So.t ++ r = solL a b) ∧ (∀ k, Sx k → S2 k) ∧ (∀ k, Sx k → S k ∨ Wb.heap.size ≤ k) ∧ (∀ k, k < W4.heap.size → S2 k) ∧ Stay (fun k => ((Kp k ∨ k = W0.heap.size ∨ k = W0.heap.size + 1) ∨ ¬ S k) ∧ k < Wb.heap.size) Wb V)
            (fun pre2 S2 A B h hs => by
              obtain ⟨h1, h2, h3, h4⟩ := h
              exact ⟨h1.stay HJ.out hK1 hK2 hs, h2.stay hs, ⟨h3.1, h3.2.stay hs h3.1⟩, h4.trans (hs.weak (fun k _ hk => h1.lo k (Nat.lt_of_lt_of_le hk.2 hBb.size)))⟩)
            (fun c pre2 S2 A B h hs => by
              obtain ⟨h1, got, Sx, h2, h3, h4, h5, h6, h7⟩ := h
              exact ⟨h1, got, Sx, HJX.out _ _ _ _ h2 (hs.weak (fun k _ hk => h4 k hk)), h3, h4, h5, h6, h7.trans (hs.weak (fun k _ hk => h6 k (Nat.lt_of_lt_of_le hk.2 hBb.size)))⟩)
            (fun pre2 S2 A h => h.1.hi) (fun k => k < W4.heap.size) (fun _ h => h) ⟨I4, ⟨Nat.lt_of_lt_of_le hXlt hBb.size, (hX.stay (hSb.weak (fun _ _ _ => trivial))).c⟩, ⟨Nat.lt_of_lt_of_le hW.lt hB4.size, hW.stay (.of_below hB4 (fun _ hk _ => hk) : Stay (fun _ => True) W3 W4) trivial⟩, hSb.weak (fun _ _ _ => trivial)⟩
            (fun pre2 y S2 a₂ V => (∃ r, pre2 ++ y :: r = waysL b.length ta) ∧ ∃ By, SI Kp B1 B2 W.heap.size l a0 a1 c0 c1 a b J (solX a b pre ++ solY a b x pre2) (fun k => k < W4.heap.size) (fun k => ((((k = W.heap.size ∨ k = W0.heap.size ∨ k = W0.heap.size + 1) ∨ k = Bx) ∨ k = Bs ∨ k = W3.heap.size ∨ k = W3.heap.size + 1) ∨ (¬ S k ∧ k < Wb.heap.size)) ∨ k = By) S2 V ∧ XB S2 V Bx x ∧ (S2 Bs ∧ WB V Bs (dotL a x)) ∧ Stay (fun k => ((Kp k ∨ k = W0.heap.size ∨ k = W0.heap.size + 1) ∨ ¬ S k) ∧ k < Wb.heap.size) Wb V ∧ XB S2 V By y ∧ a₂ = { tmps := #[.func (.yield l) #[] #[], .pointer (some ⟨B1, 0, none⟩), .pointer (some ⟨B2, 0, none⟩), .pointer (some ⟨W.heap.size, 0, none⟩), .pointer (some ⟨Bx, 0, none⟩), .pointer (some ⟨Bs, 0, none⟩), .pointer (some ⟨By, 0, none⟩), u7, u8, u9, u10, .func (.func 86) #[] #[.pointer (some ⟨W0.heap.size, 0, none⟩), .pointer (some ⟨W0.heap.size + 1, 0, none⟩)], .agg #[.int .i64 (pd x 0), .int .i64 (pd x 1), .int .i64 (pd x 2), .int .i64 (pd x 3), .int .i64 (pd x 4)], u13, u14, u15, u16, u17, u18, u19, .func (.func 86) #[] #[.pointer (some ⟨W3.heap.size, 0, none⟩), .pointer (some ⟨W3.heap.size + 1, 0, none⟩)], .agg #[.int .i64 (pd y 0), .int .i64 (pd y 1), .int .i64 (pd y 2), .int .i64 (pd y 3), .int .i64 (pd y 4)], undef, undef, undef, undef, undef, undef, undef, undef, undef, undef, undef, undef, undef, undef, undef, undef, undef, undef, undef, undef, undef, undef, undef], defers := [] })
            (fun pre2 y S2 a₂ A B h hs => by
              obtain ⟨h0, By, h1, h2, h3, h4, h5, h6⟩ := h
              exact ⟨h0, By, h1.stay HJ.out hK1 hK2 hs, h2.stay hs, ⟨h3.1, h3.2.stay hs h3.1⟩, h4.trans (hs.weak (fun k _ hk => h1.lo k (Nat.lt_of_lt_of_le hk.2 hBb.size))), h5.stay hs, h6⟩)
            ?assign2 ?body2 ?done2 ?stop2
          case assign2 =>
            intro l' pre2 y S2 Wc K hi hlen2 hG hok hK
            obtain ⟨hi, hx2, hs2, ht2⟩ := hi
            dsimp only [agg5]
            gi_wp2
            have hal : Stay S2 Wc (Wc.alloc (.cells #[.int .i64 (pd y 0), .int .i64 (pd y 1), .int .i64 (pd y 2), .int .i64 (pd y 3), .int .i64 (pd y 4)] 97)) := .alloc _ _ _
            refine hK _ (fun k => S2 k ∨ k = Wc.heap.size) _ ⟨hok, Wc.heap.size, (hi.stay HJ.out hK1 hK2 hal).more (fun _ h => .inl h) (fun k h => .inl (hi.lo k h)) (fun k h => h.elim (fun h => by have := hi.hi k h; simp; omega) (fun e => by simp; omega)) (fun k hk h => fun q => q.elim h (fun e => by have := hi.hi k hk; omega)), ⟨.inl hx2.s, (hx2.stay hal).c⟩, ⟨.inl hs2.1, hs2.2.stay hal hs2.1⟩, ht2.trans (.alloc _ _ _), ⟨.inr rfl, fun j hj => ?_⟩, by simp⟩ (fun k h => h.imp id (fun e => .inr (by omega))) (.alloc _ _ _)
            obtain rfl | rfl | rfl | rfl | rfl : j = 0 ∨ j = 1 ∨ j = 2 ∨ j = 3 ∨ j = 4 := by omega
            all_goals simp [go_sem]
          case body2 =>
            rintro l2 pre2 y S2 a₂ Wd hl2 ⟨r2, hr2⟩ hnl2 ⟨hy, By, HI2, hX2, hS2, hT2, hY2, rfl⟩ hlen2
            obtain ⟨rr2, hrr2⟩ := hy
            have hmem2 : y ∈ waysL b.length ta := by rw [← hrr2]; simp
            have hyl := waysL_len _ _ y hmem2
            have hpd2 := ways_pd (by omega : ta ≤ 1000) hmem2
            have CS := sumOf_any a1 (some ⟨By, 0, none⟩) b (pad5 y) c1 5 Wd.drew (HI2.rb.stay (.drew (fun _ => True) _) (fun _ _ => trivial)).rd hY2.c.rd (by omega) (by simp [pad5]) (by simp [pad5]; omega) (fun v hv => by have := hbv v hv; constructor <;> omega) (fun v hv => by
              obtain ⟨j, rfl⟩ := pad5_mem hv
              have := hpd2 j
              omega)
            rw [dot_pad (by omega) (by omega)] at CS
            simp only [wideV] at CS
            have CS0 := CallsIn.inRound l2 (CallsIn.inRound l1 (callsIn_wide (n := 6).2 CS))
            have b2 := HI2.b2
            have w0 := hS2.2.c0
            have w1' := hS2.2.c1
            have w2 := hS2.2.c2
            have HKP : Hid (∀ V, Below Wd.heap.size Wd V → V.cell? ⟨Bs, 0, none⟩ = some (.int .u64 (limb (dotL a x) 0)) ∧ V.cell? ⟨Bs, 1, none⟩ = some (.int .u64 (limb (dotL a x) 1)) ∧ V.cell? ⟨Bs, 2, none⟩ = some (.int .u64 (limb (dotL a x) 2)) ∧ (∀ j, j < 5 → V.cell? ⟨Bx, j, none⟩ = some (.int .i64 (pd x j))) ∧ ∀ j, j < 5 → V.cell? ⟨By, j, none⟩ = some (.int .i64 (pd y j))) := fun V h => ⟨keepC h hS2.2.c0, keepC h hS2.2.c1, keepC h hS2.2.c2, fun j hj => keepC h (hX2.c j hj), fun j hj => keepC h (hY2.c j hj)⟩
            have EQ := fun w => (eq_wide (limb (dotL b y) 0) (limb (dotL b y) 1) (limb (dotL b y) 2) (limb (dotL a x) 0) (limb (dotL a x) 1) (limb (dotL a x) 2) w).trans (by rw [limbs_same (dot_big (by omega) (fun v hv => by have := hbv v hv; omega) (ways_small (by omega) hmem2)) (dot_big (by omega) (fun v hv => by have := hav v hv; omega) (ways_small (by omega) hmem))])
            gi_wp2_with fail
            gi_cut [33] from 45 (fun s33 wx => s33 = .bool (!(okB a b x y)) ∧ Below Wd.heap.size Wd wx)
            case first =>
              by_cases hd : dotL b y = dotL a x
              · rw [decide_eq_true hd] at EQ
                rw [hd] at CS0 EQ
                have EB := eq_both (pd x 0) (pd x 1) (pd x 2) (pd x 3) (pd x 4) (pd y 0) (pd y 1) (pd y 2) (pd y 3) (pd y 4)
                have HO : Hid (okB a b x y = !(zB x && zB y)) := by show _ = _; simp only [okB, hd, decide_true, Bool.true_and]
                have HZX : Hid ((pd x 0 == 0 && (pd x 1 == 0 && (pd x 2 == 0 && (pd x 3 == 0 && pd x 4 == 0)))) = zB x) := zB_pd (by omega : x.length ≤ 5)
                have HZY : Hid ((pd y 0 == 0 && (pd y 1 == 0 && (pd y 2 == 0 && (pd y 3 == 0 && pd y 4 == 0)))) = zB y) := zB_pd (by omega : y.length ≤ 5)
                rw [HZX.out, HZY.out] at EB
                clear HI HI2 hX hX2 hY2 hS2 hT2 I4 I0 HY HJ HJX HJB CS M1 SL HSX hKl1 hKl2 hKl hpd hpd2 hmem hmem2 hrr hrr2 hW hSb hBb hl14 hr1 hr2 hnl1 hnl2 n1 m1 n4 m4 hav hbv hd HZX HZY
                gi_region_with (refine ⟨trivial, ?_⟩; gi_at_call 48; refine CS0.mono ?_; rintro e w5 ⟨rfl, hbw⟩; have hbw' : Below Wd.heap.size Wd w5 := (Below.refl _ _).drew.trans hbw; obtain ⟨k0, k1, k2, kx, ky⟩ := HKP.out w5 hbw')
                all_goals
                  gi_wp2_with fail
                  gi_meet
                  exact ⟨by rw [HO.out, Bool.not_not], hbw'⟩
              · rw [decide_eq_false hd] at EQ
                have HO : Hid (okB a b x y = false) := by show _ = _; simp [okB, hd]
                clear HI HI2 hX hX2 hY2 hS2 hT2 I4 I0 HY HJ HJX HJB CS M1 SL HSX hKl1 hKl2 hKl hpd hpd2 hmem hmem2 hrr hrr2 hW hSb hBb hl14 hr1 hr2 hnl1 hnl2 n1 m1 n4 m4 hav hbv
                gi_region_with (refine ⟨trivial, ?_⟩; gi_at_call 48; refine CS0.mono ?_; rintro e w5 ⟨rfl, hbw⟩; have hbw' : Below Wd.heap.size Wd w5 := (Below.refl _ _).drew.trans hbw; obtain ⟨k0, k1, k2, kx, ky⟩ := HKP.out w5 hbw')
                all_goals
                  gi_wp2_with fail
                  gi_meet
                  exact ⟨by rw [HO.out, Bool.not_false], hbw'⟩
            case rest =>
              obtain ⟨rfl, hbd⟩ := hcut
              obtain ⟨W5, hW5⟩ : ∃ W5, W5 = wc := ⟨_, rfl⟩
              subst hW5
              have hst5 : Stay (fun _ => True) Wd W5 := .of_below hbd (fun _ hk _ => hk)
              have hW4d : W4.heap.size ≤ Wd.heap.size := by
                have h1 := HI2.hi (W4.heap.size - 1) (HI2.lo _ (by have := hz4.out; omega))
                omega
              clear CS CS0 EQ HKP b2 w0 w1' w2
              cases hok : okB a b x y with
              | false =>
                gi_wp2_with fail
                have HS := (HI2.stay HJ.out hK1 hK2 (hst5.weak (fun _ _ _ => trivial)))
                refine ⟨S2, ⟨?_, hX2.stay (hst5.weak (fun _ _ _ => trivial)), ⟨hS2.1, hS2.2.stay hst5 trivial⟩, hT2.trans (hst5.weak (fun _ _ _ => trivial))⟩, fun k h => .inl h, hst5.weak (fun _ _ _ => trivial)⟩
                rw [solY_snoc, hok]
                simp only [Bool.false_eq_true, if_false, List.append_nil]
                exact HS.more (fun _ h => h) HS.lo HS.hi (fun k _ h q => h (.inl q))
              | true =>
                have HS := (HI2.stay HJ.out hK1 hK2 (hst5.weak (fun _ _ _ => trivial)))
                obtain ⟨got, SJ, g1, g2, g3⟩ := HI2.ex
                have J5 := HJ.out _ _ _ _ g2 (hst5.weak (fun _ _ _ => trivial))
                have b15 := HS.b1
                have b25 := HS.b2
                have y5 := HS.y
                have c15 : (W5.alloc (.cells #[.slice (some ⟨Bx, 0, none⟩) a.length 5, .slice (some ⟨By, 0, none⟩) b.length 5] 24)).drew.cell? ⟨B1, 0, none⟩ = some (.slice a0 a.length c0) := keepC ((Below.refl _ _).alloc (Nat.le_refl _) _).drew b15
                have c25 : (W5.alloc (.cells #[.slice (some ⟨Bx, 0, none⟩) a.length 5, .slice (some ⟨By, 0, none⟩) b.length 5] 24)).drew.cell? ⟨B2, 0, none⟩ = some (.slice a1 b.length c1) := keepC ((Below.refl _ _).alloc (Nat.le_refl _) _).drew b25
                have cy5 : (W5.alloc (.cells #[.slice (some ⟨Bx, 0, none⟩) a.length 5, .slice (some ⟨By, 0, none⟩) b.length 5] 24)).drew.cell? ⟨W.heap.size, 0, none⟩ = some (.func (.yield l) #[] #[]) := keepC ((Below.refl _ _).alloc (Nat.le_refl _) _).drew y5
                have hbz5 := hbd.size
                have HV : Hid (Below Wd.heap.size Wd (W5.alloc (.cells #[.slice (some ⟨Bx, 0, none⟩) a.length 5, .slice (some ⟨By, 0, none⟩) b.length 5] 24)).drew) := ((hbd.alloc hbd.size _).drew)
                have hzV : (W5.alloc (.cells #[.slice (some ⟨Bx, 0, none⟩) a.length 5, .slice (some ⟨By, 0, none⟩) b.length 5] 24)).drew.heap.size = W5.heap.size + 1 := by simp
                have CC := concat_any (some ⟨W5.heap.size, 0, none⟩) [x, y] 2 (W5.alloc (.cells #[.slice (some ⟨Bx, 0, none⟩) a.length 5, .slice (some ⟨By, 0, none⟩) b.length 5] 24)).drew (.inr ⟨W5.heap.size, 0, rfl, by simp, fun i hi => by
                  have hVr : Below W5.heap.size W5 (W5.alloc (.cells #[.slice (some ⟨Bx, 0, none⟩) a.length 5, .slice (some ⟨By, 0, none⟩) b.length 5] 24)).drew := ((Below.refl _ _).alloc (Nat.le_refl _) _).drew
                  have hX5 := ((hX2.stay (hst5.weak (fun _ _ _ => trivial))).c.rdx (by omega)).below hVr
                  have hY5 := ((hY2.stay (hst5.weak (fun _ _ _ => trivial))).c.rdx (by omega)).below hVr
                  have hi2 : i = 0 ∨ i = 1 := by simp at hi; omega
                  rcases hi2 with rfl | rfl
                  · exact ⟨_, 5, by simp [go_sem, hxl], hX5⟩
                  · exact ⟨_, 5, by simp [go_sem, hyl], hY5⟩⟩) (by simp) (fun r hr => by
                    have hr' : r = x ∨ r = y := by simpa using hr
                    rcases hr' with rfl | rfl
                    · intro e; rw [e] at hxl; simp at hxl; omega
                    · intro e; rw [e] at hyl; simp at hyl; omega) (fun k hk => by
                    have h1 : (([x, y].take k).flatten).length ≤ ([x, y].flatten).length := by
                      have hk3 : k = 0 ∨ k = 1 ∨ 2 ≤ k := by omega
                      rcases hk3 with rfl | rfl | h
                      · simp
                      · simp
                      · rw [List.take_of_length_le (by simpa using h)]
                        exact Nat.le_refl _
                    rw [two_flat, List.length_append] at h1
                    omega) (by rw [two_flat, List.length_append]; omega)
                have hlxy : (x ++ y).length = a.length + b.length := by rw [List.length_append, hxl, hyl]
                rw [two_flat, hlxy] at CC
                have CC0 := CallsIn.inRound l2 (CallsIn.inRound l1 (callsIn_wide (n := 6).2 CC))
                obtain ⟨PP, HPQ⟩ : ∃ PP : Bool → World → Prop, Hid (∀ r V, PP r V ↔ ((r = true → ∃ S' : Nat → Prop, (SI Kp B1 B2 W.heap.size l a0 a1 c0 c1 a b J (solX a b pre ++ solY a b x (pre2 ++ [y])) (fun k => k < W4.heap.size) (fun k => ((((k = W.heap.size ∨ k = W0.heap.size ∨ k = W0.heap.size + 1) ∨ k = Bx) ∨ k = Bs ∨ k = W3.heap.size ∨ k = W3.heap.size + 1) ∨ (¬ S k ∧ k < Wb.heap.size))) S' V ∧ XB S' V Bx x ∧ (S' Bs ∧ WB V Bs (dotL a x)) ∧ Stay (fun k => ((Kp k ∨ k = W0.heap.size ∨ k = W0.heap.size + 1) ∨ ¬ S k) ∧ k < Wb.heap.size) Wb V) ∧ (∀ k, S' k → S2 k ∨ Wd.heap.size ≤ k) ∧ Stay (fun k => (Kp k ∨ k = W3.heap.size ∨ k = W3.heap.size + 1) ∨ ¬ S2 k) Wd V) ∧ (r = false → ∃ S' : Nat → Prop, (Code.ret = .ret ∧ ∃ got Sx, Jx got Sx V ∧ (∃ r, got.map So.t ++ r = solL a b) ∧ (∀ k, Sx k → S' k) ∧ (∀ k, Sx k → S k ∨ Wb.heap.size ≤ k) ∧ (∀ k, k < W4.heap.size → S' k) ∧ Stay (fun k => ((Kp k ∨ k = W0.heap.size ∨ k = W0.heap.size + 1) ∨ ¬ S k) ∧ k < Wb.heap.size) Wb V) ∧ (∀ k, S' k → S2 k ∨ Wd.heap.size ≤ k) ∧ Stay (fun k => (Kp k ∨ k = W3.heap.size ∨ k = W3.heap.size + 1) ∨ ¬ S2 k) Wd V))) := ⟨fun r V => (r = true → ∃ S' : Nat → Prop, (SI Kp B1 B2 W.heap.size l a0 a1 c0 c1 a b J (solX a b pre ++ solY a b x (pre2 ++ [y])) (fun k => k < W4.heap.size) (fun k => ((((k = W.heap.size ∨ k = W0.heap.size ∨ k = W0.heap.size + 1) ∨ k = Bx) ∨ k = Bs ∨ k = W3.heap.size ∨ k = W3.heap.size + 1) ∨ (¬ S k ∧ k < Wb.heap.size))) S' V ∧ XB S' V Bx x ∧ (S' Bs ∧ WB V Bs (dotL a x)) ∧ Stay (fun k => ((Kp k ∨ k = W0.heap.size ∨ k = W0.heap.size + 1) ∨ ¬ S k) ∧ k < Wb.heap.size) Wb V) ∧ (∀ k, S' k → S2 k ∨ Wd.heap.size ≤ k) ∧ Stay (fun k => (Kp k ∨ k = W3.heap.size ∨ k = W3.heap.size + 1) ∨ ¬ S2 k) Wd V) ∧ (r = false → ∃ S' : Nat → Prop, (Code.ret = .ret ∧ ∃ got Sx, Jx got Sx V ∧ (∃ r, got.map So.t ++ r = solL a b) ∧ (∀ k, Sx k → S' k) ∧ (∀ k, Sx k → S k ∨ Wb.heap.size ≤ k) ∧ (∀ k, k < W4.heap.size → S' k) ∧ Stay (fun k => ((Kp k ∨ k = W0.heap.size ∨ k = W0.heap.size + 1) ∨ ¬ S k) ∧ k < Wb.heap.size) Wb V) ∧ (∀ k, S' k → S2 k ∨ Wd.heap.size ≤ k) ∧ Stay (fun k => (Kp k ∨ k = W3.heap.size ∨ k = W3.heap.size + 1) ∨ ¬ S2 k) Wd V), fun _ _ => Iff.rfl⟩
                have HYY : Hid (∀ (g c : Nat) (w6 : World), w6.ownsRow (W5.alloc (.cells #[.slice (some ⟨Bx, 0, none⟩) a.length 5, .slice (some ⟨By, 0, none⟩) b.length 5] 24)).drew.heap.size 3 1 (.slice (some ⟨g, 0, none⟩) (a.length + b.length) c) (a.length + b.length) (ints (x ++ y)) → Below (W5.alloc (.cells #[.slice (some ⟨Bx, 0, none⟩) a.length 5, .slice (some ⟨By, 0, none⟩) b.length 5] 24)).drew.heap.size (W5.alloc (.cells #[.slice (some ⟨Bx, 0, none⟩) a.length 5, .slice (some ⟨By, 0, none⟩) b.length 5] 24)).drew w6 →
                    YieldAt Fence.wide 10 Try.prog l #[.slice (some ⟨g, 0, none⟩) (a.length + b.length) c] w6 fun e V => ∃ r, e = .returned (.bool r) ∧ PP r V) := by
                  intro g c w6
                  rw [← hlxy]
                  intro ho6 hb6
                  have hB6 : Below Wd.heap.size Wd w6 := HV.out.trans (hb6.mono HV.out.size)
                  have hst6 : Stay (fun _ => True) Wd w6 := .of_below hB6 (fun _ hk _ => hk)
                  have hg := ho6.lt g rfl
                  rw [hzV] at hg
                  have hb6z := hB6.size
                  obtain ⟨R, hR⟩ := sol_prefix SL.out HSX.out hrr hrr2 hok
                  have hbWd := HI2.hi _ HI2.sy
                  have hbWz := hbW.size
                  have hpvlt : ∀ k, (((k = W.heap.size ∨ k = W0.heap.size ∨ k = W0.heap.size + 1) ∨ k = Bx) ∨ k = Bs ∨ k = W3.heap.size ∨ k = W3.heap.size + 1) ∨ (¬ S k ∧ k < Wb.heap.size) → k < Wd.heap.size := by
                    intro k hk
                    have z1 := HZ1.out
                    have z4 := hz4.out
                    have zz0 := HZ0.out
                    have zb := hBb.size
                    have zl := hW.lt
                    have l1 := HI2.hi _ (HI2.lo (W0.heap.size + 1) (by have := HI.hi _ (HI.lo (W0.heap.size + 1) (by omega)); omega))
                    rcases hk with ((q | q) | q | q | q) | q <;> omega
                  have nS : ∀ k, ((((k = W.heap.size ∨ k = W0.heap.size ∨ k = W0.heap.size + 1) ∨ k = Bx) ∨ k = Bs ∨ k = W3.heap.size ∨ k = W3.heap.size + 1) ∨ (¬ S k ∧ k < Wb.heap.size)) ∨ k = By → ¬ SJ k := fun k hp hk => (g3 k hk).2 hp
                  have Y := HY.out got ⟨x ++ y, g, c⟩ SJ w6 (HJ.out _ _ _ _ g2 (hst6.weak (fun _ _ _ => trivial))) (by
                      have h1 := congrArg List.length hR
                      have h2 := congrArg List.length g1
                      simp only [List.length_append, List.length_cons, List.length_map] at h1 h2
                      omega) (fun k hk => by
                      have hk' : k = g := hk
                      subst hk'
                      refine ⟨fun h => ?_, hg.2⟩
                      have := HJB.out _ _ _ g2 _ h
                      omega) ⟨⟨R, by rw [g1]; exact hR⟩, own_base ho6 (by rw [hzV]; omega)⟩
                  obtain ⟨fn, tmps, assign, body, hy6, hR6⟩ := Y
                  refine ⟨fn, tmps, assign, body, hy6, hR6.mono ?_⟩
                  have fin : ∀ V, Stay (fun k => Kp k ∨ (¬ SJ k ∧ ¬ k = g)) w6 V → Stay (fun k => k < Wd.heap.size ∧ (Kp k ∨ ¬ SJ k)) Wd V ∧ Stay (fun k => ((Kp k ∨ k = W0.heap.size ∨ k = W0.heap.size + 1) ∨ ¬ S k) ∧ k < Wb.heap.size) Wb V ∧ Stay (fun k => (Kp k ∨ k = W3.heap.size ∨ k = W3.heap.size + 1) ∨ ¬ S2 k) Wd V := by
                    intro V j3
                    have hT : Stay (fun k => k < Wd.heap.size ∧ (Kp k ∨ ¬ SJ k)) Wd V := (hst6.weak (fun _ _ _ => trivial)).trans (j3.weak (fun k _ h => h.2.imp id (fun q => ⟨q, fun e => by have := h.1; omega⟩)))
                    refine ⟨hT, hT2.trans (hT.weak (fun k _ h => ?_)), hT.weak (fun k hk h => ⟨hk, ?_⟩)⟩
                    · have zb := hBb.size
                      refine ⟨by have := h.2; omega, ?_⟩
                      rcases h.1 with (q | q) | q
                      · exact .inl q
                      · exact .inr (nS k (.inl (.inl (.inl (.inl (.inr q))))))
                      · exact .inr (nS k (.inl (.inr ⟨q, h.2⟩)))
                    · rcases h with (q | q) | q
                      · exact .inl q
                      · exact .inr (nS k (.inl (.inl (.inr (.inr q)))))
                      · exact .inr (fun hq => q (g3 k hq).1)
                  have sub : ∀ (S' : Nat → Prop), (∀ k, S' k → SJ k ∨ k = g ∨ w6.heap.size ≤ k) → (∀ k, S' k → S2 k ∨ Wd.heap.size ≤ k) ∧ (∀ k, S' k → ¬ ((((k = W.heap.size ∨ k = W0.heap.size ∨ k = W0.heap.size + 1) ∨ k = Bx) ∨ k = Bs ∨ k = W3.heap.size ∨ k = W3.heap.size + 1) ∨ (¬ S k ∧ k < Wb.heap.size))) := by
                    intro S' j2
                    refine ⟨fun k hk => ?_, fun k hk q => ?_⟩
                    · rcases j2 k hk with h | h | h
                      · exact .inl (g3 k h).1
                      · exact .inr (by omega)
                      · exact .inr (by omega)
                    · have hlt := hpvlt k q
                      rcases j2 k hk with h | h | h
                      · exact (g3 k h).2 (.inl q)
                      · omega
                      · omega
                  rintro e V (⟨rfl, S', j1, j2, j3⟩ | ⟨rfl, S', j1, j2, j3⟩)
                  · obtain ⟨hT, hTb, hTd⟩ := fin V j3
                    obtain ⟨s1, s2⟩ := sub S' j2
                    have hzV2 := hT.size
                    refine ⟨true, rfl, (HPQ.out _ _).2 ⟨fun _ => ?_, (fun h => by cases h)⟩⟩
                    refine ⟨fun k => k < V.heap.size ∧ (S2 k ∨ Wd.heap.size ≤ k), ⟨⟨⟨got ++ [⟨x ++ y, g, c⟩], S', ?_, j1, fun k hk => ⟨⟨HJB.out _ _ _ j1 k hk, s1 k hk⟩, s2 k hk⟩⟩, fun k hk => ⟨by omega, .inl (HI2.lo k hk)⟩, fun k hk => hk.1, fun k hk => ⟨Nat.lt_of_lt_of_le (HI2.hi _ (HI2.kp k hk)) hzV2, .inl (HI2.kp k hk)⟩, ⟨by omega, .inl HI2.sy⟩, hT.cell HI2.y ⟨hbWd, .inr (nS _ (.inl (.inl (.inl (.inl (.inl rfl))))))⟩, hT.cell HI2.b1 ⟨HI2.hi _ (HI2.kp _ hK1), .inl hK1⟩, hT.cell HI2.b2 ⟨HI2.hi _ (HI2.kp _ hK2), .inl hK2⟩, HI2.ra.grow hT (fun z hz _ => ⟨HI2.hi _ (HI2.kp z hz), .inl hz⟩) (fun _ hz _ => hz), HI2.rb.grow hT (fun z hz _ => ⟨HI2.hi _ (HI2.kp z hz), .inl hz⟩) (fun _ hz _ => hz)⟩,
                      ⟨⟨Nat.lt_of_lt_of_le (HI2.hi _ hX2.s) hzV2, .inl hX2.s⟩, fun j hj => hT.cell (hX2.c j hj) ⟨HI2.hi _ hX2.s, .inr (nS _ (.inl (.inl (.inl (.inr rfl)))))⟩⟩,
                      ⟨⟨Nat.lt_of_lt_of_le (HI2.hi _ hS2.1) hzV2, .inl hS2.1⟩, hS2.2.stay hT ⟨HI2.hi _ hS2.1, .inr (nS _ (.inl (.inl (.inr (.inl rfl)))))⟩⟩, hTb⟩, fun k hk => hk.2, hTd⟩
                    rw [List.map_append, g1, solY_snoc, hok]
                    simp
                  · obtain ⟨hT, hTb, hTd⟩ := fin V j3
                    obtain ⟨s1, s2⟩ := sub S' j2
                    refine ⟨false, rfl, (HPQ.out _ _).2 ⟨(fun h => by cases h), fun _ => ?_⟩⟩
                    refine ⟨fun k => S2 k ∨ Wd.heap.size ≤ k, ⟨rfl, got ++ [⟨x ++ y, g, c⟩], S', j1, ⟨R, ?_⟩, s1, fun k hk => ?_, fun k hk => .inl (HI2.lo k hk), hTb⟩, fun k hk => hk, hTd⟩
                    · rw [List.map_append, g1, ← hR]; simp
                    · by_cases q : k < Wb.heap.size
                      · by_cases q2 : S k
                        · exact .inl q2
                        · exact absurd (.inr ⟨q2, q⟩) (s2 k hk)
                      · exact .inr (by omega)
                gi_wp2_with fail
                gi_cut [44] from 45 (fun s44 V => ∃ r, s44 = .bool (!r) ∧ PP r V)
                case first =>
                  have hla : (a.length : Int) ≤ 5 := by omega
                  have hlb : (b.length : Int) ≤ 5 := by omega
                  have hla0 : (0 : Int) ≤ (a.length : Int) := by omega
                  have hlb0 : (0 : Int) ≤ (b.length : Int) := by omega
                  have HC1 : Hid _ := c15
                  have HC2 : Hid _ := c25
                  have HC3 : Hid _ := cy5
                  clear HI HI2 hX hX2 hY2 hS2 hT2 I4 I0 HJ HJX HJB M1 SL HSX hKl1 hKl2 hKl hpd hpd2 hmem hmem2 hrr hrr2 hW hSb hBb hl14 hr1 hr2 hnl1 hnl2 n1 m1 n4 m4 hav hbv HS hzV CC hlxy g1 g2 g3 J5 HY
                  try clear HPQ
                  try clear hok
                  try clear ha1
                  try clear ha5
                  try clear hb1
                  try clear hb5
                  try clear hta4
                  try clear htb4
                  try clear hW4d
                  try clear hbz5
                  try clear hbd
                  try clear hst5
                  try clear hXlt
                  try clear hBx
                  try clear hKl2
                  try clear hl1
                  try clear hl2
                  try clear HZ0
                  try clear HZ1
                  try clear hz4
                  try clear hbW
                  try clear hB0
                  try clear hB1
                  try clear hbc
                  try clear hBs
                  try clear hB4
                  try clear hlen
                  try clear hlen2
                  refine wpIn_region_any (by kernel_rfl) ?_
                  change wpAnyIn _ _ _ _ _ _ _ _ _ (World.drew _)
                  apply cutm
                  intro s1
                  apply cutm
                  intro s2
                  apply cutm
                  intro s3
                  apply cutm
                  intro s4
                  apply cutm
                  intro s5
                  apply cutm
                  intro s6
                  apply cutm
                  intro s7
                  apply cutm
                  intro s8
                  apply cutm
                  intro s9
                  apply cutm
                  intro s10
                  apply cutm
                  intro s11
                  apply cutm
                  intro s12
                  apply cutm
                  intro s13
                  apply cutm
                  intro s14
                  apply cutm
                  intro s15
                  apply cutm
                  intro s16
                  apply cutm
                  intro s17
                  apply cutm
                  intro s18
                  apply cutm
                  intro s19
                  apply cutm
                  intro s20
                  apply cutm
                  intro s21
                  apply cutm
                  intro s22
                  apply cutm
                  intro s23
                  apply cutm
                  intro s24
                  apply cutm
                  intro s25
                  apply cutm
                  intro s26
                  apply cutm
                  intro s27
                  apply cutm
                  intro s28
                  apply cutm
                  intro s29
                  apply cutm
                  intro s30
                  apply cutm
                  intro s31
                  apply cutm
                  intro s32
                  apply cutm
                  intro s33
                  -- s34
                  refine wpAnyIn_ready (rs := [0, 1, 4]) (by kernel_rfl) (by simp) ?_
                  refine AllReadyIn.cons rfl (fun K hK => ?_) ?_
                  go_simp
                  refine hK _ _ ?_
                  change wpAnyIn _ _ _ _ _ _ _ #[true, false, false, false, false, false, false, false, false, false, false] _ _
                  exact s31.out
                  refine AllReadyIn.cons rfl (fun K hK => ?_) ?_
                  go_simp
                  refine hK _ _ ?_
                  change wpAnyIn _ _ _ _ _ _ _ #[false, true, false, false, false, false, false, false, false, false, false] _ _
                  exact s32.out
                  refine AllReadyIn.cons rfl (fun K hK => ?_) AllReadyIn.nil
                  go_simp
                  refine hK _ _ ?_
                  change wpAnyIn _ _ _ _ _ _ _ #[false, false, false, false, true, false, false, false, false, false, false] _ _
                  exact s33.out
                  -- s33
                  refine wpAnyIn_ready (rs := [0, 1, 5]) (by kernel_rfl) (by simp) ?_
                  refine AllReadyIn.cons rfl (fun K hK => ?_) ?_
                  go_simp
                  refine hK _ _ ?_
                  change wpAnyIn _ _ _ _ _ _ _ #[true, false, false, false, true, false, false, false, false, false, false] _ _
                  exact s27.out
                  refine AllReadyIn.cons rfl (fun K hK => ?_) ?_
                  go_simp
                  refine hK _ _ ?_
                  change wpAnyIn _ _ _ _ _ _ _ #[false, true, false, false, true, false, false, false, false, false, false] _ _
                  exact s29.out
                  refine AllReadyIn.cons rfl (fun K hK => ?_) AllReadyIn.nil
                  go_simp
                  refine hK _ _ ?_
                  change wpAnyIn _ _ _ _ _ _ _ #[false, false, false, false, true, true, false, false, false, false, false] _ _
                  exact s30.out
                  -- s32
                  refine wpAnyIn_ready (rs := [0, 2, 4]) (by kernel_rfl) (by simp) ?_
                  refine AllReadyIn.cons rfl (fun K hK => ?_) ?_
                  go_simp
                  refine hK _ _ ?_
                  change wpAnyIn _ _ _ _ _ _ _ #[true, true, false, false, false, false, false, false, false, false, false] _ _
                  exact s26.out
                  refine AllReadyIn.cons rfl (fun K hK => ?_) ?_
                  go_simp
                  refine hK _ _ ?_
                  change wpAnyIn _ _ _ _ _ _ _ #[false, true, true, false, false, false, false, false, false, false, false] _ _
                  exact s28.out
                  refine AllReadyIn.cons rfl (fun K hK => ?_) AllReadyIn.nil
                  go_simp
                  refine hK _ _ ?_
                  change wpAnyIn _ _ _ _ _ _ _ #[false, true, false, false, true, false, false, false, false, false, false] _ _
                  exact s29.out
                  -- s31
                  refine wpAnyIn_ready (rs := [1, 4]) (by kernel_rfl) (by simp) ?_
                  refine AllReadyIn.cons rfl (fun K hK => ?_) ?_
                  go_simp
                  refine hK _ _ ?_
                  change wpAnyIn _ _ _ _ _ _ _ #[true, true, false, false, false, false, false, false, false, false, false] _ _
                  exact s26.out
                  refine AllReadyIn.cons rfl (fun K hK => ?_) AllReadyIn.nil
                  go_simp
                  refine hK _ _ ?_
                  change wpAnyIn _ _ _ _ _ _ _ #[true, false, false, false, true, false, false, false, false, false, false] _ _
                  exact s27.out
                  -- s30
                  refine wpAnyIn_ready (rs := [0, 1, 6]) (by kernel_rfl) (by simp) ?_
                  refine AllReadyIn.cons rfl (fun K hK => ?_) ?_
                  go_simp
                  refine hK _ _ ?_
                  change wpAnyIn _ _ _ _ _ _ _ #[true, false, false, false, true, true, false, false, false, false, false] _ _
                  exact s21.out
                  refine AllReadyIn.cons rfl (fun K hK => ?_) ?_
                  go_simp
                  refine hK _ _ ?_
                  change wpAnyIn _ _ _ _ _ _ _ #[false, true, false, false, true, true, false, false, false, false, false] _ _
                  exact s24.out
                  refine AllReadyIn.cons rfl (fun K hK => ?_) AllReadyIn.nil
                  go_simp
                  refine hK _ _ ?_
                  change wpAnyIn _ _ _ _ _ _ _ #[false, false, false, false, true, true, true, false, false, false, false] _ _
                  exact s25.out
                  -- s29
                  refine wpAnyIn_ready (rs := [0, 2, 5]) (by kernel_rfl) (by simp) ?_
                  refine AllReadyIn.cons rfl (fun K hK => ?_) ?_
                  go_simp
                  refine hK _ _ ?_
                  change wpAnyIn _ _ _ _ _ _ _ #[true, true, false, false, true, false, false, false, false, false, false] _ _
                  exact s20.out
                  refine AllReadyIn.cons rfl (fun K hK => ?_) ?_
                  go_simp
                  refine hK _ _ ?_
                  change wpAnyIn _ _ _ _ _ _ _ #[false, true, true, false, true, false, false, false, false, false, false] _ _
                  exact s23.out
                  refine AllReadyIn.cons rfl (fun K hK => ?_) AllReadyIn.nil
                  go_simp
                  refine hK _ _ ?_
                  change wpAnyIn _ _ _ _ _ _ _ #[false, true, false, false, true, true, false, false, false, false, false] _ _
                  exact s24.out
                  -- s28
                  refine wpAnyIn_ready (rs := [0, 3, 4]) (by kernel_rfl) (by simp) ?_
                  refine AllReadyIn.cons rfl (fun K hK => ?_) ?_
                  go_simp
                  refine hK _ _ ?_
                  change wpAnyIn _ _ _ _ _ _ _ #[true, true, true, false, false, false, false, false, false, false, false] _ _
                  exact s19.out
                  refine AllReadyIn.cons rfl (fun K hK => ?_) ?_
                  go_simp
                  refine hK _ _ ?_
                  change wpAnyIn _ _ _ _ _ _ _ #[false, true, true, true, false, false, false, false, false, false, false] _ _
                  exact s22.out
                  refine AllReadyIn.cons rfl (fun K hK => ?_) AllReadyIn.nil
                  go_simp
                  refine hK _ _ ?_
                  change wpAnyIn _ _ _ _ _ _ _ #[false, true, true, false, true, false, false, false, false, false, false] _ _
                  exact s23.out
                  -- s27
                  refine wpAnyIn_ready (rs := [1, 5]) (by kernel_rfl) (by simp) ?_
                  refine AllReadyIn.cons rfl (fun K hK => ?_) ?_
                  go_simp
                  refine hK _ _ ?_
                  change wpAnyIn _ _ _ _ _ _ _ #[true, true, false, false, true, false, false, false, false, false, false] _ _
                  exact s20.out
                  refine AllReadyIn.cons rfl (fun K hK => ?_) AllReadyIn.nil
                  go_simp
                  refine hK _ _ ?_
                  change wpAnyIn _ _ _ _ _ _ _ #[true, false, false, false, true, true, false, false, false, false, false] _ _
                  exact s21.out
                  -- s26
                  refine wpAnyIn_ready (rs := [2, 4]) (by kernel_rfl) (by simp) ?_
                  refine AllReadyIn.cons rfl (fun K hK => ?_) ?_
                  go_simp
                  refine hK _ _ ?_
                  change wpAnyIn _ _ _ _ _ _ _ #[true, true, true, false, false, false, false, false, false, false, false] _ _
                  exact s19.out
                  refine AllReadyIn.cons rfl (fun K hK => ?_) AllReadyIn.nil
                  go_simp
                  refine hK _ _ ?_
                  change wpAnyIn _ _ _ _ _ _ _ #[true, true, false, false, true, false, false, false, false, false, false] _ _
                  exact s20.out
                  -- s25
                  refine wpAnyIn_ready (rs := [0, 1]) (by kernel_rfl) (by simp) ?_
                  refine AllReadyIn.cons rfl (fun K hK => ?_) ?_
                  go_simp
                  refine hK _ _ ?_
                  change wpAnyIn _ _ _ _ _ _ _ #[true, false, false, false, true, true, true, false, false, false, false] _ _
                  exact s15.out
                  refine AllReadyIn.cons rfl (fun K hK => ?_) AllReadyIn.nil
                  go_simp
                  refine hK _ _ ?_
                  change wpAnyIn _ _ _ _ _ _ _ #[false, true, false, false, true, true, true, false, false, false, false] _ _
                  exact s18.out
                  -- s24
                  refine wpAnyIn_ready (rs := [0, 2, 6]) (by kernel_rfl) (by simp) ?_
                  refine AllReadyIn.cons rfl (fun K hK => ?_) ?_
                  go_simp
                  refine hK _ _ ?_
                  change wpAnyIn _ _ _ _ _ _ _ #[true, true, false, false, true, true, false, false, false, false, false] _ _
                  exact s14.out
                  refine AllReadyIn.cons rfl (fun K hK => ?_) ?_
                  go_simp
                  refine hK _ _ ?_
                  change wpAnyIn _ _ _ _ _ _ _ #[false, true, true, false, true, true, false, false, false, false, false] _ _
                  exact s17.out
                  refine AllReadyIn.cons rfl (fun K hK => ?_) AllReadyIn.nil
                  go_simp
                  refine hK _ _ ?_
                  change wpAnyIn _ _ _ _ _ _ _ #[false, true, false, false, true, true, true, false, false, false, false] _ _
                  exact s18.out
                  -- s23
                  refine wpAnyIn_ready (rs := [0, 3, 5]) (by kernel_rfl) (by simp) ?_
                  refine AllReadyIn.cons rfl (fun K hK => ?_) ?_
                  go_simp
                  refine hK _ _ ?_
                  change wpAnyIn _ _ _ _ _ _ _ #[true, true, true, false, true, false, false, false, false, false, false] _ _
                  exact s13.out
                  refine AllReadyIn.cons rfl (fun K hK => ?_) ?_
                  go_simp
                  refine hK _ _ ?_
                  change wpAnyIn _ _ _ _ _ _ _ #[false, true, true, true, true, false, false, false, false, false, false] _ _
                  exact s16.out
                  refine AllReadyIn.cons rfl (fun K hK => ?_) AllReadyIn.nil
                  go_simp
                  refine hK _ _ ?_
                  change wpAnyIn _ _ _ _ _ _ _ #[false, true, true, false, true, true, false, false, false, false, false] _ _
                  exact s17.out
                  -- s22
                  refine wpAnyIn_ready (rs := [0, 4]) (by kernel_rfl) (by simp) ?_
                  refine AllReadyIn.cons rfl (fun K hK => ?_) ?_
                  go_simp
                  refine hK _ _ ?_
                  change wpAnyIn _ _ _ _ _ _ _ #[true, true, true, true, false, false, false, false, false, false, false] _ _
                  exact s12.out
                  refine AllReadyIn.cons rfl (fun K hK => ?_) AllReadyIn.nil
                  go_simp
                  refine hK _ _ ?_
                  change wpAnyIn _ _ _ _ _ _ _ #[false, true, true, true, true, false, false, false, false, false, false] _ _
                  exact s16.out
                  -- s21
                  refine wpAnyIn_ready (rs := [1, 6]) (by kernel_rfl) (by simp) ?_
                  refine AllReadyIn.cons rfl (fun K hK => ?_) ?_
                  go_simp
                  refine hK _ _ ?_
                  change wpAnyIn _ _ _ _ _ _ _ #[true, true, false, false, true, true, false, false, false, false, false] _ _
                  exact s14.out
                  refine AllReadyIn.cons rfl (fun K hK => ?_) AllReadyIn.nil
                  go_simp
                  refine hK _ _ ?_
                  change wpAnyIn _ _ _ _ _ _ _ #[true, false, false, false, true, true, true, false, false, false, false] _ _
                  exact s15.out
                  -- s20
                  refine wpAnyIn_ready (rs := [2, 5]) (by kernel_rfl) (by simp) ?_
                  refine AllReadyIn.cons rfl (fun K hK => ?_) ?_
                  go_simp
                  refine hK _ _ ?_
                  change wpAnyIn _ _ _ _ _ _ _ #[true, true, true, false, true, false, false, false, false, false, false] _ _
                  exact s13.out
                  refine AllReadyIn.cons rfl (fun K hK => ?_) AllReadyIn.nil
                  go_simp
                  refine hK _ _ ?_
                  change wpAnyIn _ _ _ _ _ _ _ #[true, true, false, false, true, true, false, false, false, false, false] _ _
                  exact s14.out
                  -- s19
                  refine wpAnyIn_ready (rs := [3, 4]) (by kernel_rfl) (by simp) ?_
                  refine AllReadyIn.cons rfl (fun K hK => ?_) ?_
                  go_simp
                  refine hK _ _ ?_
                  change wpAnyIn _ _ _ _ _ _ _ #[true, true, true, true, false, false, false, false, false, false, false] _ _
                  exact s12.out
                  refine AllReadyIn.cons rfl (fun K hK => ?_) AllReadyIn.nil
                  go_simp
                  refine hK _ _ ?_
                  change wpAnyIn _ _ _ _ _ _ _ #[true, true, true, false, true, false, false, false, false, false, false] _ _
                  exact s13.out
                  -- s18
                  refine wpAnyIn_ready (rs := [0, 2]) (by kernel_rfl) (by simp) ?_
                  refine AllReadyIn.cons rfl (fun K hK => ?_) ?_
                  go_simp
                  refine hK _ _ ?_
                  change wpAnyIn _ _ _ _ _ _ _ #[true, true, false, false, true, true, true, false, false, false, false] _ _
                  exact s9.out
                  refine AllReadyIn.cons rfl (fun K hK => ?_) AllReadyIn.nil
                  go_simp
                  refine hK _ _ ?_
                  change wpAnyIn _ _ _ _ _ _ _ #[false, true, true, false, true, true, true, false, false, false, false] _ _
                  exact s11.out
                  -- s17
                  refine wpAnyIn_ready (rs := [0, 3, 6]) (by kernel_rfl) (by simp) ?_
                  refine AllReadyIn.cons rfl (fun K hK => ?_) ?_
                  go_simp
                  refine hK _ _ ?_
                  change wpAnyIn _ _ _ _ _ _ _ #[true, true, true, false, true, true, false, false, false, false, false] _ _
                  exact s8.out
                  refine AllReadyIn.cons rfl (fun K hK => ?_) ?_
                  go_simp
                  refine hK _ _ ?_
                  change wpAnyIn _ _ _ _ _ _ _ #[false, true, true, true, true, true, false, false, false, false, false] _ _
                  exact s10.out
                  refine AllReadyIn.cons rfl (fun K hK => ?_) AllReadyIn.nil
                  go_simp
                  refine hK _ _ ?_
                  change wpAnyIn _ _ _ _ _ _ _ #[false, true, true, false, true, true, true, false, false, false, false] _ _
                  exact s11.out
                  -- s16
                  refine wpAnyIn_ready (rs := [0, 5]) (by kernel_rfl) (by simp) ?_
                  refine AllReadyIn.cons rfl (fun K hK => ?_) ?_
                  go_simp
                  refine hK _ _ ?_
                  change wpAnyIn _ _ _ _ _ _ _ #[true, true, true, true, true, false, false, false, false, false, false] _ _
                  exact s7.out
                  refine AllReadyIn.cons rfl (fun K hK => ?_) AllReadyIn.nil
                  go_simp
                  refine hK _ _ ?_
                  change wpAnyIn _ _ _ _ _ _ _ #[false, true, true, true, true, true, false, false, false, false, false] _ _
                  exact s10.out
                  -- s15
                  refine wpAnyIn_ready (rs := [1]) (by kernel_rfl) (by simp) ?_
                  refine AllReadyIn.cons rfl (fun K hK => ?_) AllReadyIn.nil
                  go_simp
                  refine hK _ _ ?_
                  change wpAnyIn _ _ _ _ _ _ _ #[true, true, false, false, true, true, true, false, false, false, false] _ _
                  exact s9.out
                  -- s14
                  refine wpAnyIn_ready (rs := [2, 6]) (by kernel_rfl) (by simp) ?_
                  refine AllReadyIn.cons rfl (fun K hK => ?_) ?_
                  go_simp
                  refine hK _ _ ?_
                  change wpAnyIn _ _ _ _ _ _ _ #[true, true, true, false, true, true, false, false, false, false, false] _ _
                  exact s8.out
                  refine AllReadyIn.cons rfl (fun K hK => ?_) AllReadyIn.nil
                  go_simp
                  refine hK _ _ ?_
                  change wpAnyIn _ _ _ _ _ _ _ #[true, true, false, false, true, true, true, false, false, false, false] _ _
                  exact s9.out
                  -- s13
                  refine wpAnyIn_ready (rs := [3, 5]) (by kernel_rfl) (by simp) ?_
                  refine AllReadyIn.cons rfl (fun K hK => ?_) ?_
                  go_simp
                  refine hK _ _ ?_
                  change wpAnyIn _ _ _ _ _ _ _ #[true, true, true, true, true, false, false, false, false, false, false] _ _
                  exact s7.out
                  refine AllReadyIn.cons rfl (fun K hK => ?_) AllReadyIn.nil
                  go_simp
                  refine hK _ _ ?_
                  change wpAnyIn _ _ _ _ _ _ _ #[true, true, true, false, true, true, false, false, false, false, false] _ _
                  exact s8.out
                  -- s12
                  refine wpAnyIn_ready (rs := [4]) (by kernel_rfl) (by simp) ?_
                  refine AllReadyIn.cons rfl (fun K hK => ?_) AllReadyIn.nil
                  go_simp
                  refine hK _ _ ?_
                  change wpAnyIn _ _ _ _ _ _ _ #[true, true, true, true, true, false, false, false, false, false, false] _ _
                  exact s7.out
                  -- s11
                  refine wpAnyIn_ready (rs := [0, 3]) (by kernel_rfl) (by simp) ?_
                  refine AllReadyIn.cons rfl (fun K hK => ?_) ?_
                  go_simp
                  refine hK _ _ ?_
                  change wpAnyIn _ _ _ _ _ _ _ #[true, true, true, false, true, true, true, false, false, false, false] _ _
                  exact s5.out
                  refine AllReadyIn.cons rfl (fun K hK => ?_) AllReadyIn.nil
                  go_simp
                  refine hK _ _ ?_
                  change wpAnyIn _ _ _ _ _ _ _ #[false, true, true, true, true, true, true, false, false, false, false] _ _
                  exact s6.out
                  -- s10
                  refine wpAnyIn_ready (rs := [0, 6]) (by kernel_rfl) (by simp) ?_
                  refine AllReadyIn.cons rfl (fun K hK => ?_) ?_
                  go_simp
                  refine hK _ _ ?_
                  change wpAnyIn _ _ _ _ _ _ _ #[true, true, true, true, true, true, false, false, false, false, false] _ _
                  exact s4.out
                  refine AllReadyIn.cons rfl (fun K hK => ?_) AllReadyIn.nil
                  go_simp
                  refine hK _ _ ?_
                  change wpAnyIn _ _ _ _ _ _ _ #[false, true, true, true, true, true, true, false, false, false, false] _ _
                  exact s6.out
                  -- s9
                  refine wpAnyIn_ready (rs := [2]) (by kernel_rfl) (by simp) ?_
                  refine AllReadyIn.cons rfl (fun K hK => ?_) AllReadyIn.nil
                  go_simp
                  refine hK _ _ ?_
                  change wpAnyIn _ _ _ _ _ _ _ #[true, true, true, false, true, true, true, false, false, false, false] _ _
                  exact s5.out
                  -- s8
                  refine wpAnyIn_ready (rs := [3, 6]) (by kernel_rfl) (by simp) ?_
                  refine AllReadyIn.cons rfl (fun K hK => ?_) ?_
                  go_simp
                  refine hK _ _ ?_
                  change wpAnyIn _ _ _ _ _ _ _ #[true, true, true, true, true, true, false, false, false, false, false] _ _
                  exact s4.out
                  refine AllReadyIn.cons rfl (fun K hK => ?_) AllReadyIn.nil
                  go_simp
                  refine hK _ _ ?_
                  change wpAnyIn _ _ _ _ _ _ _ #[true, true, true, false, true, true, true, false, false, false, false] _ _
                  exact s5.out
                  -- s7
                  refine wpAnyIn_ready (rs := [5]) (by kernel_rfl) (by simp) ?_
                  refine AllReadyIn.cons rfl (fun K hK => ?_) AllReadyIn.nil
                  go_simp
                  refine hK _ _ ?_
                  change wpAnyIn _ _ _ _ _ _ _ #[true, true, true, true, true, true, false, false, false, false, false] _ _
                  exact s4.out
                  -- s6
                  refine wpAnyIn_ready (rs := [0, 7]) (by kernel_rfl) (by simp) ?_
                  refine AllReadyIn.cons rfl (fun K hK => ?_) ?_
                  go_simp
                  refine hK _ _ ?_
                  change wpAnyIn _ _ _ _ _ _ _ #[true, true, true, true, true, true, true, false, false, false, false] _ _
                  exact s3.out
                  refine AllReadyIn.cons rfl (fun K hK => ?_) AllReadyIn.nil
                  go_simp
                  refine hK _ _ ?_
                  change wpAnyIn _ _ _ _ _ _ _ #[false, true, true, true, true, true, true, true, false, false, false] _ _
                  exact s2.out
                  -- s5
                  refine wpAnyIn_ready (rs := [3]) (by kernel_rfl) (by simp) ?_
                  refine AllReadyIn.cons rfl (fun K hK => ?_) AllReadyIn.nil
                  go_simp
                  refine hK _ _ ?_
                  change wpAnyIn _ _ _ _ _ _ _ #[true, true, true, true, true, true, true, false, false, false, false] _ _
                  exact s3.out
                  -- s4
                  refine wpAnyIn_ready (rs := [6]) (by kernel_rfl) (by simp) ?_
                  refine AllReadyIn.cons rfl (fun K hK => ?_) AllReadyIn.nil
                  go_simp
                  refine hK _ _ ?_
                  change wpAnyIn _ _ _ _ _ _ _ #[true, true, true, true, true, true, true, false, false, false, false] _ _
                  exact s3.out
                  -- s3
                  refine wpAnyIn_ready (rs := [7]) (by kernel_rfl) (by simp) ?_
                  refine AllReadyIn.cons rfl (fun K hK => ?_) AllReadyIn.nil
                  go_simp
                  refine hK _ _ ?_
                  change wpAnyIn _ _ _ _ _ _ _ #[true, true, true, true, true, true, true, true, false, false, false] _ _
                  exact s1.out
                  -- s2
                  refine wpAnyIn_ready (rs := [0, 8]) (by kernel_rfl) (by simp) ?_
                  refine AllReadyIn.cons rfl (fun K hK => ?_) ?_
                  go_simp
                  refine hK _ _ ?_
                  change wpAnyIn _ _ _ _ _ _ _ #[true, true, true, true, true, true, true, true, false, false, false] _ _
                  exact s1.out
                  refine AllReadyIn.cons rfl (fun K hK => ?_) AllReadyIn.nil
                  go_simp
                  gi_wp2_with (refine ⟨trivial, ?_⟩; gi_at_call 71; refine CC0.mono ?_; rintro e w6 ⟨g, c, rfl, ho6, hb6⟩; obtain ⟨fn, tmps, assign, body, hy6, hR⟩ := HYY.out g c w6 ho6 hb6; have c16 := keepC hb6 HC1.out; have c26 := keepC hb6 HC2.out; have cy6 := keepC hb6 HC3.out)
                  refine wpAnyIn_ready (rs := [0]) (by kernel_rfl) (by simp) ?_
                  refine AllReadyIn.cons rfl (fun K hK => ?_) AllReadyIn.nil
                  go_simp
                  refine hK _ _ ?_
                  refine wpAnyIn_ready (rs := [9]) (by kernel_rfl) (by simp) ?_
                  refine AllReadyIn.cons rfl (fun K hK => ?_) AllReadyIn.nil
                  go_simp
                  gi_wp2_with (refine (round_any hR).mono ?_; rintro e V ⟨r, rfl, hp⟩; clear hR hy6)
                  refine wpAnyIn_ready (rs := [10]) (by kernel_rfl) (by simp) ?_
                  refine AllReadyIn.cons rfl (fun K hK => ?_) AllReadyIn.nil
                  go_simp
                  refine hK _ _ ?_
                  refine wpAnyIn_done (by kernel_rfl) ?_ _
                  gi_wp2_with fail
                  gi_meet
                  exact ⟨r, rfl, hp⟩
                  -- s1
                  refine wpAnyIn_ready (rs := [8]) (by kernel_rfl) (by simp) ?_
                  refine AllReadyIn.cons rfl (fun K hK => ?_) AllReadyIn.nil
                  go_simp
                  gi_wp2_with (refine ⟨trivial, ?_⟩; gi_at_call 71; refine CC0.mono ?_; rintro e w6 ⟨g, c, rfl, ho6, hb6⟩; obtain ⟨fn, tmps, assign, body, hy6, hR⟩ := HYY.out g c w6 ho6 hb6; have c16 := keepC hb6 HC1.out; have c26 := keepC hb6 HC2.out; have cy6 := keepC hb6 HC3.out)
                  refine wpAnyIn_ready (rs := [9]) (by kernel_rfl) (by simp) ?_
                  refine AllReadyIn.cons rfl (fun K hK => ?_) AllReadyIn.nil
                  go_simp
                  gi_wp2_with (refine (round_any hR).mono ?_; rintro e V ⟨r, rfl, hp⟩; clear hR hy6)
                  refine wpAnyIn_ready (rs := [10]) (by kernel_rfl) (by simp) ?_
                  refine AllReadyIn.cons rfl (fun K hK => ?_) AllReadyIn.nil
                  go_simp
                  refine hK _ _ ?_
                  refine wpAnyIn_done (by kernel_rfl) ?_ _
                  gi_wp2_with fail
                  gi_meet
                  exact ⟨r, rfl, hp⟩
                case rest =>
                  obtain ⟨r, rfl, HPP⟩ := hcut
                  clear HYY CC0 c15 c25 cy5 b15 b25 y5 CC HV hzV hlxy J5 HS HI HI2 hX hX2 hY2 hS2 hT2 I4 I0 M1 hKl1 hKl2 hKl
                  cases r with
                  | true =>
                    gi_wp2_with fail
                    exact ((HPQ.out _ _).1 HPP).1 rfl
                  | false =>
                    gi_wp2_with fail
                    obtain ⟨S', ⟨_, q1⟩, q2, q3⟩ := ((HPQ.out _ _).1 HPP).2 rfl
                    exact ⟨S', ⟨rfl, q1⟩, q2, q3⟩
          case done2 =>
            rintro xs S2 V hxs ⟨h1, h2, h3, h4⟩
            subst hxs
            gi_wp2_with fail
            have hbV : Below Wb.heap.size Wb V → True := fun _ => trivial
            have h1' := h1
            rw [← HSX.out pre x] at h1'
            refine ⟨fun k => k < V.heap.size ∧ (S k ∨ Wb.heap.size ≤ k), ?_, fun k hk => hk.2, h4.weak (fun k hk h => ⟨h, hk⟩)⟩
            have hlo : ∀ k, k < Wb.heap.size → k < V.heap.size := fun k hk => Nat.lt_of_lt_of_le hk h4.size
            refine h1'.less HJB.out (fun k hk hp => ⟨hk, ?_⟩) (fun k hk => ⟨hlo k (HI.hi k (HI.lo k hk)), .inl (HI.lo k hk)⟩) (fun k hk => hk.1) (fun k hk => ⟨hlo k (HI.hi k (HI.kp k hk)), .inl (HI.kp k hk)⟩) ⟨hlo _ (HI.hi _ HI.sy), .inl HI.sy⟩ (fun k hp q => hp (.inl (.inl (.inl q))))
            by_cases q : k < Wb.heap.size
            · by_cases q2 : S k
              · exact .inl q2
              · exact absurd (.inr ⟨q2, q⟩) hp
            · exact .inr (by omega)
          case stop2 =>
            rintro c pre2 S2 V hpre ⟨rfl, got, Sx, h2, h3, h4, h5, h6, h7⟩
            gi_wp2_with fail
            exact ⟨Sx, ⟨rfl, got, Sx, h2, h3, fun _ h => h⟩, h5, h7.weak (fun k hk h => ⟨h, hk⟩)⟩
    case done =>
      rintro D xs S Wc hxs h hK hD hSD
      subst hxs
      obtain ⟨got, SJ, e1, e2, e3⟩ := h.ex
      gi_wp2
      refine ⟨by simp, .inl ⟨_, _, rfl, run_takeDeferred hK, ?_⟩⟩
      exact ⟨_, results_none rfl _ _ _, ⟨_, rfl⟩, .inl ⟨got, SJ, by rw [e1, SL.out], HJ.out _ _ _ _ e2 (.putObj _ _ (fun h => hSD (e3 _ h).1))⟩⟩
    case stop =>
      rintro D c pre S Wc hpre ⟨rfl, got, Sx, h1, h2, h3⟩ hK hD hSD
      gi_wp2
      refine ⟨by simp, .inl ⟨_, _, rfl, run_takeDeferred hK, ?_⟩⟩
      exact ⟨_, results_none rfl _ _ _, ⟨_, rfl⟩, .inr ⟨got, Sx, h2, HJX.out _ _ _ _ h1 (.putObj _ _ (fun h => hSD (h3 _ h)))⟩⟩
end Go.Proofs.Ythbilahilmmfmaa

/- Whether counts solve, the program's way. Conditions: numbers between -1000 and 1000, 5 on each side at most and one on the first at least. -/
namespace Go.Proofs.Ythbilahilmmfmaa
set_option maxRecDepth 100000
open Go.RowKit

theorem below_stepV {A X Y : World} (h : Below A.heap.size A X) (k : Below X.heap.size X Y) : Below A.heap.size A Y := h.trans (k.mono h.size)
def solvB (a b x : List Int) : Bool := decide (x.length = a.length + b.length) && (x.all (fun v => decide (0 ≤ v)) && decide (dotL a x = dotL b (x.drop a.length)))
theorem rd_dropS {w : World} {b off : Nat} {x : List Int} (n : Nat) (hlt : b < w.heap.size) (hc : ∀ i, i < x.length → w.cell? ⟨b, off + i, none⟩ = some (.int .i64 (x[i]?.getD 0))) : Rd w (some ⟨b, off + n, none⟩) (x.drop n) := by
  refine .inr ⟨b, off + n, rfl, hlt, fun i hi => ?_⟩
  simp at hi
  have := hc (n + i) (by omega)
  rw [show off + n + i = off + (n + i) by omega, this]
  simp
set_option maxHeartbeats 3200000 in
theorem impSolves_any (a0 a1 a2 : Option Addr) (a b x : List Int) (c0 c1 c2 : Nat) (w : World) (hra : Rd w a0 a) (hrb : Rd w a1 b) (hrx : Rd w a2 x) (ha1 : 1 ≤ a.length) (ha5 : a.length ≤ 5) (hb1 : 1 ≤ b.length) (hb5 : b.length ≤ 5) (hxl : x.length ≤ 1048577) (hcx : x.length ≤ c2) (hsa : smallL a) (hsb : smallL b) (hsx : smallL x) :
    Calls Try.prog 14 #[.slice a0 a.length c0, .slice a1 b.length c1, .slice a2 x.length c2] w fun e w' => e = .returned (.bool (solvB a b x)) ∧ Below w.heap.size w w' := by
  have HRA : Hid (Rd w a0 a) := hra
  have HRB : Hid (Rd w a1 b) := hrb
  clear hra hrb
  by_cases hl : x.length = a.length + b.length
  · obtain ⟨bx, off, rfl, hlt, hc⟩ : ∃ b off, a2 = some ⟨b, off, none⟩ ∧ b < w.heap.size ∧ ∀ i, i < x.length → w.cell? ⟨b, off + i, none⟩ = some (.int .i64 (x[i]?.getD 0)) := by
      rcases hrx with h | h
      · rw [h] at hl; simp at hl; omega
      · exact h
    have HRX : Hid (Rd w (some ⟨bx, off, none⟩) x) := .inr ⟨bx, off, rfl, hlt, hc⟩
    have HRD : Hid (Rd w (some ⟨bx, off + a.length, none⟩) (x.drop a.length)) := rd_dropS _ hlt hc
    have HDL : Hid ((x.drop a.length).length = b.length) := by show _ = _; simp; omega
    have hxa : a.length ≤ x.length := by omega
    have hca : ¬ c2 = a.length := by omega
    have hli : ((x.length : Int) != (a.length : Int) + (b.length : Int)) = false := by simp; omega
    have hE : solvB a b x = (x.all (fun v => decide (0 ≤ v)) && decide (dotL a x = dotL b (x.drop a.length))) := by unfold solvB; rw [decide_eq_true hl, Bool.true_and]
    rw [hE]
    clear hE hc hrx hl
    go_enter Try.func14, Try.ntmps14
    go_wp2_with fail
    go_loop [19] (fun i => ∃ k : Nat, k ≤ x.length ∧ i = .int .i64 k ∧ Hid ((x.take k).all (fun v => decide (0 ≤ v)) = true)) (fun i => x.length - (intOf i).toNat)
    case atStart => exact ⟨0, Nat.zero_le _, rfl, rfl⟩
    case round =>
      obtain ⟨k, hk, rfl, HA⟩ := hrel
      by_cases hk' : k < x.length
      · obtain ⟨b', off', e', _, c2'⟩ := Rd.get HRX.out hk'
        cases e'
        have hki : (k : Int) < (x.length : Int) := by omega
        have hki0 : (0 : Int) ≤ (k : Int) := by omega
        have HE : Hid ((x.take (k + 1)).all (fun v => decide (0 ≤ v)) = decide (0 ≤ x[k])) := by show _ = _; rw [take_snoc hk', List.all_append, HA.out]; simp
        have HF : Hid (x[k] < 0 → x.all (fun v => decide (0 ≤ v)) = false) := fun h => List.all_eq_false.2 ⟨x[k], List.getElem_mem hk', by simp; omega⟩
        generalize x[k] = p at c2' HE HF
        by_cases h1 : p < 0
        · have e : Hid (x.all (fun v => decide (0 ≤ v)) = false) := HF.out h1
          clear HF HE
          go_wp2_with fail
          go_ret
          exact ⟨rtB (by rw [e.out]; rfl), Below.refl _ _⟩
        · have e : Hid ((x.take (k + 1)).all (fun v => decide (0 ≤ v)) = true) := HE.out.trans (by simp; omega)
          clear HF HE
          go_wp2_with fail
          go_round
          case rel => exact ⟨k + 1, by omega, by go_num, e⟩
          case measure => simp [intOf]; omega
      · have e0 : x.take k = x := List.take_of_length_le (by omega)
        have HX : Hid (x.all (fun v => decide (0 ≤ v)) = true) := by have := HA.out; rwa [e0] at this
        clear HA e0
        have hki : ¬ (k : Int) < (x.length : Int) := by omega
        have hs0 : ∀ v ∈ x, 0 ≤ v ∧ v ≤ 9223372036854775807 := fun v hv => by
          have h1 := List.all_eq_true.1 HX.out v hv
          have h2 := (hsx v hv).2
          simp at h1
          omega
        have hsd : smallL (x.drop a.length) := fun v hv => hsx v (List.mem_of_mem_drop hv)
        have C1 := fun (W : World) (h : Below w.heap.size w W) => sumOf_any a0 (some ⟨bx, off, none⟩) a x c0 c2 W (HRA.out.below h) (HRX.out.below h) (by omega) hxl (by omega) (fun v hv => by have := hsa v hv; unfold isW; omega) hs0
        have C2 := fun (W : World) (h : Below w.heap.size w W) => sumOf_any a1 (some ⟨bx, off + a.length, none⟩) b (x.drop a.length) c1 (c2 - a.length) W (HRB.out.below h) (HRD.out.below h) (by omega) (by rw [HDL.out]; omega) (by rw [HDL.out]; omega) (fun v hv => by have := hsb v hv; unfold isW; omega) (fun v hv => hs0 v (List.mem_of_mem_drop hv))
        rw [List.length_drop] at C2
        have EQ := fun w => (eq_wide (limb (dotL a x) 0) (limb (dotL a x) 1) (limb (dotL a x) 2) (limb (dotL b (x.drop a.length)) 0) (limb (dotL b (x.drop a.length)) 1) (limb (dotL b (x.drop a.length)) 2) w).trans (by rw [limbs_same (dot_big (by omega) hsa hsx) (dot_big (by rw [HDL.out]; exact Nat.le_refl _) hsb hsd)])
        simp only [wideV] at C1 C2
        have HR : Hid ((x.all (fun v => decide (0 ≤ v)) && decide (dotL a x = dotL b (x.drop a.length))) = decide (dotL a x = dotL b (x.drop a.length))) := by show _ = _; rw [HX.out, Bool.true_and]
        obtain ⟨A, hA⟩ : ∃ A, A = dotL a x := ⟨_, rfl⟩
        obtain ⟨B, hB⟩ : ∃ B, B = dotL b (x.drop a.length) := ⟨_, rfl⟩
        have HR2 : Hid ((x.all (fun v => decide (0 ≤ v)) && decide (dotL a x = dotL b (x.drop a.length))) = decide (A = B)) := by rw [hA, hB]; exact HR
        rw [← hA] at C1 EQ
        rw [← hB] at C2 EQ
        clear HX hs0 hsd HDL HRA HRB HRX HRD hsa hsb hsx HR hA hB
        have hai : (a.length : Int) ≤ (x.length : Int) := by omega
        go_wp2_with fail
        refine wp_region_any (by kernel_rfl) ?_
        refine wpAny_take (i := 0) (v := .slice a0 a.length c0) rfl (by kernel_rfl) (by kernel_rfl) (by kernel_rfl) (fun _ _ _ h => h) (Or.inl ⟨by rfl, fun w => by go_simp⟩) ?_
        refine wpAny_take (i := 1) (v := .slice (some ⟨bx, off, none⟩) x.length c2) rfl (by kernel_rfl) (by kernel_rfl) (by kernel_rfl) (fun _ _ _ h => h) (Or.inl ⟨by rfl, fun w => by go_simp⟩) ?_
        refine wpAny_take (i := 3) (v := .slice a1 b.length c1) rfl (by kernel_rfl) (by kernel_rfl) (by kernel_rfl) (fun _ _ _ h => h) (Or.inl ⟨by rfl, fun w => by go_simp⟩) ?_
        refine wpAny_take (i := 4) (v := .slice (some ⟨bx, off, none⟩) x.length c2) rfl (by kernel_rfl) (by kernel_rfl) (by kernel_rfl) (fun _ _ _ h => h) (Or.inl ⟨by rfl, fun w => by go_simp⟩) ?_
        refine wpAny_take (i := 5) (v := .slice a0 a.length c0) rfl (by kernel_rfl) (by kernel_rfl) (by kernel_rfl) (fun _ _ _ h => h) (Or.inl ⟨by rfl, fun w => by go_simp⟩) ?_
        go_simp
        refine wpAny_take (i := 6) (v := .int .i64 a.length) rfl (by kernel_rfl) (by kernel_rfl) (by kernel_rfl) (fun _ _ _ h => h) (Or.inl ⟨by rfl, fun w => by go_simp⟩) ?_
        go_simp
        refine wpAny_ready (rs := [2, 7]) (by kernel_rfl) (by simp) ?_
        refine AllReady.cons rfl (fun K hK => ?_) (AllReady.cons rfl (fun K hK => ?_) AllReady.nil)
        · go_simp
          go_wp2_with (go_at_call_of 48 a0; refine (C1 _ (by repeat (first | exact Below.refl _ _ | refine Below.drew ?_))).mono ?_; rintro e w1 ⟨rfl, hb0⟩; have hB1 : Below w.heap.size w w1 := below_stepV (by repeat (first | exact Below.refl _ _ | refine Below.drew ?_)) hb0; clear C1 hb0)
          refine wpAny_ready (rs := [7]) (by kernel_rfl) (by simp) ?_
          refine AllReady.cons rfl (fun K hK => ?_) AllReady.nil
          go_simp
          refine hK _ _ ?_
          clear hK K
          go_simp
          refine wpAny_ready (rs := [8]) (by kernel_rfl) (by simp) ?_
          refine AllReady.cons rfl (fun K hK => ?_) AllReady.nil
          go_simp
          go_wp2_with (go_at_call_of 48 a1; refine (C2 _ (by repeat (first | exact hB1 | refine Below.drew ?_))).mono ?_; rintro e w2 ⟨rfl, hb0⟩; have hb2 : Below w.heap.size w w2 := hB1.trans (hb0.mono hB1.size); clear C2 hb0)
          refine wpAny_ready (rs := [9]) (by kernel_rfl) (by simp) ?_
          refine AllReady.cons rfl (fun K hK => ?_) AllReady.nil
          go_simp
          refine hK _ _ ?_
          clear hK K
          go_simp
          refine wpAny_ready (rs := [10]) (by kernel_rfl) (by simp) ?_
          refine AllReady.cons rfl (fun K hK => ?_) AllReady.nil
          go_simp
          refine hK _ _ ?_
          clear hK K
          go_simp
          refine wpAny_done (by kernel_rfl) ?_ _
          go_wp2_with fail
          go_ret
          exact ⟨rtB HR2.out.symm, hb2⟩
        · go_simp
          refine hK _ _ ?_
          clear hK K
          go_simp
          refine wpAny_ready (rs := [2]) (by kernel_rfl) (by simp) ?_
          refine AllReady.cons rfl (fun K hK => ?_) AllReady.nil
          go_simp
          go_wp2_with (go_at_call_of 48 a0; refine (C1 _ (by repeat (first | exact Below.refl _ _ | refine Below.drew ?_))).mono ?_; rintro e w1 ⟨rfl, hb0⟩; have hB1 : Below w.heap.size w w1 := below_stepV (by repeat (first | exact Below.refl _ _ | refine Below.drew ?_)) hb0; clear C1 hb0)
          refine wpAny_ready (rs := [8]) (by kernel_rfl) (by simp) ?_
          refine AllReady.cons rfl (fun K hK => ?_) AllReady.nil
          go_simp
          go_wp2_with (go_at_call_of 48 a1; refine (C2 _ (by repeat (first | exact hB1 | refine Below.drew ?_))).mono ?_; rintro e w2 ⟨rfl, hb0⟩; have hb2 : Below w.heap.size w w2 := hB1.trans (hb0.mono hB1.size); clear C2 hb0)
          refine wpAny_ready (rs := [9]) (by kernel_rfl) (by simp) ?_
          refine AllReady.cons rfl (fun K hK => ?_) AllReady.nil
          go_simp
          refine hK _ _ ?_
          clear hK K
          go_simp
          refine wpAny_ready (rs := [10]) (by kernel_rfl) (by simp) ?_
          refine AllReady.cons rfl (fun K hK => ?_) AllReady.nil
          go_simp
          refine hK _ _ ?_
          clear hK K
          go_simp
          refine wpAny_done (by kernel_rfl) ?_ _
          go_wp2_with fail
          go_ret
          exact ⟨rtB HR2.out.symm, hb2⟩
  · have hli : ((x.length : Int) != (a.length : Int) + (b.length : Int)) = true := by simp; omega
    have hE : Hid (solvB a b x = false) := by show _ = _; unfold solvB; rw [decide_eq_false hl, Bool.false_and]
    clear hrx
    go_enter Try.func14, Try.ntmps14
    go_wp2_with fail
    go_ret
    exact ⟨rtB hE.out.symm, Below.refl _ _⟩
end Go.Proofs.Ythbilahilmmfmaa

