/- What the proof of FnExactOriented stands on, part 11 of 13: each piece says what it proves and under which conditions. Conditions: as each piece says. -/
import Derived.Test.YtollijngiioonaaGreatPackExactOriented10
import Derived.Test.YtollijngiioonaaGreatProg
import Derived.Deep.QuietTactic
import Derived.BigQuiet
import Derived.Sort.QuietIn
/- Contracts of the specification's functions on lists of functions. Conditions: at most 1048577 functions, names of at most 1048576 bytes. -/
namespace Go.Proofs.YtollijngiioonaaGreat
set_option maxRecDepth 100000
open Go.RowKit

set_option maxHeartbeats 800000 in
theorem specSymOf_any (a : Option Addr) (ss : List SymD) (n cap : Nat) (nm : ByteArray) (w : World) (hn : n = ss.length) (hr : RdS w a ss) (hl : ss.length ≤ 1048577) :
    Calls Tryz.prog 140 #[.slice a n cap, .string nm] w fun e w' => e = .returned (.int .i64 (symOf ss nm)) ∧ w' = w := by
  subst hn
  rcases hr with rfl | ⟨b, off, rfl, hlt, hc⟩
  · go_enter Tryz.func140, Tryz.ntmps140
    go_wp2
    refine wp_loop_rounds 1 ?_
    rw [rounds_succ]
    go_wp2
    go_ret
    exact ⟨rfl, rfl⟩
  · go_enter Tryz.func140, Tryz.ntmps140
    go_wp2
    go_loop [5] (fun i => ∃ k : Nat, k ≤ ss.length ∧ i = .int .i64 k ∧ Hid (∀ j, (h : j < ss.length) → j < k → (ss[j].name.toList == nm.toList) = false)) (fun i => ss.length - (intOf i).toNat)
    case atStart => exact ⟨0, Nat.zero_le _, rfl, fun j _ hj => absurd hj (by omega)⟩
    case round =>
      obtain ⟨k, hk, rfl, H0⟩ := hrel
      by_cases hk' : k < ss.length
      · obtain ⟨c0, c1, c2⟩ := hc k hk'
        clear hc
        go_wp2
        · go_ret
          exact ⟨ret_int (symOf_hit hk' (fun j h hj => H0.out j h hj) (by assumption)).symm, rfl⟩
        · have hf : (ss[k].name.toList == nm.toList) = false := by assumption
          go_round
          case rel => exact ⟨k + 1, by omega, by go_num, fun j h hj => by
            by_cases e : j = k
            · subst e; exact hf
            · exact H0.out j h (by omega)⟩
          case measure => simp [intOf]; omega
      · go_wp2
        go_ret
        exact ⟨ret_int (symOf_none fun j hj => H0.out j hj (by omega)).symm, rfl⟩

set_option maxHeartbeats 1600000 in
theorem specNameOk_any (s : ByteArray) (w : World) (hs : s.size ≤ 9223372036854775806) :
    Calls Tryz.prog 139 #[.string s] w fun e w' => e = .returned (.bool (nameOk s)) ∧ w' = w := by
  go_enter Tryz.func139, Tryz.ntmps139
  go_wp2
  go_loop [3] (fun i => ∃ k : Nat, k ≤ s.size ∧ i = .int .i64 k ∧ Hid (chsOk s k = true)) (fun i => s.size - (intOf i).toNat)
  case atStart => exact ⟨0, Nat.zero_le _, rfl, rfl⟩
  case round =>
    obtain ⟨k, hk, rfl, HA⟩ := hrel
    by_cases hk' : k < s.size
    · have HG : Hid (chOk k s[k] = true → chsOk s (k + 1) = true) := fun h => by rw [chsOk, HA.out, dif_pos hk', h]; rfl
      have HB : Hid (chOk k s[k] = false → nameOk s = false) := chs_bad s hk'
      rcases (show ((97 : Int) ≤ (s[k].toNat : Int) ∧ (s[k].toNat : Int) ≤ 122) ∨ (122 : Int) < (s[k].toNat : Int) ∨ ((57 : Int) < (s[k].toNat : Int) ∧ (s[k].toNat : Int) < 97) ∨ ((48 : Int) ≤ (s[k].toNat : Int) ∧ (s[k].toNat : Int) ≤ 57) ∨ (s[k].toNat : Int) < 48 by omega) with ⟨h1, h2⟩ | h1 | ⟨h1, h2⟩ | ⟨h1, h2⟩ | h1
      · have HC : Hid (chsOk s (k + 1) = true) := HG.out (by simp [chOk]; omega)
        go_wp2
        go_round
        case rel => exact ⟨k + 1, by omega, by go_num, HC⟩
        case measure => simp [intOf]; omega
      · have HC : Hid (nameOk s = false) := HB.out (by simp [chOk]; omega)
        have hd1 : decide ((s[k].toNat : Int) ≤ 122) = false := by simp; omega
        have hd2 : decide ((s[k].toNat : Int) ≤ 57) = false := by simp; omega
        by_cases hk0 : (0 : Int) < (k : Int)
        all_goals
          go_wp2
          go_ret
          exact ⟨ret_bool HC.out.symm, rfl⟩
      · have HC : Hid (nameOk s = false) := HB.out (by simp [chOk]; omega)
        have hd2 : decide ((s[k].toNat : Int) ≤ 57) = false := by simp; omega
        by_cases hk0 : (0 : Int) < (k : Int)
        all_goals
          go_wp2
          go_ret
          exact ⟨ret_bool HC.out.symm, rfl⟩
      · by_cases hk0 : (0 : Int) < (k : Int)
        · have HC : Hid (chsOk s (k + 1) = true) := HG.out (by simp [chOk]; omega)
          have hd2 : decide ((s[k].toNat : Int) ≤ 57) = true := by simp; omega
          go_wp2
          go_round
          case rel => exact ⟨k + 1, by omega, by go_num, HC⟩
          case measure => simp [intOf]; omega
        · have HC : Hid (nameOk s = false) := HB.out (by simp [chOk]; omega)
          go_wp2
          go_ret
          exact ⟨ret_bool HC.out.symm, rfl⟩
      · have HC : Hid (nameOk s = false) := HB.out (by simp [chOk]; omega)
        by_cases hk0 : (0 : Int) < (k : Int)
        all_goals
          go_wp2
          go_ret
          exact ⟨ret_bool HC.out.symm, rfl⟩
    · have e : k = s.size := by omega
      have HC : Hid (chsOk s s.size = true) := by rw [← e]; exact HA
      clear e HA
      by_cases h1 : (1 : Int) ≤ (s.size : Int)
      · have HN : Hid (nameOk s = decide ((s.size : Int) ≤ 8)) := name_pos HC.out h1
        go_wp2_with go_in
        go_ret
        exact ⟨ret_bool HN.out.symm, rfl⟩
      · have HN : Hid (nameOk s = false) := name_neg h1
        go_wp2_with go_in
        go_ret
        exact ⟨ret_bool HN.out.symm, rfl⟩

set_option maxHeartbeats 3200000 in
theorem specSigOk_any (a : Option Addr) (ss : List SymD) (n cap : Nat) (w : World) (hn : n = ss.length) (hr : RdS w a ss) (hl : ss.length ≤ 1048577) (hnm : ∀ s ∈ ss, s.name.size ≤ 1048576) :
    Calls Tryz.prog 101 #[.slice a n cap] w fun e w' => e = .returned (.bool (sigOk ss)) ∧ w' = w := by
  subst hn
  have HR : Hid (RdS w a ss) := hr
  rcases hr with rfl | ⟨b, off, rfl, hlt, hc⟩
  · go_enter Tryz.func101, Tryz.ntmps101
    go_wp2
    refine wp_loop_rounds 1 ?_
    rw [rounds_succ]
    go_wp2_with go_in
    go_ret
    exact ⟨rfl, rfl⟩
  · go_enter Tryz.func101, Tryz.ntmps101
    go_wp2
    go_loop [3] (fun i => ∃ k : Nat, k ≤ ss.length ∧ i = .int .i64 k ∧ Hid (goodTo ss k = true)) (fun i => ss.length - (intOf i).toNat)
    case atStart => exact ⟨0, Nat.zero_le _, rfl, rfl⟩
    case round =>
      obtain ⟨k, hk, rfl, HA⟩ := hrel
      by_cases hk' : k < ss.length
      · obtain ⟨c0, c1, c2⟩ := hc k hk'
        have hsz := hnm ss[k] (List.getElem_mem hk')
        have NM := specNameOk_any ss[k].name w (by omega)
        have SO := specSymOf_any (some ⟨b, off, none⟩) ss _ cap ss[k].name w rfl HR.out hl
        have HB : Hid (goodAt ss k ss[k] = false → sigOk ss = false) := sig_bad hk'
        have HG : Hid (goodAt ss k ss[k] = true → goodTo ss (k + 1) = true) := good_next hk' HA.out
        have DG : Hid (goodAt ss k ss[k] = (nameOk ss[k].name && (symOf ss ss[k].name == (k : Int)) && (decide (0 ≤ ss[k].ar) && decide (ss[k].ar ≤ 3)) && (!ss[k].ac || ss[k].ar == 2))) := rfl
        generalize hav : ss[k].ar = av at c1 DG
        generalize hcv : ss[k].ac = cv at c2 DG
        generalize hnv : ss[k].name = nv at c0 NM SO DG
        clear hc hnm hsz hav hcv hnv
        cases hN : nameOk nv with
        | false =>
          rw [hN] at NM DG
          have HC : Hid (sigOk ss = false) := HB.out (by rw [DG.out]; rfl)
          clear HB HG DG SO hN
          go_wp2_with (go_at_call 139; refine NM.mono ?_; rintro e w' ⟨rfl, hw⟩; subst w')
          go_ret
          exact ⟨ret_bool HC.out.symm, rfl⟩
        | true =>
          rw [hN] at NM DG
          clear hN
          generalize symOf ss nv = so at SO DG
          by_cases hS : so = (k : Int)
          · subst hS
            by_cases h3 : 0 ≤ av ∧ av ≤ 3
            · obtain ⟨h31, h32⟩ := h3
              cases cv with
              | false =>
                have HC : Hid (goodTo ss (k + 1) = true) := HG.out (by rw [DG.out]; simp; omega)
                clear HB HG DG
                go_wp2_with (first | (go_at_call 139; refine NM.mono ?_; rintro e w' ⟨rfl, hw⟩; subst w') | (go_at_call 140; refine SO.mono ?_; rintro e w' ⟨rfl, hw⟩; subst w') | (go_at_call 133; go_in))
                go_round
                case rel => exact ⟨k + 1, by omega, by go_num, HC⟩
                case measure => simp [intOf]; omega
              | true =>
                by_cases h2 : av = 2
                · subst h2
                  have HC : Hid (goodTo ss (k + 1) = true) := HG.out (by rw [DG.out]; simp)
                  clear HB HG DG
                  go_wp2_with (first | (go_at_call 139; refine NM.mono ?_; rintro e w' ⟨rfl, hw⟩; subst w') | (go_at_call 140; refine SO.mono ?_; rintro e w' ⟨rfl, hw⟩; subst w') | (go_at_call 133; go_in))
                  go_round
                  case rel => exact ⟨k + 1, by omega, by go_num, HC⟩
                  case measure => simp [intOf]; omega
                · have HC : Hid (sigOk ss = false) := HB.out (by rw [DG.out]; simp [h2])
                  have h2' : (av != 2) = true := by simpa using h2
                  clear HB HG DG h2
                  go_wp2_with (first | (go_at_call 139; refine NM.mono ?_; rintro e w' ⟨rfl, hw⟩; subst w') | (go_at_call 140; refine SO.mono ?_; rintro e w' ⟨rfl, hw⟩; subst w') | (go_at_call 133; go_in))
                  go_ret
                  exact ⟨ret_bool HC.out.symm, rfl⟩
            · have HC : Hid (sigOk ss = false) := HB.out (by rw [DG.out]; simp; omega)
              clear HB HG DG
              rcases (show av < 0 ∨ 3 < av by omega) with h3 | h3
              all_goals
                go_wp2_with (first | (go_at_call 139; refine NM.mono ?_; rintro e w' ⟨rfl, hw⟩; subst w') | (go_at_call 140; refine SO.mono ?_; rintro e w' ⟨rfl, hw⟩; subst w') | (go_at_call 133; go_in))
                go_ret
                exact ⟨ret_bool HC.out.symm, rfl⟩
          · have HC : Hid (sigOk ss = false) := HB.out (by rw [DG.out]; simp [hS])
            have hS' : (so != (k : Int)) = true := by simpa using hS
            clear HB HG DG hS
            go_wp2_with (first | (go_at_call 139; refine NM.mono ?_; rintro e w' ⟨rfl, hw⟩; subst w') | (go_at_call 140; refine SO.mono ?_; rintro e w' ⟨rfl, hw⟩; subst w'))
            go_ret
            exact ⟨ret_bool HC.out.symm, rfl⟩
      · have e : k = ss.length := by omega
        have HC : Hid (goodTo ss ss.length = true) := by rw [← e]; exact HA
        clear e HA hnm
        by_cases h1 : (1 : Int) ≤ (ss.length : Int)
        · by_cases h8 : (ss.length : Int) ≤ 8
          · obtain ⟨c0, c1, c2⟩ := hc 0 (by omega)
            simp only [Nat.zero_mul, Nat.add_zero] at c0 c1 c2
            have hp : (0 : Int) < (ss.length : Int) := by omega
            have HE : Hid (sigOk ss = isTT ss[0]) := sig_end HC.out (by omega) (by omega)
            clear hc
            go_wp2_with (go_at_call 133; go_in)
            · have q3 : ss[0].ac = true := by assumption
              go_ret
              exact ⟨ret_bool (by rw [HE.out, isTT, q3]; simp), rfl⟩
            · have q1 : ss[0].name.toList = [116, 116] := by assumption
              have q2 : ss[0].ar = 0 := by assumption
              have q3 : ¬ ss[0].ac = true := by assumption
              go_ret
              exact ⟨ret_bool (by rw [HE.out, isTT, q1, q2]; simp [q3]), rfl⟩
            · have q2 : ¬ ss[0].ar = 0 := by assumption
              go_ret
              exact ⟨ret_bool (by rw [HE.out, isTT]; simp [q2]), rfl⟩
            · have q1 : ¬ ss[0].name.toList = [116, 116] := by assumption
              go_ret
              exact ⟨ret_bool (by rw [HE.out, isTT]; simp [q1]), rfl⟩
          · have HN : Hid (sigOk ss = false) := by show _ = _; rw [sigOk, decide_eq_false (show ¬ ss.length ≤ 8 by omega)]; simp
            clear hc
            go_wp2_with (go_at_call 133; go_in)
            go_ret
            exact ⟨ret_bool HN.out.symm, rfl⟩
        · have HN : Hid (sigOk ss = false) := by show _ = _; rw [sigOk, decide_eq_false (show ¬ 1 ≤ ss.length by omega)]; simp
          clear hc
          go_wp2_with (go_at_call 133; go_in)
          go_ret
          exact ⟨ret_bool HN.out.symm, rfl⟩
end Go.Proofs.YtollijngiioonaaGreat

/- Whether a term is right, as the specification tells it. Conditions: terms of at most 549755813888 parts, at most 1048577 functions. -/
namespace Go.Proofs.YtollijngiioonaaGreat
set_option maxRecDepth 100000
open Go.RowKit Go.BigFrame

theorem rightT_mk (ss : List SymD) (f v : Int) (ks : List TermD) : rightT ss (.mk f v ks) = if f = -1 then decide (0 ≤ v ∧ v ≤ 99) && ks.isEmpty
    else decide (0 ≤ f ∧ f < ss.length) && v == 0 && (if blindAt ss f then decide (2 ≤ ks.length) else (ks.length : Int) == arityAt ss f) && rightL ss f none ks := by rw [rightT]

theorem l1In_any (x lo hi : Int) (w : World) : Calls Tryz.prog 133 #[.int .i64 x, .int .i64 lo, .int .i64 hi] w fun e w' => e = .returned (.bool (decide (lo ≤ x) && decide (x ≤ hi))) ∧ w' = w := by
  by_cases h : lo ≤ x
  · go_enter Tryz.func133, Tryz.ntmps133
    go_wp2
    go_ret
    exact ⟨rtB (by simp [h]), rfl⟩
  · go_enter Tryz.func133, Tryz.ntmps133
    go_wp2
    go_ret
    exact ⟨rtB (by simp; omega), rfl⟩

set_option maxHeartbeats 3200000 in
theorem l4Right_any (sa : Option Addr) (ss : List SymD) (sc : Nat) (hss : ss.length ≤ 1048577) (N : Nat) : ∀ (t : TermD) (a : Option Addr) (c hi : Nat) (w : World), isW t.f → RdS w sa ss → partsT t ≤ N → N ≤ 549755813888 → RdK w hi a t.kids → hi ≤ w.heap.size →
    Calls Tryz.prog 103 #[.slice sa ss.length sc, .agg #[.int .i64 t.f, .int .i64 t.v, .slice a t.kids.length c]] w fun e w' => e = .returned (.bool (rightT ss t)) ∧ Below w.heap.size w w' := by
  induction N with
  | zero => intro t a c hi w _ _ h; rw [partsT_eq] at h; omega
  | succ N ih =>
    intro t a c hi w hf hs hN hM hr hhi
    obtain ⟨f, v, ks⟩ := t
    simp only [TermD.f, TermD.v, TermD.kids] at hf hr ⊢
    rw [partsT] at hN
    have hlen := partsL_len ks
    have HR : Hid (RdK w hi a ks) := hr
    have HS : Hid (RdS w sa ss) := hs
    have HW0 : Hid _ := rightT_mk ss f v ks
    obtain ⟨W, hW⟩ : ∃ W, W = w.alloc (.cells #[.int .i64 f, .int .i64 v, .slice a ks.length c] 27) := ⟨_, rfl⟩
    have hb0 : Below w.heap.size w W := by rw [hW]; exact (Below.refl w.heap.size w).alloc (Nat.le_refl _) _
    have p0 : W.cell? ⟨w.heap.size, 0, none⟩ = some (.int .i64 f) := by rw [hW]; simp [go_sem]
    have p1 : W.cell? ⟨w.heap.size, 1, none⟩ = some (.int .i64 v) := by rw [hW]; simp [go_sem]
    have p2 : W.cell? ⟨w.heap.size, 2, none⟩ = some (.slice a ks.length c) := by rw [hW]; simp [go_sem]
    have hwl0 : w.heap.size < W.heap.size := by rw [hW]; simp
    have hf0 := hf.1
    have hf1 := hf.2
    clear hf hr
    by_cases hv : f = -1
    · have HW : Hid (rightT ss (.mk f v ks) = (decide (0 ≤ v) && decide (v ≤ 99) && decide (ks.length = 0))) := by
        show _ = _
        rw [HW0.out, if_pos hv]
        cases ks <;> by_cases h1 : 0 ≤ v <;> by_cases h2 : v ≤ 99 <;> simp [h1, h2]
      have hfe : (f == -1) = true := by simp [hv]
      clear HW0 hs hv
      generalize ks.length = m at *
      go_enter Tryz.func103, Tryz.ntmps103
      go_wp2_with go_in
      all_goals
        go_ret
        refine ⟨rtB ?_, by rw [hW] at hb0; exact hb0⟩
        rw [HW.out]
        first
          | (simp; omega)
          | (simp; intros; omega)
          | (by_cases hm : m = 0 <;> simp [*] <;> omega)
          | (by_cases hm : m = 0 <;> simp [*])
    · have hfe : (f == -1) = false := by simp [hv]
      by_cases hin : 0 ≤ f ∧ f < (ss.length : Int)
      · obtain ⟨k, rfl⟩ := Int.eq_ofNat_of_zero_le hin.1
        have hk : k < ss.length := by omega
        have IN := fun w => l1In_any k 0 ((ss.length : Int) - 1) w
        rw [show (decide ((0 : Int) ≤ k) && decide ((k : Int) ≤ (ss.length : Int) - 1)) = true by simp; omega] at IN
        have hki : (k : Int) < (ss.length : Int) := by omega
        have hk0 : (0 : Int) ≤ (k : Int) := by omega
        have hsl : (ss.length : Int) ≤ 1048577 := by omega
        rcases hs with rfl | ⟨b0, o0, rfl, hbl, hcs⟩
        · simp at hk
        · obtain ⟨_, c1, c2⟩ := hcs k hk
          have c2o := c2
          have c1 := keepC hb0 c1
          have c2 := keepC hb0 c2
          have hwr : IntKind.i64.wrap ((ss.length : Int) - 1) = (ss.length : Int) - 1 := by rw [IntKind.wrap_i64]; omega
          have HA : Hid (blindAt ss k = ss[k].ac ∧ arityAt ss k = ss[k].ar) := ⟨blindAt_in hk, arityAt_in hk⟩
          clear hcs hin
          by_cases hv0 : v = 0
          · have hve : (v == 0) = true := by simp [hv0]
            have hvn : (v != 0) = false := by simp [hv0]
            cases hac : ss[k].ac with
            | false =>
              have hnac : (!ss[k].ac) = true := by rw [hac]; rfl
              rw [hac] at HA c2 c2o
              by_cases hea : (ks.length : Int) = ss[k].ar
              · have hne : ((ks.length : Int) == ss[k].ar) = true := by simp [hea]
                have hnn : ((ks.length : Int) != ss[k].ar) = false := by simp [hea]
                have HW : Hid (rightT ss (.mk k v ks) = rightL ss k none ks) := by show _ = _; rw [HW0.out, if_neg hv, HA.out.1, HA.out.2, hve, hne, decide_eq_true (by omega)]; simp
                have cc2 := c2o
                clear HW0 hv hv0 hea
                go_enter Tryz.func103, Tryz.ntmps103
                go_wp2_with fail
                rw [← hW]
                clear hW
                go_quiet ((go_at_call 133; refine Calls.quiet_of_same (IN _)))
                go_wp2_with fail
                go_loopw [5] (fun i wr => ∃ j : Nat, j ≤ ks.length ∧ i = .int .i64 j ∧ Hid (rightL ss k none ks = rightL ss k (if j = 0 then none else ks[j-1]?) (ks.drop j)) ∧ wr.cell? ⟨w.heap.size, 0, none⟩ = some (.int .i64 k) ∧ wr.cell? ⟨w.heap.size, 2, none⟩ = some (.slice a ks.length c) ∧ Below w.heap.size w wr ∧ w.heap.size < wr.heap.size) (fun i _ => ks.length - (intOf i).toNat)
                case atStart => exact ⟨0, Nat.zero_le _, rfl, by show _ = _; simp, p0, p2, below_drewN hb0 _, hwl0⟩
                case round =>
                  obtain ⟨j, hj, rfl, HK, hp0, hp2, hbr, hwl⟩ := hrel
                  clear p0 p1 p2 hb0 hwl0 c1
                  by_cases hj' : j < ks.length
                  · obtain ⟨b, off, a', c', rfl, hlt, d0, d1, d2, hkr⟩ := RdK.kid (HR.out.on (hbr.mono hhi)) hj'
                    have hji : (j : Int) < (ks.length : Int) := by omega
                    have hj0 : (0 : Int) ≤ (j : Int) := by omega
                    have hli : (ks.length : Int) ≤ 549755813888 := by omega
                    have hpg := partsL_get hj'
                    have HD : Hid (ks.drop j = ks[j] :: ks.drop (j + 1)) := List.drop_eq_getElem_cons hj'
                    have g2 : wr.cell? ⟨b0, o0 + k * 3 + 2, none⟩ = some (.bool false) := hbr.cell (p := ⟨b0, o0 + k * 3 + 2, none⟩) hbl |>.trans cc2
                    have IR0 := fun W' (h : Below wr.heap.size wr W') => ih ks[j] a' c' hi W' (RdK.ints HR.out hj').1 (HS.out.below (hbr.trans (h.mono hbr.size))) (by omega) (by omega) (hkr.on (h.mono (Nat.le_trans hhi hbr.size))) (Nat.le_trans hhi (Nat.le_trans hbr.size h.size))
                    cases hrt : rightT ss ks[j] with
                    | false =>
                      have IR : ∀ W', Below wr.heap.size wr W' → Calls Tryz.prog 103 #[.slice (some ⟨b0, o0, none⟩) ss.length sc, .agg #[.int .i64 ks[j].f, .int .i64 ks[j].v, .slice a' ks[j].kids.length c']] W' fun e w' => e = .returned (.bool false) ∧ Below W'.heap.size W' w' := fun W' h => by have := IR0 W' h; rwa [hrt] at this
                      have HF : Hid (rightT ss (.mk k v ks) = false) := by show _ = _; rw [HW.out, HK.out, HD.out, rightL, hrt]; simp
                      clear IR0 HK HD hrt hkr
                      go_wp2_with fail
                      have k0 := cellB hp0
                      have k2 := cellB hp2
                      have k3 := cellB g2
                      have k4 := cellB d0
                      have k5 := cellB d1
                      have k6 := cellB d2
                      refine wp_region_below (by kernel_rfl) (by kernel_rfl) ?_
                      repeat (go_big_quiet_step ((first | (go_at_call 103; refine callsB (IR _ (BW.b _))))))
                      refine wpQuiet_nil ?_
                      intro w2 hw'
                      have hb2 : Below wr.heap.size wr w2 := by obtain ⟨p, rfl⟩ := hw'; exact p.b
                      clear hw'
                      have hB2 : Below w.heap.size w w2 := hbr.trans (hb2.mono hbr.size)
                      have q0 := keepC hb2 hp0
                      have q2 := keepC hb2 hp2
                      clear k0 k2 k3 k4 k5 k6
                      go_wp2_with fail
                      go_ret
                      exact ⟨rtB HF.out.symm, hB2⟩
                    | true =>
                      have IR : ∀ W', Below wr.heap.size wr W' → Calls Tryz.prog 103 #[.slice (some ⟨b0, o0, none⟩) ss.length sc, .agg #[.int .i64 ks[j].f, .int .i64 ks[j].v, .slice a' ks[j].kids.length c']] W' fun e w' => e = .returned (.bool true) ∧ Below W'.heap.size W' w' := fun W' h => by have := IR0 W' h; rwa [hrt] at this
                      have HN : Hid (rightL ss k none ks = rightL ss k (if j + 1 = 0 then none else ks[j + 1 - 1]?) (ks.drop (j + 1))) := by show _ = _; rw [HK.out, HD.out, rightL, hrt, if_neg (by omega : ¬ j + 1 = 0), show j + 1 - 1 = j by omega, List.getElem?_eq_getElem hj']; rw [HA.out.1]; simp
                      clear IR0 HK HD hrt hkr
                      go_wp2_with fail
                      have k0 := cellB hp0
                      have k2 := cellB hp2
                      have k3 := cellB g2
                      have k4 := cellB d0
                      have k5 := cellB d1
                      have k6 := cellB d2
                      refine wp_region_below (by kernel_rfl) (by kernel_rfl) ?_
                      repeat (go_big_quiet_step ((first | (go_at_call 103; refine callsB (IR _ (BW.b _))))))
                      refine wpQuiet_nil ?_
                      intro w2 hw'
                      have hb2 : Below wr.heap.size wr w2 := by obtain ⟨p, rfl⟩ := hw'; exact p.b
                      clear hw'
                      have hB2 : Below w.heap.size w w2 := hbr.trans (hb2.mono hbr.size)
                      have q0 := keepC hb2 hp0
                      have q2 := keepC hb2 hp2
                      clear k0 k2 k3 k4 k5 k6
                      go_wp2_with fail
                      go_roundw
                      case rel => exact ⟨j + 1, by omega, by go_num, HN, q0, q2, hB2, World.block_lt_of_cell? _ _ q0⟩
                      case measure => simp [intOf]; omega
                  · have HE : Hid (rightT ss (.mk k v ks) = true) := by show _ = _; rw [HW.out, HK.out, List.drop_eq_nil_of_le (by omega), rightL]
                    clear HK
                    go_wp2_with fail
                    go_ret
                    exact ⟨rtB HE.out.symm, hbr⟩
              · have hne : ((ks.length : Int) == ss[k].ar) = false := by simp [hea]
                have hnn : ((ks.length : Int) != ss[k].ar) = true := by simp [hea]
                have HW : Hid (rightT ss (.mk k v ks) = false) := by show _ = _; rw [HW0.out, if_neg hv, HA.out.1, HA.out.2, hne]; simp
                clear HW0 hv hv0 HA hea
                go_enter Tryz.func103, Tryz.ntmps103
                go_wp2_with fail
                rw [← hW]
                clear hW
                go_quiet ((go_at_call 133; refine Calls.quiet_of_same (IN _)))
                go_wp2_with fail
                go_ret
                exact ⟨rtB HW.out.symm, below_drewN hb0 _⟩
            | true =>
              have hnac : (!ss[k].ac) = false := by rw [hac]; rfl
              rw [hac] at HA c2 c2o
              by_cases hl2 : ks.length < 2
              · have hl2i : decide ((ks.length : Int) < 2) = true := by simp; omega
                have HW : Hid (rightT ss (.mk k v ks) = false) := by show _ = _; rw [HW0.out, if_neg hv, HA.out.1, if_pos rfl, decide_eq_false (by omega : ¬ 2 ≤ ks.length)]; simp
                clear HW0 hv hv0 HA hl2
                go_enter Tryz.func103, Tryz.ntmps103
                go_wp2_with fail
                rw [← hW]
                clear hW
                go_quiet ((go_at_call 133; refine Calls.quiet_of_same (IN _)))
                go_wp2_with fail
                go_ret
                exact ⟨rtB HW.out.symm, below_drewN hb0 _⟩
              · have hl2i : decide ((ks.length : Int) < 2) = false := by simp; omega
                have HW : Hid (rightT ss (.mk k v ks) = rightL ss k none ks) := by show _ = _; rw [HW0.out, if_neg hv, HA.out.1, if_pos rfl, hve, decide_eq_true (by omega : 2 ≤ ks.length), decide_eq_true (by omega)]; simp
                have cc2 := c2o
                clear HW0 hv hv0 hl2
                go_enter Tryz.func103, Tryz.ntmps103
                go_wp2_with fail
                rw [← hW]
                clear hW
                go_quiet ((go_at_call 133; refine Calls.quiet_of_same (IN _)))
                go_wp2_with fail
                go_loopw [5] (fun i wr => ∃ j : Nat, j ≤ ks.length ∧ i = .int .i64 j ∧ Hid (rightL ss k none ks = rightL ss k (if j = 0 then none else ks[j-1]?) (ks.drop j)) ∧ wr.cell? ⟨w.heap.size, 0, none⟩ = some (.int .i64 k) ∧ wr.cell? ⟨w.heap.size, 2, none⟩ = some (.slice a ks.length c) ∧ Below w.heap.size w wr ∧ w.heap.size < wr.heap.size) (fun i _ => ks.length - (intOf i).toNat)
                case atStart => exact ⟨0, Nat.zero_le _, rfl, by show _ = _; simp, p0, p2, below_drewN hb0 _, hwl0⟩
                case round =>
                  obtain ⟨j, hj, rfl, HK, hp0, hp2, hbr, hwl⟩ := hrel
                  clear p0 p1 p2 hb0 hwl0 c1
                  by_cases hj' : j < ks.length
                  · obtain ⟨b, off, a', c', rfl, hlt, d0, d1, d2, hkr⟩ := RdK.kid (HR.out.on (hbr.mono hhi)) hj'
                    have hji : (j : Int) < (ks.length : Int) := by omega
                    have hj0 : (0 : Int) ≤ (j : Int) := by omega
                    have hli : (ks.length : Int) ≤ 549755813888 := by omega
                    have hpg := partsL_get hj'
                    have HD : Hid (ks.drop j = ks[j] :: ks.drop (j + 1)) := List.drop_eq_getElem_cons hj'
                    have g2 : wr.cell? ⟨b0, o0 + k * 3 + 2, none⟩ = some (.bool true) := hbr.cell (p := ⟨b0, o0 + k * 3 + 2, none⟩) hbl |>.trans cc2
                    have IR0 := fun W' (h : Below wr.heap.size wr W') => ih ks[j] a' c' hi W' (RdK.ints HR.out hj').1 (HS.out.below (hbr.trans (h.mono hbr.size))) (by omega) (by omega) (hkr.on (h.mono (Nat.le_trans hhi hbr.size))) (Nat.le_trans hhi (Nat.le_trans hbr.size h.size))
                    by_cases hkf : ks[j].f = k
                    · have hkfe : (ks[j].f == (k : Int)) = true := by simp [hkf]
                      have HF : Hid (rightT ss (.mk k v ks) = false) := by show _ = _; rw [HW.out, HK.out, HD.out, rightL, HA.out.1, hkfe]; simp
                      clear IR0 HK HD hkr hkf
                      go_wp2_with fail
                      go_quiet ((fail))
                      go_wp2_with fail
                      go_ret
                      exact ⟨rtB HF.out.symm, below_drewN hbr _⟩
                    · have hkfe : (ks[j].f == (k : Int)) = false := by simp [hkf]
                      by_cases hjz : j = 0
                      · have hjn : decide ((0 : Int) < (j : Int)) = false := by simp; omega
                        have hjn2 : decide (0 < j) = false := by simp; omega
                        have HJ : Hid ((if j = 0 then (none : Option TermD) else ks[j-1]?) = none) := by show _ = _; rw [if_pos hjz]
                        clear hjz hkf
                        cases hrt : rightT ss ks[j] with
                        | false =>
                          have IR : ∀ W', Below wr.heap.size wr W' → Calls Tryz.prog 103 #[.slice (some ⟨b0, o0, none⟩) ss.length sc, .agg #[.int .i64 ks[j].f, .int .i64 ks[j].v, .slice a' ks[j].kids.length c']] W' fun e w' => e = .returned (.bool false) ∧ Below W'.heap.size W' w' := fun W' h => by have := IR0 W' h; rwa [hrt] at this
                          have HF : Hid (rightT ss (.mk k v ks) = false) := by show _ = _; rw [HW.out, HK.out, HD.out, rightL, hrt]; simp
                          clear IR0 HK HD hrt hkr
                          go_wp2_with fail
                          have k0 := cellB hp0
                          have k2 := cellB hp2
                          have k3 := cellB g2
                          have k4 := cellB d0
                          have k5 := cellB d1
                          have k6 := cellB d2
                          refine wp_region_below (by kernel_rfl) (by kernel_rfl) ?_
                          repeat (go_big_quiet_step ((first | (go_at_call 103; refine callsB (IR _ (BW.b _))))))
                          refine wpQuiet_nil ?_
                          intro w2 hw'
                          have hb2 : Below wr.heap.size wr w2 := by obtain ⟨p, rfl⟩ := hw'; exact p.b
                          clear hw'
                          have hB2 : Below w.heap.size w w2 := hbr.trans (hb2.mono hbr.size)
                          have q0 := keepC hb2 hp0
                          have q2 := keepC hb2 hp2
                          clear k0 k2 k3 k4 k5 k6
                          go_wp2_with fail
                          go_ret
                          exact ⟨rtB HF.out.symm, hB2⟩
                        | true =>
                          have IR : ∀ W', Below wr.heap.size wr W' → Calls Tryz.prog 103 #[.slice (some ⟨b0, o0, none⟩) ss.length sc, .agg #[.int .i64 ks[j].f, .int .i64 ks[j].v, .slice a' ks[j].kids.length c']] W' fun e w' => e = .returned (.bool true) ∧ Below W'.heap.size W' w' := fun W' h => by have := IR0 W' h; rwa [hrt] at this
                          have HN : Hid (rightL ss k none ks = rightL ss k (if j + 1 = 0 then none else ks[j + 1 - 1]?) (ks.drop (j + 1))) := by show _ = _; rw [HK.out, HD.out, rightL, hrt, if_neg (by omega : ¬ j + 1 = 0), show j + 1 - 1 = j by omega, List.getElem?_eq_getElem hj']; rw [HJ.out, HA.out.1, hkfe]; simp [befO]
                          clear IR0 HK HD hrt hkr
                          go_wp2_with fail
                          have k0 := cellB hp0
                          have k2 := cellB hp2
                          have k3 := cellB g2
                          have k4 := cellB d0
                          have k5 := cellB d1
                          have k6 := cellB d2
                          refine wp_region_below (by kernel_rfl) (by kernel_rfl) ?_
                          repeat (go_big_quiet_step ((first | (go_at_call 103; refine callsB (IR _ (BW.b _))))))
                          refine wpQuiet_nil ?_
                          intro w2 hw'
                          have hb2 : Below wr.heap.size wr w2 := by obtain ⟨p, rfl⟩ := hw'; exact p.b
                          clear hw'
                          have hB2 : Below w.heap.size w w2 := hbr.trans (hb2.mono hbr.size)
                          have q0 := keepC hb2 hp0
                          have q2 := keepC hb2 hp2
                          clear k0 k2 k3 k4 k5 k6
                          go_wp2_with fail
                          go_roundw
                          case rel => exact ⟨j + 1, by omega, by go_num, HN, q0, q2, hB2, World.block_lt_of_cell? _ _ q0⟩
                          case measure => simp [intOf]; omega
                      · obtain ⟨i, rfl⟩ : ∃ i, j = i + 1 := ⟨j - 1, by omega⟩
                        have hi' : i < ks.length := by omega
                        obtain ⟨b9, off9, a9, c9, e9, hlt9, y0, y1, y2, hkr9⟩ := RdK.kid (HR.out.on (hbr.mono hhi)) hi'
                        cases e9
                        have hjn : (0 : Int) < ((i + 1 : Nat) : Int) := by omega
                        have hi0 : (0 : Int) ≤ (i : Int) := by omega
                        have hi1 : (i : Int) < (ks.length : Int) := by omega
                        have hsub : IntKind.i64.wrap (((i + 1 : Nat) : Int) - 1) = (i : Int) := by rw [IntKind.wrap_i64]; omega
                        have hsub2 : IntKind.i64.wrap ((i : Int) + 1 - 1) = (i : Int) := by rw [IntKind.wrap_i64]; omega
                        have hsub3 : IntKind.i64.wrap (i : Int) = (i : Int) := by rw [IntKind.wrap_i64]; omega
                        have HJ : Hid ((if i + 1 = 0 then (none : Option TermD) else ks[i + 1 - 1]?) = some ks[i]) := by show _ = _; rw [if_neg hjz, show i + 1 - 1 = i by omega, List.getElem?_eq_getElem hi']
                        have CB0 := fun W' (h : Below wr.heap.size wr W') => specBefore_any (partsT ks[i + 1]) ks[i + 1] ks[i] a' a9 c' c9 hi W' (Nat.le_refl _) (by omega) (hkr.on (h.mono (Nat.le_trans hhi hbr.size))) (hkr9.on (h.mono (Nat.le_trans hhi hbr.size))) (Nat.le_trans hhi (Nat.le_trans hbr.size h.size))
                        clear hjz hkf
                        cases hbf : befT ks[i + 1] ks[i] with
                        | true =>
                          have CB : ∀ W', Below wr.heap.size wr W' → Calls Tryz.prog 61 #[.agg #[.int .i64 ks[i + 1].f, .int .i64 ks[i + 1].v, .slice a' ks[i + 1].kids.length c'], .agg #[.int .i64 ks[i].f, .int .i64 ks[i].v, .slice a9 ks[i].kids.length c9]] W' fun e w' => e = .returned (.bool true) ∧ Below W'.heap.size W' w' := fun W' h => by have := CB0 W' h; rwa [hbf] at this
                          have HF : Hid (rightT ss (.mk k v ks) = false) := by show _ = _; rw [HW.out, HK.out, HD.out, rightL, HJ.out, HA.out.1, befO, hbf]; simp
                          clear IR0 CB0 HK HD hkr hkr9 hbf
                          go_wp2_with fail
                          have k0 := cellB hp0
                          have k2 := cellB hp2
                          have k3 := cellB g2
                          have k4 := cellB d0
                          have k5 := cellB d1
                          have k6 := cellB d2
                          have k7 := cellB y0
                          have k8 := cellB y1
                          have k9 := cellB y2
                          refine wp_region_below (by kernel_rfl) (by kernel_rfl) ?_
                          repeat (go_big_quiet_step ((go_at_call 61; refine callsB (CB _ (BW.b _)))))
                          refine wpQuiet_nil ?_
                          intro w2 hw'
                          have hb2 : Below wr.heap.size wr w2 := by obtain ⟨p, rfl⟩ := hw'; exact p.b
                          clear hw'
                          have hB2 : Below w.heap.size w w2 := hbr.trans (hb2.mono hbr.size)
                          clear k0 k2 k3 k4 k5 k6 k7 k8 k9
                          go_wp2_with fail
                          go_ret
                          exact ⟨rtB HF.out.symm, hB2⟩
                        | false =>
                          have CB : ∀ W', Below wr.heap.size wr W' → Calls Tryz.prog 61 #[.agg #[.int .i64 ks[i + 1].f, .int .i64 ks[i + 1].v, .slice a' ks[i + 1].kids.length c'], .agg #[.int .i64 ks[i].f, .int .i64 ks[i].v, .slice a9 ks[i].kids.length c9]] W' fun e w' => e = .returned (.bool false) ∧ Below W'.heap.size W' w' := fun W' h => by have := CB0 W' h; rwa [hbf] at this
                          clear CB0 hkr9
                          cases hrt : rightT ss ks[i + 1] with
                          | false =>
                            have IR : ∀ W', Below wr.heap.size wr W' → Calls Tryz.prog 103 #[.slice (some ⟨b0, o0, none⟩) ss.length sc, .agg #[.int .i64 ks[i + 1].f, .int .i64 ks[i + 1].v, .slice a' ks[i + 1].kids.length c']] W' fun e w' => e = .returned (.bool false) ∧ Below W'.heap.size W' w' := fun W' h => by have := IR0 W' h; rwa [hrt] at this
                            have HF : Hid (rightT ss (.mk k v ks) = false) := by show _ = _; rw [HW.out, HK.out, HD.out, rightL, hrt]; simp
                            clear IR0 HK HD hrt hkr hbf
                            go_wp2_with fail
                            have k0 := cellB hp0
                            have k2 := cellB hp2
                            have k3 := cellB g2
                            have k4 := cellB d0
                            have k5 := cellB d1
                            have k6 := cellB d2
                            have k7 := cellB y0
                            have k8 := cellB y1
                            have k9 := cellB y2
                            refine wp_region_below (by kernel_rfl) (by kernel_rfl) ?_
                            repeat (go_big_quiet_step ((first | (go_at_call 103; refine callsB (IR _ (BW.b _))) | (go_at_call 61; refine callsB (CB _ (BW.b _))))))
                            refine wpQuiet_nil ?_
                            intro w2 hw'
                            have hb2 : Below wr.heap.size wr w2 := by obtain ⟨p, rfl⟩ := hw'; exact p.b
                            clear hw'
                            have hB2 : Below w.heap.size w w2 := hbr.trans (hb2.mono hbr.size)
                            have q0 := keepC hb2 hp0
                            have q2 := keepC hb2 hp2
                            clear k0 k2 k3 k4 k5 k6
                            go_wp2_with fail
                            go_ret
                            exact ⟨rtB HF.out.symm, hB2⟩
                          | true =>
                            have IR : ∀ W', Below wr.heap.size wr W' → Calls Tryz.prog 103 #[.slice (some ⟨b0, o0, none⟩) ss.length sc, .agg #[.int .i64 ks[i + 1].f, .int .i64 ks[i + 1].v, .slice a' ks[i + 1].kids.length c']] W' fun e w' => e = .returned (.bool true) ∧ Below W'.heap.size W' w' := fun W' h => by have := IR0 W' h; rwa [hrt] at this
                            have HN : Hid (rightL ss k none ks = rightL ss k (if i + 1 + 1 = 0 then none else ks[i + 1 + 1 - 1]?) (ks.drop (i + 1 + 1))) := by show _ = _; rw [HK.out, HD.out, rightL, hrt, if_neg (by omega : ¬ i + 1 + 1 = 0), show i + 1 + 1 - 1 = i + 1 by omega, List.getElem?_eq_getElem hj']; rw [HJ.out, HA.out.1, hkfe, befO, hbf]; simp
                            clear IR0 HK HD hrt hkr hbf
                            go_wp2_with fail
                            have k0 := cellB hp0
                            have k2 := cellB hp2
                            have k3 := cellB g2
                            have k4 := cellB d0
                            have k5 := cellB d1
                            have k6 := cellB d2
                            have k7 := cellB y0
                            have k8 := cellB y1
                            have k9 := cellB y2
                            refine wp_region_below (by kernel_rfl) (by kernel_rfl) ?_
                            repeat (go_big_quiet_step ((first | (go_at_call 103; refine callsB (IR _ (BW.b _))) | (go_at_call 61; refine callsB (CB _ (BW.b _))))))
                            refine wpQuiet_nil ?_
                            intro w2 hw'
                            have hb2 : Below wr.heap.size wr w2 := by obtain ⟨p, rfl⟩ := hw'; exact p.b
                            clear hw'
                            have hB2 : Below w.heap.size w w2 := hbr.trans (hb2.mono hbr.size)
                            have q0 := keepC hb2 hp0
                            have q2 := keepC hb2 hp2
                            clear k0 k2 k3 k4 k5 k6
                            go_wp2_with fail
                            go_roundw
                            case rel => exact ⟨i + 1 + 1, by omega, by go_num, HN, q0, q2, hB2, World.block_lt_of_cell? _ _ q0⟩
                            case measure => simp [intOf]; omega
                  · have HE : Hid (rightT ss (.mk k v ks) = true) := by show _ = _; rw [HW.out, HK.out, List.drop_eq_nil_of_le (by omega), rightL]
                    clear HK
                    go_wp2_with fail
                    go_ret
                    exact ⟨rtB HE.out.symm, hbr⟩
          · have hve : (v == 0) = false := by simp [hv0]
            have hvn : (v != 0) = true := by simp [hv0]
            have HW : Hid (rightT ss (.mk k v ks) = false) := by show _ = _; rw [HW0.out, if_neg hv, hve]; simp
            clear HW0 hv hv0 HA
            go_enter Tryz.func103, Tryz.ntmps103
            go_wp2_with fail
            rw [← hW]
            clear hW
            go_quiet ((go_at_call 133; refine Calls.quiet_of_same (IN _)))
            go_wp2_with fail
            go_ret
            exact ⟨rtB HW.out.symm, below_drewN hb0 _⟩
      · have HW : Hid (rightT ss (.mk f v ks) = false) := by show _ = _; rw [HW0.out, if_neg hv, decide_eq_false hin]; simp
        have IN := fun w => l1In_any f 0 ((ss.length : Int) - 1) w
        rw [show (decide ((0 : Int) ≤ f) && decide (f ≤ (ss.length : Int) - 1)) = false by simp; omega] at IN
        have hsl : (ss.length : Int) ≤ 1048577 := by omega
        clear HW0 hv hs hin
        go_enter Tryz.func103, Tryz.ntmps103
        go_wp2_with fail
        rw [← hW]
        clear hW
        have hwr : IntKind.i64.wrap ((ss.length : Int) - 1) = (ss.length : Int) - 1 := by rw [IntKind.wrap_i64]; omega
        go_quiet ((go_at_call 133; refine Calls.quiet_of_same (IN _)))
        go_wp2_with fail
        go_ret
        exact ⟨rtB HW.out.symm, below_drewN hb0 _⟩
end Go.Proofs.YtollijngiioonaaGreat

/- Whether a term is right, its size too, as the specification tells it. Conditions: terms of at most 549755813888 parts, at most 1048577 functions. -/
namespace Go.Proofs.YtollijngiioonaaGreat
set_option maxRecDepth 100000
open Go.RowKit

set_option maxHeartbeats 3200000 in
theorem specTermOk_any (sa : Option Addr) (ss : List SymD) (sc : Nat) (hss : ss.length ≤ 1048577) (hnm : ∀ s ∈ ss, s.name.size ≤ 1048576) (t : TermD) (a : Option Addr) (c hi : Nat) (w : World) (hf : isW t.f) (hs : RdS w sa ss) (hp : partsT t ≤ 549755813888) (hr : RdK w hi a t.kids) (hhi : hi ≤ w.heap.size) :
    Calls Tryz.prog 56 #[.slice sa ss.length sc, .agg #[.int .i64 t.f, .int .i64 t.v, .slice a t.kids.length c]] w fun e w' => e = .returned (.bool (sigOk ss && decide (partsT t ≤ 60) && rightT ss t)) ∧ Below w.heap.size w w' := by
  obtain ⟨W, hW⟩ : ∃ W, W = w.alloc (.cells #[.int .i64 t.f, .int .i64 t.v, .slice a t.kids.length c] 27) := ⟨_, rfl⟩
  have hB : Below w.heap.size w W := by rw [hW]; exact (Below.refl _ _).alloc (Nat.le_refl _) _
  have p0 : W.cell? ⟨w.heap.size, 0, none⟩ = some (.int .i64 t.f) := by rw [hW]; simp [go_sem]
  have p1 : W.cell? ⟨w.heap.size, 1, none⟩ = some (.int .i64 t.v) := by rw [hW]; simp [go_sem]
  have p2 : W.cell? ⟨w.heap.size, 2, none⟩ = some (.slice a t.kids.length c) := by rw [hW]; simp [go_sem]
  have CS := fun W' (h : Below W.heap.size W W') => specSigOk_any sa ss ss.length sc W' rfl ((hs.below hB).below h) hss hnm
  have CP := fun W' (h : Below W.heap.size W W') => specParts_any (partsT t) t a c hi W' (Nat.le_refl _) hp (hr.on ((hB.trans (h.mono hB.size)).mono hhi)) (Nat.le_trans hhi (Nat.le_trans hB.size h.size))
  have CR := fun W' (h : Below W.heap.size W W') => l4Right_any sa ss sc hss (partsT t) t a c hi W' hf ((hs.below hB).below h) (Nat.le_refl _) hp (hr.on ((hB.trans (h.mono hB.size)).mono hhi)) (Nat.le_trans hhi (Nat.le_trans hB.size h.size))
  clear hs hr hf
  cases hsg : sigOk ss with
  | false =>
    simp only [hsg] at CS
    clear CP CR
    go_enter Tryz.func56, Tryz.ntmps56
    go_wp2_with (go_at_call 101; rw [← hW]; refine (CS _ (Below.refl _ _)).mono ?_; rintro e w1 ⟨rfl, hw⟩; subst w1; clear hW)
    go_ret
    exact ⟨rtB (by simp), hB⟩
  | true =>
    simp only [hsg] at CS
    by_cases h60 : partsT t ≤ 60
    · have h60i : ((partsT t : Nat) : Int) ≤ 60 := by omega
      rw [decide_eq_true h60]
      go_enter Tryz.func56, Tryz.ntmps56
      go_wp2_with (first
        | (go_at_call 101; rw [← hW]; refine (CS _ (Below.refl _ _)).mono ?_; rintro e w1 ⟨rfl, hw⟩; subst w1; clear hW)
        | (go_at_call 102; refine (CP _ (Below.refl _ _)).mono ?_; rintro e w2 ⟨rfl, hb2⟩; have q0 := keepC hb2 p0; have q1 := keepC hb2 p1; have q2 := keepC hb2 p2; have hB2 : Below w.heap.size w w2 := hB.trans (hb2.mono hB.size); clear p0 p1 p2)
        | (go_at_call 103; refine (CR _ hb2).mono ?_; rintro e w3 ⟨rfl, hb3⟩; have hB3 : Below w.heap.size w w3 := hB2.trans (hb3.mono hB2.size)))
      go_ret
      exact ⟨rtB (by simp), hB3⟩
    · have h60i : ¬ ((partsT t : Nat) : Int) ≤ 60 := by omega
      rw [decide_eq_false h60]
      clear CR
      go_enter Tryz.func56, Tryz.ntmps56
      go_wp2_with (first
        | (go_at_call 101; rw [← hW]; refine (CS _ (Below.refl _ _)).mono ?_; rintro e w1 ⟨rfl, hw⟩; subst w1; clear hW)
        | (go_at_call 102; refine (CP _ (Below.refl _ _)).mono ?_; rintro e w2 ⟨rfl, hb2⟩; have q0 := keepC hb2 p0; have q1 := keepC hb2 p1; have q2 := keepC hb2 p2; have hB2 : Below w.heap.size w w2 := hB.trans (hb2.mono hB.size); clear p0 p1 p2))
      go_ret
      exact ⟨rtB (by simp), hB2⟩
end Go.Proofs.YtollijngiioonaaGreat

/- Weights, as the program tells them: it ranges over its iterator. Conditions: terms of at most 1048577 parts. -/
namespace Go.Proofs.YtollijngiioonaaGreat
set_option maxRecDepth 100000
open Go.RowKit Go.Shelf
attribute [local go_sem] Oper.semAt_some

/-- The weight of a term, its Kids' left away. -/
def pwT (bl : Int → Bool) (t : TermD) : Nat := if bl t.f && !t.kids.isEmpty then t.kids.length - 1 else 1
def sumP (bl : Int → Bool) (l : List TermD) : Nat := (l.map (pwT bl)).sum
theorem sumP_append (bl : Int → Bool) (a b : List TermD) : sumP bl (a ++ b) = sumP bl a + sumP bl b := by simp [sumP]
mutual
theorem sumP_pre (bl : Int → Bool) : ∀ t : TermD, sumP bl (preT t) = wgtT bl t
  | .mk f v ks => by
    have h := sumP_preL bl ks
    rw [preT, wgtT, ← h]
    simp [sumP, pwT, TermD.f, TermD.kids]
theorem sumP_preL (bl : Int → Bool) : ∀ ts : List TermD, sumP bl (preL ts) = wgtL bl ts
  | [] => by simp [preL, wgtL, sumP]
  | t :: ts => by rw [preL, wgtL, sumP_append, sumP_pre bl t, sumP_preL bl ts]
end

mutual
theorem kids_pre : ∀ (t x : TermD), x ∈ preT t → x.kids.length < partsT t
  | .mk f v ks, x, h => by
    rw [preT] at h
    rcases List.mem_cons.1 h with rfl | h
    · have := partsL_len ks; simp only [TermD.kids, partsT]; omega
    · have := kids_preL ks x h; rw [partsT]; omega
theorem kids_preL : ∀ (ts : List TermD) (x : TermD), x ∈ preL ts → x.kids.length < partsL ts
  | [], x, h => by simp [preL] at h
  | t :: ts, x, h => by
    rw [preL] at h
    rcases List.mem_append.1 h with h | h
    · have := kids_pre t x h; rw [partsL]; omega
    · have := kids_preL ts x h; rw [partsL]; omega
end

/-- What the loop holds between two rounds. -/
structure QInv (w W0 : World) (sa : Option Addr) (ss : List SymD) (sc : Nat) (pre : List El) (S : Nat → Prop) (W : World) : Prop where
  lo : ∀ k, k < W0.heap.size → S k
  hi : ∀ k, S k → k < W.heap.size
  s : W.cell? ⟨w.heap.size, 0, none⟩ = some (.slice sa ss.length sc)
  n : W.cell? ⟨w.heap.size + 1 + 1, 0, none⟩ = some (.int .i64 (sumP (blindAt ss) (pre.map El.t)))
  f : W.frozen? ⟨w.heap.size + 1 + 1, 0, none⟩ = false
  b : Below w.heap.size w W
  z : w.heap.size + 1 + 1 < W0.heap.size
theorem QInv.stay {w W0 A B : World} {sa : Option Addr} {ss : List SymD} {sc : Nat} {pre : List El} {S : Nat → Prop} (h : QInv w W0 sa ss sc pre S A) (hs : Stay S A B) : QInv w W0 sa ss sc pre S B := by
  have hz := h.z
  exact ⟨h.lo, fun k hk => Nat.lt_of_lt_of_le (h.hi k hk) hs.size, hs.cell h.s (h.lo _ (by simp only; omega)), hs.cell h.n (h.lo _ hz), (hs.frozen (World.block_lt_of_cell? _ _ h.n) (h.lo _ hz)).trans h.f, h.b.trans (hs.below h.b.size (fun k hk => h.lo k (by omega))), hz⟩
theorem QInv.more {w W0 A : World} {sa : Option Addr} {ss : List SymD} {sc : Nat} {pre : List El} {S S' : Nat → Prop} (h : QInv w W0 sa ss sc pre S A) (hs : ∀ k, S k → S' k) (ht : ∀ k, S' k → k < A.heap.size) : QInv w W0 sa ss sc pre S' A :=
  ⟨fun k hk => hs k (h.lo k hk), ht, h.s, h.n, h.f, h.b, h.z⟩

set_option maxHeartbeats 1600000 in
theorem partWeight_any (sa : Option Addr) (ss : List SymD) (n cap : Nat) (t : TermD) (a : Option Addr) (c : Nat) (w : World) (hn : n = ss.length) (hr : RdS w sa ss) (hk : t.kids.length ≤ 549755813888) :
    Calls Tryz.prog 138 #[.slice sa n cap, .agg #[.int .i64 t.f, .int .i64 t.v, .slice a t.kids.length c]] w fun e w' => e = .returned (.int .i64 (pwT (blindAt ss) t : Nat)) ∧ Below w.heap.size w w' := by
  subst hn
  obtain ⟨W, hW⟩ : ∃ W, W = w.alloc (.cells #[.int .i64 t.f, .int .i64 t.v, .slice a t.kids.length c] 27) := ⟨_, rfl⟩
  have hB : Below w.heap.size w W := by rw [hW]; exact (Below.refl _ _).alloc (Nat.le_refl _) _
  have C := impBlind_any sa ss ss.length cap t.f W rfl (hr.below hB)
  cases hbl : blindAt ss t.f with
  | true =>
    rw [hbl] at C
    by_cases h0 : t.kids.length = 0
    · have HP : Hid (pwT (blindAt ss) t = 1) := by show _ = _; unfold pwT; rw [List.eq_nil_of_length_eq_zero h0]; simp
      rw [h0] at hW ⊢
      clear hk hbl h0
      go_enter Tryz.func138, Tryz.ntmps138
      go_wp2_with (go_at_call 112; rw [← hW]; refine C.mono ?_; rintro e w2 ⟨rfl, hw⟩; subst w2; subst hW)
      go_ret
      exact ⟨rtI (by rw [HP.out]; rfl), hB⟩
    · have HP : Hid (pwT (blindAt ss) t = t.kids.length - 1) := by
        show _ = _; unfold pwT; rw [hbl]
        cases hk : t.kids with
        | nil => rw [hk] at h0; simp at h0
        | cons x xs => simp
      have h1 : 0 < t.kids.length := by omega
      clear hbl h0
      generalize t.kids.length = m at *
      go_enter Tryz.func138, Tryz.ntmps138
      go_wp2_with (go_at_call 112; rw [← hW]; refine C.mono ?_; rintro e w2 ⟨rfl, hw⟩; subst w2; subst hW)
      go_ret
      exact ⟨rtI (by rw [HP.out]; omega), hB⟩
  | false =>
    rw [hbl] at C
    have HP : Hid (pwT (blindAt ss) t = 1) := by show _ = _; unfold pwT; rw [hbl]; simp
    clear hbl
    generalize t.kids.length = m at *
    go_enter Tryz.func138, Tryz.ntmps138
    go_wp2_with (go_at_call 112; rw [← hW]; refine C.mono ?_; rintro e w2 ⟨rfl, hw⟩; subst w2; subst hW)
    go_ret
    exact ⟨rtI (by rw [HP.out]; rfl), hB⟩

set_option maxHeartbeats 3200000 in
theorem impWeight_any (sa : Option Addr) (ss : List SymD) (ns sc : Nat) (t : TermD) (a : Option Addr) (c hi : Nat) (w : World) (hn : ns = ss.length) (hs : RdS w sa ss) (hp : partsT t ≤ 1048577) (hr : RdK w hi a t.kids) (hhi : hi ≤ w.heap.size) (hc : t.kids.length ≤ c) :
    Calls Tryz.prog 98 #[.slice sa ns sc, .agg #[.int .i64 t.f, .int .i64 t.v, .slice a t.kids.length c]] w fun e w' => e = .returned (.int .i64 (wgtT (blindAt ss) t : Nat)) ∧ Below w.heap.size w w' := by
  subst hn
  refine (callsIn_wide (n := 5)).1 ?_
  refine callsIn_of_wp_marks Tryz.func98 rfl trivial ?_ rfl
  simp only [Tryz.ntmps98, List.size_toArray, List.length_cons, List.length_nil, Nat.reduceAdd, Nat.reduceSub, Array.replicate_succ, Array.replicate_zero, List.push_toArray, List.append_toArray, List.nil_append, List.cons_append]
  gi_wp2_with (refine ⟨trivial, ?_⟩; gi_at_call 65; refine (callsIn_wide.2 (within_any t a c _)).mono ?_; rintro e w' ⟨rfl, rfl⟩)
  obtain ⟨W0, hW0⟩ : ∃ W0, W0 = (((w.alloc (.cells #[.slice sa ss.length sc] 24)).alloc (.cells #[.int .i64 t.f, .int .i64 t.v, .slice a t.kids.length c] 27)).alloc (.cells #[.int .i64 0] 3)).alloc (.cells #[.int .i64 t.f, .int .i64 t.v, .slice a t.kids.length c] 27) := ⟨_, rfl⟩
  have hB0 : Below w.heap.size w W0 := by rw [hW0]; exact ((((Below.refl _ _).alloc (Nat.le_refl _) _).alloc (by simp) _).alloc (by simp; omega) _).alloc (by simp; omega) _
  have hz : W0.heap.size = w.heap.size + 1 + 1 + 1 + 1 := by rw [hW0]; simp
  have s0 : W0.cell? ⟨w.heap.size, 0, none⟩ = some (.slice sa ss.length sc) := by rw [hW0]; simp [go_sem]
  have v0 : W0.cell? ⟨w.heap.size + 1 + 1, 0, none⟩ = some (.int .i64 0) := by rw [hW0]; simp [go_sem]
  have f0 : W0.frozen? ⟨w.heap.size + 1 + 1, 0, none⟩ = false := by rw [hW0]; simp [go_sem]
  have t0 : W0.cell? ⟨w.heap.size + 1 + 1 + 1, 0, none⟩ = some (.int .i64 t.f) := by rw [hW0]; simp [go_sem]
  have t1 : W0.cell? ⟨w.heap.size + 1 + 1 + 1, 1, none⟩ = some (.int .i64 t.v) := by rw [hW0]; simp [go_sem]
  have t2 : W0.cell? ⟨w.heap.size + 1 + 1 + 1, 2, none⟩ = some (.slice a t.kids.length c) := by rw [hW0]; simp [go_sem]
  rw [← hW0]
  clear hW0
  refine wpIn_rangeFunc_priv rfl (by omega) (gf := 110) (lb := #[.pointer (some ⟨w.heap.size + 1 + 1 + 1, 0, none⟩)]) rfl trivial (enters_of Tryz.func110 (by kernel_rfl) rfl)
    (within_seq Fence.wide 4 trivial rfl (by omega) W0 t a c hi w.heap.size (w.heap.size + 1 + 1 + 1) (by omega) hc (hr.on (hB0.mono hhi)) hhi hB0.size t0 t1 t2) hB0.size (Below.refl _ _) (fun _ => rfl)
    (fun pre S W => QInv w W0 sa ss sc pre S W) (fun _ _ _ _ => False) (fun pre S A B h hs => h.stay hs)
    (fun _ _ _ _ _ h _ => h) (fun pre S A h => h.hi) (fun k => k < W0.heap.size) (fun _ h => h) ⟨fun _ h => h, fun _ h => h, s0, by simpa [sumP] using v0, f0, hB0, by omega⟩
    (fun pre x S a₁ W => QInv w W0 sa ss sc pre S W ∧ ∃ Bx, BoxEl x Bx S W ∧ a₁ = { tmps := #[.slice sa ss.length sc, .agg #[.int .i64 t.f, .int .i64 t.v, .slice a t.kids.length c], .pointer (some ⟨w.heap.size, 0, none⟩), .pointer (some ⟨w.heap.size + 1, 0, none⟩), .int .i64 0, .pointer (some ⟨w.heap.size + 1 + 1, 0, none⟩), .pointer (some ⟨Bx, 0, none⟩), .agg #[.int .i64 t.f, .int .i64 t.v, .slice a t.kids.length c], .func (.func 110) #[] #[.pointer (some ⟨w.heap.size + 1 + 1 + 1, 0, none⟩)], .agg #[.int .i64 x.t.f, .int .i64 x.t.v, .slice x.a x.t.kids.length x.c], undef, undef, undef, undef, undef, undef], defers := [] })
    (fun pre x S a₁ A B h hs => by
      obtain ⟨h1, Bx, h2, h3⟩ := h
      exact ⟨h1.stay hs, Bx, h2.stay hs, h3⟩)
    ?assign ?body ?done ?stop
  case assign =>
    intro l pre x S W K hi hlen hok hK
    dsimp only [El.enc]
    gi_wp2
    refine hK _ (fun k => S k ∨ k = W.heap.size) _ ⟨(hi.stay (.alloc _ _ _)).more (fun _ h => .inl h) (fun k h => h.elim (fun h => by have := hi.hi k h; simp; omega) (fun e => by simp; omega)), W.heap.size, ⟨.inr rfl, ?_, ?_, ?_⟩, by simp⟩ (fun k h => h.imp id (fun e => by omega)) (.alloc _ _ _)
    all_goals simp [go_sem]
  case body =>
    rintro l pre x S a₁ W ⟨h, Bx, hx, rfl⟩ hlen hok
    obtain ⟨⟨r, hpre⟩, _, _⟩ := hok
    have hsum : sumP (blindAt ss) (pre.map El.t) + pwT (blindAt ss) x.t ≤ 2 * partsT t := by
      have h1 := sumP_pre (blindAt ss) t
      have h2 := wgtT_parts (blindAt ss) t
      rw [← hpre, sumP_append] at h1
      simp only [sumP, List.map_cons, List.sum_cons] at h1 ⊢
      omega
    have hkx : x.t.kids.length ≤ 549755813888 := by
      have h1 : x.t ∈ preT t := by rw [← hpre]; simp
      have h2 := kids_pre t x.t h1
      omega
    have C := fun (W' : World) (hb : Below W.heap.size W W') => partWeight_any sa ss ss.length sc x.t x.a x.c W' rfl (hs.below (h.b.trans (hb.mono h.b.size))) hkx
    have x0 := hx.c0
    have x1 := hx.c1
    have x2 := hx.c2
    have hr0 := h.s
    have hn0 := h.n
    have hf0 := h.f
    have hzz := h.z
    have b1 : (sumP (blindAt ss) (pre.map El.t) : Int) + (pwT (blindAt ss) x.t : Nat) ≤ 2097154 := by omega
    have F1 : Hid (∀ w1, Below W.heap.size W w1 → QInv w W0 sa ss sc (pre ++ [x]) S (w1.setCell ⟨w.heap.size + 1 + 1, 0, none⟩ (.int .i64 ((sumP (blindAt ss) (pre.map El.t) : Int) + (pwT (blindAt ss) x.t : Nat)))) ∧ Stay (fun k => k < w.heap.size ∨ ¬ S k) W (w1.setCell ⟨w.heap.size + 1 + 1, 0, none⟩ (.int .i64 ((sumP (blindAt ss) (pre.map El.t) : Int) + (pwT (blindAt ss) x.t : Nat))))) := fun w1 hb => by
      have h1 := h.stay (.of_below hb (fun _ hk _ => hk))
      refine ⟨⟨h1.lo, fun k hk => by simpa using h1.hi k hk, ?_, ?_, ?_, h1.b.setCell (p := ⟨w.heap.size + 1 + 1, 0, none⟩) (by simp; omega) _, h1.z⟩, (Stay.of_below hb (fun _ hk _ => hk)).trans (.setCell _ _ (fun h => h.elim (fun h => by simp only at h; omega) (fun h' => h' (h1.lo _ h1.z))))⟩
      · exact (World.cell?_of_block (Below.heap_setCell _ _ _ _ (by simp only; omega))).trans h1.s
      · rw [World.cell?_setCell_same _ _ _ h1.n, List.map_append, sumP_append]
        simp [sumP]
      · rw [World.frozen?_setCell]; exact h1.f
    clear h hx hpre hsum
    gi_wp2_with fail
    gi_region_with (refine ⟨trivial, ?_⟩; gi_at_call 138; refine (CallsIn.inRound l (callsIn_wide.2 (C _ ?_))).mono ?_; exact (Below.refl _ _).drew; rintro e w1 ⟨rfl, hb0⟩; have hb1 : Below W.heap.size W w1 := (Below.refl _ _).drew.trans hb0; have hn1 := keepC hb1 hn0; have hf1 := (hb1.frozen (p := ⟨w.heap.size + 1 + 1, 0, none⟩) (World.block_lt_of_cell? _ _ hn0)).trans hf0; clear C hb0 hn0 hf0 x0 x1 x2 hr0)
    all_goals
      rw [show IntKind.i64.wrap ((sumP (blindAt ss) (pre.map El.t) : Int) + (pwT (blindAt ss) x.t : Nat)) = (sumP (blindAt ss) (pre.map El.t) : Int) + (pwT (blindAt ss) x.t : Nat) by rw [IntKind.wrap_i64]; omega]
      gi_wp2
      obtain ⟨q1, q2⟩ := F1.out w1 hb1
      exact ⟨S, q1, fun k h => .inl h, q2⟩
  case done =>
    rintro D xs S W hxs h hK hD hSD
    have h3 := h.n
    have h5 := h.b
    rw [hxs, sumP_pre] at h3
    clear h
    gi_wp2
    refine ⟨by simp, .inl ⟨_, _, rfl, run_takeDeferred hK, ?_⟩⟩
    exact ⟨_, results_tmp rfl _ _ _, rfl, h5.trans ((Stay.putObj (S := fun k => k < w.heap.size) W _ (by omega)).below h5.size (fun _ h => h))⟩
  case stop =>
    rintro D c pre S W _ h
    exact h.elim
end Go.Proofs.YtollijngiioonaaGreat

/- Weights, as the specification tells them. Conditions: terms of at most 549755813888 parts. -/
namespace Go.Proofs.YtollijngiioonaaGreat
set_option maxRecDepth 100000
open Go.RowKit

theorem wgtT_split (bl : Int → Bool) (f v : Int) (ks : List TermD) : wgtT bl (.mk f v ks) = (if bl f && !ks.isEmpty then ks.length - 1 else 1) + wgtL bl ks := by rw [wgtT]

set_option maxHeartbeats 3200000 in
theorem specWeight_any (sa : Option Addr) (ss : List SymD) (sc : Nat) (hss : ss.length ≤ 1048577) (N : Nat) : ∀ (t : TermD) (a : Option Addr) (c hi : Nat) (w : World), isW t.f → RdS w sa ss → partsT t ≤ N → N ≤ 549755813888 → RdK w hi a t.kids → hi ≤ w.heap.size →
    Calls Tryz.prog 59 #[.slice sa ss.length sc, .agg #[.int .i64 t.f, .int .i64 t.v, .slice a t.kids.length c]] w fun e w' => e = .returned (.int .i64 (wgtT (blindAt ss) t : Nat)) ∧ Below w.heap.size w w' := by
  induction N with
  | zero => intro t a c hi w _ _ h; rw [partsT_eq] at h; omega
  | succ N ih =>
    intro t a c hi w hf hs hN hM hr hhi
    obtain ⟨f, v, ks⟩ := t
    simp only [TermD.f, TermD.v, TermD.kids] at *
    rw [partsT] at hN
    have hlen := partsL_len ks
    have HR : Hid (RdK w hi a ks) := hr
    have HS : Hid (RdS w sa ss) := hs
    have HW0 : Hid (wgtT (blindAt ss) (.mk f v ks) = (if blindAt ss f && !ks.isEmpty then ks.length - 1 else 1) + wgtL (blindAt ss) ks) := wgtT_split _ f v ks
    clear hr
    obtain ⟨W, hW⟩ : ∃ W, W = w.alloc (.cells #[.int .i64 f, .int .i64 v, .slice a ks.length c] 27) := ⟨_, rfl⟩
    have hb0 : Below w.heap.size w W := by rw [hW]; exact (Below.refl w.heap.size w).alloc (Nat.le_refl _) _
    have C := specBlind_any sa ss ss.length sc f W rfl (hs.below hb0) hss hf.1 hf.2
    have hct0 : W.cell? ⟨w.heap.size, 2, none⟩ = some (.slice a ks.length c) := by rw [hW]; simp [go_sem]
    have hwl0 : w.heap.size < W.heap.size := by rw [hW]; simp
    clear hf hs
    cases hbl : blindAt ss f with
    | true =>
      rw [hbl] at C
      by_cases h0 : ks.length = 0
      · have hke := List.eq_nil_of_length_eq_zero h0
        subst hke
        have HW : Hid (wgtT (blindAt ss) (.mk f v []) = 1) := by show _ = _; rw [HW0.out]; simp [wgtL]
        simp only [List.length_nil] at *
        clear HW0 hbl
        go_enter Tryz.func59, Tryz.ntmps59
        go_wp2_with (go_at_call 106; rw [← hW]; refine C.mono ?_; rintro e w2 ⟨rfl, hw⟩; subst w2; clear hW C)
        refine wp_loop_rounds 1 ?_
        rw [rounds_succ]
        go_wp2
        go_ret
        exact ⟨rtI (by rw [HW.out]; rfl), hb0⟩
      · have HW : Hid (wgtT (blindAt ss) (.mk f v ks) = (ks.length - 1) + wgtL (blindAt ss) ks) := by
          show _ = _; rw [HW0.out, hbl]
          cases ks with
          | nil => simp at h0
          | cons x xs => simp
        have h1 : 0 < ks.length := by omega
        clear HW0 hbl h0
        go_enter Tryz.func59, Tryz.ntmps59
        go_wp2_with (go_at_call 106; rw [← hW]; refine C.mono ?_; rintro e w2 ⟨rfl, hw⟩; subst w2; clear hW C)
        go_loopw [5, 6] (fun n i wr => ∃ k : Nat, k ≤ ks.length ∧ i = .int .i64 k ∧ n = .int .i64 (((ks.length - 1) + wgtL (blindAt ss) (ks.take k) : Nat) : Int) ∧ wr.cell? ⟨w.heap.size, 2, none⟩ = some (.slice a ks.length c) ∧ Below w.heap.size w wr ∧ w.heap.size < wr.heap.size) (fun _ i _ => ks.length - (intOf i).toNat)
        case atStart => exact ⟨0, Nat.zero_le _, rfl, by simp [wgtL]; omega, hct0, hb0, hwl0⟩
        case round =>
          obtain ⟨k, hk, rfl, rfl, hct, hbr, hwl⟩ := hrel
          have hpk := partsL_rest ks k
          have hwk := wgtL_parts (blindAt ss) (ks.take k)
          have hlt2 : (ks.take k).length ≤ ks.length := by rw [List.length_take]; omega
          clear hb0 hct0 hwl0
          by_cases hk' : k < ks.length
          · obtain ⟨b, off, a', c', rfl, hlt, d0, d1, d2, hkr⟩ := RdK.kid (HR.out.on (hbr.mono hhi)) hk'
            have hpg := partsL_get hk'
            have hwg := wgtT_parts (blindAt ss) ks[k]
            have hki : (k : Int) < (ks.length : Int) := by omega
            have HP : Hid (wgtL (blindAt ss) (ks.take (k + 1)) = wgtL (blindAt ss) (ks.take k) + wgtT (blindAt ss) ks[k]) := wgtL_next (blindAt ss) hk'
            have I := ih ks[k] a' c' hi wr (RdK.ints HR.out hk').1 (HS.out.below (hbr.mono (Nat.le_refl _))) (by omega) (by omega) hkr (Nat.le_trans hhi hbr.size)
            clear hkr
            go_wp2_with (go_at_call 59; refine I.mono ?_; rintro e w1 ⟨rfl, hb1⟩; clear I; have hct1 := (hb1.cell (p := ⟨w.heap.size, 2, none⟩) hwl).trans hct; have hbb := hbr.trans (hb1.mono hbr.size); have hwl1 : w.heap.size < w1.heap.size := (Nat.lt_of_lt_of_le hwl hb1.size); clear hbr hb1)
            go_roundw
            case rel => exact ⟨k + 1, by omega, by go_num, by rw [HP.out]; go_num, hct1, hbb, hwl1⟩
            case measure => simp [intOf]; omega
          · have E : Hid (k = ks.length) := (by omega : k = ks.length)
            go_wp2_with fail
            go_ret
            refine ⟨rtI ?_, hbr⟩
            rw [HW.out, E.out, List.take_length]
    | false =>
      rw [hbl] at C
      have HW : Hid (wgtT (blindAt ss) (.mk f v ks) = 1 + wgtL (blindAt ss) ks) := by show _ = _; rw [HW0.out, hbl]; simp
      clear HW0 hbl
      go_enter Tryz.func59, Tryz.ntmps59
      go_wp2_with (go_at_call 106; rw [← hW]; refine C.mono ?_; rintro e w2 ⟨rfl, hw⟩; subst w2; clear hW C)
      go_loopw [5, 6] (fun n i wr => ∃ k : Nat, k ≤ ks.length ∧ i = .int .i64 k ∧ n = .int .i64 ((1 + wgtL (blindAt ss) (ks.take k) : Nat) : Int) ∧ wr.cell? ⟨w.heap.size, 2, none⟩ = some (.slice a ks.length c) ∧ Below w.heap.size w wr ∧ w.heap.size < wr.heap.size) (fun _ i _ => ks.length - (intOf i).toNat)
      case atStart => exact ⟨0, Nat.zero_le _, rfl, by simp [wgtL], hct0, hb0, hwl0⟩
      case round =>
        obtain ⟨k, hk, rfl, rfl, hct, hbr, hwl⟩ := hrel
        have hpk := partsL_rest ks k
        have hwk := wgtL_parts (blindAt ss) (ks.take k)
        have hlt2 : (ks.take k).length ≤ ks.length := by rw [List.length_take]; omega
        clear hb0 hct0 hwl0
        by_cases hk' : k < ks.length
        · obtain ⟨b, off, a', c', rfl, hlt, d0, d1, d2, hkr⟩ := RdK.kid (HR.out.on (hbr.mono hhi)) hk'
          have hpg := partsL_get hk'
          have hwg := wgtT_parts (blindAt ss) ks[k]
          have hki : (k : Int) < (ks.length : Int) := by omega
          have HP : Hid (wgtL (blindAt ss) (ks.take (k + 1)) = wgtL (blindAt ss) (ks.take k) + wgtT (blindAt ss) ks[k]) := wgtL_next (blindAt ss) hk'
          have I := ih ks[k] a' c' hi wr (RdK.ints HR.out hk').1 (HS.out.below (hbr.mono (Nat.le_refl _))) (by omega) (by omega) hkr (Nat.le_trans hhi hbr.size)
          clear hkr
          go_wp2_with (go_at_call 59; refine I.mono ?_; rintro e w1 ⟨rfl, hb1⟩; clear I; have hct1 := (hb1.cell (p := ⟨w.heap.size, 2, none⟩) hwl).trans hct; have hbb := hbr.trans (hb1.mono hbr.size); have hwl1 : w.heap.size < w1.heap.size := (Nat.lt_of_lt_of_le hwl hb1.size); clear hbr hb1)
          go_roundw
          case rel => exact ⟨k + 1, by omega, by go_num, by rw [HP.out]; go_num, hct1, hbb, hwl1⟩
          case measure => simp [intOf]; omega
        · have E : Hid (k = ks.length) := (by omega : k = ks.length)
          go_wp2_with fail
          go_ret
          refine ⟨rtI ?_, hbr⟩
          rw [HW.out, E.out, List.take_length]
end Go.Proofs.YtollijngiioonaaGreat

/- Whether a term has no variables, as the program tells it: it ranges over its iterator and stops at the first one. Conditions: terms of at most 549755813888 parts. -/
namespace Go.Proofs.YtollijngiioonaaGreat
set_option maxRecDepth 100000
open Go.RowKit Go.Shelf
attribute [local go_sem] Oper.semAt_some

/-- Without variables. -/
def grdT (t : TermD) : Bool := (varsT t []).isEmpty
theorem grd_all {t : TermD} (h : ∀ x ∈ preT t, vofB x = false) : grdT t = true := by
  unfold grdT
  rw [List.isEmpty_iff]
  apply List.eq_nil_iff_forall_not_mem.2
  intro v hv
  rw [vars_mem] at hv
  simp only [vl, List.mem_map, List.mem_filter] at hv
  obtain ⟨x, ⟨hx, hf⟩, _⟩ := hv
  have := h x hx
  simp only [vofB] at this
  rw [this] at hf; cases hf
theorem grd_hit {t x : TermD} (hx : x ∈ preT t) (h : vofB x = true) : grdT t = false := by
  unfold grdT
  have : x.v ∈ varsT t [] := by
    rw [vars_mem]
    simp only [vl, List.mem_map, List.mem_filter]
    exact ⟨x, ⟨hx, by simpa [vofB] using h⟩, rfl⟩
  cases e : varsT t [] with
  | nil => rw [e] at this; simp at this
  | cons _ _ => rfl

/-- What the loop holds between two rounds: the answer's place, and that no variable was met. -/
structure GInv (w W0 : World) (R : Nat) (pre : List El) (S : Nat → Prop) (W : World) : Prop where
  lo : ∀ k, k < W0.heap.size → S k
  hi : ∀ k, S k → k < W.heap.size
  r : W.cell? ⟨R, 0, none⟩ = some (.bool false)
  f : W.frozen? ⟨R, 0, none⟩ = false
  b : Below w.heap.size w W
  z : w.heap.size < W0.heap.size ∧ R < W0.heap.size
  no : ∀ x ∈ pre, vofB x.t = false
theorem GInv.stay {w W0 A B : World} {R : Nat} {pre : List El} {S : Nat → Prop} (h : GInv w W0 R pre S A) (hs : Stay S A B) : GInv w W0 R pre S B := by
  have hz := h.z
  exact ⟨h.lo, fun k hk => Nat.lt_of_lt_of_le (h.hi k hk) hs.size, hs.cell h.r (h.lo _ hz.2), (hs.frozen (World.block_lt_of_cell? _ _ h.r) (h.lo _ hz.2)).trans h.f, h.b.trans (hs.below h.b.size (fun k hk => h.lo k (by omega))), hz, h.no⟩
theorem GInv.more {w W0 A : World} {R : Nat} {pre : List El} {S S' : Nat → Prop} (h : GInv w W0 R pre S A) (hs : ∀ k, S k → S' k) (ht : ∀ k, S' k → k < A.heap.size) : GInv w W0 R pre S' A :=
  ⟨fun k hk => hs k (h.lo k hk), ht, h.r, h.f, h.b, h.z, h.no⟩
/-- What is left where a variable was met. -/
structure GOut (w W0 : World) (R : Nat) (pre : List El) (S : Nat → Prop) (W : World) : Prop where
  lo : ∀ k, k < W0.heap.size → S k
  r : W.cell? ⟨R, 0, none⟩ = some (.bool false)
  b : Below w.heap.size w W
  z : w.heap.size < W0.heap.size ∧ R < W0.heap.size
  hit : ∃ x ∈ pre, vofB x.t = true
theorem GOut.stay {w W0 A B : World} {R : Nat} {pre : List El} {S : Nat → Prop} (h : GOut w W0 R pre S A) (hs : Stay S A B) : GOut w W0 R pre S B := by
  have hz := h.z
  exact ⟨h.lo, hs.cell h.r (h.lo _ hz.2), h.b.trans (hs.below h.b.size (fun k hk => h.lo k (by omega))), hz, h.hit⟩

set_option maxHeartbeats 3200000 in
set_option maxRecDepth 100000 in
theorem impGround_any (t : TermD) (a : Option Addr) (c hi : Nat) (w : World) (hp : partsT t ≤ 549755813888) (hr : RdK w hi a t.kids) (hhi : hi ≤ w.heap.size) (hc : t.kids.length ≤ c) :
    Calls Tryz.prog 51 #[.agg #[.int .i64 t.f, .int .i64 t.v, .slice a t.kids.length c]] w fun e w' => e = .returned (.bool (grdT t)) ∧ Below w.heap.size w w' := by
  refine (callsIn_wide (n := 5)).1 ?_
  refine callsIn_of_wp_marks Tryz.func51 rfl trivial ?_ rfl
  simp only [Tryz.ntmps51, List.size_toArray, List.length_cons, List.length_nil, Nat.reduceAdd, Nat.reduceSub, Array.replicate_succ, Array.replicate_zero, List.push_toArray, List.append_toArray, List.nil_append, List.cons_append]
  gi_wp2_with (refine ⟨trivial, ?_⟩; gi_at_call 65; refine (callsIn_wide.2 (within_any t a c _)).mono ?_; rintro e w' ⟨rfl, rfl⟩)
  obtain ⟨W0, hW0⟩ : ∃ W0, W0 = ((w.alloc (.cells #[.int .i64 t.f, .int .i64 t.v, .slice a t.kids.length c] 27)).alloc (.cells #[.bool false] 4)).alloc (.cells #[.int .i64 t.f, .int .i64 t.v, .slice a t.kids.length c] 27) := ⟨_, rfl⟩
  have hB0 : Below w.heap.size w W0 := by rw [hW0]; exact (((Below.refl _ _).alloc (Nat.le_refl _) _).alloc (by simp) _).alloc (by simp; omega) _
  have hz : W0.heap.size = w.heap.size + 1 + 1 + 1 := by rw [hW0]; simp
  have v0 : W0.cell? ⟨w.heap.size + 1, 0, none⟩ = some (.bool false) := by rw [hW0]; simp [go_sem]
  have f0 : W0.frozen? ⟨w.heap.size + 1, 0, none⟩ = false := by rw [hW0]; simp [go_sem]
  have t0 : W0.cell? ⟨w.heap.size + 1 + 1, 0, none⟩ = some (.int .i64 t.f) := by rw [hW0]; simp [go_sem]
  have t1 : W0.cell? ⟨w.heap.size + 1 + 1, 1, none⟩ = some (.int .i64 t.v) := by rw [hW0]; simp [go_sem]
  have t2 : W0.cell? ⟨w.heap.size + 1 + 1, 2, none⟩ = some (.slice a t.kids.length c) := by rw [hW0]; simp [go_sem]
  rw [← hW0]
  clear hW0
  refine wpIn_rangeFunc_priv rfl (by omega) (gf := 110) (lb := #[.pointer (some ⟨w.heap.size + 1 + 1, 0, none⟩)]) rfl trivial (enters_of Tryz.func110 (by kernel_rfl) rfl)
    (within_seq Fence.wide 4 trivial rfl (by omega) W0 t a c hi w.heap.size (w.heap.size + 1 + 1) hp hc (hr.on (hB0.mono hhi)) hhi hB0.size t0 t1 t2) hB0.size (Below.refl _ _) (fun _ => rfl)
    (fun pre S W => GInv w W0 (w.heap.size + 1) pre S W) (fun cd pre S W => cd = .ret ∧ GOut w W0 (w.heap.size + 1) pre S W) (fun pre S A B h hs => h.stay hs)
    (fun _ _ _ _ _ h hs => ⟨h.1, h.2.stay hs⟩) (fun pre S A h => h.hi) (fun k => k < W0.heap.size) (fun _ h => h) ⟨fun _ h => h, fun _ h => h, v0, f0, hB0, by omega, by simp⟩
    (fun pre x S a₁ W => GInv w W0 (w.heap.size + 1) pre S W ∧ ∃ Bx, BoxEl x Bx S W ∧ a₁ = { tmps := #[.agg #[.int .i64 t.f, .int .i64 t.v, .slice a t.kids.length c], .pointer (some ⟨w.heap.size, 0, none⟩), .pointer (some ⟨w.heap.size + 1, 0, none⟩), .pointer (some ⟨Bx, 0, none⟩), undef, undef, .agg #[.int .i64 t.f, .int .i64 t.v, .slice a t.kids.length c], .func (.func 110) #[] #[.pointer (some ⟨w.heap.size + 1 + 1, 0, none⟩)], .agg #[.int .i64 x.t.f, .int .i64 x.t.v, .slice x.a x.t.kids.length x.c], undef, undef, undef, undef, undef, undef], defers := [] })
    (fun pre x S a₁ A B h hs => by
      obtain ⟨h1, Bx, h2, h3⟩ := h
      exact ⟨h1.stay hs, Bx, h2.stay hs, h3⟩)
    ?assign ?body ?done ?stop
  case assign =>
    intro l pre x S W K hi hlen hok hK
    dsimp only [El.enc]
    gi_wp2
    refine hK _ (fun k => S k ∨ k = W.heap.size) _ ⟨(hi.stay (.alloc _ _ _)).more (fun _ h => .inl h) (fun k h => h.elim (fun h => by have := hi.hi k h; simp; omega) (fun e => by simp; omega)), W.heap.size, ⟨.inr rfl, ?_, ?_, ?_⟩, by simp⟩ (fun k h => h.imp id (fun e => by omega)) (.alloc _ _ _)
    all_goals simp [go_sem]
  case body =>
    rintro l pre x S a₁ W ⟨h, Bx, hx, rfl⟩ hlen hok
    have C := variableOf_any x.t x.a x.t.kids.length x.c W
    have x0 := hx.c0
    have x1 := hx.c1
    have x2 := hx.c2
    have hr0 := h.r
    have hf0 := h.f
    have hzz := h.z
    cases hvb : vofB x.t with
    | false =>
      rw [hvb] at C
      have F0 : Hid (∀ w1, Below W.heap.size W w1 → GInv w W0 (w.heap.size + 1) (pre ++ [x]) S w1 ∧ Stay (fun k => k < w.heap.size ∨ ¬ S k) W w1) := fun w1 hb => by
        have h1 := h.stay (.of_below hb (fun _ hk _ => hk))
        refine ⟨⟨h1.lo, h1.hi, h1.r, h1.f, h1.b, h1.z, fun y hy => ?_⟩, .of_below hb (fun _ hk _ => hk)⟩
        rcases List.mem_append.1 hy with hy | hy
        · exact h1.no y hy
        · simp only [List.mem_singleton] at hy; subst hy; exact hvb
      clear h hx hvb
      gi_wp2_with (refine ⟨trivial, ?_⟩; gi_at_call 99; refine (CallsIn.inRound l (callsIn_wide.2 C)).mono ?_; rintro e w1 ⟨rfl, hb1⟩; clear C)
      obtain ⟨q1, q2⟩ := F0.out w1 hb1
      exact ⟨S, q1, fun k h => .inl h, q2⟩
    | true =>
      rw [hvb] at C
      have F1 : Hid (∀ w1, Below W.heap.size W w1 → GOut w W0 (w.heap.size + 1) (pre ++ [x]) S (w1.setCell ⟨w.heap.size + 1, 0, none⟩ (.bool false)) ∧ Stay (fun k => k < w.heap.size ∨ ¬ S k) W (w1.setCell ⟨w.heap.size + 1, 0, none⟩ (.bool false))) := fun w1 hb => by
        have h1 := h.stay (.of_below hb (fun _ hk _ => hk))
        refine ⟨⟨h1.lo, ?_, h1.b.setCell (p := ⟨w.heap.size + 1, 0, none⟩) (by simp) _, h1.z, x, by simp, hvb⟩, (Stay.of_below hb (fun _ hk _ => hk)).trans (.setCell _ _ (fun h => h.elim (fun h => by simp only at h; omega) (fun h' => h' (h1.lo _ h1.z.2))))⟩
        exact World.cell?_setCell_same _ _ _ h1.r
      clear h hx hvb
      gi_wp2_with (refine ⟨trivial, ?_⟩; gi_at_call 99; refine (CallsIn.inRound l (callsIn_wide.2 C)).mono ?_; rintro e w1 ⟨rfl, hb1⟩; clear C; have hr0 := keepC hb1 hr0; have hf0 := (hb1.frozen (p := ⟨w.heap.size + 1, 0, none⟩) (World.block_lt_of_cell? _ _ ‹W.cell? ⟨w.heap.size + 1, 0, none⟩ = _›)).trans hf0)
      obtain ⟨q1, q2⟩ := F1.out w1 hb1
      exact ⟨S, ⟨rfl, q1⟩, fun k h => .inl h, q2⟩
  case done =>
    rintro D xs S W hxs h hK hD hSD
    have h3 := h.r
    have h4 := h.f
    have h5 := h.b
    have hg : Hid (grdT t = true) := grd_all (fun x hx => by rw [← hxs] at hx; obtain ⟨y, hy, rfl⟩ := List.mem_map.1 hx; exact h.no y hy)
    clear h
    gi_wp2
    refine ⟨by simp, .inl ⟨_, _, rfl, run_takeDeferred (by rw [Below.heap_setCell _ _ _ _ (by simp only; omega)]; exact hK), ?_⟩⟩
    have e5 := (h5.setCell (p := ⟨w.heap.size + 1, 0, none⟩) (by simp) (.bool true))
    exact ⟨_, results_bool rfl rfl (b := true) ((World.cell?_of_block (World.putObj_heap_other (by simp only; omega))).trans (World.cell?_setCell_same _ _ _ h3)), rtB hg.out.symm, e5.trans ((Stay.putObj (S := fun k => k < w.heap.size) _ _ (by omega)).below e5.size (fun _ h => h))⟩
  case stop =>
    rintro D cd pre S W ⟨r, hpre⟩ ⟨rfl, h⟩ hK hD hSD
    have h3 := h.r
    have h5 := h.b
    have hg : Hid (grdT t = false) := by
      obtain ⟨x, hx, hv⟩ := h.hit
      exact grd_hit (by rw [← hpre]; exact List.mem_append_left _ (List.mem_map_of_mem hx)) hv
    clear h
    gi_wp2
    refine ⟨by simp, .inl ⟨_, _, rfl, run_takeDeferred hK, ?_⟩⟩
    exact ⟨_, results_bool rfl rfl (b := false) ((World.cell?_of_block (World.putObj_heap_other (by simp only; omega))).trans h3), rtB hg.out.symm, h5.trans ((Stay.putObj (S := fun k => k < w.heap.size) W _ (by omega)).below h5.size (fun _ h => h))⟩
end Go.Proofs.YtollijngiioonaaGreat

/- Whether a term has no variables, as the specification tells it. Conditions: terms of at most 1048577 parts. -/
namespace Go.Proofs.YtollijngiioonaaGreat
set_option maxRecDepth 100000
open Go.RowKit

set_option maxHeartbeats 800000 in
theorem specGround_any (t : TermD) (a : Option Addr) (c hi : Nat) (w : World) (hp : partsT t ≤ 1048577) (hr : RdK w hi a t.kids) (hhi : hi ≤ w.heap.size) :
    Calls Tryz.prog 60 #[.agg #[.int .i64 t.f, .int .i64 t.v, .slice a t.kids.length c]] w fun e w' => e = .returned (.bool (grdT t)) ∧ Below w.heap.size w w' := by
  have h0 : Below w.heap.size w (w.alloc (.cells #[.int .i64 t.f, .int .i64 t.v, .slice a t.kids.length c] 27)) := (Below.refl w.heap.size w).alloc (Nat.le_refl _) _
  have I := specVarsOf_any t a c hi _ hp (hr.on (h0.mono hhi)) (Nat.le_trans hhi h0.size)
  have HG : Hid (grdT t = ((((varsT t []).length : Nat) : Int) == 0)) := by
    show _ = _
    unfold grdT
    cases varsT t [] with
    | nil => rfl
    | cons x xs =>
      have : ¬ (((x :: xs).length : Int) = 0) := by rw [List.length_cons]; omega
      simp only [List.isEmpty_cons, Bool.false_eq, beq_eq_false_iff_ne]; exact this
  go_enter Tryz.func60, Tryz.ntmps60
  go_wp2_with (go_at_call 57; refine I.mono ?_; rintro e w1 ⟨g1, c1, rfl, hO1, hb1⟩; clear I)
  go_ret
  exact ⟨rtB HG.out.symm, h0.trans (hb1.mono h0.size)⟩
end Go.Proofs.YtollijngiioonaaGreat

