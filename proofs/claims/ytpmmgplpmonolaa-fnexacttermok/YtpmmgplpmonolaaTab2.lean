/- Contract of the program's table of functions by name: the walk. Conditions: at most 1048577 functions, names that are strings of the model. -/
import Derived.Test.YtpmmgplpmonolaaTab
import Derived.Deep.DeepMust
namespace Go.Proofs.Ytpmmgplpmonolaa
open Go.RowKit Go.Maps Go.WideMaps

set_option maxHeartbeats 1600000 in
theorem tableOf_any (a : Option Addr) (ss : List SymD) (n cap : Nat) (w : World) (hn : n = ss.length) (hr : RdS w a ss) (hl : ss.length ≤ 1048577) (hsz : ∀ s ∈ ss, s.name.size ≤ maxLen) :
    Calls Try.prog 95 #[.slice a n cap] w fun e w' => ∃ av cv D, e = .returned (.agg #[.map (some (w.heap.size + 1)), .slice av (againTo ss ss.length).length cv]) ∧ w'.ownsMap Try.prog 9 (plainElem Try.prog 3) (w.heap.size + 1) ss.length D ∧ MapIs D ss
      ∧ w'.ownsRow (w.heap.size + 3) 3 1 (.slice av (againTo ss ss.length).length cv) (againTo ss ss.length).length (ints (againTo ss ss.length)) ∧ Below w.heap.size w w' ∧ w.heap.size + 3 ≤ w'.heap.size := by
  subst hn
  obtain ⟨i0, hi, hz0, hz1, hz2⟩ := info_parts info3
  have hmm := @run_makeMap Try.prog
  rcases hr with rfl | ⟨b, off, rfl, hlt, hc⟩
  · go_enter Try.func95, Try.ntmps95
    go_wp2
    refine wp_loop_rounds 1 ?_
    rw [rounds_succ]
    go_wp2
    exact bodyPost_ret (v := .agg #[.map (some (w.heap.size + 1)), .slice none 0 0]) (by simp [results, Try.results95, go_sem]) rfl ⟨none, 0, .map [], rfl, (tab_empty w _ _).1, mapIs_nil, (tab_empty w _ _).2.1, (tab_empty w _ _).2.2, by simp⟩
  · have S := TabSt.start w ss 125 125
    go_enter Try.func95, Try.ntmps95
    go_wp2
    go_loopw [12] (fun i wr => ∃ (k : Nat) (v : Value) (D : DataW Unit), k ≤ ss.length ∧ i = .int .i64 k ∧ TabSt w wr ss k v D) (fun i _ => ss.length - (intOf i).toNat)
    case atStart => exact ⟨0, _, _, Nat.zero_le _, rfl, S⟩
    case round =>
      obtain ⟨k, v, D, hk, rfl, T⟩ := hrel
      clear S
      by_cases hk' : k < ss.length
      · obtain ⟨c0, c1, c2⟩ := hc k hk'
        have d0 := (T.below.cell (p := ⟨b, off + k * 3, none⟩) hlt).trans c0
        have d1 := (T.below.cell (p := ⟨b, off + k * 3 + 1, none⟩) hlt).trans c1
        have d2 := (T.below.cell (p := ⟨b, off + k * 3 + 2, none⟩) hlt).trans c2
        have hkey : keyOf Try.prog 9 (.string ss[k].name) = some (.string ss[k].name.data.toList) := keyOf_string_mk Try.underlying9 (hsz _ (List.getElem_mem hk'))
        have hhas := (T.is.2 ss[k].name.data.toList).1
        have hws := T.size
        have hws2 : w.heap.size + 1 + 1 < wr.heap.size := by omega
        have g0 := T.g0
        have g1 := T.g1
        have fg1 := T.fg1
        have ha := again_len ss k
        clear c0 c1 c2 hc
        by_cases hs : (idx (ss.take k) ss[k].name.data.toList).isSome = true
        · rw [hs] at hhas
          go_wp2_with (first
            | (at_lookup; refine wpList_lookup_own_ok_int _ rfl _ _ 123 rfl 9 3 .i64 law9 Try.underlying123 Try.underlying3 (zero3 _) (w.heap.size + 1) k D rfl (T.map.alloc _) _ _ rfl hkey ?_; intro c hat hwc; clear hat hwc; rw [hhas])
            | (at_builtin; (refine wpList_append_own _ rfl (.tmp 27) (.tmp 29) 37 rfl (w.heap.size + 3) 3 i0 (.int .i64 0) 1 8 Try.underlying37 hi hz0 hz1 hz2 rfl (by decide) _ _ _ rfl ((T.row.alloc _).alloc _) ⟨wr.heap.size + 1, 0, none⟩ 1 1 [.int .i64 k] rfl rfl (one_new' _ _ _ _ (by simp)) (one_cell _) (by unfold maxLen; omega) (by omega) (by simp; omega) ?_; intro v2 w2 hown2 hgrow2 hnil2; clear hnil2; have hg2 : ((wr.alloc _).alloc _).grownBy w2 v.ownBlock := hgrow2; clear hgrow2; have T2 := ((T.alloc _).alloc _).seen hk' hs hown2 hg2; obtain ⟨hc2, hf2⟩ := ((T.alloc _).alloc _).far hg2; obtain ⟨g, c2, rfl⟩ := own_pos hown2; clear hown2 hg2 T)))
          go_roundw
          case rel => exact ⟨k + 1, _, D, by omega, by go_num, T2⟩
          case measure => simp [intOf]; omega
        · rw [Bool.not_eq_true] at hs
          rw [hs] at hhas
          go_wp2_with (first
            | (at_lookup; refine wpList_lookup_own_ok_int _ rfl _ _ 123 rfl 9 3 .i64 law9 Try.underlying123 Try.underlying3 (zero3 _) (w.heap.size + 1) k D rfl (T.map.alloc _) _ _ rfl hkey ?_; intro c hat hwc; clear hat hwc; rw [hhas])
            | (at_mapUpdate; (refine wpList_mapUpdate_own _ rfl _ _ _ 123 rfl 9 3 law9 Try.underlying123 _ (w.heap.size + 1) k D rfl (T.map.alloc _) (by unfold maxLen; omega) _ _ _ rfl rfl hkey _ [] (plainElem_int Try.underlying3 (WalkArith.wf_i64 (by omega))) ?_; intro w2 hown2 hgrow2; have T2 := (T.alloc _).fresh hk' hs hown2 hgrow2; clear hown2 hgrow2 T)))
          go_roundw
          case rel => exact ⟨k + 1, _, _, by omega, by go_num, T2⟩
          case measure => simp [intOf]; omega
      · have e : k = ss.length := by omega
        have T1 : TabSt w wr ss ss.length v D := e ▸ T
        have hm := T1.is
        rw [List.take_length] at hm
        have g0 := T1.g0
        have g1 := T1.g1
        have r0 := T1.r0
        have r1 := T1.r1
        have fr0 := T1.fr0
        have fr1 := T1.fr1
        have hw3 := T1.size
        clear e T
        obtain ⟨av, cv, rfl⟩ := own_shape T1.row
        have q0 : (wr.setCell ⟨w.heap.size, 0, none⟩ (.map (some (w.heap.size + 1)))).cell? ⟨w.heap.size, 0, none⟩ = some (.map (some (w.heap.size + 1))) := World.cell?_setCell_same _ _ _ r0
        have q1 : ((wr.setCell ⟨w.heap.size, 0, none⟩ (.map (some (w.heap.size + 1)))).setCell ⟨w.heap.size, 1, none⟩ (.slice av (againTo ss ss.length).length cv)).cell? ⟨w.heap.size, 1, none⟩ = some (.slice av (againTo ss ss.length).length cv) :=
          World.cell?_setCell_same _ _ _ (by rw [World.cell?_setCell_other _ _ _ _ (by simp)]; exact r1)
        go_wp2
        refine bodyPost_ret (v := .agg #[.map (some (w.heap.size + 1)), .slice av (againTo ss ss.length).length cv]) (by simp [results, Try.results95, go_sem, q0, q1]) rfl ⟨_, _, D, rfl, (T1.map.setCell (by simp) _).setCell (by simp) _, hm, ownsRow_setCell_below (ownsRow_setCell_below T1.row (by simp) _) (by simp) _, (T1.below.setCell (p := ⟨w.heap.size, 0, none⟩) (by simp) _).setCell (p := ⟨w.heap.size, 1, none⟩) (by simp) _, by simpa using T1.size⟩
end Go.Proofs.Ytpmmgplpmonolaa
