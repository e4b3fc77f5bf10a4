/- What the proof of FnExactApply stands on, part 7 of 10: each piece says what it proves and under which conditions. Conditions: as each piece says. -/
import Derived.Test.YtcbafmohmoicnabPackExactApply6
import Derived.Test.YtcbafmohmoicnabProg
import Derived.Maps.AppendAt
import Derived.Deep.Cut
import Derived.Deep.RegionHeld3
import Derived.Deep.Slices
import Derived.Deep.DeepMust
/- One form of a term, as the program makes it: the walk. Conditions: terms of at most 549755813888 parts. -/
namespace Go.Proofs.Ytcbafmohmoicnab
set_option maxRecDepth 100000
open Go.RowKit

set_option maxHeartbeats 6400000 in
set_option maxRecDepth 100000 in
theorem impNorm_any (sa : Option Addr) (ss : List SymD) (sc : Nat) (t : TermD) (a : Option Addr) (c hi : Nat) (w : World) (hs : RdS w sa ss) (hp : partsT t ≤ 549755813888) (hr : RdK w hi a t.kids) (hhi : hi ≤ w.heap.size) (hc : t.kids.length ≤ c) (hwf : isW t.f ∧ isW t.v) :
    Calls Try.prog 69 #[.slice sa ss.length sc, .agg #[.int .i64 t.f, .int .i64 t.v, .slice a t.kids.length c]] w fun e w' => ∃ a' c', e = .returned (.agg #[.int .i64 t.f, .int .i64 t.v, .slice a' (normT (blindAt ss) t).kids.length c']) ∧ OwnS w' (fun k => w.heap.size ≤ k ∧ k < w'.heap.size) a' (normT (blindAt ss) t).kids ∧ (normT (blindAt ss) t).kids.length ≤ c' ∧ Below w.heap.size w w' := by
  obtain ⟨W, hW⟩ : ∃ W, W = (w.alloc (.cells #[.int .i64 t.f, .int .i64 t.v, .slice a t.kids.length c] 32)).alloc (.cells #[.int .i64 0, .int .i64 0, .slice none 0 0] 32) := ⟨_, rfl⟩
  have hb0 : Below w.heap.size w W := by rw [hW]; exact ((Below.refl _ _).alloc (Nat.le_refl _) _).alloc (by simp) _
  have hz0 : W.heap.size = w.heap.size + 1 + 1 := by rw [hW]; simp
  have nb0 : NB w W := ⟨hb0, by rw [hW]; simp [go_sem], by rw [hW]; simp [go_sem], by rw [hW]; simp [go_sem], fun j => by rw [hW]; simp [go_sem], by omega⟩
  have CO := opened_any sa ss sc w.heap.size (w.heap.size + 1 + 1) [] none 0 t a c W (hs.below hb0) (.start (by omega) (by omega)) (by simp) ((hr.mono hhi).on hb0) hc hwf
  have HS : Hid (∀ W', Below w.heap.size w W' → RdS W' sa ss) := fun W' h => hs.below h
  have HR : Hid (∀ (f v : Int), (normT (blindAt ss) t).f = t.f ∧ (normT (blindAt ss) t).v = t.v) := fun _ _ => by rw [normT_eq]; exact ⟨rfl, rfl⟩
  have hpt := partsT_eq t
  clear hs hr hhi
  simp only [List.length_nil, Nat.zero_add] at CO
  go_enter Try.func69, Try.ntmps69
  go_wp2_with (go_at_call 84; rw [← hW]; refine CO.mono ?_; rintro e w1 ⟨g1, c1, rfl, st1, sy1⟩; clear CO hW)
  have I1 : NI w (blindAt ss) t (partsT t) (1 + 2 * partsL t.kids) [opn t a c (isHome (blindAt ss) t [])] g1 c1 w1 := ⟨st1, .inl ⟨rfl, rfl⟩, by simp [todo, FM.d, opn], by simp [bulkP, FM.d, opn, partsL]; omega, by
    have := fin_start (bl := blindAt ss) t
    exact this, nb0.stay sy1⟩
  clear st1 sy1 nb0 hb0 hz0 hc hwf
  go_loopg [5] (1 + 2 * partsL t.kids) (fun k s5 wr => ∃ (F : List FM) (g cv : Nat), s5 = .slice (some ⟨g, 0, none⟩) F.length cv ∧ NI w (blindAt ss) t (partsT t) k F g cv wr)
  case atStart => exact ⟨_, g1, c1, rfl, I1⟩
  case round =>
    obtain ⟨F, g, cv, rfl, I⟩ := hrel
    clear I1
    cases F with
    | nil => exact I.hh.elim
    | cons x r =>
      simp only [List.length_cons]
      have hlen := I.len
      have hmade := I.made
      have hlf := I.lefts
      have hgl := (I.st.row.lt g rfl)
      have hcv : r.length + 1 ≤ cv := by obtain ⟨_, _, e, hh⟩ := own_form I.st.row; rw [(Value.slice.inj e).2.2]; exact hh
      have hcvz : (r.length : Int) ≤ (cv : Int) := by omega
      obtain ⟨q0, q1, q2, q3, q4, q5⟩ := top_cells I.st
      cases hxl : x.left with
      | nil =>
        have CT := takeKid_none _ _ x r g cv wr I.st (by omega) hxl
        cases hxh : x.hm with
        | false =>
          have hrh : hasHome r := botH_has (I.hh.resolve_left (fun q => by rw [hxh] at q; simp at q))
          have hix := home_lt hrh
          have e5 : homeIx (x :: r) = homeIx r := by simp [homeIx, hxh]
          rw [e5] at q5
          have hixz : ((homeIx r : Nat) : Int) < (r.length : Int) := by omega
          generalize homeIx r = ix at *
          have HI : Hid _ := I
          have HX : Hid (x.left = [] ∧ x.hm = false) := ⟨hxl, hxh⟩
          rw [hxl] at q3
          clear I hmade hlf hxl hxh e5 hrh
          go_wp2_with (go_at_call 85; refine CT.mono ?_; rintro e w2 ⟨rfl, hb2⟩; clear CT; have k0 := keepC hb2 q0; have k1 := keepC hb2 q1; have k2 := keepC hb2 q2; have k3 := keepC hb2 q3; have k4 := keepC hb2 q4; have k5 := keepC hb2 q5; have hg2 := Nat.lt_of_lt_of_le hgl.2 hb2.size; clear q0 q1 q2 q3 q4 q5)
          have hbF : ∀ o1 o2, Below wr.heap.size wr ((w2.alloc o1).alloc o2) := fun o1 o2 => (hb2.alloc hb2.size o1).alloc (by have := hb2.size; simp; omega) o2
          obtain ⟨D1, D2⟩ := HI.out.drop HX.out.1 HX.out.2 (hbF _ _)
          go_roundg (gk - 1)
          case measure => omega
          case rel => exact ⟨r, g, cv, rfl, D1⟩
        | true =>
          have e5 : homeIx (x :: r) = r.length := by simp [homeIx, hxh]
          rw [e5] at q5
          rw [hxl] at q3
          simp only [List.length_nil] at q3
          have hxS : ∀ k, x.S k → w.heap.size + 1 + 1 ≤ k ∧ k < wr.heap.size := fun k hk => (I.st.fr x (by simp)).lt k hk
          have hwfx := (I.st.fr x (by simp)).wf
          have CC : ∀ W', Below wr.heap.size wr W' → Calls Try.prog 86 #[.agg #[.int .i64 x.t.f, .int .i64 x.t.v, .slice x.a x.t.kids.length x.c, .slice x.al 0 x.cl, .slice x.am x.L.length x.cm, .int .i64 (r.length : Nat)], .slice sa ss.length sc] W' fun e w' => ∃ T : TermD, T = closeT (blindAt ss) x.t.f x.t.v (x.L.map FE.t) ∧ e = .returned (.agg #[.int .i64 T.f, .int .i64 T.v, .slice x.am T.kids.length T.kids.length]) ∧ OwnS w' x.S x.am T.kids ∧ Stay (fun k => k < W'.heap.size ∧ ¬ x.S k) W' w' := fun W' hb => by
            have := closed_any sa ss sc _ _ r.length x W' (HS.out W' (I.nb.be.trans (hb.mono I.nb.be.size))) ((I.st.on hb).fr x (by simp)) (by have := hmade x (by simp); omega)
            rw [hxl] at this
            exact this
          have CN : ∀ W' w4, Below wr.heap.size wr W' → Stay (fun k => k < W'.heap.size ∧ ¬ x.S k) W' w4 → NB w w4 := fun W' w4 hb hs => (I.nb.on hb).stay (hs.weak (fun k hk hk2 => ⟨hk, fun q => by have := hxS k q; omega⟩))
          cases r with
          | nil =>
            have hfin := I.fin
            rw [List.map_cons, List.map_nil, fin_end (show x.d.left = [] from hxl) (show x.d.home = true from hxh)] at hfin
            have HF : Hid (closeT (blindAt ss) x.t.f x.t.v (x.L.map FE.t) = normT (blindAt ss) t) := hfin
            have HX : Hid (∀ k, x.S k → w.heap.size + 1 + 1 ≤ k ∧ k < wr.heap.size) := hxS
            clear I hmade hlf hxl hxh e5 hfin hxS
            simp only [List.length_nil] at *
            go_wp2_with (first
              | (go_at_call 85; refine CT.mono ?_; rintro e w2 ⟨rfl, hb2⟩; clear CT; have k0 := keepC hb2 q0; have k1 := keepC hb2 q1; have k2 := keepC hb2 q2; have k3 := keepC hb2 q3; have k4 := keepC hb2 q4; have k5 := keepC hb2 q5; have hg2 := Nat.lt_of_lt_of_le hgl.2 hb2.size; have hb3 : Below wr.heap.size wr ((w2.alloc (.cells #[.int .i64 0, .int .i64 0, .slice none 0 0] 32)).alloc (.cells #[.int .i64 x.t.f, .int .i64 x.t.v, .slice x.a x.t.kids.length x.c, .slice x.al 0 x.cl, .slice x.am x.L.length x.cm, .int .i64 0] 123)) := ((hb2.alloc hb2.size _).alloc (by have := hb2.size; simp; omega) _); clear q0 q1 q2 q3 q4 q5)
              | (go_at_call 86; refine (CC _ hb3).mono ?_; rintro e w4 ⟨TT, hTT, rfl, ho4, hs4⟩; have HT : Hid (TT = closeT (blindAt ss) x.t.f x.t.v (x.L.map FE.t)) := hTT; clear hTT; have nb4 := CN _ _ hb3 hs4; have d0 := nb4.c0; have d1 := nb4.c1; have d2 := nb4.c2; have df := nb4.cf; have hz4 : w.heap.size + 1 < w4.heap.size := nb4.z; clear k0 k1 k2 k3 k4 k5))
            obtain ⟨z0, z1, z2⟩ := set3_cells (u := w4) (r := w.heap.size + 1) (x := .int .i64 TT.f) (y := .int .i64 TT.v) (z := .slice x.am TT.kids.length TT.kids.length) d0 d1 d2
            have hTn : TT = normT (blindAt ss) t := HT.out.trans HF.out
            have hnS : ∀ j, ¬ x.S (⟨w.heap.size + 1, j, none⟩ : Addr).block := fun j q => by have := (HX.out _ q).1; simp only at this; omega
            have hoF := ((ho4.setCell ⟨w.heap.size + 1, 0, none⟩ (hnS 0) (.int .i64 TT.f)).setCell ⟨w.heap.size + 1, 1, none⟩ (hnS 1) (.int .i64 TT.v)).setCell ⟨w.heap.size + 1, 2, none⟩ (hnS 2) (.slice x.am TT.kids.length TT.kids.length)
            have hbF := ((nb4.be.setCell (p := ⟨w.heap.size + 1, 0, none⟩) (by simp) (.int .i64 TT.f)).setCell (p := ⟨w.heap.size + 1, 1, none⟩) (by simp) (.int .i64 TT.v)).setCell (p := ⟨w.heap.size + 1, 2, none⟩) (by simp) (.slice x.am TT.kids.length TT.kids.length)
            obtain ⟨W5, hW5⟩ : ∃ W5, W5 = ((w4.setCell ⟨w.heap.size + 1, 0, none⟩ (.int .i64 TT.f)).setCell ⟨w.heap.size + 1, 1, none⟩ (.int .i64 TT.v)).setCell ⟨w.heap.size + 1, 2, none⟩ (.slice x.am TT.kids.length TT.kids.length) := ⟨_, rfl⟩
            rw [← hW5] at z0 z1 z2 hoF hbF ⊢
            have hz5 : W5.heap.size = w4.heap.size := by rw [hW5]; simp
            have hb6 : Below W5.heap.size W5 (W5.alloc (.cells #[.int .i64 TT.f, .int .i64 TT.v, .slice x.am TT.kids.length TT.kids.length] 32)) := (Below.refl _ _).alloc (Nat.le_refl _) _
            have y0 := keepC hb6 z0
            have y1 := keepC hb6 z1
            have y2 := keepC hb6 z2
            have hlt : ∀ k, x.S k → w.heap.size ≤ k ∧ k < W5.heap.size := fun k hk => by have := HX.out k hk; have := hb3.size; have := hs4.size; omega
            obtain ⟨e1, e2⟩ := HR.out 0 0
            rw [← hTn] at e1 e2 ⊢
            rw [← e1, ← e2]
            refine bodyPost_ret (v := .agg #[.int .i64 TT.f, .int .i64 TT.v, .slice x.am TT.kids.length TT.kids.length]) (by simp [results, Try.results69, go_sem, y0, y1, y2]) rfl ⟨x.am, TT.kids.length, rfl, ?_, Nat.le_refl _, hbF.trans (hb6.mono hbF.size)⟩
            exact (hoF.frame (fun k hk => hb6.block k (hlt k hk).2) hb6.size).mono (fun k hk => ⟨(hlt k hk).1, Nat.lt_of_lt_of_le (hlt k hk).2 hb6.size⟩)
          | cons y r' =>
            have hrh : hasHome (y :: r') := botH_has (botH_rest I.hh (by simp))
            have hdis := (List.pairwise_cons.1 I.st.dis).1
            have hgx := I.st.vb g rfl x (by simp)
            have CP : ∀ W' w4 (TT : TermD), Below wr.heap.size wr W' → OwnS w4 x.S x.am TT.kids → Stay (fun k => k < W'.heap.size ∧ ¬ x.S k) W' w4 → Hid (TT = closeT (blindAt ss) x.t.f x.t.v (x.L.map FE.t)) → ∀ w5, Below w4.heap.size w4 w5 →
                Calls Try.prog 87 #[.slice (some ⟨g, 0, none⟩) (r'.length + 1) cv, .agg #[.int .i64 TT.f, .int .i64 TT.v, .slice x.am TT.kids.length TT.kids.length]] w5 fun e w6 => e = .returned (.tuple #[]) ∧ ∃ F', F'.length = r'.length + 1 ∧ NI w (blindAt ss) t (partsT t) (gk - 1) F' g cv w6 ∧ 1 ≤ gk := fun W' w4 TT hb ho hs hT w5 hb5 => by
              have hS := fun k hk => (I.st.fr x (by simp)).lt k hk
              have st1 := (I.st.on hb).pop.keep (S := fun k => k < W'.heap.size ∧ ¬ x.S k) hs (fun k hk => ⟨by have := I.nb.z; have := hb.size; omega, fun q => by have := (hS k q).1; omega⟩) (fun z hz k hk => ⟨(((I.st.on hb).fr z (List.mem_cons_of_mem _ hz)).lt k hk).2, fun q => hdis z hz k q hk⟩) (fun g' hg' => by
                have e0 : g = g' := by simpa [Value.ownBlock] using hg'
                subst e0
                exact ⟨Nat.lt_of_lt_of_le hgl.2 hb.size, hgx⟩)
              have st2 := st1.on hb5
              have nb5 := (CN W' w4 hb hs).on hb5
              have eT : TT.f = x.t.f ∧ TT.v = x.t.v := by rw [hT.out]; exact ⟨rfl, rfl⟩
              have hP := put_any w.heap.size (w.heap.size + 1 + 1) (y :: r') g cv ⟨TT, x.am, TT.kids.length, x.S⟩ w5 st2 hrh (by omega) ⟨ho.frame (fun k hk => hb5.block k (by have := (hS k hk).2; have := hb.size; have := hs.size; omega)) hb5.size, Nat.le_refl _, by rw [eT.1, eT.2]; exact hwfx, fun k hk => ⟨(hS k hk).1, by have := (hS k hk).2; have := hb.size; have := hs.size; have := hb5.size; omega⟩⟩ (fun z hz k hk => hdis z hz k hk) hgx (by
                have h1 := hmade _ (List.mem_cons_of_mem x (home_mem hrh))
                have h2 := partsL_len ((homeFr (y :: r')).L.map FE.t)
                simp at h2
                omega)
              refine hP.mono ?_
              rintro e w6 ⟨g2, c2, rfl, st3, sy3⟩
              obtain ⟨C1, C2⟩ := I.close hxl hxh (by simp) hT.out (e := ⟨TT, x.am, TT.kids.length, x.S⟩) rfl st3 (nb5.stay sy3)
              exact ⟨rfl, _, by rw [putHome_len]; simp, C1, C2⟩
            simp only [List.length_cons] at *
            clear I hmade hlf hxl hxh e5 hxS hdis hgx hrh HR
            go_wp2_with (first
              | (go_at_call 85; refine CT.mono ?_; rintro e w2 ⟨rfl, hb2⟩; clear CT; have k0 := keepC hb2 q0; have k1 := keepC hb2 q1; have k2 := keepC hb2 q2; have k3 := keepC hb2 q3; have k4 := keepC hb2 q4; have k5 := keepC hb2 q5; have hg2 := Nat.lt_of_lt_of_le hgl.2 hb2.size; have hb3 : Below wr.heap.size wr ((w2.alloc (.cells #[.int .i64 0, .int .i64 0, .slice none 0 0] 32)).alloc (.cells #[.int .i64 x.t.f, .int .i64 x.t.v, .slice x.a x.t.kids.length x.c, .slice x.al 0 x.cl, .slice x.am x.L.length x.cm, .int .i64 ((r'.length + 1 : Nat) : Int)] 123)) := ((hb2.alloc hb2.size _).alloc (by have := hb2.size; simp; omega) _); clear q0 q1 q2 q3 q4 q5)
              | (go_at_call 86; refine (CC _ hb3).mono ?_; rintro e w4 ⟨TT, hTT, rfl, ho4, hs4⟩; have HT : Hid (TT = closeT (blindAt ss) x.t.f x.t.v (x.L.map FE.t)) := hTT; clear hTT; have nb4 := CN _ _ hb3 hs4; have P5 := CP _ _ TT hb3 ho4 hs4 HT; clear k0 k1 k2 k3 k4 k5)
              | (go_at_call 87; refine (P5 _ ((Below.refl _ _).alloc (Nat.le_refl _) _)).mono ?_; rintro e w6 ⟨rfl, F', hF', J, hgk⟩))
            go_roundg (gk - 1)
            case measure => omega
            case rel => exact ⟨F', g, cv, by rw [hF'], J⟩
      | cons k ks =>
        have CT := takeKid_some _ _ x r g cv k ks wr I.st (by omega) hxl (by rw [hxl] at hlf; simp at hlf; omega)
        have CO : ∀ (ak : Option Addr) (ck : Nat) (al : Option Addr) (cl : Nat) w2, NSt w.heap.size (w.heap.size + 1 + 1) ({ x with left := ks, al := al, cl := cl } :: r) (.slice (some ⟨g, 0, none⟩) (r.length + 1) cv) w2 → RdK w2 w.heap.size ak k.kids → k.kids.length ≤ ck → (isW k.f ∧ isW k.v) → Stay (fun k => k < w.heap.size + 1 + 1) wr w2 → ∀ w3, Below w2.heap.size w2 w3 →
            Calls Try.prog 84 #[.slice (some ⟨g, 0, none⟩) (r.length + 1) cv, .slice sa ss.length sc, .agg #[.int .i64 k.f, .int .i64 k.v, .slice ak k.kids.length ck]] w3 fun e w4 => ∃ g' cv', e = .returned (.slice (some ⟨g', 0, none⟩) (r.length + 1 + 1) cv') ∧ ∃ F', F'.length = r.length + 1 + 1 ∧ NI w (blindAt ss) t (partsT t) (gk - 1) F' g' cv' w4 ∧ 1 ≤ gk := fun ak ck al cl w2 st hrk hck hwk hsy w3 hb3 => by
          have nb3 := (I.nb.stay hsy).on hb3
          refine (opened_any sa ss sc w.heap.size (w.heap.size + 1 + 1) ({ x with left := ks, al := al, cl := cl } :: r) (some ⟨g, 0, none⟩) cv k ak ck w3 (HS.out w3 nb3.be) (st.on hb3) (by simp; omega) (hrk.on (hb3.mono (by have := (I.nb.stay hsy).z; omega))) hck hwk).mono ?_
          rintro e w4 ⟨g', cv', rfl, st4, sy4⟩
          obtain ⟨C1, C2⟩ := I.opn hxl st4 (nb3.stay sy4)
          exact ⟨g', cv', rfl, _, by simp, C1, C2⟩
        clear I hmade hlf hxl q0 q1 q2 q3 q4 q5 HR
        go_wp2_with (first
          | (go_at_call 85; refine CT.mono ?_; rintro e w2 ⟨ak, ck, al, cl, rfl, st2, hrk2, hck2, hwk2, hsy2⟩; clear CT; have CO2 := CO ak ck al cl w2 st2 hrk2 hck2 hwk2 hsy2; clear CO st2 hrk2 hwk2 hsy2)
          | (go_at_call 84; refine (CO2 _ ((Below.refl _ _).alloc (Nat.le_refl _) _)).mono ?_; rintro e w4 ⟨g', cv', rfl, F', hF', J, hgk⟩))
        go_roundg (gk - 1)
        case measure => omega
        case rel => exact ⟨F', g', cv', by rw [hF'], J⟩
end Go.Proofs.Ytcbafmohmoicnab

/- The specification's l4Put at an empty list. Conditions: none. -/
namespace Go.Proofs.Ytcbafmohmoicnab
set_option maxRecDepth 100000
open Go.RowKit

set_option maxHeartbeats 1600000 in
set_option maxRecDepth 100000 in
theorem l4Put_nil (e : FE) (w : World) :
    Calls Try.prog 65 #[.slice none 0 0, .agg #[.int .i64 e.t.f, .int .i64 e.t.v, .slice e.a e.t.kids.length e.c]] w fun en w' => ∃ g' c', en = .returned (.slice (some ⟨g', 0, none⟩) (0 + 1) c') ∧ w'.ownsRow w.heap.size 32 3 (.slice (some ⟨g', 0, none⟩) (0 + 1) c') (0 + 1) (cs3 ((putF e []).map FE.cells)) ∧ Below w.heap.size w w' := by
  obtain ⟨i0, hi0, hz0, hz1, hz2⟩ := info_parts info29
  have hs1 := slice_to none 0 0 0 (Nat.le_refl _)
  have hs2 := sliceAt_to none 0 0 0 (Nat.le_refl _)
  go_enter Try.func65, Try.ntmps65
  go_wp2_with fail
  refine wp_loop_rounds 1 ?_
  rw [rounds_succ]
  go_wp2_with fail
  go_quiet ((fail))
  have hb0 : Below w.heap.size w ((w.alloc (.cells #[.int .i64 e.t.f, .int .i64 e.t.v, .slice e.a e.t.kids.length e.c] 32)).drewN nq) := below_drewN ((Below.refl w.heap.size w).alloc (Nat.le_refl _) _) nq
  have c0 : ((w.alloc (.cells #[.int .i64 e.t.f, .int .i64 e.t.v, .slice e.a e.t.kids.length e.c] 32)).drewN nq).cell? ⟨w.heap.size, 0, none⟩ = some (.int .i64 e.t.f) := keepC (below_drewN (Below.refl _ _) nq) (by simp [go_sem])
  have c1 : ((w.alloc (.cells #[.int .i64 e.t.f, .int .i64 e.t.v, .slice e.a e.t.kids.length e.c] 32)).drewN nq).cell? ⟨w.heap.size, 1, none⟩ = some (.int .i64 e.t.v) := keepC (below_drewN (Below.refl _ _) nq) (by simp [go_sem])
  have c2 : ((w.alloc (.cells #[.int .i64 e.t.f, .int .i64 e.t.v, .slice e.a e.t.kids.length e.c] 32)).drewN nq).cell? ⟨w.heap.size, 2, none⟩ = some (.slice e.a e.t.kids.length e.c) := keepC (below_drewN (Below.refl _ _) nq) (by simp [go_sem])
  generalize (w.alloc (.cells #[.int .i64 e.t.f, .int .i64 e.t.v, .slice e.a e.t.kids.length e.c] 32)).drewN nq = W at *
  have hz := hb0.size
  have hW : w.heap.size < W.heap.size := World.block_lt_of_cell? _ _ c0
  go_wp2_with (at_builtin; (refine wpList_append_own _ rfl (.tmp 27) (.tmp 29) 30 rfl w.heap.size 32 i0 _ 3 40 Try.underlying30 hi0 hz0 hz1 hz2 rfl (by decide) _ 0 [] rfl ((World.ownsRow_made W #[] 0 hb0.size (Nat.zero_le _) rfl).alloc _) ⟨W.heap.size + 1, 0, none⟩ 1 1 _ rfl rfl (three_new _ _ _ _ _ _ (by simp)) (three_cell _ _ _ _ _) (by unfold maxLen; omega) (by omega) (by simp; omega) ?_; intro v3 w3 hown3 hgrow3 hnil3; obtain ⟨g3, c3', rfl⟩ := own_any hown3 hnil3; have hg3 : ((W.alloc (.cells #[] 32)).alloc (.cells #[.int .i64 e.t.f, .int .i64 e.t.v, .slice e.a e.t.kids.length e.c] 32)).grownBy w3 (some W.heap.size) := hgrow3; have hB3 : Below w.heap.size w w3 := (((hb0.alloc hb0.size _).alloc (by simp; omega) _).grown hg3 (by simp; omega) (fun kk ee => by cases ee; omega)); have hc3 : 1 ≤ c3' := (by obtain ⟨_, _, h, hh⟩ := own_form hown3; cases h; omega); clear hnil3 hgrow3 hg3 c0 c1 c2))
  go_ret
  exact ⟨g3, c3', rfl, by simpa [putF, putK, cs3, FE.cells] using hown3, hB3⟩

theorem l4Put_any (base : Nat) (av : Option Addr) (cv : Nat) (L : List FE) (e : FE) (hi : Nat) (w : World) (hrow : w.ownsRow base 32 3 (.slice av L.length cv) L.length (cs3 (L.map FE.cells))) (hk : ∀ i, (h : i < L.length) → RdK w hi L[i].a L[i].t.kids) (he : RdK w hi e.a e.t.kids) (hhi : hi ≤ w.heap.size) (hp : partsT e.t ≤ 549755813888) (hl : L.length ≤ 549755813888) :
    Calls Try.prog 65 #[.slice av L.length cv, .agg #[.int .i64 e.t.f, .int .i64 e.t.v, .slice e.a e.t.kids.length e.c]] w fun en w' => ∃ g' c', en = .returned (.slice (some ⟨g', 0, none⟩) (L.length + 1) c') ∧ w'.ownsRow w.heap.size 32 3 (.slice (some ⟨g', 0, none⟩) (L.length + 1) c') (L.length + 1) (cs3 ((putF e L).map FE.cells)) ∧ Below w.heap.size w w' := by
  rcases hrow.2 with ⟨hv, h0⟩ | ⟨g, cap, cur, hv, _⟩
  · have hz : L = [] := List.length_eq_zero_iff.1 h0
    subst hz
    obtain ⟨rfl, rfl⟩ : av = none ∧ cv = 0 := by simpa using hv
    exact l4Put_nil e w
  · cases hv
    exact l4Put_some base g _ L e hi w hrow hk he hhi hp hl
end Go.Proofs.Ytcbafmohmoicnab

/- Whether a function is blind, as the specification tells it. Conditions: at most 1048577 functions. -/
namespace Go.Proofs.Ytcbafmohmoicnab
set_option maxRecDepth 100000
open Go.RowKit

set_option maxHeartbeats 800000 in
theorem specBlind_any (a : Option Addr) (ss : List SymD) (n cap : Nat) (f : Int) (w : World) (hn : n = ss.length) (hr : RdS w a ss) (hl : ss.length ≤ 1048577) (hf0 : -9223372036854775808 ≤ f) (hf1 : f ≤ 9223372036854775807) :
    Calls Try.prog 64 #[.slice a n cap, .int .i64 f] w fun e w' => e = .returned (.bool (blindAt ss f)) ∧ w' = w := by
  subst hn
  by_cases h0 : 0 ≤ f
  · by_cases h1 : f ≤ (ss.length : Int) - 1
    · obtain ⟨k, rfl⟩ := Int.eq_ofNat_of_zero_le h0
      have hk : k < ss.length := by omega
      rcases hr with rfl | ⟨b, off, rfl, hlt, hc⟩
      · simp at hk
      · obtain ⟨c0, c1, c2⟩ := hc k hk
        have hk2 : (k : Int) < (ss.length : Int) := by omega
        clear hc
        go_enter Try.func64, Try.ntmps64
        go_wp2_with go_in
        go_ret
        exact ⟨ret_bool (blindAt_in hk).symm, rfl⟩
    · have HN : Hid (blindAt ss f = false ∧ arityAt ss f = -1) := at_out (.inr (by omega))
      go_enter Try.func64, Try.ntmps64
      go_wp2_with go_in
      go_ret
      exact ⟨ret_bool HN.out.1.symm, rfl⟩
  · have HN : Hid (blindAt ss f = false ∧ arityAt ss f = -1) := at_out (.inl (by omega))
    go_enter Try.func64, Try.ntmps64
    go_wp2_with go_in
    go_ret
    exact ⟨ret_bool HN.out.1.symm, rfl⟩

end Go.Proofs.Ytcbafmohmoicnab

/- What lies in memory while the specification makes one form of a term. Conditions: none. -/
namespace Go.Proofs.Ytcbafmohmoicnab
set_option maxRecDepth 100000
open Go.RowKit

/-- The call's own three boxes: the term, the answer's place, what is made. -/
structure NC (w : World) (t : TermD) (a : Option Addr) (c : Nat) (vo : Value) (wr : World) : Prop where
  p0 : wr.cell? ⟨w.heap.size, 0, none⟩ = some (.int .i64 t.f)
  p2 : wr.cell? ⟨w.heap.size, 2, none⟩ = some (.slice a t.kids.length c)
  r0 : wr.cell? ⟨w.heap.size + 1, 0, none⟩ = some (.int .i64 0)
  r1 : wr.cell? ⟨w.heap.size + 1, 1, none⟩ = some (.int .i64 0)
  r2 : wr.cell? ⟨w.heap.size + 1, 2, none⟩ = some (.slice none 0 0)
  q0 : wr.cell? ⟨w.heap.size + 1 + 1, 0, none⟩ = some (.int .i64 t.f)
  q1 : wr.cell? ⟨w.heap.size + 1 + 1, 1, none⟩ = some (.int .i64 t.v)
  q2 : wr.cell? ⟨w.heap.size + 1 + 1, 2, none⟩ = some vo
  fr : ∀ j, wr.frozen? ⟨w.heap.size + 1, j, none⟩ = false
  fq : ∀ j, wr.frozen? ⟨w.heap.size + 1 + 1, j, none⟩ = false
  bel : Below w.heap.size w wr
  z : w.heap.size + 1 + 1 < wr.heap.size

namespace NC
variable {w : World} {t : TermD} {a : Option Addr} {c : Nat} {vo : Value} {wr wr' : World}
theorem stay (h : NC w t a c vo wr) (hs : Stay (fun k => k < w.heap.size + 1 + 1 + 1) wr wr') : NC w t a c vo wr' := by
  have hz := h.z
  exact ⟨hs.cell h.p0 (by simp only; omega), hs.cell h.p2 (by simp only; omega), hs.cell h.r0 (by simp only; omega), hs.cell h.r1 (by simp only; omega), hs.cell h.r2 (by simp only; omega), hs.cell h.q0 (by simp only; omega), hs.cell h.q1 (by simp only; omega), hs.cell h.q2 (by simp only; omega), fun j => (hs.frozen (p := ⟨w.heap.size + 1, j, none⟩) (by simp only; omega) (by simp only; omega)).trans (h.fr j), fun j => (hs.frozen (p := ⟨w.heap.size + 1 + 1, j, none⟩) (by simp only; omega) (by simp only; omega)).trans (h.fq j), h.bel.trans (hs.below h.bel.size (fun k hk => by omega)), Nat.lt_of_lt_of_le hz hs.size⟩
theorem on (h : NC w t a c vo wr) (hb : Below wr.heap.size wr wr') : NC w t a c vo wr' := h.stay (.of_below hb (fun _ hk _ => hk))
theorem set (h : NC w t a c vo wr) (vo' : Value) : NC w t a c vo' (wr.setCell ⟨w.heap.size + 1 + 1, 2, none⟩ vo') := by
  have e : ∀ b j, b ≠ w.heap.size + 1 + 1 → (wr.setCell ⟨w.heap.size + 1 + 1, 2, none⟩ vo').cell? ⟨b, j, none⟩ = wr.cell? ⟨b, j, none⟩ := fun b j hb => World.cell?_of_block (Below.heap_setCell _ _ _ _ hb)
  refine ⟨(e _ _ (by omega)).trans h.p0, (e _ _ (by omega)).trans h.p2, (e _ _ (by omega)).trans h.r0, (e _ _ (by omega)).trans h.r1, (e _ _ (by omega)).trans h.r2, ?_, ?_, World.cell?_setCell_same' _ _ _ (by rw [h.q2]; rfl), fun j => by rw [World.frozen?_setCell]; exact h.fr j, fun j => by rw [World.frozen?_setCell]; exact h.fq j, h.bel.setCell (p := ⟨w.heap.size + 1 + 1, 2, none⟩) (by simp only; omega) _, by simpa using h.z⟩
  · rw [World.cell?_setCell_other _ _ _ _ (by simp)]; exact h.q0
  · rw [World.cell?_setCell_other _ _ _ _ (by simp)]; exact h.q1
end NC

theorem own_lower' {w : World} {base base' : Nat} {e : TypeId} {size : Nat} {v : Value} {n : Nat} {xs : List Value} (h : w.ownsRow base e size v n xs) (hb : base' ≤ base) : w.ownsRow base' e size v n xs := by
  obtain ⟨h1, h2⟩ := h
  refine ⟨h1, ?_⟩
  rcases h2 with h2 | ⟨g, cap, cur, rfl, hg1, r⟩
  · exact .inl h2
  · exact .inr ⟨g, cap, cur, rfl, Nat.le_trans hb hg1, r⟩

/-- The row that is made, and whose terms it holds (those of M lie apart, too). -/
structure NR (B : Nat) (L M : List FE) (av : Option Addr) (cv : Nat) (wr : World) : Prop where
  row : wr.ownsRow B 32 3 (.slice av L.length cv) L.length (cs3 (L.map FE.cells))
  fo : Forest wr B (L ++ M)
  ap : ∀ g, (Value.slice av L.length cv).ownBlock = some g → ∀ e ∈ L ++ M, ¬ e.K g

namespace NR
variable {B : Nat} {L M : List FE} {av : Option Addr} {cv : Nat} {wr wr' : World}
theorem on (h : NR B L M av cv wr) (hb : Below wr.heap.size wr wr') : NR B L M av cv wr' := ⟨own_on h.row hb, h.fo.on hb, h.ap⟩
theorem set (h : NR B L M av cv wr) {p : Addr} (u : Value) (hp : p.block < B) : NR B L M av cv (wr.setCell p u) := by
  refine ⟨own_stay h.row (Stay.setCell (S := fun k => k ≠ p.block) _ _ (by simp)) (fun g hg => ?_), h.fo.setCell p u (fun e he hx => by have := ((h.fo.own e he).2.2.2 _ hx).1; omega), h.ap⟩
  have := (h.row.lt g hg).1
  show g ≠ p.block
  omega
theorem rd (h : NR B L M av cv wr) : ∀ i, (hi : i < L.length) → RdK wr wr.heap.size L[i].a L[i].t.kids := fun _ hi => (h.fo.own _ (List.mem_append_left _ (List.getElem_mem hi))).1.rd
/-- Into a new row, by its order. -/
theorem put {e : FE} {g c : Nat} (h : NR B L (e :: M) av cv wr) (hB : B ≤ wr.heap.size) (hb : Below wr.heap.size wr wr') (hrow : wr'.ownsRow wr.heap.size 32 3 (.slice (some ⟨g, 0, none⟩) (L.length + 1) c) (L.length + 1) (cs3 ((putF e L).map FE.cells))) :
    NR B (putF e L) M (some ⟨g, 0, none⟩) c wr' := by
  have hp : (putF e L ++ M).Perm (L ++ e :: M) := ((putF_perm e L).append_right M).trans (by simpa using (List.perm_middle (a := e) (l₁ := L) (l₂ := M)).symm)
  have hlt := hrow.lt g rfl
  refine ⟨by rw [putF_len]; exact own_lower' hrow hB, (h.fo.on hb).perm hp, fun g' hg' d hd => ?_⟩
  have e0 : g = g' := by simpa [Value.ownBlock] using hg'
  subst e0
  intro hx
  have := ((h.fo.own d (hp.subset hd)).2.2.2 _ hx).2
  omega
/-- At the row's end. -/
theorem app {e : FE} {v : Value} (h : NR B L (e :: M) av cv wr) (hg : wr.grownBy wr' (Value.slice av L.length cv).ownBlock) (hrow : wr'.ownsRow B 32 3 v (L.length + 1) (cs3 (L.map FE.cells) ++ [.int .i64 e.t.f, .int .i64 e.t.v, .slice e.a e.t.kids.length e.c])) (hat : v.ownBlock = (Value.slice av L.length cv).ownBlock ∨ v.ownBlock = some wr.heap.size) :
    ∃ g c, v = .slice (some ⟨g, 0, none⟩) (L.length + 1) c ∧ NR B (L ++ [e]) M (some ⟨g, 0, none⟩) c wr' := by
  obtain ⟨g, c, rfl, _⟩ := own_slot hrow
  have hf : Forest wr' B (L ++ e :: M) := by
    refine ⟨fun d hd => ?_, h.fo.dis⟩
    obtain ⟨h1, h2, h3, h4⟩ := h.fo.own d hd
    exact ⟨h1.frame (fun x hx => hg.block x (h4 x hx).2 (fun e => h.ap x e.symm d hd hx)) hg.size, h2, h3, fun x hx => ⟨(h4 x hx).1, Nat.lt_of_lt_of_le (h4 x hx).2 hg.size⟩⟩
  refine ⟨g, c, rfl, ?_, ?_, fun g' hg' d hd hx => ?_⟩
  · have e1 : cs3 ((L ++ [e]).map FE.cells) = cs3 (L.map FE.cells) ++ [.int .i64 e.t.f, .int .i64 e.t.v, .slice e.a e.t.kids.length e.c] := by simp [cs3, FE.cells]
    rw [e1, List.length_append]; exact hrow
  · simpa using hf
  · have e0 : g = g' := by simpa [Value.ownBlock] using hg'
    subst e0
    have hd' : d ∈ L ++ e :: M := by simpa using hd
    rcases hat with q | q
    · exact h.ap g q.symm d hd' hx
    · have : g = wr.heap.size := by simpa [Value.ownBlock] using q
      have := ((h.fo.own d hd').2.2.2 _ hx).2
      omega
end NR
end Go.Proofs.Ytcbafmohmoicnab

/- The specification's Norm: it makes one form of a term, in memory of its own. Conditions: terms of at most 549755813888 parts, at most 1048577 functions. -/
namespace Go.Proofs.Ytcbafmohmoicnab
set_option maxRecDepth 100000
open Go.RowKit

theorem fe_snoc (L : List FE) (e : FE) : (L ++ [e]).map FE.t = L.map FE.t ++ [e.t] := by simp

/-- A term that a call has just made is a forest of one. -/
theorem fe_one {w : World} {t : TermD} {a : Option Addr} {c n B : Nat} (h : OwnR w (fun x => n ≤ x ∧ x < w.heap.size) a c t.kids) (hc : t.kids.length ≤ c) (hf : isW t.f) (hv : isW t.v) (hB : B ≤ n) : Forest w B [⟨t, a, c, fun x => n ≤ x ∧ x < w.heap.size⟩] :=
  ⟨fun e he => by simp only [List.mem_singleton] at he; subst he; exact ⟨h, hc, ⟨hf, hv⟩, fun x hx => ⟨by omega, hx.2⟩⟩, by simp⟩

theorem NR.start (w : World) (B : Nat) : NR B [] [] none 0 w := ⟨World.ownsRow_nil w B 32 3, .nil _ _, fun g hg => by cases hg⟩
theorem NR.join {B : Nat} {L : List FE} {av : Option Addr} {cv : Nat} {wr w1 : World} (h : NR B L [] av cv wr) (hb : Below wr.heap.size wr w1) {M : List FE} (hm : Forest w1 B M) (hM : ∀ e ∈ M, ∀ x, e.K x → wr.heap.size ≤ x) : NR B L M av cv w1 := by
  have h1 := h.on hb
  refine ⟨h1.row, (by simpa using h1.fo : Forest w1 B L).append hm (fun e he d hd x hx hy => ?_), fun g hg d hd hx => ?_⟩
  · have := ((h.fo.own e (by simpa using he)).2.2.2 x hx).2
    have := hM d hd x hy
    omega
  · rcases List.mem_append.1 hd with hd | hd
    · exact h.ap g hg d (by simpa using hd) hx
    · have := (h.row.lt g hg).2
      have := hM d hd g hx
      omega

set_option maxHeartbeats 6400000 in
set_option maxRecDepth 100000 in
theorem specNorm_any (ss : List SymD) (sa : Option Addr) (sc : Nat) (hsl : ss.length ≤ 1048577) (N : Nat) : ∀ (t : TermD) (a : Option Addr) (c hi : Nat) (w : World), partsT t ≤ N → N ≤ 549755813888 → RdK w hi a t.kids → hi ≤ w.heap.size → isW t.f → isW t.v → RdS w sa ss →
    Calls Try.prog 43 #[.slice sa ss.length sc, .agg #[.int .i64 t.f, .int .i64 t.v, .slice a t.kids.length c]] w fun e w' => ∃ a' c', e = .returned (.agg #[.int .i64 t.f, .int .i64 t.v, .slice a' (normT (blindAt ss) t).kids.length c']) ∧ OwnR w' (fun x => w.heap.size ≤ x ∧ x < w'.heap.size) a' c' (normT (blindAt ss) t).kids ∧ (normT (blindAt ss) t).kids.length ≤ c' ∧ Below w.heap.size w w' := by
  induction N with
  | zero => intro t a c hi w h; rw [partsT_eq] at h; omega
  | succ N ih =>
    intro t a c hi w hN hM hr hhi hfw hvw hrs
    rw [partsT_eq] at hN
    obtain ⟨i0, hi0, hz0, hz1, hz2⟩ := info_parts info29
    have hKk : (normT (blindAt ss) t).kids = normL (blindAt ss) t.f t.kids [] := by rw [normT_eq]; rfl
    rw [hKk]
    clear hKk
    have hlen := partsL_len t.kids
    have HR : Hid (RdK w hi a t.kids) := hr
    have HS : Hid (RdS w sa ss) := hrs
    have BL := fun (w' : World) (h : RdS w' sa ss) => specBlind_any sa ss ss.length sc t.f w' rfl h hsl hfw.1 hfw.2
    have HW : Hid (isW t.f ∧ isW t.v) := ⟨hfw, hvw⟩
    clear hr hrs hfw hvw
    have C0 : NC w t a c (.slice none 0 0) (((w.alloc (.cells #[.int .i64 t.f, .int .i64 t.v, .slice a t.kids.length c] 32)).alloc (.cells #[.int .i64 0, .int .i64 0, .slice none 0 0] 32)).alloc (.cells #[.int .i64 t.f, .int .i64 t.v, .slice none 0 0] 32)) := by
      refine ⟨?_, ?_, ?_, ?_, ?_, ?_, ?_, ?_, fun j => ?_, fun j => ?_, (((Below.refl _ _).alloc (Nat.le_refl _) _).alloc (by simp) _).alloc (by simp; omega) _, ?_⟩
      all_goals simp [go_sem]
    go_enter Try.func43, Try.ntmps43
    go_wp2_with fail
    go_loopw [6] (fun i wr => ∃ (k : Nat) (L : List FE) (av : Option Addr) (cv : Nat), k ≤ t.kids.length ∧ i = .int .i64 k ∧ NC w t a c (.slice av L.length cv) wr ∧ NR (w.heap.size + 1 + 1 + 1) L [] av cv wr ∧ Hid (L.map FE.t = normL (blindAt ss) t.f (t.kids.take k) [])) (fun i _ => t.kids.length - (intOf i).toNat)
    case atStart => exact ⟨0, [], none, 0, Nat.zero_le _, rfl, C0, NR.start _ _, by show _ = _; simp [normL]⟩
    case round =>
      obtain ⟨k, L, av, cv, hk, rfl, C, R, HL⟩ := hrel
      clear C0
      have p0 := C.p0
      have p2 := C.p2
      have hz := C.z
      by_cases hk' : k < t.kids.length
      · obtain ⟨b, off, a', c', rfl, hlt, d0, d1, d2, hkr⟩ := RdK.kid (HR.out.on (C.bel.mono hhi)) hk'
        have hints := HR.out.ints hk'
        have hpg := partsL_get hk'
        have hki : (k : Int) < (t.kids.length : Int) := by omega
        have hki0 : (0 : Int) ≤ (k : Int) := by omega
        have I := ih t.kids[k] a' c' hi wr (by omega) (by omega) hkr (Nat.le_trans hhi C.bel.size) hints.1 hints.2 (HS.out.below C.bel)
        have HLk : Hid (normL (blindAt ss) t.f (t.kids.take (k + 1)) [] = stepN (blindAt ss t.f) t.f (normT (blindAt ss) t.kids[k]) (L.map FE.t)) := by
          show _ = _
          rw [normL_next _ _ hk', HL.out]
        have hLl : L.length ≤ 549755813888 := by
          have h1 := normL_parts (blindAt ss) t.f (t.kids.take k) []
          have h2 := partsL_take t.kids k
          have h3 := partsL_len (L.map FE.t)
          rw [HL.out] at h3
          simp [partsL, HL.out.symm] at h1 h3
          omega
        obtain ⟨K1, hK1⟩ : ∃ K1, K1 = normT (blindAt ss) t.kids[k] := ⟨_, rfl⟩
        have HK1f : Hid (K1.f = t.kids[k].f ∧ K1.v = t.kids[k].v ∧ partsT K1 ≤ 549755813888) := by
          have h1 := normT_parts (blindAt ss) t.kids[k]
          rw [← hK1] at h1
          refine ⟨by rw [hK1, normT_eq]; rfl, by rw [hK1, normT_eq]; rfl, by omega⟩
        rw [← hK1] at I HLk
        have hK1f := HK1f.out.1
        have hK1v := HK1f.out.2.1
        rw [← hK1f] at d0 I
        rw [← hK1v] at d1 I
        have HKp : Hid (partsT K1 ≤ partsT t.kids[k]) := by show _ ≤ _; rw [hK1]; exact normT_parts _ _
        have HIf : Hid (isW K1.f ∧ isW K1.v) := by show isW K1.f ∧ isW K1.v; rw [hK1f, hK1v]; exact hints
        clear hK1 hkr hints hK1f hK1v
        cases hbl : blindAt ss t.f with
        | false =>
          rw [hbl] at BL HLk
          clear hbl
          go_wp2_with (first
            | (go_at_call 43; refine I.mono ?_; rintro e1 w1 ⟨a1, c1, rfl, o1, hle1, hb1⟩; clear I p0 p2 d0 d1 d2; have C1 := C.on hb1; have R1 := R.join hb1 (fe_one o1 hle1 HIf.out.1 HIf.out.2 (Nat.le_of_lt_succ (by omega))) (fun e he x hx => by simp only [List.mem_singleton] at he; subst he; exact hx.1); have C3 := (C1.on ((Below.refl w1.heap.size w1).alloc (Nat.le_refl _) (.cells #[.int .i64 K1.f, .int .i64 K1.v, .slice a1 K1.kids.length c1] 32))).on ((Below.refl _ _).alloc (Nat.le_refl _) (.cells #[.int .i64 K1.f, .int .i64 K1.v, .slice a1 K1.kids.length c1] 32)); have R3 := (R1.on ((Below.refl w1.heap.size w1).alloc (Nat.le_refl _) (.cells #[.int .i64 K1.f, .int .i64 K1.v, .slice a1 K1.kids.length c1] 32))).on ((Below.refl _ _).alloc (Nat.le_refl _) (.cells #[.int .i64 K1.f, .int .i64 K1.v, .slice a1 K1.kids.length c1] 32)); have p0 := C1.p0; have p2 := C1.p2; have q2 := C1.q2; have y0 := C1.z; have y1 : w.heap.size + 1 < w1.heap.size := (by omega); have y2 : w.heap.size < w1.heap.size := (by omega); clear C R R1 hb1 o1 hz)
            | (go_at_call 64; refine (BL _ ?_).mono ?_; exact (HS.out.below (C1.bel.alloc C1.bel.size _)); rintro e2 w2 ⟨rfl, hw⟩; subst w2)
            | (at_builtin; (refine wpList_append_own_at _ rfl (.tmp 51) (.tmp 53) 30 rfl (w.heap.size + 1 + 1 + 1) 32 i0 _ 3 40 Try.underlying30 hi0 hz0 hz1 hz2 rfl (by decide) _ L.length _ rfl R3.row ⟨w1.heap.size + 1, 0, none⟩ 1 1 _ rfl rfl (three_new _ _ _ _ _ _ (by simp)) (three_cell _ _ _ _ _) (by unfold maxLen; omega) (by omega) (by simp; omega) ?_; intro v4 w4 hown4 hgrow4 hnil4 hat4; clear hnil4; have hg4 : ((w1.alloc (.cells #[.int .i64 K1.f, .int .i64 K1.v, .slice a1 K1.kids.length c1] 32)).alloc (.cells #[.int .i64 K1.f, .int .i64 K1.v, .slice a1 K1.kids.length c1] 32)).grownBy w4 (Value.slice av L.length cv).ownBlock := hgrow4; have hat5 : v4.ownBlock = (Value.slice av L.length cv).ownBlock ∨ v4.ownBlock = some ((w1.alloc (.cells #[.int .i64 K1.f, .int .i64 K1.v, .slice a1 K1.kids.length c1] 32)).alloc (.cells #[.int .i64 K1.f, .int .i64 K1.v, .slice a1 K1.kids.length c1] 32)).heap.size := hat4; have C4 := C3.stay (.grown hg4 (fun k e hk => by have := (R3.row.lt k e).1; omega)); obtain ⟨g4, c4, rfl, R4⟩ := R3.app hg4 hown4 hat5; have q4 := C4.q2; have f4 := C4.fq 2; clear hgrow4 hat4 hg4 hat5 hown4 C3 R3 p0 p2 q2)))
          refine ⟨⟨k + 1, L ++ [⟨K1, a1, c1, fun x => wr.heap.size ≤ x ∧ x < w1.heap.size⟩], some ⟨g4, 0, none⟩, c4, by omega, by go_num, by simpa using C4.set (.slice (some ⟨g4, 0, none⟩) (L.length + 1) c4), R4.set _ (by simp only; omega), ?_⟩, by simp [intOf]; omega⟩
          show _ = _
          rw [fe_snoc, HLk.out]
          simp [stepN]
        | true =>
          rw [hbl] at BL HLk
          clear hbl
          by_cases hkf : K1.f = t.f
          · have hkf' : (K1.f != t.f) = false := by simp [hkf]
            have HLs : Hid (stepN true t.f K1 (L.map FE.t) = K1.kids.foldl (fun o x => putT x o) (L.map FE.t)) := by show _ = _; simp [stepN, hkf]
            clear hkf
            go_wp2_with (first
              | (go_at_call 43; refine I.mono ?_; rintro e1 w1 ⟨a1, c1, rfl, o1, hle1, hb1⟩; clear I p0 p2 d0 d1 d2; have C1 := C.on hb1; obtain ⟨F, hFt, hFf, hFK, hFc⟩ := OwnR.forest (B := w.heap.size + 1 + 1 + 1) o1 (fun x hx => ⟨by omega, hx.2⟩); have R1 := R.join hb1 hFf (fun e he x hx => (hFK e he x hx).1); have hbk : Below w1.heap.size w1 (w1.alloc (.cells #[.int .i64 K1.f, .int .i64 K1.v, .slice a1 K1.kids.length c1] 32)) := ((Below.refl w1.heap.size w1).alloc (Nat.le_refl _) _); have C3 := C1.on hbk; have R3 := R1.on hbk; have p0 := C1.p0; have p2 := C1.p2; have q2 := C1.q2; have y0 := C1.z; have y1 : w.heap.size + 1 < w1.heap.size := (by omega); have y2 : w.heap.size < w1.heap.size := (by omega); have HFc : Hid _ := hFc; have HFt : Hid _ := hFt; clear C R R1 hb1 o1 hFf hFK hFc hFt)
              | (go_at_call 64; refine (BL _ ?_).mono ?_; exact (HS.out.below (C1.bel.alloc C1.bel.size _)); rintro e2 w2 ⟨rfl, hw⟩; subst w2))
            have HB : Hid (partsL (L.map FE.t) + partsL K1.kids ≤ 549755813888) := by
              show _ ≤ _
              have h1 := normL_parts (blindAt ss) t.f (t.kids.take k) []
              rw [← HL.out] at h1
              have h2 := partsL_next hk'
              have h3 := partsL_take t.kids (k + 1)
              have h4 := HKp.out
              rw [partsT_eq] at h4
              simp only [partsL] at h1
              omega
            obtain ⟨W1, hW1⟩ : ∃ W1, W1 = w1.alloc (.cells #[.int .i64 K1.f, .int .i64 K1.v, .slice a1 K1.kids.length c1] 32) := ⟨_, rfl⟩
            rw [← hW1] at C3 R3 hbk ⊢
            have kb : W1.cell? ⟨w1.heap.size, 2, none⟩ = some (.slice a1 K1.kids.length c1) := by rw [hW1]; simp [go_sem]
            have hFl : F.length = K1.kids.length := by rw [← HFt.out]; simp
            clear hW1 p0 p2 q2
            go_loopw [8] (fun j wj => ∃ (m : Nat) (Lm : List FE) (av : Option Addr) (cv : Nat), m ≤ F.length ∧ j = .int .i64 m ∧ NC w t (some ⟨b, off, none⟩) c (.slice av Lm.length cv) wj ∧ NR (w.heap.size + 1 + 1 + 1) Lm (F.drop m) av cv wj ∧ Hid (Lm.map FE.t = (K1.kids.take m).foldl (fun o x => putT x o) (L.map FE.t)) ∧ Stay (fun k => k ≠ w.heap.size + 1 + 1) W1 wj) (fun j _ => F.length - (intOf j).toNat)
            case atStart => exact ⟨0, L, av, cv, Nat.zero_le _, rfl, C3, by simpa using R3, by show _ = _; simp, .refl _ _⟩
            case round =>
              obtain ⟨m, Lm, av, cv, hm, rfl, C, R, HLm, hst⟩ := hrel
              clear C3 R3
              have q2 := C.q2
              have kb' := hst.cell kb (by simp only; omega)
              have y3 := C.z
              by_cases hm' : m < F.length
              · have hmi : (m : Int) < (K1.kids.length : Int) := by omega
                have hmi0 : (0 : Int) ≤ (m : Int) := by omega
                have hmb : (m : Int) < 549755813888 := by
                  have h1 := partsL_len K1.kids
                  have h2 := HB.out
                  omega
                have hne : K1.kids ≠ [] := fun e => by
                  rw [e] at hFl
                  simp only [List.length_nil] at hFl
                  omega
                obtain ⟨b1, off1, rfl, hSb1, hcl1⟩ := HFc.out.resolve_left hne
                obtain ⟨g0, g1, g2⟩ := hcl1 m hm'
                have hb1n : b1 ≠ w.heap.size + 1 + 1 := by have := hSb1.1; omega
                have g0 := hst.cell (keepC hbk g0) hb1n
                have g1 := hst.cell (keepC hbk g1) hb1n
                have g2 := hst.cell (keepC hbk g2) hb1n
                simp only [FE.cells] at g0 g1 g2
                have hFm : F[m].t = K1.kids[m]'(by omega) := by
                  have : (F.map FE.t)[m]'(by simpa using hm') = K1.kids[m]'(by omega) := by simp only [HFt.out]
                  simpa using this
                have hpm : partsT F[m].t ≤ 549755813888 := by
                  rw [hFm]
                  have := partsL_get (ts := K1.kids) (i := m) (by omega)
                  have := HB.out
                  omega
                have hLm : Lm.length ≤ 549755813888 := by
                  have h1 := foldP_parts (K1.kids.take m) (L.map FE.t)
                  rw [← HLm.out] at h1
                  have h2 := partsL_len (Lm.map FE.t)
                  have h3 := partsL_take K1.kids m
                  have := HB.out
                  simp at h2
                  omega
                have hdrop : F.drop m = F[m] :: F.drop (m + 1) := List.drop_eq_getElem_cons hm'
                rw [hdrop] at R
                have HLn : Hid ((putF F[m] Lm).map FE.t = (K1.kids.take (m + 1)).foldl (fun o x => putT x o) (L.map FE.t)) := by
                  show _ = _
                  rw [List.take_succ_eq_append_getElem (by omega), List.foldl_append, ← HLm.out, putF_t, hFm]; rfl
                have P := fun (w' : World) (h : Below wr.heap.size wr w') => l4Put_any (w.heap.size + 1 + 1 + 1) av cv Lm F[m] w'.heap.size w' ((R.on h).row) ((R.on h).rd) ((R.on h).fo.own F[m] (List.mem_append_right _ (List.mem_cons_self ..))).1.rd (Nat.le_refl _) hpm hLm
                clear hdrop hne hcl1 hFm
                go_wp2_with fail
                go_region_with (go_at_call 65; refine (P _ ?_).mono ?_; exact (Below.refl _ _).drew; rintro e3 w4 ⟨g4, c4, rfl, hown4, hb4⟩; have hbb : Below wr.heap.size wr w4 := (Below.refl _ _).drew.trans hb4; have C4 := C.on hbb; have R4 := (R.on (Below.refl _ _).drew).put (by simp; omega) hb4 hown4; have q4 := C4.q2; have f4 := C4.fq 2; have hst4 := hst.trans (Stay.of_below hbb (fun _ hk _ => hk)); clear hown4 hb4)
                all_goals
                  go_wp2_with fail
                all_goals exact ⟨⟨m + 1, putF F[m] Lm, some ⟨g4, 0, none⟩, c4, by omega, by go_num, by simpa [putF_len] using C4.set (.slice (some ⟨g4, 0, none⟩) (Lm.length + 1) c4), R4.set _ (by simp only; omega), HLn, hst4.trans (Stay.setCell _ _ (by simp))⟩, by simp [intOf]; omega⟩
              · have E : Hid (m = K1.kids.length) := (by omega : m = K1.kids.length)
                have hnm : ¬ (m : Int) < (K1.kids.length : Int) := by omega
                have R' : NR (w.heap.size + 1 + 1 + 1) Lm [] av cv wr := by
                  have : F.drop m = [] := List.drop_of_length_le (by omega)
                  rwa [this] at R
                go_wp2_with fail
                refine ⟨⟨k + 1, Lm, av, cv, by omega, by go_num, C, R', ?_⟩, by simp [intOf]; omega⟩
                show _ = _
                rw [HLm.out, E.out, List.take_length, HLk.out, HLs.out]
          · have hkf' : (K1.f != t.f) = true := by simp [hkf]
            have HLs : Hid (stepN true t.f K1 (L.map FE.t) = putT K1 (L.map FE.t)) := by show _ = _; simp [stepN, hkf]
            clear hkf
            go_wp2_with (first
              | (go_at_call 43; refine I.mono ?_; rintro e1 w1 ⟨a1, c1, rfl, o1, hle1, hb1⟩; clear I p0 p2 d0 d1 d2; have C1 := C.on hb1; have R1 := R.join hb1 (fe_one o1 hle1 HIf.out.1 HIf.out.2 (Nat.le_of_lt_succ (by omega))) (fun e he x hx => by simp only [List.mem_singleton] at he; subst he; exact hx.1); have hbk : Below w1.heap.size w1 (w1.alloc (.cells #[.int .i64 K1.f, .int .i64 K1.v, .slice a1 K1.kids.length c1] 32)) := ((Below.refl w1.heap.size w1).alloc (Nat.le_refl _) _); have C3 := C1.on hbk; have R3 := R1.on hbk; have p0 := C1.p0; have p2 := C1.p2; have q2 := C1.q2; have y0 := C1.z; have y1 : w.heap.size + 1 < w1.heap.size := (by omega); have y2 : w.heap.size < w1.heap.size := (by omega); clear C R R1 hb1 o1 hz hbk)
              | (go_at_call 64; refine (BL _ ?_).mono ?_; exact (HS.out.below (C1.bel.alloc C1.bel.size _)); rintro e2 w2 ⟨rfl, hw⟩; subst w2)
              | (go_at_call 65; (refine (l4Put_any (w.heap.size + 1 + 1 + 1) av cv L ⟨K1, a1, c1, fun x => wr.heap.size ≤ x ∧ x < w1.heap.size⟩ (w1.heap.size + 1) _ R3.row (by simpa using R3.rd) (by simpa using (R3.fo.own ⟨K1, a1, c1, fun x => wr.heap.size ≤ x ∧ x < w1.heap.size⟩ (by simp)).1.rd) (by simp) HK1f.out.2.2 hLl).mono ?_; rintro e3 w4 ⟨g4, c4, rfl, hown4, hb4⟩; have C4 := C3.on hb4; have R4 := R3.put (by simp; omega) hb4 hown4; have q4 := C4.q2; have f4 := C4.fq 2; clear C3 R3 hown4 hb4 p0 p2 q2)))
            refine ⟨⟨k + 1, putF ⟨K1, a1, c1, fun x => wr.heap.size ≤ x ∧ x < w1.heap.size⟩ L, some ⟨g4, 0, none⟩, c4, by omega, by go_num, by simpa [putF_len] using C4.set (.slice (some ⟨g4, 0, none⟩) (L.length + 1) c4), R4.set _ (by simp only; omega), ?_⟩, by simp [intOf]; omega⟩
            show _ = _
            rw [putF_t, HLk.out, HLs.out]
      · have E : Hid (k = t.kids.length) := (by omega : k = t.kids.length)
        have q0 := C.q0
        have q1 := C.q1
        have q2 := C.q2
        have r0 := C.r0
        have r1 := C.r1
        have r2 := C.r2
        have fr := C.fr
        have hL : Hid (L.map FE.t = normL (blindAt ss) t.f t.kids []) := by
          show _ = _
          rw [HL.out, E.out, List.take_length]
        have hlr : L.length ≤ 9223372036854775807 := by
          have h1 := normL_parts (blindAt ss) t.f t.kids []
          have h3 := partsL_len (L.map FE.t)
          rw [hL.out] at h3
          simp [partsL, hL.out.symm] at h1 h3
          omega
        have O : OwnR wr (fun x => w.heap.size + 1 + 1 + 1 ≤ x ∧ x < wr.heap.size) av cv (L.map FE.t) := by
          rcases R.row.2 with ⟨hv, h0⟩ | ⟨g, cap, _, hv, _⟩
          · have : L = [] := List.length_eq_zero_iff.1 h0
            subst this; cases hv; exact .nil _
          · cases hv
            exact (by simpa using R.fo : Forest wr _ L).owns R.row (fun e he => R.ap g rfl e (by simpa using he)) hlr
        have hcl : L.length ≤ cv := by obtain ⟨_, _, h, hh⟩ := own_form R.row; cases h; exact hh
        have hbel := C.bel
        clear C R HL E ih BL
        go_wp2_with fail
        obtain ⟨z0, z1, z2⟩ := set3_cells (u := wr) (r := w.heap.size + 1) (x := .int .i64 t.f) (y := .int .i64 t.v) (z := .slice av L.length cv) r0 r1 r2
        have hn : ¬ (w.heap.size + 1 + 1 + 1 ≤ w.heap.size + 1 ∧ w.heap.size + 1 < wr.heap.size) := by omega
        have O3 := ((O.setCell ⟨w.heap.size + 1, 0, none⟩ hn (.int .i64 t.f)).setCell ⟨w.heap.size + 1, 1, none⟩ hn (.int .i64 t.v)).setCell ⟨w.heap.size + 1, 2, none⟩ hn (.slice av L.length cv)
        rw [← hL.out, List.length_map]
        refine bodyPost_ret (v := .agg #[.int .i64 t.f, .int .i64 t.v, .slice av L.length cv]) (by simp [results, Try.results43, go_sem, z0, z1, z2]) rfl ⟨av, cv, rfl, O3.mono (fun x hx => ⟨by omega, by simpa using hx.2⟩), hcl, ?_⟩
        exact ((hbel.setCell (p := ⟨w.heap.size + 1, 0, none⟩) (by simp) _).setCell (p := ⟨w.heap.size + 1, 1, none⟩) (by simp) _).setCell (p := ⟨w.heap.size + 1, 2, none⟩) (by simp) _
end Go.Proofs.Ytcbafmohmoicnab

/- What lies in memory while a law on a function that answers a term goes on. Conditions: none. -/
namespace Go.Proofs.Ytcbafmohmoicnab
set_option maxRecDepth 100000
open Go.RowKit

/-- A term in a box of three cells. -/
def Bx3 (W : World) (b : Nat) (f v : Int) (a : Option Addr) (n c : Nat) : Prop := W.cell? ⟨b, 0, none⟩ = some (.int .i64 f) ∧ W.cell? ⟨b, 1, none⟩ = some (.int .i64 v) ∧ W.cell? ⟨b, 2, none⟩ = some (.slice a n c)
theorem Bx3.stay {W W' : World} {b : Nat} {f v : Int} {a : Option Addr} {n c : Nat} {S : Nat → Prop} (h : Bx3 W b f v a n c) (hs : Stay S W W') (hb : S b) : Bx3 W' b f v a n c := ⟨hs.cell h.1 hb, hs.cell h.2.1 hb, hs.cell h.2.2 hb⟩
theorem Bx3.on {W W' : World} {b : Nat} {f v : Int} {a : Option Addr} {n c : Nat} (h : Bx3 W b f v a n c) (hb : Below W.heap.size W W') : Bx3 W' b f v a n c := ⟨keepC hb h.1, keepC hb h.2.1, keepC hb h.2.2⟩
theorem Bx3.lt {W : World} {b : Nat} {f v : Int} {a : Option Addr} {n c : Nat} (h : Bx3 W b f v a n c) : b < W.heap.size := World.block_lt_of_cell? _ _ h.1

/-- The argument's box, and the wanted answer in its box; all below H. -/
structure LP (w : World) (t : TermD) (a : Option Addr) (c : Nat) (N : TermD) (B : Nat) (aw : Option Addr) (cw H : Nat) (W : World) : Prop where
  bel : Below w.heap.size w W
  p : Bx3 W w.heap.size t.f t.v a t.kids.length c
  q : Bx3 W B t.f t.v aw N.kids.length cw
  rd : RdK W H aw N.kids
  hp : w.heap.size < H
  hB : B < H
  z : H ≤ W.heap.size
theorem LP.stay {w : World} {t : TermD} {a : Option Addr} {c : Nat} {N : TermD} {B : Nat} {aw : Option Addr} {cw H : Nat} {W W' : World} (h : LP w t a c N B aw cw H W) (hs : Stay (fun k => k < H) W W') : LP w t a c N B aw cw H W' :=
  have hp := h.hp
  ⟨h.bel.trans (hs.below h.bel.size (fun k hk => by omega)), h.p.stay hs h.hp, h.q.stay hs h.hB, h.rd.on (hs.below h.z (fun _ hk => hk)), h.hp, h.hB, Nat.le_trans h.z hs.size⟩
theorem LP.on {w : World} {t : TermD} {a : Option Addr} {c : Nat} {N : TermD} {B : Nat} {aw : Option Addr} {cw H : Nat} {W W' : World} (h : LP w t a c N B aw cw H W) (hb : Below W.heap.size W W') : LP w t a c N B aw cw H W' := h.stay (.of_below hb (fun _ hk _ => hk))
theorem set3_keep {W : World} {b o B : Nat} {v x y z : Value} (h : W.cell? ⟨b, o, none⟩ = some v) (hne : b ≠ B) : (((W.setCell ⟨B, 0, none⟩ x).setCell ⟨B, 1, none⟩ y).setCell ⟨B, 2, none⟩ z).cell? ⟨b, o, none⟩ = some v := by
  have e : ∀ j, (⟨B, j, none⟩ : Addr) ≠ ⟨b, o, none⟩ := fun j q => hne (by injection q with q1; exact q1.symm)
  rw [World.cell?_setCell_other _ _ _ _ (e 2), World.cell?_setCell_other _ _ _ _ (e 1), World.cell?_setCell_other _ _ _ _ (e 0)]
  exact h
theorem below_step {A X Y : World} (h : Below A.heap.size A X) (k : Below X.heap.size X Y) : Below A.heap.size A Y := h.trans (k.mono h.size)
/-- A new variable's box, still empty. -/
def Bz (W : World) (b : Nat) : Prop := Bx3 W b 0 0 none 0 0 ∧ ∀ j, W.frozen? ⟨b, j, none⟩ = false
theorem Bz.new (W : World) : Bz (W.alloc (.cells #[.int .i64 0, .int .i64 0, .slice none 0 0] 32)) W.heap.size := ⟨⟨by simp, by simp, by simp⟩, fun j => by simp⟩
theorem Bz.on {W W' : World} {b : Nat} (h : Bz W b) (hb : Below W.heap.size W W') : Bz W' b := ⟨h.1.on hb, fun j => (hb.frozen (p := ⟨b, j, none⟩) h.1.lt).trans (h.2 j)⟩
/-- The wanted answer's box made last. -/
theorem LP.last {w W : World} {t N : TermD} {a aw : Option Addr} {c cw : Nat} {S : Nat → Prop} (bel : Below w.heap.size w W) (p : Bx3 W w.heap.size t.f t.v a t.kids.length c) (ho : OwnS W S aw N.kids) : LP w t a c N W.heap.size aw cw (W.alloc (.cells #[.int .i64 t.f, .int .i64 t.v, .slice aw N.kids.length cw] 32)).heap.size (W.alloc (.cells #[.int .i64 t.f, .int .i64 t.v, .slice aw N.kids.length cw] 32)) := by
  have hb := (Below.refl W.heap.size W).alloc (Nat.le_refl _) (.cells #[.int .i64 t.f, .int .i64 t.v, .slice aw N.kids.length cw] 32)
  have hp := p.lt
  exact ⟨bel.trans (hb.mono bel.size), p.on hb, ⟨by simp, by simp, by simp⟩, (ho.rd.on hb).mono (by simp), by simp; omega, by simp, Nat.le_refl _⟩
/-- Or made earlier. -/
theorem LP.early {w W : World} {t N : TermD} {a aw : Option Addr} {c cw B : Nat} {S : Nat → Prop} (bel : Below w.heap.size w W) (p : Bx3 W w.heap.size t.f t.v a t.kids.length c) (ho : OwnS W S aw N.kids) (z : Bz W B) (hS : ¬ S B) (hB : w.heap.size < B) :
    LP w t a c N B aw cw (((W.setCell ⟨B, 0, none⟩ (.int .i64 t.f)).setCell ⟨B, 1, none⟩ (.int .i64 t.v)).setCell ⟨B, 2, none⟩ (.slice aw N.kids.length cw)).heap.size (((W.setCell ⟨B, 0, none⟩ (.int .i64 t.f)).setCell ⟨B, 1, none⟩ (.int .i64 t.v)).setCell ⟨B, 2, none⟩ (.slice aw N.kids.length cw)) := by
  obtain ⟨z0, z1, z2⟩ := set3_cells (u := W) (r := B) (x := .int .i64 t.f) (y := .int .i64 t.v) (z := .slice aw N.kids.length cw) z.1.1 z.1.2.1 z.1.2.2
  have hl := z.1.lt
  have hst : Stay (fun k => k ≠ B) W (((W.setCell ⟨B, 0, none⟩ (.int .i64 t.f)).setCell ⟨B, 1, none⟩ (.int .i64 t.v)).setCell ⟨B, 2, none⟩ (.slice aw N.kids.length cw)) := ((Stay.setCell _ _ (by simp)).trans (.setCell _ _ (by simp))).trans (.setCell _ _ (by simp))
  have ho' := ((ho.setCell ⟨B, 0, none⟩ hS (.int .i64 t.f)).setCell ⟨B, 1, none⟩ hS (.int .i64 t.v)).setCell ⟨B, 2, none⟩ hS (.slice aw N.kids.length cw)
  exact ⟨bel.trans (hst.below bel.size (fun k hk => by omega)), p.stay hst (by omega), ⟨z0, z1, z2⟩, ho'.rd, by have := hst.size; omega, by have := hst.size; omega, Nat.le_refl _⟩
/-- Behind the call: the arguments' copies, the answer in its box. -/
structure LG (w : World) (t : TermD) (a : Option Addr) (c : Nat) (N : TermD) (B6 : Nat) (aw : Option Addr) (cw H : Nat) (ss : List SymD) (G0 g7 B8 : Nat) (y : Option Addr) (B9 : Nat) (ag : Option Addr) (cg : Nat) (W : World) : Prop where
  lp : LP w t a c N B6 aw cw H W
  sy : W.ownsRow G0 68 3 (.slice (some ⟨G0, 0, none⟩) ss.length ss.length) ss.length (symCs ss)
  x : Bx3 W B8 t.f t.v y t.kids.length t.kids.length
  ox : OwnS W (fun k => g7 ≤ k ∧ k < B8) y t.kids
  g : Bx3 W B9 t.f t.v ag N.kids.length cg
  og : OwnS W (fun k => B8 + 1 ≤ k ∧ k < B9) ag N.kids
  h1 : H ≤ G0
  h2 : G0 < g7
  h3 : g7 ≤ B8
  h4 : B8 + 1 ≤ B9
  h5 : B9 < W.heap.size
theorem LG.on {w : World} {t : TermD} {a : Option Addr} {c : Nat} {N : TermD} {B6 : Nat} {aw : Option Addr} {cw H : Nat} {ss : List SymD} {G0 g7 B8 : Nat} {y : Option Addr} {B9 : Nat} {ag : Option Addr} {cg : Nat} {W W' : World} (h : LG w t a c N B6 aw cw H ss G0 g7 B8 y B9 ag cg W) (hb : Below W.heap.size W W') : LG w t a c N B6 aw cw H ss G0 g7 B8 y B9 ag cg W' := by
  have h3 := h.h3
  have h4 := h.h4
  have h5 := h.h5
  exact ⟨h.lp.on hb, own_on h.sy hb, h.x.on hb, h.ox.frame (fun k hk => hb.block k (by omega)) hb.size, h.g.on hb, h.og.frame (fun k hk => hb.block k (by omega)) hb.size, h.h1, h.h2, h.h3, h.h4, Nat.lt_of_lt_of_le h5 hb.size⟩
/-- When the copies may be written over. -/
structure LH (w : World) (t : TermD) (a : Option Addr) (c : Nat) (N : TermD) (B6 : Nat) (aw : Option Addr) (cw H lo B9 : Nat) (ag : Option Addr) (cg : Nat) (W : World) : Prop where
  lp : LP w t a c N B6 aw cw H W
  g : Bx3 W B9 t.f t.v ag N.kids.length cg
  og : OwnS W (fun k => lo ≤ k ∧ k < B9) ag N.kids
  h1 : H ≤ lo
  h4 : lo ≤ B9
  h5 : B9 < W.heap.size
theorem LH.stay {w : World} {t : TermD} {a : Option Addr} {c : Nat} {N : TermD} {B6 : Nat} {aw : Option Addr} {cw H lo B9 : Nat} {ag : Option Addr} {cg : Nat} {W W' : World} (h : LH w t a c N B6 aw cw H lo B9 ag cg W) (hs : Stay (fun k => k < H ∨ lo ≤ k) W W') : LH w t a c N B6 aw cw H lo B9 ag cg W' := by
  have h4 := h.h4
  have h5 := h.h5
  exact ⟨h.lp.stay (hs.weak (fun _ _ hk => .inl hk)), h.g.stay hs (.inr h4), h.og.frame (fun k hk => hs.block k (by omega) (.inr hk.1)) hs.size, h.h1, h.h4, Nat.lt_of_lt_of_le h5 hs.size⟩
theorem LH.on {w : World} {t : TermD} {a : Option Addr} {c : Nat} {N : TermD} {B6 : Nat} {aw : Option Addr} {cw H lo B9 : Nat} {ag : Option Addr} {cg : Nat} {W W' : World} (h : LH w t a c N B6 aw cw H lo B9 ag cg W) (hb : Below W.heap.size W W') : LH w t a c N B6 aw cw H lo B9 ag cg W' := h.stay (.of_below hb (fun _ hk _ => hk))
/-- When the answer bears marks. -/
structure LM (w : World) (t : TermD) (a : Option Addr) (c : Nat) (N : TermD) (B6 : Nat) (aw : Option Addr) (cw H lo B9 : Nat) (ag : Option Addr) (cg : Nat) (W : World) : Prop where
  lp : LP w t a c N B6 aw cw H W
  g : Bx3 W B9 t.f t.v ag N.kids.length cg
  og : Mk W (fun k => lo ≤ k ∧ k < B9) ag N.kids 1
  h5 : B9 < W.heap.size
theorem LM.on {w : World} {t : TermD} {a : Option Addr} {c : Nat} {N : TermD} {B6 : Nat} {aw : Option Addr} {cw H lo B9 : Nat} {ag : Option Addr} {cg : Nat} {W W' : World} (h : LM w t a c N B6 aw cw H lo B9 ag cg W) (hb : Below W.heap.size W W') : LM w t a c N B6 aw cw H lo B9 ag cg W' := by
  have h5 := h.h5
  exact ⟨h.lp.on hb, h.g.on hb, h.og.frame (fun k hk => hb.block k (by omega)), Nat.lt_of_lt_of_le h5 hb.size⟩
theorem only_stay {S T : Nat → Prop} {W W0 W' : World} (hb : Below W.heap.size W W0) (ho : Only S W0 W') (hs : ∀ k, k < W.heap.size → T k → ¬ S k) : Stay T W W' :=
  ⟨ho.os.trans hb.os, ho.tape.trans hb.tape, ho.output.trans hb.output, by rw [ho.size]; exact hb.size, fun k hk ht => (ho.block k (hs k hk ht)).trans (hb.block k hk)⟩
theorem LH.marked {w : World} {t : TermD} {a : Option Addr} {c : Nat} {N : TermD} {B6 : Nat} {aw : Option Addr} {cw H lo B9 : Nat} {ag : Option Addr} {cg : Nat} {W W0 W' : World} (h : LH w t a c N B6 aw cw H lo B9 ag cg W) (hb : Below W.heap.size W W0) (ho : Only (fun k => lo ≤ k ∧ k < B9) W0 W') (hm : Mk W' (fun k => lo ≤ k ∧ k < B9) ag N.kids 1) : LM w t a c N B6 aw cw H lo B9 ag cg W' := by
  have h1 := h.h1
  have h5 := h.h5
  have hs : Stay (fun k => k < H ∨ k = B9) W W' := only_stay hb ho (fun k _ hk q => by omega)
  exact ⟨h.lp.stay (hs.weak (fun _ _ hk => .inl hk)), h.g.stay hs (.inr rfl), hm, Nat.lt_of_lt_of_le h5 hs.size⟩
theorem lg_start {w wc w7 w8 w9 : World} {t N : TermD} {a aw y1 ag : Option Addr} {c B6 cw H cg : Nat} {ss : List SymD} (L8 : LP w t a c N B6 aw cw H w8) (o8 : w8.ownsRow wc.heap.size 68 3 (.slice (some ⟨wc.heap.size, 0, none⟩) ss.length ss.length) ss.length (symCs ss)) (ho8 : OwnS w8 (fun k => w7.heap.size ≤ k ∧ k < w8.heap.size) y1 t.kids)
    (hbx : Below w8.heap.size w8 (w8.alloc (.cells #[.int .i64 t.f, .int .i64 t.v, .slice y1 t.kids.length t.kids.length] 32))) (ho9 : OwnS w9 (fun k => (w8.alloc (.cells #[.int .i64 t.f, .int .i64 t.v, .slice y1 t.kids.length t.kids.length] 32)).heap.size ≤ k ∧ k < w9.heap.size) ag N.kids) (hb0 : Below (w8.alloc (.cells #[.int .i64 t.f, .int .i64 t.v, .slice y1 t.kids.length t.kids.length] 32)).heap.size (w8.alloc (.cells #[.int .i64 t.f, .int .i64 t.v, .slice y1 t.kids.length t.kids.length] 32)) w9) (hw6 : H ≤ wc.heap.size) (h67 : wc.heap.size < w7.heap.size) (h78 : w7.heap.size ≤ w8.heap.size) :
    LG w t a c N B6 aw cw H ss wc.heap.size w7.heap.size w8.heap.size y1 w9.heap.size ag cg (w9.alloc (.cells #[.int .i64 t.f, .int .i64 t.v, .slice ag N.kids.length cg] 32)) := by
  have hb9 : Below w9.heap.size w9 (w9.alloc (.cells #[.int .i64 t.f, .int .i64 t.v, .slice ag N.kids.length cg] 32)) := (Below.refl _ _).alloc (Nat.le_refl _) _
  have h1 : Below w8.heap.size w8 w9 := hbx.trans (hb0.mono hbx.size)
  have h2 : Below w8.heap.size w8 (w9.alloc (.cells #[.int .i64 t.f, .int .i64 t.v, .slice ag N.kids.length cg] 32)) := h1.trans (hb9.mono h1.size)
  have hx : Bx3 (w8.alloc (.cells #[.int .i64 t.f, .int .i64 t.v, .slice y1 t.kids.length t.kids.length] 32)) w8.heap.size t.f t.v y1 t.kids.length t.kids.length := ⟨by simp, by simp, by simp⟩
  have hs0 := hb0.size
  simp only [World.size_alloc] at hs0 ho9
  exact ⟨L8.on h2, own_on o8 h2, (hx.on hb0).on hb9, ho8.frame (fun k hk => h2.block k hk.2) h2.size, ⟨by simp, by simp, by simp⟩, ho9.frame (fun k hk => hb9.block k hk.2) hb9.size, hw6, h67, h78, by omega, by simp⟩
theorem LG.h {w : World} {t : TermD} {a : Option Addr} {c : Nat} {N : TermD} {B6 : Nat} {aw : Option Addr} {cw H : Nat} {ss : List SymD} {G0 g7 B8 : Nat} {y : Option Addr} {B9 : Nat} {ag : Option Addr} {cg : Nat} {W W' : World} (h : LG w t a c N B6 aw cw H ss G0 g7 B8 y B9 ag cg W) (hs : Stay (fun k => k ≠ G0) W W') :
    LH w t a c N B6 aw cw H (B8 + 1) B9 ag cg W' ∧ OwnS W' (fun k => g7 ≤ k ∧ k < B8) y t.kids ∧ Bx3 W' B8 t.f t.v y t.kids.length t.kids.length := by
  have h1 := h.h1
  have h2 := h.h2
  have h3 := h.h3
  have h4 := h.h4
  have h5 := h.h5
  have L : LH w t a c N B6 aw cw H (B8 + 1) B9 ag cg W := ⟨h.lp, h.g, h.og, by omega, h.h4, h.h5⟩
  exact ⟨L.stay (hs.weak (fun k _ hk => by omega)), h.ox.frame (fun k hk => hs.block k (by omega) (by omega)) hs.size, h.x.stay hs (by omega)⟩
theorem LM.last {w : World} {t : TermD} {a : Option Addr} {c : Nat} {N : TermD} {B6 : Nat} {aw : Option Addr} {cw H lo B9 : Nat} {ag : Option Addr} {cg : Nat} {W : World} {S : Nat → Prop} {ah : Option Addr} {ch : Nat} (h : LM w t a c N B6 aw cw H lo B9 ag cg W) (ho : OwnS W S ah N.kids) : LM w t a c N B6 aw cw H lo B9 ag cg (W.alloc (.cells #[.int .i64 t.f, .int .i64 t.v, .slice ah N.kids.length ch] 32)) ∧ Bx3 (W.alloc (.cells #[.int .i64 t.f, .int .i64 t.v, .slice ah N.kids.length ch] 32)) W.heap.size t.f t.v ah N.kids.length ch ∧ RdK (W.alloc (.cells #[.int .i64 t.f, .int .i64 t.v, .slice ah N.kids.length ch] 32)) (W.alloc (.cells #[.int .i64 t.f, .int .i64 t.v, .slice ah N.kids.length ch] 32)).heap.size ah N.kids := by
  have hb : Below W.heap.size W (W.alloc (.cells #[.int .i64 t.f, .int .i64 t.v, .slice ah N.kids.length ch] 32)) := (Below.refl _ _).alloc (Nat.le_refl _) _
  exact ⟨h.on hb, ⟨by simp, by simp, by simp⟩, (ho.rd.on hb).mono hb.size⟩
theorem LM.early {w : World} {t : TermD} {a : Option Addr} {c : Nat} {N : TermD} {B6 : Nat} {aw : Option Addr} {cw H lo B9 : Nat} {ag : Option Addr} {cg : Nat} {W : World} {S : Nat → Prop} {ah : Option Addr} {ch : Nat} {B : Nat} (h : LM w t a c N B6 aw cw H lo B9 ag cg W) (ho : OwnS W S ah N.kids) (z : Bz W B) (hS : ¬ S B) (hH : H ≤ B) (hB : B9 < B) : LM w t a c N B6 aw cw H lo B9 ag cg (((W.setCell ⟨B, 0, none⟩ (.int .i64 t.f)).setCell ⟨B, 1, none⟩ (.int .i64 t.v)).setCell ⟨B, 2, none⟩ (.slice ah N.kids.length ch)) ∧ Bx3 (((W.setCell ⟨B, 0, none⟩ (.int .i64 t.f)).setCell ⟨B, 1, none⟩ (.int .i64 t.v)).setCell ⟨B, 2, none⟩ (.slice ah N.kids.length ch)) B t.f t.v ah N.kids.length ch ∧ RdK (((W.setCell ⟨B, 0, none⟩ (.int .i64 t.f)).setCell ⟨B, 1, none⟩ (.int .i64 t.v)).setCell ⟨B, 2, none⟩ (.slice ah N.kids.length ch)) (((W.setCell ⟨B, 0, none⟩ (.int .i64 t.f)).setCell ⟨B, 1, none⟩ (.int .i64 t.v)).setCell ⟨B, 2, none⟩ (.slice ah N.kids.length ch)).heap.size ah N.kids := by
  obtain ⟨z0, z1, z2⟩ := set3_cells (u := W) (r := B) (x := .int .i64 t.f) (y := .int .i64 t.v) (z := .slice ah N.kids.length ch) z.1.1 z.1.2.1 z.1.2.2
  have hst : Stay (fun k => k ≠ B) W (((W.setCell ⟨B, 0, none⟩ (.int .i64 t.f)).setCell ⟨B, 1, none⟩ (.int .i64 t.v)).setCell ⟨B, 2, none⟩ (.slice ah N.kids.length ch)) := ((Stay.setCell _ _ (by simp)).trans (.setCell _ _ (by simp))).trans (.setCell _ _ (by simp))
  have ho' := ((ho.setCell ⟨B, 0, none⟩ hS (.int .i64 t.f)).setCell ⟨B, 1, none⟩ hS (.int .i64 t.v)).setCell ⟨B, 2, none⟩ hS (.slice ah N.kids.length ch)
  have h5 := h.h5
  exact ⟨⟨h.lp.stay (hst.weak (fun k _ hk => by omega)), h.g.stay hst (by omega), h.og.frame (fun k hk => hst.block k (by omega) (by omega)), Nat.lt_of_lt_of_le h5 hst.size⟩, ⟨z0, z1, z2⟩, ho'.rd⟩
end Go.Proofs.Ytcbafmohmoicnab

/- How a term that came in as an argument is opened: its cells, all the way down. Conditions: none. -/
namespace Go.Proofs.Ytcbafmohmoicnab
set_option maxRecDepth 100000
open Go.RowKit Go.ChangeShapes Go.WideShapes Go.ChangeAt

theorem cellsT : Try.prog.cellsOf 26 = 3 := by kernel_rfl
theorem cellsI : Try.prog.cellsOf 3 = 1 := by kernel_rfl
theorem cellsK : Try.prog.cellsOf 24 = 1 := by kernel_rfl

theorem isW_of {z : Int} (h : (Lit.int .i64 z).wf = true) : isW z := by
  simp [Lit.wf, IntKind.min, IntKind.max, IntKind.signed, IntKind.bits] at h
  exact ⟨by omega, by omega⟩

set_option maxRecDepth 100000 in
/-- The three cells of a term, given what its list of kids reads as. -/
theorem term_trod {H : Type} {enc : TypeId × Value → H} {W : World} {base : Nat} {spare : Nat → Bool} {held : Bool} {fuel : Nat} {cs : List Value} {x : DataW H × List MemPlace}
    (h : DataW.trod enc Try.prog W base spare held fuel 26 cs = some x)
    (K : ∀ m, m < fuel → ∀ (cs : List Value) (x : DataW H × List MemPlace), DataW.trod enc Try.prog W base spare held m 24 cs = some x → ∃ a n cap ts, cs = [.slice a n cap] ∧ n = ts.length ∧ (n ≤ maxLen ∧ n ≤ cap) ∧ RdK W W.heap.size a ts) :
    ∃ (t : TermD) (a : Option Addr) (c : Nat), cs = [.int .i64 t.f, .int .i64 t.v, .slice a t.kids.length c] ∧ isW t.f ∧ isW t.v ∧ (t.kids.length ≤ maxLen ∧ t.kids.length ≤ c) ∧ RdK W W.heap.size a t.kids := by
  obtain ⟨xs, m, rfl, rfl, hlen, hxl, hf⟩ := DataW.trod_struct Try.underlying26 h
  rw [cellsT] at hlen
  match cs, hlen with
  | [c0, c1, c2], _ =>
    match xs, hxl with
    | [y0, y1, y2], _ =>
      have h0 : DataW.trod enc Try.prog W base spare held m 3 [c0] = some y0 := by have := hf 0 _ rfl; simpa [cellsI] using this
      have h1 : DataW.trod enc Try.prog W base spare held m 3 [c1] = some y1 := by have := hf 1 _ rfl; simpa [cellsI] using this
      have h2 : DataW.trod enc Try.prog W base spare held m 24 [c2] = some y2 := by have := hf 2 _ rfl; simpa [cellsK] using this
      obtain ⟨z0, e0, _, w0⟩ := DataW.trod_int Try.underlying3 h0
      obtain ⟨z1, e1, _, w1⟩ := DataW.trod_int Try.underlying3 h1
      obtain ⟨a, n, cap, ts, e2, hn, hm, hr⟩ := K m (by omega) _ _ h2
      simp at e0 e1 e2
      subst e0 e1 e2 hn
      exact ⟨.mk z0 z1 ts, a, cap, rfl, isW_of w0, isW_of w1, hm, hr⟩

theorem kids_trod {H : Type} {enc : TypeId × Value → H} {W : World} {base : Nat} {spare : Nat → Bool} {held : Bool} : ∀ (fuel : Nat) (cs : List Value) (x : DataW H × List MemPlace),
    DataW.trod enc Try.prog W base spare held fuel 24 cs = some x → ∃ a n cap ts, cs = [.slice a n cap] ∧ n = ts.length ∧ (n ≤ maxLen ∧ n ≤ cap) ∧ RdK W W.heap.size a ts := by
  intro fuel
  induction fuel using Nat.strongRecOn with
  | ind fuel ih =>
    intro cs x h
    rcases DataW.trod_slice Try.underlying24 h with ⟨rfl, _⟩ | ⟨x0, len, cap, elems, rest, n, rfl, rfl, _, hb, hl, hm, hlen, hel, _, _⟩
    · exact ⟨none, 0, 0, [], rfl, rfl, ⟨Nat.zero_le _, Nat.zero_le _⟩, .nil _⟩
    · rw [cellsT] at hel
      have hall : ∀ i, i < len → ∃ y : TermD × Option Addr × Nat, W.cells? base (x0.add (i * 3)) 3 = some [.int .i64 y.1.f, .int .i64 y.1.v, .slice y.2.1 y.1.kids.length y.2.2] ∧ isW y.1.f ∧ isW y.1.v ∧ RdK W W.heap.size y.2.1 y.1.kids ∧ y.1.kids.length ≤ y.2.2 := by
        intro i hi
        have h1 := hel i hi
        rw [List.getElem?_eq_getElem (by omega)] at h1
        obtain ⟨cs', g1, g2⟩ := Option.bind_eq_some_iff.1 h1
        obtain ⟨t, a, c, rfl, q1, q2, ⟨_, q4⟩, q3⟩ := term_trod g2 (fun m hm cs x hx => ih m (by omega) cs x hx)
        exact ⟨⟨t, a, c⟩, g1, q1, q2, q3, q4⟩
      obtain ⟨F, hF⟩ := Deep.choose_lt hall
      refine ⟨some x0, len, cap, (List.range len).map (fun i => (F i).1), rfl, by simp, ⟨by omega, by omega⟩, ?_⟩
      by_cases h0 : len = 0
      · subst h0; exact .nil _
      · have hcell : ∀ i, (hi : i < len) → ∀ j, j < 3 → W.cell? ((x0.add (i * 3)).add j) = [Value.int .i64 (F i).1.f, .int .i64 (F i).1.v, .slice (F i).2.1 (F i).1.kids.length (F i).2.2][j]? := fun i hi j hj => (World.cells?_some (hF i hi).1).2.2 j hj
        obtain ⟨b, off, spot⟩ := x0
        have hc0 := hcell 0 (by omega) 0 (by omega)
        have h1 : W.cell? (⟨b, off, spot⟩ : Addr) = some (.int .i64 (F 0).1.f) := by simpa [Addr.add] using hc0
        have hspot : spot = none := by simpa using World.cell?_spot h1
        subst hspot
        have hadd : ∀ i j, ((⟨b, off, none⟩ : Addr).add i).add j = ⟨b, off + i + j, none⟩ := by
          intro i j
          by_cases h1 : i = 0 <;> by_cases h2 : j = 0 <;> simp [Addr.add, h1, h2, Nat.add_assoc]
        have hbl : b < W.heap.size := World.block_lt_of_cell? _ _ h1
        refine .row b off _ (fun i => (F i).2.1) (fun i => (F i).2.2) hbl ⟨by simp; unfold maxLen at hm; omega, fun i hi => by simp at hi; simp only [List.getElem_map, List.getElem_range]; exact (hF i hi).2.2.2.2⟩ (fun i hi => ?_) (fun i hi => ?_) (fun i hi => ?_)
        · simp at hi
          simp only [List.getElem_map, List.getElem_range]
          exact ⟨(hF i hi).2.1, (hF i hi).2.2.1⟩
        · simp at hi
          simp only [List.getElem_map, List.getElem_range]
          have g0 := hcell i hi 0 (by omega)
          have g1 := hcell i hi 1 (by omega)
          have g2 := hcell i hi 2 (by omega)
          rw [hadd] at g0 g1 g2
          exact ⟨by simpa using g0, by simpa using g1, by simpa using g2⟩
        · simp at hi
          simp only [List.getElem_map, List.getElem_range]
          exact (hF i hi).2.2.2.1

theorem open_term {H : Type} {enc : TypeId × Value → H} {W : World} {base : Nat} {spare : Nat → Bool} {held : Bool} {v : Value} {d : DataW H} {p : List MemPlace} {cs : Array Value} (hv : v = .agg cs)
    (h : DataW.Trod enc Try.prog W base spare held 26 v d p) : ∃ (t : TermD) (a : Option Addr) (c : Nat), v = .agg #[.int .i64 t.f, .int .i64 t.v, .slice a t.kids.length c] ∧ isW t.f ∧ isW t.v ∧ (t.kids.length ≤ maxLen ∧ t.kids.length ≤ c) ∧ RdK W W.heap.size a t.kids := by
  subst hv
  obtain ⟨fuel, hf⟩ := h
  obtain ⟨t, a, c, e, r⟩ := term_trod hf (fun m _ cs x hx => kids_trod m cs x hx)
  refine ⟨t, a, c, ?_, r⟩
  have e2 : cs.toList = [.int .i64 t.f, .int .i64 t.v, .slice a t.kids.length c] := by simpa [Value.cells] using e
  rw [show cs = #[.int .i64 t.f, .int .i64 t.v, .slice a t.kids.length c] from Array.toList_inj.1 e2]
end Go.Proofs.Ytcbafmohmoicnab

/- Contracts of the laws' helpers on terms: how much one holds. Conditions: none beyond the reading's. -/
namespace Go.Proofs.Ytcbafmohmoicnab
set_option maxRecDepth 100000
open Go.RowKit

theorem rt_int {a b : Int} (h : a = b) : Ending.returned (.int .i64 a) = .returned (.int .i64 b) := by rw [h]

set_option maxHeartbeats 1600000 in
theorem szTerm_of (t : TermD) (a : Option Addr) (c : Nat) (m : Int) (w : World)
    (H : ∀ w', Below w.heap.size w w' → Calls Try.prog 42 #[.slice a t.kids.length c, .int .i64 m] w' fun e w'' => e = .returned (.int .i64 (szR t.kids m)) ∧ Below w'.heap.size w' w'') :
    Calls Try.prog 10 #[.agg #[.int .i64 t.f, .int .i64 t.v, .slice a t.kids.length c], .int .i64 m] w fun e w' => e = .returned (.int .i64 (szR t.kids m)) ∧ Below w.heap.size w w' := by
  have h0 : Below w.heap.size w (w.alloc (.cells #[.int .i64 t.f, .int .i64 t.v, .slice a t.kids.length c] 26)) := (Below.refl w.heap.size w).alloc (Nat.le_refl _) _
  have H1 := H _ h0
  clear H
  have hr : szR t.kids m < 0 → szR t.kids m = -1 := by unfold szR; split <;> omega
  generalize szR t.kids m = r at *
  by_cases hn : r < 0
  · have hr1 := hr hn
    subst hr1
    clear hr
    go_enter Try.func10, Try.ntmps10
    go_wp2_with (go_at_call 42; refine H1.mono ?_; rintro e w1 ⟨rfl, hb1⟩; clear H1)
    go_ret
    exact ⟨rfl, h0.trans (hb1.mono h0.size)⟩
  · clear hr
    go_enter Try.func10, Try.ntmps10
    go_wp2_with (go_at_call 42; refine H1.mono ?_; rintro e w1 ⟨rfl, hb1⟩; clear H1)
    go_ret
    exact ⟨rfl, h0.trans (hb1.mono h0.size)⟩

set_option maxHeartbeats 1600000 in
theorem szTermS_any (N : Nat) : ∀ (ts : List TermD) (a : Option Addr) (c hi : Nat) (m : Int) (w : World), partsL ts ≤ N → 0 ≤ m → m ≤ 1048576 → RdK w hi a ts → hi ≤ w.heap.size →
    Calls Try.prog 42 #[.slice a ts.length c, .int .i64 m] w fun e w' => e = .returned (.int .i64 (szR ts m)) ∧ Below w.heap.size w w' := by
  induction N with
  | zero =>
    intro ts a c hi m w hN hm0 hm hr hhi
    have h1 := partsL_len ts
    have : ts = [] := List.length_eq_zero_iff.1 (by omega)
    subst this
    have HS : Hid (szR [] m = m) := by show _ = _; simp [szR, partsL, hm0]
    have hm0' : ¬ m < 0 := by omega
    go_enter Try.func42, Try.ntmps42
    go_wp2_with fail
    refine wp_loop_rounds 1 ?_
    rw [rounds_succ]
    go_wp2_with fail
    go_ret
    exact ⟨rt_int HS.out.symm, Below.refl _ _⟩
  | succ N ih =>
    intro ts a c hi m w hN hm0 hm hr hhi
    have hlen := hr.len
    by_cases hbig : m - (ts.length : Int) < 0
    · have HS : Hid (szR ts m = -1) := by show _ = _; have := partsL_len ts; unfold szR; rw [if_neg (by omega)]
      clear hr
      go_enter Try.func42, Try.ntmps42
      go_wp2_with fail
      go_ret
      exact ⟨rt_int HS.out.symm, Below.refl _ _⟩
    · have HR : Hid (RdK w hi a ts) := hr
      clear hr
      go_enter Try.func42, Try.ntmps42
      go_wp2_with fail
      go_loopw [1, 5] (fun l i wr => ∃ (k : Nat) (x : Int), k ≤ ts.length ∧ i = .int .i64 k ∧ l = .int .i64 x ∧ 0 ≤ x ∧ x ≤ m ∧ Hid (x = m - ts.length + k - partsL (ts.take k)) ∧ Below w.heap.size w wr) (fun _ i _ => ts.length - (intOf i).toNat)
      case atStart => exact ⟨0, m - ts.length, Nat.zero_le _, rfl, rfl, by omega, by omega, by show _ = _; simp [partsL], Below.refl _ _⟩
      case round =>
        obtain ⟨k, x, hk, rfl, rfl, hx0, hx1, HX, hbr⟩ := hrel
        by_cases hk' : k < ts.length
        · obtain ⟨b, off, a', c', rfl, hlt, d0, d1, d2, hkr⟩ := RdK.kid (HR.out.on (hbr.mono hhi)) hk'
          have hpg := partsL_get hk'
          have hpt := partsT_eq ts[k]
          have hki : (k : Int) < (ts.length : Int) := by omega
          have hwr := Nat.le_trans hhi hbr.size
          have S := szTerm_of ts[k] a' c' x wr (fun w' h => ih ts[k].kids a' c' hi x w' (by omega) hx0 (by omega) (hkr.on (h.mono hwr)) (Nat.le_trans hwr h.size))
          have HP := partsL_next hk'
          have HR2 := partsL_rest ts (k + 1)
          have hxo := HX.out
          by_cases hle : (partsL ts[k].kids : Int) ≤ x
          · have e : szR ts[k].kids x = x - partsL ts[k].kids := by unfold szR; rw [if_pos hle]
            rw [e] at S
            have hnn : ¬ x - (partsL ts[k].kids : Int) < 0 := by omega
            have HX' : Hid (x - (partsL ts[k].kids : Int) = m - ts.length + ((k + 1 : Nat) : Int) - partsL (ts.take (k + 1))) := by show _ = _; omega
            clear hkr hxo HP HR2 hpt e
            go_wp2_with (go_at_call 10; refine S.mono ?_; rintro e w1 ⟨rfl, hb1⟩; clear S)
            go_roundw
            case rel => exact ⟨k + 1, _, by omega, by go_num, rfl, by omega, by omega, HX', hbr.trans (hb1.mono hbr.size)⟩
            case measure => simp [intOf]; omega
          · have e : szR ts[k].kids x = -1 := by unfold szR; rw [if_neg hle]
            rw [e] at S
            have HS : Hid (szR ts m = -1) := by show _ = _; unfold szR; rw [if_neg (by omega)]
            clear hkr hxo HP HR2 hpt e
            go_wp2_with (go_at_call 10; refine S.mono ?_; rintro e w1 ⟨rfl, hb1⟩; clear S)
            go_ret
            exact ⟨rt_int HS.out.symm, hbr.trans (hb1.mono hbr.size)⟩
        · have HS : Hid (szR ts m = x) := by
            show _ = _
            have hxo := HX.out
            have e : k = ts.length := by omega
            rw [e, List.take_length] at hxo
            unfold szR; rw [if_pos (by omega)]; omega
          go_wp2_with fail
          go_ret
          exact ⟨rt_int HS.out.symm, hbr⟩

theorem szTerm_any (t : TermD) (a : Option Addr) (c hi : Nat) (m : Int) (w : World) (hm0 : 0 ≤ m) (hm : m ≤ 1048576) (hr : RdK w hi a t.kids) (hhi : hi ≤ w.heap.size) :
    Calls Try.prog 10 #[.agg #[.int .i64 t.f, .int .i64 t.v, .slice a t.kids.length c], .int .i64 m] w fun e w' => e = .returned (.int .i64 (szR t.kids m)) ∧ Below w.heap.size w w' :=
  szTerm_of t a c m w (fun w' h => szTermS_any (partsL t.kids) t.kids a c hi m w' (Nat.le_refl _) hm0 hm (hr.on (h.mono hhi)) (Nat.le_trans hhi h.size))
end Go.Proofs.Ytcbafmohmoicnab

/- What is put for variables, as data: a list of numbers and terms, how it lies in memory, how it came in as an argument. Conditions: none. -/
namespace Go.Proofs.Ytcbafmohmoicnab
set_option maxRecDepth 100000
open Go.RowKit

structure BindD where
  n : Int
  t : TermD
instance : Inhabited BindD := ⟨⟨0, .mk 0 0 []⟩⟩

/-- The slice of Binds that begins at 'a' reads in w as us; all below hi. -/
inductive RdU (w : World) (hi : Nat) : Option Addr → List BindD → Prop
  | nil (a : Option Addr) : RdU w hi a []
  | row (b off : Nat) (us : List BindD) (A : Nat → Option Addr) (C : Nat → Nat) (hlt : b < hi) (hl : us.length ≤ 9223372036854775807 ∧ ∀ i, (h : i < us.length) → us[i].t.kids.length ≤ C i) (hz : ∀ i, (h : i < us.length) → isW us[i].n ∧ isW us[i].t.f ∧ isW us[i].t.v)
      (hc : ∀ i, (h : i < us.length) → w.cell? ⟨b, off + i * 4, none⟩ = some (.int .i64 us[i].n) ∧ w.cell? ⟨b, off + i * 4 + 1, none⟩ = some (.int .i64 us[i].t.f) ∧ w.cell? ⟨b, off + i * 4 + 2, none⟩ = some (.int .i64 us[i].t.v) ∧ w.cell? ⟨b, off + i * 4 + 3, none⟩ = some (.slice (A i) us[i].t.kids.length (C i)))
      (hk : ∀ i, (h : i < us.length) → RdK w hi (A i) us[i].t.kids) : RdU w hi (some ⟨b, off, none⟩) us
theorem RdU.on {w w' : World} {hi : Nat} {a : Option Addr} {us : List BindD} (h : RdU w hi a us) (hb : Below hi w w') : RdU w' hi a us := by
  cases h with
  | nil a => exact .nil a
  | row b off us A C hlt hl hz hc hk =>
    exact .row b off us A C hlt hl hz (fun i hi' => ⟨(hb.cell (p := ⟨b, _, none⟩) hlt).trans (hc i hi').1, (hb.cell (p := ⟨b, _, none⟩) hlt).trans (hc i hi').2.1, (hb.cell (p := ⟨b, _, none⟩) hlt).trans (hc i hi').2.2.1, (hb.cell (p := ⟨b, _, none⟩) hlt).trans (hc i hi').2.2.2⟩) (fun i hi' => (hk i hi').on hb)
theorem RdU.mono {w : World} {hi hi' : Nat} {a : Option Addr} {us : List BindD} (h : RdU w hi a us) (hh : hi ≤ hi') : RdU w hi' a us := by
  cases h with
  | nil a => exact .nil a
  | row b off us A C hlt hl hz hc hk => exact .row b off us A C (Nat.lt_of_lt_of_le hlt hh) hl hz hc (fun i hi' => (hk i hi').mono hh)
theorem RdU.get {w : World} {hi : Nat} {a : Option Addr} {us : List BindD} (h : RdU w hi a us) {i : Nat} (hi' : i < us.length) :
    ∃ b off a' c', a = some ⟨b, off, none⟩ ∧ b < hi ∧ w.cell? ⟨b, off + i * 4, none⟩ = some (.int .i64 us[i].n) ∧ w.cell? ⟨b, off + i * 4 + 1, none⟩ = some (.int .i64 us[i].t.f) ∧ w.cell? ⟨b, off + i * 4 + 2, none⟩ = some (.int .i64 us[i].t.v) ∧ w.cell? ⟨b, off + i * 4 + 3, none⟩ = some (.slice a' us[i].t.kids.length c') ∧ us[i].t.kids.length ≤ c' ∧ RdK w hi a' us[i].t.kids ∧ (isW us[i].n ∧ isW us[i].t.f ∧ isW us[i].t.v) := by
  cases h with
  | nil a => simp at hi'
  | row b off us A C hlt hl hz hc hk => exact ⟨b, off, A i, C i, rfl, hlt, (hc i hi').1, (hc i hi').2.1, (hc i hi').2.2.1, (hc i hi').2.2.2, hl.2 i hi', hk i hi', hz i hi'⟩

/-- It owns its memory: its blocks are among S, and no two of its parts share one. -/
inductive OwnU (w : World) : (Nat → Prop) → Option Addr → List BindD → Prop
  | nil (S : Nat → Prop) (a : Option Addr) : OwnU w S a []
  | row (S : Nat → Prop) (b off : Nat) (us : List BindD) (A : Nat → Option Addr) (C : Nat → Nat) (K : Nat → Nat → Prop) (hb : S b) (hlt : b < w.heap.size) (hl : us.length ≤ 9223372036854775807 ∧ ∀ i, (h : i < us.length) → us[i].t.kids.length ≤ C i) (hz : ∀ i, (h : i < us.length) → isW us[i].n ∧ isW us[i].t.f ∧ isW us[i].t.v)
      (hc : ∀ i, (h : i < us.length) → w.cell? ⟨b, off + i * 4, none⟩ = some (.int .i64 us[i].n) ∧ w.cell? ⟨b, off + i * 4 + 1, none⟩ = some (.int .i64 us[i].t.f) ∧ w.cell? ⟨b, off + i * 4 + 2, none⟩ = some (.int .i64 us[i].t.v) ∧ w.cell? ⟨b, off + i * 4 + 3, none⟩ = some (.slice (A i) us[i].t.kids.length (C i)))
      (hf : ∀ j, w.frozen? ⟨b, j, none⟩ = false)
      (hsub : ∀ i x, i < us.length → K i x → S x ∧ x ≠ b) (hdis : ∀ i j x, i < us.length → j < us.length → i ≠ j → K i x → ¬ K j x)
      (hk : ∀ i, (h : i < us.length) → OwnS w (K i) (A i) us[i].t.kids) : OwnU w S (some ⟨b, off, none⟩) us
theorem OwnU.frame {w w' : World} {S : Nat → Prop} {a : Option Addr} {us : List BindD} (h : OwnU w S a us) (hs : ∀ x, S x → w'.heap[x]? = w.heap[x]?) (hz : w.heap.size ≤ w'.heap.size) : OwnU w' S a us := by
  cases h with
  | nil a => exact .nil _ a
  | row b off us A C K hb hlt hl hz' hc hf hsub hdis hk =>
    have e := hs b hb
    exact .row _ b off us A C K hb (Nat.lt_of_lt_of_le hlt hz) hl hz' (fun i h => ⟨(World.cell?_of_block (a := ⟨b, _, none⟩) e).trans (hc i h).1, (World.cell?_of_block (a := ⟨b, _, none⟩) e).trans (hc i h).2.1, (World.cell?_of_block (a := ⟨b, _, none⟩) e).trans (hc i h).2.2.1, (World.cell?_of_block (a := ⟨b, _, none⟩) e).trans (hc i h).2.2.2⟩) (fun j => (World.frozen?_of_block (a := ⟨b, j, none⟩) e).trans (hf j)) hsub hdis (fun i h => (hk i h).frame (fun x hx => hs x (hsub i x h hx).1) hz)
theorem OwnU.rd {w : World} {S : Nat → Prop} {a : Option Addr} {us : List BindD} (h : OwnU w S a us) : RdU w w.heap.size a us := by
  cases h with
  | nil a => exact .nil a
  | row b off us A C K hb hlt hl hz hc hf hsub hdis hk => exact .row b off us A C hlt hl hz hc (fun i h => (hk i h).rd)

/-- How much it holds. -/
def partsU (us : List BindD) : Nat := us.length + (us.map (fun u => partsL u.t.kids)).sum
theorem sum_nextU {us : List BindD} {k : Nat} (h : k < us.length) : ((us.take (k + 1)).map (fun u => partsL u.t.kids)).sum = ((us.take k).map (fun u => partsL u.t.kids)).sum + partsL us[k].t.kids := by
  rw [List.take_succ_eq_append_getElem h, List.map_append, List.sum_append]; simp only [List.map_cons, List.map_nil, List.sum_cons, List.sum_nil, Nat.add_zero]
theorem sum_takeU (us : List BindD) (k : Nat) : ((us.take k).map (fun u => partsL u.t.kids)).sum ≤ (us.map (fun u => partsL u.t.kids)).sum := by
  conv => rhs; rw [← List.take_append_drop k us, List.map_append, List.sum_append]
  omega
theorem partsU_get {us : List BindD} {k : Nat} (h : k < us.length) : partsL us[k].t.kids + 1 ≤ partsU us := by
  have h1 := sum_nextU h
  have h2 := sum_takeU us (k + 1)
  unfold partsU
  omega
def szU (us : List BindD) (m : Int) : Int := if (partsU us : Int) ≤ m then m - partsU us else -1

/-- An argument, opened. -/
theorem cellsB : Try.prog.cellsOf 64 = 4 := by kernel_rfl
theorem bind_trod {H : Type} {enc : TypeId × Value → H} {W : World} {base : Nat} {spare : Nat → Bool} {held : Bool} {fuel : Nat} {cs : List Value} {x : DataW H × List MemPlace}
    (h : DataW.trod enc Try.prog W base spare held fuel 64 cs = some x) :
    ∃ (u : BindD) (a : Option Addr) (c : Nat), cs = [.int .i64 u.n, .int .i64 u.t.f, .int .i64 u.t.v, .slice a u.t.kids.length c] ∧ (isW u.n ∧ isW u.t.f ∧ isW u.t.v) ∧ u.t.kids.length ≤ c ∧ RdK W W.heap.size a u.t.kids := by
  obtain ⟨xs, m, rfl, rfl, hlen, hxl, hf⟩ := DataW.trod_struct Try.underlying64 h
  rw [cellsB] at hlen
  match cs, hlen with
  | [c0, c1, c2, c3], _ =>
    match xs, hxl with
    | [y0, y1], _ =>
      have h0 : DataW.trod enc Try.prog W base spare held m 3 [c0] = some y0 := by have := hf 0 _ rfl; simpa [cellsI] using this
      have h1 : DataW.trod enc Try.prog W base spare held m 26 [c1, c2, c3] = some y1 := by have := hf 1 _ rfl; simpa [cellsT] using this
      obtain ⟨z0, e0, _, w0⟩ := DataW.trod_int Try.underlying3 h0
      obtain ⟨t, a, c, e1, q1, q2, q3, q4⟩ := term_trod h1 (fun m _ cs x hx => kids_trod m cs x hx)
      simp at e0 e1
      obtain ⟨e1, e2, e3⟩ := e1
      subst e0 e1 e2 e3
      exact ⟨⟨z0, t⟩, a, c, rfl, ⟨isW_of w0, q1, q2⟩, q3.2, q4⟩
theorem open_binds {H : Type} {enc : TypeId × Value → H} {W : World} {base : Nat} {spare : Nat → Bool} {held : Bool} {v : Value} {d : DataW H} {p : List MemPlace} {a : Option Addr} {len cap : Nat} (hv : v = .slice a len cap)
    (h : DataW.Trod enc Try.prog W base spare held 23 v d p) : ∃ us : List BindD, len = us.length ∧ (len ≤ maxLen ∧ len ≤ cap) ∧ RdU W W.heap.size a us := by
  subst hv
  obtain ⟨fuel, hf⟩ := h
  rcases DataW.trod_slice Try.underlying23 hf with ⟨e, _⟩ | ⟨x0, l, c, elems, rest, n, rfl, e, _, hb, hl, hm, hlen, hel, _, _⟩
  · simp [Value.cells] at e
    obtain ⟨rfl, rfl, rfl⟩ := e
    exact ⟨[], rfl, ⟨Nat.zero_le _, Nat.zero_le _⟩, .nil _⟩
  · simp [Value.cells] at e
    obtain ⟨rfl, rfl, rfl⟩ := e
    rw [cellsB] at hel
    have hall : ∀ i, i < len → ∃ y : BindD × Option Addr × Nat, W.cells? base (x0.add (i * 4)) 4 = some [.int .i64 y.1.n, .int .i64 y.1.t.f, .int .i64 y.1.t.v, .slice y.2.1 y.1.t.kids.length y.2.2] ∧ (isW y.1.n ∧ isW y.1.t.f ∧ isW y.1.t.v) ∧ RdK W W.heap.size y.2.1 y.1.t.kids ∧ y.1.t.kids.length ≤ y.2.2 := by
      intro i hi
      have h1 := hel i hi
      rw [List.getElem?_eq_getElem (by omega)] at h1
      obtain ⟨cs', g1, g2⟩ := Option.bind_eq_some_iff.1 h1
      obtain ⟨u, a, c, rfl, q1, q2, q3⟩ := bind_trod g2
      exact ⟨⟨u, a, c⟩, g1, q1, q3, q2⟩
    obtain ⟨F, hF⟩ := Deep.choose_lt hall
    refine ⟨(List.range len).map (fun i => (F i).1), by simp, ⟨by omega, by omega⟩, ?_⟩
    by_cases h0 : len = 0
    · subst h0; exact .nil _
    · have hcell : ∀ i, (hi : i < len) → ∀ j, j < 4 → W.cell? ((x0.add (i * 4)).add j) = [Value.int .i64 (F i).1.n, .int .i64 (F i).1.t.f, .int .i64 (F i).1.t.v, .slice (F i).2.1 (F i).1.t.kids.length (F i).2.2][j]? := fun i hi j hj => (World.cells?_some (hF i hi).1).2.2 j hj
      obtain ⟨b, off, spot⟩ := x0
      have hc0 := hcell 0 (by omega) 0 (by omega)
      have h1 : W.cell? (⟨b, off, spot⟩ : Addr) = some (.int .i64 (F 0).1.n) := by simpa [Addr.add] using hc0
      have hspot : spot = none := by simpa using World.cell?_spot h1
      subst hspot
      have hadd : ∀ i j, ((⟨b, off, none⟩ : Addr).add i).add j = ⟨b, off + i + j, none⟩ := by
        intro i j
        by_cases h1 : i = 0 <;> by_cases h2 : j = 0 <;> simp [Addr.add, h1, h2, Nat.add_assoc]
      have hbl : b < W.heap.size := World.block_lt_of_cell? _ _ h1
      refine .row b off _ (fun i => (F i).2.1) (fun i => (F i).2.2) hbl ⟨by simp; unfold maxLen at hm; omega, fun i hi => by simp at hi; simp only [List.getElem_map, List.getElem_range]; exact (hF i hi).2.2.2⟩ (fun i hi => ?_) (fun i hi => ?_) (fun i hi => ?_)
      · simp at hi
        simp only [List.getElem_map, List.getElem_range]
        exact (hF i hi).2.1
      · simp at hi
        simp only [List.getElem_map, List.getElem_range]
        have g0 := hcell i hi 0 (by omega)
        have g1 := hcell i hi 1 (by omega)
        have g2 := hcell i hi 2 (by omega)
        have g3 := hcell i hi 3 (by omega)
        rw [hadd] at g0 g1 g2 g3
        exact ⟨by simpa using g0, by simpa using g1, by simpa using g2, by simpa using g3⟩
      · simp at hi
        simp only [List.getElem_map, List.getElem_range]
        exact (hF i hi).2.2.1
end Go.Proofs.Ytcbafmohmoicnab

