/- What the proof of FnExactLitApply stands on, part 7 of 13: each piece says what it proves and under which conditions. Conditions: as each piece says. -/
import Derived.Test.YtollijngiioonabGreatPackExactLitApply6
import Derived.Deep.RegionHeld3
import Derived.Test.YtollijngiioonabGreatProg
/- One form of a term, as the program makes it: the walk. Conditions: terms of at most 549755813888 parts. -/
namespace Go.Proofs.YtollijngiioonabGreat
set_option maxRecDepth 100000
open Go.RowKit

set_option maxHeartbeats 6400000 in
set_option maxRecDepth 100000 in
theorem impNorm_any (sa : Option Addr) (ss : List SymD) (sc : Nat) (t : TermD) (a : Option Addr) (c hi : Nat) (w : World) (hs : RdS w sa ss) (hp : partsT t ≤ 549755813888) (hr : RdK w hi a t.kids) (hhi : hi ≤ w.heap.size) (hc : t.kids.length ≤ c) (hwf : isW t.f ∧ isW t.v) :
    Calls Tryz.prog 41 #[.slice sa ss.length sc, .agg #[.int .i64 t.f, .int .i64 t.v, .slice a t.kids.length c]] w fun e w' => ∃ a' c', e = .returned (.agg #[.int .i64 t.f, .int .i64 t.v, .slice a' (normT (blindAt ss) t).kids.length c']) ∧ OwnS w' (fun k => w.heap.size ≤ k ∧ k < w'.heap.size) a' (normT (blindAt ss) t).kids ∧ (normT (blindAt ss) t).kids.length ≤ c' ∧ Below w.heap.size w w' := by
  obtain ⟨W, hW⟩ : ∃ W, W = (w.alloc (.cells #[.int .i64 t.f, .int .i64 t.v, .slice a t.kids.length c] 34)).alloc (.cells #[.int .i64 0, .int .i64 0, .slice none 0 0] 34) := ⟨_, rfl⟩
  have hb0 : Below w.heap.size w W := by rw [hW]; exact ((Below.refl _ _).alloc (Nat.le_refl _) _).alloc (by simp) _
  have hz0 : W.heap.size = w.heap.size + 1 + 1 := by rw [hW]; simp
  have nb0 : NB w W := ⟨hb0, by rw [hW]; simp [go_sem], by rw [hW]; simp [go_sem], by rw [hW]; simp [go_sem], fun j => by rw [hW]; simp [go_sem], by omega⟩
  have CO := opened_any sa ss sc w.heap.size (w.heap.size + 1 + 1) [] none 0 t a c W (hs.below hb0) (.start (by omega) (by omega)) (by simp) ((hr.mono hhi).on hb0) hc hwf
  have HS : Hid (∀ W', Below w.heap.size w W' → RdS W' sa ss) := fun W' h => hs.below h
  have HR : Hid (∀ (f v : Int), (normT (blindAt ss) t).f = t.f ∧ (normT (blindAt ss) t).v = t.v) := fun _ _ => by rw [normT_eq]; exact ⟨rfl, rfl⟩
  have hpt := partsT_eq t
  clear hs hr hhi
  simp only [List.length_nil, Nat.zero_add] at CO
  go_enter Tryz.func41, Tryz.ntmps41
  go_wp2_with (go_at_call 50; rw [← hW]; refine CO.mono ?_; rintro e w1 ⟨g1, c1, rfl, st1, sy1⟩; clear CO hW)
  have I1 : NI w (blindAt ss) t (partsT t) (1 + 2 * partsL t.kids) [opn t a c (isHome (blindAt ss) t [])] g1 c1 w1 := ⟨st1, .inl ⟨rfl, rfl⟩, by simp [todo, FM.d, opn], by simp [bulkP, FM.d, opn, partsL]; omega, by
    have := fin_start (bl := blindAt ss) t
    exact this, nb0.stay sy1⟩
  clear st1 sy1 nb0 hb0 hz0 hc hwf
  go_loopg [5] (1 + 2 * partsL t.kids) (fun k s5 wr => ∃ (F : List FM) (g cv : Nat), s5 = .slice (some ⟨g, 0, none⟩) F.length cv ∧ NI w (blindAt ss) t (partsT t) k F g cv wr)
  case atStart => exact ⟨_, g1, c1, rfl, I1⟩
  case round =>
    obtain ⟨F, g, cv, rfl, I⟩ := hrel
    clear I1
    cases F with
    | nil => exact I.hh.elim
    | cons x r =>
      simp only [List.length_cons]
      have hlen := I.len
      have hmade := I.made
      have hlf := I.lefts
      have hgl := (I.st.row.lt g rfl)
      have hcv : r.length + 1 ≤ cv := by obtain ⟨_, _, e, hh⟩ := own_form I.st.row; rw [(Value.slice.inj e).2.2]; exact hh
      have hcvz : (r.length : Int) ≤ (cv : Int) := by omega
      obtain ⟨q0, q1, q2, q3, q4, q5⟩ := top_cells I.st
      cases hxl : x.left with
      | nil =>
        have CT := takeKid_none _ _ x r g cv wr I.st (by omega) hxl
        cases hxh : x.hm with
        | false =>
          have hrh : hasHome r := botH_has (I.hh.resolve_left (fun q => by rw [hxh] at q; simp at q))
          have hix := home_lt hrh
          have e5 : homeIx (x :: r) = homeIx r := by simp [homeIx, hxh]
          rw [e5] at q5
          have hixz : ((homeIx r : Nat) : Int) < (r.length : Int) := by omega
          generalize homeIx r = ix at *
          have HI : Hid _ := I
          have HX : Hid (x.left = [] ∧ x.hm = false) := ⟨hxl, hxh⟩
          rw [hxl] at q3
          clear I hmade hlf hxl hxh e5 hrh
          go_wp2_with (go_at_call 51; refine CT.mono ?_; rintro e w2 ⟨rfl, hb2⟩; clear CT; have k0 := keepC hb2 q0; have k1 := keepC hb2 q1; have k2 := keepC hb2 q2; have k3 := keepC hb2 q3; have k4 := keepC hb2 q4; have k5 := keepC hb2 q5; have hg2 := Nat.lt_of_lt_of_le hgl.2 hb2.size; clear q0 q1 q2 q3 q4 q5)
          have hbF : ∀ o1 o2, Below wr.heap.size wr ((w2.alloc o1).alloc o2) := fun o1 o2 => (hb2.alloc hb2.size o1).alloc (by have := hb2.size; simp; omega) o2
          obtain ⟨D1, D2⟩ := HI.out.drop HX.out.1 HX.out.2 (hbF _ _)
          go_roundg (gk - 1)
          case measure => omega
          case rel => exact ⟨r, g, cv, rfl, D1⟩
        | true =>
          have e5 : homeIx (x :: r) = r.length := by simp [homeIx, hxh]
          rw [e5] at q5
          rw [hxl] at q3
          simp only [List.length_nil] at q3
          have hxS : ∀ k, x.S k → w.heap.size + 1 + 1 ≤ k ∧ k < wr.heap.size := fun k hk => (I.st.fr x (by simp)).lt k hk
          have hwfx := (I.st.fr x (by simp)).wf
          have CC : ∀ W', Below wr.heap.size wr W' → Calls Tryz.prog 52 #[.agg #[.int .i64 x.t.f, .int .i64 x.t.v, .slice x.a x.t.kids.length x.c, .slice x.al 0 x.cl, .slice x.am x.L.length x.cm, .int .i64 (r.length : Nat)], .slice sa ss.length sc] W' fun e w' => ∃ T : TermD, T = closeT (blindAt ss) x.t.f x.t.v (x.L.map FE.t) ∧ e = .returned (.agg #[.int .i64 T.f, .int .i64 T.v, .slice x.am T.kids.length T.kids.length]) ∧ OwnS w' x.S x.am T.kids ∧ Stay (fun k => k < W'.heap.size ∧ ¬ x.S k) W' w' := fun W' hb => by
            have := closed_any sa ss sc _ _ r.length x W' (HS.out W' (I.nb.be.trans (hb.mono I.nb.be.size))) ((I.st.on hb).fr x (by simp)) (by have := hmade x (by simp); omega)
            rw [hxl] at this
            exact this
          have CN : ∀ W' w4, Below wr.heap.size wr W' → Stay (fun k => k < W'.heap.size ∧ ¬ x.S k) W' w4 → NB w w4 := fun W' w4 hb hs => (I.nb.on hb).stay (hs.weak (fun k hk hk2 => ⟨hk, fun q => by have := hxS k q; omega⟩))
          cases r with
          | nil =>
            have hfin := I.fin
            rw [List.map_cons, List.map_nil, fin_end (show x.d.left = [] from hxl) (show x.d.home = true from hxh)] at hfin
            have HF : Hid (closeT (blindAt ss) x.t.f x.t.v (x.L.map FE.t) = normT (blindAt ss) t) := hfin
            have HX : Hid (∀ k, x.S k → w.heap.size + 1 + 1 ≤ k ∧ k < wr.heap.size) := hxS
            clear I hmade hlf hxl hxh e5 hfin hxS
            simp only [List.length_nil] at *
            go_wp2_with (first
              | (go_at_call 51; refine CT.mono ?_; rintro e w2 ⟨rfl, hb2⟩; clear CT; have k0 := keepC hb2 q0; have k1 := keepC hb2 q1; have k2 := keepC hb2 q2; have k3 := keepC hb2 q3; have k4 := keepC hb2 q4; have k5 := keepC hb2 q5; have hg2 := Nat.lt_of_lt_of_le hgl.2 hb2.size; have hb3 : Below wr.heap.size wr ((w2.alloc (.cells #[.int .i64 0, .int .i64 0, .slice none 0 0] 34)).alloc (.cells #[.int .i64 x.t.f, .int .i64 x.t.v, .slice x.a x.t.kids.length x.c, .slice x.al 0 x.cl, .slice x.am x.L.length x.cm, .int .i64 0] 89)) := ((hb2.alloc hb2.size _).alloc (by have := hb2.size; simp; omega) _); clear q0 q1 q2 q3 q4 q5)
              | (go_at_call 52; refine (CC _ hb3).mono ?_; rintro e w4 ⟨TT, hTT, rfl, ho4, hs4⟩; have HT : Hid (TT = closeT (blindAt ss) x.t.f x.t.v (x.L.map FE.t)) := hTT; clear hTT; have nb4 := CN _ _ hb3 hs4; have d0 := nb4.c0; have d1 := nb4.c1; have d2 := nb4.c2; have df := nb4.cf; have hz4 : w.heap.size + 1 < w4.heap.size := nb4.z; clear k0 k1 k2 k3 k4 k5))
            obtain ⟨z0, z1, z2⟩ := set3_cells (u := w4) (r := w.heap.size + 1) (x := .int .i64 TT.f) (y := .int .i64 TT.v) (z := .slice x.am TT.kids.length TT.kids.length) d0 d1 d2
            have hTn : TT = normT (blindAt ss) t := HT.out.trans HF.out
            have hnS : ∀ j, ¬ x.S (⟨w.heap.size + 1, j, none⟩ : Addr).block := fun j q => by have := (HX.out _ q).1; simp only at this; omega
            have hoF := ((ho4.setCell ⟨w.heap.size + 1, 0, none⟩ (hnS 0) (.int .i64 TT.f)).setCell ⟨w.heap.size + 1, 1, none⟩ (hnS 1) (.int .i64 TT.v)).setCell ⟨w.heap.size + 1, 2, none⟩ (hnS 2) (.slice x.am TT.kids.length TT.kids.length)
            have hbF := ((nb4.be.setCell (p := ⟨w.heap.size + 1, 0, none⟩) (by simp) (.int .i64 TT.f)).setCell (p := ⟨w.heap.size + 1, 1, none⟩) (by simp) (.int .i64 TT.v)).setCell (p := ⟨w.heap.size + 1, 2, none⟩) (by simp) (.slice x.am TT.kids.length TT.kids.length)
            obtain ⟨W5, hW5⟩ : ∃ W5, W5 = ((w4.setCell ⟨w.heap.size + 1, 0, none⟩ (.int .i64 TT.f)).setCell ⟨w.heap.size + 1, 1, none⟩ (.int .i64 TT.v)).setCell ⟨w.heap.size + 1, 2, none⟩ (.slice x.am TT.kids.length TT.kids.length) := ⟨_, rfl⟩
            rw [← hW5] at z0 z1 z2 hoF hbF ⊢
            have hz5 : W5.heap.size = w4.heap.size := by rw [hW5]; simp
            have hb6 : Below W5.heap.size W5 (W5.alloc (.cells #[.int .i64 TT.f, .int .i64 TT.v, .slice x.am TT.kids.length TT.kids.length] 34)) := (Below.refl _ _).alloc (Nat.le_refl _) _
            have y0 := keepC hb6 z0
            have y1 := keepC hb6 z1
            have y2 := keepC hb6 z2
            have hlt : ∀ k, x.S k → w.heap.size ≤ k ∧ k < W5.heap.size := fun k hk => by have := HX.out k hk; have := hb3.size; have := hs4.size; omega
            obtain ⟨e1, e2⟩ := HR.out 0 0
            rw [← hTn] at e1 e2 ⊢
            rw [← e1, ← e2]
            refine bodyPost_ret (v := .agg #[.int .i64 TT.f, .int .i64 TT.v, .slice x.am TT.kids.length TT.kids.length]) (by simp [results, Tryz.results41, go_sem, y0, y1, y2]) rfl ⟨x.am, TT.kids.length, rfl, ?_, Nat.le_refl _, hbF.trans (hb6.mono hbF.size)⟩
            exact (hoF.frame (fun k hk => hb6.block k (hlt k hk).2) hb6.size).mono (fun k hk => ⟨(hlt k hk).1, Nat.lt_of_lt_of_le (hlt k hk).2 hb6.size⟩)
          | cons y r' =>
            have hrh : hasHome (y :: r') := botH_has (botH_rest I.hh (by simp))
            have hdis := (List.pairwise_cons.1 I.st.dis).1
            have hgx := I.st.vb g rfl x (by simp)
            have CP : ∀ W' w4 (TT : TermD), Below wr.heap.size wr W' → OwnS w4 x.S x.am TT.kids → Stay (fun k => k < W'.heap.size ∧ ¬ x.S k) W' w4 → Hid (TT = closeT (blindAt ss) x.t.f x.t.v (x.L.map FE.t)) → ∀ w5, Below w4.heap.size w4 w5 →
                Calls Tryz.prog 53 #[.slice (some ⟨g, 0, none⟩) (r'.length + 1) cv, .agg #[.int .i64 TT.f, .int .i64 TT.v, .slice x.am TT.kids.length TT.kids.length]] w5 fun e w6 => e = .returned (.tuple #[]) ∧ ∃ F', F'.length = r'.length + 1 ∧ NI w (blindAt ss) t (partsT t) (gk - 1) F' g cv w6 ∧ 1 ≤ gk := fun W' w4 TT hb ho hs hT w5 hb5 => by
              have hS := fun k hk => (I.st.fr x (by simp)).lt k hk
              have st1 := (I.st.on hb).pop.keep (S := fun k => k < W'.heap.size ∧ ¬ x.S k) hs (fun k hk => ⟨by have := I.nb.z; have := hb.size; omega, fun q => by have := (hS k q).1; omega⟩) (fun z hz k hk => ⟨(((I.st.on hb).fr z (List.mem_cons_of_mem _ hz)).lt k hk).2, fun q => hdis z hz k q hk⟩) (fun g' hg' => by
                have e0 : g = g' := by simpa [Value.ownBlock] using hg'
                subst e0
                exact ⟨Nat.lt_of_lt_of_le hgl.2 hb.size, hgx⟩)
              have st2 := st1.on hb5
              have nb5 := (CN W' w4 hb hs).on hb5
              have eT : TT.f = x.t.f ∧ TT.v = x.t.v := by rw [hT.out]; exact ⟨rfl, rfl⟩
              have hP := put_any w.heap.size (w.heap.size + 1 + 1) (y :: r') g cv ⟨TT, x.am, TT.kids.length, x.S⟩ w5 st2 hrh (by omega) ⟨ho.frame (fun k hk => hb5.block k (by have := (hS k hk).2; have := hb.size; have := hs.size; omega)) hb5.size, Nat.le_refl _, by rw [eT.1, eT.2]; exact hwfx, fun k hk => ⟨(hS k hk).1, by have := (hS k hk).2; have := hb.size; have := hs.size; have := hb5.size; omega⟩⟩ (fun z hz k hk => hdis z hz k hk) hgx (by
                have h1 := hmade _ (List.mem_cons_of_mem x (home_mem hrh))
                have h2 := partsL_len ((homeFr (y :: r')).L.map FE.t)
                simp at h2
                omega)
              refine hP.mono ?_
              rintro e w6 ⟨g2, c2, rfl, st3, sy3⟩
              obtain ⟨C1, C2⟩ := I.close hxl hxh (by simp) hT.out (e := ⟨TT, x.am, TT.kids.length, x.S⟩) rfl st3 (nb5.stay sy3)
              exact ⟨rfl, _, by rw [putHome_len]; simp, C1, C2⟩
            simp only [List.length_cons] at *
            clear I hmade hlf hxl hxh e5 hxS hdis hgx hrh HR
            go_wp2_with (first
              | (go_at_call 51; refine CT.mono ?_; rintro e w2 ⟨rfl, hb2⟩; clear CT; have k0 := keepC hb2 q0; have k1 := keepC hb2 q1; have k2 := keepC hb2 q2; have k3 := keepC hb2 q3; have k4 := keepC hb2 q4; have k5 := keepC hb2 q5; have hg2 := Nat.lt_of_lt_of_le hgl.2 hb2.size; have hb3 : Below wr.heap.size wr ((w2.alloc (.cells #[.int .i64 0, .int .i64 0, .slice none 0 0] 34)).alloc (.cells #[.int .i64 x.t.f, .int .i64 x.t.v, .slice x.a x.t.kids.length x.c, .slice x.al 0 x.cl, .slice x.am x.L.length x.cm, .int .i64 ((r'.length + 1 : Nat) : Int)] 89)) := ((hb2.alloc hb2.size _).alloc (by have := hb2.size; simp; omega) _); clear q0 q1 q2 q3 q4 q5)
              | (go_at_call 52; refine (CC _ hb3).mono ?_; rintro e w4 ⟨TT, hTT, rfl, ho4, hs4⟩; have HT : Hid (TT = closeT (blindAt ss) x.t.f x.t.v (x.L.map FE.t)) := hTT; clear hTT; have nb4 := CN _ _ hb3 hs4; have P5 := CP _ _ TT hb3 ho4 hs4 HT; clear k0 k1 k2 k3 k4 k5)
              | (go_at_call 53; refine (P5 _ ((Below.refl _ _).alloc (Nat.le_refl _) _)).mono ?_; rintro e w6 ⟨rfl, F', hF', J, hgk⟩))
            go_roundg (gk - 1)
            case measure => omega
            case rel => exact ⟨F', g, cv, by rw [hF'], J⟩
      | cons k ks =>
        have CT := takeKid_some _ _ x r g cv k ks wr I.st (by omega) hxl (by rw [hxl] at hlf; simp at hlf; omega)
        have CO : ∀ (ak : Option Addr) (ck : Nat) (al : Option Addr) (cl : Nat) w2, NSt w.heap.size (w.heap.size + 1 + 1) ({ x with left := ks, al := al, cl := cl } :: r) (.slice (some ⟨g, 0, none⟩) (r.length + 1) cv) w2 → RdK w2 w.heap.size ak k.kids → k.kids.length ≤ ck → (isW k.f ∧ isW k.v) → Stay (fun k => k < w.heap.size + 1 + 1) wr w2 → ∀ w3, Below w2.heap.size w2 w3 →
            Calls Tryz.prog 50 #[.slice (some ⟨g, 0, none⟩) (r.length + 1) cv, .slice sa ss.length sc, .agg #[.int .i64 k.f, .int .i64 k.v, .slice ak k.kids.length ck]] w3 fun e w4 => ∃ g' cv', e = .returned (.slice (some ⟨g', 0, none⟩) (r.length + 1 + 1) cv') ∧ ∃ F', F'.length = r.length + 1 + 1 ∧ NI w (blindAt ss) t (partsT t) (gk - 1) F' g' cv' w4 ∧ 1 ≤ gk := fun ak ck al cl w2 st hrk hck hwk hsy w3 hb3 => by
          have nb3 := (I.nb.stay hsy).on hb3
          refine (opened_any sa ss sc w.heap.size (w.heap.size + 1 + 1) ({ x with left := ks, al := al, cl := cl } :: r) (some ⟨g, 0, none⟩) cv k ak ck w3 (HS.out w3 nb3.be) (st.on hb3) (by simp; omega) (hrk.on (hb3.mono (by have := (I.nb.stay hsy).z; omega))) hck hwk).mono ?_
          rintro e w4 ⟨g', cv', rfl, st4, sy4⟩
          obtain ⟨C1, C2⟩ := I.opn hxl st4 (nb3.stay sy4)
          exact ⟨g', cv', rfl, _, by simp, C1, C2⟩
        clear I hmade hlf hxl q0 q1 q2 q3 q4 q5 HR
        go_wp2_with (first
          | (go_at_call 51; refine CT.mono ?_; rintro e w2 ⟨ak, ck, al, cl, rfl, st2, hrk2, hck2, hwk2, hsy2⟩; clear CT; have CO2 := CO ak ck al cl w2 st2 hrk2 hck2 hwk2 hsy2; clear CO st2 hrk2 hwk2 hsy2)
          | (go_at_call 50; refine (CO2 _ ((Below.refl _ _).alloc (Nat.le_refl _) _)).mono ?_; rintro e w4 ⟨g', cv', rfl, F', hF', J, hgk⟩))
        go_roundg (gk - 1)
        case measure => omega
        case rel => exact ⟨F', g', cv', by rw [hF'], J⟩
end Go.Proofs.YtollijngiioonabGreat

/- An equation made of two terms, as the program makes it: one form of both, the greater one ahead. Conditions: at most 549755813888 parts; capacities that hold the lists. -/
namespace Go.Proofs.YtollijngiioonabGreat
set_option maxRecDepth 100000
open Go.RowKit

/-- An equation that owns its memory: either side its own. -/
structure OwnX (w W : World) (X : LitD) (a1 : Option Addr) (c1 : Nat) (a2 : Option Addr) (c2 : Nat) (S1 S2 : Nat → Prop) : Prop where
  o1 : OwnS W S1 a1 X.l.kids
  o2 : OwnS W S2 a2 X.r.kids
  dis : ∀ k, S1 k → ¬ S2 k
  i1 : ∀ k, S1 k → w.heap.size ≤ k ∧ k < W.heap.size
  i2 : ∀ k, S2 k → w.heap.size ≤ k ∧ k < W.heap.size
  l1 : X.l.kids.length ≤ c1
  l2 : X.r.kids.length ≤ c2
/-- The answer's own box of seven cells, still empty. -/
structure R7 (W : World) (b : Nat) : Prop where
  c0 : W.cell? ⟨b, 0, none⟩ = some (.bool false)
  c1 : W.cell? ⟨b, 1, none⟩ = some (.int .i64 0)
  c2 : W.cell? ⟨b, 2, none⟩ = some (.int .i64 0)
  c3 : W.cell? ⟨b, 3, none⟩ = some (.slice none 0 0)
  c4 : W.cell? ⟨b, 4, none⟩ = some (.int .i64 0)
  c5 : W.cell? ⟨b, 5, none⟩ = some (.int .i64 0)
  c6 : W.cell? ⟨b, 6, none⟩ = some (.slice none 0 0)
  fr : ∀ j, W.frozen? ⟨b, j, none⟩ = false
theorem R7.lt {W : World} {b : Nat} (h : R7 W b) : b < W.heap.size := World.block_lt_of_cell? _ _ h.c0
theorem set7_stay (W : World) (b : Nat) (x0 x1 x2 x3 x4 x5 x6 : Value) : Stay (fun k => k ≠ b) W (((((((W.setCell ⟨b, 0, none⟩ x0).setCell ⟨b, 1, none⟩ x1).setCell ⟨b, 2, none⟩ x2).setCell ⟨b, 3, none⟩ x3).setCell ⟨b, 4, none⟩ x4).setCell ⟨b, 5, none⟩ x5).setCell ⟨b, 6, none⟩ x6) :=
  ((((((Stay.setCell _ _ (by simp)).trans (.setCell _ _ (by simp))).trans (.setCell _ _ (by simp))).trans (.setCell _ _ (by simp))).trans (.setCell _ _ (by simp))).trans (.setCell _ _ (by simp))).trans (.setCell _ _ (by simp))
theorem R7.set {W : World} {b : Nat} (h : R7 W b) (x0 x1 x2 x3 x4 x5 x6 : Value) : (((((((W.setCell ⟨b, 0, none⟩ x0).setCell ⟨b, 1, none⟩ x1).setCell ⟨b, 2, none⟩ x2).setCell ⟨b, 3, none⟩ x3).setCell ⟨b, 4, none⟩ x4).setCell ⟨b, 5, none⟩ x5).setCell ⟨b, 6, none⟩ x6).cell? ⟨b, 0, none⟩ = some x0 ∧ (((((((W.setCell ⟨b, 0, none⟩ x0).setCell ⟨b, 1, none⟩ x1).setCell ⟨b, 2, none⟩ x2).setCell ⟨b, 3, none⟩ x3).setCell ⟨b, 4, none⟩ x4).setCell ⟨b, 5, none⟩ x5).setCell ⟨b, 6, none⟩ x6).cell? ⟨b, 1, none⟩ = some x1 ∧ (((((((W.setCell ⟨b, 0, none⟩ x0).setCell ⟨b, 1, none⟩ x1).setCell ⟨b, 2, none⟩ x2).setCell ⟨b, 3, none⟩ x3).setCell ⟨b, 4, none⟩ x4).setCell ⟨b, 5, none⟩ x5).setCell ⟨b, 6, none⟩ x6).cell? ⟨b, 2, none⟩ = some x2 ∧ (((((((W.setCell ⟨b, 0, none⟩ x0).setCell ⟨b, 1, none⟩ x1).setCell ⟨b, 2, none⟩ x2).setCell ⟨b, 3, none⟩ x3).setCell ⟨b, 4, none⟩ x4).setCell ⟨b, 5, none⟩ x5).setCell ⟨b, 6, none⟩ x6).cell? ⟨b, 3, none⟩ = some x3 ∧ (((((((W.setCell ⟨b, 0, none⟩ x0).setCell ⟨b, 1, none⟩ x1).setCell ⟨b, 2, none⟩ x2).setCell ⟨b, 3, none⟩ x3).setCell ⟨b, 4, none⟩ x4).setCell ⟨b, 5, none⟩ x5).setCell ⟨b, 6, none⟩ x6).cell? ⟨b, 4, none⟩ = some x4 ∧ (((((((W.setCell ⟨b, 0, none⟩ x0).setCell ⟨b, 1, none⟩ x1).setCell ⟨b, 2, none⟩ x2).setCell ⟨b, 3, none⟩ x3).setCell ⟨b, 4, none⟩ x4).setCell ⟨b, 5, none⟩ x5).setCell ⟨b, 6, none⟩ x6).cell? ⟨b, 5, none⟩ = some x5 ∧ (((((((W.setCell ⟨b, 0, none⟩ x0).setCell ⟨b, 1, none⟩ x1).setCell ⟨b, 2, none⟩ x2).setCell ⟨b, 3, none⟩ x3).setCell ⟨b, 4, none⟩ x4).setCell ⟨b, 5, none⟩ x5).setCell ⟨b, 6, none⟩ x6).cell? ⟨b, 6, none⟩ = some x6 := by
  refine ⟨?_, ?_, ?_, ?_, ?_, ?_, ?_⟩
  · rw [World.cell?_setCell_other _ _ _ _ (by simp), World.cell?_setCell_other _ _ _ _ (by simp), World.cell?_setCell_other _ _ _ _ (by simp), World.cell?_setCell_other _ _ _ _ (by simp), World.cell?_setCell_other _ _ _ _ (by simp), World.cell?_setCell_other _ _ _ _ (by simp)]
    exact World.cell?_setCell_same _ _ _ h.c0
  · rw [World.cell?_setCell_other _ _ _ _ (by simp), World.cell?_setCell_other _ _ _ _ (by simp), World.cell?_setCell_other _ _ _ _ (by simp), World.cell?_setCell_other _ _ _ _ (by simp), World.cell?_setCell_other _ _ _ _ (by simp)]
    exact World.cell?_setCell_same _ _ _ (by rw [World.cell?_setCell_other _ _ _ _ (by simp)]; exact h.c1)
  · rw [World.cell?_setCell_other _ _ _ _ (by simp), World.cell?_setCell_other _ _ _ _ (by simp), World.cell?_setCell_other _ _ _ _ (by simp), World.cell?_setCell_other _ _ _ _ (by simp)]
    exact World.cell?_setCell_same _ _ _ (by rw [World.cell?_setCell_other _ _ _ _ (by simp), World.cell?_setCell_other _ _ _ _ (by simp)]; exact h.c2)
  · rw [World.cell?_setCell_other _ _ _ _ (by simp), World.cell?_setCell_other _ _ _ _ (by simp), World.cell?_setCell_other _ _ _ _ (by simp)]
    exact World.cell?_setCell_same _ _ _ (by rw [World.cell?_setCell_other _ _ _ _ (by simp), World.cell?_setCell_other _ _ _ _ (by simp), World.cell?_setCell_other _ _ _ _ (by simp)]; exact h.c3)
  · rw [World.cell?_setCell_other _ _ _ _ (by simp), World.cell?_setCell_other _ _ _ _ (by simp)]
    exact World.cell?_setCell_same _ _ _ (by rw [World.cell?_setCell_other _ _ _ _ (by simp), World.cell?_setCell_other _ _ _ _ (by simp), World.cell?_setCell_other _ _ _ _ (by simp), World.cell?_setCell_other _ _ _ _ (by simp)]; exact h.c4)
  · rw [World.cell?_setCell_other _ _ _ _ (by simp)]
    exact World.cell?_setCell_same _ _ _ (by rw [World.cell?_setCell_other _ _ _ _ (by simp), World.cell?_setCell_other _ _ _ _ (by simp), World.cell?_setCell_other _ _ _ _ (by simp), World.cell?_setCell_other _ _ _ _ (by simp), World.cell?_setCell_other _ _ _ _ (by simp)]; exact h.c5)
  · exact World.cell?_setCell_same _ _ _ (by rw [World.cell?_setCell_other _ _ _ _ (by simp), World.cell?_setCell_other _ _ _ _ (by simp), World.cell?_setCell_other _ _ _ _ (by simp), World.cell?_setCell_other _ _ _ _ (by simp), World.cell?_setCell_other _ _ _ _ (by simp), World.cell?_setCell_other _ _ _ _ (by simp)]; exact h.c6)
theorem R7.stay {W W' : World} {b : Nat} {S : Nat → Prop} (h : R7 W b) (hs : Stay S W W') (hb : S b) : R7 W' b :=
  ⟨hs.cell h.c0 hb, hs.cell h.c1 hb, hs.cell h.c2 hb, hs.cell h.c3 hb, hs.cell h.c4 hb, hs.cell h.c5 hb, hs.cell h.c6 hb, fun j => (hs.frozen (p := ⟨b, j, none⟩) h.lt hb).trans (h.fr j)⟩
def makeX (ss : List SymD) (p : Bool) (t u : TermD) : LitD := if befT (normT (blindAt ss) t) (normT (blindAt ss) u) then ⟨p, normT (blindAt ss) u, normT (blindAt ss) t⟩ else ⟨p, normT (blindAt ss) t, normT (blindAt ss) u⟩
set_option maxHeartbeats 6400000 in
theorem impLitMake_any (sa : Option Addr) (ss : List SymD) (sc : Nat) (p : Bool) (t u : TermD) (a b : Option Addr) (c d hi : Nat) (w : World) (hs : RdS w sa ss) (hp1 : partsT t ≤ 549755813888) (hp2 : partsT u ≤ 549755813888) (hx1 : RdK w hi a t.kids) (hx2 : RdK w hi b u.kids) (hhi : hi ≤ w.heap.size) (hc1 : t.kids.length ≤ c) (hc2 : u.kids.length ≤ d) (hw1 : isW t.f ∧ isW t.v) (hw2 : isW u.f ∧ isW u.v) :
    Calls Tryz.prog 27 #[.slice sa ss.length sc, .bool p, .agg #[.int .i64 t.f, .int .i64 t.v, .slice a t.kids.length c], .agg #[.int .i64 u.f, .int .i64 u.v, .slice b u.kids.length d]] w fun e w' => ∃ a1 c1 a2 c2 S1 S2, e = .returned (litV (makeX ss p t u) a1 c1 a2 c2) ∧ OwnX w w' (makeX ss p t u) a1 c1 a2 c2 S1 S2 ∧ Below w.heap.size w w' := by
  obtain ⟨W0, hW0⟩ : ∃ W0, W0 = ((w.alloc (.cells #[.int .i64 t.f, .int .i64 t.v, .slice a t.kids.length c] 34)).alloc (.cells #[.int .i64 u.f, .int .i64 u.v, .slice b u.kids.length d] 34)).alloc (.cells #[.bool false, .int .i64 0, .int .i64 0, .slice none 0 0, .int .i64 0, .int .i64 0, .slice none 0 0] 36) := ⟨_, rfl⟩
  have hB0 : Below w.heap.size w W0 := by rw [hW0]; exact (((Below.refl _ _).alloc (Nat.le_refl _) _).alloc (by simp) _).alloc (by simp; omega) _
  have hz0 : W0.heap.size = w.heap.size + 1 + 1 + 1 := by rw [hW0]; simp
  have CT0 : C3 W0 w.heap.size (.int .i64 t.f) (.int .i64 t.v) (.slice a t.kids.length c) := by rw [hW0]; exact ⟨by simp [go_sem], by simp [go_sem], by simp [go_sem]⟩
  have CU0 : C3 W0 (w.heap.size + 1) (.int .i64 u.f) (.int .i64 u.v) (.slice b u.kids.length d) := by rw [hW0]; exact ⟨by simp [go_sem], by simp [go_sem], by simp [go_sem]⟩
  have RC0 : Hid (R7 W0 (w.heap.size + 1 + 1)) := by rw [hW0]; exact ⟨by simp [go_sem], by simp [go_sem], by simp [go_sem], by simp [go_sem], by simp [go_sem], by simp [go_sem], by simp [go_sem], fun j => by simp [go_sem]⟩
  have hnf : Hid (∀ x : TermD, (normT (blindAt ss) x).f = x.f ∧ (normT (blindAt ss) x).v = x.v) := fun x => by rw [normT_eq]; exact ⟨rfl, rfl⟩
  have E1 := fun (W' : World) (h : Below w.heap.size w W') => impNorm_any sa ss sc t a c hi W' (hs.below h) hp1 (hx1.on (h.mono hhi)) (Nat.le_trans hhi h.size) hc1 hw1
  have E2 := fun (W' : World) (h : Below w.heap.size w W') => impNorm_any sa ss sc u b d hi W' (hs.below h) hp2 (hx2.on (h.mono hhi)) (Nat.le_trans hhi h.size) hc2 hw2
  go_enter Tryz.func27, Tryz.ntmps27
  go_upto_region 1 with fail
  rw [← hW0]
  refine wp_region_keeps (by kernel_rfl) (rs := [0, 1, 2, 3, 4, 5, 6, 7, 8, 9]) (fun L a' W => ∃ (s9 s10 s11 s12 s13 s14 s15 s16 : Value) (o : Nat → Nat), a' = ({ tmps := #[.slice sa ss.length sc, .bool p, .agg #[.int .i64 t.f, .int .i64 t.v, .slice a t.kids.length c], .agg #[.int .i64 u.f, .int .i64 u.v, .slice b u.kids.length d], undef, undef, .pointer (some ⟨w.heap.size, 0, none⟩), .pointer (some ⟨w.heap.size + 1, 0, none⟩), .pointer (some ⟨w.heap.size + 1 + 1, 0, none⟩), s9, s10, s11, s12, s13, s14, s15, s16, undef, undef, undef, undef, undef, undef, undef, undef, undef], defers := [] } : Act) ∧ (Dn L 0 → s11 = .slice sa ss.length sc) ∧ (Dn L 1 → s12 = .agg #[.int .i64 t.f, .int .i64 t.v, .slice a t.kids.length c]) ∧ (Dn L 3 → s14 = .slice sa ss.length sc) ∧ (Dn L 4 → s15 = .agg #[.int .i64 u.f, .int .i64 u.v, .slice b u.kids.length d]) ∧ CB W0 (normT (blindAt ss) t) (normT (blindAt ss) u) 2 5 6 7 8 9 L o W s13 s16 s9 s10) (by kernel_rfl) (by kernel_rfl) ⟨_, _, _, _, _, _, _, _, fun _ => 0, rfl, fun h => absurd h dn_none, fun h => absurd h dn_none, fun h => absurd h dn_none, fun h => absurd h dn_none, CB.start W0 _ _ _ _ _ _ _ _ _ _ _ _ _⟩ (fun L a' W hd h => ?_) ?_
  · obtain ⟨s9, s10, s11, s12, s13, s14, s15, s16, o, rfl, -, -, -, -, hM⟩ := h
    have hT := hM.tg
    obtain ⟨a1, c1', rfl, ho1, hl1'⟩ := hM.c1 (hd 2 (by decide))
    obtain ⟨a2, c2', rfl, ho2, hl2'⟩ := hM.c2 (hd 5 (by decide))
    obtain ⟨B1, x1, y1, z1, rfl, hv1, hb1, hz1, hC1⟩ := hM.f1 (hd 8 (by decide))
    obtain ⟨B2, x2, y2, z2, rfl, hv2, hb2, hz2, hC2⟩ := hM.f2 (hd 9 (by decide))
    have e1 : x1 = .int .i64 (normT (blindAt ss) t).f ∧ y1 = .int .i64 (normT (blindAt ss) t).v ∧ z1 = .slice a1 (normT (blindAt ss) t).kids.length c1' := by simpa using hv1.symm
    have e2 : x2 = .int .i64 (normT (blindAt ss) u).f ∧ y2 = .int .i64 (normT (blindAt ss) u).v ∧ z2 = .slice a2 (normT (blindAt ss) u).kids.length c2' := by simpa using hv2.symm
    obtain ⟨rfl, rfl, rfl⟩ := e1
    obtain ⟨rfl, rfl, rfl⟩ := e2
    clear hv1 hv2
    have hbW : Below w.heap.size w W := hB0.trans (hT.bel.mono hB0.size)
    have hne : B1 ≠ B2 := fun e => by rw [e] at hb1; omega
    have hlo1 := (hT.own B1 (by omega)).1
    have hlo2 := (hT.own B2 (by omega)).1
    have CB2 := impBef_any 549755813888 (normT (blindAt ss) t) (normT (blindAt ss) u) a1 a2 c1' c2' W.heap.size W (Nat.le_trans (normT_parts _ t) hp1) (by omega) ho1.rd ho2.rd (Nat.le_refl _) hl1' hl2'
    have HX : Hid (makeX ss p t u = if befT (normT (blindAt ss) t) (normT (blindAt ss) u) then ⟨p, normT (blindAt ss) u, normT (blindAt ss) t⟩ else ⟨p, normT (blindAt ss) t, normT (blindAt ss) u⟩) := rfl
    have hi1 : ∀ k, o k = 1 → w.heap.size ≤ k ∧ k < W.heap.size := fun k hk => by have := hT.own k (by omega); omega
    have hi2 : ∀ k, o k = 2 → w.heap.size ≤ k ∧ k < W.heap.size := fun k hk => by have := hT.own k (by omega); omega
    have HO : Hid (OwnS W (fun k => o k = 1) a1 (normT (blindAt ss) t).kids ∧ OwnS W (fun k => o k = 2) a2 (normT (blindAt ss) u).kids ∧ o B1 = 3 ∧ o B2 = 4 ∧ (∀ k, o k = 1 → w.heap.size + 1 + 1 + 1 ≤ k ∧ k < W.heap.size) ∧ (∀ k, o k = 2 → w.heap.size + 1 + 1 + 1 ≤ k ∧ k < W.heap.size)) := ⟨ho1, ho2, hb1, hb2, fun k hk => hz0 ▸ hT.own k (by omega), fun k hk => hz0 ▸ hT.own k (by omega)⟩
    have r0 : Hid (R7 W (w.heap.size + 1 + 1)) := RC0.out.stay (.of_below hT.bel (fun k hk _ => by omega)) (by omega : w.heap.size + 1 + 1 < W0.heap.size)
    have hX1 : Hid (o B1 = 3 ∧ o B2 = 4 ∧ (∀ j, W.frozen? ⟨B1, j, none⟩ = false) ∧ (∀ j, W.frozen? ⟨B2, j, none⟩ = false)) := ⟨hb1, hb2, hz1, hz2⟩
    generalize normT (blindAt ss) t = l at *
    generalize normT (blindAt ss) u = r at *
    generalize befT l r = q at *
    clear hM hT hb1 hb2 hz1 hz2 ho1 ho2 E1 E2 RC0
    obtain ⟨m0, m1, m2⟩ := hC1
    obtain ⟨n0, n1, n2⟩ := hC2
    have HC : Hid (C3 W B1 (.int .i64 l.f) (.int .i64 l.v) (.slice a1 l.kids.length c1') ∧ C3 W B2 (.int .i64 r.f) (.int .i64 r.v) (.slice a2 r.kids.length c2')) := ⟨⟨m0, m1, m2⟩, ⟨n0, n1, n2⟩⟩
    have hl1 : B1 < W.heap.size := HC.out.1.lt
    have hl2 : B2 < W.heap.size := HC.out.2.lt
    cases q
    · go_wp2_with (go_at_call 42; refine CB2.mono ?_; rintro e w1 ⟨rfl, hb⟩; have R1 := r0.out.stay (S := fun _ => True) (.of_below hb (fun k hk _ => hk)) trivial; obtain ⟨u0, u1, u2, u3, u4, u5, u6, uf⟩ := R1; have f0 := uf 0; have f1 := uf 1; have f2 := uf 2; have f3 := uf 3; have f4 := uf 4; have f5 := uf 5; have f6 := uf 6; have RW : R7 w1 (w.heap.size + 1 + 1) := ⟨u0, u1, u2, u3, u4, u5, u6, uf⟩; clear uf; have HC1 := HC.out.1.on hb; have HC2 := HC.out.2.on hb; clear m0 m1 m2 n0 n1 n2; obtain ⟨m0, m1, m2⟩ := HC1; obtain ⟨n0, n1, n2⟩ := HC2)
      obtain ⟨g0, g1, g2, g3, g4, g5, g6⟩ := R7.set RW (.bool p) (.int .i64 l.f) (.int .i64 l.v) (.slice a1 l.kids.length c1') (.int .i64 r.f) (.int .i64 r.v) (.slice a2 r.kids.length c2')
      refine bodyPost_ret (v := .agg #[.bool p, .int .i64 l.f, .int .i64 l.v, .slice a1 l.kids.length c1', .int .i64 r.f, .int .i64 r.v, .slice a2 r.kids.length c2']) (by simp [results, Tryz.results27, go_sem, g0, g1, g2, g3, g4, g5, g6]) rfl ?_
      clear g0 g1 g2 g3 g4 g5 g6
      have HXF : makeX ss p t u = ⟨p, l, r⟩ := HX.out.trans rfl
      have hst := set7_stay w1 (w.heap.size + 1 + 1) (.bool p) (.int .i64 l.f) (.int .i64 l.v) (.slice a1 l.kids.length c1') (.int .i64 r.f) (.int .i64 r.v) (.slice a2 r.kids.length c2')
      have hH := HO.out
      have hs0 := hb.size
      have hs1 := hst.size
      have hbw := hbW.size
      refine ⟨a1, c1', a2, c2', fun k => o k = 1, fun k => o k = 2, ?_, ?_, ?_⟩
      · rw [HXF]
        rfl
      · rw [HXF]
        exact ⟨(hH.1.frame (fun k hk => hb.block k (hi1 k hk).2) hb.size).frame (fun k hk => hst.block k (by have := hi1 k hk; omega) (by have := hH.2.2.2.2.1 k hk; omega)) hst.size, (hH.2.1.frame (fun k hk => hb.block k (hi2 k hk).2) hb.size).frame (fun k hk => hst.block k (by have := hi2 k hk; omega) (by have := hH.2.2.2.2.2 k hk; omega)) hst.size, fun k h1 h2 => by omega, fun k hk => by have := hi1 k hk; omega, fun k hk => by have := hi2 k hk; omega, hl1', hl2'⟩
      · exact (hbW.trans (hb.mono hbW.size)).trans (hst.below (by omega) (fun k hk => by omega))
    · go_upto_region 4 with (go_at_call 42; refine CB2.mono ?_; rintro e w1 ⟨rfl, hb⟩; have R1 := r0.out.stay (S := fun _ => True) (.of_below hb (fun k hk _ => hk)) trivial; obtain ⟨u0, u1, u2, u3, u4, u5, u6, uf⟩ := R1; have f0 := uf 0; have f1 := uf 1; have f2 := uf 2; have f3 := uf 3; have f4 := uf 4; have f5 := uf 5; have f6 := uf 6; have RW : R7 w1 (w.heap.size + 1 + 1) := ⟨u0, u1, u2, u3, u4, u5, u6, uf⟩; clear uf; have z0 := (hb.frozen (p := ⟨B1, 0, none⟩) hl1).trans (hX1.out.2.2.1 0); have z1 := (hb.frozen (p := ⟨B1, 1, none⟩) hl1).trans (hX1.out.2.2.1 1); have z2 := (hb.frozen (p := ⟨B1, 2, none⟩) hl1).trans (hX1.out.2.2.1 2); have z3 := (hb.frozen (p := ⟨B2, 0, none⟩) hl2).trans (hX1.out.2.2.2 0); have z4 := (hb.frozen (p := ⟨B2, 1, none⟩) hl2).trans (hX1.out.2.2.2 1); have z5 := (hb.frozen (p := ⟨B2, 2, none⟩) hl2).trans (hX1.out.2.2.2 2); have HC1 := HC.out.1.on hb; have HC2 := HC.out.2.on hb; clear m0 m1 m2 n0 n1 n2; obtain ⟨m0, m1, m2⟩ := HC1; obtain ⟨n0, n1, n2⟩ := HC2)
      obtain ⟨hob1, hob2, -, -⟩ := hX1.out
      have hsw := ((set3_stay w1 B1 (.int .i64 r.f) (.int .i64 r.v) (.slice a2 r.kids.length c2')).weak (T := fun k => k ≠ B1 ∧ k ≠ B2) (fun _ _ hk => hk.1)).trans ((set3_stay _ B2 (.int .i64 l.f) (.int .i64 l.v) (.slice a1 l.kids.length c1')).weak (fun _ _ hk => hk.2))
      have CA : C3 ((((((w1.setCell ⟨B1, 0, none⟩ (.int .i64 r.f)).setCell ⟨B1, 1, none⟩ (.int .i64 r.v)).setCell ⟨B1, 2, none⟩ (.slice a2 r.kids.length c2')).setCell ⟨B2, 0, none⟩ (.int .i64 l.f)).setCell ⟨B2, 1, none⟩ (.int .i64 l.v)).setCell ⟨B2, 2, none⟩ (.slice a1 l.kids.length c1')) B1 (.int .i64 r.f) (.int .i64 r.v) (.slice a2 r.kids.length c2') := (C3.set ⟨m0, m1, m2⟩ _ _ _).stay (set3_stay _ _ _ _ _) hne
      have CBB : C3 ((((((w1.setCell ⟨B1, 0, none⟩ (.int .i64 r.f)).setCell ⟨B1, 1, none⟩ (.int .i64 r.v)).setCell ⟨B1, 2, none⟩ (.slice a2 r.kids.length c2')).setCell ⟨B2, 0, none⟩ (.int .i64 l.f)).setCell ⟨B2, 1, none⟩ (.int .i64 l.v)).setCell ⟨B2, 2, none⟩ (.slice a1 l.kids.length c1')) B2 (.int .i64 l.f) (.int .i64 l.v) (.slice a1 l.kids.length c1') := (C3.stay ⟨n0, n1, n2⟩ (set3_stay _ _ _ _ _) hne.symm).set _ _ _
      have RS := RW.stay hsw (by omega)
      generalize ((((((w1.setCell ⟨B1, 0, none⟩ (.int .i64 r.f)).setCell ⟨B1, 1, none⟩ (.int .i64 r.v)).setCell ⟨B1, 2, none⟩ (.slice a2 r.kids.length c2')).setCell ⟨B2, 0, none⟩ (.int .i64 l.f)).setCell ⟨B2, 1, none⟩ (.int .i64 l.v)).setCell ⟨B2, 2, none⟩ (.slice a1 l.kids.length c1')) = w2 at hsw CA CBB RS ⊢
      clear RW m0 m1 m2 n0 n1 n2 z0 z1 z2 z3 z4 z5 u0 u1 u2 u3 u4 u5 u6 f0 f1 f2 f3 f4 f5 f6
      obtain ⟨m0, m1, m2⟩ := CA
      obtain ⟨n0, n1, n2⟩ := CBB
      obtain ⟨u0, u1, u2, u3, u4, u5, u6, uf⟩ := RS
      have f0 := uf 0
      have f1 := uf 1
      have f2 := uf 2
      have f3 := uf 3
      have f4 := uf 4
      have f5 := uf 5
      have f6 := uf 6
      have RW : R7 w2 (w.heap.size + 1 + 1) := ⟨u0, u1, u2, u3, u4, u5, u6, uf⟩
      clear uf
      go_wp2_with fail
      obtain ⟨g0, g1, g2, g3, g4, g5, g6⟩ := R7.set RW (.bool p) (.int .i64 r.f) (.int .i64 r.v) (.slice a2 r.kids.length c2') (.int .i64 l.f) (.int .i64 l.v) (.slice a1 l.kids.length c1')
      refine bodyPost_ret (v := .agg #[.bool p, .int .i64 r.f, .int .i64 r.v, .slice a2 r.kids.length c2', .int .i64 l.f, .int .i64 l.v, .slice a1 l.kids.length c1']) (by simp [results, Tryz.results27, go_sem, g0, g1, g2, g3, g4, g5, g6]) rfl ?_
      clear g0 g1 g2 g3 g4 g5 g6
      have HXF : makeX ss p t u = ⟨p, r, l⟩ := HX.out.trans rfl
      have hst := set7_stay w2 (w.heap.size + 1 + 1) (.bool p) (.int .i64 r.f) (.int .i64 r.v) (.slice a2 r.kids.length c2') (.int .i64 l.f) (.int .i64 l.v) (.slice a1 l.kids.length c1')
      have hH := HO.out
      have hs0 := hb.size
      have hs1 := hst.size
      have hs2 := hsw.size
      have hbw := hbW.size
      refine ⟨a2, c2', a1, c1', fun k => o k = 2, fun k => o k = 1, ?_, ?_, ?_⟩
      · rw [HXF]
        rfl
      · rw [HXF]
        have k1 : ∀ k, o k = 1 → k ≠ B1 ∧ k ≠ B2 ∧ k ≠ w.heap.size + 1 + 1 := fun k hk => ⟨fun e => by rw [e] at hk; omega, fun e => by rw [e] at hk; omega, by have := hH.2.2.2.2.1 k hk; omega⟩
        have k2 : ∀ k, o k = 2 → k ≠ B1 ∧ k ≠ B2 ∧ k ≠ w.heap.size + 1 + 1 := fun k hk => ⟨fun e => by rw [e] at hk; omega, fun e => by rw [e] at hk; omega, by have := hH.2.2.2.2.2 k hk; omega⟩
        exact ⟨((hH.2.1.frame (fun k hk => hb.block k (hi2 k hk).2) hb.size).frame (fun k hk => hsw.block k (by have := hi2 k hk; omega) ⟨(k2 k hk).1, (k2 k hk).2.1⟩) hsw.size).frame (fun k hk => hst.block k (by have := hi2 k hk; omega) (k2 k hk).2.2) hst.size, ((hH.1.frame (fun k hk => hb.block k (hi1 k hk).2) hb.size).frame (fun k hk => hsw.block k (by have := hi1 k hk; omega) ⟨(k1 k hk).1, (k1 k hk).2.1⟩) hsw.size).frame (fun k hk => hst.block k (by have := hi1 k hk; omega) (k1 k hk).2.2) hst.size, fun k h1 h2 => by omega, fun k hk => by have := hi2 k hk; omega, fun k hk => by have := hi1 k hk; omega, hl2', hl1'⟩
      · have hb2 := (hbW.trans (hb.mono hbW.size)).trans (hsw.below (B := w.heap.size) (by omega) (fun k hk => ⟨by omega, by omega⟩))
        exact hb2.trans (hst.below (by omega) (fun k hk => by omega))

  refine KeepAll.cons (ds := []) rfl (by kernel_rfl) (fun L a' W K hK hL hcl hn hd hI => ?_) ?_
  · obtain ⟨s9, s10, s11, s12, s13, s14, s15, s16, o, rfl, h0, h1, h3, h4, hM⟩ := hI
    go_simp
    refine hK _ _ ⟨_, _, _, _, _, _, _, _, o, rfl, fun _ => rfl, (by first | exact fun _ => rfl | exact fun q => h1 (((dn_set hL).1 q).resolve_left (by decide))), (by first | exact fun _ => rfl | exact fun q => h3 (((dn_set hL).1 q).resolve_left (by decide))), (by first | exact fun _ => rfl | exact fun q => h4 (((dn_set hL).1 q).resolve_left (by decide))), hM.pure hL ⟨by decide, by decide, by decide, by decide, by decide, by decide⟩⟩
  refine KeepAll.cons (ds := []) rfl (by kernel_rfl) (fun L a' W K hK hL hcl hn hd hI => ?_) ?_
  · obtain ⟨s9, s10, s11, s12, s13, s14, s15, s16, o, rfl, h0, h1, h3, h4, hM⟩ := hI
    obtain ⟨k0, k1, k2⟩ := CT0.on hM.tg.bel
    go_simp
    refine hK _ _ ⟨_, _, _, _, _, _, _, _, o, rfl, (by first | exact fun _ => rfl | exact fun q => h0 (((dn_set hL).1 q).resolve_left (by decide))), fun _ => rfl, (by first | exact fun _ => rfl | exact fun q => h3 (((dn_set hL).1 q).resolve_left (by decide))), (by first | exact fun _ => rfl | exact fun q => h4 (((dn_set hL).1 q).resolve_left (by decide))), hM.pure hL ⟨by decide, by decide, by decide, by decide, by decide, by decide⟩⟩
  refine KeepAll.cons (ds := [0, 1]) rfl (by kernel_rfl) (fun L a' W K hK hL hcl hn hd hI => ?_) ?_
  · obtain ⟨s9, s10, s11, s12, s13, s14, s15, s16, o, rfl, h0, h1, h3, h4, hM⟩ := hI
    obtain rfl := h0 (hd _ (by simp))
    obtain rfl := h1 (hd _ (by simp))
    go_simp
    refine (E1 W (hB0.trans (hM.tg.bel.mono hB0.size))).mono ?_
    rintro e W' ⟨a1, c1', rfl, ho, hcc, hb⟩
    obtain ⟨o2, hM2⟩ := hM.call1 hL ⟨by decide, by decide, by decide, by decide, by decide⟩ (fun q => hn (hcl 8 _ rfl q 2 (by decide))) hb ho hcc
    rw [(hnf.out t).1, (hnf.out t).2] at hM2
    exact hK _ _ ⟨_, _, _, _, _, _, _, _, o2, rfl, (by first | exact fun _ => rfl | exact fun q => h0 (((dn_set hL).1 q).resolve_left (by decide))), (by first | exact fun _ => rfl | exact fun q => h1 (((dn_set hL).1 q).resolve_left (by decide))), (by first | exact fun _ => rfl | exact fun q => h3 (((dn_set hL).1 q).resolve_left (by decide))), (by first | exact fun _ => rfl | exact fun q => h4 (((dn_set hL).1 q).resolve_left (by decide))), hM2⟩
  refine KeepAll.cons (ds := []) rfl (by kernel_rfl) (fun L a' W K hK hL hcl hn hd hI => ?_) ?_
  · obtain ⟨s9, s10, s11, s12, s13, s14, s15, s16, o, rfl, h0, h1, h3, h4, hM⟩ := hI
    go_simp
    refine hK _ _ ⟨_, _, _, _, _, _, _, _, o, rfl, (by first | exact fun _ => rfl | exact fun q => h0 (((dn_set hL).1 q).resolve_left (by decide))), (by first | exact fun _ => rfl | exact fun q => h1 (((dn_set hL).1 q).resolve_left (by decide))), fun _ => rfl, (by first | exact fun _ => rfl | exact fun q => h4 (((dn_set hL).1 q).resolve_left (by decide))), hM.pure hL ⟨by decide, by decide, by decide, by decide, by decide, by decide⟩⟩
  refine KeepAll.cons (ds := []) rfl (by kernel_rfl) (fun L a' W K hK hL hcl hn hd hI => ?_) ?_
  · obtain ⟨s9, s10, s11, s12, s13, s14, s15, s16, o, rfl, h0, h1, h3, h4, hM⟩ := hI
    obtain ⟨k0, k1, k2⟩ := CU0.on hM.tg.bel
    go_simp
    refine hK _ _ ⟨_, _, _, _, _, _, _, _, o, rfl, (by first | exact fun _ => rfl | exact fun q => h0 (((dn_set hL).1 q).resolve_left (by decide))), (by first | exact fun _ => rfl | exact fun q => h1 (((dn_set hL).1 q).resolve_left (by decide))), (by first | exact fun _ => rfl | exact fun q => h3 (((dn_set hL).1 q).resolve_left (by decide))), fun _ => rfl, hM.pure hL ⟨by decide, by decide, by decide, by decide, by decide, by decide⟩⟩
  refine KeepAll.cons (ds := [3, 4, 2]) rfl (by kernel_rfl) (fun L a' W K hK hL hcl hn hd hI => ?_) ?_
  · obtain ⟨s9, s10, s11, s12, s13, s14, s15, s16, o, rfl, h0, h1, h3, h4, hM⟩ := hI
    obtain rfl := h3 (hd _ (by simp))
    obtain rfl := h4 (hd _ (by simp))
    go_simp
    refine (E2 W (hB0.trans (hM.tg.bel.mono hB0.size))).mono ?_
    rintro e W' ⟨a1, c1', rfl, ho, hcc, hb⟩
    obtain ⟨o2, hM2⟩ := hM.call2 hL ⟨by decide, by decide, by decide, by decide, by decide⟩ (fun q => hn (hcl 9 _ rfl q 5 (by decide))) hb ho hcc
    rw [(hnf.out u).1, (hnf.out u).2] at hM2
    exact hK _ _ ⟨_, _, _, _, _, _, _, _, o2, rfl, (by first | exact fun _ => rfl | exact fun q => h0 (((dn_set hL).1 q).resolve_left (by decide))), (by first | exact fun _ => rfl | exact fun q => h1 (((dn_set hL).1 q).resolve_left (by decide))), (by first | exact fun _ => rfl | exact fun q => h3 (((dn_set hL).1 q).resolve_left (by decide))), (by first | exact fun _ => rfl | exact fun q => h4 (((dn_set hL).1 q).resolve_left (by decide))), hM2⟩
  refine KeepAll.cons (ds := []) rfl (by kernel_rfl) (fun L a' W K hK hL hcl hn hd hI => ?_) ?_
  · obtain ⟨s9, s10, s11, s12, s13, s14, s15, s16, o, rfl, h0, h1, h3, h4, hM⟩ := hI
    go_simp
    obtain ⟨o2, hM2⟩ := hM.box1 hL ⟨by decide, by decide, by decide, by decide, by decide⟩ (fun q => hn (hcl 8 _ rfl q 6 (by decide))) 34
    exact hK _ _ ⟨_, _, _, _, _, _, _, _, o2, rfl, (by first | exact fun _ => rfl | exact fun q => h0 (((dn_set hL).1 q).resolve_left (by decide))), (by first | exact fun _ => rfl | exact fun q => h1 (((dn_set hL).1 q).resolve_left (by decide))), (by first | exact fun _ => rfl | exact fun q => h3 (((dn_set hL).1 q).resolve_left (by decide))), (by first | exact fun _ => rfl | exact fun q => h4 (((dn_set hL).1 q).resolve_left (by decide))), hM2⟩
  refine KeepAll.cons (ds := []) rfl (by kernel_rfl) (fun L a' W K hK hL hcl hn hd hI => ?_) ?_
  · obtain ⟨s9, s10, s11, s12, s13, s14, s15, s16, o, rfl, h0, h1, h3, h4, hM⟩ := hI
    go_simp
    obtain ⟨o2, hM2⟩ := hM.box2 hL ⟨by decide, by decide, by decide, by decide, by decide⟩ (fun q => hn (hcl 9 _ rfl q 7 (by decide))) 34
    exact hK _ _ ⟨_, _, _, _, _, _, _, _, o2, rfl, (by first | exact fun _ => rfl | exact fun q => h0 (((dn_set hL).1 q).resolve_left (by decide))), (by first | exact fun _ => rfl | exact fun q => h1 (((dn_set hL).1 q).resolve_left (by decide))), (by first | exact fun _ => rfl | exact fun q => h3 (((dn_set hL).1 q).resolve_left (by decide))), (by first | exact fun _ => rfl | exact fun q => h4 (((dn_set hL).1 q).resolve_left (by decide))), hM2⟩
  refine KeepAll.cons (ds := [6, 2, 5, 0, 1, 2, 6, 7]) rfl (by kernel_rfl) (fun L a' W K hK hL hcl hn hd hI => ?_) ?_
  · obtain ⟨s9, s10, s11, s12, s13, s14, s15, s16, o, rfl, h0, h1, h3, h4, hM⟩ := hI
    obtain ⟨a1, c1', rfl, hoo⟩ := hM.c1 (hd 2 (by simp))
    obtain ⟨B, x, y, z, rfl, hv, hob, hz, hC⟩ := hM.z1 (hd 6 (by simp)) hn
    obtain ⟨q0, q1, q2⟩ := hC
    have g0 := hz 0
    have g1 := hz 1
    have g2 := hz 2
    clear hv
    go_simp
    exact hK _ _ ⟨_, _, _, _, _, _, _, _, o, rfl, (by first | exact fun _ => rfl | exact fun q => h0 (((dn_set hL).1 q).resolve_left (by decide))), (by first | exact fun _ => rfl | exact fun q => h1 (((dn_set hL).1 q).resolve_left (by decide))), (by first | exact fun _ => rfl | exact fun q => h3 (((dn_set hL).1 q).resolve_left (by decide))), (by first | exact fun _ => rfl | exact fun q => h4 (((dn_set hL).1 q).resolve_left (by decide))), hM.put1 hL ⟨by decide, by decide, by decide, by decide, by decide⟩ hob hz ⟨q0, q1, q2⟩⟩
  refine KeepAll.cons (ds := [7, 5, 8, 0, 1, 2, 3, 4, 5, 6, 7, 8]) rfl (by kernel_rfl) (fun L a' W K hK hL hcl hn hd hI => ?_) ?_
  · obtain ⟨s9, s10, s11, s12, s13, s14, s15, s16, o, rfl, h0, h1, h3, h4, hM⟩ := hI
    obtain ⟨a1, c1', rfl, hoo⟩ := hM.c2 (hd 5 (by simp))
    obtain ⟨B, x, y, z, rfl, hv, hob, hz, hC⟩ := hM.z2 (hd 7 (by simp)) hn
    obtain ⟨q0, q1, q2⟩ := hC
    have g0 := hz 0
    have g1 := hz 1
    have g2 := hz 2
    clear hv
    go_simp
    exact hK _ _ ⟨_, _, _, _, _, _, _, _, o, rfl, (by first | exact fun _ => rfl | exact fun q => h0 (((dn_set hL).1 q).resolve_left (by decide))), (by first | exact fun _ => rfl | exact fun q => h1 (((dn_set hL).1 q).resolve_left (by decide))), (by first | exact fun _ => rfl | exact fun q => h3 (((dn_set hL).1 q).resolve_left (by decide))), (by first | exact fun _ => rfl | exact fun q => h4 (((dn_set hL).1 q).resolve_left (by decide))), hM.put2 hL ⟨by decide, by decide, by decide, by decide, by decide⟩ hob hz ⟨q0, q1, q2⟩⟩
  exact KeepAll.nil
end Go.Proofs.YtollijngiioonabGreat

/- An equation that holds, or does not, copied: it owns its memory. Conditions: at most 549755813888 parts. -/
namespace Go.Proofs.YtollijngiioonabGreat
set_option maxRecDepth 100000
open Go.RowKit

theorem own_set3 {W : World} {S : Nat → Prop} {a : Option Addr} {ts : List TermD} {b i j k : Nat} {x y z : Value} (h : OwnS W S a ts) (hb : ¬ S b) : OwnS (((W.setCell ⟨b, i, none⟩ x).setCell ⟨b, j, none⟩ y).setCell ⟨b, k, none⟩ z) S a ts :=
  ((h.setCell ⟨b, i, none⟩ hb _).setCell ⟨b, j, none⟩ hb _).setCell ⟨b, k, none⟩ hb _
theorem rd_set3 {W : World} {hi : Nat} {a : Option Addr} {ts : List TermD} {b i j k : Nat} {x y z : Value} (h : RdK W hi a ts) (hb : hi ≤ b) : RdK (((W.setCell ⟨b, i, none⟩ x).setCell ⟨b, j, none⟩ y).setCell ⟨b, k, none⟩ z) hi a ts :=
  h.on ((((Below.refl hi W).setCell (p := ⟨b, i, none⟩) hb _).setCell (p := ⟨b, j, none⟩) hb _).setCell (p := ⟨b, k, none⟩) hb _)
def st3 (u : World) (b i : Nat) (x y z : Value) : World := ((u.setCell ⟨b, i, none⟩ x).setCell ⟨b, i + 1, none⟩ y).setCell ⟨b, i + 2, none⟩ z
theorem ad_ne {b i c j : Nat} (h : b ≠ c ∨ i ≠ j) : (⟨b, i, none⟩ : Addr) ≠ ⟨c, j, none⟩ := fun e => by injection e with e1 e2; omega
theorem st3_new {u : World} {b i : Nat} {x y z p q s : Value} (h0 : u.cell? ⟨b, i, none⟩ = some p) (h1 : u.cell? ⟨b, i + 1, none⟩ = some q) (h2 : u.cell? ⟨b, i + 2, none⟩ = some s) :
    (st3 u b i x y z).cell? ⟨b, i, none⟩ = some x ∧ (st3 u b i x y z).cell? ⟨b, i + 1, none⟩ = some y ∧ (st3 u b i x y z).cell? ⟨b, i + 2, none⟩ = some z := by
  unfold st3
  refine ⟨?_, ?_, ?_⟩
  · rw [World.cell?_setCell_other _ _ _ _ (ad_ne (.inr (by omega))), World.cell?_setCell_other _ _ _ _ (ad_ne (.inr (by omega)))]
    exact World.cell?_setCell_same _ _ _ h0
  · rw [World.cell?_setCell_other _ _ _ _ (ad_ne (.inr (by omega)))]
    exact World.cell?_setCell_same _ _ _ (by rw [World.cell?_setCell_other _ _ _ _ (ad_ne (.inr (by omega)))]; exact h1)
  · exact World.cell?_setCell_same _ _ _ (by rw [World.cell?_setCell_other _ _ _ _ (ad_ne (.inr (by omega))), World.cell?_setCell_other _ _ _ _ (ad_ne (.inr (by omega)))]; exact h2)
theorem st3_old {u : World} {b i : Nat} {x y z v : Value} {c j : Nat} (h : u.cell? ⟨c, j, none⟩ = some v) (hn : b ≠ c ∨ (i ≠ j ∧ i + 1 ≠ j ∧ i + 2 ≠ j)) : (st3 u b i x y z).cell? ⟨c, j, none⟩ = some v := by
  unfold st3
  rw [World.cell?_setCell_other _ _ _ _ (ad_ne (by omega)), World.cell?_setCell_other _ _ _ _ (ad_ne (by omega)), World.cell?_setCell_other _ _ _ _ (ad_ne (by omega))]
  exact h
theorem st3_below {w u : World} {B b i : Nat} {x y z : Value} (h : Below B w u) (hb : B ≤ b) : Below B w (st3 u b i x y z) :=
  ((h.setCell (p := ⟨b, i, none⟩) hb x).setCell (p := ⟨b, i + 1, none⟩) hb y).setCell (p := ⟨b, i + 2, none⟩) hb z
theorem st3_own {u : World} {b i : Nat} {x y z : Value} {S : Nat → Prop} {a : Option Addr} {ts : List TermD} (h : OwnS u S a ts) (hn : ¬ S b) : OwnS (st3 u b i x y z) S a ts :=
  ((h.setCell ⟨b, i, none⟩ hn x).setCell ⟨b, i + 1, none⟩ hn y).setCell ⟨b, i + 2, none⟩ hn z
theorem st3_size (u : World) (b i : Nat) (x y z : Value) : (st3 u b i x y z).heap.size = u.heap.size := by unfold st3; simp
theorem st3_frozen (u : World) (b i : Nat) (x y z : Value) (p : Addr) : (st3 u b i x y z).frozen? p = u.frozen? p := by unfold st3; simp [go_sem]
set_option maxHeartbeats 6400000 in
set_option maxRecDepth 100000 in
theorem toLit_any (x : LitD) (a1 a2 : Option Addr) (c1 c2 hi : Nat) (w : World) (hp1 : partsT x.l ≤ 549755813888) (hp2 : partsT x.r ≤ 549755813888) (hr1 : RdK w hi a1 x.l.kids) (hr2 : RdK w hi a2 x.r.kids) (hhi : hi ≤ w.heap.size) :
    Calls Tryz.prog 10 #[litV x a1 c1 a2 c2] w fun e w' => ∃ b1 b2 m, e = .returned (litV x b1 x.l.kids.length b2 x.r.kids.length) ∧ OwnS w' (fun k => w.heap.size ≤ k ∧ k < m) b1 x.l.kids ∧ OwnS w' (fun k => m ≤ k ∧ k < w'.heap.size) b2 x.r.kids ∧ w.heap.size ≤ m ∧ m ≤ w'.heap.size ∧ Below w.heap.size w w' := by
  unfold litV
  obtain ⟨W, hW⟩ : ∃ W, W = ((w.alloc (.cells #[.bool x.p, .int .i64 x.l.f, .int .i64 x.l.v, .slice a1 x.l.kids.length c1, .int .i64 x.r.f, .int .i64 x.r.v, .slice a2 x.r.kids.length c2] 28)).alloc (.cells #[.bool false, .int .i64 0, .int .i64 0, .slice none 0 0, .int .i64 0, .int .i64 0, .slice none 0 0] 36)).alloc (.cells #[.bool x.p, .int .i64 0, .int .i64 0, .slice none 0 0, .int .i64 0, .int .i64 0, .slice none 0 0] 36) := ⟨_, rfl⟩
  have hz : W.heap.size = w.heap.size + 1 + 1 + 1 := by rw [hW]; simp
  have h0 : Below w.heap.size w W := by rw [hW]; exact (((Below.refl _ _).alloc (Nat.le_refl _) _).alloc (by simp) _).alloc (by simp; omega) _
  have x0 : W.cell? ⟨w.heap.size, 0, none⟩ = some (.bool x.p) := by rw [hW]; simp [go_sem]
  have x1 : W.cell? ⟨w.heap.size, 1, none⟩ = some (.int .i64 x.l.f) := by rw [hW]; simp [go_sem]
  have x2 : W.cell? ⟨w.heap.size, 2, none⟩ = some (.int .i64 x.l.v) := by rw [hW]; simp [go_sem]
  have x3 : W.cell? ⟨w.heap.size, 3, none⟩ = some (.slice a1 x.l.kids.length c1) := by rw [hW]; simp [go_sem]
  have x4 : W.cell? ⟨w.heap.size, 4, none⟩ = some (.int .i64 x.r.f) := by rw [hW]; simp [go_sem]
  have x5 : W.cell? ⟨w.heap.size, 5, none⟩ = some (.int .i64 x.r.v) := by rw [hW]; simp [go_sem]
  have x6 : W.cell? ⟨w.heap.size, 6, none⟩ = some (.slice a2 x.r.kids.length c2) := by rw [hW]; simp [go_sem]
  have y0 : W.cell? ⟨(w.heap.size + 1), 0, none⟩ = some (.bool false) := by rw [hW]; simp [go_sem]
  have y1 : W.cell? ⟨(w.heap.size + 1), 1, none⟩ = some (.int .i64 0) := by rw [hW]; simp [go_sem]
  have y2 : W.cell? ⟨(w.heap.size + 1), 2, none⟩ = some (.int .i64 0) := by rw [hW]; simp [go_sem]
  have y3 : W.cell? ⟨(w.heap.size + 1), 3, none⟩ = some (.slice none 0 0) := by rw [hW]; simp [go_sem]
  have y4 : W.cell? ⟨(w.heap.size + 1), 4, none⟩ = some (.int .i64 0) := by rw [hW]; simp [go_sem]
  have y5 : W.cell? ⟨(w.heap.size + 1), 5, none⟩ = some (.int .i64 0) := by rw [hW]; simp [go_sem]
  have y6 : W.cell? ⟨(w.heap.size + 1), 6, none⟩ = some (.slice none 0 0) := by rw [hW]; simp [go_sem]
  have z0 : W.cell? ⟨(w.heap.size + 1 + 1), 0, none⟩ = some (.bool x.p) := by rw [hW]; simp [go_sem]
  have z1 : W.cell? ⟨(w.heap.size + 1 + 1), 1, none⟩ = some (.int .i64 0) := by rw [hW]; simp [go_sem]
  have z2 : W.cell? ⟨(w.heap.size + 1 + 1), 2, none⟩ = some (.int .i64 0) := by rw [hW]; simp [go_sem]
  have z3 : W.cell? ⟨(w.heap.size + 1 + 1), 3, none⟩ = some (.slice none 0 0) := by rw [hW]; simp [go_sem]
  have z4 : W.cell? ⟨(w.heap.size + 1 + 1), 4, none⟩ = some (.int .i64 0) := by rw [hW]; simp [go_sem]
  have z5 : W.cell? ⟨(w.heap.size + 1 + 1), 5, none⟩ = some (.int .i64 0) := by rw [hW]; simp [go_sem]
  have z6 : W.cell? ⟨(w.heap.size + 1 + 1), 6, none⟩ = some (.slice none 0 0) := by rw [hW]; simp [go_sem]
  have fy : ∀ j, W.frozen? ⟨(w.heap.size + 1), j, none⟩ = false := by intro j; rw [hW]; simp [go_sem]
  have fz : ∀ j, W.frozen? ⟨(w.heap.size + 1 + 1), j, none⟩ = false := by intro j; rw [hW]; simp [go_sem]
  have C1 := toTerm_any x.l a1 c1 hi W hp1 (hr1.on (h0.mono hhi)) (Nat.le_trans hhi h0.size)
  have C2 := fun (W' : World) (h : Below w.heap.size w W') => toTerm_any x.r a2 c2 hi W' hp2 (hr2.on (h.mono hhi)) (Nat.le_trans hhi h.size)
  clear hr1 hr2 hp1 hp2
  have HW : Hid _ := hW
  clear hW
  go_enter Tryz.func10, Tryz.ntmps10
  go_wp2_with (first
    | (go_at_call_of 26 a1; rw [← HW.out]; refine C1.mono ?_; rintro e w1 ⟨b1, rfl, ho1, hb1⟩; have hz1 := hb1.size; have hB1 := h0.trans (hb1.mono h0.size); have fy' : ∀ j, w1.frozen? ⟨(w.heap.size + 1), j, none⟩ = false := (fun j => (hb1.frozen (p := ⟨(w.heap.size + 1), j, none⟩) (by simp only; omega)).trans (by first | exact fy j | (rw [st3_frozen]; exact fy j))); have fz' : ∀ j, w1.frozen? ⟨(w.heap.size + 1 + 1), j, none⟩ = false := (fun j => (hb1.frozen (p := ⟨(w.heap.size + 1 + 1), j, none⟩) (by simp only; omega)).trans (by first | exact fz j | (rw [st3_frozen]; exact fz j))); clear fy fz; have fy := fy'; have fz := fz'; clear fy' fz'; have x0' := keepC hb1 x0; have x1' := keepC hb1 x1; have x2' := keepC hb1 x2; have x3' := keepC hb1 x3; have x4' := keepC hb1 x4; have x5' := keepC hb1 x5; have x6' := keepC hb1 x6; have y0' := keepC hb1 y0; have y1' := keepC hb1 y1; have y2' := keepC hb1 y2; have y3' := keepC hb1 y3; have y4' := keepC hb1 y4; have y5' := keepC hb1 y5; have y6' := keepC hb1 y6; have z0' := keepC hb1 z0; have z1' := keepC hb1 z1; have z2' := keepC hb1 z2; have z3' := keepC hb1 z3; have z4' := keepC hb1 z4; have z5' := keepC hb1 z5; have z6' := keepC hb1 z6; clear x0 x1 x2 x3 x4 x5 x6 y0 y1 y2 y3 y4 y5 y6 z0 z1 z2 z3 z4 z5 z6; have x0 := x0'; have x1 := x1'; have x2 := x2'; have x3 := x3'; have x4 := x4'; have x5 := x5'; have x6 := x6'; have y0 := y0'; have y1 := y1'; have y2 := y2'; have y3 := y3'; have y4 := y4'; have y5 := y5'; have y6 := y6'; have z0 := z0'; have z1 := z1'; have z2 := z2'; have z3 := z3'; have z4 := z4'; have z5 := z5'; have z6 := z6'; clear x0' x1' x2' x3' x4' x5' x6' y0' y1' y2' y3' y4' y5' y6' z0' z1' z2' z3' z4' z5' z6'; have HO1 : Hid _ := ho1; clear C1 HW hb1 ho1)
    | (go_at_call_of 26 a2; refine (C2 (st3 w1 (w.heap.size + 1 + 1) 1 (.int .i64 x.l.f) (.int .i64 x.l.v) (.slice b1 x.l.kids.length x.l.kids.length)) (st3_below hB1 (by omega))).mono ?_; rintro e w2 ⟨b2, rfl, ho2, hb2⟩; have hz2 := hb2.size; rw [st3_size] at hz2; have hB2 := (st3_below (b := (w.heap.size + 1 + 1)) (i := 1) (x := .int .i64 x.l.f) (y := .int .i64 x.l.v) (z := .slice b1 x.l.kids.length x.l.kids.length) hB1 (by omega)).trans (hb2.mono (st3_below (b := (w.heap.size + 1 + 1)) (i := 1) (x := .int .i64 x.l.f) (y := .int .i64 x.l.v) (z := .slice b1 x.l.kids.length x.l.kids.length) hB1 (by omega)).size); have HO2 : Hid (OwnS w2 (fun k => w1.heap.size ≤ k ∧ k < w2.heap.size) b2 x.r.kids) := (by have := ho2; rw [st3_size] at this; exact this); have HO1' : Hid (OwnS w2 (fun k => W.heap.size ≤ k ∧ k < w1.heap.size) b1 x.l.kids) := (st3_own (b := (w.heap.size + 1 + 1)) (i := 1) (x := .int .i64 x.l.f) (y := .int .i64 x.l.v) (z := .slice b1 x.l.kids.length x.l.kids.length) HO1.out (by omega)).on (by have := hb2; rw [st3_size] at this; exact this); have fy' : ∀ j, w2.frozen? ⟨(w.heap.size + 1), j, none⟩ = false := (fun j => (hb2.frozen (p := ⟨(w.heap.size + 1), j, none⟩) (by simp only [st3_size]; omega)).trans (by first | exact fy j | (rw [st3_frozen]; exact fy j))); have fz' : ∀ j, w2.frozen? ⟨(w.heap.size + 1 + 1), j, none⟩ = false := (fun j => (hb2.frozen (p := ⟨(w.heap.size + 1 + 1), j, none⟩) (by simp only [st3_size]; omega)).trans (by first | exact fz j | (rw [st3_frozen]; exact fz j))); clear fy fz; have fy := fy'; have fz := fz'; clear fy' fz'; have y0' : w2.cell? ⟨(w.heap.size + 1), 0, none⟩ = some (.bool false) := keepC hb2 (st3_old y0 (.inl (by omega))); have y1' : w2.cell? ⟨(w.heap.size + 1), 1, none⟩ = some (.int .i64 0) := keepC hb2 (st3_old y1 (.inl (by omega))); have y2' : w2.cell? ⟨(w.heap.size + 1), 2, none⟩ = some (.int .i64 0) := keepC hb2 (st3_old y2 (.inl (by omega))); have y3' : w2.cell? ⟨(w.heap.size + 1), 3, none⟩ = some (.slice none 0 0) := keepC hb2 (st3_old y3 (.inl (by omega))); have y4' : w2.cell? ⟨(w.heap.size + 1), 4, none⟩ = some (.int .i64 0) := keepC hb2 (st3_old y4 (.inl (by omega))); have y5' : w2.cell? ⟨(w.heap.size + 1), 5, none⟩ = some (.int .i64 0) := keepC hb2 (st3_old y5 (.inl (by omega))); have y6' : w2.cell? ⟨(w.heap.size + 1), 6, none⟩ = some (.slice none 0 0) := keepC hb2 (st3_old y6 (.inl (by omega))); have z0' : w2.cell? ⟨(w.heap.size + 1 + 1), 0, none⟩ = some (.bool x.p) := keepC hb2 (st3_old z0 (.inr (by omega))); have z1' : w2.cell? ⟨(w.heap.size + 1 + 1), 1, none⟩ = some (.int .i64 x.l.f) := keepC hb2 (st3_new z1 z2 z3).1; have z2' : w2.cell? ⟨(w.heap.size + 1 + 1), 2, none⟩ = some (.int .i64 x.l.v) := keepC hb2 (st3_new z1 z2 z3).2.1; have z3' : w2.cell? ⟨(w.heap.size + 1 + 1), 3, none⟩ = some (.slice b1 x.l.kids.length x.l.kids.length) := keepC hb2 (st3_new z1 z2 z3).2.2; have z4' : w2.cell? ⟨(w.heap.size + 1 + 1), 4, none⟩ = some (.int .i64 0) := keepC hb2 (st3_old z4 (.inr (by omega))); have z5' : w2.cell? ⟨(w.heap.size + 1 + 1), 5, none⟩ = some (.int .i64 0) := keepC hb2 (st3_old z5 (.inr (by omega))); have z6' : w2.cell? ⟨(w.heap.size + 1 + 1), 6, none⟩ = some (.slice none 0 0) := keepC hb2 (st3_old z6 (.inr (by omega))); clear x0 x1 x2 x3 x4 x5 x6 y0 y1 y2 y3 y4 y5 y6 z0 z1 z2 z3 z4 z5 z6; have y0 := y0'; have y1 := y1'; have y2 := y2'; have y3 := y3'; have y4 := y4'; have y5 := y5'; have y6 := y6'; have z0 := z0'; have z1 := z1'; have z2 := z2'; have z3 := z3'; have z4 := z4'; have z5 := z5'; have z6 := z6'; clear y0' y1' y2' y3' y4' y5' y6' z0' z1' z2' z3' z4' z5' z6'; clear C2 hb2 ho2 HO1))
  have u0 : (st3 w2 (w.heap.size + 1 + 1) 4 (.int .i64 x.r.f) (.int .i64 x.r.v) (.slice b2 x.r.kids.length x.r.kids.length)).cell? ⟨(w.heap.size + 1), 0, none⟩ = some (.bool false) := st3_old y0 (.inl (by omega))
  have u1 : (st3 w2 (w.heap.size + 1 + 1) 4 (.int .i64 x.r.f) (.int .i64 x.r.v) (.slice b2 x.r.kids.length x.r.kids.length)).cell? ⟨(w.heap.size + 1), 1, none⟩ = some (.int .i64 0) := st3_old y1 (.inl (by omega))
  have u2 : (st3 w2 (w.heap.size + 1 + 1) 4 (.int .i64 x.r.f) (.int .i64 x.r.v) (.slice b2 x.r.kids.length x.r.kids.length)).cell? ⟨(w.heap.size + 1), 2, none⟩ = some (.int .i64 0) := st3_old y2 (.inl (by omega))
  have u3 : (st3 w2 (w.heap.size + 1 + 1) 4 (.int .i64 x.r.f) (.int .i64 x.r.v) (.slice b2 x.r.kids.length x.r.kids.length)).cell? ⟨(w.heap.size + 1), 3, none⟩ = some (.slice none 0 0) := st3_old y3 (.inl (by omega))
  have u4 : (st3 w2 (w.heap.size + 1 + 1) 4 (.int .i64 x.r.f) (.int .i64 x.r.v) (.slice b2 x.r.kids.length x.r.kids.length)).cell? ⟨(w.heap.size + 1), 4, none⟩ = some (.int .i64 0) := st3_old y4 (.inl (by omega))
  have u5 : (st3 w2 (w.heap.size + 1 + 1) 4 (.int .i64 x.r.f) (.int .i64 x.r.v) (.slice b2 x.r.kids.length x.r.kids.length)).cell? ⟨(w.heap.size + 1), 5, none⟩ = some (.int .i64 0) := st3_old y5 (.inl (by omega))
  have u6 : (st3 w2 (w.heap.size + 1 + 1) 4 (.int .i64 x.r.f) (.int .i64 x.r.v) (.slice b2 x.r.kids.length x.r.kids.length)).cell? ⟨(w.heap.size + 1), 6, none⟩ = some (.slice none 0 0) := st3_old y6 (.inl (by omega))
  have v0 : ((st3 w2 (w.heap.size + 1 + 1) 4 (.int .i64 x.r.f) (.int .i64 x.r.v) (.slice b2 x.r.kids.length x.r.kids.length)).setCell ⟨(w.heap.size + 1), 0, none⟩ (.bool x.p)).cell? ⟨(w.heap.size + 1), 0, none⟩ = some (.bool x.p) := World.cell?_setCell_same _ _ _ u0
  have v1 : ((st3 w2 (w.heap.size + 1 + 1) 4 (.int .i64 x.r.f) (.int .i64 x.r.v) (.slice b2 x.r.kids.length x.r.kids.length)).setCell ⟨(w.heap.size + 1), 0, none⟩ (.bool x.p)).cell? ⟨(w.heap.size + 1), 1, none⟩ = some (.int .i64 0) := by rw [World.cell?_setCell_other _ _ _ _ (ad_ne (.inr (by omega)))]; exact u1
  have v2 : ((st3 w2 (w.heap.size + 1 + 1) 4 (.int .i64 x.r.f) (.int .i64 x.r.v) (.slice b2 x.r.kids.length x.r.kids.length)).setCell ⟨(w.heap.size + 1), 0, none⟩ (.bool x.p)).cell? ⟨(w.heap.size + 1), 2, none⟩ = some (.int .i64 0) := by rw [World.cell?_setCell_other _ _ _ _ (ad_ne (.inr (by omega)))]; exact u2
  have v3 : ((st3 w2 (w.heap.size + 1 + 1) 4 (.int .i64 x.r.f) (.int .i64 x.r.v) (.slice b2 x.r.kids.length x.r.kids.length)).setCell ⟨(w.heap.size + 1), 0, none⟩ (.bool x.p)).cell? ⟨(w.heap.size + 1), 3, none⟩ = some (.slice none 0 0) := by rw [World.cell?_setCell_other _ _ _ _ (ad_ne (.inr (by omega)))]; exact u3
  have v4 : ((st3 w2 (w.heap.size + 1 + 1) 4 (.int .i64 x.r.f) (.int .i64 x.r.v) (.slice b2 x.r.kids.length x.r.kids.length)).setCell ⟨(w.heap.size + 1), 0, none⟩ (.bool x.p)).cell? ⟨(w.heap.size + 1), 4, none⟩ = some (.int .i64 0) := by rw [World.cell?_setCell_other _ _ _ _ (ad_ne (.inr (by omega)))]; exact u4
  have v5 : ((st3 w2 (w.heap.size + 1 + 1) 4 (.int .i64 x.r.f) (.int .i64 x.r.v) (.slice b2 x.r.kids.length x.r.kids.length)).setCell ⟨(w.heap.size + 1), 0, none⟩ (.bool x.p)).cell? ⟨(w.heap.size + 1), 5, none⟩ = some (.int .i64 0) := by rw [World.cell?_setCell_other _ _ _ _ (ad_ne (.inr (by omega)))]; exact u5
  have v6 : ((st3 w2 (w.heap.size + 1 + 1) 4 (.int .i64 x.r.f) (.int .i64 x.r.v) (.slice b2 x.r.kids.length x.r.kids.length)).setCell ⟨(w.heap.size + 1), 0, none⟩ (.bool x.p)).cell? ⟨(w.heap.size + 1), 6, none⟩ = some (.slice none 0 0) := by rw [World.cell?_setCell_other _ _ _ _ (ad_ne (.inr (by omega)))]; exact u6
  have t0 : (st3 ((st3 w2 (w.heap.size + 1 + 1) 4 (.int .i64 x.r.f) (.int .i64 x.r.v) (.slice b2 x.r.kids.length x.r.kids.length)).setCell ⟨(w.heap.size + 1), 0, none⟩ (.bool x.p)) (w.heap.size + 1) 1 (.int .i64 x.l.f) (.int .i64 x.l.v) (.slice b1 x.l.kids.length x.l.kids.length)).cell? ⟨(w.heap.size + 1), 0, none⟩ = some (.bool x.p) := st3_old v0 (.inr (by omega))
  have t1 : (st3 ((st3 w2 (w.heap.size + 1 + 1) 4 (.int .i64 x.r.f) (.int .i64 x.r.v) (.slice b2 x.r.kids.length x.r.kids.length)).setCell ⟨(w.heap.size + 1), 0, none⟩ (.bool x.p)) (w.heap.size + 1) 1 (.int .i64 x.l.f) (.int .i64 x.l.v) (.slice b1 x.l.kids.length x.l.kids.length)).cell? ⟨(w.heap.size + 1), 1, none⟩ = some (.int .i64 x.l.f) := (st3_new v1 v2 v3).1
  have t2 : (st3 ((st3 w2 (w.heap.size + 1 + 1) 4 (.int .i64 x.r.f) (.int .i64 x.r.v) (.slice b2 x.r.kids.length x.r.kids.length)).setCell ⟨(w.heap.size + 1), 0, none⟩ (.bool x.p)) (w.heap.size + 1) 1 (.int .i64 x.l.f) (.int .i64 x.l.v) (.slice b1 x.l.kids.length x.l.kids.length)).cell? ⟨(w.heap.size + 1), 2, none⟩ = some (.int .i64 x.l.v) := (st3_new v1 v2 v3).2.1
  have t3 : (st3 ((st3 w2 (w.heap.size + 1 + 1) 4 (.int .i64 x.r.f) (.int .i64 x.r.v) (.slice b2 x.r.kids.length x.r.kids.length)).setCell ⟨(w.heap.size + 1), 0, none⟩ (.bool x.p)) (w.heap.size + 1) 1 (.int .i64 x.l.f) (.int .i64 x.l.v) (.slice b1 x.l.kids.length x.l.kids.length)).cell? ⟨(w.heap.size + 1), 3, none⟩ = some (.slice b1 x.l.kids.length x.l.kids.length) := (st3_new v1 v2 v3).2.2
  have t4 : (st3 ((st3 w2 (w.heap.size + 1 + 1) 4 (.int .i64 x.r.f) (.int .i64 x.r.v) (.slice b2 x.r.kids.length x.r.kids.length)).setCell ⟨(w.heap.size + 1), 0, none⟩ (.bool x.p)) (w.heap.size + 1) 1 (.int .i64 x.l.f) (.int .i64 x.l.v) (.slice b1 x.l.kids.length x.l.kids.length)).cell? ⟨(w.heap.size + 1), 4, none⟩ = some (.int .i64 0) := st3_old v4 (.inr (by omega))
  have t5 : (st3 ((st3 w2 (w.heap.size + 1 + 1) 4 (.int .i64 x.r.f) (.int .i64 x.r.v) (.slice b2 x.r.kids.length x.r.kids.length)).setCell ⟨(w.heap.size + 1), 0, none⟩ (.bool x.p)) (w.heap.size + 1) 1 (.int .i64 x.l.f) (.int .i64 x.l.v) (.slice b1 x.l.kids.length x.l.kids.length)).cell? ⟨(w.heap.size + 1), 5, none⟩ = some (.int .i64 0) := st3_old v5 (.inr (by omega))
  have t6 : (st3 ((st3 w2 (w.heap.size + 1 + 1) 4 (.int .i64 x.r.f) (.int .i64 x.r.v) (.slice b2 x.r.kids.length x.r.kids.length)).setCell ⟨(w.heap.size + 1), 0, none⟩ (.bool x.p)) (w.heap.size + 1) 1 (.int .i64 x.l.f) (.int .i64 x.l.v) (.slice b1 x.l.kids.length x.l.kids.length)).cell? ⟨(w.heap.size + 1), 6, none⟩ = some (.slice none 0 0) := st3_old v6 (.inr (by omega))
  have q0 : (st3 (st3 ((st3 w2 (w.heap.size + 1 + 1) 4 (.int .i64 x.r.f) (.int .i64 x.r.v) (.slice b2 x.r.kids.length x.r.kids.length)).setCell ⟨(w.heap.size + 1), 0, none⟩ (.bool x.p)) (w.heap.size + 1) 1 (.int .i64 x.l.f) (.int .i64 x.l.v) (.slice b1 x.l.kids.length x.l.kids.length)) (w.heap.size + 1) 4 (.int .i64 x.r.f) (.int .i64 x.r.v) (.slice b2 x.r.kids.length x.r.kids.length)).cell? ⟨(w.heap.size + 1), 0, none⟩ = some (.bool x.p) := st3_old t0 (.inr (by omega))
  have q1 : (st3 (st3 ((st3 w2 (w.heap.size + 1 + 1) 4 (.int .i64 x.r.f) (.int .i64 x.r.v) (.slice b2 x.r.kids.length x.r.kids.length)).setCell ⟨(w.heap.size + 1), 0, none⟩ (.bool x.p)) (w.heap.size + 1) 1 (.int .i64 x.l.f) (.int .i64 x.l.v) (.slice b1 x.l.kids.length x.l.kids.length)) (w.heap.size + 1) 4 (.int .i64 x.r.f) (.int .i64 x.r.v) (.slice b2 x.r.kids.length x.r.kids.length)).cell? ⟨(w.heap.size + 1), 1, none⟩ = some (.int .i64 x.l.f) := st3_old t1 (.inr (by omega))
  have q2 : (st3 (st3 ((st3 w2 (w.heap.size + 1 + 1) 4 (.int .i64 x.r.f) (.int .i64 x.r.v) (.slice b2 x.r.kids.length x.r.kids.length)).setCell ⟨(w.heap.size + 1), 0, none⟩ (.bool x.p)) (w.heap.size + 1) 1 (.int .i64 x.l.f) (.int .i64 x.l.v) (.slice b1 x.l.kids.length x.l.kids.length)) (w.heap.size + 1) 4 (.int .i64 x.r.f) (.int .i64 x.r.v) (.slice b2 x.r.kids.length x.r.kids.length)).cell? ⟨(w.heap.size + 1), 2, none⟩ = some (.int .i64 x.l.v) := st3_old t2 (.inr (by omega))
  have q3 : (st3 (st3 ((st3 w2 (w.heap.size + 1 + 1) 4 (.int .i64 x.r.f) (.int .i64 x.r.v) (.slice b2 x.r.kids.length x.r.kids.length)).setCell ⟨(w.heap.size + 1), 0, none⟩ (.bool x.p)) (w.heap.size + 1) 1 (.int .i64 x.l.f) (.int .i64 x.l.v) (.slice b1 x.l.kids.length x.l.kids.length)) (w.heap.size + 1) 4 (.int .i64 x.r.f) (.int .i64 x.r.v) (.slice b2 x.r.kids.length x.r.kids.length)).cell? ⟨(w.heap.size + 1), 3, none⟩ = some (.slice b1 x.l.kids.length x.l.kids.length) := st3_old t3 (.inr (by omega))
  have q4 : (st3 (st3 ((st3 w2 (w.heap.size + 1 + 1) 4 (.int .i64 x.r.f) (.int .i64 x.r.v) (.slice b2 x.r.kids.length x.r.kids.length)).setCell ⟨(w.heap.size + 1), 0, none⟩ (.bool x.p)) (w.heap.size + 1) 1 (.int .i64 x.l.f) (.int .i64 x.l.v) (.slice b1 x.l.kids.length x.l.kids.length)) (w.heap.size + 1) 4 (.int .i64 x.r.f) (.int .i64 x.r.v) (.slice b2 x.r.kids.length x.r.kids.length)).cell? ⟨(w.heap.size + 1), 4, none⟩ = some (.int .i64 x.r.f) := (st3_new t4 t5 t6).1
  have q5 : (st3 (st3 ((st3 w2 (w.heap.size + 1 + 1) 4 (.int .i64 x.r.f) (.int .i64 x.r.v) (.slice b2 x.r.kids.length x.r.kids.length)).setCell ⟨(w.heap.size + 1), 0, none⟩ (.bool x.p)) (w.heap.size + 1) 1 (.int .i64 x.l.f) (.int .i64 x.l.v) (.slice b1 x.l.kids.length x.l.kids.length)) (w.heap.size + 1) 4 (.int .i64 x.r.f) (.int .i64 x.r.v) (.slice b2 x.r.kids.length x.r.kids.length)).cell? ⟨(w.heap.size + 1), 5, none⟩ = some (.int .i64 x.r.v) := (st3_new t4 t5 t6).2.1
  have q6 : (st3 (st3 ((st3 w2 (w.heap.size + 1 + 1) 4 (.int .i64 x.r.f) (.int .i64 x.r.v) (.slice b2 x.r.kids.length x.r.kids.length)).setCell ⟨(w.heap.size + 1), 0, none⟩ (.bool x.p)) (w.heap.size + 1) 1 (.int .i64 x.l.f) (.int .i64 x.l.v) (.slice b1 x.l.kids.length x.l.kids.length)) (w.heap.size + 1) 4 (.int .i64 x.r.f) (.int .i64 x.r.v) (.slice b2 x.r.kids.length x.r.kids.length)).cell? ⟨(w.heap.size + 1), 6, none⟩ = some (.slice b2 x.r.kids.length x.r.kids.length) := (st3_new t4 t5 t6).2.2
  have hs : (st3 (st3 ((st3 w2 (w.heap.size + 1 + 1) 4 (.int .i64 x.r.f) (.int .i64 x.r.v) (.slice b2 x.r.kids.length x.r.kids.length)).setCell ⟨(w.heap.size + 1), 0, none⟩ (.bool x.p)) (w.heap.size + 1) 1 (.int .i64 x.l.f) (.int .i64 x.l.v) (.slice b1 x.l.kids.length x.l.kids.length)) (w.heap.size + 1) 4 (.int .i64 x.r.f) (.int .i64 x.r.v) (.slice b2 x.r.kids.length x.r.kids.length)).heap.size = w2.heap.size := by rw [st3_size, st3_size, World.size_setCell, st3_size]
  have k1 : OwnS (st3 (st3 ((st3 w2 (w.heap.size + 1 + 1) 4 (.int .i64 x.r.f) (.int .i64 x.r.v) (.slice b2 x.r.kids.length x.r.kids.length)).setCell ⟨(w.heap.size + 1), 0, none⟩ (.bool x.p)) (w.heap.size + 1) 1 (.int .i64 x.l.f) (.int .i64 x.l.v) (.slice b1 x.l.kids.length x.l.kids.length)) (w.heap.size + 1) 4 (.int .i64 x.r.f) (.int .i64 x.r.v) (.slice b2 x.r.kids.length x.r.kids.length)) (fun k => W.heap.size ≤ k ∧ k < w1.heap.size) b1 x.l.kids := st3_own (st3_own ((st3_own HO1'.out (by omega)).setCell ⟨(w.heap.size + 1), 0, none⟩ (by simp only; omega) _) (by omega)) (by omega)
  have k2 : OwnS (st3 (st3 ((st3 w2 (w.heap.size + 1 + 1) 4 (.int .i64 x.r.f) (.int .i64 x.r.v) (.slice b2 x.r.kids.length x.r.kids.length)).setCell ⟨(w.heap.size + 1), 0, none⟩ (.bool x.p)) (w.heap.size + 1) 1 (.int .i64 x.l.f) (.int .i64 x.l.v) (.slice b1 x.l.kids.length x.l.kids.length)) (w.heap.size + 1) 4 (.int .i64 x.r.f) (.int .i64 x.r.v) (.slice b2 x.r.kids.length x.r.kids.length)) (fun k => w1.heap.size ≤ k ∧ k < w2.heap.size) b2 x.r.kids := st3_own (st3_own ((st3_own HO2.out (by omega)).setCell ⟨(w.heap.size + 1), 0, none⟩ (by simp only; omega) _) (by omega)) (by omega)
  have kb : Below w.heap.size w (st3 (st3 ((st3 w2 (w.heap.size + 1 + 1) 4 (.int .i64 x.r.f) (.int .i64 x.r.v) (.slice b2 x.r.kids.length x.r.kids.length)).setCell ⟨(w.heap.size + 1), 0, none⟩ (.bool x.p)) (w.heap.size + 1) 1 (.int .i64 x.l.f) (.int .i64 x.l.v) (.slice b1 x.l.kids.length x.l.kids.length)) (w.heap.size + 1) 4 (.int .i64 x.r.f) (.int .i64 x.r.v) (.slice b2 x.r.kids.length x.r.kids.length)) := st3_below (st3_below ((st3_below hB2 (by omega)).setCell (p := ⟨(w.heap.size + 1), 0, none⟩) (by simp only; omega) _) (by omega)) (by omega)
  change bodyPost _ _ _ _ _ (st3 (st3 ((st3 w2 (w.heap.size + 1 + 1) 4 (.int .i64 x.r.f) (.int .i64 x.r.v) (.slice b2 x.r.kids.length x.r.kids.length)).setCell ⟨(w.heap.size + 1), 0, none⟩ (.bool x.p)) (w.heap.size + 1) 1 (.int .i64 x.l.f) (.int .i64 x.l.v) (.slice b1 x.l.kids.length x.l.kids.length)) (w.heap.size + 1) 4 (.int .i64 x.r.f) (.int .i64 x.r.v) (.slice b2 x.r.kids.length x.r.kids.length))
  generalize (st3 (st3 ((st3 w2 (w.heap.size + 1 + 1) 4 (.int .i64 x.r.f) (.int .i64 x.r.v) (.slice b2 x.r.kids.length x.r.kids.length)).setCell ⟨(w.heap.size + 1), 0, none⟩ (.bool x.p)) (w.heap.size + 1) 1 (.int .i64 x.l.f) (.int .i64 x.l.v) (.slice b1 x.l.kids.length x.l.kids.length)) (w.heap.size + 1) 4 (.int .i64 x.r.f) (.int .i64 x.r.v) (.slice b2 x.r.kids.length x.r.kids.length)) = Y at q0 q1 q2 q3 q4 q5 q6 hs k1 k2 kb ⊢
  refine bodyPost_ret (v := .agg #[.bool x.p, .int .i64 x.l.f, .int .i64 x.l.v, .slice b1 x.l.kids.length x.l.kids.length, .int .i64 x.r.f, .int .i64 x.r.v, .slice b2 x.r.kids.length x.r.kids.length]) (by simp [results, Tryz.results10, go_sem, q0, q1, q2, q3, q4, q5, q6]) rfl ⟨b1, b2, w1.heap.size, rfl, k1.mono (fun k hk => ⟨by omega, hk.2⟩), k2.mono (fun k hk => ⟨hk.1, by omega⟩), by omega, by omega, kb⟩
end Go.Proofs.YtollijngiioonabGreat

/- An equation that holds, or does not, that came in as an argument, opened. Conditions: none. -/
namespace Go.Proofs.YtollijngiioonabGreat
set_option maxRecDepth 100000
open Go.RowKit Go.ChangeShapes Go.WideShapes Go.ChangeAt

theorem cellsLit : Tryz.prog.cellsOf 28 = 7 := by kernel_rfl
theorem cellsBool : Tryz.prog.cellsOf 4 = 1 := by kernel_rfl
theorem lit_trod {H : Type} {enc : TypeId × Value → H} {W : World} {base : Nat} {spare : Nat → Bool} {held : Bool} {fuel : Nat} {cs : List Value} {x : DataW H × List MemPlace}
    (h : DataW.trod enc Tryz.prog W base spare held fuel 28 cs = some x) :
    ∃ (u : LitD) (a1 : Option Addr) (c1 : Nat) (a2 : Option Addr) (c2 : Nat), cs = [.bool u.p, .int .i64 u.l.f, .int .i64 u.l.v, .slice a1 u.l.kids.length c1, .int .i64 u.r.f, .int .i64 u.r.v, .slice a2 u.r.kids.length c2] ∧ (isW u.l.f ∧ isW u.l.v) ∧ (isW u.r.f ∧ isW u.r.v) ∧ (u.l.kids.length ≤ c1 ∧ u.r.kids.length ≤ c2) ∧ RdK W W.heap.size a1 u.l.kids ∧ RdK W W.heap.size a2 u.r.kids := by
  obtain ⟨xs, m, rfl, rfl, hlen, hxl, hf⟩ := DataW.trod_struct Tryz.underlying28 h
  rw [cellsLit] at hlen
  match cs, hlen with
  | [c0, c1, c2, c3, c4, c5, c6], _ =>
    match xs, hxl with
    | [y0, y1, y2], _ =>
      have h0 : DataW.trod enc Tryz.prog W base spare held m 4 [c0] = some y0 := by have := hf 0 _ rfl; simpa [cellsBool] using this
      have h1 : DataW.trod enc Tryz.prog W base spare held m 26 [c1, c2, c3] = some y1 := by have := hf 1 _ rfl; simpa [cellsBool, cellsT] using this
      have h2 : DataW.trod enc Tryz.prog W base spare held m 26 [c4, c5, c6] = some y2 := by have := hf 2 _ rfl; simpa [cellsBool, cellsT] using this
      obtain ⟨z0, e0, _⟩ := DataW.trod_bool Tryz.underlying4 h0
      obtain ⟨t, a1, d1, e1, q1, q2, q3, q4⟩ := term_trod h1 (fun m _ cs x hx => kids_trod m cs x hx)
      obtain ⟨t', a2, d2, e2, p1, p2, p3, p4⟩ := term_trod h2 (fun m _ cs x hx => kids_trod m cs x hx)
      simp at e0 e1 e2
      obtain ⟨e1, e3, e4⟩ := e1
      obtain ⟨e2, e5, e6⟩ := e2
      subst e0 e1 e2 e3 e4 e5 e6
      exact ⟨⟨z0, t, t'⟩, a1, d1, a2, d2, rfl, ⟨q1, q2⟩, ⟨p1, p2⟩, ⟨q3.2, p3.2⟩, q4, p4⟩
theorem open_lit {H : Type} {enc : TypeId × Value → H} {W : World} {base : Nat} {spare : Nat → Bool} {held : Bool} {v : Value} {d : DataW H} {p : List MemPlace} {cs : Array Value} (hv : v = .agg cs)
    (h : DataW.Trod enc Tryz.prog W base spare held 28 v d p) : ∃ (x : LitD) (a1 : Option Addr) (c1 : Nat) (a2 : Option Addr) (c2 : Nat), v = litV x a1 c1 a2 c2 ∧ (isW x.l.f ∧ isW x.l.v) ∧ (isW x.r.f ∧ isW x.r.v) ∧ (x.l.kids.length ≤ c1 ∧ x.r.kids.length ≤ c2) ∧ RdK W W.heap.size a1 x.l.kids ∧ RdK W W.heap.size a2 x.r.kids := by
  subst hv
  obtain ⟨fuel, hf⟩ := h
  obtain ⟨x, a1, c1, a2, c2, e, r⟩ := lit_trod hf
  refine ⟨x, a1, c1, a2, c2, ?_, r⟩
  have e2 : cs.toList = [.bool x.p, .int .i64 x.l.f, .int .i64 x.l.v, .slice a1 x.l.kids.length c1, .int .i64 x.r.f, .int .i64 x.r.v, .slice a2 x.r.kids.length c2] := by simpa [Value.cells] using e
  unfold litV
  rw [show cs = #[.bool x.p, .int .i64 x.l.f, .int .i64 x.l.v, .slice a1 x.l.kids.length c1, .int .i64 x.r.f, .int .i64 x.r.v, .slice a2 x.r.kids.length c2] from Array.toList_inj.1 e2]
end Go.Proofs.YtollijngiioonabGreat

/- What the laws on two equations stand on. Conditions: none. -/
namespace Go.Proofs.YtollijngiioonabGreat
set_option maxRecDepth 100000
open Go.RowKit

theorem below_stepL {A X Y : World} (h : Below A.heap.size A X) (k : Below X.heap.size X Y) : Below A.heap.size A Y := h.trans (k.mono h.size)
/-- A box of seven cells. -/
def C7 (W : World) (b : Nat) (x0 x1 x2 x3 x4 x5 x6 : Value) : Prop := W.cell? ⟨b, 0, none⟩ = some x0 ∧ W.cell? ⟨b, 1, none⟩ = some x1 ∧ W.cell? ⟨b, 2, none⟩ = some x2 ∧ W.cell? ⟨b, 3, none⟩ = some x3 ∧ W.cell? ⟨b, 4, none⟩ = some x4 ∧ W.cell? ⟨b, 5, none⟩ = some x5 ∧ W.cell? ⟨b, 6, none⟩ = some x6
theorem C7.on {W W' : World} {b : Nat} {x0 x1 x2 x3 x4 x5 x6 : Value} (h : C7 W b x0 x1 x2 x3 x4 x5 x6) (hb : Below W.heap.size W W') : C7 W' b x0 x1 x2 x3 x4 x5 x6 :=
  ⟨keepC hb h.1, keepC hb h.2.1, keepC hb h.2.2.1, keepC hb h.2.2.2.1, keepC hb h.2.2.2.2.1, keepC hb h.2.2.2.2.2.1, keepC hb h.2.2.2.2.2.2⟩
theorem szX_ok (x : LitD) (m : Int) (h0 : 0 ≤ m) (h1 : m ≤ 1048576) : 0 ≤ szX x m → szX x m ≤ m ∧ (partsL x.l.kids : Int) + partsL x.r.kids ≤ m := by
  unfold szX szR
  by_cases a1 : (partsL x.l.kids : Int) ≤ m
  · rw [if_pos a1, if_neg (by omega)]
    by_cases a2 : (partsL x.r.kids : Int) ≤ m - partsL x.l.kids
    · rw [if_pos a2]; intro h; omega
    · rw [if_neg a2]; intro h; omega
  · rw [if_neg a1, if_pos (by omega)]; intro h; omega
end Go.Proofs.YtollijngiioonabGreat

/- Contracts of the laws' marks on a term that owns its memory: nothing else is written. Conditions: terms of at most 549755813888 parts. -/
namespace Go.Proofs.YtollijngiioonabGreat
set_option maxRecDepth 100000
open Go.RowKit

/-- Between two worlds only blocks of S have turned. -/
structure Only (S : Nat → Prop) (w w' : World) : Prop where
  os : w'.os = w.os
  tape : w'.tape = w.tape
  output : w'.output = w.output
  size : w'.heap.size = w.heap.size
  block : ∀ x, ¬ S x → w'.heap[x]? = w.heap[x]?

theorem Only.refl (S : Nat → Prop) (w : World) : Only S w w := ⟨rfl, rfl, rfl, rfl, fun _ _ => rfl⟩
theorem Only.trans {S : Nat → Prop} {a b c : World} (h : Only S a b) (k : Only S b c) : Only S a c := ⟨k.os.trans h.os, k.tape.trans h.tape, k.output.trans h.output, k.size.trans h.size, fun x hx => (k.block x hx).trans (h.block x hx)⟩
theorem Only.mono {S S' : Nat → Prop} {a b : World} (h : Only S a b) (hs : ∀ x, S x → S' x) : Only S' a b := ⟨h.os, h.tape, h.output, h.size, fun x hx => h.block x (fun k => hx (hs x k))⟩
theorem Only.setCell {S : Nat → Prop} {a b : World} (h : Only S a b) (p : Addr) (hp : S p.block) (u : Value) : Only S a (b.setCell p u) :=
  ⟨h.os, by simp [h.tape], h.output, by simp [h.size], fun x hx => (Below.heap_setCell b p u x (fun e => hx (e ▸ hp))).trans (h.block x hx)⟩
theorem Only.below {S : Nat → Prop} {a b : World} {B : Nat} (h : Only S a b) (hs : ∀ x, S x → B ≤ x) : Below B a b := ⟨h.os, h.tape, h.output, Nat.le_of_eq h.size.symm, fun x hx => h.block x (fun k => by have := hs x k; omega)⟩
theorem Only.cell {S : Nat → Prop} {a b : World} (h : Only S a b) {p : Addr} (hp : ¬ S p.block) : b.cell? p = a.cell? p := World.cell?_of_block (h.block _ hp)
theorem Only.frozen {S : Nat → Prop} {a b : World} (h : Only S a b) {p : Addr} (hp : ¬ S p.block) : b.frozen? p = a.frozen? p := World.frozen?_of_block (h.block _ hp)

theorem rt_mark {a b : Int} (h : a = b) : Ending.returned (.int .i64 a) = .returned (.int .i64 b) := by rw [h]

/-- What is still to be marked of a row of terms. -/
structure MarkSt (wr : World) (S : Nat → Prop) (b off : Nat) (ts : List TermD) (A : Nat → Option Addr) (C : Nat → Nat) (K : Nat → Nat → Prop) (k : Nat) : Prop where
  cells : ∀ i, (h : i < ts.length) → k ≤ i → wr.cell? ⟨b, off + i * 3, none⟩ = some (.int .i64 ts[i].f) ∧ wr.cell? ⟨b, off + i * 3 + 1, none⟩ = some (.int .i64 ts[i].v) ∧ wr.cell? ⟨b, off + i * 3 + 2, none⟩ = some (.slice (A i) ts[i].kids.length (C i))
  frozen : ∀ j, wr.frozen? ⟨b, j, none⟩ = false
  kid : ∀ i, (h : i < ts.length) → k ≤ i → OwnS wr (K i) (A i) ts[i].kids

theorem MarkSt.next {wr w1 : World} {S : Nat → Prop} {b off : Nat} {ts : List TermD} {A : Nat → Option Addr} {C : Nat → Nat} {K : Nat → Nat → Prop} {k : Nat} (h : MarkSt wr S b off ts A C K k) (hk : k < ts.length)
    (hsub : ∀ i x, i < ts.length → K i x → S x ∧ x ≠ b) (hdis : ∀ i j x, i < ts.length → j < ts.length → i ≠ j → K i x → ¬ K j x) (x y : Value)
    (ho : Only (K k) ((wr.setCell ⟨b, off + k * 3, none⟩ x).setCell ⟨b, off + k * 3 + 1, none⟩ y) w1) : MarkSt w1 S b off ts A C K (k + 1) := by
  have hkb : ¬ K k b := fun e => (hsub k b hk e).2 rfl
  refine ⟨fun i hi hki => ?_, fun j => ?_, fun i hi hki => ?_⟩
  · obtain ⟨c0, c1, c2⟩ := h.cells i hi (by omega)
    have d : ∀ o v, (off + k * 3 ≠ o) → (off + k * 3 + 1 ≠ o) → wr.cell? ⟨b, o, none⟩ = some v → w1.cell? ⟨b, o, none⟩ = some v := by
      intro o v h1 h2 hv
      rw [ho.cell (p := ⟨b, o, none⟩) hkb, World.cell?_setCell_other _ _ _ _ (fun e => h2 (by injection e)), World.cell?_setCell_other _ _ _ _ (fun e => h1 (by injection e))]
      exact hv
    exact ⟨d _ _ (by omega) (by omega) c0, d _ _ (by omega) (by omega) c1, d _ _ (by omega) (by omega) c2⟩
  · rw [ho.frozen (p := ⟨b, j, none⟩) hkb]
    simp only [World.frozen?_setCell]
    exact h.frozen j
  · have hib : ¬ K i b := fun e => (hsub i b hi e).2 rfl
    have o := ((h.kid i hi (by omega)).setCell ⟨b, off + k * 3, none⟩ hib x).setCell ⟨b, off + k * 3 + 1, none⟩ hib y
    exact o.frame (fun z hz => ho.block z (fun e => hdis i k z hi hk (by omega) hz e)) (Nat.le_of_eq ho.size.symm)

set_option maxHeartbeats 1600000 in
theorem markTermS_any (N : Nat) : ∀ (ts : List TermD) (a : Option Addr) (c : Nat) (m : Int) (S : Nat → Prop) (w : World), partsL ts ≤ N → N ≤ 549755813888 → 0 ≤ m → m + 2 * partsL ts ≤ 4000000000000000 → OwnS w S a ts →
    Calls Tryz.prog 33 #[.slice a ts.length c, .int .i64 m] w fun e w' => e = .returned (.int .i64 (m + 2 * partsL ts)) ∧ Only S w w' := by
  induction N with
  | zero =>
    intro ts a c m S w hN hM hm0 hm ho
    have h1 := partsL_len ts
    have : ts = [] := List.length_eq_zero_iff.1 (by omega)
    subst this
    go_enter Tryz.func33, Tryz.ntmps33
    go_wp2_with fail
    refine wp_loop_rounds 1 ?_
    rw [rounds_succ]
    go_wp2_with fail
    go_ret
    exact ⟨by simp [partsL], Only.refl _ _⟩
  | succ N ih =>
    intro ts a c m S w hN hM hm0 hm ho
    have hlen := partsL_len ts
    cases ho with
    | nil S a =>
      go_enter Tryz.func33, Tryz.ntmps33
      go_wp2_with fail
      refine wp_loop_rounds 1 ?_
      rw [rounds_succ]
      go_wp2_with fail
      go_ret
      exact ⟨by simp [partsL], Only.refl _ _⟩
    | row S b off ts A C K hb hlt hl hz hc hf hsub hdis hk =>
      have M0 : MarkSt w S b off ts A C K 0 := ⟨fun i h _ => hc i h, hf, fun i h _ => hk i h⟩
      clear hc hf hk hz
      go_enter Tryz.func33, Tryz.ntmps33
      go_wp2_with fail
      go_loopw [1, 5] (fun l i wr => ∃ k : Nat, k ≤ ts.length ∧ i = .int .i64 k ∧ l = .int .i64 (m + 2 * partsL (ts.take k)) ∧ MarkSt wr S b off ts A C K k ∧ Only S w wr) (fun _ i _ => ts.length - (intOf i).toNat)
      case atStart => exact ⟨0, Nat.zero_le _, rfl, by simp [partsL], M0, Only.refl _ _⟩
      case round =>
        obtain ⟨k, hk, rfl, rfl, M, O⟩ := hrel
        clear M0
        have hpk := partsL_take ts k
        by_cases hk' : k < ts.length
        · obtain ⟨c0, c1, c2⟩ := M.cells k hk' (Nat.le_refl _)
          have hpg := partsL_get hk'
          have hpt := partsT_eq ts[k]
          have hpn := partsL_next hk'
          have hpk2 := partsL_take ts (k + 1)
          have hki : (k : Int) < (ts.length : Int) := by omega
          have hkb : ¬ K k b := fun e => (hsub k b hk' e).2 rfl
          have f0 := M.frozen (off + k * 3)
          have f1 := M.frozen (off + k * 3 + 1)
          obtain ⟨W, hW⟩ : ∃ W, W = (wr.setCell ⟨b, off + k * 3, none⟩ (.int .i64 (m + 2 * partsL (ts.take k)))).setCell ⟨b, off + k * 3 + 1, none⟩ (.int .i64 (m + 2 * partsL (ts.take k) + 1)) := ⟨_, rfl⟩
          have e1 : (wr.setCell ⟨b, off + k * 3, none⟩ (.int .i64 (m + 2 * partsL (ts.take k)))).cell? ⟨b, off + k * 3 + 1, none⟩ = some (.int .i64 ts[k].v) := by rw [World.cell?_setCell_other _ _ _ _ (by simp)]; exact c1
          have e2 : ((wr.setCell ⟨b, off + k * 3, none⟩ (.int .i64 (m + 2 * partsL (ts.take k)))).setCell ⟨b, off + k * 3 + 1, none⟩ (.int .i64 (m + 2 * partsL (ts.take k) + 1))).cell? ⟨b, off + k * 3 + 2, none⟩ = some (.slice (A k) ts[k].kids.length (C k)) := by rw [World.cell?_setCell_other _ _ _ _ (by simp), World.cell?_setCell_other _ _ _ _ (by simp)]; exact c2
          have oK : OwnS W (K k) (A k) ts[k].kids := by rw [hW]; exact ((M.kid k hk' (Nat.le_refl _)).setCell ⟨b, off + k * 3, none⟩ hkb _).setCell ⟨b, off + k * 3 + 1, none⟩ hkb _
          have O2 : Only S w W := by rw [hW]; exact (O.setCell ⟨b, off + k * 3, none⟩ hb _).setCell ⟨b, off + k * 3 + 1, none⟩ hb _
          have I := ih ts[k].kids (A k) (C k) (m + 2 * partsL (ts.take k) + 1 + 1) (K k) W (by omega) (by omega) (by omega) (by omega) oK
          have NX : ∀ w1, Only (K k) W w1 → MarkSt w1 S b off ts A C K (k + 1) := fun w1 h => M.next hk' hsub hdis _ _ (hW ▸ h)
          have HE : Hid (m + 2 * (partsL (ts.take k) : Int) + 1 + 1 + 2 * partsL ts[k].kids = m + 2 * partsL (ts.take (k + 1))) := by show _ = _; omega
          have hsubk : ∀ x, K k x → S x := fun x hx => (hsub k x hk' hx).1
          clear M hpt hpn oK
          go_wp2_with (go_at_call 33; rw [← hW]; refine I.mono ?_; rintro e w1 ⟨rfl, h1⟩; have M1 := NX _ h1; have O3 := O2.trans (h1.mono hsubk); clear I NX h1 O2 hW)
          go_roundw
          case rel => exact ⟨k + 1, by omega, by go_num, by rw [← HE.out], M1, O3⟩
          case measure => simp [intOf]; omega
        · have E : Hid (k = ts.length) := (by omega : k = ts.length)
          go_wp2_with fail
          go_ret
          refine ⟨rt_mark ?_, O⟩
          rw [E.out, List.take_length]

set_option maxHeartbeats 800000 in
theorem markTerm_any (t : TermD) (a : Option Addr) (c : Nat) (m : Int) (S : Nat → Prop) (w : World) (hp : partsT t ≤ 549755813888) (hm0 : 0 ≤ m) (hm : m ≤ 1000000000000000) (ho : OwnS w S a t.kids) (hs : ∀ x, S x → x < w.heap.size) :
    Calls Tryz.prog 34 #[.agg #[.int .i64 t.f, .int .i64 t.v, .slice a t.kids.length c], .int .i64 m] w fun e w' => e = .returned (.int .i64 (m + 2 * partsL t.kids)) ∧ ∃ w0, Below w.heap.size w w0 ∧ Only S w0 w' := by
  rw [partsT_eq] at hp
  have h0 : Below w.heap.size w (w.alloc (.cells #[.int .i64 t.f, .int .i64 t.v, .slice a t.kids.length c] 34)) := (Below.refl w.heap.size w).alloc (Nat.le_refl _) _
  have o1 : OwnS (w.alloc (.cells #[.int .i64 t.f, .int .i64 t.v, .slice a t.kids.length c] 34)) S a t.kids := ho.frame (fun x hx => h0.block x (hs x hx)) h0.size
  have I := markTermS_any (partsL t.kids) t.kids a c m S _ (Nat.le_refl _) (by omega) hm0 (by omega) o1
  generalize t.kids = ks at *
  go_enter Tryz.func34, Tryz.ntmps34
  go_wp2_with (go_at_call 33; refine I.mono ?_; rintro e w1 ⟨rfl, h1⟩; clear I)
  go_ret
  exact ⟨rfl, _, h0, h1⟩
end Go.Proofs.YtollijngiioonabGreat

