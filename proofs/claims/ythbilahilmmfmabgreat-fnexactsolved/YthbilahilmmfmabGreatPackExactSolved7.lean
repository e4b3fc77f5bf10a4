/- What the proof of FnExactSolved stands on, part 7 of 13: each piece says what it proves and under which conditions. Conditions: as each piece says. -/
import Derived.Test.YthbilahilmmfmabGreatPackExactSolved6
import Derived.Test.YthbilahilmmfmabGreatProg
import Derived.Tactics
import Derived.WalkKit
import Derived.Maps.AppendAt
import Derived.Deep.RegionLaw
import Derived.ProofKit
import Derived.OpenShut
import Derived.WalkSmall
import Derived.Deep.QuietTactic
import Derived.BigQuiet
import Derived.Lib.Builder
/- One form of a term, as the program makes it: the walk. Conditions: terms of at most 549755813888 parts. -/
namespace Go.Proofs.YthbilahilmmfmabGreat
set_option maxRecDepth 100000
open Go.RowKit

set_option maxHeartbeats 6400000 in
set_option maxRecDepth 100000 in
theorem impNorm_any (sa : Option Addr) (ss : List SymD) (sc : Nat) (t : TermD) (a : Option Addr) (c hi : Nat) (w : World) (hs : RdS w sa ss) (hp : partsT t ≤ 549755813888) (hr : RdK w hi a t.kids) (hhi : hi ≤ w.heap.size) (hc : t.kids.length ≤ c) (hwf : isW t.f ∧ isW t.v) :
    Calls Tryz.prog 53 #[.slice sa ss.length sc, .agg #[.int .i64 t.f, .int .i64 t.v, .slice a t.kids.length c]] w fun e w' => ∃ a' c', e = .returned (.agg #[.int .i64 t.f, .int .i64 t.v, .slice a' (normT (blindAt ss) t).kids.length c']) ∧ OwnS w' (fun k => w.heap.size ≤ k ∧ k < w'.heap.size) a' (normT (blindAt ss) t).kids ∧ (normT (blindAt ss) t).kids.length ≤ c' ∧ Below w.heap.size w w' := by
  obtain ⟨W, hW⟩ : ∃ W, W = (w.alloc (.cells #[.int .i64 t.f, .int .i64 t.v, .slice a t.kids.length c] 37)).alloc (.cells #[.int .i64 0, .int .i64 0, .slice none 0 0] 37) := ⟨_, rfl⟩
  have hb0 : Below w.heap.size w W := by rw [hW]; exact ((Below.refl _ _).alloc (Nat.le_refl _) _).alloc (by simp) _
  have hz0 : W.heap.size = w.heap.size + 1 + 1 := by rw [hW]; simp
  have nb0 : NB w W := ⟨hb0, by rw [hW]; simp [go_sem], by rw [hW]; simp [go_sem], by rw [hW]; simp [go_sem], fun j => by rw [hW]; simp [go_sem], by omega⟩
  have CO := opened_any sa ss sc w.heap.size (w.heap.size + 1 + 1) [] none 0 t a c W (hs.below hb0) (.start (by omega) (by omega)) (by simp) ((hr.mono hhi).on hb0) hc hwf
  have HS : Hid (∀ W', Below w.heap.size w W' → RdS W' sa ss) := fun W' h => hs.below h
  have HR : Hid (∀ (f v : Int), (normT (blindAt ss) t).f = t.f ∧ (normT (blindAt ss) t).v = t.v) := fun _ _ => by rw [normT_eq]; exact ⟨rfl, rfl⟩
  have hpt := partsT_eq t
  clear hs hr hhi
  simp only [List.length_nil, Nat.zero_add] at CO
  go_enter Tryz.func53, Tryz.ntmps53
  go_wp2_with (go_at_call 69; rw [← hW]; refine CO.mono ?_; rintro e w1 ⟨g1, c1, rfl, st1, sy1⟩; clear CO hW)
  have I1 : NI w (blindAt ss) t (partsT t) (1 + 2 * partsL t.kids) [opn t a c (isHome (blindAt ss) t [])] g1 c1 w1 := ⟨st1, .inl ⟨rfl, rfl⟩, by simp [todo, FM.d, opn], by simp [bulkP, FM.d, opn, partsL]; omega, by
    have := fin_start (bl := blindAt ss) t
    exact this, nb0.stay sy1⟩
  clear st1 sy1 nb0 hb0 hz0 hc hwf
  go_loopg [5] (1 + 2 * partsL t.kids) (fun k s5 wr => ∃ (F : List FM) (g cv : Nat), s5 = .slice (some ⟨g, 0, none⟩) F.length cv ∧ NI w (blindAt ss) t (partsT t) k F g cv wr)
  case atStart => exact ⟨_, g1, c1, rfl, I1⟩
  case round =>
    obtain ⟨F, g, cv, rfl, I⟩ := hrel
    clear I1
    cases F with
    | nil => exact I.hh.elim
    | cons x r =>
      simp only [List.length_cons]
      have hlen := I.len
      have hmade := I.made
      have hlf := I.lefts
      have hgl := (I.st.row.lt g rfl)
      have hcv : r.length + 1 ≤ cv := by obtain ⟨_, _, e, hh⟩ := own_form I.st.row; rw [(Value.slice.inj e).2.2]; exact hh
      have hcvz : (r.length : Int) ≤ (cv : Int) := by omega
      obtain ⟨q0, q1, q2, q3, q4, q5⟩ := top_cells I.st
      cases hxl : x.left with
      | nil =>
        have CT := takeKid_none _ _ x r g cv wr I.st (by omega) hxl
        cases hxh : x.hm with
        | false =>
          have hrh : hasHome r := botH_has (I.hh.resolve_left (fun q => by rw [hxh] at q; simp at q))
          have hix := home_lt hrh
          have e5 : homeIx (x :: r) = homeIx r := by simp [homeIx, hxh]
          rw [e5] at q5
          have hixz : ((homeIx r : Nat) : Int) < (r.length : Int) := by omega
          generalize homeIx r = ix at *
          have HI : Hid _ := I
          have HX : Hid (x.left = [] ∧ x.hm = false) := ⟨hxl, hxh⟩
          rw [hxl] at q3
          clear I hmade hlf hxl hxh e5 hrh
          go_wp2_with (go_at_call 70; refine CT.mono ?_; rintro e w2 ⟨rfl, hb2⟩; clear CT; have k0 := keepC hb2 q0; have k1 := keepC hb2 q1; have k2 := keepC hb2 q2; have k3 := keepC hb2 q3; have k4 := keepC hb2 q4; have k5 := keepC hb2 q5; have hg2 := Nat.lt_of_lt_of_le hgl.2 hb2.size; clear q0 q1 q2 q3 q4 q5)
          have hbF : ∀ o1 o2, Below wr.heap.size wr ((w2.alloc o1).alloc o2) := fun o1 o2 => (hb2.alloc hb2.size o1).alloc (by have := hb2.size; simp; omega) o2
          obtain ⟨D1, D2⟩ := HI.out.drop HX.out.1 HX.out.2 (hbF _ _)
          go_roundg (gk - 1)
          case measure => omega
          case rel => exact ⟨r, g, cv, rfl, D1⟩
        | true =>
          have e5 : homeIx (x :: r) = r.length := by simp [homeIx, hxh]
          rw [e5] at q5
          rw [hxl] at q3
          simp only [List.length_nil] at q3
          have hxS : ∀ k, x.S k → w.heap.size + 1 + 1 ≤ k ∧ k < wr.heap.size := fun k hk => (I.st.fr x (by simp)).lt k hk
          have hwfx := (I.st.fr x (by simp)).wf
          have CC : ∀ W', Below wr.heap.size wr W' → Calls Tryz.prog 71 #[.agg #[.int .i64 x.t.f, .int .i64 x.t.v, .slice x.a x.t.kids.length x.c, .slice x.al 0 x.cl, .slice x.am x.L.length x.cm, .int .i64 (r.length : Nat)], .slice sa ss.length sc] W' fun e w' => ∃ T : TermD, T = closeT (blindAt ss) x.t.f x.t.v (x.L.map FE.t) ∧ e = .returned (.agg #[.int .i64 T.f, .int .i64 T.v, .slice x.am T.kids.length T.kids.length]) ∧ OwnS w' x.S x.am T.kids ∧ Stay (fun k => k < W'.heap.size ∧ ¬ x.S k) W' w' := fun W' hb => by
            have := closed_any sa ss sc _ _ r.length x W' (HS.out W' (I.nb.be.trans (hb.mono I.nb.be.size))) ((I.st.on hb).fr x (by simp)) (by have := hmade x (by simp); omega)
            rw [hxl] at this
            exact this
          have CN : ∀ W' w4, Below wr.heap.size wr W' → Stay (fun k => k < W'.heap.size ∧ ¬ x.S k) W' w4 → NB w w4 := fun W' w4 hb hs => (I.nb.on hb).stay (hs.weak (fun k hk hk2 => ⟨hk, fun q => by have := hxS k q; omega⟩))
          cases r with
          | nil =>
            have hfin := I.fin
            rw [List.map_cons, List.map_nil, fin_end (show x.d.left = [] from hxl) (show x.d.home = true from hxh)] at hfin
            have HF : Hid (closeT (blindAt ss) x.t.f x.t.v (x.L.map FE.t) = normT (blindAt ss) t) := hfin
            have HX : Hid (∀ k, x.S k → w.heap.size + 1 + 1 ≤ k ∧ k < wr.heap.size) := hxS
            clear I hmade hlf hxl hxh e5 hfin hxS
            simp only [List.length_nil] at *
            go_wp2_with (first
              | (go_at_call 70; refine CT.mono ?_; rintro e w2 ⟨rfl, hb2⟩; clear CT; have k0 := keepC hb2 q0; have k1 := keepC hb2 q1; have k2 := keepC hb2 q2; have k3 := keepC hb2 q3; have k4 := keepC hb2 q4; have k5 := keepC hb2 q5; have hg2 := Nat.lt_of_lt_of_le hgl.2 hb2.size; have hb3 : Below wr.heap.size wr ((w2.alloc (.cells #[.int .i64 0, .int .i64 0, .slice none 0 0] 37)).alloc (.cells #[.int .i64 x.t.f, .int .i64 x.t.v, .slice x.a x.t.kids.length x.c, .slice x.al 0 x.cl, .slice x.am x.L.length x.cm, .int .i64 0] 106)) := ((hb2.alloc hb2.size _).alloc (by have := hb2.size; simp; omega) _); clear q0 q1 q2 q3 q4 q5)
              | (go_at_call 71; refine (CC _ hb3).mono ?_; rintro e w4 ⟨TT, hTT, rfl, ho4, hs4⟩; have HT : Hid (TT = closeT (blindAt ss) x.t.f x.t.v (x.L.map FE.t)) := hTT; clear hTT; have nb4 := CN _ _ hb3 hs4; have d0 := nb4.c0; have d1 := nb4.c1; have d2 := nb4.c2; have df := nb4.cf; have hz4 : w.heap.size + 1 < w4.heap.size := nb4.z; clear k0 k1 k2 k3 k4 k5))
            obtain ⟨z0, z1, z2⟩ := set3_cells (u := w4) (r := w.heap.size + 1) (x := .int .i64 TT.f) (y := .int .i64 TT.v) (z := .slice x.am TT.kids.length TT.kids.length) d0 d1 d2
            have hTn : TT = normT (blindAt ss) t := HT.out.trans HF.out
            have hnS : ∀ j, ¬ x.S (⟨w.heap.size + 1, j, none⟩ : Addr).block := fun j q => by have := (HX.out _ q).1; simp only at this; omega
            have hoF := ((ho4.setCell ⟨w.heap.size + 1, 0, none⟩ (hnS 0) (.int .i64 TT.f)).setCell ⟨w.heap.size + 1, 1, none⟩ (hnS 1) (.int .i64 TT.v)).setCell ⟨w.heap.size + 1, 2, none⟩ (hnS 2) (.slice x.am TT.kids.length TT.kids.length)
            have hbF := ((nb4.be.setCell (p := ⟨w.heap.size + 1, 0, none⟩) (by simp) (.int .i64 TT.f)).setCell (p := ⟨w.heap.size + 1, 1, none⟩) (by simp) (.int .i64 TT.v)).setCell (p := ⟨w.heap.size + 1, 2, none⟩) (by simp) (.slice x.am TT.kids.length TT.kids.length)
            obtain ⟨W5, hW5⟩ : ∃ W5, W5 = ((w4.setCell ⟨w.heap.size + 1, 0, none⟩ (.int .i64 TT.f)).setCell ⟨w.heap.size + 1, 1, none⟩ (.int .i64 TT.v)).setCell ⟨w.heap.size + 1, 2, none⟩ (.slice x.am TT.kids.length TT.kids.length) := ⟨_, rfl⟩
            rw [← hW5] at z0 z1 z2 hoF hbF ⊢
            have hz5 : W5.heap.size = w4.heap.size := by rw [hW5]; simp
            have hb6 : Below W5.heap.size W5 (W5.alloc (.cells #[.int .i64 TT.f, .int .i64 TT.v, .slice x.am TT.kids.length TT.kids.length] 37)) := (Below.refl _ _).alloc (Nat.le_refl _) _
            have y0 := keepC hb6 z0
            have y1 := keepC hb6 z1
            have y2 := keepC hb6 z2
            have hlt : ∀ k, x.S k → w.heap.size ≤ k ∧ k < W5.heap.size := fun k hk => by have := HX.out k hk; have := hb3.size; have := hs4.size; omega
            obtain ⟨e1, e2⟩ := HR.out 0 0
            rw [← hTn] at e1 e2 ⊢
            rw [← e1, ← e2]
            refine bodyPost_ret (v := .agg #[.int .i64 TT.f, .int .i64 TT.v, .slice x.am TT.kids.length TT.kids.length]) (by simp [results, Tryz.results53, go_sem, y0, y1, y2]) rfl ⟨x.am, TT.kids.length, rfl, ?_, Nat.le_refl _, hbF.trans (hb6.mono hbF.size)⟩
            exact (hoF.frame (fun k hk => hb6.block k (hlt k hk).2) hb6.size).mono (fun k hk => ⟨(hlt k hk).1, Nat.lt_of_lt_of_le (hlt k hk).2 hb6.size⟩)
          | cons y r' =>
            have hrh : hasHome (y :: r') := botH_has (botH_rest I.hh (by simp))
            have hdis := (List.pairwise_cons.1 I.st.dis).1
            have hgx := I.st.vb g rfl x (by simp)
            have CP : ∀ W' w4 (TT : TermD), Below wr.heap.size wr W' → OwnS w4 x.S x.am TT.kids → Stay (fun k => k < W'.heap.size ∧ ¬ x.S k) W' w4 → Hid (TT = closeT (blindAt ss) x.t.f x.t.v (x.L.map FE.t)) → ∀ w5, Below w4.heap.size w4 w5 →
                Calls Tryz.prog 72 #[.slice (some ⟨g, 0, none⟩) (r'.length + 1) cv, .agg #[.int .i64 TT.f, .int .i64 TT.v, .slice x.am TT.kids.length TT.kids.length]] w5 fun e w6 => e = .returned (.tuple #[]) ∧ ∃ F', F'.length = r'.length + 1 ∧ NI w (blindAt ss) t (partsT t) (gk - 1) F' g cv w6 ∧ 1 ≤ gk := fun W' w4 TT hb ho hs hT w5 hb5 => by
              have hS := fun k hk => (I.st.fr x (by simp)).lt k hk
              have st1 := (I.st.on hb).pop.keep (S := fun k => k < W'.heap.size ∧ ¬ x.S k) hs (fun k hk => ⟨by have := I.nb.z; have := hb.size; omega, fun q => by have := (hS k q).1; omega⟩) (fun z hz k hk => ⟨(((I.st.on hb).fr z (List.mem_cons_of_mem _ hz)).lt k hk).2, fun q => hdis z hz k q hk⟩) (fun g' hg' => by
                have e0 : g = g' := by simpa [Value.ownBlock] using hg'
                subst e0
                exact ⟨Nat.lt_of_lt_of_le hgl.2 hb.size, hgx⟩)
              have st2 := st1.on hb5
              have nb5 := (CN W' w4 hb hs).on hb5
              have eT : TT.f = x.t.f ∧ TT.v = x.t.v := by rw [hT.out]; exact ⟨rfl, rfl⟩
              have hP := put_any w.heap.size (w.heap.size + 1 + 1) (y :: r') g cv ⟨TT, x.am, TT.kids.length, x.S⟩ w5 st2 hrh (by omega) ⟨ho.frame (fun k hk => hb5.block k (by have := (hS k hk).2; have := hb.size; have := hs.size; omega)) hb5.size, Nat.le_refl _, by rw [eT.1, eT.2]; exact hwfx, fun k hk => ⟨(hS k hk).1, by have := (hS k hk).2; have := hb.size; have := hs.size; have := hb5.size; omega⟩⟩ (fun z hz k hk => hdis z hz k hk) hgx (by
                have h1 := hmade _ (List.mem_cons_of_mem x (home_mem hrh))
                have h2 := partsL_len ((homeFr (y :: r')).L.map FE.t)
                simp at h2
                omega)
              refine hP.mono ?_
              rintro e w6 ⟨g2, c2, rfl, st3, sy3⟩
              obtain ⟨C1, C2⟩ := I.close hxl hxh (by simp) hT.out (e := ⟨TT, x.am, TT.kids.length, x.S⟩) rfl st3 (nb5.stay sy3)
              exact ⟨rfl, _, by rw [putHome_len]; simp, C1, C2⟩
            simp only [List.length_cons] at *
            clear I hmade hlf hxl hxh e5 hxS hdis hgx hrh HR
            go_wp2_with (first
              | (go_at_call 70; refine CT.mono ?_; rintro e w2 ⟨rfl, hb2⟩; clear CT; have k0 := keepC hb2 q0; have k1 := keepC hb2 q1; have k2 := keepC hb2 q2; have k3 := keepC hb2 q3; have k4 := keepC hb2 q4; have k5 := keepC hb2 q5; have hg2 := Nat.lt_of_lt_of_le hgl.2 hb2.size; have hb3 : Below wr.heap.size wr ((w2.alloc (.cells #[.int .i64 0, .int .i64 0, .slice none 0 0] 37)).alloc (.cells #[.int .i64 x.t.f, .int .i64 x.t.v, .slice x.a x.t.kids.length x.c, .slice x.al 0 x.cl, .slice x.am x.L.length x.cm, .int .i64 ((r'.length + 1 : Nat) : Int)] 106)) := ((hb2.alloc hb2.size _).alloc (by have := hb2.size; simp; omega) _); clear q0 q1 q2 q3 q4 q5)
              | (go_at_call 71; refine (CC _ hb3).mono ?_; rintro e w4 ⟨TT, hTT, rfl, ho4, hs4⟩; have HT : Hid (TT = closeT (blindAt ss) x.t.f x.t.v (x.L.map FE.t)) := hTT; clear hTT; have nb4 := CN _ _ hb3 hs4; have P5 := CP _ _ TT hb3 ho4 hs4 HT; clear k0 k1 k2 k3 k4 k5)
              | (go_at_call 72; refine (P5 _ ((Below.refl _ _).alloc (Nat.le_refl _) _)).mono ?_; rintro e w6 ⟨rfl, F', hF', J, hgk⟩))
            go_roundg (gk - 1)
            case measure => omega
            case rel => exact ⟨F', g, cv, by rw [hF'], J⟩
      | cons k ks =>
        have CT := takeKid_some _ _ x r g cv k ks wr I.st (by omega) hxl (by rw [hxl] at hlf; simp at hlf; omega)
        have CO : ∀ (ak : Option Addr) (ck : Nat) (al : Option Addr) (cl : Nat) w2, NSt w.heap.size (w.heap.size + 1 + 1) ({ x with left := ks, al := al, cl := cl } :: r) (.slice (some ⟨g, 0, none⟩) (r.length + 1) cv) w2 → RdK w2 w.heap.size ak k.kids → k.kids.length ≤ ck → (isW k.f ∧ isW k.v) → Stay (fun k => k < w.heap.size + 1 + 1) wr w2 → ∀ w3, Below w2.heap.size w2 w3 →
            Calls Tryz.prog 69 #[.slice (some ⟨g, 0, none⟩) (r.length + 1) cv, .slice sa ss.length sc, .agg #[.int .i64 k.f, .int .i64 k.v, .slice ak k.kids.length ck]] w3 fun e w4 => ∃ g' cv', e = .returned (.slice (some ⟨g', 0, none⟩) (r.length + 1 + 1) cv') ∧ ∃ F', F'.length = r.length + 1 + 1 ∧ NI w (blindAt ss) t (partsT t) (gk - 1) F' g' cv' w4 ∧ 1 ≤ gk := fun ak ck al cl w2 st hrk hck hwk hsy w3 hb3 => by
          have nb3 := (I.nb.stay hsy).on hb3
          refine (opened_any sa ss sc w.heap.size (w.heap.size + 1 + 1) ({ x with left := ks, al := al, cl := cl } :: r) (some ⟨g, 0, none⟩) cv k ak ck w3 (HS.out w3 nb3.be) (st.on hb3) (by simp; omega) (hrk.on (hb3.mono (by have := (I.nb.stay hsy).z; omega))) hck hwk).mono ?_
          rintro e w4 ⟨g', cv', rfl, st4, sy4⟩
          obtain ⟨C1, C2⟩ := I.opn hxl st4 (nb3.stay sy4)
          exact ⟨g', cv', rfl, _, by simp, C1, C2⟩
        clear I hmade hlf hxl q0 q1 q2 q3 q4 q5 HR
        go_wp2_with (first
          | (go_at_call 70; refine CT.mono ?_; rintro e w2 ⟨ak, ck, al, cl, rfl, st2, hrk2, hck2, hwk2, hsy2⟩; clear CT; have CO2 := CO ak ck al cl w2 st2 hrk2 hck2 hwk2 hsy2; clear CO st2 hrk2 hwk2 hsy2)
          | (go_at_call 69; refine (CO2 _ ((Below.refl _ _).alloc (Nat.le_refl _) _)).mono ?_; rintro e w4 ⟨g', cv', rfl, F', hF', J, hgk⟩))
        go_roundg (gk - 1)
        case measure => omega
        case rel => exact ⟨F', g', cv', by rw [hF'], J⟩
end Go.Proofs.YthbilahilmmfmabGreat

/- The one result of a function, where it lies in a cell. Conditions: none. -/
namespace Go.Proofs.YthbilahilmmfmabGreat
set_option maxRecDepth 100000
open Go.RowKit

theorem results_cell1 {fn : Func} {p : Tmp} {ty : TypeId} (h : fn.results = #[.cell p ty]) (tmps : Array Value) (P : Program) (w : World) :
    (results fn tmps).run P w = ((asAddr (tmps.getD p undef)).run P w).andThen fun a w₁ => (loadVar ty a).run P w₁ := by
  simp only [results, h]
  simp [Sem.run_bind, Result.andThen]
theorem load_bool {w : World} {p : Addr} {b : Bool} (h : w.cell? p = some (.bool b)) : (loadVar 4 p).run Tryz.prog w = .ok (.bool b) w := by
  simp [loadVar, go_sem, h]
theorem results_bool {fn : Func} {p : Tmp} (h : fn.results = #[.cell p 4]) {tmps : Array Value} {w : World} {a : Addr} (ha : tmps.getD p undef = .pointer (some a)) {b : Bool} (hc : w.cell? a = some (.bool b)) :
    (results fn tmps).run Tryz.prog w = .ok (.bool b) w := by
  rw [results_cell1 h, ha]
  simp [go_sem, hc, Result.andThen]
end Go.Proofs.YthbilahilmmfmabGreat

/- The program's copy of a term: one form where no function is blind is the term itself. Conditions: terms of at most 549755813888 parts. -/
namespace Go.Proofs.YthbilahilmmfmabGreat
set_option maxRecDepth 100000
open Go.RowKit

mutual
theorem normT_id (bl : Int → Bool) (h : ∀ f, bl f = false) : ∀ t, normT bl t = t
  | .mk f v ks => by rw [normT, normL_id bl h f ks []]; simp
theorem normL_id (bl : Int → Bool) (h : ∀ f, bl f = false) (f : Int) : ∀ ks out, normL bl f ks out = out ++ ks
  | [], out => by simp [normL]
  | k :: ks, out => by rw [normL, normT_id bl h k, stepN, h f, if_pos rfl, normL_id bl h f ks]; simp
end
theorem blindAt_none : ∀ f, blindAt [] f = false := by intro f; unfold blindAt; split <;> simp

theorem copyTerm_any (t : TermD) (a : Option Addr) (c hi : Nat) (w : World) (hp : partsT t ≤ 549755813888) (hr : RdK w hi a t.kids) (hhi : hi ≤ w.heap.size) (hc : t.kids.length ≤ c) (hwf : isW t.f ∧ isW t.v) :
    Calls Tryz.prog 51 #[.agg #[.int .i64 t.f, .int .i64 t.v, .slice a t.kids.length c]] w fun e w' => ∃ a' c', e = .returned (.agg #[.int .i64 t.f, .int .i64 t.v, .slice a' t.kids.length c']) ∧ OwnS w' (fun k => w.heap.size ≤ k ∧ k < w'.heap.size) a' t.kids ∧ t.kids.length ≤ c' ∧ Below w.heap.size w w' := by
  obtain ⟨W, hW⟩ : ∃ W, W = (w.alloc (.cells #[.int .i64 t.f, .int .i64 t.v, .slice a t.kids.length c] 37)).alloc (.cells #[.int .i64 0, .int .i64 0, .slice none 0 0] 37) := ⟨_, rfl⟩
  have hb0 : Below w.heap.size w W := by rw [hW]; exact ((Below.refl _ _).alloc (Nat.le_refl _) _).alloc (by simp) _
  have hz0 : W.heap.size = w.heap.size + 1 + 1 := by rw [hW]; simp
  have nb0 : NB w W := ⟨hb0, by rw [hW]; simp [go_sem], by rw [hW]; simp [go_sem], by rw [hW]; simp [go_sem], fun j => by rw [hW]; simp [go_sem], by omega⟩
  have C := impNorm_any none [] 0 t a c hi W (by simp [RdS]) hp (hr.on (hb0.mono hhi)) (Nat.le_trans hhi hb0.size) hc hwf
  rw [normT_id _ blindAt_none t] at C
  simp only [List.length_nil] at C
  clear hp hr hhi hc
  go_enter Tryz.func51, Tryz.ntmps51
  go_wp2_with (go_at_call 53; rw [← hW]; refine C.mono ?_; rintro e w4 ⟨a', c', rfl, ho4, hc4, hb4⟩; have nb4 := nb0.on hb4; have d0 := nb4.c0; have d1 := nb4.c1; have d2 := nb4.c2; have df := nb4.cf; have hz4 : w.heap.size + 1 < w4.heap.size := nb4.z; clear C hW)
  obtain ⟨z0, z1, z2⟩ := set3_cells (u := w4) (r := w.heap.size + 1) (x := .int .i64 t.f) (y := .int .i64 t.v) (z := .slice a' t.kids.length c') d0 d1 d2
  have hnS : ∀ j, ¬ (W.heap.size ≤ (⟨w.heap.size + 1, j, none⟩ : Addr).block ∧ (⟨w.heap.size + 1, j, none⟩ : Addr).block < w4.heap.size) := fun j q => by have := q.1; simp only at this; omega
  have hoF := ((ho4.setCell ⟨w.heap.size + 1, 0, none⟩ (hnS 0) (.int .i64 t.f)).setCell ⟨w.heap.size + 1, 1, none⟩ (hnS 1) (.int .i64 t.v)).setCell ⟨w.heap.size + 1, 2, none⟩ (hnS 2) (.slice a' t.kids.length c')
  have hbF := ((nb4.be.setCell (p := ⟨w.heap.size + 1, 0, none⟩) (by simp) (.int .i64 t.f)).setCell (p := ⟨w.heap.size + 1, 1, none⟩) (by simp) (.int .i64 t.v)).setCell (p := ⟨w.heap.size + 1, 2, none⟩) (by simp) (.slice a' t.kids.length c')
  refine bodyPost_ret (v := .agg #[.int .i64 t.f, .int .i64 t.v, .slice a' t.kids.length c']) (by simp [results, Tryz.results51, go_sem, z0, z1, z2]) rfl ⟨a', c', rfl, hoF.mono (fun k hk => ⟨by omega, by simpa using hk.2⟩), hc4, hbF⟩
end Go.Proofs.YthbilahilmmfmabGreat

/- The specification's l4Put at an empty list. Conditions: none. -/
namespace Go.Proofs.YthbilahilmmfmabGreat
set_option maxRecDepth 100000
open Go.RowKit

set_option maxHeartbeats 1600000 in
set_option maxRecDepth 100000 in
theorem l4Put_nil (e : FE) (w : World) :
    Calls Tryz.prog 45 #[.slice none 0 0, .agg #[.int .i64 e.t.f, .int .i64 e.t.v, .slice e.a e.t.kids.length e.c]] w fun en w' => ∃ g' c', en = .returned (.slice (some ⟨g', 0, none⟩) (0 + 1) c') ∧ w'.ownsRow w.heap.size 37 3 (.slice (some ⟨g', 0, none⟩) (0 + 1) c') (0 + 1) (cs3 ((putF e []).map FE.cells)) ∧ Below w.heap.size w w' := by
  obtain ⟨i0, hi0, hz0, hz1, hz2⟩ := info_parts info29
  have hs1 := slice_to none 0 0 0 (Nat.le_refl _)
  have hs2 := sliceAt_to none 0 0 0 (Nat.le_refl _)
  go_enter Tryz.func45, Tryz.ntmps45
  go_wp2_with fail
  refine wp_loop_rounds 1 ?_
  rw [rounds_succ]
  go_wp2_with fail
  go_quiet ((fail))
  have hb0 : Below w.heap.size w ((w.alloc (.cells #[.int .i64 e.t.f, .int .i64 e.t.v, .slice e.a e.t.kids.length e.c] 37)).drewN nq) := below_drewN ((Below.refl w.heap.size w).alloc (Nat.le_refl _) _) nq
  have c0 : ((w.alloc (.cells #[.int .i64 e.t.f, .int .i64 e.t.v, .slice e.a e.t.kids.length e.c] 37)).drewN nq).cell? ⟨w.heap.size, 0, none⟩ = some (.int .i64 e.t.f) := keepC (below_drewN (Below.refl _ _) nq) (by simp [go_sem])
  have c1 : ((w.alloc (.cells #[.int .i64 e.t.f, .int .i64 e.t.v, .slice e.a e.t.kids.length e.c] 37)).drewN nq).cell? ⟨w.heap.size, 1, none⟩ = some (.int .i64 e.t.v) := keepC (below_drewN (Below.refl _ _) nq) (by simp [go_sem])
  have c2 : ((w.alloc (.cells #[.int .i64 e.t.f, .int .i64 e.t.v, .slice e.a e.t.kids.length e.c] 37)).drewN nq).cell? ⟨w.heap.size, 2, none⟩ = some (.slice e.a e.t.kids.length e.c) := keepC (below_drewN (Below.refl _ _) nq) (by simp [go_sem])
  generalize (w.alloc (.cells #[.int .i64 e.t.f, .int .i64 e.t.v, .slice e.a e.t.kids.length e.c] 37)).drewN nq = W at *
  have hz := hb0.size
  have hW : w.heap.size < W.heap.size := World.block_lt_of_cell? _ _ c0
  go_wp2_with (at_builtin; (refine wpList_append_own _ rfl (.tmp 27) (.tmp 29) 35 rfl w.heap.size 37 i0 _ 3 40 Tryz.underlying35 hi0 hz0 hz1 hz2 rfl (by decide) _ 0 [] rfl ((World.ownsRow_made W #[] 0 hb0.size (Nat.zero_le _) rfl).alloc _) ⟨W.heap.size + 1, 0, none⟩ 1 1 _ rfl rfl (three_new _ _ _ _ _ _ (by simp)) (three_cell _ _ _ _ _) (by unfold maxLen; omega) (by omega) (by simp; omega) ?_; intro v3 w3 hown3 hgrow3 hnil3; obtain ⟨g3, c3', rfl⟩ := own_any hown3 hnil3; have hg3 : ((W.alloc (.cells #[] 37)).alloc (.cells #[.int .i64 e.t.f, .int .i64 e.t.v, .slice e.a e.t.kids.length e.c] 37)).grownBy w3 (some W.heap.size) := hgrow3; have hB3 : Below w.heap.size w w3 := (((hb0.alloc hb0.size _).alloc (by simp; omega) _).grown hg3 (by simp; omega) (fun kk ee => by cases ee; omega)); have hc3 : 1 ≤ c3' := (by obtain ⟨_, _, h, hh⟩ := own_form hown3; cases h; omega); clear hnil3 hgrow3 hg3 c0 c1 c2))
  go_ret
  exact ⟨g3, c3', rfl, by simpa [putF, putK, cs3, FE.cells] using hown3, hB3⟩

theorem l4Put_any (base : Nat) (av : Option Addr) (cv : Nat) (L : List FE) (e : FE) (hi : Nat) (w : World) (hrow : w.ownsRow base 37 3 (.slice av L.length cv) L.length (cs3 (L.map FE.cells))) (hk : ∀ i, (h : i < L.length) → RdK w hi L[i].a L[i].t.kids) (he : RdK w hi e.a e.t.kids) (hhi : hi ≤ w.heap.size) (hp : partsT e.t ≤ 549755813888) (hl : L.length ≤ 549755813888) :
    Calls Tryz.prog 45 #[.slice av L.length cv, .agg #[.int .i64 e.t.f, .int .i64 e.t.v, .slice e.a e.t.kids.length e.c]] w fun en w' => ∃ g' c', en = .returned (.slice (some ⟨g', 0, none⟩) (L.length + 1) c') ∧ w'.ownsRow w.heap.size 37 3 (.slice (some ⟨g', 0, none⟩) (L.length + 1) c') (L.length + 1) (cs3 ((putF e L).map FE.cells)) ∧ Below w.heap.size w w' := by
  rcases hrow.2 with ⟨hv, h0⟩ | ⟨g, cap, cur, hv, _⟩
  · have hz : L = [] := List.length_eq_zero_iff.1 h0
    subst hz
    obtain ⟨rfl, rfl⟩ : av = none ∧ cv = 0 := by simpa using hv
    exact l4Put_nil e w
  · cases hv
    exact l4Put_some base g _ L e hi w hrow hk he hhi hp hl
end Go.Proofs.YthbilahilmmfmabGreat

/- Whether a function is blind, as the specification tells it. Conditions: at most 1048577 functions. -/
namespace Go.Proofs.YthbilahilmmfmabGreat
set_option maxRecDepth 100000
open Go.RowKit

set_option maxHeartbeats 800000 in
theorem specBlind_any (a : Option Addr) (ss : List SymD) (n cap : Nat) (f : Int) (w : World) (hn : n = ss.length) (hr : RdS w a ss) (hl : ss.length ≤ 1048577) (hf0 : -9223372036854775808 ≤ f) (hf1 : f ≤ 9223372036854775807) :
    Calls Tryz.prog 44 #[.slice a n cap, .int .i64 f] w fun e w' => e = .returned (.bool (blindAt ss f)) ∧ w' = w := by
  subst hn
  by_cases h0 : 0 ≤ f
  · by_cases h1 : f ≤ (ss.length : Int) - 1
    · obtain ⟨k, rfl⟩ := Int.eq_ofNat_of_zero_le h0
      have hk : k < ss.length := by omega
      rcases hr with rfl | ⟨b, off, rfl, hlt, hc⟩
      · simp at hk
      · obtain ⟨c0, c1, c2⟩ := hc k hk
        have hk2 : (k : Int) < (ss.length : Int) := by omega
        clear hc
        go_enter Tryz.func44, Tryz.ntmps44
        go_wp2_with go_in
        go_ret
        exact ⟨ret_bool (blindAt_in hk).symm, rfl⟩
    · have HN : Hid (blindAt ss f = false ∧ arityAt ss f = -1) := at_out (.inr (by omega))
      go_enter Tryz.func44, Tryz.ntmps44
      go_wp2_with go_in
      go_ret
      exact ⟨ret_bool HN.out.1.symm, rfl⟩
  · have HN : Hid (blindAt ss f = false ∧ arityAt ss f = -1) := at_out (.inl (by omega))
    go_enter Tryz.func44, Tryz.ntmps44
    go_wp2_with go_in
    go_ret
    exact ⟨ret_bool HN.out.1.symm, rfl⟩

end Go.Proofs.YthbilahilmmfmabGreat

/- What lies in memory while the specification makes one form of a term. Conditions: none. -/
namespace Go.Proofs.YthbilahilmmfmabGreat
set_option maxRecDepth 100000
open Go.RowKit

/-- The call's own three boxes: the term, the answer's place, what is made. -/
structure NC (w : World) (t : TermD) (a : Option Addr) (c : Nat) (vo : Value) (wr : World) : Prop where
  p0 : wr.cell? ⟨w.heap.size, 0, none⟩ = some (.int .i64 t.f)
  p2 : wr.cell? ⟨w.heap.size, 2, none⟩ = some (.slice a t.kids.length c)
  r0 : wr.cell? ⟨w.heap.size + 1, 0, none⟩ = some (.int .i64 0)
  r1 : wr.cell? ⟨w.heap.size + 1, 1, none⟩ = some (.int .i64 0)
  r2 : wr.cell? ⟨w.heap.size + 1, 2, none⟩ = some (.slice none 0 0)
  q0 : wr.cell? ⟨w.heap.size + 1 + 1, 0, none⟩ = some (.int .i64 t.f)
  q1 : wr.cell? ⟨w.heap.size + 1 + 1, 1, none⟩ = some (.int .i64 t.v)
  q2 : wr.cell? ⟨w.heap.size + 1 + 1, 2, none⟩ = some vo
  fr : ∀ j, wr.frozen? ⟨w.heap.size + 1, j, none⟩ = false
  fq : ∀ j, wr.frozen? ⟨w.heap.size + 1 + 1, j, none⟩ = false
  bel : Below w.heap.size w wr
  z : w.heap.size + 1 + 1 < wr.heap.size

namespace NC
variable {w : World} {t : TermD} {a : Option Addr} {c : Nat} {vo : Value} {wr wr' : World}
theorem stay (h : NC w t a c vo wr) (hs : Stay (fun k => k < w.heap.size + 1 + 1 + 1) wr wr') : NC w t a c vo wr' := by
  have hz := h.z
  exact ⟨hs.cell h.p0 (by simp only; omega), hs.cell h.p2 (by simp only; omega), hs.cell h.r0 (by simp only; omega), hs.cell h.r1 (by simp only; omega), hs.cell h.r2 (by simp only; omega), hs.cell h.q0 (by simp only; omega), hs.cell h.q1 (by simp only; omega), hs.cell h.q2 (by simp only; omega), fun j => (hs.frozen (p := ⟨w.heap.size + 1, j, none⟩) (by simp only; omega) (by simp only; omega)).trans (h.fr j), fun j => (hs.frozen (p := ⟨w.heap.size + 1 + 1, j, none⟩) (by simp only; omega) (by simp only; omega)).trans (h.fq j), h.bel.trans (hs.below h.bel.size (fun k hk => by omega)), Nat.lt_of_lt_of_le hz hs.size⟩
theorem on (h : NC w t a c vo wr) (hb : Below wr.heap.size wr wr') : NC w t a c vo wr' := h.stay (.of_below hb (fun _ hk _ => hk))
theorem set (h : NC w t a c vo wr) (vo' : Value) : NC w t a c vo' (wr.setCell ⟨w.heap.size + 1 + 1, 2, none⟩ vo') := by
  have e : ∀ b j, b ≠ w.heap.size + 1 + 1 → (wr.setCell ⟨w.heap.size + 1 + 1, 2, none⟩ vo').cell? ⟨b, j, none⟩ = wr.cell? ⟨b, j, none⟩ := fun b j hb => World.cell?_of_block (Below.heap_setCell _ _ _ _ hb)
  refine ⟨(e _ _ (by omega)).trans h.p0, (e _ _ (by omega)).trans h.p2, (e _ _ (by omega)).trans h.r0, (e _ _ (by omega)).trans h.r1, (e _ _ (by omega)).trans h.r2, ?_, ?_, World.cell?_setCell_same' _ _ _ (by rw [h.q2]; rfl), fun j => by rw [World.frozen?_setCell]; exact h.fr j, fun j => by rw [World.frozen?_setCell]; exact h.fq j, h.bel.setCell (p := ⟨w.heap.size + 1 + 1, 2, none⟩) (by simp only; omega) _, by simpa using h.z⟩
  · rw [World.cell?_setCell_other _ _ _ _ (by simp)]; exact h.q0
  · rw [World.cell?_setCell_other _ _ _ _ (by simp)]; exact h.q1
end NC

theorem own_lower' {w : World} {base base' : Nat} {e : TypeId} {size : Nat} {v : Value} {n : Nat} {xs : List Value} (h : w.ownsRow base e size v n xs) (hb : base' ≤ base) : w.ownsRow base' e size v n xs := by
  obtain ⟨h1, h2⟩ := h
  refine ⟨h1, ?_⟩
  rcases h2 with h2 | ⟨g, cap, cur, rfl, hg1, r⟩
  · exact .inl h2
  · exact .inr ⟨g, cap, cur, rfl, Nat.le_trans hb hg1, r⟩

/-- The row that is made, and whose terms it holds (those of M lie apart, too). -/
structure NR (B : Nat) (L M : List FE) (av : Option Addr) (cv : Nat) (wr : World) : Prop where
  row : wr.ownsRow B 37 3 (.slice av L.length cv) L.length (cs3 (L.map FE.cells))
  fo : Forest wr B (L ++ M)
  ap : ∀ g, (Value.slice av L.length cv).ownBlock = some g → ∀ e ∈ L ++ M, ¬ e.K g

namespace NR
variable {B : Nat} {L M : List FE} {av : Option Addr} {cv : Nat} {wr wr' : World}
theorem on (h : NR B L M av cv wr) (hb : Below wr.heap.size wr wr') : NR B L M av cv wr' := ⟨own_on h.row hb, h.fo.on hb, h.ap⟩
theorem set (h : NR B L M av cv wr) {p : Addr} (u : Value) (hp : p.block < B) : NR B L M av cv (wr.setCell p u) := by
  refine ⟨own_stay h.row (Stay.setCell (S := fun k => k ≠ p.block) _ _ (by simp)) (fun g hg => ?_), h.fo.setCell p u (fun e he hx => by have := ((h.fo.own e he).2.2.2 _ hx).1; omega), h.ap⟩
  have := (h.row.lt g hg).1
  show g ≠ p.block
  omega
theorem rd (h : NR B L M av cv wr) : ∀ i, (hi : i < L.length) → RdK wr wr.heap.size L[i].a L[i].t.kids := fun _ hi => (h.fo.own _ (List.mem_append_left _ (List.getElem_mem hi))).1.rd
/-- Into a new row, by its order. -/
theorem put {e : FE} {g c : Nat} (h : NR B L (e :: M) av cv wr) (hB : B ≤ wr.heap.size) (hb : Below wr.heap.size wr wr') (hrow : wr'.ownsRow wr.heap.size 37 3 (.slice (some ⟨g, 0, none⟩) (L.length + 1) c) (L.length + 1) (cs3 ((putF e L).map FE.cells))) :
    NR B (putF e L) M (some ⟨g, 0, none⟩) c wr' := by
  have hp : (putF e L ++ M).Perm (L ++ e :: M) := ((putF_perm e L).append_right M).trans (by simpa using (List.perm_middle (a := e) (l₁ := L) (l₂ := M)).symm)
  have hlt := hrow.lt g rfl
  refine ⟨by rw [putF_len]; exact own_lower' hrow hB, (h.fo.on hb).perm hp, fun g' hg' d hd => ?_⟩
  have e0 : g = g' := by simpa [Value.ownBlock] using hg'
  subst e0
  intro hx
  have := ((h.fo.own d (hp.subset hd)).2.2.2 _ hx).2
  omega
/-- At the row's end. -/
theorem app {e : FE} {v : Value} (h : NR B L (e :: M) av cv wr) (hg : wr.grownBy wr' (Value.slice av L.length cv).ownBlock) (hrow : wr'.ownsRow B 37 3 v (L.length + 1) (cs3 (L.map FE.cells) ++ [.int .i64 e.t.f, .int .i64 e.t.v, .slice e.a e.t.kids.length e.c])) (hat : v.ownBlock = (Value.slice av L.length cv).ownBlock ∨ v.ownBlock = some wr.heap.size) :
    ∃ g c, v = .slice (some ⟨g, 0, none⟩) (L.length + 1) c ∧ NR B (L ++ [e]) M (some ⟨g, 0, none⟩) c wr' := by
  obtain ⟨g, c, rfl, _⟩ := own_slot hrow
  have hf : Forest wr' B (L ++ e :: M) := by
    refine ⟨fun d hd => ?_, h.fo.dis⟩
    obtain ⟨h1, h2, h3, h4⟩ := h.fo.own d hd
    exact ⟨h1.frame (fun x hx => hg.block x (h4 x hx).2 (fun e => h.ap x e.symm d hd hx)) hg.size, h2, h3, fun x hx => ⟨(h4 x hx).1, Nat.lt_of_lt_of_le (h4 x hx).2 hg.size⟩⟩
  refine ⟨g, c, rfl, ?_, ?_, fun g' hg' d hd hx => ?_⟩
  · have e1 : cs3 ((L ++ [e]).map FE.cells) = cs3 (L.map FE.cells) ++ [.int .i64 e.t.f, .int .i64 e.t.v, .slice e.a e.t.kids.length e.c] := by simp [cs3, FE.cells]
    rw [e1, List.length_append]; exact hrow
  · simpa using hf
  · have e0 : g = g' := by simpa [Value.ownBlock] using hg'
    subst e0
    have hd' : d ∈ L ++ e :: M := by simpa using hd
    rcases hat with q | q
    · exact h.ap g q.symm d hd' hx
    · have : g = wr.heap.size := by simpa [Value.ownBlock] using q
      have := ((h.fo.own d hd').2.2.2 _ hx).2
      omega
end NR
end Go.Proofs.YthbilahilmmfmabGreat

/- The specification's Norm: it makes one form of a term, in memory of its own. Conditions: terms of at most 549755813888 parts, at most 1048577 functions. -/
namespace Go.Proofs.YthbilahilmmfmabGreat
set_option maxRecDepth 100000
open Go.RowKit

theorem fe_snoc (L : List FE) (e : FE) : (L ++ [e]).map FE.t = L.map FE.t ++ [e.t] := by simp

/-- A term that a call has just made is a forest of one. -/
theorem fe_one {w : World} {t : TermD} {a : Option Addr} {c n B : Nat} (h : OwnR w (fun x => n ≤ x ∧ x < w.heap.size) a c t.kids) (hc : t.kids.length ≤ c) (hf : isW t.f) (hv : isW t.v) (hB : B ≤ n) : Forest w B [⟨t, a, c, fun x => n ≤ x ∧ x < w.heap.size⟩] :=
  ⟨fun e he => by simp only [List.mem_singleton] at he; subst he; exact ⟨h, hc, ⟨hf, hv⟩, fun x hx => ⟨by omega, hx.2⟩⟩, by simp⟩

theorem NR.start (w : World) (B : Nat) : NR B [] [] none 0 w := ⟨World.ownsRow_nil w B 37 3, .nil _ _, fun g hg => by cases hg⟩
theorem NR.join {B : Nat} {L : List FE} {av : Option Addr} {cv : Nat} {wr w1 : World} (h : NR B L [] av cv wr) (hb : Below wr.heap.size wr w1) {M : List FE} (hm : Forest w1 B M) (hM : ∀ e ∈ M, ∀ x, e.K x → wr.heap.size ≤ x) : NR B L M av cv w1 := by
  have h1 := h.on hb
  refine ⟨h1.row, (by simpa using h1.fo : Forest w1 B L).append hm (fun e he d hd x hx hy => ?_), fun g hg d hd hx => ?_⟩
  · have := ((h.fo.own e (by simpa using he)).2.2.2 x hx).2
    have := hM d hd x hy
    omega
  · rcases List.mem_append.1 hd with hd | hd
    · exact h.ap g hg d (by simpa using hd) hx
    · have := (h.row.lt g hg).2
      have := hM d hd g hx
      omega

set_option maxHeartbeats 6400000 in
set_option maxRecDepth 100000 in
theorem specNorm_any (ss : List SymD) (sa : Option Addr) (sc : Nat) (hsl : ss.length ≤ 1048577) (N : Nat) : ∀ (t : TermD) (a : Option Addr) (c hi : Nat) (w : World), partsT t ≤ N → N ≤ 549755813888 → RdK w hi a t.kids → hi ≤ w.heap.size → isW t.f → isW t.v → RdS w sa ss →
    Calls Tryz.prog 33 #[.slice sa ss.length sc, .agg #[.int .i64 t.f, .int .i64 t.v, .slice a t.kids.length c]] w fun e w' => ∃ a' c', e = .returned (.agg #[.int .i64 t.f, .int .i64 t.v, .slice a' (normT (blindAt ss) t).kids.length c']) ∧ OwnR w' (fun x => w.heap.size ≤ x ∧ x < w'.heap.size) a' c' (normT (blindAt ss) t).kids ∧ (normT (blindAt ss) t).kids.length ≤ c' ∧ Below w.heap.size w w' := by
  induction N with
  | zero => intro t a c hi w h; rw [partsT_eq] at h; omega
  | succ N ih =>
    intro t a c hi w hN hM hr hhi hfw hvw hrs
    rw [partsT_eq] at hN
    obtain ⟨i0, hi0, hz0, hz1, hz2⟩ := info_parts info29
    have hKk : (normT (blindAt ss) t).kids = normL (blindAt ss) t.f t.kids [] := by rw [normT_eq]; rfl
    rw [hKk]
    clear hKk
    have hlen := partsL_len t.kids
    have HR : Hid (RdK w hi a t.kids) := hr
    have HS : Hid (RdS w sa ss) := hrs
    have BL := fun (w' : World) (h : RdS w' sa ss) => specBlind_any sa ss ss.length sc t.f w' rfl h hsl hfw.1 hfw.2
    have HW : Hid (isW t.f ∧ isW t.v) := ⟨hfw, hvw⟩
    clear hr hrs hfw hvw
    have C0 : NC w t a c (.slice none 0 0) (((w.alloc (.cells #[.int .i64 t.f, .int .i64 t.v, .slice a t.kids.length c] 37)).alloc (.cells #[.int .i64 0, .int .i64 0, .slice none 0 0] 37)).alloc (.cells #[.int .i64 t.f, .int .i64 t.v, .slice none 0 0] 37)) := by
      refine ⟨?_, ?_, ?_, ?_, ?_, ?_, ?_, ?_, fun j => ?_, fun j => ?_, (((Below.refl _ _).alloc (Nat.le_refl _) _).alloc (by simp) _).alloc (by simp; omega) _, ?_⟩
      all_goals simp [go_sem]
    go_enter Tryz.func33, Tryz.ntmps33
    go_wp2_with fail
    go_loopw [6] (fun i wr => ∃ (k : Nat) (L : List FE) (av : Option Addr) (cv : Nat), k ≤ t.kids.length ∧ i = .int .i64 k ∧ NC w t a c (.slice av L.length cv) wr ∧ NR (w.heap.size + 1 + 1 + 1) L [] av cv wr ∧ Hid (L.map FE.t = normL (blindAt ss) t.f (t.kids.take k) [])) (fun i _ => t.kids.length - (intOf i).toNat)
    case atStart => exact ⟨0, [], none, 0, Nat.zero_le _, rfl, C0, NR.start _ _, by show _ = _; simp [normL]⟩
    case round =>
      obtain ⟨k, L, av, cv, hk, rfl, C, R, HL⟩ := hrel
      clear C0
      have p0 := C.p0
      have p2 := C.p2
      have hz := C.z
      by_cases hk' : k < t.kids.length
      · obtain ⟨b, off, a', c', rfl, hlt, d0, d1, d2, hkr⟩ := RdK.kid (HR.out.on (C.bel.mono hhi)) hk'
        have hints := HR.out.ints hk'
        have hpg := partsL_get hk'
        have hki : (k : Int) < (t.kids.length : Int) := by omega
        have hki0 : (0 : Int) ≤ (k : Int) := by omega
        have I := ih t.kids[k] a' c' hi wr (by omega) (by omega) hkr (Nat.le_trans hhi C.bel.size) hints.1 hints.2 (HS.out.below C.bel)
        have HLk : Hid (normL (blindAt ss) t.f (t.kids.take (k + 1)) [] = stepN (blindAt ss t.f) t.f (normT (blindAt ss) t.kids[k]) (L.map FE.t)) := by
          show _ = _
          rw [normL_next _ _ hk', HL.out]
        have hLl : L.length ≤ 549755813888 := by
          have h1 := normL_parts (blindAt ss) t.f (t.kids.take k) []
          have h2 := partsL_take t.kids k
          have h3 := partsL_len (L.map FE.t)
          rw [HL.out] at h3
          simp [partsL, HL.out.symm] at h1 h3
          omega
        obtain ⟨K1, hK1⟩ : ∃ K1, K1 = normT (blindAt ss) t.kids[k] := ⟨_, rfl⟩
        have HK1f : Hid (K1.f = t.kids[k].f ∧ K1.v = t.kids[k].v ∧ partsT K1 ≤ 549755813888) := by
          have h1 := normT_parts (blindAt ss) t.kids[k]
          rw [← hK1] at h1
          refine ⟨by rw [hK1, normT_eq]; rfl, by rw [hK1, normT_eq]; rfl, by omega⟩
        rw [← hK1] at I HLk
        have hK1f := HK1f.out.1
        have hK1v := HK1f.out.2.1
        rw [← hK1f] at d0 I
        rw [← hK1v] at d1 I
        have HKp : Hid (partsT K1 ≤ partsT t.kids[k]) := by show _ ≤ _; rw [hK1]; exact normT_parts _ _
        have HIf : Hid (isW K1.f ∧ isW K1.v) := by show isW K1.f ∧ isW K1.v; rw [hK1f, hK1v]; exact hints
        clear hK1 hkr hints hK1f hK1v
        cases hbl : blindAt ss t.f with
        | false =>
          rw [hbl] at BL HLk
          clear hbl
          go_wp2_with (first
            | (go_at_call 33; refine I.mono ?_; rintro e1 w1 ⟨a1, c1, rfl, o1, hle1, hb1⟩; clear I p0 p2 d0 d1 d2; have C1 := C.on hb1; have R1 := R.join hb1 (fe_one o1 hle1 HIf.out.1 HIf.out.2 (Nat.le_of_lt_succ (by omega))) (fun e he x hx => by simp only [List.mem_singleton] at he; subst he; exact hx.1); have C3 := (C1.on ((Below.refl w1.heap.size w1).alloc (Nat.le_refl _) (.cells #[.int .i64 K1.f, .int .i64 K1.v, .slice a1 K1.kids.length c1] 37))).on ((Below.refl _ _).alloc (Nat.le_refl _) (.cells #[.int .i64 K1.f, .int .i64 K1.v, .slice a1 K1.kids.length c1] 37)); have R3 := (R1.on ((Below.refl w1.heap.size w1).alloc (Nat.le_refl _) (.cells #[.int .i64 K1.f, .int .i64 K1.v, .slice a1 K1.kids.length c1] 37))).on ((Below.refl _ _).alloc (Nat.le_refl _) (.cells #[.int .i64 K1.f, .int .i64 K1.v, .slice a1 K1.kids.length c1] 37)); have p0 := C1.p0; have p2 := C1.p2; have q2 := C1.q2; have y0 := C1.z; have y1 : w.heap.size + 1 < w1.heap.size := (by omega); have y2 : w.heap.size < w1.heap.size := (by omega); clear C R R1 hb1 o1 hz)
            | (go_at_call 44; refine (BL _ ?_).mono ?_; exact (HS.out.below (C1.bel.alloc C1.bel.size _)); rintro e2 w2 ⟨rfl, hw⟩; subst w2)
            | (at_builtin; (refine wpList_append_own_at _ rfl (.tmp 51) (.tmp 53) 35 rfl (w.heap.size + 1 + 1 + 1) 37 i0 _ 3 40 Tryz.underlying35 hi0 hz0 hz1 hz2 rfl (by decide) _ L.length _ rfl R3.row ⟨w1.heap.size + 1, 0, none⟩ 1 1 _ rfl rfl (three_new _ _ _ _ _ _ (by simp)) (three_cell _ _ _ _ _) (by unfold maxLen; omega) (by omega) (by simp; omega) ?_; intro v4 w4 hown4 hgrow4 hnil4 hat4; clear hnil4; have hg4 : ((w1.alloc (.cells #[.int .i64 K1.f, .int .i64 K1.v, .slice a1 K1.kids.length c1] 37)).alloc (.cells #[.int .i64 K1.f, .int .i64 K1.v, .slice a1 K1.kids.length c1] 37)).grownBy w4 (Value.slice av L.length cv).ownBlock := hgrow4; have hat5 : v4.ownBlock = (Value.slice av L.length cv).ownBlock ∨ v4.ownBlock = some ((w1.alloc (.cells #[.int .i64 K1.f, .int .i64 K1.v, .slice a1 K1.kids.length c1] 37)).alloc (.cells #[.int .i64 K1.f, .int .i64 K1.v, .slice a1 K1.kids.length c1] 37)).heap.size := hat4; have C4 := C3.stay (.grown hg4 (fun k e hk => by have := (R3.row.lt k e).1; omega)); obtain ⟨g4, c4, rfl, R4⟩ := R3.app hg4 hown4 hat5; have q4 := C4.q2; have f4 := C4.fq 2; clear hgrow4 hat4 hg4 hat5 hown4 C3 R3 p0 p2 q2)))
          refine ⟨⟨k + 1, L ++ [⟨K1, a1, c1, fun x => wr.heap.size ≤ x ∧ x < w1.heap.size⟩], some ⟨g4, 0, none⟩, c4, by omega, by go_num, by simpa using C4.set (.slice (some ⟨g4, 0, none⟩) (L.length + 1) c4), R4.set _ (by simp only; omega), ?_⟩, by simp [intOf]; omega⟩
          show _ = _
          rw [fe_snoc, HLk.out]
          simp [stepN]
        | true =>
          rw [hbl] at BL HLk
          clear hbl
          by_cases hkf : K1.f = t.f
          · have hkf' : (K1.f != t.f) = false := by simp [hkf]
            have HLs : Hid (stepN true t.f K1 (L.map FE.t) = K1.kids.foldl (fun o x => putT x o) (L.map FE.t)) := by show _ = _; simp [stepN, hkf]
            clear hkf
            go_wp2_with (first
              | (go_at_call 33; refine I.mono ?_; rintro e1 w1 ⟨a1, c1, rfl, o1, hle1, hb1⟩; clear I p0 p2 d0 d1 d2; have C1 := C.on hb1; obtain ⟨F, hFt, hFf, hFK, hFc⟩ := OwnR.forest (B := w.heap.size + 1 + 1 + 1) o1 (fun x hx => ⟨by omega, hx.2⟩); have R1 := R.join hb1 hFf (fun e he x hx => (hFK e he x hx).1); have hbk : Below w1.heap.size w1 (w1.alloc (.cells #[.int .i64 K1.f, .int .i64 K1.v, .slice a1 K1.kids.length c1] 37)) := ((Below.refl w1.heap.size w1).alloc (Nat.le_refl _) _); have C3 := C1.on hbk; have R3 := R1.on hbk; have p0 := C1.p0; have p2 := C1.p2; have q2 := C1.q2; have y0 := C1.z; have y1 : w.heap.size + 1 < w1.heap.size := (by omega); have y2 : w.heap.size < w1.heap.size := (by omega); have HFc : Hid _ := hFc; have HFt : Hid _ := hFt; clear C R R1 hb1 o1 hFf hFK hFc hFt)
              | (go_at_call 44; refine (BL _ ?_).mono ?_; exact (HS.out.below (C1.bel.alloc C1.bel.size _)); rintro e2 w2 ⟨rfl, hw⟩; subst w2))
            have HB : Hid (partsL (L.map FE.t) + partsL K1.kids ≤ 549755813888) := by
              show _ ≤ _
              have h1 := normL_parts (blindAt ss) t.f (t.kids.take k) []
              rw [← HL.out] at h1
              have h2 := partsL_next hk'
              have h3 := partsL_take t.kids (k + 1)
              have h4 := HKp.out
              rw [partsT_eq] at h4
              simp only [partsL] at h1
              omega
            obtain ⟨W1, hW1⟩ : ∃ W1, W1 = w1.alloc (.cells #[.int .i64 K1.f, .int .i64 K1.v, .slice a1 K1.kids.length c1] 37) := ⟨_, rfl⟩
            rw [← hW1] at C3 R3 hbk ⊢
            have kb : W1.cell? ⟨w1.heap.size, 2, none⟩ = some (.slice a1 K1.kids.length c1) := by rw [hW1]; simp [go_sem]
            have hFl : F.length = K1.kids.length := by rw [← HFt.out]; simp
            clear hW1 p0 p2 q2
            go_loopw [8] (fun j wj => ∃ (m : Nat) (Lm : List FE) (av : Option Addr) (cv : Nat), m ≤ F.length ∧ j = .int .i64 m ∧ NC w t (some ⟨b, off, none⟩) c (.slice av Lm.length cv) wj ∧ NR (w.heap.size + 1 + 1 + 1) Lm (F.drop m) av cv wj ∧ Hid (Lm.map FE.t = (K1.kids.take m).foldl (fun o x => putT x o) (L.map FE.t)) ∧ Stay (fun k => k ≠ w.heap.size + 1 + 1) W1 wj) (fun j _ => F.length - (intOf j).toNat)
            case atStart => exact ⟨0, L, av, cv, Nat.zero_le _, rfl, C3, by simpa using R3, by show _ = _; simp, .refl _ _⟩
            case round =>
              obtain ⟨m, Lm, av, cv, hm, rfl, C, R, HLm, hst⟩ := hrel
              clear C3 R3
              have q2 := C.q2
              have kb' := hst.cell kb (by simp only; omega)
              have y3 := C.z
              by_cases hm' : m < F.length
              · have hmi : (m : Int) < (K1.kids.length : Int) := by omega
                have hmi0 : (0 : Int) ≤ (m : Int) := by omega
                have hmb : (m : Int) < 549755813888 := by
                  have h1 := partsL_len K1.kids
                  have h2 := HB.out
                  omega
                have hne : K1.kids ≠ [] := fun e => by
                  rw [e] at hFl
                  simp only [List.length_nil] at hFl
                  omega
                obtain ⟨b1, off1, rfl, hSb1, hcl1⟩ := HFc.out.resolve_left hne
                obtain ⟨g0, g1, g2⟩ := hcl1 m hm'
                have hb1n : b1 ≠ w.heap.size + 1 + 1 := by have := hSb1.1; omega
                have g0 := hst.cell (keepC hbk g0) hb1n
                have g1 := hst.cell (keepC hbk g1) hb1n
                have g2 := hst.cell (keepC hbk g2) hb1n
                simp only [FE.cells] at g0 g1 g2
                have hFm : F[m].t = K1.kids[m]'(by omega) := by
                  have : (F.map FE.t)[m]'(by simpa using hm') = K1.kids[m]'(by omega) := by simp only [HFt.out]
                  simpa using this
                have hpm : partsT F[m].t ≤ 549755813888 := by
                  rw [hFm]
                  have := partsL_get (ts := K1.kids) (i := m) (by omega)
                  have := HB.out
                  omega
                have hLm : Lm.length ≤ 549755813888 := by
                  have h1 := foldP_parts (K1.kids.take m) (L.map FE.t)
                  rw [← HLm.out] at h1
                  have h2 := partsL_len (Lm.map FE.t)
                  have h3 := partsL_take K1.kids m
                  have := HB.out
                  simp at h2
                  omega
                have hdrop : F.drop m = F[m] :: F.drop (m + 1) := List.drop_eq_getElem_cons hm'
                rw [hdrop] at R
                have HLn : Hid ((putF F[m] Lm).map FE.t = (K1.kids.take (m + 1)).foldl (fun o x => putT x o) (L.map FE.t)) := by
                  show _ = _
                  rw [List.take_succ_eq_append_getElem (by omega), List.foldl_append, ← HLm.out, putF_t, hFm]; rfl
                have P := fun (w' : World) (h : Below wr.heap.size wr w') => l4Put_any (w.heap.size + 1 + 1 + 1) av cv Lm F[m] w'.heap.size w' ((R.on h).row) ((R.on h).rd) ((R.on h).fo.own F[m] (List.mem_append_right _ (List.mem_cons_self ..))).1.rd (Nat.le_refl _) hpm hLm
                clear hdrop hne hcl1 hFm
                go_wp2_with fail
                go_region_with (go_at_call 45; refine (P _ ?_).mono ?_; exact (Below.refl _ _).drew; rintro e3 w4 ⟨g4, c4, rfl, hown4, hb4⟩; have hbb : Below wr.heap.size wr w4 := (Below.refl _ _).drew.trans hb4; have C4 := C.on hbb; have R4 := (R.on (Below.refl _ _).drew).put (by simp; omega) hb4 hown4; have q4 := C4.q2; have f4 := C4.fq 2; have hst4 := hst.trans (Stay.of_below hbb (fun _ hk _ => hk)); clear hown4 hb4)
                all_goals
                  go_wp2_with fail
                all_goals exact ⟨⟨m + 1, putF F[m] Lm, some ⟨g4, 0, none⟩, c4, by omega, by go_num, by simpa [putF_len] using C4.set (.slice (some ⟨g4, 0, none⟩) (Lm.length + 1) c4), R4.set _ (by simp only; omega), HLn, hst4.trans (Stay.setCell _ _ (by simp))⟩, by simp [intOf]; omega⟩
              · have E : Hid (m = K1.kids.length) := (by omega : m = K1.kids.length)
                have hnm : ¬ (m : Int) < (K1.kids.length : Int) := by omega
                have R' : NR (w.heap.size + 1 + 1 + 1) Lm [] av cv wr := by
                  have : F.drop m = [] := List.drop_of_length_le (by omega)
                  rwa [this] at R
                go_wp2_with fail
                refine ⟨⟨k + 1, Lm, av, cv, by omega, by go_num, C, R', ?_⟩, by simp [intOf]; omega⟩
                show _ = _
                rw [HLm.out, E.out, List.take_length, HLk.out, HLs.out]
          · have hkf' : (K1.f != t.f) = true := by simp [hkf]
            have HLs : Hid (stepN true t.f K1 (L.map FE.t) = putT K1 (L.map FE.t)) := by show _ = _; simp [stepN, hkf]
            clear hkf
            go_wp2_with (first
              | (go_at_call 33; refine I.mono ?_; rintro e1 w1 ⟨a1, c1, rfl, o1, hle1, hb1⟩; clear I p0 p2 d0 d1 d2; have C1 := C.on hb1; have R1 := R.join hb1 (fe_one o1 hle1 HIf.out.1 HIf.out.2 (Nat.le_of_lt_succ (by omega))) (fun e he x hx => by simp only [List.mem_singleton] at he; subst he; exact hx.1); have hbk : Below w1.heap.size w1 (w1.alloc (.cells #[.int .i64 K1.f, .int .i64 K1.v, .slice a1 K1.kids.length c1] 37)) := ((Below.refl w1.heap.size w1).alloc (Nat.le_refl _) _); have C3 := C1.on hbk; have R3 := R1.on hbk; have p0 := C1.p0; have p2 := C1.p2; have q2 := C1.q2; have y0 := C1.z; have y1 : w.heap.size + 1 < w1.heap.size := (by omega); have y2 : w.heap.size < w1.heap.size := (by omega); clear C R R1 hb1 o1 hz hbk)
              | (go_at_call 44; refine (BL _ ?_).mono ?_; exact (HS.out.below (C1.bel.alloc C1.bel.size _)); rintro e2 w2 ⟨rfl, hw⟩; subst w2)
              | (go_at_call 45; (refine (l4Put_any (w.heap.size + 1 + 1 + 1) av cv L ⟨K1, a1, c1, fun x => wr.heap.size ≤ x ∧ x < w1.heap.size⟩ (w1.heap.size + 1) _ R3.row (by simpa using R3.rd) (by simpa using (R3.fo.own ⟨K1, a1, c1, fun x => wr.heap.size ≤ x ∧ x < w1.heap.size⟩ (by simp)).1.rd) (by simp) HK1f.out.2.2 hLl).mono ?_; rintro e3 w4 ⟨g4, c4, rfl, hown4, hb4⟩; have C4 := C3.on hb4; have R4 := R3.put (by simp; omega) hb4 hown4; have q4 := C4.q2; have f4 := C4.fq 2; clear C3 R3 hown4 hb4 p0 p2 q2)))
            refine ⟨⟨k + 1, putF ⟨K1, a1, c1, fun x => wr.heap.size ≤ x ∧ x < w1.heap.size⟩ L, some ⟨g4, 0, none⟩, c4, by omega, by go_num, by simpa [putF_len] using C4.set (.slice (some ⟨g4, 0, none⟩) (L.length + 1) c4), R4.set _ (by simp only; omega), ?_⟩, by simp [intOf]; omega⟩
            show _ = _
            rw [putF_t, HLk.out, HLs.out]
      · have E : Hid (k = t.kids.length) := (by omega : k = t.kids.length)
        have q0 := C.q0
        have q1 := C.q1
        have q2 := C.q2
        have r0 := C.r0
        have r1 := C.r1
        have r2 := C.r2
        have fr := C.fr
        have hL : Hid (L.map FE.t = normL (blindAt ss) t.f t.kids []) := by
          show _ = _
          rw [HL.out, E.out, List.take_length]
        have hlr : L.length ≤ 9223372036854775807 := by
          have h1 := normL_parts (blindAt ss) t.f t.kids []
          have h3 := partsL_len (L.map FE.t)
          rw [hL.out] at h3
          simp [partsL, hL.out.symm] at h1 h3
          omega
        have O : OwnR wr (fun x => w.heap.size + 1 + 1 + 1 ≤ x ∧ x < wr.heap.size) av cv (L.map FE.t) := by
          rcases R.row.2 with ⟨hv, h0⟩ | ⟨g, cap, _, hv, _⟩
          · have : L = [] := List.length_eq_zero_iff.1 h0
            subst this; cases hv; exact .nil _
          · cases hv
            exact (by simpa using R.fo : Forest wr _ L).owns R.row (fun e he => R.ap g rfl e (by simpa using he)) hlr
        have hcl : L.length ≤ cv := by obtain ⟨_, _, h, hh⟩ := own_form R.row; cases h; exact hh
        have hbel := C.bel
        clear C R HL E ih BL
        go_wp2_with fail
        obtain ⟨z0, z1, z2⟩ := set3_cells (u := wr) (r := w.heap.size + 1) (x := .int .i64 t.f) (y := .int .i64 t.v) (z := .slice av L.length cv) r0 r1 r2
        have hn : ¬ (w.heap.size + 1 + 1 + 1 ≤ w.heap.size + 1 ∧ w.heap.size + 1 < wr.heap.size) := by omega
        have O3 := ((O.setCell ⟨w.heap.size + 1, 0, none⟩ hn (.int .i64 t.f)).setCell ⟨w.heap.size + 1, 1, none⟩ hn (.int .i64 t.v)).setCell ⟨w.heap.size + 1, 2, none⟩ hn (.slice av L.length cv)
        rw [← hL.out, List.length_map]
        refine bodyPost_ret (v := .agg #[.int .i64 t.f, .int .i64 t.v, .slice av L.length cv]) (by simp [results, Tryz.results33, go_sem, z0, z1, z2]) rfl ⟨av, cv, rfl, O3.mono (fun x hx => ⟨by omega, by simpa using hx.2⟩), hcl, ?_⟩
        exact ((hbel.setCell (p := ⟨w.heap.size + 1, 0, none⟩) (by simp) _).setCell (p := ⟨w.heap.size + 1, 1, none⟩) (by simp) _).setCell (p := ⟨w.heap.size + 1, 2, none⟩) (by simp) _
end Go.Proofs.YthbilahilmmfmabGreat

/- The specification's copy of a term: it owns new memory. Conditions: terms of at most 549755813888 parts. -/
namespace Go.Proofs.YthbilahilmmfmabGreat
set_option maxRecDepth 100000
open Go.RowKit

/-- Behind the append of a copied Kid: the boxes and the row. -/
theorem cpy_app {w X w1 w5 : World} {t u : TermD} {a a1 av : Option Addr} {c c1 cv m g5 c5 : Nat} {vo : Value} {L : List FE}
    (C1 : NC w t a c vo w1) (R1 : NR (w.heap.size + 1 + 1 + 1) L [⟨u, a1, c1, fun x => m ≤ x ∧ x < w1.heap.size⟩] av cv w1) (hb : Below w1.heap.size w1 X)
    (hO : w5.ownsRow (w.heap.size + 1 + 1 + 1) 37 3 (.slice (some ⟨g5, 0, none⟩) (L.length + 1) c5) (L.length + 1) (cs3 (L.map FE.cells) ++ [.int .i64 u.f, .int .i64 u.v, .slice a1 u.kids.length c1])) (hG : X.grownBy w5 (Value.slice av L.length cv).ownBlock) (hat : (Value.slice (some ⟨g5, 0, none⟩) (L.length + 1) c5).ownBlock = (Value.slice av L.length cv).ownBlock ∨ (Value.slice (some ⟨g5, 0, none⟩) (L.length + 1) c5).ownBlock = some X.heap.size) :
    NC w t a c vo w5 ∧ NR (w.heap.size + 1 + 1 + 1) (L ++ [⟨u, a1, c1, fun x => m ≤ x ∧ x < w1.heap.size⟩]) [] (some ⟨g5, 0, none⟩) c5 w5 := by
  have R2 := R1.on hb
  obtain ⟨g, c', hv, R3⟩ := R2.app hG hO hat
  cases hv
  exact ⟨(C1.on hb).stay (.grown hG (fun k e hk => by have := (R2.row.lt k e).1; omega)), R3⟩

set_option maxHeartbeats 3200000 in
set_option maxRecDepth 100000 in
theorem l3Copy_any (N : Nat) : ∀ (t : TermD) (a : Option Addr) (c hi : Nat) (w : World), partsT t ≤ N → N ≤ 549755813888 → RdK w hi a t.kids → hi ≤ w.heap.size → isW t.f → isW t.v →
    Calls Tryz.prog 57 #[.agg #[.int .i64 t.f, .int .i64 t.v, .slice a t.kids.length c]] w fun e w' => ∃ a' c', e = .returned (.agg #[.int .i64 t.f, .int .i64 t.v, .slice a' t.kids.length c']) ∧ OwnR w' (fun x => w.heap.size ≤ x ∧ x < w'.heap.size) a' c' t.kids ∧ t.kids.length ≤ c' ∧ Below w.heap.size w w' := by
  induction N with
  | zero => intro t a c hi w h; rw [partsT_eq] at h; omega
  | succ N ih =>
    intro t a c hi w hN hM hr hhi hfw hvw
    rw [partsT_eq] at hN
    obtain ⟨i0, hi0, hz0, hz1, hz2⟩ := info_parts info29
    have hlen := partsL_len t.kids
    have HR : Hid (RdK w hi a t.kids) := hr
    clear hr hfw hvw
    have C0 : NC w t a c (.slice none 0 0) (((w.alloc (.cells #[.int .i64 t.f, .int .i64 t.v, .slice a t.kids.length c] 37)).alloc (.cells #[.int .i64 0, .int .i64 0, .slice none 0 0] 37)).alloc (.cells #[.int .i64 t.f, .int .i64 t.v, .slice none 0 0] 37)) := by
      refine ⟨?_, ?_, ?_, ?_, ?_, ?_, ?_, ?_, fun j => ?_, fun j => ?_, (((Below.refl _ _).alloc (Nat.le_refl _) _).alloc (by simp) _).alloc (by simp; omega) _, ?_⟩
      all_goals simp [go_sem]
    go_enter Tryz.func57, Tryz.ntmps57
    go_wp2_with fail
    go_loopw [4] (fun i wr => ∃ (k : Nat) (L : List FE) (av : Option Addr) (cv : Nat), k ≤ t.kids.length ∧ i = .int .i64 k ∧ NC w t a c (.slice av L.length cv) wr ∧ NR (w.heap.size + 1 + 1 + 1) L [] av cv wr ∧ Hid (L.map FE.t = t.kids.take k)) (fun i _ => t.kids.length - (intOf i).toNat)
    case atStart => exact ⟨0, [], none, 0, Nat.zero_le _, rfl, C0, NR.start _ _, by show _ = _; simp⟩
    case round =>
      obtain ⟨k, L, av, cv, hk, rfl, C, R, HL⟩ := hrel
      clear C0
      have p2 := C.p2
      have hz := C.z
      have hLl : L.length ≤ t.kids.length := by have := congrArg List.length HL.out; simp at this; omega
      by_cases hk' : k < t.kids.length
      · obtain ⟨b, off, a', c', rfl, hlt, d0, d1, d2, hkr⟩ := RdK.kid (HR.out.on (C.bel.mono hhi)) hk'
        have hints := HR.out.ints hk'
        have hpg := partsL_get hk'
        have hki : (k : Int) < (t.kids.length : Int) := by omega
        have hki0 : (0 : Int) ≤ (k : Int) := by omega
        have hkz : (L.length : Int) < (L.length : Int) + 1 := by omega
        have hLb : L.length ≤ 549755813888 := by omega
        have HK : Hid (L.map FE.t ++ [t.kids[k]] = t.kids.take (k + 1)) := by show _ = _; rw [HL.out, List.take_succ_eq_append_getElem hk']
        have I := fun (w' : World) (h : Below wr.heap.size wr w') => ih t.kids[k] a' c' hi w' (by omega) (by omega) (hkr.on (h.mono (Nat.le_trans hhi C.bel.size))) (Nat.le_trans (Nat.le_trans hhi C.bel.size) h.size) hints.1 hints.2
        have HI : Hid (isW t.kids[k].f ∧ isW t.kids[k].v) := hints
        generalize t.kids[k] = u at d0 d1 d2 I HK HI
        have q2 := C.q2
        clear hkr hints hpg ih hlt
        have hlb : b < wr.heap.size := World.block_lt_of_cell? _ _ d0
        have b1 : Below wr.heap.size wr (wr.alloc (.cells #[.int .i64 0, .int .i64 0, .slice none 0 0] 37)) := (Below.refl _ _).alloc (Nat.le_refl _) _
        have p2a := keepC b1 p2
        have q2a := keepC b1 q2
        have d0a := keepC b1 d0
        have d1a := keepC b1 d1
        have d2a := keepC b1 d2
        clear b1
        go_wp2_with fail
        go_region_law (first
          | (go_simp; go_at_call 57; refine (I (wr.drew.alloc (.cells #[.int .i64 0, .int .i64 0, .slice none 0 0] 37)) ((Below.refl _ _).drew.alloc (by simp) _)).mono ?_; rintro e1 w1 ⟨a1, c1, rfl, o1, hle1, hb1⟩; have C1 := (C.on ((Below.refl _ _).drew.alloc (by simp) _)).on hb1; have R1 := (R.on ((Below.refl _ _).drew.alloc (by simp) _)).join hb1 (fe_one o1 hle1 HI.out.1 HI.out.2 (Nat.le_of_lt_succ (by simp; omega))) (fun e he x hx => by simp only [List.mem_singleton] at he; subst he; exact hx.1); have z0 := keepC (p := ⟨wr.heap.size, 0, none⟩) (v := .int .i64 0) hb1 (by simp [go_sem]); have z1 := keepC (p := ⟨wr.heap.size, 1, none⟩) (v := .int .i64 0) hb1 (by simp [go_sem]); have z2 := keepC (p := ⟨wr.heap.size, 2, none⟩) (v := .slice none 0 0) hb1 (by simp [go_sem]); have c2' := C1.q2; have f2' := C1.fq 2; have hbw := C1.z; have hne : (Value.slice av L.length cv).ownBlock ≠ some (w.heap.size + 1 + 1) := (fun q => by have := (R1.row.lt _ q).1; omega); have hrow := R1.row; have hxl := hrow.1; have hsz1 := hb1.size; have HC : Hid _ := C1; have HRR : Hid _ := R1; clear C1 R1 hb1 o1)
          | (go_simp; go_at_call 57; refine (I wr.drew (Below.refl _ _).drew).mono ?_; rintro e1 w1 ⟨a1, c1, rfl, o1, hle1, hb1⟩; have C1 := (C.on (Below.refl _ _).drew).on hb1; have R1 := (R.on (Below.refl _ _).drew).join hb1 (fe_one o1 hle1 HI.out.1 HI.out.2 (Nat.le_of_lt_succ (by simp; omega))) (fun e he x hx => by simp only [List.mem_singleton] at he; subst he; exact hx.1); have zB : True := trivial; have c2' := C1.q2; have f2' := C1.fq 2; have hbw := C1.z; have hne : (Value.slice av L.length cv).ownBlock ≠ some (w.heap.size + 1 + 1) := (fun q => by have := (R1.row.lt _ q).1; omega); have hrow := R1.row; have hxl := hrow.1; have hsz1 := hb1.size; have HC : Hid _ := C1; have HRR : Hid _ := R1; clear C1 R1 hb1 o1)
          | (have _ := zB; refine step_append_own rfl (.tmp 18) (.tmp 25) 35 rfl (w.heap.size + 1 + 1 + 1) 37 i0 _ 3 40 Tryz.underlying35 hi0 hz0 hz1 hz2 rfl (by decide) (.slice av L.length cv) L.length (cs3 (L.map FE.cells)) (by first | (simp [Act.eval]; done) | simp [Act.eval, Act.put]) (own_on hrow (by repeat (first | exact Below.refl _ _ | refine Below.drew ?_ | refine Below.alloc ?_ (by simp) _))) ⟨w1.heap.size, 0, none⟩ 1 1 [.int .i64 u.f, .int .i64 u.v, .slice a1 u.kids.length c1] (by first | (simp [Act.eval]; done) | simp [Act.eval, Act.put]) rfl (three_at (by simp) (by simp) (by simp)) (three_cell _ _ _ _ _) (by unfold maxLen; omega) (by omega) (by simp <;> omega) ?_; intro v5 w5 hown5 hgrow5 hat5; have HA5 : Hid _ := hat5; obtain ⟨g5, c5, rfl, _⟩ := own_slot hown5; have HO5 : Hid _ := hown5; have HG5 : Hid _ := hgrow5; have A5 := cpy_app HC.out HRR.out (by repeat (first | exact Below.refl _ _ | refine Below.drew ?_ | refine Below.alloc ?_ (by simp) _)) hown5 hgrow5 hat5; have c4' := A5.1.q2; have f4' := A5.1.fq 2; have HA : Hid _ := A5; clear A5 hown5 hgrow5 hat5)
          | (refine step_append_own rfl (.tmp 18) (.tmp 25) 35 rfl (w.heap.size + 1 + 1 + 1) 37 i0 _ 3 40 Tryz.underlying35 hi0 hz0 hz1 hz2 rfl (by decide) (.slice av L.length cv) L.length (cs3 (L.map FE.cells)) (by first | (simp [Act.eval]; done) | simp [Act.eval, Act.put]) (own_on hrow (by repeat (first | exact Below.refl _ _ | refine Below.drew ?_ | refine Below.alloc ?_ (by simp) _))) ⟨wr.heap.size, 0, none⟩ 1 1 [.int .i64 0, .int .i64 0, .slice none 0 0] (by first | (simp [Act.eval]; done) | simp [Act.eval, Act.put]) rfl (three_at z0 z1 z2) (three_cell _ _ _ _ _) (by unfold maxLen; omega) (by omega) (by simp <;> omega) ?_; intro v5 w5 hown5 hgrow5 hat5; have PF := put_facts hrow.1 hown5 hgrow5 hat5 (by repeat (first | exact Below.refl _ _ | refine Below.drew ?_ | refine Below.alloc ?_ (by simp) _)) hbw c2' f2' hne; have HA5 : Hid _ := hat5; obtain ⟨g5, c5, rfl, ⟨e0, e1, e2⟩, ⟨f0, f1, f2⟩, c4', f4', hg5, hc5, hat'⟩ := PF; have HO5 : Hid _ := hown5; have HG5 : Hid _ := hgrow5; clear hown5 hgrow5 hat5))
        all_goals
          clear c4' f4'
          have A5 := HA.out
          have C6 := A5.1.set (.slice (some ⟨g5, 0, none⟩) (L.length + 1) c5)
          have R6 := A5.2.set (p := ⟨w.heap.size + 1 + 1, 2, none⟩) (.slice (some ⟨g5, 0, none⟩) (L.length + 1) c5) (by simp only; omega)
          clear A5 HA
          go_wp2_with fail
          refine ⟨⟨k + 1, L ++ [⟨u, a1, c1, _⟩], some ⟨g5, 0, none⟩, c5, by omega, by go_num, by simpa using C6, R6, ?_⟩, by simp [intOf]; omega⟩
          show _ = _
          rw [fe_snoc, HK.out]
      · have E : Hid (k = t.kids.length) := (by omega : k = t.kids.length)
        have q0 := C.q0
        have q1 := C.q1
        have q2 := C.q2
        have r0 := C.r0
        have r1 := C.r1
        have r2 := C.r2
        have fr := C.fr
        have hL : Hid (L.map FE.t = t.kids) := by
          show _ = _
          rw [HL.out, E.out, List.take_length]
        have O : OwnR wr (fun x => w.heap.size + 1 + 1 + 1 ≤ x ∧ x < wr.heap.size) av cv (L.map FE.t) := by
          rcases R.row.2 with ⟨hv, h0⟩ | ⟨g, cap, _, hv, _⟩
          · have : L = [] := List.length_eq_zero_iff.1 h0
            subst this; cases hv; exact .nil _
          · cases hv
            exact (by simpa using R.fo : Forest wr _ L).owns R.row (fun e he => R.ap g rfl e (by simpa using he)) (by omega)
        have hcl : L.length ≤ cv := by obtain ⟨_, _, h, hh⟩ := own_form R.row; cases h; exact hh
        have hbel := C.bel
        clear C R HL E ih
        go_wp2_with fail
        obtain ⟨z0, z1, z2⟩ := set3_cells (u := wr) (r := w.heap.size + 1) (x := .int .i64 t.f) (y := .int .i64 t.v) (z := .slice av L.length cv) r0 r1 r2
        have hn : ¬ (w.heap.size + 1 + 1 + 1 ≤ w.heap.size + 1 ∧ w.heap.size + 1 < wr.heap.size) := by omega
        have O3 := ((O.setCell ⟨w.heap.size + 1, 0, none⟩ hn (.int .i64 t.f)).setCell ⟨w.heap.size + 1, 1, none⟩ hn (.int .i64 t.v)).setCell ⟨w.heap.size + 1, 2, none⟩ hn (.slice av L.length cv)
        rw [← hL.out, List.length_map]
        refine bodyPost_ret (v := .agg #[.int .i64 t.f, .int .i64 t.v, .slice av L.length cv]) (by simp [results, Tryz.results57, go_sem, z0, z1, z2]) rfl ⟨av, cv, rfl, O3.mono (fun x hx => ⟨by omega, by simpa using hx.2⟩), hcl, ?_⟩
        exact ((hbel.setCell (p := ⟨w.heap.size + 1, 0, none⟩) (by simp) _).setCell (p := ⟨w.heap.size + 1, 1, none⟩) (by simp) _).setCell (p := ⟨w.heap.size + 1, 2, none⟩) (by simp) _
end Go.Proofs.YthbilahilmmfmabGreat

/- Weights as data. Conditions: none. -/
namespace Go.Proofs.YthbilahilmmfmabGreat
set_option maxRecDepth 100000
open Go.RowKit

mutual
/-- The weight. -/
def wgtT (bl : Int → Bool) : TermD → Nat
  | .mk f _ ks => (if bl f && !ks.isEmpty then ks.length - 1 else 1) + wgtL bl ks
def wgtL (bl : Int → Bool) : List TermD → Nat
  | [] => 0
  | k :: ks => wgtT bl k + wgtL bl ks
end
theorem wgtT_eq (bl : Int → Bool) (t : TermD) : wgtT bl t = (if bl t.f && !t.kids.isEmpty then t.kids.length - 1 else 1) + wgtL bl t.kids := by cases t; rw [wgtT]; rfl
theorem wgtL_append (bl : Int → Bool) (a b : List TermD) : wgtL bl (a ++ b) = wgtL bl a + wgtL bl b := by
  induction a with
  | nil => simp [wgtL]
  | cons t ts ih => simp only [List.cons_append, wgtL, ih]; omega
theorem wgtL_next (bl : Int → Bool) {ts : List TermD} {k : Nat} (h : k < ts.length) : wgtL bl (ts.take (k + 1)) = wgtL bl (ts.take k) + wgtT bl ts[k] := by
  rw [List.take_succ_eq_append_getElem h, wgtL_append]
  simp [wgtL]
mutual
theorem wgtT_pos (bl : Int → Bool) : ∀ t : TermD, 1 ≤ wgtT bl t
  | .mk f v ks => by
    have h := wgtL_pos bl ks
    rw [wgtT]
    split
    · next hb =>
      have : ks ≠ [] := by intro e; subst e; simp at hb
      have := List.length_pos_iff.2 this
      omega
    · omega
theorem wgtL_pos (bl : Int → Bool) : ∀ ks : List TermD, ks.length ≤ wgtL bl ks
  | [] => by simp
  | k :: ks => by have := wgtT_pos bl k; have := wgtL_pos bl ks; rw [wgtL, List.length_cons]; omega
end
mutual
/-- A weight is less than twice the number of parts. -/
theorem wgtT_parts (bl : Int → Bool) : ∀ t : TermD, wgtT bl t + 1 ≤ 2 * partsT t
  | .mk f v ks => by
    have h := wgtL_parts bl ks
    rw [wgtT, partsT]
    split <;> omega
theorem wgtL_parts (bl : Int → Bool) : ∀ ks : List TermD, wgtL bl ks + ks.length ≤ 2 * partsL ks
  | [] => by simp [wgtL, partsL]
  | k :: ks => by have := wgtT_parts bl k; have := wgtL_parts bl ks; rw [wgtL, partsL, List.length_cons]; omega
end
end Go.Proofs.YthbilahilmmfmabGreat

/- Right terms, weights, and terms that are made, as data; what a right term's form and weight are. Conditions: none. -/
namespace Go.Proofs.YthbilahilmmfmabGreat
set_option maxRecDepth 100000
open Go.RowKit

/-- Before the one ahead of it, if there is one. -/
def befO (k : TermD) : Option TermD → Bool
  | some q => befT k q
  | none => false
mutual
/-- Right, of any size. -/
def rightT (ss : List SymD) : TermD → Bool
  | .mk f v ks => if f = -1 then decide (0 ≤ v ∧ v ≤ 99) && ks.isEmpty
    else decide (0 ≤ f ∧ f < ss.length) && v == 0 && (if blindAt ss f then decide (2 ≤ ks.length) else (ks.length : Int) == arityAt ss f) && rightL ss f none ks
/-- The Kids, the one ahead of them known. -/
def rightL (ss : List SymD) (f : Int) : Option TermD → List TermD → Bool
  | _, [] => true
  | p, k :: ks => !(blindAt ss f && (k.f == f || befO k p)) && rightT ss k && rightL ss f (some k) ks
end
theorem rightT_eq (ss : List SymD) (t : TermD) : rightT ss t = if t.f = -1 then decide (0 ≤ t.v ∧ t.v ≤ 99) && t.kids.isEmpty
    else decide (0 ≤ t.f ∧ t.f < ss.length) && t.v == 0 && (if blindAt ss t.f then decide (2 ≤ t.kids.length) else (t.kids.length : Int) == arityAt ss t.f) && rightL ss t.f none t.kids := by
  cases t; rw [rightT]; rfl
theorem rightL_all (ss : List SymD) (f : Int) : ∀ (ks : List TermD) (p : Option TermD), rightL ss f p ks = true → ∀ k ∈ ks, rightT ss k = true ∧ (blindAt ss f = true → k.f ≠ f)
  | [], _, _ => by simp
  | x :: xs, p, h => by
    rw [rightL, Bool.and_eq_true, Bool.and_eq_true] at h
    intro k hk
    rcases List.mem_cons.1 hk with rfl | hk
    · refine ⟨h.1.2, fun hb e => ?_⟩
      have := h.1.1
      rw [hb, e] at this
      simp at this
    · exact rightL_all ss f xs (some x) h.2 k hk
theorem rightL_from (ss : List SymD) (f : Int) (hb : blindAt ss f = true) : ∀ (ks : List TermD) (q : TermD), rightL ss f (some q) ks = true → (q :: ks).Pairwise leT
  | [], q, _ => by simp
  | x :: xs, q, h => by
    rw [rightL, Bool.and_eq_true, Bool.and_eq_true] at h
    have h0 : leT q x := by
      rw [← befT_leT]
      have := h.1.1
      rw [hb] at this
      simp only [Bool.true_and, Bool.not_eq_true', Bool.or_eq_false_iff] at this
      exact this.2
    have h1 := rightL_from ss f hb xs x h.2
    refine List.Pairwise.cons (fun y hy => ?_) h1
    rcases List.mem_cons.1 hy with rfl | hy
    · exact h0
    · exact leT_trans h0 ((List.pairwise_cons.1 h1).1 y hy)
theorem rightL_sorted (ss : List SymD) (f : Int) (hb : blindAt ss f = true) (ks : List TermD) (h : rightL ss f none ks = true) : ks.Pairwise leT := by
  cases ks with
  | nil => exact .nil
  | cons x xs =>
    rw [rightL, Bool.and_eq_true] at h
    exact rightL_from ss f hb xs x h.2
theorem right_isN (ss : List SymD) : ∀ (n : Nat) (t : TermD), partsT t ≤ n → rightT ss t = true → IsN (blindAt ss) t := by
  intro n
  induction n with
  | zero => intro t h; rw [partsT_eq] at h; omega
  | succ n ih =>
    intro t hn h
    rw [partsT_eq] at hn
    rw [rightT_eq] at h
    split at h
    · simp only [Bool.and_eq_true, List.isEmpty_iff] at h
      exact .mk t (by simp [h.2]) (fun _ => by simp [h.2])
    · simp only [Bool.and_eq_true] at h
      have ha := rightL_all ss t.f t.kids none h.2
      exact .mk t (fun k hk => ih k (by have := parts_kid hk; omega) (ha k hk).1) (fun hb => ⟨rightL_sorted ss t.f hb t.kids h.2, fun k hk => (ha k hk).2 hb⟩)
/-- One form of what is right is it. -/
theorem right_self (ss : List SymD) {t : TermD} (h : rightT ss t = true) : normT (blindAt ss) t = t := normT_self _ (right_isN ss _ t (Nat.le_refl _) h)


/-- A term that is made of a function and Kids. -/
def makeT (ss : List SymD) (f : Int) (ks : List TermD) : TermD :=
  if blindAt ss f = true ∧ ks = [] then .mk 0 0 []
  else if blindAt ss f = true ∧ ks.length = 1 then normT (blindAt ss) (ks.headD (.mk 0 0 []))
  else if ¬ (0 ≤ f ∧ f < ss.length) then .mk f 0 ks
  else normT (blindAt ss) (.mk f 0 ks)
theorem blindAt_lt {ss : List SymD} {f : Int} (h : blindAt ss f = true) : 0 ≤ f ∧ f < ss.length := by
  unfold blindAt at h
  split at h
  · next h0 =>
    refine ⟨h0, ?_⟩
    by_cases hl : f.toNat < ss.length
    · omega
    · rw [List.getElem?_eq_none (by omega)] at h; cases h
  · cases h
theorem makeT_blind {ss : List SymD} {f : Int} (h : blindAt ss f = true) {ks : List TermD} (hl : 2 ≤ ks.length) : makeT ss f ks = normT (blindAt ss) (.mk f 0 ks) := by
  unfold makeT
  rw [if_neg (by rintro ⟨_, rfl⟩; simp at hl), if_neg (by rintro ⟨_, e⟩; omega), if_neg (by simpa using blindAt_lt h)]
/-- In any order. -/
theorem makeT_perm {ss : List SymD} {f : Int} (h : blindAt ss f = true) {us bs : List TermD} (hl : 2 ≤ us.length) (hp : us.Perm bs) : makeT ss f us = makeT ss f bs := by
  rw [makeT_blind h hl, makeT_blind h (by rw [← hp.length_eq]; exact hl)]
  exact normT_perm _ h hp
/-- In brackets. -/
theorem makeT_in {ss : List SymD} {f : Int} (h : blindAt ss f = true) {us bs : List TermD} (ha : 2 ≤ us.length) (hb : 1 ≤ bs.length) : makeT ss f (makeT ss f us :: bs) = makeT ss f (us ++ bs) := by
  rw [makeT_blind h (by simp; omega), makeT_blind h ha, makeT_blind h (by simp; omega)]
  exact normT_in _ h us bs
end Go.Proofs.YthbilahilmmfmabGreat

/- A term that is made, as the program makes it. Conditions: terms of at most 549755813888 parts. -/
namespace Go.Proofs.YthbilahilmmfmabGreat
set_option maxRecDepth 100000
open Go.RowKit

/-- While Make goes on: its answer's place. -/
structure MB (w wr : World) : Prop where
  be : Below w.heap.size w wr
  c0 : wr.cell? ⟨w.heap.size, 0, none⟩ = some (.int .i64 0)
  c1 : wr.cell? ⟨w.heap.size, 1, none⟩ = some (.int .i64 0)
  c2 : wr.cell? ⟨w.heap.size, 2, none⟩ = some (.slice none 0 0)
  cf : ∀ j, wr.frozen? ⟨w.heap.size, j, none⟩ = false
  z : w.heap.size + 1 ≤ wr.heap.size
theorem MB.on {w wr wr' : World} (h : MB w wr) (hb : Below wr.heap.size wr wr') : MB w wr' :=
  ⟨h.be.trans (hb.mono h.be.size), keepC hb h.c0, keepC hb h.c1, keepC hb h.c2, fun j => (hb.frozen (p := ⟨w.heap.size, j, none⟩) h.z).trans (h.cf j), Nat.le_trans h.z hb.size⟩
theorem make_end {w w4 : World} {x y : Int} {us : List TermD} {a' : Option Addr} {c' : Nat} (nb4 : MB w w4) (ho4 : OwnS w4 (fun k => w.heap.size + 1 ≤ k ∧ k < w4.heap.size) a' us) :
    (((w4.setCell ⟨w.heap.size, 0, none⟩ (.int .i64 x)).setCell ⟨w.heap.size, 1, none⟩ (.int .i64 y)).setCell ⟨w.heap.size, 2, none⟩ (.slice a' us.length c')).cell? ⟨w.heap.size, 0, none⟩ = some (.int .i64 x) ∧ (((w4.setCell ⟨w.heap.size, 0, none⟩ (.int .i64 x)).setCell ⟨w.heap.size, 1, none⟩ (.int .i64 y)).setCell ⟨w.heap.size, 2, none⟩ (.slice a' us.length c')).cell? ⟨w.heap.size, 1, none⟩ = some (.int .i64 y) ∧ (((w4.setCell ⟨w.heap.size, 0, none⟩ (.int .i64 x)).setCell ⟨w.heap.size, 1, none⟩ (.int .i64 y)).setCell ⟨w.heap.size, 2, none⟩ (.slice a' us.length c')).cell? ⟨w.heap.size, 2, none⟩ = some (.slice a' us.length c') ∧
      OwnS (((w4.setCell ⟨w.heap.size, 0, none⟩ (.int .i64 x)).setCell ⟨w.heap.size, 1, none⟩ (.int .i64 y)).setCell ⟨w.heap.size, 2, none⟩ (.slice a' us.length c')) (fun k => w.heap.size ≤ k ∧ k < (((w4.setCell ⟨w.heap.size, 0, none⟩ (.int .i64 x)).setCell ⟨w.heap.size, 1, none⟩ (.int .i64 y)).setCell ⟨w.heap.size, 2, none⟩ (.slice a' us.length c')).heap.size) a' us ∧ Below w.heap.size w (((w4.setCell ⟨w.heap.size, 0, none⟩ (.int .i64 x)).setCell ⟨w.heap.size, 1, none⟩ (.int .i64 y)).setCell ⟨w.heap.size, 2, none⟩ (.slice a' us.length c')) := by
  obtain ⟨z0, z1, z2⟩ := set3_cells (u := w4) (r := w.heap.size) (x := .int .i64 x) (y := .int .i64 y) (z := .slice a' us.length c') nb4.c0 nb4.c1 nb4.c2
  have hnS : ∀ j, ¬ (w.heap.size + 1 ≤ (⟨w.heap.size, j, none⟩ : Addr).block ∧ (⟨w.heap.size, j, none⟩ : Addr).block < w4.heap.size) := fun j q => by have := q.1; simp only at this; omega
  have hoF := ((ho4.setCell ⟨w.heap.size, 0, none⟩ (hnS 0) (.int .i64 x)).setCell ⟨w.heap.size, 1, none⟩ (hnS 1) (.int .i64 y)).setCell ⟨w.heap.size, 2, none⟩ (hnS 2) (.slice a' us.length c')
  have hbF := ((nb4.be.setCell (p := ⟨w.heap.size, 0, none⟩) (by simp) (.int .i64 x)).setCell (p := ⟨w.heap.size, 1, none⟩) (by simp) (.int .i64 y)).setCell (p := ⟨w.heap.size, 2, none⟩) (by simp) (.slice a' us.length c')
  exact ⟨z0, z1, z2, hoF.mono (fun k hk => ⟨by omega, by simpa using hk.2⟩), hbF⟩

end Go.Proofs.YthbilahilmmfmabGreat

/- The cursor from which the laws draw, and how memory stands behind a draw. Conditions: none. -/
namespace Go.Proofs.YthbilahilmmfmabGreat
set_option maxRecDepth 100000
open Go.RowKit

def isInt (z : Int) : Prop := -9223372036854775808 ≤ z ∧ z ≤ 9223372036854775807
def intsD (zs : List Int) : List Value := zs.map (Value.int .i64)

/-- The slice of bytes that begins at 'a' reads in w as bs, and no cell of it lies in block c. -/
def RdB (w : World) (c : Nat) (a : Option Addr) (bs : List Int) : Prop :=
  (∀ z ∈ bs, 0 ≤ z ∧ z ≤ 255) ∧ (bs = [] ∨ ∃ b off, a = some ⟨b, off, none⟩ ∧ b < w.heap.size ∧ b ≠ c ∧ ∀ i, i < bs.length → w.cell? ⟨b, off + i, none⟩ = some (.int .u8 (bs[i]?.getD 0)))

/-- Block c is a cursor over the code bs. -/
def Cur (T : TypeId) (w : World) (c : Nat) (a : Option Addr) (bs : List Int) (cap : Nat) : Prop :=
  RdB w c a bs ∧ ∃ (i : Nat) (h : Int), i ≤ bs.length ∧ isInt h ∧ w.heap[c]? = some (.cells #[.slice a bs.length cap, .int .i64 i, .int .i64 h] T (0, 0))

theorem and_le (x : Int) (m : Nat) (hm : m < 4611686018427387904) : 0 ≤ bits .and .i64 x (m : Int) ∧ bits .and .i64 x (m : Int) ≤ (m : Int) := by
  have h2 : (BitVec.ofInt 64 (m : Int)).toNat = m := by
    rw [BitVec.ofInt_natCast, BitVec.toNat_ofNat]; exact Nat.mod_eq_of_lt (by omega)
  have h : bits .and .i64 x (m : Int) = IntKind.i64.wrap (((BitVec.ofInt 64 x).toNat &&& m : Nat) : Int) := by
    show IntKind.i64.wrap ((BitVec.ofInt 64 x &&& BitVec.ofInt 64 (m : Int)).toNat : Int) = _
    rw [BitVec.toNat_and, h2]
  have h3 : (BitVec.ofInt 64 x).toNat &&& m ≤ m := Nat.and_le_right
  rw [h, IntKind.wrap_i64]
  omega

theorem and_255 (x : Int) : 0 ≤ bits .and .i64 x 255 ∧ bits .and .i64 x 255 ≤ 255 := and_le x 255 (by omega)

theorem grown_refl (w : World) (row : Option Nat) : w.grownBy w row := ⟨rfl, rfl, rfl, Nat.le_refl _, fun _ _ _ => rfl⟩

theorem grown_then {a w w' : World} {row : Option Nat} (h : a.grownBy w row) (k : w.grownBy w' row) : a.grownBy w' row :=
  ⟨k.os.trans h.os, k.tape.trans h.tape, k.output.trans h.output, Nat.le_trans h.size k.size, fun i hi hr => (k.block i (Nat.lt_of_lt_of_le hi h.size) hr).trans (h.block i hi hr)⟩

theorem grown_draw {a w : World} {row : Option Nat} (h : a.grownBy w row) (n : Nat) : a.grownBy (w.drewN n) row := ⟨h.os, h.tape, h.output, h.size, h.block⟩

theorem grown_set (w : World) (c j : Nat) (v : Value) : w.grownBy (w.setCell ⟨c, j, none⟩ v) (some c) :=
  ⟨rfl, rfl, rfl, by simp [World.setCell], fun k _ hk => Below.heap_setCell w ⟨c, j, none⟩ v k (fun e => hk (by simp [e]))⟩

theorem RdB.grown {w w' : World} {c : Nat} {a : Option Addr} {bs : List Int} (h : RdB w c a bs) (hg : w.grownBy w' (some c)) : RdB w' c a bs := by
  refine ⟨h.1, ?_⟩
  rcases h.2 with h | ⟨b, off, rfl, hlt, hne, hc⟩
  · exact .inl h
  · refine .inr ⟨b, off, rfl, Nat.lt_of_lt_of_le hlt hg.size, hne, fun i hi => ?_⟩
    rw [← hc i hi]
    exact World.cell?_of_block (w := w) (hg.block b hlt (by simp [hne]))

theorem isInt_wrap (x : Int) : isInt (wrap64 x) := bounds_i64 (wrap64_wf x)

theorem Rd.grown {w w' : World} {c g o : Nat} {zs : List Int} (h : ∀ i, i < zs.length → w.cell? ⟨g, o + i, none⟩ = some (.int .i64 (zs[i]?.getD 0))) (hlt : g < w.heap.size) (hne : g ≠ c) (hg : w.grownBy w' (some c)) :
    ∀ i, i < zs.length → w'.cell? ⟨g, o + i, none⟩ = some (.int .i64 (zs[i]?.getD 0)) := by
  intro i hi
  rw [← h i hi]
  exact World.cell?_of_block (w := w) (hg.block g hlt (by simp [hne]))

theorem cell_pick {w : World} {g k : Nat} {zs : List Int} (hk : k < zs.length) (h : ∀ i, i < zs.length → w.cell? ⟨g, 0 + i, none⟩ = some (.int .i64 (zs[i]?.getD 0))) : w.cell? ⟨g, k, none⟩ = some (.int .i64 zs[k]) := by
  have := h k hk
  rw [show 0 + k = k by omega] at this
  rw [this]; simp [hk]

theorem RdB.below {w w' : World} {c : Nat} {a : Option Addr} {bs : List Int} (h : RdB w c a bs) (hg : Below w.heap.size w w') : RdB w' c a bs := by
  refine ⟨h.1, ?_⟩
  rcases h.2 with h | ⟨b, off, rfl, hlt, hne, hc⟩
  · exact .inl h
  · exact .inr ⟨b, off, rfl, Nat.lt_of_lt_of_le hlt hg.size, hne, fun i hi => (hg.cell (p := ⟨b, off + i, none⟩) hlt).trans (hc i hi)⟩

theorem cur_new {T : TypeId} {w : World} {a : Option Addr} {bs : List Int} {cap : Nat} {h : Int} (hr : RdB w w.heap.size a bs) (hh : isInt h) :
    Cur T (w.alloc (.cells #[.slice a bs.length cap, .int .i64 0, .int .i64 h] T)) w.heap.size a bs cap :=
  ⟨hr.below ((Below.refl _ _).alloc (Nat.le_refl _) _), 0, h, Nat.zero_le _, hh, heap_alloc_new w _⟩

theorem Cur.below {T : TypeId} {w w' : World} {c : Nat} {a : Option Addr} {bs : List Int} {cap : Nat} (h : Cur T w c a bs cap) (hb : Below w.heap.size w w') : Cur T w' c a bs cap := by
  obtain ⟨hr, i, x, hi, hx, hk⟩ := h
  have hlt : c < w.heap.size := by
    rcases Nat.lt_or_ge c w.heap.size with h' | h'
    · exact h'
    · simp [Array.getElem?_eq_none h'] at hk
  exact ⟨hr.below hb, i, x, hi, hx, by rw [hb.block c hlt]; exact hk⟩

theorem Cur.lt {T : TypeId} {w : World} {c : Nat} {a : Option Addr} {bs : List Int} {cap : Nat} (h : Cur T w c a bs cap) : c < w.heap.size := by
  obtain ⟨hr, i, x, hi, hx, hk⟩ := h
  rcases Nat.lt_or_ge c w.heap.size with h' | h'
  · exact h'
  · simp [Array.getElem?_eq_none h'] at hk
theorem lit_cells (w : World) (zs : List Int) : ∀ i, i < zs.length → (w.alloc (.cells (intsD zs).toArray 3)).cell? ⟨w.heap.size, 0 + i, none⟩ = some (.int .i64 (zs[i]?.getD 0)) := by
  intro i hi
  rw [World.cell?_alloc_at _ _ _ _ rfl]
  simp [intsD, hi]
theorem lit_strs (w : World) (ss : List ByteArray) : ∀ i, i < ss.length → (w.alloc (.cells (ss.map Value.string).toArray 9)).cell? ⟨w.heap.size, i, none⟩ = some (.string (ss[i]?.getD ByteArray.empty)) := by
  intro i hi
  rw [World.cell?_alloc_at _ _ _ _ rfl]
  simp [hi]
theorem grown_below {w w' : World} {B c : Nat} (hg : w.grownBy w' (some c)) (hB : B ≤ w.heap.size) (hc : B ≤ c) : Below B w w' :=
  (Below.refl B w).grown hg hB (fun k hk => by cases hk; exact hc)
theorem grown_alloc {a w : World} {row : Option Nat} (h : a.grownBy w row) (o : Obj) : a.grownBy (w.alloc o) row :=
  ⟨h.os, h.tape, h.output, Nat.le_trans h.size (by simp), fun i hi hr => (Below.heap_alloc w o i (Nat.lt_of_lt_of_le hi h.size)).trans (h.block i hi hr)⟩
theorem grown_own {a w w' : World} {c g : Nat} (h : a.grownBy w (some c)) (k : w.grownBy w' (some g)) (hg : a.heap.size ≤ g) : a.grownBy w' (some c) :=
  ⟨k.os.trans h.os, k.tape.trans h.tape, k.output.trans h.output, Nat.le_trans h.size k.size, fun i hi hr => (k.block i (Nat.lt_of_lt_of_le hi h.size) (by simp; omega)).trans (h.block i hi hr)⟩
theorem Rd_new {w : World} {a : Option Addr} {bs : List Int} (hr : ∀ c, w.heap.size ≤ c → RdB w c a bs) : bs = [] ∨ ∀ x, a = some x → x.block < w.heap.size := by
  rcases (hr _ (Nat.le_refl _)).2 with h | ⟨b, off, rfl, hlt, _⟩
  · exact .inl h
  · exact .inr fun x hx => by cases hx; exact hlt
theorem codeOn {w w' : World} {a : Option Addr} {bs : List Int} (hr : ∀ c, w.heap.size ≤ c → RdB w c a bs) (hb : Below w.heap.size w w') : ∀ c, w'.heap.size ≤ c → RdB w' c a bs :=
  fun c hc => (hr c (Nat.le_trans hb.size hc)).below hb
theorem Cur.grown {T : TypeId} {w w' : World} {c g : Nat} {a : Option Addr} {bs : List Int} {cap : Nat} {B : Nat} (h : Cur T w c a bs cap) (hg : w.grownBy w' (some g)) (hc : c < B) (hB : B ≤ g) (hbs : bs = [] ∨ ∀ x, a = some x → x.block < B) : Cur T w' c a bs cap := by
  have hlt := h.lt
  obtain ⟨hr, i, x, hi, hx, hk⟩ := h
  refine ⟨⟨hr.1, ?_⟩, i, x, hi, hx, by rw [hg.block c hlt (by simp; omega)]; exact hk⟩
  rcases hr.2 with h | ⟨b, off, rfl, hlt, hne, hcs⟩
  · exact .inl h
  · rcases hbs with rfl | hbs
    · exact .inl rfl
    have hb := hbs _ rfl
    simp at hb
    refine .inr ⟨b, off, rfl, Nat.lt_of_lt_of_le hlt hg.size, hne, fun j hj => ?_⟩
    rw [← hcs j hj]
    exact World.cell?_of_block (w := w) (hg.block b hlt (by simp; omega))
end Go.Proofs.YthbilahilmmfmabGreat

/- Contracts of the functions by which the laws draw their inputs from a code. Conditions: the code has at most 1048576 bytes. -/
namespace Go.Proofs.YthbilahilmmfmabGreat
set_option maxRecDepth 100000
open Go.RowKit

end Go.Proofs.YthbilahilmmfmabGreat

/- A drawn term: whatever the bytes, it owns its memory and is small; only the cursor has turned. Conditions: at most 1048576 bytes. -/
namespace Go.Proofs.YthbilahilmmfmabGreat
set_option maxRecDepth 100000
open Go.RowKit

set_option maxHeartbeats 800000 in
theorem l3Var_any (v : Int) (w : World) : Calls Tryz.prog 58 #[.int .i64 v] w fun e w' => e = .returned (.agg #[.int .i64 (-1), .int .i64 v, .slice none 0 0]) ∧ Below w.heap.size w w' := by
  go_enter Tryz.func58, Tryz.ntmps58
  go_wp2
  exact bodyPost_ret (v := .agg #[.int .i64 (-1), .int .i64 v, .slice none 0 0]) (by simp [results, Tryz.results58, go_sem]) rfl ⟨rfl, (Below.refl _ _).alloc (Nat.le_refl _) _⟩

theorem stay_of_grown {w w' : World} {c : Nat} (h : w.grownBy w' (some c)) : Stay (fun k => k ≠ c) w w' := .grown h (fun k e => by cases e; simp)
end Go.Proofs.YthbilahilmmfmabGreat

