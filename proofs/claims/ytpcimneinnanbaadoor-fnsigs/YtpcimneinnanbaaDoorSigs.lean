/- The law on drawn functions: its walk, up to the loop. Conditions: a code of at most 1048576 bytes; the library's table of powers of ten holds what its own text lays. -/
import Derived.Test.YtpcimneinnanbaaDoorSymSpec
import Derived.Test.YtpcimneinnanbaaDoorImpSig2
import Derived.Test.YtpcimneinnanbaaDoorImpText2
import Derived.Test.YtpcimneinnanbaaDoorSigText
import Derived.Test.YtpcimneinnanbaaDoorL2Draws
import Derived.Deep.DeepMust
import Derived.Deep.RegionHeld3
namespace Go.Proofs.YtpcimneinnanbaaDoor
open Go.RowKit

theorem sig_sym {ss : List SymD} (h : sigOk ss = true) {k : Nat} (hk : k < ss.length) : symOf ss ss[k].name = (k : Int) := by
  cases hs : (symOf ss ss[k].name == (k : Int)) with
  | true => simpa using hs
  | false =>
    have : goodAt ss k ss[k] = false := by unfold goodAt; rw [hs]; simp
    rw [sig_bad hk this] at h
    simp at h

theorem small_bytes {ss : List SymD} (h : ∀ s ∈ ss, s.name.size ≤ 9) : bytesOf ss ≤ 9 * ss.length := by
  induction ss with
  | nil => simp [bytesOf]
  | cons s ss ih =>
    have h1 := h s (by simp)
    have h2 := ih (fun t ht => h t (by simp [ht]))
    simp only [bytesOf, List.map_cons, List.sum_cons, List.length_cons] at *
    omega

/-- What the lists that were drawn are good for. -/
structure Sm (ss : List SymD) : Prop where
  len : ss.length ≤ 9
  len2 : ss.length ≤ 1048577
  name : ∀ s ∈ ss, s.name.size ≤ 1048576
  max : ∀ s ∈ ss, s.name.size ≤ maxLen
  ar : ∀ s ∈ ss, isI s.ar
  bytes : bytesOf ss ≤ 1048577

theorem sm_of {ss : List SymD} (h : smallSyms ss) : Sm ss := by
  obtain ⟨h1, h2⟩ := h
  refine ⟨h1, by omega, fun s hs => by have := (h2 s hs).1; omega, fun s hs => by have := (h2 s hs).1; unfold maxLen; omega, fun s hs => by have := (h2 s hs).2; exact ⟨by omega, by omega⟩, ?_⟩
  have := small_bytes (fun s hs => (h2 s hs).1)
  omega

theorem RdS.cells {W : World} {g o : Nat} {ss : List SymD} (h : RdS W (some ⟨g, o, none⟩) ss) {k : Nat} (hk : k < ss.length) : g < W.heap.size ∧ W.cell? ⟨g, o + k * 3, none⟩ = some (.string ss[k].name) ∧ W.cell? ⟨g, o + k * 3 + 1, none⟩ = some (.int .i64 ss[k].ar) ∧ W.cell? ⟨g, o + k * 3 + 2, none⟩ = some (.bool ss[k].ac) := by
  rcases h with rfl | ⟨b, off, he, hlt, hc⟩
  · simp at hk
  · obtain ⟨rfl, rfl⟩ : g = b ∧ o = off := by simpa using he
    exact ⟨hlt, hc k hk⟩

/-- What is known of memory behind the draws. -/
structure StS (w : World) (ss ts us vs xs : List SymD) (a1 a2 a3 a4 a5 : Option Addr) (W : World) : Prop where
  bel : Below w.heap.size w W
  s : RdS W a1 ss
  t : RdS W a2 ts
  u : RdS W a3 us
  v : RdS W a4 vs
  x : RdS W a5 xs
  tab : Lib.TabIs Tryd.prog W "internal/strconv.uint64pow10" .u64 Lib.pow10Tab

theorem StS.on {w : World} {ss ts us vs xs : List SymD} {a1 a2 a3 a4 a5 : Option Addr} {W W' : World} (h : StS w ss ts us vs xs a1 a2 a3 a4 a5 W) (hb : Below W.heap.size W W') : StS w ss ts us vs xs a1 a2 a3 a4 a5 W' :=
  ⟨h.bel.trans (hb.mono h.bel.size), h.s.below hb, h.t.below hb, h.u.below hb, h.v.below hb, h.x.below hb, tab_below gPow (by decide) h.tab hb⟩

set_option maxHeartbeats 3200000 in
set_option maxRecDepth 100000 in
theorem sigs_small (a : Option Addr) (bs : List Int) (cap : Nat) (w : World) (hl : bs.length ≤ 1048576) (hr : ∀ c, w.heap.size ≤ c → RdB w c a bs) (htab : Lib.TabIs Tryd.prog w "internal/strconv.uint64pow10" .u64 Lib.pow10Tab) :
    Calls Tryd.prog 3 #[.slice a bs.length cap] w fun e w' => e = .returned (.bool true) ∧ Below w.heap.size w w' := by
  have hbig' : ¬ (1048576 : Int) < (bs.length : Int) := by omega
  go_enter Tryd.func3, Tryd.ntmps3
  go_wp2_with (first
    | (go_at_call 4; go_in)
    | (go_at_call 5; refine (drawSigOk_any a bs _ cap _ rfl hl hr).mono ?_; rintro e w1 ⟨gs, os, lcs, ss, rfl, hss, hs1, hb1⟩; have hr1 := codeOn hr hb1; clear hr))
  go_wp2_with (go_at_call 6; refine (drawSymOf_any a bs _ cap _ rfl hl hr1).mono ?_; rintro e w2 ⟨gt, ot, lct, ts, nm, rfl, hnm, hts, ht2, hb2⟩; have hr2 := codeOn hr1 hb2; have hs2 := hs1.below hb2; have hB2 := hb1.trans (hb2.mono hb1.size); clear hr1 hs1 hb1 hb2)
  go_wp2_with (go_at_call 7; refine (drawBlind_any a bs _ cap _ rfl hl hr2).mono ?_; rintro e w3 ⟨gu, ou, lcu, us, fu, rfl, hfu, hus, hu3, hb3⟩; have hr3 := codeOn hr2 hb3; have hs3 := hs2.below hb3; have ht3 := ht2.below hb3; have hB3 := hB2.trans (hb3.mono hB2.size); clear hr2 hs2 ht2 hB2 hb3)
  go_wp2_with (go_at_call 8; refine (drawArity_any a bs _ cap _ rfl hl hr3).mono ?_; rintro e w4 ⟨gv, ov, lcv, vs, fv, rfl, hfv, hvs, hv4, hb4⟩; have hr4 := codeOn hr3 hb4; have hs4 := hs3.below hb4; have ht4 := ht3.below hb4; have hu4 := hu3.below hb4; have hB4 := hB3.trans (hb4.mono hB3.size); clear hr3 hs3 ht3 hu3 hB3 hb4)
  go_wp2_with (go_at_call 9; refine (drawSigText_any a bs _ cap _ rfl hl hr4).mono ?_; rintro e w5 ⟨gx, ox, lcx, xs, rfl, hxs, hx5, hb5⟩; have hr5 := codeOn hr4 hb5; have hs5 := hs4.below hb5; have ht5 := ht4.below hb5; have hu5 := hu4.below hb5; have hv5 := hv4.below hb5; have hB5 := hB4.trans (hb5.mono hB4.size); clear hr4 hs4 ht4 hu4 hv4 hB4 hb5)
  go_wp2_with (go_at_call 10; refine (drawNameOk_any a bs _ cap _ rfl hl hr5).mono ?_; rintro e w6 ⟨n6, rfl, hn6, hb6⟩; have S6 : StS w ss ts us vs xs (some ⟨gs, os, none⟩) (some ⟨gt, ot, none⟩) (some ⟨gu, ou, none⟩) (some ⟨gv, ov, none⟩) (some ⟨gx, ox, none⟩) w6 := ⟨hB5.trans (hb6.mono hB5.size), hs5.below hb6, ht5.below hb6, hu5.below hb6, hv5.below hb6, hx5.below hb6, tab_below gPow (by decide) htab (hB5.trans (hb6.mono hB5.size))⟩; clear hr5 hs5 ht5 hu5 hv5 hx5 hB5 hb6 htab)
  have Ms := sm_of hss
  have Mt := sm_of hts
  have Mu := sm_of hus
  have Mv := sm_of hvs
  have Mx := sm_of hxs
  obtain ⟨hfu0, hfu1⟩ := hfu
  obtain ⟨hfv0, hfv1⟩ := hfv
  clear hss hts hus hvs hxs
  have hnmx : nm.size ≤ maxLen := by unfold maxLen; omega
  go_wp2_with (go_at_call 11; refine (impSigOk_any _ ss _ lcs _ rfl S6.s Ms.max).mono ?_; rintro e w7 ⟨rfl, hb7⟩; have S7 := S6.on hb7; clear S6 hb7)
  go_wp2_with (go_at_call 12; refine (specSigOk_any _ ss _ lcs _ rfl S7.s Ms.len2 Ms.name).mono ?_; rintro e w8 ⟨rfl, hw⟩; subst w8)
  go_wp2_with (go_at_call 13; refine (impSymOf_any _ ts _ lct nm _ rfl S7.t Mt.len2 Mt.max hnmx).mono ?_; rintro e w9 ⟨rfl, hb9⟩; have S9 := S7.on hb9; clear S7 hb9)
  go_wp2_with (go_at_call 14; refine (specSymOf_any _ ts _ lct nm _ rfl S9.t Mt.len2).mono ?_; rintro e w10 ⟨rfl, hw⟩; subst w10)
  go_wp2_with (go_at_call 15; refine (impBlind_any _ us _ lcu fu _ rfl S9.u).mono ?_; rintro e w11 ⟨rfl, hw⟩; subst w11)
  go_wp2_with (go_at_call 16; refine (specBlind_any _ us _ lcu fu _ rfl S9.u Mu.len2 (by omega) (by omega)).mono ?_; rintro e w12 ⟨rfl, hw⟩; subst w12)
  go_wp2_with (go_at_call 17; refine (impArity_any _ vs _ lcv fv _ rfl S9.v).mono ?_; rintro e w13 ⟨rfl, hw⟩; subst w13)
  go_wp2_with (go_at_call 18; refine (specArity_any _ vs _ lcv fv _ rfl S9.v Mv.len2 (by omega) (by omega)).mono ?_; rintro e w14 ⟨rfl, hw⟩; subst w14)
  go_wp2_with (go_at_call 19; refine (impSigText_any _ xs _ lcx _ rfl S9.x Mx.len2 Mx.bytes Mx.ar Mx.max S9.tab).mono ?_; rintro e w15 ⟨rfl, hb15⟩; have S15 := S9.on hb15; clear S9 hb15)
  go_wp2_with (go_at_call 20; refine (specSigText_any _ xs _ lcx _ rfl S15.x Mx.len2 Mx.bytes Mx.ar).mono ?_; rintro e w16 ⟨rfl, hb16⟩; have S16 := S15.on hb16; clear S15 hb16)
  go_wp2_with (go_at_call 21; refine (impNameOk_any n6 _).mono ?_; rintro e w17 ⟨rfl, hw⟩; subst w17)
  go_wp2_with (go_at_call 22; refine (specNameOk_any n6 _ (by omega)).mono ?_; rintro e w18 ⟨rfl, hw⟩; subst w18)
  have hs16 := S16.s
  have hb16 := S16.bel
  clear S16 Mt Mu Mv Mx hnmx hnm hfu0 hfu1 hfv0 hfv1 hn6
  go_loopw [12] (fun i wr => ∃ k : Nat, k ≤ ss.length ∧ i = .int .i64 k ∧ RdS wr (some ⟨gs, os, none⟩) ss ∧ Below w.heap.size w wr) (fun i _ => ss.length - (intOf i).toNat)
  case atStart => exact ⟨0, Nat.zero_le _, rfl, hs16, hb16⟩
  case round =>
    obtain ⟨k, hk, rfl, hsr, hbr⟩ := hrel
    clear hs16 hb16
    have hss9 := Ms.len
    by_cases hk' : k < ss.length
    · have hki : (k : Int) < (ss.length : Int) := by omega
      have SO := impSigOk_any _ ss _ lcs _ rfl hsr Ms.max
      cases hok : sigOk ss with
      | false =>
        rw [hok] at SO
        go_wp2_with (go_at_call 11; refine SO.mono ?_; rintro e w20 ⟨rfl, hb20⟩)
        go_ret
        exact ⟨rfl, hbr.trans (hb20.mono hbr.size)⟩
      | true =>
        rw [hok] at SO
        have HY : Hid (symOf ss ss[k].name = (k : Int)) := sig_sym hok hk'
        have HA : Hid (arityAt ss k = ss[k].ar) := arityAt_in hk'
        have hns := Ms.max ss[k] (List.getElem_mem hk')
        go_wp2_with (go_at_call 11; (refine SO.mono ?_; rintro e w20 ⟨rfl, hb20⟩; have hs20 := hsr.below hb20; have hB20 := hbr.trans (hb20.mono hbr.size); clear SO hsr hbr hb20))
        obtain ⟨hglt, c0, c1, c2⟩ := RdS.cells hs20 hk'
        have SY := fun (w' : World) (h : Below w20.heap.size w20 w') => impSymOf_any _ ss _ lcs ss[k].name w' rfl (hs20.below h) Ms.len2 Ms.max hns
        have AR := fun (w' : World) (h : Below w20.heap.size w20 w') => impArity_any _ ss _ lcs (k : Int) w' rfl (hs20.below h)
        rw [HY.out] at SY
        rw [HA.out] at AR
        have HS20 : Hid (RdS w20 (some ⟨gs, os, none⟩) ss) := hs20
        clear hs20 hok HY HA
        go_region_held3 (fun w' => w'.cell? ⟨gs, os + k * 3, none⟩ = some (.string ss[k].name) ∧ w'.cell? ⟨gs, os + k * 3 + 1, none⟩ = some (.int .i64 ss[k].ar)) (first | go_keep | exact ⟨p0, p1⟩)
          (first
            | (go_at_call 13; refine (SY _ ?_).mono ?_; exact (Below.refl _ _).drew; rintro e w21 ⟨rfl, hb21⟩; have hc21 : Below w20.heap.size w20 w21 := (Below.refl _ _).drew.trans hb21; have p0 := (hc21.cell (p := ⟨gs, os + k * 3, none⟩) hglt).trans c0; have p1 := (hc21.cell (p := ⟨gs, os + k * 3 + 1, none⟩) hglt).trans c1; clear hb21)
            | (go_at_call 17; refine (AR _ ?_).mono ?_; exact hc21; rintro e w22 ⟨rfl, hw⟩; subst w22))
        go_wp2
        go_roundw
        case rel => exact ⟨k + 1, by omega, by go_num, HS20.out.below hc21, hB20.trans (hc21.mono hB20.size)⟩
        case measure => simp [intOf]; omega
    · go_wp2
      go_ret
      exact ⟨rfl, hbr⟩
end Go.Proofs.YtpcimneinnanbaaDoor
