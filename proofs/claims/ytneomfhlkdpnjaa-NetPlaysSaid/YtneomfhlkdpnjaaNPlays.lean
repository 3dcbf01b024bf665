/-
  NetPlays: for every row of steps, whatever is sent, delivered, dropped, doubled, cleared and peeked at, the code's net answers as the reference net does and holds the same packets; the law returns true, and what was there has not turned. No condition.
-/
import Derived.BigRegion
import Derived.Deep.RegionHeld3
import Derived.Deep.RegionLaw
import Derived.StillTailTactics
import Derived.Deep.CutBlock
import Derived.Test.YtneomfhlkdpnjaaProg
import Derived.Test.YtneomfhlkdpnjaaKit
import Derived.Test.YtneomfhlkdpnjaaLaw
import Derived.Test.YtneomfhlkdpnjaaRow
import Derived.Test.YtneomfhlkdpnjaaRow2
import Derived.Test.YtneomfhlkdpnjaaCod5
import Derived.Test.YtneomfhlkdpnjaaCod7
import Derived.Test.YtneomfhlkdpnjaaFrm4
import Derived.Test.YtneomfhlkdpnjaaDsk17
import Derived.Test.YtneomfhlkdpnjaaNet0
import Derived.Test.YtneomfhlkdpnjaaNet1
import Derived.Test.YtneomfhlkdpnjaaStp
import Derived.Test.YtneomfhlkdpnjaaNet6
import Derived.Test.YtneomfhlkdpnjaaNet12
import Derived.Test.YtneomfhlkdpnjaaNet13
import Derived.Test.YtneomfhlkdpnjaaNet17
import Derived.Test.YtneomfhlkdpnjaaRnt5
import Derived.Test.YtneomfhlkdpnjaaNpl0
import Derived.Test.YtneomfhlkdpnjaaNpl1
namespace Go.Proofs.Ytneomfhlkdpnjaa
open Go.ChangeShapes Go.WideShapes Go.ChangeAt Go.RowKit Go.Proofs
open Go.ChangeMaps (open_string shut_string)

theorem or7 {a b c d e f g p : Prop} (h : a ∨ b ∨ c ∨ d ∨ e ∨ f ∨ g) (ha : a → p) (hb : b → p) (hc : c → p) (hd : d → p) (he : e → p) (hf : f → p) (hg : g → p) : p := by
  rcases h with h | h | h | h | h | h | h
  · exact ha h
  · exact hb h
  · exact hc h
  · exact hd h
  · exact he h
  · exact hf h
  · exact hg h

/-- Packets that may be on their way. -/
def TravA (ps : List PkM) : Prop := ∀ p ∈ ps, travB p = true

theorem travA_send : ∀ (ls ps : List PkM), TravA ps → TravA (sendM ps ls).2
  | [], ps, h => h
  | x :: r, ps, h => by
    unfold sendM
    split
    · rename_i hc
      simp only [Bool.and_eq_true] at hc
      refine travA_send r (ps ++ [x]) (fun p hp => ?_)
      rcases List.mem_append.1 hp with hp | hp
      · exact h p hp
      · simp at hp
        subst hp
        exact hc.2
    · exact travA_send r ps h

theorem left_len (k : Int) (ps : List PkM) : (leftM k ps).length ≤ ps.length := List.length_filter_le _ _

/-- What a round leaves. -/
def RoundE (w0 w : World) (g h : Nat) (ps : List PkM) (Z : Nat → Prop) : Prop := ps.length ≤ 64 ∧ TravA ps ∧ Both w0 w Z g h ps ps

def RoundX (w0 w : World) (g h : Nat) (Z : Nat → Prop) : Prop := ∃ ps, RoundE w0 w g h ps Z

theorem roundX_mk {w0 w : World} {g h : Nat} {ps : List PkM} {Z : Nat → Prop} (H : Both w0 w Z g h ps ps) (h1 : ps.length ≤ 64) (h2 : TravA ps) : RoundX w0 w g h Z := ⟨ps, h1, h2, H⟩

theorem roundX_len {w0 w : World} {g h : Nat} {Z : Nat → Prop} (H : RoundX w0 w g h Z) : ∃ (N : Nat) (a : Option Addr) (c : Nat), w.cell? ⟨h, 0, none⟩ = some (.slice a N c) ∧ ∀ m, Calls Try.prog 25 #[.pointer (some ⟨g, 0, none⟩)] (w.drewN m) fun e w' => e = .returned (.int .i64 N) ∧ w' = w.drewN m := by
  obtain ⟨ps, h1, h2, H⟩ := H
  obtain ⟨a, c, hc⟩ := both_cell H
  exact ⟨ps.length, a, c, hc, fun m => both_len (both_below H (below_drewN (Below.refl _ _) m))⟩

theorem roundX_end {w0 w : World} {g h : Nat} {Z : Nat → Prop} (H : RoundX w0 w g h Z) (m : Nat) : ∃ ps, RoundE w0 (w.drewN m) g h ps (fun _ => False) := by
  obtain ⟨ps, h1, h2, H⟩ := H
  exact ⟨ps, h1, h2, both_less (both_below H (below_drewN (Below.refl _ _) m)) (fun _ h => h.elim)⟩

theorem stay_cell {w w' : World} {Z : Nat → Prop} (h : Stay w w' Z) {b j : Nat} (hb : Z b) {x : Value} (hc : w.cell? ⟨b, j, none⟩ = some x) : w'.cell? ⟨b, j, none⟩ = some x := cell_same hc (h.1 b hb)

theorem below_cell {w w' : World} (h : Below w.heap.size w w') {b j : Nat} {x : Value} (hc : w.cell? ⟨b, j, none⟩ = some x) : w'.cell? ⟨b, j, none⟩ = some x := cell_same hc (h.block b (block_of_cell hc))

set_option maxRecDepth 100000 in
set_option maxHeartbeats 8000000 in
theorem netPlays_any (v : Value) (ss : List StepM) (w : World) (hs : StepsZ w v ss) :
    Calls Try.prog 4 #[v] w fun e w' => e = .returned (.bool true) ∧ Below w.heap.size w w' := by
  obtain ⟨A, C, rfl, hin⟩ := hs
  obtain ⟨n, hnn⟩ : ∃ n, n = ss.length := ⟨_, rfl⟩
  rw [← hnn]
  have HN := Lib.hid hnn
  have HIN := Lib.hid hin
  clear hnn hin
  have hz := zero_cells Try.infoPkz
  by_cases hbig : (150 : Int) < (n : Int)
  · have HAW := Lib.hid (nawake_any w)
    go_enter Try.func4, Try.ntmps4
    go_wp2_with fail
    refine (HAW.out).mono ?_
    rintro e w1 ⟨rfl, hb⟩
    have HB := Lib.hid hb
    clear hb
    go_wp2_with fail
    go_ret
    exact ⟨rfl, HB.out⟩
  have HNB : Hid (n ≤ 150) := Lib.hid (by omega)
  go_enter Try.func4, Try.ntmps4
  go_wp2_with fail
  refine (nnew_any w).mono ?_
  rintro e w1 ⟨rfl, hw1⟩
  have hB0 : Both w (w1.alloc (.cells #[.slice none 0 0] 45)) (fun _ => False) w.heap.size (w.heap.size + 1) [] [] := by
    rw [hw1]
    have h1 : NetAt 93 (w.alloc (.cells #[.slice none 0 0] 93)) w.heap.size (.slice none 0 0) [] := netAt_new
    have h2 : NetAt 45 ((w.alloc (.cells #[.slice none 0 0] 93)).alloc (.cells #[.slice none 0 0] 45)) (w.alloc (.cells #[.slice none 0 0] 93)).heap.size (.slice none 0 0) [] := netAt_new
    have hn : (w.alloc (.cells #[.slice none 0 0] 93)).heap.size = w.heap.size + 1 := by simp
    rw [hn] at h2
    exact ⟨.slice none 0 0, [], .slice none 0 0, [], netAt_below h1 (below_more (Below.refl _ _) _), h2, rfl, rfl, ⟨Nat.le_refl _, Nat.le_succ _⟩, fun k hk => by simp [Value.ownBlock] at hk, fun k hk => by simp [Value.ownBlock] at hk, fun k hk => by simp [Value.ownBlock] at hk, below_more (below_more (Below.refl _ _) _) _, fun _ h => h.elim⟩
  have HB0 := Lib.hid hB0
  have hsz : w1.heap.size = w.heap.size + 1 := by rw [hw1]; simp
  have HSZ := Lib.hid hsz
  clear hw1 hB0 hsz
  go_wp2_with fail
  rw [HSZ.out]
  obtain ⟨w2, hw2⟩ : ∃ w2, w2 = w1.alloc (.cells #[.slice none 0 0] 45) := ⟨_, rfl⟩
  obtain ⟨g, hg⟩ : ∃ g, g = w.heap.size := ⟨_, rfl⟩
  obtain ⟨h, hh⟩ : ∃ h, h = w.heap.size + 1 := ⟨_, rfl⟩
  rw [← hw2, ← hh, ← hg] at HB0
  rw [← hw2, ← hh, ← hg]
  clear hw2 HSZ hg hh
  go_loopw [5] (fun iv wr => ∃ (i : Nat) (ps : List PkM), i ≤ n ∧ iv = .int .i64 i ∧ Hid (RoundE w wr g h ps (fun _ => False))) (fun iv _ => n - (intOf iv).toNat)
  case atStart => exact ⟨0, [], Nat.zero_le _, rfl, Lib.hid ⟨by simp, fun p hp => by simp at hp, HB0.out⟩⟩
  case round =>
    obtain ⟨i, ps, hi', rfl, HR⟩ := hrel
    obtain ⟨w3, hw3⟩ : ∃ w3 : World, w3 = wr := ⟨_, rfl⟩
    subst hw3
    by_cases hlt : i < n
    · obtain ⟨s, hs⟩ : ∃ s, ss[i]? = some s := ⟨_, List.getElem?_eq_getElem (by rw [← HN.out]; exact hlt)⟩
      obtain ⟨b, o, rfl, hbl, hcell⟩ := HIN.out.resolve_left (fun e => by rw [e] at hs; simp at hs)
      obtain ⟨lv, hrange, hpk⟩ := hcell i s hs
      obtain ⟨kd, ls, k⟩ := s
      dsimp only at hrange hpk
      have hbw := both_all HR.out.2.2
      have d0 : w3.cell? ⟨b, o + i * 3, none⟩ = some (.int .i64 kd) := by rw [hbw.cell hbl]; exact hrange 0 _ rfl
      have d1 : w3.cell? ⟨b, o + i * 3 + 1, none⟩ = some lv := by rw [hbw.cell hbl]; exact hrange 1 _ rfl
      have d2 : w3.cell? ⟨b, o + i * 3 + 2, none⟩ = some (.int .i64 k) := by rw [hbw.cell hbl]; exact hrange 2 _ rfl
      obtain ⟨A2, C2, rfl, hpk2⟩ := hpk
      obtain ⟨m, hm⟩ : ∃ m, m = ls.length := ⟨_, rfl⟩
      have HPK : Hid (PksZ w (fun k => k < w.heap.size) (.slice A2 m C2) ls) := Lib.hid ⟨A2, C2, by rw [hm], hpk2⟩
      have HM := Lib.hid hm
      rw [← hm] at d1
      obtain ⟨gs, hgs⟩ : ∃ gs, gs = w3.heap.size := ⟨_, rfl⟩
      have hb34 : Below w3.heap.size w3 (w3.alloc (.cells #[.int .i64 kd, .slice A2 m C2, .int .i64 k] 47)) := below_more (Below.refl _ _) _
      have HB4 : Hid (Both w (w3.alloc (.cells #[.int .i64 kd, .slice A2 m C2, .int .i64 k] 47)) (fun k => k = gs) g h ps ps) := Lib.hid (both_less (both_below HR.out.2.2 hb34) (fun x hx => .inr (by subst hx; rw [hgs]; exact ⟨Nat.le_refl _, by simp⟩)))
      have hr4 : Rw (w3.alloc (.cells #[.int .i64 kd, .slice A2 m C2, .int .i64 k] 47)) 0 gs 47 [.int .i64 kd, .slice A2 m C2, .int .i64 k] := by rw [hgs]; exact Rw.alloc w3 _ _ (Nat.zero_le _)
      have HR4 := Lib.hid hr4
      have hy : (i : Int) < (n : Int) := by omega
      have hi150 : (i : Int) < 150 := by have := HNB.out; omega
      have HI := Lib.hid hlt
      have HGS := Lib.hid hgs
      have HPS := Lib.hid HR.out.1
      have HTA := Lib.hid HR.out.2.1
      clear hs hbl hcell hrange hbw hpk2 hm hgs hb34 hr4 hlt hi'
      by_cases hm1 : (100 : Int) < (m : Int)
      · go_wp2_with fail
        refine (nawake_any _).mono ?_
        rintro e w5 ⟨rfl, hb5⟩
        have HE := Lib.hid ((both_all HB4.out).trans (hb5.mono (both_all HB4.out).size))
        clear hb5
        go_wp2_with fail
        go_ret
        exact ⟨rfl, HE.out⟩
      have HM1 : Hid (ls.length ≤ 100) := Lib.hid (by rw [← HM.out]; omega)
      have hcase : kd = 1 ∨ kd = 2 ∨ kd = 3 ∨ kd = 4 ∨ kd = 5 ∨ kd = 6 ∨ (¬ kd = 1 ∧ ¬ kd = 2 ∧ ¬ kd = 3 ∧ ¬ kd = 4 ∧ ¬ kd = 5 ∧ ¬ kd = 6) := by omega
      go_upto_block 2 with fail
      rw [← HGS.out]
      obtain ⟨w4, hw4⟩ : ∃ w4, w4 = w3.alloc (.cells #[.int .i64 kd, .slice A2 m C2, .int .i64 k] 47) := ⟨_, rfl⟩
      rw [← hw4] at HB4 HR4 ⊢
      have c40 : w4.cell? ⟨gs, 0, none⟩ = some (.int .i64 kd) := Rw.cell HR4.out rfl
      have c41 : w4.cell? ⟨gs, 1, none⟩ = some (.slice A2 m C2) := Rw.cell HR4.out rfl
      have c42 : w4.cell? ⟨gs, 2, none⟩ = some (.int .i64 k) := Rw.cell HR4.out rfl
      clear hw4 d0 d1 d2 hy hm1
      go_cut [7, 8, 9, 10, 11, 12, 13, 14, 15, 16, 17] from 30 to 154 (fun c7 _ _ _ _ _ _ _ _ _ _ wx => c7 = .bool true ∧ Hid (RoundX w wx g h (fun k => k = gs)))
      case first =>
        refine or7 hcase ?K1 ?K2 ?K3 ?K4 ?K5 ?K6 ?K7
        case K1 =>
          rintro rfl
          clear hcase
          have hen1 : Enters Try.prog 13 := enters_of Try.func13 (by kernel_rfl) rfl
          have hen2 : Enters Try.prog 14 := enters_of Try.func14 (by kernel_rfl) rfl
          go_wp2_with fail
          have HBD := Lib.hid (both_less (Z' := fun k => k = gs) (both_below HB4.out (below_draws (Below.refl _ _) ⟨1, rfl⟩)) (fun _ h => .inl h))
          have hc4 : w4.cell? ⟨gs, 1, none⟩ = some (.slice A2 m C2) := Rw.cell HR4.out rfl
          have HC4 : Hid (w4.drew.cell? ⟨gs, 1, none⟩ = some (.slice A2 m C2)) := Lib.hid (below_cell (below_draws (Below.refl _ _) ⟨1, rfl⟩) hc4)
          go_region_law
            (first
              | (refine step_call rfl 13 _ _ rfl #[.pointer (some ⟨g, 0, none⟩), .slice A2 m C2] (by simp [go_sem]) hen1 (both_send HBD.out HPK.out HM1.out HPS.out) ?_; rintro e w5 ⟨rfl, hb5, hs5⟩; refine ⟨_, rfl, ?_⟩; have HB5 := Lib.hid hb5; have hc5 := stay_cell hs5 rfl HC4.out; have HC5 := Lib.hid hc5; clear hb5 hs5)
              | (refine step_call rfl 13 _ _ rfl #[.pointer (some ⟨g, 0, none⟩), .slice A2 m C2] (by simp [go_sem]) hen1 (both_send HB6.out HPK.out HM1.out HPS.out) ?_; rintro e w5 ⟨rfl, hb5, hs5⟩; refine ⟨_, rfl, ?_⟩; have HB5 := Lib.hid hb5; have hc5 := stay_cell hs5 rfl HC6.out; have HC5 := Lib.hid hc5; clear hb5 hs5)
              | (refine step_call rfl 14 _ _ rfl #[.pointer (some ⟨h, 0, none⟩), .slice A2 m C2] (by simp [go_sem]) hen2 (both_rsend HBD.out HPK.out HM1.out HPS.out) ?_; rintro e w6 ⟨rfl, hb6, hs6⟩; refine ⟨_, rfl, ?_⟩; have HB6 := Lib.hid hb6; have hc6 := stay_cell hs6 rfl HC4.out; have HC6 := Lib.hid hc6; clear hb6 hs6)
              | (refine step_call rfl 14 _ _ rfl #[.pointer (some ⟨h, 0, none⟩), .slice A2 m C2] (by simp [go_sem]) hen2 (both_rsend HB5.out HPK.out HM1.out HPS.out) ?_; rintro e w6 ⟨rfl, hb6, hs6⟩; refine ⟨_, rfl, ?_⟩; have HB6 := Lib.hid hb6; have hc6 := stay_cell hs6 rfl HC5.out; have HC6 := Lib.hid hc6; clear hb6 hs6))
          all_goals
            have hl2 : (sendM ps ls).2.length ≤ 64 := (sendM_len ls ps HPS.out).1
            have HL2 := Lib.hid hl2
            clear hl2
            first
              | have HZ := Lib.hid (roundX_mk HB6.out HL2.out (travA_send ls ps HTA.out))
              | have HZ := Lib.hid (roundX_mk HB5.out HL2.out (travA_send ls ps HTA.out))
            clear hc5 hc6 hc4
            go_wp2_with fail
            go_meet
            exact ⟨rfl, HZ⟩
        case K2 =>
          rintro rfl
          clear hcase
          obtain ⟨bk, hbk⟩ : ∃ bk, bk = inNB k ps.length := ⟨_, rfl⟩
          cases bk
          case false =>
            have hno : inNB k ps.length = false := by rw [← hbk]
            have HNO := Lib.hid hno
            clear hbk hno
            go_wp2_with fail
            refine (both_no_deliver HB4.out HNO.out).mono ?_
            rintro e w5 ⟨rfl, hb5⟩
            unfold zeroPk
            have hb45 := below_more hb5 (.cells #[.int .i64 0, .int .i64 0, .slice none 0 0] 52)
            have HB5 : Hid (Both w (w5.alloc (.cells #[.int .i64 0, .int .i64 0, .slice none 0 0] 52)) (fun x => x = gs) g h ps ps) := Lib.hid (both_less (both_below HB4.out hb45) (fun _ hx => .inl hx))
            have HR5 : Hid (Rw (w5.alloc (.cells #[.int .i64 0, .int .i64 0, .slice none 0 0] 52)) 0 w5.heap.size 52 [.int .i64 0, .int .i64 0, .slice none 0 0]) := Lib.hid (Rw.alloc w5 _ _ (Nat.zero_le _))
            have c52 := below_cell hb45 c42
            clear hb5 hb45 c42
            dsimp only
            go_wp2_with (first | (refine wpList_alloc_z rfl 52 rfl #[.int .i64 0, .int .i64 0, .slice none 0 0] hz ?_) | fail)
            refine (both_no_rdeliver HB5.out HNO.out).mono ?_
            rintro e w6 ⟨rfl, hb6⟩
            unfold zeroPk
            have hb56 := below_more hb6 (.cells #[.int .i64 0, .int .i64 0, .slice none 0 0] 52)
            have HB6 : Hid (Both w (w6.alloc (.cells #[.int .i64 0, .int .i64 0, .slice none 0 0] 52)) (fun x => x = gs) g h ps ps) := Lib.hid (both_less (both_below HB5.out hb56) (fun _ hx => .inl hx))
            have hr6 := Rw.below HR5.out hb56
            have p0 := Rw.cell hr6 (j := 0) rfl
            have p1 := Rw.cell hr6 (j := 1) rfl
            have p2 := Rw.cell hr6 (j := 2) rfl
            clear hb6 hb56 c52 hr6
            dsimp only
            go_wp2_with (first | (refine wpList_alloc_z rfl 52 rfl #[.int .i64 0, .int .i64 0, .slice none 0 0] hz ?_) | fail)
            refine (alike_any 0 0 [] (.slice none 0 0) (.slice none 0 0) _ (by simp) (SliceAt.nil _) (SliceAt.nil _)).mono ?_
            rintro e w7 ⟨rfl, hb7⟩
            have HZ := Lib.hid (roundX_mk (both_less (Z' := fun x => x = gs) (both_below HB6.out hb7) (fun _ hx => .inl hx)) HPS.out HTA.out)
            clear p0 p1 p2 hb7
            go_wp2_with fail
            go_meet
            exact ⟨rfl, HZ⟩
          case true =>
            obtain ⟨kk, rfl, hkl⟩ := inNB_of hbk.symm
            obtain ⟨⟨pf, pt, pb⟩, hp⟩ : ∃ p, ps[kk]? = some p := ⟨_, List.getElem?_eq_getElem hkl⟩
            have HP := Lib.hid hp
            clear hbk hkl hp
            go_wp2_with fail
            refine (both_deliver HB4.out HP.out HPS.out).mono ?_
            rintro e w5 ⟨a5, c5, rfl, ho5, hlen, hb5, hs5⟩
            dsimp only at ho5 hlen ⊢
            have hb55 := below_more (Below.refl _ w5) (.cells #[.int .i64 pf, .int .i64 pt, .slice a5 pb.length c5] 52)
            have HB5 : Hid (Both w (w5.alloc (.cells #[.int .i64 pf, .int .i64 pt, .slice a5 pb.length c5] 52)) (fun x => x = gs ∨ x = w5.heap.size) g h (ps.eraseIdx kk) ps) := Lib.hid (both_less (both_below hb5 hb55) (fun x hx => hx.imp id (fun h => by subst h; exact ⟨Nat.le_refl _, by simp⟩)))
            have HR5 : Hid (Rw (w5.alloc (.cells #[.int .i64 pf, .int .i64 pt, .slice a5 pb.length c5] 52)) 0 w5.heap.size 52 [.int .i64 pf, .int .i64 pt, .slice a5 pb.length c5]) := Lib.hid (Rw.alloc w5 _ _ (Nat.zero_le _))
            have c52 := below_cell hb55 (stay_cell hs5 rfl c42)
            have HO5 := Lib.hid (own_below ho5 hb55)
            have HLE := Lib.hid hlen
            clear hb5 hs5 ho5 hb55 c42 hlen
            go_wp2_with (first | (refine wpList_alloc_z rfl 52 rfl #[.int .i64 0, .int .i64 0, .slice none 0 0] hz ?_) | fail)
            refine (both_rdeliver HB5.out HP.out HPS.out).mono ?_
            rintro e w6 ⟨a6, c6, rfl, ho6, _, hb6, hs6⟩
            dsimp only at ho6 ⊢
            have hb66 := below_more (Below.refl _ w6) (.cells #[.int .i64 pf, .int .i64 pt, .slice a6 pb.length c6] 52)
            have HB6 : Hid (Both w (w6.alloc (.cells #[.int .i64 pf, .int .i64 pt, .slice a6 pb.length c6] 52)) (fun x => x = gs) g h (ps.eraseIdx kk) (ps.eraseIdx kk)) := Lib.hid (both_less (both_below hb6 hb66) (fun x hx => .inl (.inl hx)))
            have hr6 : Rw (w6.alloc (.cells #[.int .i64 pf, .int .i64 pt, .slice a6 pb.length c6] 52)) 0 w5.heap.size 52 [.int .i64 pf, .int .i64 pt, .slice a5 pb.length c5] := Rw.below (w := w6) ⟨Nat.zero_le _, (hs6.1 _ (.inr rfl)).trans HR5.out.2⟩ hb66
            have p0 := Rw.cell hr6 (j := 0) rfl
            have p1 := Rw.cell hr6 (j := 1) rfl
            have p2 := Rw.cell hr6 (j := 2) rfl
            have HO56 := Lib.hid (own_below (hs6.2 _ _ _ HO5.out) hb66)
            have HO6 := Lib.hid (own_below ho6 hb66)
            clear hb6 hs6 ho6 hb66 c52 hr6
            go_wp2_with (first | (refine wpList_alloc_z rfl 52 rfl #[.int .i64 0, .int .i64 0, .slice none 0 0] hz ?_) | fail)
            refine (alike_any pf pt pb (.slice a5 pb.length c5) (.slice a6 pb.length c6) _ HLE.out (SliceAt.own HO56.out) (SliceAt.own HO6.out)).mono ?_
            rintro e w7 ⟨rfl, hb7⟩
            have HZ := Lib.hid (roundX_mk (both_less (Z' := fun x => x = gs) (both_below HB6.out hb7) (fun _ hx => .inl hx)) (Nat.le_trans (List.length_eraseIdx_le ps kk) HPS.out) (fun p hp => HTA.out p (List.mem_of_mem_eraseIdx hp)))
            clear p0 p1 p2 hb7
            go_wp2_with fail
            go_meet
            exact ⟨rfl, HZ⟩
        case K3 =>
          rintro rfl
          clear hcase
          obtain ⟨bk, hbk⟩ : ∃ bk, bk = inNB k ps.length := ⟨_, rfl⟩
          cases bk
          case false =>
            have hno : inNB k ps.length = false := by rw [← hbk]
            have HNO := Lib.hid hno
            clear hbk hno
            go_wp2_with fail
            refine (both_no_rdeliver HB4.out HNO.out).mono ?_
            rintro e w5 ⟨rfl, hb5⟩
            unfold zeroPk
            have hb45 := below_more hb5 (.cells #[.int .i64 0, .int .i64 0, .slice none 0 0] 52)
            have HB5 : Hid (Both w (w5.alloc (.cells #[.int .i64 0, .int .i64 0, .slice none 0 0] 52)) (fun x => x = gs) g h ps ps) := Lib.hid (both_less (both_below HB4.out hb45) (fun _ hx => .inl hx))
            have c52 := below_cell hb45 c42
            clear hb5 hb45 c42
            dsimp only
            go_wp2_with (first | (refine wpList_alloc_z rfl 52 rfl #[.int .i64 0, .int .i64 0, .slice none 0 0] hz ?_) | fail)
            refine (both_no_drop HB5.out HNO.out).mono ?_
            rintro e w6 ⟨rfl, hb6⟩
            have HZ := Lib.hid (roundX_mk (both_less (Z' := fun x => x = gs) (both_below HB5.out hb6) (fun _ hx => .inl hx)) HPS.out HTA.out)
            clear hb6 c52
            go_wp2_with fail
            go_meet
            exact ⟨rfl, HZ⟩
          case true =>
            obtain ⟨kk, rfl, hkl⟩ := inNB_of hbk.symm
            obtain ⟨⟨pf, pt, pb⟩, hp⟩ : ∃ p, ps[kk]? = some p := ⟨_, List.getElem?_eq_getElem hkl⟩
            have HP := Lib.hid hp
            clear hbk hkl hp
            go_wp2_with fail
            refine (both_rdeliver HB4.out HP.out HPS.out).mono ?_
            rintro e w5 ⟨a5, c5, rfl, _, _, hb5, hs5⟩
            dsimp only
            have hb55 := below_more (Below.refl _ w5) (.cells #[.int .i64 pf, .int .i64 pt, .slice a5 pb.length c5] 52)
            have HB5 : Hid (Both w (w5.alloc (.cells #[.int .i64 pf, .int .i64 pt, .slice a5 pb.length c5] 52)) (fun x => x = gs) g h ps (ps.eraseIdx kk)) := Lib.hid (both_less (both_below hb5 hb55) (fun x hx => .inl hx))
            have c52 := below_cell hb55 (stay_cell hs5 rfl c42)
            clear hb5 hs5 hb55 c42
            go_wp2_with (first | (refine wpList_alloc_z rfl 52 rfl #[.int .i64 0, .int .i64 0, .slice none 0 0] hz ?_) | fail)
            refine (both_drop HB5.out HP.out HPS.out).mono ?_
            rintro e w6 ⟨rfl, hb6, hs6⟩
            have HZ := Lib.hid (roundX_mk hb6 (Nat.le_trans (List.length_eraseIdx_le ps kk) HPS.out) (fun p hp => HTA.out p (List.mem_of_mem_eraseIdx hp)))
            clear hb6 hs6 c52
            go_wp2_with fail
            go_meet
            exact ⟨rfl, HZ⟩
        case K4 =>
          rintro rfl
          clear hcase
          obtain ⟨bk, hbk⟩ : ∃ bk, bk = inNB k ps.length := ⟨_, rfl⟩
          cases bk
          case false =>
            have hno : inNB k ps.length = false := by rw [← hbk]
            have HNO := Lib.hid hno
            clear hbk hno
            go_wp2_with fail
            have HBD := Lib.hid (both_less (Z' := fun k => k = gs) (both_below HB4.out (below_draws (Below.refl _ _) ⟨1, rfl⟩)) (fun _ h => .inl h))
            have HC4 : Hid (w4.drew.cell? ⟨gs, 2, none⟩ = some (.int .i64 k)) := Lib.hid (below_cell (below_draws (Below.refl _ _) ⟨1, rfl⟩) c42)
            have HF1 : Hid (∀ (W : World) (qs : List PkM), Both w W (fun k => k = gs) g h ps qs → Calls Try.prog 19 #[.pointer (some ⟨g, 0, none⟩), .int .i64 k] W fun e w' => e = .returned (.bool false) ∧ Both w w' (fun k => k = gs) g h (ps) qs ∧ Stay W w' (fun k => k = gs)) := Lib.hid (fun W qs HB => both_twice_no HB (.inl HNO.out))
            have HF2 : Hid (∀ (W : World) (qs : List PkM), Both w W (fun k => k = gs) g h qs ps → Calls Try.prog 20 #[.pointer (some ⟨h, 0, none⟩), .int .i64 k] W fun e w' => e = .returned (.bool false) ∧ Both w w' (fun k => k = gs) g h qs (ps) ∧ Stay W w' (fun k => k = gs)) := Lib.hid (fun W qs HB => both_no_rtwice HB HNO.out)
            have hen1 : Enters Try.prog 19 := enters_of Try.func19 (by kernel_rfl) rfl
            have hen2 : Enters Try.prog 20 := enters_of Try.func20 (by kernel_rfl) rfl
            go_region_law
              (first
                | (refine step_call rfl 19 _ _ rfl #[.pointer (some ⟨g, 0, none⟩), .int .i64 k] (by simp [go_sem]) hen1 (HF1.out _ _ HBD.out) ?_; rintro e w5 ⟨rfl, hb5, hs5⟩; refine ⟨_, rfl, ?_⟩; have HB5 := Lib.hid hb5; have hc5 := stay_cell hs5 rfl HC4.out; have HC5 := Lib.hid hc5; clear hb5 hs5)
                | (refine step_call rfl 19 _ _ rfl #[.pointer (some ⟨g, 0, none⟩), .int .i64 k] (by simp [go_sem]) hen1 (HF1.out _ _ HB6.out) ?_; rintro e w5 ⟨rfl, hb5, hs5⟩; refine ⟨_, rfl, ?_⟩; have HB5 := Lib.hid hb5; have hc5 := stay_cell hs5 rfl HC6.out; have HC5 := Lib.hid hc5; clear hb5 hs5)
                | (refine step_call rfl 20 _ _ rfl #[.pointer (some ⟨h, 0, none⟩), .int .i64 k] (by simp [go_sem]) hen2 (HF2.out _ _ HBD.out) ?_; rintro e w6 ⟨rfl, hb6, hs6⟩; refine ⟨_, rfl, ?_⟩; have HB6 := Lib.hid hb6; have hc6 := stay_cell hs6 rfl HC4.out; have HC6 := Lib.hid hc6; clear hb6 hs6)
                | (refine step_call rfl 20 _ _ rfl #[.pointer (some ⟨h, 0, none⟩), .int .i64 k] (by simp [go_sem]) hen2 (HF2.out _ _ HB5.out) ?_; rintro e w6 ⟨rfl, hb6, hs6⟩; refine ⟨_, rfl, ?_⟩; have HB6 := Lib.hid hb6; have hc6 := stay_cell hs6 rfl HC5.out; have HC6 := Lib.hid hc6; clear hb6 hs6))
            all_goals
              first
                | have HZ := Lib.hid (roundX_mk HB6.out (HPS.out) (HTA.out))
                | have HZ := Lib.hid (roundX_mk HB5.out (HPS.out) (HTA.out))
              clear hc5 hc6 c42
              go_wp2_with fail
              go_meet
              exact ⟨rfl, HZ⟩
          case true =>
            obtain ⟨kk, rfl, hkl⟩ := inNB_of hbk.symm
            obtain ⟨⟨pf, pt, pb⟩, hp⟩ : ∃ p, ps[kk]? = some p := ⟨_, List.getElem?_eq_getElem hkl⟩
            have HP := Lib.hid hp
            clear hbk hkl hp
            by_cases hfu : ps.length < 64
            case pos =>
              have HFU := Lib.hid hfu
              clear hfu
              go_wp2_with fail
              have HBD := Lib.hid (both_less (Z' := fun k => k = gs) (both_below HB4.out (below_draws (Below.refl _ _) ⟨1, rfl⟩)) (fun _ h => .inl h))
              have HC4 : Hid (w4.drew.cell? ⟨gs, 2, none⟩ = some (.int .i64 kk)) := Lib.hid (below_cell (below_draws (Below.refl _ _) ⟨1, rfl⟩) c42)
              have HF1 : Hid (∀ (W : World) (qs : List PkM), Both w W (fun k => k = gs) g h ps qs → Calls Try.prog 19 #[.pointer (some ⟨g, 0, none⟩), .int .i64 kk] W fun e w' => e = .returned (.bool true) ∧ Both w w' (fun k => k = gs) g h (ps ++ [⟨pf, pt, pb⟩]) qs ∧ Stay W w' (fun k => k = gs)) := Lib.hid (fun W qs HB => both_twice HB HP.out HFU.out)
              have HF2 : Hid (∀ (W : World) (qs : List PkM), Both w W (fun k => k = gs) g h qs ps → Calls Try.prog 20 #[.pointer (some ⟨h, 0, none⟩), .int .i64 kk] W fun e w' => e = .returned (.bool true) ∧ Both w w' (fun k => k = gs) g h qs (ps ++ [⟨pf, pt, pb⟩]) ∧ Stay W w' (fun k => k = gs)) := Lib.hid (fun W qs HB => by
                have h1 := both_rtwice HB HP.out HPS.out
                rw [sendM_one HFU.out (HTA.out _ (List.mem_of_getElem? HP.out))] at h1
                exact h1)
              have hen1 : Enters Try.prog 19 := enters_of Try.func19 (by kernel_rfl) rfl
              have hen2 : Enters Try.prog 20 := enters_of Try.func20 (by kernel_rfl) rfl
              go_region_law
                (first
                  | (refine step_call rfl 19 _ _ rfl #[.pointer (some ⟨g, 0, none⟩), .int .i64 kk] (by simp [go_sem]) hen1 (HF1.out _ _ HBD.out) ?_; rintro e w5 ⟨rfl, hb5, hs5⟩; refine ⟨_, rfl, ?_⟩; have HB5 := Lib.hid hb5; have hc5 := stay_cell hs5 rfl HC4.out; have HC5 := Lib.hid hc5; clear hb5 hs5)
                  | (refine step_call rfl 19 _ _ rfl #[.pointer (some ⟨g, 0, none⟩), .int .i64 kk] (by simp [go_sem]) hen1 (HF1.out _ _ HB6.out) ?_; rintro e w5 ⟨rfl, hb5, hs5⟩; refine ⟨_, rfl, ?_⟩; have HB5 := Lib.hid hb5; have hc5 := stay_cell hs5 rfl HC6.out; have HC5 := Lib.hid hc5; clear hb5 hs5)
                  | (refine step_call rfl 20 _ _ rfl #[.pointer (some ⟨h, 0, none⟩), .int .i64 kk] (by simp [go_sem]) hen2 (HF2.out _ _ HBD.out) ?_; rintro e w6 ⟨rfl, hb6, hs6⟩; refine ⟨_, rfl, ?_⟩; have HB6 := Lib.hid hb6; have hc6 := stay_cell hs6 rfl HC4.out; have HC6 := Lib.hid hc6; clear hb6 hs6)
                  | (refine step_call rfl 20 _ _ rfl #[.pointer (some ⟨h, 0, none⟩), .int .i64 kk] (by simp [go_sem]) hen2 (HF2.out _ _ HB5.out) ?_; rintro e w6 ⟨rfl, hb6, hs6⟩; refine ⟨_, rfl, ?_⟩; have HB6 := Lib.hid hb6; have hc6 := stay_cell hs6 rfl HC5.out; have HC6 := Lib.hid hc6; clear hb6 hs6))
              all_goals
                first
                  | have HZ := Lib.hid (roundX_mk HB6.out (by rw [List.length_append]; exact HFU.out) (fun p hp => (List.mem_append.1 hp).elim (HTA.out p) (fun h2 => by simp at h2; subst h2; exact HTA.out _ (List.mem_of_getElem? HP.out))))
                  | have HZ := Lib.hid (roundX_mk HB5.out (by rw [List.length_append]; exact HFU.out) (fun p hp => (List.mem_append.1 hp).elim (HTA.out p) (fun h2 => by simp at h2; subst h2; exact HTA.out _ (List.mem_of_getElem? HP.out))))
                clear hc5 hc6 c42
                go_wp2_with fail
                go_meet
                exact ⟨rfl, HZ⟩
            case neg =>
              have HFU := Lib.hid hfu
              clear hfu
              go_wp2_with fail
              have HBD := Lib.hid (both_less (Z' := fun k => k = gs) (both_below HB4.out (below_draws (Below.refl _ _) ⟨1, rfl⟩)) (fun _ h => .inl h))
              have HC4 : Hid (w4.drew.cell? ⟨gs, 2, none⟩ = some (.int .i64 kk)) := Lib.hid (below_cell (below_draws (Below.refl _ _) ⟨1, rfl⟩) c42)
              have HF1 : Hid (∀ (W : World) (qs : List PkM), Both w W (fun k => k = gs) g h ps qs → Calls Try.prog 19 #[.pointer (some ⟨g, 0, none⟩), .int .i64 kk] W fun e w' => e = .returned (.bool false) ∧ Both w w' (fun k => k = gs) g h (ps) qs ∧ Stay W w' (fun k => k = gs)) := Lib.hid (fun W qs HB => both_twice_no HB (.inr HFU.out))
              have HF2 : Hid (∀ (W : World) (qs : List PkM), Both w W (fun k => k = gs) g h qs ps → Calls Try.prog 20 #[.pointer (some ⟨h, 0, none⟩), .int .i64 kk] W fun e w' => e = .returned (.bool false) ∧ Both w w' (fun k => k = gs) g h qs (ps) ∧ Stay W w' (fun k => k = gs)) := Lib.hid (fun W qs HB => by
                have h1 := both_rtwice HB HP.out HPS.out
                rw [show sendM ps [(⟨pf, pt, pb⟩ : PkM)] = (0, ps) by unfold sendM; rw [decide_eq_false HFU.out]; rfl] at h1
                exact h1)
              have hen1 : Enters Try.prog 19 := enters_of Try.func19 (by kernel_rfl) rfl
              have hen2 : Enters Try.prog 20 := enters_of Try.func20 (by kernel_rfl) rfl
              go_region_law
                (first
                  | (refine step_call rfl 19 _ _ rfl #[.pointer (some ⟨g, 0, none⟩), .int .i64 kk] (by simp [go_sem]) hen1 (HF1.out _ _ HBD.out) ?_; rintro e w5 ⟨rfl, hb5, hs5⟩; refine ⟨_, rfl, ?_⟩; have HB5 := Lib.hid hb5; have hc5 := stay_cell hs5 rfl HC4.out; have HC5 := Lib.hid hc5; clear hb5 hs5)
                  | (refine step_call rfl 19 _ _ rfl #[.pointer (some ⟨g, 0, none⟩), .int .i64 kk] (by simp [go_sem]) hen1 (HF1.out _ _ HB6.out) ?_; rintro e w5 ⟨rfl, hb5, hs5⟩; refine ⟨_, rfl, ?_⟩; have HB5 := Lib.hid hb5; have hc5 := stay_cell hs5 rfl HC6.out; have HC5 := Lib.hid hc5; clear hb5 hs5)
                  | (refine step_call rfl 20 _ _ rfl #[.pointer (some ⟨h, 0, none⟩), .int .i64 kk] (by simp [go_sem]) hen2 (HF2.out _ _ HBD.out) ?_; rintro e w6 ⟨rfl, hb6, hs6⟩; refine ⟨_, rfl, ?_⟩; have HB6 := Lib.hid hb6; have hc6 := stay_cell hs6 rfl HC4.out; have HC6 := Lib.hid hc6; clear hb6 hs6)
                  | (refine step_call rfl 20 _ _ rfl #[.pointer (some ⟨h, 0, none⟩), .int .i64 kk] (by simp [go_sem]) hen2 (HF2.out _ _ HB5.out) ?_; rintro e w6 ⟨rfl, hb6, hs6⟩; refine ⟨_, rfl, ?_⟩; have HB6 := Lib.hid hb6; have hc6 := stay_cell hs6 rfl HC5.out; have HC6 := Lib.hid hc6; clear hb6 hs6))
              all_goals
                first
                  | have HZ := Lib.hid (roundX_mk HB6.out (HPS.out) (HTA.out))
                  | have HZ := Lib.hid (roundX_mk HB5.out (HPS.out) (HTA.out))
                clear hc5 hc6 c42
                go_wp2_with fail
                go_meet
                exact ⟨rfl, HZ⟩
        case K5 =>
          rintro rfl
          clear hcase
          go_wp2_with fail
          obtain ⟨q, hq⟩ : ∃ q : Nat, q = ps.length - (leftM k ps).length := ⟨_, rfl⟩
          have HQ := Lib.hid hq
          clear hq
          have HBD := Lib.hid (both_less (Z' := fun k => k = gs) (both_below HB4.out (below_draws (Below.refl _ _) ⟨1, rfl⟩)) (fun _ h => .inl h))
          have HC4 : Hid (w4.drew.cell? ⟨gs, 2, none⟩ = some (.int .i64 k)) := Lib.hid (below_cell (below_draws (Below.refl _ _) ⟨1, rfl⟩) c42)
          have HF1 : Hid (∀ (W : World) (qs : List PkM), Both w W (fun k => k = gs) g h ps qs → Calls Try.prog 21 #[.pointer (some ⟨g, 0, none⟩), .int .i64 k] W fun e w' => e = .returned (.int .i64 q) ∧ Both w w' (fun k => k = gs) g h (leftM k ps) qs ∧ Stay W w' (fun k => k = gs)) := Lib.hid (fun W qs HB => by
            have h1 := both_clear HB k HPS.out
            rw [← HQ.out] at h1
            exact h1)
          have HF2 : Hid (∀ (W : World) (qs : List PkM), Both w W (fun k => k = gs) g h qs ps → Calls Try.prog 22 #[.pointer (some ⟨h, 0, none⟩), .int .i64 k] W fun e w' => e = .returned (.int .i64 q) ∧ Both w w' (fun k => k = gs) g h qs (leftM k ps) ∧ Stay W w' (fun k => k = gs)) := Lib.hid (fun W qs HB => by
            have h1 := both_rclear HB k HPS.out
            rw [← HQ.out] at h1
            exact h1)
          have hen1 : Enters Try.prog 21 := enters_of Try.func21 (by kernel_rfl) rfl
          have hen2 : Enters Try.prog 22 := enters_of Try.func22 (by kernel_rfl) rfl
          go_region_law
            (first
              | (refine step_call rfl 21 _ _ rfl #[.pointer (some ⟨g, 0, none⟩), .int .i64 k] (by simp [go_sem]) hen1 (HF1.out _ _ HBD.out) ?_; rintro e w5 ⟨rfl, hb5, hs5⟩; refine ⟨_, rfl, ?_⟩; have HB5 := Lib.hid hb5; have hc5 := stay_cell hs5 rfl HC4.out; have HC5 := Lib.hid hc5; clear hb5 hs5)
              | (refine step_call rfl 21 _ _ rfl #[.pointer (some ⟨g, 0, none⟩), .int .i64 k] (by simp [go_sem]) hen1 (HF1.out _ _ HB6.out) ?_; rintro e w5 ⟨rfl, hb5, hs5⟩; refine ⟨_, rfl, ?_⟩; have HB5 := Lib.hid hb5; have hc5 := stay_cell hs5 rfl HC6.out; have HC5 := Lib.hid hc5; clear hb5 hs5)
              | (refine step_call rfl 22 _ _ rfl #[.pointer (some ⟨h, 0, none⟩), .int .i64 k] (by simp [go_sem]) hen2 (HF2.out _ _ HBD.out) ?_; rintro e w6 ⟨rfl, hb6, hs6⟩; refine ⟨_, rfl, ?_⟩; have HB6 := Lib.hid hb6; have hc6 := stay_cell hs6 rfl HC4.out; have HC6 := Lib.hid hc6; clear hb6 hs6)
              | (refine step_call rfl 22 _ _ rfl #[.pointer (some ⟨h, 0, none⟩), .int .i64 k] (by simp [go_sem]) hen2 (HF2.out _ _ HB5.out) ?_; rintro e w6 ⟨rfl, hb6, hs6⟩; refine ⟨_, rfl, ?_⟩; have HB6 := Lib.hid hb6; have hc6 := stay_cell hs6 rfl HC5.out; have HC6 := Lib.hid hc6; clear hb6 hs6))
          all_goals
            first
              | have HZ := Lib.hid (roundX_mk HB6.out (Nat.le_trans (left_len k ps) HPS.out) (fun p hp => HTA.out p (List.mem_filter.1 hp).1))
              | have HZ := Lib.hid (roundX_mk HB5.out (Nat.le_trans (left_len k ps) HPS.out) (fun p hp => HTA.out p (List.mem_filter.1 hp).1))
            clear hc5 hc6 c42
            go_wp2_with fail
            go_meet
            exact ⟨rfl, HZ⟩
        case K6 =>
          rintro rfl
          clear hcase
          obtain ⟨bk, hbk⟩ : ∃ bk, bk = inNB k ps.length := ⟨_, rfl⟩
          cases bk
          case false =>
            have hno : inNB k ps.length = false := by rw [← hbk]
            have HNO := Lib.hid hno
            clear hbk hno
            go_wp2_with fail
            refine (both_no_peek HB4.out HNO.out).mono ?_
            rintro e w5 ⟨rfl, hb5⟩
            unfold zeroPk
            have hb45 := below_more hb5 (.cells #[.int .i64 0, .int .i64 0, .slice none 0 0] 52)
            have HB5 : Hid (Both w (w5.alloc (.cells #[.int .i64 0, .int .i64 0, .slice none 0 0] 52)) (fun x => x = gs) g h ps ps) := Lib.hid (both_less (both_below HB4.out hb45) (fun _ hx => .inl hx))
            have HR5 : Hid (Rw (w5.alloc (.cells #[.int .i64 0, .int .i64 0, .slice none 0 0] 52)) 0 w5.heap.size 52 [.int .i64 0, .int .i64 0, .slice none 0 0]) := Lib.hid (Rw.alloc w5 _ _ (Nat.zero_le _))
            have c52 := below_cell hb45 c42
            clear hb5 hb45 c42
            dsimp only
            go_wp2_with (first | (refine wpList_alloc_z rfl 52 rfl #[.int .i64 0, .int .i64 0, .slice none 0 0] hz ?_) | fail)
            refine (both_no_rpeek HB5.out HNO.out).mono ?_
            rintro e w6 ⟨rfl, hb6⟩
            unfold zeroPk
            have hb56 := below_more hb6 (.cells #[.int .i64 0, .int .i64 0, .slice none 0 0] 52)
            have HB6 : Hid (Both w (w6.alloc (.cells #[.int .i64 0, .int .i64 0, .slice none 0 0] 52)) (fun x => x = gs) g h ps ps) := Lib.hid (both_less (both_below HB5.out hb56) (fun _ hx => .inl hx))
            have hr6 := Rw.below HR5.out hb56
            have p0 := Rw.cell hr6 (j := 0) rfl
            have p1 := Rw.cell hr6 (j := 1) rfl
            have p2 := Rw.cell hr6 (j := 2) rfl
            clear hb6 hb56 c52 hr6
            dsimp only
            go_wp2_with (first | (refine wpList_alloc_z rfl 52 rfl #[.int .i64 0, .int .i64 0, .slice none 0 0] hz ?_) | fail)
            refine (alike_any 0 0 [] (.slice none 0 0) (.slice none 0 0) _ (by simp) (SliceAt.nil _) (SliceAt.nil _)).mono ?_
            rintro e w7 ⟨rfl, hb7⟩
            have HZ := Lib.hid (roundX_mk (both_less (Z' := fun x => x = gs) (both_below HB6.out hb7) (fun _ hx => .inl hx)) HPS.out HTA.out)
            clear p0 p1 p2 hb7
            go_wp2_with fail
            go_meet
            exact ⟨rfl, HZ⟩
          case true =>
            obtain ⟨kk, rfl, hkl⟩ := inNB_of hbk.symm
            obtain ⟨⟨pf, pt, pb⟩, hp⟩ : ∃ p, ps[kk]? = some p := ⟨_, List.getElem?_eq_getElem hkl⟩
            have HP := Lib.hid hp
            clear hbk hkl hp
            go_wp2_with fail
            refine (both_peek HB4.out HP.out).mono ?_
            rintro e w5 ⟨a5, c5, rfl, ho5, hlen, hb5⟩
            dsimp only at ho5 hlen ⊢
            have hb45 := below_more hb5 (.cells #[.int .i64 pf, .int .i64 pt, .slice a5 pb.length c5] 52)
            have HB5 : Hid (Both w (w5.alloc (.cells #[.int .i64 pf, .int .i64 pt, .slice a5 pb.length c5] 52)) (fun x => x = gs) g h ps ps) := Lib.hid (both_less (both_below HB4.out hb45) (fun x hx => .inl hx))
            have HR5 : Hid (Rw (w5.alloc (.cells #[.int .i64 pf, .int .i64 pt, .slice a5 pb.length c5] 52)) 0 w5.heap.size 52 [.int .i64 pf, .int .i64 pt, .slice a5 pb.length c5]) := Lib.hid (Rw.alloc w5 _ _ (Nat.zero_le _))
            have c52 := below_cell hb45 c42
            have HO5 := Lib.hid (own_below ho5 (below_more (Below.refl _ w5) (.cells #[.int .i64 pf, .int .i64 pt, .slice a5 pb.length c5] 52)))
            have HLE := Lib.hid hlen
            clear hb5 ho5 hb45 c42 hlen
            go_wp2_with (first | (refine wpList_alloc_z rfl 52 rfl #[.int .i64 0, .int .i64 0, .slice none 0 0] hz ?_) | fail)
            refine (both_rpeek HB5.out HP.out).mono ?_
            rintro e w6 ⟨a6, c6, rfl, ho6, hb6⟩
            dsimp only at ho6 ⊢
            have hb56 := below_more hb6 (.cells #[.int .i64 pf, .int .i64 pt, .slice a6 pb.length c6] 52)
            have HB6 : Hid (Both w (w6.alloc (.cells #[.int .i64 pf, .int .i64 pt, .slice a6 pb.length c6] 52)) (fun x => x = gs) g h ps ps) := Lib.hid (both_less (both_below HB5.out hb56) (fun x hx => .inl hx))
            have hr6 := Rw.below HR5.out hb56
            have p0 := Rw.cell hr6 (j := 0) rfl
            have p1 := Rw.cell hr6 (j := 1) rfl
            have p2 := Rw.cell hr6 (j := 2) rfl
            have HO56 := Lib.hid (own_below HO5.out hb56)
            have HO6 := Lib.hid (own_below ho6 (below_more (Below.refl _ w6) (.cells #[.int .i64 pf, .int .i64 pt, .slice a6 pb.length c6] 52)))
            clear hb6 ho6 hb56 c52 hr6
            go_wp2_with (first | (refine wpList_alloc_z rfl 52 rfl #[.int .i64 0, .int .i64 0, .slice none 0 0] hz ?_) | fail)
            refine (alike_any pf pt pb (.slice a5 pb.length c5) (.slice a6 pb.length c6) _ HLE.out (SliceAt.own HO56.out) (SliceAt.own HO6.out)).mono ?_
            rintro e w7 ⟨rfl, hb7⟩
            have HZ := Lib.hid (roundX_mk (both_less (Z' := fun x => x = gs) (both_below HB6.out hb7) (fun _ hx => .inl hx)) HPS.out HTA.out)
            clear p0 p1 p2 hb7
            go_wp2_with fail
            go_meet
            exact ⟨rfl, HZ⟩
        case K7 =>
          rintro ⟨n1, n2, n3, n4, n5, n6⟩
          have q1 : (kd == 1) = false := beq_false_of_ne n1
          have q2 : (kd == 2) = false := beq_false_of_ne n2
          have q3 : (kd == 3) = false := beq_false_of_ne n3
          have q4 : (kd == 4) = false := beq_false_of_ne n4
          have q5 : (kd == 5) = false := beq_false_of_ne n5
          have q6 : (kd == 6) = false := beq_false_of_ne n6
          clear hcase n1 n2 n3 n4 n5 n6
          have HZ := Lib.hid (roundX_mk HB4.out HPS.out HTA.out)
          go_wp2_with fail
          go_meet
          exact ⟨rfl, HZ⟩
      case rest =>
        obtain ⟨rfl, HZ⟩ := hcut
        obtain ⟨N, za, zc, hcz, hlq⟩ := roundX_len HZ.out
        have HLQ := Lib.hid hlq
        clear hlq
        go_wp2_with fail
        go_quiet ((go_at_call 25; exact Calls.quiet_of_same (HLQ.out _)))
        go_wp2_with fail
        go_roundw
        case rel =>
          obtain ⟨px, hpx⟩ := roundX_end HZ.out _
          exact ⟨i + 1, px, HI.out, by go_num, Lib.hid hpx⟩
        case measure => have := HI.out; simp [intOf]; omega
    · have hyk : ¬ (i : Int) < (n : Int) := by omega
      obtain ⟨px, hps, _, hbb⟩ : ∃ ps, RoundE w w3 g h ps (fun _ => False) := ⟨ps, HR.out⟩
      obtain ⟨N, hN⟩ : ∃ N, N = px.length := ⟨_, rfl⟩
      have HN2 := Lib.hid hN
      have HN64 : Hid (N ≤ 64) := Lib.hid (by rw [hN]; exact hps)
      have HBB := Lib.hid hbb
      clear hlt hi' hps hbb hN
      go_wp2_with fail
      go_loopw [18] (fun jv wr => ∃ j : Nat, j ≤ N ∧ jv = .int .i64 j ∧ Hid (Both w wr (fun _ => False) g h px px)) (fun jv _ => N - (intOf jv).toNat)
      case atStart => exact ⟨0, Nat.zero_le _, rfl, HBB⟩
      case round =>
        obtain ⟨j, hj, rfl, HB⟩ := hrel
        obtain ⟨w4, hw4⟩ : ∃ w4 : World, w4 = wr := ⟨_, rfl⟩
        subst hw4
        by_cases hjn : j < N
        · obtain ⟨⟨pf, pt, pb⟩, hp⟩ : ∃ p, px[j]? = some p := ⟨_, List.getElem?_eq_getElem (by rw [← HN2.out]; exact hjn)⟩
          obtain ⟨gr, rc, a2, c2, hc4, hrg, ho4⟩ := both_row HB.out hp
          rw [← HN2.out] at hc4
          dsimp only at hrg ho4
          have HPK := Lib.hid (both_peek HB.out hp)
          have HRG := Lib.hid hrg
          have HO4 := Lib.hid ho4
          have hjy : (j : Int) < (N : Int) := by omega
          have hj64 : (j : Int) < 64 := by have := HN64.out; omega
          have HJN := Lib.hid hjn
          clear hp hrg ho4 hjn hj
          go_wp2_with fail
          refine (HPK.out).mono ?_
          rintro e w5 ⟨a5, c5, rfl, ho5, hlen, hb5⟩
          dsimp only at ho5 hlen ⊢
          have hb45 := below_more hb5 (.cells #[.int .i64 pf, .int .i64 pt, .slice a5 pb.length c5] 52)
          have HB5 : Hid (Both w (w5.alloc (.cells #[.int .i64 pf, .int .i64 pt, .slice a5 pb.length c5] 52)) (fun _ => False) g h px px) := Lib.hid (both_less (both_below HB.out hb45) (fun x hx => hx.elim))
          have hr5 : Rw (w5.alloc (.cells #[.int .i64 pf, .int .i64 pt, .slice a5 pb.length c5] 52)) 0 w5.heap.size 52 [.int .i64 pf, .int .i64 pt, .slice a5 pb.length c5] := Rw.alloc w5 _ _ (Nat.zero_le _)
          have hc5 := below_cell hb45 hc4
          have r0 : (w5.alloc (.cells #[.int .i64 pf, .int .i64 pt, .slice a5 pb.length c5] 52)).cell? ⟨gr, j * 3, none⟩ = some (.int .i64 pf) := below_cell hb45 (HRG.out 0 _ rfl)
          have r1 : (w5.alloc (.cells #[.int .i64 pf, .int .i64 pt, .slice a5 pb.length c5] 52)).cell? ⟨gr, j * 3 + 1, none⟩ = some (.int .i64 pt) := below_cell hb45 (HRG.out 1 _ rfl)
          have r2 : (w5.alloc (.cells #[.int .i64 pf, .int .i64 pt, .slice a5 pb.length c5] 52)).cell? ⟨gr, j * 3 + 2, none⟩ = some (.slice a2 pb.length c2) := below_cell hb45 (HRG.out 2 _ rfl)
          have HO5 := Lib.hid (own_below ho5 (below_more (Below.refl _ w5) (.cells #[.int .i64 pf, .int .i64 pt, .slice a5 pb.length c5] 52)))
          have HO45 := Lib.hid (own_below HO4.out hb45)
          have HLE := Lib.hid hlen
          have p0 := Rw.cell hr5 (j := 0) rfl
          have p1 := Rw.cell hr5 (j := 1) rfl
          have p2 := Rw.cell hr5 (j := 2) rfl
          clear hb5 ho5 hb45 hc4 hlen hr5
          have hen : Enters Try.prog 17 := enters_of Try.func17 (by kernel_rfl) rfl
          have hdr : Below (w5.alloc (.cells #[.int .i64 pf, .int .i64 pt, .slice a5 pb.length c5] 52)).heap.size (w5.alloc (.cells #[.int .i64 pf, .int .i64 pt, .slice a5 pb.length c5] 52)) (w5.alloc (.cells #[.int .i64 pf, .int .i64 pt, .slice a5 pb.length c5] 52)).drew := below_draws (Below.refl _ _) ⟨1, rfl⟩
          have HAL := Lib.hid (alike_any pf pt pb (.slice a5 pb.length c5) (.slice a2 pb.length c2) (w5.alloc (.cells #[.int .i64 pf, .int .i64 pt, .slice a5 pb.length c5] 52)).drew HLE.out (SliceAt.own (own_below HO5.out hdr)) (SliceAt.own (own_below HO45.out hdr)))
          have HDR := Lib.hid hdr
          clear hdr
          go_wp2_with (first | (refine wpList_alloc_z rfl 52 rfl #[.int .i64 0, .int .i64 0, .slice none 0 0] hz ?_) | fail)
          refine wp_region_still_tail 11 (by kernel_rfl) (by kernel_rfl) ?_
          simp only [List.take_succ_cons, List.take_zero, List.drop_succ_cons, List.drop_zero]
          obtain ⟨wq, hwq0⟩ : ∃ wq : World, wq = { (w5.alloc (.cells #[.int .i64 pf, .int .i64 pt, .slice a5 pb.length c5] 52)) with drawn := (w5.alloc (.cells #[.int .i64 pf, .int .i64 pt, .slice a5 pb.length c5] 52)).drawn + 1 } := ⟨_, rfl⟩
          have hwq : wq = (w5.alloc (.cells #[.int .i64 pf, .int .i64 pt, .slice a5 pb.length c5] 52)).drew := hwq0
          have hc6 : wq.cell? ⟨h, 0, none⟩ = some (.slice (some ⟨gr, 0, none⟩) N rc) := by rw [hwq]; exact below_cell HDR.out hc5
          have r3 : wq.cell? ⟨gr, j * 3, none⟩ = some (.int .i64 pf) := by rw [hwq]; exact below_cell HDR.out r0
          have r4 : wq.cell? ⟨gr, j * 3 + 1, none⟩ = some (.int .i64 pt) := by rw [hwq]; exact below_cell HDR.out r1
          have r5 : wq.cell? ⟨gr, j * 3 + 2, none⟩ = some (.slice a2 pb.length c2) := by rw [hwq]; exact below_cell HDR.out r2
          have q0 : wq.cell? ⟨w5.heap.size, 0, none⟩ = some (.int .i64 pf) := by rw [hwq]; exact below_cell HDR.out p0
          have q1 : wq.cell? ⟨w5.heap.size, 1, none⟩ = some (.int .i64 pt) := by rw [hwq]; exact below_cell HDR.out p1
          have q2 : wq.cell? ⟨w5.heap.size, 2, none⟩ = some (.slice a5 pb.length c5) := by rw [hwq]; exact below_cell HDR.out p2
          rw [← hwq] at HAL HDR
          rw [← hwq0]
          clear hwq hwq0 hc5 r0 r1 r2 p0 p1 p2
          repeat still_step
          refine wpStill_nil ?_
          clear hc6 r3 r4 r5 q0 q1 q2
          go_wp2_with fail
          refine (HAL.out).mono ?_
          rintro e w7 ⟨rfl, hb7⟩
          have HE := Lib.hid (both_less (Z' := fun _ => False) (both_below HB5.out (below_then HDR.out hb7)) (fun _ hx => hx.elim))
          clear hb7
          go_wp2_with fail
          go_roundw
          case rel => exact ⟨j + 1, HJN.out, by go_num, HE⟩
          case measure => have := HJN.out; simp [intOf]; omega
        · obtain ⟨za, zc, hcz⟩ := both_cell HB.out
          rw [← HN2.out] at hcz
          have hjy : ¬ (j : Int) < (N : Int) := by omega
          have HAW := Lib.hid (nawake_any w4)
          have HAB := Lib.hid (both_all HB.out)
          clear hjn hj
          go_wp2_with fail
          refine (HAW.out).mono ?_
          rintro e w5 ⟨rfl, hb5⟩
          have HE := Lib.hid (HAB.out.trans (hb5.mono HAB.out.size))
          clear hb5
          go_wp2_with fail
          go_ret
          exact ⟨rfl, HE.out⟩

theorem netPlays_own : ownKnob Try.prog.godebug = none := by kernel_rfl

set_option maxRecDepth 100000 in
theorem netPlays_lifted (os : Os) (started : os.Started) (H : Type) (enc : TypeId × Value → H) :
    ReturnsInHanded {} Try.checked os 4 .any (Rows.netPlaysSpec.pre6 enc Try.prog Try.f4 Rows.netPlaysRow.domain false) (Rows.netPlaysSpec.post enc Try.prog Try.f4 false true false false) := by
  refine law_lifted (C := Try.checked) netPlays_own started (by kernel_rfl) Try.func4
    (ChangeSpec.witness6 (enc := enc) (C := Try.checked) false ⟨#[], #[.slice none 0 0], []⟩ 8 (by kernel_rfl) (by kernel_rfl) (by kernel_rfl) (by kernel_rfl))
    (by kernel_rfl) (of_decide_eq_true (by kernel_rfl)) (tb := 4) (by kernel_rfl) Try.underlying4 rfl (fun ds h => by match ds, h with | [d0], _ => exact ⟨rfl, rfl, rfl⟩) ?_
  intro W base args ds p hval0 hA0 hlt hsz0
  have hval : ∀ (j : Nat) t v, Try.f4.params[j]? = some t → args[j]? = some v → Value.okWide Try.prog W .any base t v := hval0
  have hA : DataW.TrodAll enc Try.prog W 0 (fun _ => true) true Try.f4.params.toList args.toList ds p := hA0
  have hsz : (DataW.weightsEach Try.prog Try.f4.params.toList ds).all (· ≤ reachBytes) = true := hsz0
  rw [Try.params4] at hA hval hsz
  obtain ⟨v0, vs0, d0, ds0, p0, q0, hargs, rfl, rfl, h0, r0⟩ := trodAll_cons hA
  obtain ⟨rfl, rfl, rfl⟩ := trodAll_nil r0
  obtain rfl : args = #[v0] := by cases args; simp_all
  have s0 := sized_at hsz (j := 0) (t := 39) (d := d0) rfl rfl
  obtain ⟨f0a, f0b, f0c, t0⟩ := Try.pkTys
  obtain ⟨a0, g0⟩ := open_steps t0 Try.underlying39 Try.underlying47 rfl rfl rfl (by kernel_rfl) (by kernel_rfl) (hval 0 39 v0 rfl rfl) h0 s0
  exact netPlays_any (w := W) v0 a0 g0

theorem netPlays_over : Rows.netPlaysRow.holds Try.pinned (OpenSpec.ofChange Rows.netPlaysSpec) :=
  OpenClaim.holds_of_wide 4 Try.f4 rfl rfl rfl rfl rfl rfl rfl ⟨rfl, rfl, rfl, rfl, rfl⟩ rfl rfl rfl rfl rfl (by kernel_rfl) Try.func4 (by kernel_rfl)
    (of_decide_eq_true (by kernel_rfl)) (by unfold Func.isWrapper; first | (rw [if_pos (by decide +kernel)]; kernel_rfl) | (rw [if_neg (by decide +kernel)]; exact ⟨rfl, rfl⟩))
    (fun os started H enc _ => netPlays_lifted os started H enc)

theorem netPlays_proved : Rows.NetPlaysSaid := netPlays_over
#print axioms netPlays_proved

end Go.Proofs.Ytneomfhlkdpnjaa
