/- Contracts: msg: the reader: entries. -/
import Derived.BigRegion
import Derived.Deep.RegionHeld3
import Derived.Deep.AppendLies
import Derived.Test.YtpbdilbimpnmjaaProg
import Derived.Test.YtpbdilbimpnmjaaKit
import Derived.Test.YtpbdilbimpnmjaaRow
import Derived.Test.YtpbdilbimpnmjaaCod7
import Derived.Test.YtpbdilbimpnmjaaFrm4
import Derived.Test.YtpbdilbimpnmjaaFp
import Derived.Test.YtpbdilbimpnmjaaNet0
import Derived.Test.YtpbdilbimpnmjaaKp0
import Derived.Test.YtpbdilbimpnmjaaKp1
import Derived.Test.YtpbdilbimpnmjaaMg0
import Derived.Test.YtpbdilbimpnmjaaMd1
import Derived.Test.YtpbdilbimpnmjaaMd4
namespace Go.Proofs.Ytpbdilbimpnmjaa
open Go.RowKit Go.Proofs

/-- Entries read so far: rows of the call's own. -/
def AppG (w : World) (g : Nat) (es : List EntM) (w' : World) (v : Value) : Prop :=
  ∃ ns : List RecE, ns.map (·.e) = es ∧ OwnE w' 0 v ns ∧ (∀ k, v.ownBlock = some k → w.heap.size ≤ k) ∧ Kept (fun k => k = g) w w'

theorem appG_keep {w w1 w2 : World} {B g : Nat} {s : List UInt8 × Bool} {es : List EntM} {v : Value} (h : AppG w g es w1 v) (hr : RdAt w1 B g s) (hg : g < w.heap.size) (hk : Kept (fun k => k = g) w1 w2) : AppG w g es w2 v := by
  obtain ⟨ns, h1, h2, h3, h4⟩ := h
  obtain ⟨_, x, hx, _⟩ := hr
  exact ⟨ns, h1, ⟨own_same h2.1 (fun k hkk => hk.blk k (own_lt h2.1 hkk) (fun e => by have := h3 k hkk; omega)), fun r hrr => ⟨own_same (h2.2 r hrr).1 (fun k hkk => hk.blk k (own_lt (h2.2 r hrr).1 hkk) (fun e => by subst e; exact own_rw (h2.2 r hrr).1 hx (by decide) hkk)), (h2.2 r hrr).2⟩⟩, h3, kept_trans h4 hk⟩

theorem appG_add {w w8 w10 : World} {g n : Nat} {es : List EntM} {v v' u : Value} {ns : List RecE} {e : EntM} {o : Obj} (hm : ns.map (·.e) = es) (h2 : OwnE w8 0 v ns) (h3 : ∀ k, v.ownBlock = some k → w.heap.size ≤ k) (h4 : Kept (fun k => k = g) w w8)
    (hu : w8.ownsRow w.heap.size 3 1 u e.ms.length (e.ms.map kiV)) (hl : e.ms.length ≤ 1000000) (hn : n = ns.length) (h : w10.ownsRow 0 46 5 v' (n + 1) (rowsE ns ++ cellsE ⟨e, u⟩)) (hg : (w8.alloc o).grownBy w10 v.ownBlock)
    (hat : ∀ k, v'.ownBlock = some k → v.ownBlock = some k ∨ k = w8.heap.size + 1) : AppG w g (es ++ [e]) w10 v' := by
  subst hn
  have hbA : Below w8.heap.size w8 (w8.alloc o) := below_more (Below.refl _ _) o
  have hk4 : Kept (fun k => v.ownBlock = some k) w8 w10 := kept_grown (kept_below hbA) hg (fun k hk => .inl hk)
  have hoff : ∀ {x : Value} {m : Nat} {xs : List Value}, w8.ownsRow 0 3 1 x m xs → w10.ownsRow 0 3 1 x m xs := fun {x m xs} hx => own_keep hx hk4 (fun k hkk hkv => own_unlike h2.1 hx (by decide) hkv hkk)
  refine ⟨ns ++ [⟨e, u⟩], by rw [List.map_append, hm]; rfl, ⟨?_, fun r hr => ?_⟩, fun k hkk => ?_, kept_then h4 hk4 (fun k hkk => .inr (h3 k hkk))⟩
  · rw [List.length_append, rowsE_app, rowsE_one]
    exact h
  · rcases List.mem_append.1 hr with hr | hr
    · exact ⟨hoff (h2.2 r hr).1, (h2.2 r hr).2⟩
    · simp at hr
      subst hr
      exact ⟨hoff (own_mono hu (Nat.zero_le _)), hl⟩
  · rcases hat k hkk with h | h
    · exact h3 k h
    · have := h4.size
      omega

theorem rdAt_keptF {w w' : World} {B g : Nat} {F : Nat → Prop} {s : List UInt8 × Bool} (h : RdAt w B g s) (hk : Kept F w w') (hF : ∀ x, F x → x ≠ g ∧ B ≤ x) : RdAt w' B g s := by
  obtain ⟨h1, v, h2, a, c, hv, hc, hl⟩ := h
  exact ⟨h1, v, rw_kept h2 hk (fun hf => (hF g hf).1 rfl), a, c, hv, hc, lies_keep hl (fun k hkB hks => hk.blk k hks (fun hf => by have := (hF k hf).2; omega))⟩

theorem entR1_full (s : List UInt8 × Bool) : entR1 s = (⟨(numR 8 s).1, (numR 8 (numR 8 s).2).1, (numR 8 (numR 8 (numR 8 s).2).2).1, ⟨(txtR (numR 8 (numR 8 (numR 8 s).2).2).2).1.toArray⟩, (lstR (txtR (numR 8 (numR 8 (numR 8 s).2).2).2).2).1⟩, (lstR (txtR (numR 8 (numR 8 (numR 8 s).2).2).2).2).2) := Prod.ext (entR1_eq s) (by unfold entR1; rfl)

theorem lstR_len (s : List UInt8 × Bool) : (lstR s).1.length ≤ 1000000 := by
  unfold lstR
  rw [intsR_len]
  have := numR_byte s
  omega

def EntsV (w w' : World) (B g : Nat) (e : Ending) (q : List EntM × List UInt8 × Bool) : Prop := ∃ v', e = .returned v' ∧ AppG w g q.1 w' v' ∧ RdAt w' B g q.2

set_option maxRecDepth 100000 in
set_option maxHeartbeats 8000000 in
theorem rentries_any {w : World} {B g : Nat} {s : List UInt8 × Bool} (h : RdAt w B g s) :
    Calls Try.prog 44 #[.pointer (some ⟨g, 0, none⟩)] w fun e w' => EntsV w w' B g e (entsR (numR 1 s).1.toNat (numR 1 s).2) := by
  have hz := zero_cells Try.infoEntz
  have HNM := Lib.hid (rnumber_any h 1 (by decide))
  have hpos := numR_pos 1 s
  have hbyte := numR_byte s
  have HG := Lib.hid (rdAt_lt h)
  have HB := Lib.hid h.1
  obtain ⟨q, hq⟩ : ∃ q, q = numR 1 s := ⟨_, rfl⟩
  rw [← hq] at HNM hpos hbyte ⊢
  obtain ⟨x, s2⟩ := q
  dsimp only at hpos hbyte ⊢
  obtain ⟨N, rfl⟩ := Int.eq_ofNat_of_zero_le hpos
  rw [Int.toNat_natCast]
  have HN : Hid (N < 256) := Lib.hid (by omega)
  obtain ⟨i0, hi0, hz0, hz1, hz2⟩ := info_parts Try.infoEntry
  clear h hq hpos hbyte
  go_enter Try.func44, Try.ntmps44
  go_wp2_with fail
  refine (HNM.out).mono ?_
  rintro e w1 ⟨rfl, hv1⟩
  dsimp only at hv1 ⊢
  have HV1 := Lib.hid hv1
  clear hv1 HNM
  go_wp2_with fail
  go_loopw [3, 7] (fun v i wr => ∃ (k : Nat) (a : Option Addr) (c : Nat), k ≤ N ∧ i = .int .i64 k ∧ v = .slice a k c ∧ Hid (AppG w g (entsR k s2).1 wr (.slice a k c)) ∧ Hid (RdAt wr B g (entsR k s2).2)) (fun _ i _ => N - (intOf i).toNat)
  case atStart => exact ⟨0, none, 0, Nat.zero_le _, rfl, rfl, Lib.hid ⟨[], rfl, ⟨World.ownsRow_nil _ _ _ _, fun r hr => by simp at hr⟩, fun k hk => by simp [Value.ownBlock] at hk, HV1.out.2⟩, Lib.hid HV1.out.1⟩
  case round =>
    obtain ⟨k, a, c, hk, rfl, rfl, HA, HR⟩ := hrel
    obtain ⟨w3, hw3⟩ : ∃ w3 : World, w3 = wr := ⟨_, rfl⟩
    subst hw3
    by_cases hlt : k < N
    · have HSN : Hid (entsR (k + 1) s2 = ((entsR k s2).1 ++ [(entR1 (entsR k s2).2).1], (entR1 (entsR k s2).2).2)) := Lib.hid (entsR_snoc k s2)
      have HLEN : Hid ((entsR k s2).1.length = k) := Lib.hid (entsR_len k s2)
      obtain ⟨t, ht⟩ : ∃ t, t = (entsR k s2).2 := ⟨_, rfl⟩
      obtain ⟨es, hes⟩ : ∃ es, es = (entsR k s2).1 := ⟨_, rfl⟩
      rw [← ht, ← hes] at HSN
      rw [← ht] at HR
      rw [← hes] at HA HLEN
      have HQ := Lib.hid (entR1_full t)
      have HI3 := Lib.hid (intsR_three t)
      obtain ⟨q1, hq1⟩ : ∃ q1, q1 = numR 8 t := ⟨_, rfl⟩
      rw [← hq1] at HQ HI3
      obtain ⟨q2, hq2⟩ : ∃ q2, q2 = numR 8 q1.2 := ⟨_, rfl⟩
      rw [← hq2] at HQ HI3
      obtain ⟨q3, hq3⟩ : ∃ q3, q3 = numR 8 q2.2 := ⟨_, rfl⟩
      rw [← hq3] at HQ HI3
      obtain ⟨q4, hq4⟩ : ∃ q4, q4 = txtR q3.2 := ⟨_, rfl⟩
      rw [← hq4] at HQ
      obtain ⟨q5, hq5⟩ : ∃ q5, q5 = lstR q4.2 := ⟨_, rfl⟩
      rw [← hq5] at HQ
      have HQ4 := Lib.hid hq4
      have HQ5 := Lib.hid hq5
      have HL5 : Hid (q5.1.length ≤ 1000000) := Lib.hid (by rw [hq5]; exact lstR_len _)
      have hgs : g < w3.heap.size := rdAt_lt HR.out
      have hws : w.heap.size ≤ w3.heap.size := by obtain ⟨_, _, _, _, hk⟩ := HA.out; exact hk.size
      obtain ⟨gE, hgE⟩ : ∃ gE, gE = w3.heap.size := ⟨_, rfl⟩
      have hb1 := below_more (Below.refl _ w3) (.cells #[.int .i64 0, .int .i64 0, .int .i64 0, .string ⟨#[]⟩, .slice none 0 0] 46)
      have hr1 : Rw (w3.alloc (.cells #[.int .i64 0, .int .i64 0, .int .i64 0, .string ⟨#[]⟩, .slice none 0 0] 46)) 0 gE 46 [.int .i64 0, .int .i64 0, .int .i64 0, .string ⟨#[]⟩, .slice none 0 0] := by rw [hgE]; exact Rw.alloc w3 _ _ (Nat.zero_le _)
      obtain ⟨w2, hw2⟩ : ∃ w2, w2 = w3.alloc (.cells #[.int .i64 0, .int .i64 0, .int .i64 0, .string ⟨#[]⟩, .slice none 0 0] 46) := ⟨_, rfl⟩
      have hs2 : w2.heap.size = w3.heap.size + 1 := by rw [hw2]; simp
      rw [← hw2] at hb1 hr1
      have hp3 := below_more (Below.refl _ w2) (.cells #[.pointer (some ⟨gE, 0, none⟩), .pointer (some ⟨gE, 1, none⟩), .pointer (some ⟨gE, 2, none⟩)] 81)
      have hb12 := below_then hb1 hp3
      have hpt := (rptrs_any (c := 3) (rdAt_below HR.out hb12) (Rw.below hr1 hp3) (gm := gE) (b := w2.heap.size) (o := 0) (n := 3) (js := [0, 1, 2]) (by have := HB.out; omega) (by omega) rfl (fun j hj => by simp at hj; rcases hj with rfl | rfl | rfl <;> simp) (by omega) (by omega) (fun i j hij => by
        rw [Nat.zero_add, cell_of_row _ _ _ _ 81 (0, 0) (heap_alloc_new w2 _)]
        match i, hij with
        | 0, hij => simp at hij; subst hij; rfl
        | 1, hij => simp at hij; subst hij; rfl
        | 2, hij => simp at hij; subst hij; rfl
        | i + 3, hij => simp at hij) (by decide))
      rw [HI3.out, hs2] at hpt
      have HBE : Hid (B ≤ gE) := Lib.hid (by have := HB.out; omega)
      have HNE : Hid (gE ≠ g) := Lib.hid (by omega)
      have HGE : Hid (w.heap.size ≤ gE) := Lib.hid (by omega)
      have HB12 := Lib.hid hb12
      subst hw2 hgE
      have HPT := Lib.hid hpt
      have hy : (k : Int) < (N : Int) := by omega
      have hk8 : (k : Int) < 256 := by have := HN.out; omega
      have HKL := Lib.hid hlt
      have HMX : Hid (k + 1 ≤ maxLen) := Lib.hid (by have := HN.out; unfold maxLen; omega)
      have HBT : Hid ((k + 1) * 64 ≤ 140737488355328) := Lib.hid (by have := HN.out; omega)
      clear hk hlt ht hes hq1 hq2 hq3 hq4 hq5 hgs hws hb1 hr1 hs2 hp3 hb12 hpt
      go_wp2_with (first | (refine wpList_alloc_z rfl 46 rfl #[.int .i64 0, .int .i64 0, .int .i64 0, .string ⟨#[]⟩, .slice none 0 0] hz ?_) | fail)
      refine (HPT.out).mono ?_
      rintro e w4 ⟨rfl, hrd4, hrm4, hk4⟩
      dsimp only [setL, List.set] at hrm4
      have HTX := Lib.hid (rtext_any2 hrd4)
      dsimp only at HTX
      rw [← HQ4.out] at HTX
      have HK4 : Hid (Kept (fun k => k = g) w3 w4) := Lib.hid (kept_then (kept_below HB12.out) hk4 (fun x hx => hx.elim .inl (fun e => .inr (by omega))))
      have HM4 := Lib.hid hrm4
      clear hrd4 hrm4 hk4 HPT
      go_wp2_with fail
      refine (HTX.out).mono ?_
      rintro e w5 ⟨rfl, hv5⟩
      have hrm5 := rw_kept HM4.out hv5.2 HNE.out
      have c5 := Rw.cell hrm5 (j := 3) rfl
      have f5 := Rw.free hrm5 3
      have hrm6 := Rw.stored hrm5 3 (.string ⟨q4.1.toArray⟩)
      have hrd6 := rd_put hv5.1 HBE.out HNE.out 3 (.string ⟨q4.1.toArray⟩)
      obtain ⟨w6, hw6⟩ : ∃ w6, w6 = w5.setCell ⟨w3.heap.size, 3, none⟩ (.string ⟨q4.1.toArray⟩) := ⟨_, rfl⟩
      have HK6 : Hid (Kept (fun k => k = g) w3 w6) := Lib.hid (by rw [hw6]; exact kept_put (kept_trans HK4.out hv5.2) (.inr (Nat.le_refl _)) 3 _)
      rw [← hw6] at hrm6 hrd6
      have HLI := Lib.hid (rlist_any hrd6)
      rw [← HQ5.out] at HLI
      have HM6 := Lib.hid hrm6
      have HW6 := Lib.hid hw6
      clear hv5 hrm5 hrm6 hrd6 hw6 HTX
      go_wp2_with fail
      rw [← HW6.out]
      refine (HLI.out).mono ?_
      rintro e w7 ⟨u, rfl, hu7, hv7⟩
      obtain ⟨ua, uc, rfl⟩ := own_len hu7
      obtain ⟨M, hM⟩ : ∃ M, M = q5.1.length := ⟨_, rfl⟩
      rw [← hM] at hu7 ⊢
      have HMM := Lib.hid hM
      have hrm7 := rw_kept HM6.out hv7.2 HNE.out
      have c7 := Rw.cell hrm7 (j := 4) rfl
      have f7 := Rw.free hrm7 4
      have hrm8 := Rw.stored hrm7 4 (.slice ua M uc)
      have hrd8 := rd_put hv7.1 HBE.out HNE.out 4 (.slice ua M uc)
      have hu8 := own_store (own_mono hu7 (Nat.le_trans HGE.out HK6.out.size)) hrm7 (by decide) 4 (.slice ua M uc)
      obtain ⟨w8, hw8⟩ : ∃ w8, w8 = w7.setCell ⟨w3.heap.size, 4, none⟩ (.slice ua M uc) := ⟨_, rfl⟩
      have hk8' : Kept (fun k => k = g) w3 w8 := by rw [hw8]; exact kept_put (kept_trans HK6.out hv7.2) (.inr (Nat.le_refl _)) 4 _
      have hsz8 : w8.heap.size = w7.heap.size := by rw [hw8]; simp
      rw [← hw8] at hrm8 hrd8 hu8
      have g0 : w8.cell? ⟨w3.heap.size, 0, none⟩ = some (.int .i64 q1.1) := Rw.cell hrm8 rfl
      have g1 : w8.cell? ⟨w3.heap.size, 1, none⟩ = some (.int .i64 q2.1) := Rw.cell hrm8 rfl
      have g2 : w8.cell? ⟨w3.heap.size, 2, none⟩ = some (.int .i64 q3.1) := Rw.cell hrm8 rfl
      have g3 : w8.cell? ⟨w3.heap.size, 3, none⟩ = some (.string ⟨q4.1.toArray⟩) := Rw.cell hrm8 rfl
      have g4 : w8.cell? ⟨w3.heap.size, 4, none⟩ = some (.slice ua M uc) := Rw.cell hrm8 rfl
      have hA8 := appG_keep HA.out HR.out HG.out hk8'
      obtain ⟨ns, m1, m2, m3, m4⟩ := hA8
      have hnl : ns.length = k := by rw [← HLEN.out, ← m1, List.length_map]
      have HO8 : Hid (w8.ownsRow 0 46 5 (.slice a k c) k (rowsE ns)) := Lib.hid (by have := m2.1; rw [hnl] at this; exact this)
      have HNS := Lib.hid hnl
      have HM1 := Lib.hid m1
      have HM2 := Lib.hid m2
      have HM3 := Lib.hid m3
      have HM4' := Lib.hid m4
      have HU8 := Lib.hid hu8
      have HRD8 := Lib.hid hrd8
      have HW8 := Lib.hid hw8
      have HSZ8 := Lib.hid hsz8
      clear hu7 hv7 hM hrm7 hrm8 hrd8 hu8 hw8 hk8' hsz8 hnl m1 m2 m3 m4 HLI
      go_wp2_with (first
        | (rw [← HW8.out]; refine wpList_load_mid rfl 46 _ rfl w3.heap.size 0 rfl [.int .i64 q1.1, .int .i64 q2.1, .int .i64 q3.1, .string ⟨q4.1.toArray⟩, .slice ua M uc] _ (fun j v hj => by match j, hj with | 0, hj => (simp at hj; subst hj; exact g0) | 1, hj => (simp at hj; subst hj; exact g1) | 2, hj => (simp at hj; subst hj; exact g2) | 3, hj => (simp at hj; subst hj; exact g3) | 4, hj => (simp at hj; subst hj; exact g4) | j + 5, hj => simp at hj) Try.underlying46 rfl Try.infoEnt ?_)
        | (refine wpList_append_lies _ rfl (.tmp 21) (.tmp 23) 22 rfl 0 46 i0 _ 5 64 Try.underlying22 hi0 hz0 hz1 hz2 rfl (by decide) (.slice a k c) k (rowsE ns) rfl ((HO8.out).alloc _) ⟨w8.heap.size, 0, none⟩ 1 1 [.int .i64 q1.1, .int .i64 q2.1, .int .i64 q3.1, .string ⟨q4.1.toArray⟩, .slice ua M uc] rfl rfl (World.news_of_block (heap_alloc_new w8 _)) (ent_cells_one _ _ _ _ _ _ _) (by decide) HMX.out HBT.out (Nat.zero_le _) (w8.heap.size + 1) (by simp) ?_; intro gg cap w10 hown hgrow hat hlt4)
        | fail)
      have HGR := Lib.hid hgrow
      have HOW := Lib.hid hown
      have HAT := Lib.hid hat
      clear hgrow hown hat hlt4 g0 g1 g2 g3 g4
      go_roundw
      case rel =>
        refine ⟨k + 1, some ⟨gg, 0, none⟩, cap, HKL.out, by go_num, rfl, Lib.hid ?_, Lib.hid ?_⟩
        · rw [HSN.out, HQ.out]
          exact appG_add HM1.out HM2.out HM3.out HM4'.out (e := ⟨q1.1, q2.1, q3.1, ⟨q4.1.toArray⟩, q5.1⟩) (u := .slice ua M uc) (by rw [← HMM.out]; exact HU8.out) HL5.out HNS.out.symm HOW.out HGR.out (fun k hk => by
            simp only [Value.ownBlock, Option.some.injEq] at hk
            subst hk
            exact HAT.out)
        · rw [HSN.out, HQ.out]
          exact rdAt_keptF HRD8.out (kept_grown (F := fun x => (Value.slice a k c).ownBlock = some x) (kept_below (below_more (Below.refl _ _) _)) HGR.out (fun _ hk => .inl hk)) (fun x hx => by
            have h1 := HM3.out x hx
            have h2 := HG.out
            have h3 := HB.out
            exact ⟨by omega, by omega⟩)
      case measure => have := HKL.out; simp [intOf]; omega
    · have hyk : ¬ (k : Int) < (N : Int) := by omega
      have hkn : k = N := by omega
      have HE : Hid (AppG w g (entsR N s2).1 w3 (.slice a k c) ∧ RdAt w3 B g (entsR N s2).2) := Lib.hid (by rw [← hkn]; exact ⟨HA.out, HR.out⟩)
      clear hlt hk hkn
      go_wp2_with fail
      go_ret
      exact ⟨_, rfl, HE.out.1, HE.out.2⟩

end Go.Proofs.Ytpbdilbimpnmjaa
