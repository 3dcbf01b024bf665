/- Contracts: msg: Encode. -/
import Derived.BigRegion
import Derived.Deep.RegionHeld3
import Derived.Test.YthpljpbiamjmaaaProg
import Derived.Test.YthpljpbiamjmaaaKit
import Derived.Test.YthpljpbiamjmaaaRow
import Derived.Test.YthpljpbiamjmaaaCod7
import Derived.Test.YthpljpbiamjmaaaFrm4
import Derived.Test.YthpljpbiamjmaaaFp
import Derived.Test.YthpljpbiamjmaaaNet0
import Derived.Test.YthpljpbiamjmaaaKp0
import Derived.Test.YthpljpbiamjmaaaMg0
import Derived.Test.YthpljpbiamjmaaaMg5
import Derived.Test.YthpljpbiamjmaaaMg6
import Derived.Test.YthpljpbiamjmaaaMg8
import Derived.Test.YthpljpbiamjmaaaMg9
namespace Go.Proofs.Ythpljpbiamjmaaa
open Go.RowKit Go.Proofs

def encW (m : MsgM) : List UInt8 := if okMB m = true then msgW m else []

def codW (m : MsgM) : Int := if okMB m = true then 0 else 1

theorem own_from {w : World} {e : TypeId} {s n b : Nat} {v : Value} {xs : List Value} (h : w.ownsRow 0 e s v n xs) (hb : ∀ k, v.ownBlock = some k → b ≤ k) : w.ownsRow b e s v n xs := by
  refine ⟨h.1, ?_⟩
  rcases h.2 with h | ⟨g, cap, cur, rfl, _, r⟩
  · exact .inl h
  · exact .inr ⟨g, cap, cur, rfl, hb g rfl, r⟩

theorem Try.infoWriter : (Try.prog.info? 50).map (fun i => (i.zero, i.size)) = some (some (.agg #[.slice none 0 0]), 1) := by kernel_rfl

set_option maxRecDepth 100000 in
set_option maxHeartbeats 4000000 in
theorem encode_any {w : World} {m : MsgM} {ev mv : Value} (h : MsgAt w ev mv m) (hs : smallM m) :
    Calls Try.prog 10 #[msgV m ev mv] w fun e w' => ∃ v', e = .returned (.tuple #[v', .int .i64 (codW m)]) ∧ w'.ownsRow w.heap.size 5 1 v' (encW m).length ((encW m).map byteV) ∧ Below w.heap.size w w' := by
  obtain ⟨gm, hgm⟩ : ∃ gm, gm = w.heap.size := ⟨_, rfl⟩
  have HEN := fun W (hb : Below w.heap.size w W) => Lib.hid (encodable_any (msgAt_below h hb))
  have HMS := fun W g (v : Value) (bs : List UInt8) (h1 : MWrAt W g v bs) he hm hok hn => Lib.hid (mmessage_any h1 m (ev := ev) (mv := mv) he hm hok hs hn)
  have H := Lib.hid h
  have HEW : Hid (okMB m = true → encW m = msgW m ∧ codW m = 0) := Lib.hid (fun h => ⟨by unfold encW; rw [if_pos h], by unfold codW; rw [if_pos h]⟩)
  have HEN0 : Hid (okMB m = false → encW m = [] ∧ codW m = 1) := Lib.hid (fun h => ⟨by unfold encW; rw [if_neg (by rw [h]; decide)], by unfold codW; rw [if_neg (by rw [h]; decide)]⟩)
  obtain ⟨ok, hok⟩ : ∃ ok, ok = okMB m := ⟨_, rfl⟩
  obtain ⟨ew, hew⟩ : ∃ ew, ew = encW m := ⟨_, rfl⟩
  obtain ⟨cw, hcw⟩ : ∃ cw, cw = codW m := ⟨_, rfl⟩
  rw [← hok] at HEN HEW HEN0
  rw [← hew] at HEW HEN0 ⊢
  rw [← hcw] at HEW HEN0 ⊢
  have HOK := Lib.hid hok
  obtain ⟨mw, hmw⟩ : ∃ mw, mw = msgW m := ⟨_, rfl⟩
  rw [← hmw] at HEW HMS
  obtain ⟨he, hel, hm⟩ := h
  obtain ⟨a, c, rfl, _⟩ := id he
  obtain ⟨a2, c2, rfl⟩ := intsAt_len hm
  unfold msgV at HEN HMS ⊢
  obtain ⟨kd, fr, tq, tm, ix, lt, cm, yes, es, ⟨si, st, ms, sd⟩⟩ := m
  dsimp only at he hel hm HEN HMS ⊢
  have HZE : ∀ W g, Below w.heap.size w W → w.heap.size ≤ g → EntsZ W (fun k => ¬ Foot g (.slice none 0 0) k) (.slice a es.length c) es := fun W g hb hg => entsZ_less (entsZ_keep (entsAt_z he) (fun k hk _ => hb.block k hk)) (fun k _ hz hf => hf.elim (fun e => by omega) (fun e => by simp [Value.ownBlock] at e))
  have HZI : ∀ W g, Below w.heap.size w W → w.heap.size ≤ g → IntsZ W (fun k => ¬ Foot g (.slice none 0 0) k) (.slice a2 ms.length c2) ms := fun W g hb hg => intsZ_less (intsZ_keep (intsAt_z hm) (fun k hk _ => hb.block k hk)) (fun k _ hz hf => hf.elim (fun e => by omega) (fun e => by simp [Value.ownBlock] at e))
  have HZE2 := Lib.hid HZE
  have HZI2 := Lib.hid HZI
  obtain ⟨n, hn⟩ : ∃ n, n = es.length := ⟨_, rfl⟩
  obtain ⟨M, hM⟩ : ∃ M, M = ms.length := ⟨_, rfl⟩
  rw [← hn, ← hM] at HEN HMS ⊢
  rw [← hn] at HZE2
  rw [← hM] at HZI2
  have hbX := below_more (Below.refl _ w) (.cells #[.int .i64 kd, .int .i64 fr, .int .i64 tq, .int .i64 tm, .int .i64 ix, .int .i64 lt, .int .i64 cm, .bool yes, .slice a n c, .int .i64 si, .int .i64 st, .slice a2 M c2, .string sd] 27)
  have HRX : Hid (Rw (w.alloc (.cells #[.int .i64 kd, .int .i64 fr, .int .i64 tq, .int .i64 tm, .int .i64 ix, .int .i64 lt, .int .i64 cm, .bool yes, .slice a n c, .int .i64 si, .int .i64 st, .slice a2 M c2, .string sd] 27)) 0 gm 27 [.int .i64 kd, .int .i64 fr, .int .i64 tq, .int .i64 tm, .int .i64 ix, .int .i64 lt, .int .i64 cm, .bool yes, .slice a n c, .int .i64 si, .int .i64 st, .slice a2 M c2, .string sd]) := Lib.hid (by rw [hgm]; exact Rw.alloc w _ _ (Nat.zero_le _))
  have HE1 := HEN _ hbX
  have HBX := Lib.hid hbX
  have HGM := Lib.hid hgm
  have hz := zero_cells Try.infoWriter
  have HMS2 := Lib.hid HMS
  clear H HEN hok hew hcw hmw he hel hm HZE HZI hn hM hbX hgm hs HMS
  go_enter Try.func10, Try.ntmps10
  go_wp2_with fail
  refine (HE1.out).mono ?_
  rintro e w2 ⟨rfl, hb2⟩
  have HB2 := Lib.hid (below_then HBX.out hb2)
  have HR2 := Lib.hid (Rw.below HRX.out hb2)
  clear hb2
  cases ok with
  | false =>
    obtain ⟨e1, e2⟩ := HEN0.out rfl
    have HE1' := Lib.hid e1
    have HE2' := Lib.hid e2
    clear e1 e2
    go_wp2_with fail
    go_ret2
    refine ⟨.slice none 0 0, by rw [HE2'.out]; rfl, ?_, HB2.out⟩
    rw [HE1'.out]
    exact World.ownsRow_nil _ _ _ _
  | true =>
    obtain ⟨e1, e2⟩ := HEW.out rfl
    have HE1' := Lib.hid e1
    have HE2' := Lib.hid e2
    clear e1 e2
    have hb3 := below_more HB2.out (.cells #[.slice none 0 0] 50)
    have hW3 : MWrAt (w2.alloc (.cells #[.slice none 0 0] 50)) w2.heap.size (.slice none 0 0) [] := ⟨Rw.alloc w2 _ _ (Nat.zero_le _), World.ownsRow_nil _ _ _ _⟩
    have HM3 := HMS2.out _ _ _ _ hW3 (HZE2.out _ _ hb3 HB2.out.size) (HZI2.out _ _ hb3 HB2.out.size) HOK.out.symm (by simp)
    have HB3 := Lib.hid hb3
    have hr3 := Rw.more HR2.out (.cells #[.slice none 0 0] 50)
    rw [HGM.out] at hr3
    have x0 := Rw.cell (j := 0) (v := (.int .i64 kd)) hr3 rfl
    have x1 := Rw.cell (j := 1) (v := (.int .i64 fr)) hr3 rfl
    have x2 := Rw.cell (j := 2) (v := (.int .i64 tq)) hr3 rfl
    have x3 := Rw.cell (j := 3) (v := (.int .i64 tm)) hr3 rfl
    have x4 := Rw.cell (j := 4) (v := (.int .i64 ix)) hr3 rfl
    have x5 := Rw.cell (j := 5) (v := (.int .i64 lt)) hr3 rfl
    have x6 := Rw.cell (j := 6) (v := (.int .i64 cm)) hr3 rfl
    have x7 := Rw.cell (j := 7) (v := (.bool yes)) hr3 rfl
    have x8 := Rw.cell (j := 8) (v := (.slice a n c)) hr3 rfl
    have x9 := Rw.cell (j := 9) (v := (.int .i64 si)) hr3 rfl
    have x10 := Rw.cell (j := 10) (v := (.int .i64 st)) hr3 rfl
    have x11 := Rw.cell (j := 11) (v := (.slice a2 M c2)) hr3 rfl
    have x12 := Rw.cell (j := 12) (v := (.string sd)) hr3 rfl
    clear hb3 hW3 hr3
    go_wp2_with (first | (refine wpList_alloc_z rfl 50 rfl #[.slice none 0 0] hz ?_) | fail)
    refine (HM3.out).mono ?_
    rintro e w4 ⟨rfl, v4, hN4, hf4, hk4⟩
    have h4 : w4.cell? ⟨w2.heap.size, 0, none⟩ = some v4 := Rw.cell hN4.1 rfl
    obtain ⟨va, vc, rfl⟩ := own_len hN4.2
    have HN4 := Lib.hid hN4
    have HF4 := Lib.hid hf4
    have HK4 := Lib.hid hk4
    clear hN4 hf4 hk4 x0 x1 x2 x3 x4 x5 x6 x7 x8 x9 x10 x11 x12
    go_wp2_with fail
    go_ret2
    refine ⟨_, by rw [HE2'.out]; rfl, ?_, below_kept (kept_then (kept_below HB3.out) HK4.out (fun x hx => .inr ?_))⟩
    · rw [HE1'.out]
      refine own_from HN4.out.2 (fun k hk => ?_)
      rcases HF4.out k hk with h | h
      · simp [Value.ownBlock] at h
      · exact Nat.le_trans HB3.out.size h
    · rcases hx with hx | hx
      · rw [hx]; exact HB2.out.size
      · simp [Value.ownBlock] at hx

end Go.Proofs.Ythpljpbiamjmaaa
