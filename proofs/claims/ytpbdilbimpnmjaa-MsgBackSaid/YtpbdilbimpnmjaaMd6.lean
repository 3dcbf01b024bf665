/- Contracts: msg: the reader: a message. -/
import Derived.BigRegion
import Derived.Deep.RegionHeld3
import Derived.Test.YtpbdilbimpnmjaaProg
import Derived.Test.YtpbdilbimpnmjaaKit
import Derived.Test.YtpbdilbimpnmjaaRow
import Derived.Test.YtpbdilbimpnmjaaCod7
import Derived.Test.YtpbdilbimpnmjaaFp
import Derived.Test.YtpbdilbimpnmjaaKp0
import Derived.Test.YtpbdilbimpnmjaaMg0
import Derived.Test.YtpbdilbimpnmjaaMg5
import Derived.Test.YtpbdilbimpnmjaaMd1
import Derived.Test.YtpbdilbimpnmjaaMd4
namespace Go.Proofs.Ytpbdilbimpnmjaa
open Go.RowKit Go.Proofs

theorem msgR_of {s q0 : List UInt8 × Bool} {x : Int × List UInt8 × Bool} {a b c : Int × List UInt8 × Bool} (h0 : x = numR 1 s) (ha : a = numR 8 x.2) (hb : b = numR 8 a.2) (hc : c = numR 8 b.2) (hq : q0 = c.2) : msgR s = bodyR ⟨x.1, a.1, b.1, c.1, 0, 0, 0, false, [], zeroSn⟩ q0 := by
  subst hq hc hb ha h0
  have e1 : headR s = (⟨(numR 1 s).1, (numR 8 (numR 1 s).2).1, (numR 8 (numR 8 (numR 1 s).2).2).1, (numR 8 (numR 8 (numR 8 (numR 1 s).2).2).2).1, 0, 0, 0, false, [], zeroSn⟩, (numR 8 (numR 8 (numR 8 (numR 1 s).2).2).2).2) := by unfold headR; rfl
  unfold msgR
  rw [e1]

theorem bodyR1 {m : MsgM} {s : List UInt8 × Bool} (h : m.kd = 1) {d e : Int × List UInt8 × Bool} (hd : d = numR 8 s) (he : e = numR 8 d.2) : bodyR m s = ({ m with ix := d.1, lt := e.1 }, e.2) := by subst he hd; unfold bodyR; rw [if_pos h]

theorem bodyR2 {m : MsgM} {s : List UInt8 × Bool} (h : m.kd = 2) {d : Bool × List UInt8 × Bool} (hd : d = yesR s) : bodyR m s = ({ m with yes := d.1 }, d.2) := by subst hd; unfold bodyR; rw [if_neg (by omega), if_pos h]

theorem bodyR3 {m : MsgM} {s : List UInt8 × Bool} (h : m.kd = 3) {d e f n : Int × List UInt8 × Bool} {u : List EntM × List UInt8 × Bool} (hd : d = numR 8 s) (he : e = numR 8 d.2) (hf : f = numR 8 e.2) (hn : n = numR 1 f.2) (hu : u = entsR n.1.toNat n.2) : bodyR m s = ({ m with ix := d.1, lt := e.1, cm := f.1, es := u.1 }, u.2) := by subst hu hn hf he hd; unfold bodyR; rw [if_neg (by omega), if_neg (by omega), if_pos h]

theorem bodyR4 {m : MsgM} {s : List UInt8 × Bool} (h : m.kd = 4) {d : Bool × List UInt8 × Bool} {e : Int × List UInt8 × Bool} (hd : d = yesR s) (he : e = numR 8 d.2) : bodyR m s = ({ m with yes := d.1, ix := e.1 }, e.2) := by subst he hd; unfold bodyR; rw [if_neg (by omega), if_neg (by omega), if_neg (by omega), if_pos h]

theorem bodyR5 {m : MsgM} {s : List UInt8 × Bool} (h : m.kd = 5) {d : SnpM × List UInt8 × Bool} (hd : d = snpR s) : bodyR m s = ({ m with sn := d.1 }, d.2) := by subst hd; unfold bodyR; rw [if_neg (by omega), if_neg (by omega), if_neg (by omega), if_neg (by omega), if_pos h]

theorem bodyR6 {m : MsgM} {s : List UInt8 × Bool} (h : ¬ m.kd = 1 ∧ ¬ m.kd = 2 ∧ ¬ m.kd = 3 ∧ ¬ m.kd = 4 ∧ ¬ m.kd = 5) : bodyR m s = (m, s) := by unfold bodyR; rw [if_neg h.1, if_neg h.2.1, if_neg h.2.2.1, if_neg h.2.2.2.1, if_neg h.2.2.2.2]

/-- ints by a row of pointers that is made for it. -/
theorem rptrs_new {W : World} {B g gm n p : Nat} {T : TypeId} {cs : List Value} {s : List UInt8 × Bool} (h : RdAt W B g s) (hm : Rw W 0 gm T cs) (hB : B ≤ gm) (hne : gm ≠ g) {js : List Nat} (hn : n = js.length) (hj : ∀ j ∈ js, j < cs.length) (hn8 : n ≤ 8) {ps : Array Value} (hps : ps.toList = js.map fun j => .pointer (some ⟨gm, j, none⟩)) (hp : p = W.heap.size) {r : List Int × List UInt8 × Bool} (hr : r = intsR n s) :
    Calls Try.prog 42 #[.pointer (some ⟨g, 0, none⟩), .slice (some ⟨p, 0, none⟩) n n] (W.alloc (.cells ps 81)) fun e w' => e = .returned (.tuple #[]) ∧ PtrsV W w' B g gm T cs js r := by
  subst hp hr
  have hb := below_more (Below.refl _ W) (.cells ps 81)
  have h1 := rdAt_lt h
  have h2 := Rw.size hm
  refine (rptrs_any (c := n) (rdAt_below h hb) (Rw.below hm hb) hB hne hn hj (b := W.heap.size) (o := 0) (by omega) (by omega) (fun i j hij => ?_) hn8).mono ?_
  · rw [Nat.zero_add, cell_of_row _ _ _ _ 81 (0, 0) (heap_alloc_new W _)]
    have h3 : (js.map fun j => Value.pointer (some ⟨gm, j, none⟩))[i]? = some (.pointer (some ⟨gm, j, none⟩)) := by rw [List.getElem?_map, hij]; rfl
    rw [← hps] at h3
    simpa using h3
  · rintro e w' ⟨rfl, a1, a2, a3⟩
    exact ⟨rfl, a1, a2, kept_then (kept_below hb) a3 (fun x hx => .inl hx)⟩

theorem msg_one (a b c d e f g : Int) (y : Bool) (A1 A2 : Option Addr) (n1 c1 n2 c2 : Nat) (i j : Int) (s : ByteArray) : (#[Value.int .i64 a, .int .i64 b, .int .i64 c, .int .i64 d, .int .i64 e, .int .i64 f, .int .i64 g, .bool y, .slice A1 n1 c1, .int .i64 i, .int .i64 j, .slice A2 n2 c2, .string s].all (·.oneCell')) = true := by simp [Value.oneCell']

def MsgOwn (w : World) (ev mv : Value) (m : MsgM) : Prop := (∃ ns : List RecE, ns.map (·.e) = m.es ∧ OwnE w 0 ev ns) ∧ m.es.length ≤ 1000000 ∧ w.ownsRow 0 3 1 mv m.sn.ms.length (m.sn.ms.map kiV) ∧ m.sn.ms.length ≤ 1000000

theorem ownE_nil (w : World) : ∃ ns : List RecE, ns.map (·.e) = [] ∧ OwnE w 0 (.slice none 0 0) ns := ⟨[], rfl, World.ownsRow_nil _ _ _ _, fun r hr => by simp at hr⟩

theorem msgOwn_at {w : World} {ev mv : Value} {m : MsgM} (h : MsgOwn w ev mv m) : MsgAt w ev mv m := by
  obtain ⟨⟨ns, h1, h2⟩, h3, h4, h5⟩ := h
  refine ⟨?_, h3, intsAt_own h4 h5⟩
  rw [← h1]
  exact ownE_ents h2

def MsgRV (w w' : World) (B g : Nat) (e : Ending) (q : MsgM × List UInt8 × Bool) : Prop := ∃ ev mv, e = .returned (msgV q.1 ev mv) ∧ MsgOwn w' ev mv q.1 ∧ RdV w w' B g q.2

/-- What stands at the end, ahead of the copy into the result. -/
theorem md_end {w W : World} {B g gR : Nat} {s : List UInt8 × Bool} {cs : List Value} (hrd : RdAt W B g s) (hk : Kept (fun k => k = g) w W) (hR : Rw W 0 gR 27 cs) (hB : B ≤ gR) (hne : gR ≠ g) (hw : w.heap.size ≤ gR) {xs : List Value} (hl : cs.length = xs.length) : RdV w (W.setCells gR 0 xs) B g s ∧ Rw (W.setCells gR 0 xs) 0 gR 27 xs := by
  have hk9 : Kept (fun k => k = gR) W (W.setCells gR 0 xs) := kept_puts (F := fun k => k = gR) (.inl rfl) _ 0 (kept_refl _ _)
  exact ⟨⟨rdAt_kept hrd hB hne hk9, kept_then hk hk9 (fun x hx => .inr (by omega))⟩, Rw.storedAll hR xs hl⟩

theorem kept_gm {w w3 W : World} {g gm : Nat} (hk : Kept (fun k => k = g) w w3) (h : Kept (fun k => k = g ∨ k = gm) w3 W) (hg : w.heap.size ≤ gm) : Kept (fun k => k = g) w W := kept_then hk h (fun x hx => hx.elim .inl (fun e => .inr (by omega)))

set_option maxRecDepth 100000 in
set_option maxHeartbeats 16000000 in
theorem rmessage_k1 {w : World} {B g : Nat} {s : List UInt8 × Bool} (h : RdAt w B g s) (hk6 : (numR 1 s).1 = 1) :
    Calls Try.prog 23 #[.pointer (some ⟨g, 0, none⟩)] w fun e w' => MsgRV w w' B g e (msgR s) := by
  have hz := zero_cells Try.infoMsg
  have hg := rdAt_lt h
  have hpos := numR_pos 1 s
  have hb1 := below_more (Below.refl _ w) (.cells #[.int .i64 0, .int .i64 0, .int .i64 0, .int .i64 0, .int .i64 0, .int .i64 0, .int .i64 0, .bool false, .slice none 0 0, .int .i64 0, .int .i64 0, .slice none 0 0, .string ⟨#[]⟩] 27)
  have HNM := Lib.hid (rnumber_any (rdAt_below h hb1) 1 (by decide))
  have HRR := Lib.hid (Rw.alloc w 27 #[.int .i64 0, .int .i64 0, .int .i64 0, .int .i64 0, .int .i64 0, .int .i64 0, .int .i64 0, .bool false, .slice none 0 0, .int .i64 0, .int .i64 0, .slice none 0 0, .string ⟨#[]⟩] (Nat.zero_le _))
  obtain ⟨x, hx⟩ : ∃ x, x = numR 1 s := ⟨_, rfl⟩
  rw [← hx] at HNM hpos hk6
  obtain ⟨a, ha⟩ : ∃ a, a = numR 8 x.2 := ⟨_, rfl⟩
  obtain ⟨b, hb⟩ : ∃ b, b = numR 8 a.2 := ⟨_, rfl⟩
  obtain ⟨c, hc⟩ : ∃ c, c = numR 8 b.2 := ⟨_, rfl⟩
  have HMS := Lib.hid (msgR_of (q0 := c.2) hx ha hb hc rfl)
  have HI3 : Hid (([a.1, b.1, c.1], c.2) = intsR 3 x.2) := Lib.hid (by rw [intsR_three, ← ha, ← hb, ← hc])
  obtain ⟨y, hy⟩ : ∃ y, y = msgR s := ⟨_, rfl⟩
  rw [← hy] at HMS ⊢
  obtain ⟨x1, x2⟩ := x
  dsimp only at HMS HI3 hpos hk6
  obtain ⟨K, rfl⟩ := Int.eq_ofNat_of_zero_le hpos
  have HG := Lib.hid hg
  have HB := Lib.hid h.1
  have HB1 := Lib.hid hb1
  have HK6 := Lib.hid hk6
  clear h hg hpos hb1 hx ha hb hc hy hk6
  go_enter Try.func23, Try.ntmps23
  go_wp2_with (first | (refine wpList_alloc_z rfl 27 rfl #[.int .i64 0, .int .i64 0, .int .i64 0, .int .i64 0, .int .i64 0, .int .i64 0, .int .i64 0, .bool false, .slice none 0 0, .int .i64 0, .int .i64 0, .slice none 0 0, .string ⟨#[]⟩] hz ?_) | fail)
  refine (HNM.out).mono ?_
  rintro e w2 ⟨rfl, hv2⟩
  dsimp only at hv2 ⊢
  have hs2 : w.heap.size + 1 ≤ w2.heap.size := by have := hv2.2.size; simpa using this
  have hb3 := below_more (Below.refl _ w2) (.cells #[.int .i64 K, .int .i64 0, .int .i64 0, .int .i64 0, .int .i64 0, .int .i64 0, .int .i64 0, .bool false, .slice none 0 0, .int .i64 0, .int .i64 0, .slice none 0 0, .string ⟨#[]⟩] 27)
  have hr3 : Rw (w2.alloc (.cells #[.int .i64 K, .int .i64 0, .int .i64 0, .int .i64 0, .int .i64 0, .int .i64 0, .int .i64 0, .bool false, .slice none 0 0, .int .i64 0, .int .i64 0, .slice none 0 0, .string ⟨#[]⟩] 27)) 0 w2.heap.size 27 [.int .i64 K, .int .i64 0, .int .i64 0, .int .i64 0, .int .i64 0, .int .i64 0, .int .i64 0, .bool false, .slice none 0 0, .int .i64 0, .int .i64 0, .slice none 0 0, .string ⟨#[]⟩] := Rw.alloc w2 _ _ (Nat.zero_le _)
  have hrr3 : Rw (w2.alloc (.cells #[.int .i64 K, .int .i64 0, .int .i64 0, .int .i64 0, .int .i64 0, .int .i64 0, .int .i64 0, .bool false, .slice none 0 0, .int .i64 0, .int .i64 0, .slice none 0 0, .string ⟨#[]⟩] 27)) 0 w.heap.size 27 [.int .i64 0, .int .i64 0, .int .i64 0, .int .i64 0, .int .i64 0, .int .i64 0, .int .i64 0, .bool false, .slice none 0 0, .int .i64 0, .int .i64 0, .slice none 0 0, .string ⟨#[]⟩] := Rw.below (rw_kept HRR.out hv2.2 (by have := HG.out; omega)) hb3
  have hk3 : Kept (fun k => k = g) w (w2.alloc (.cells #[.int .i64 K, .int .i64 0, .int .i64 0, .int .i64 0, .int .i64 0, .int .i64 0, .int .i64 0, .bool false, .slice none 0 0, .int .i64 0, .int .i64 0, .slice none 0 0, .string ⟨#[]⟩] 27)) := kept_then (G := fun _ => False) (kept_then (kept_below HB1.out) hv2.2 (fun x hx => .inl hx)) (kept_below hb3) (fun _ h => h.elim)
  have HNE : Hid (w2.heap.size ≠ g) := Lib.hid (by have := HG.out; omega)
  have HBM : Hid (B ≤ w2.heap.size) := Lib.hid (by have := HG.out; have := HB.out; omega)
  have HNR : Hid (w.heap.size ≠ g) := Lib.hid (by have := HG.out; omega)
  have HBR : Hid (B ≤ w.heap.size) := Lib.hid (by have := HG.out; have := HB.out; omega)
  have HRM : Hid (w.heap.size ≠ w2.heap.size) := Lib.hid (by omega)
  have HWM : Hid (w.heap.size ≤ w2.heap.size) := Lib.hid (by omega)
  have HPT := Lib.hid (rptrs_new (rdAt_below hv2.1 hb3) hr3 HBM.out HNE.out (js := [1, 2, 3]) (n := 3) rfl (fun j hj => by simp at hj; rcases hj with rfl | rfl | rfl <;> simp) (by decide) (ps := #[.pointer (some ⟨w2.heap.size, 1, none⟩), .pointer (some ⟨w2.heap.size, 2, none⟩), .pointer (some ⟨w2.heap.size, 3, none⟩)]) rfl (p := w2.heap.size + 1) (by simp) HI3.out)
  have HK3 := Lib.hid hk3
  have HRR3 := Lib.hid hrr3
  clear hv2 hs2 hb3 hr3 hrr3 hk3 HNM
  go_wp2_with (first | (refine wpList_alloc_z rfl 27 rfl #[.int .i64 0, .int .i64 0, .int .i64 0, .int .i64 0, .int .i64 0, .int .i64 0, .int .i64 0, .bool false, .slice none 0 0, .int .i64 0, .int .i64 0, .slice none 0 0, .string ⟨#[]⟩] hz ?_) | fail)
  refine (HPT.out).mono ?_
  rintro e w5 ⟨rfl, hrd5, hrm5, hk5⟩
  dsimp only [setL, List.set] at hrm5 hrd5
  have hrr5 := rw_kept HRR3.out hk5 (fun e => e.elim HNR.out HRM.out)
  have hkk5 := kept_gm HK3.out hk5 HWM.out
  have x0 : w5.cell? ⟨w2.heap.size, 0, none⟩ = some (.int .i64 K) := Rw.cell hrm5 rfl
  have HRD := Lib.hid hrd5
  have HM := Lib.hid hrm5
  have HR := Lib.hid hrr5
  have HK := Lib.hid hkk5
  clear hrd5 hrm5 hk5 hrr5 hkk5 HPT HI3
  have hk6 := HK6.out
  obtain ⟨d, hd⟩ : ∃ d, d = numR 8 c.2 := ⟨_, rfl⟩
  obtain ⟨e, he⟩ : ∃ e, e = numR 8 d.2 := ⟨_, rfl⟩
  have HQ := Lib.hid (HMS.out.trans (bodyR1 hk6 hd he))
  have HPT := Lib.hid (rptrs_new HRD.out HM.out HBM.out HNE.out (js := [4, 5]) (n := 2) rfl (fun j hj => by simp at hj; rcases hj with rfl | rfl <;> simp) (by decide) (ps := #[.pointer (some ⟨w2.heap.size, 4, none⟩), .pointer (some ⟨w2.heap.size, 5, none⟩)]) rfl (p := w5.heap.size) rfl (r := ([d.1, e.1], e.2)) (by rw [intsR_two, ← hd, ← he]))
  have q1 : ((K : Int) == 1) = true := by rw [beq_iff_eq]; omega
  clear hk6 hd he
  go_wp2_with fail
  refine (HPT.out).mono ?_
  rintro e w7 ⟨rfl, hrd, hrm, hk⟩
  dsimp only [setL, List.set] at hrm hrd
  have hrr := rw_kept HR.out hk (fun e => e.elim HNR.out HRM.out)
  have hkk := kept_gm HK.out hk HWM.out
  clear HRD HM HR HK HPT
  have HRD := Lib.hid hrd
  have HM := Lib.hid hrm
  have HR := Lib.hid hrr
  have HK := Lib.hid hkk
  clear hrd hrm hk hrr hkk
  clear x0
  obtain ⟨hrdv, hend⟩ := md_end HRD.out HK.out HR.out HBR.out HNR.out (Nat.le_refl _) (xs := [.int .i64 K, .int .i64 a.1, .int .i64 b.1, .int .i64 c.1, .int .i64 d.1, .int .i64 e.1, .int .i64 0, .bool false, .slice none 0 0, .int .i64 0, .int .i64 0, .slice none 0 0, .string ⟨#[]⟩]) rfl
  have HRDV := Lib.hid hrdv
  have HEND := Lib.hid hend
  clear hrdv hend
  go_wp2_with (first | (refine wpList_load_mid rfl 27 _ rfl w2.heap.size 0 rfl [.int .i64 K, .int .i64 a.1, .int .i64 b.1, .int .i64 c.1, .int .i64 d.1, .int .i64 e.1, .int .i64 0, .bool false, .slice none 0 0, .int .i64 0, .int .i64 0, .slice none 0 0, .string ⟨#[]⟩] _ (Rw.whole HM.out) Try.underlying27 rfl Try.sizeMsg ?_) | (refine wpList_store_mid rfl 27 _ _ rfl w.heap.size 0 #[.int .i64 K, .int .i64 a.1, .int .i64 b.1, .int .i64 c.1, .int .i64 d.1, .int .i64 e.1, .int .i64 0, .bool false, .slice none 0 0, .int .i64 0, .int .i64 0, .slice none 0 0, .string ⟨#[]⟩] rfl rfl (Rw.there HR.out 0 _ (by simp)) Try.sizeMsg (msg_one _ _ _ _ _ _ _ _ _ _ _ _ _ _ _ _ _) ?_) | fail)
  refine bodyPost_ret (v := .agg #[.int .i64 K, .int .i64 a.1, .int .i64 b.1, .int .i64 c.1, .int .i64 d.1, .int .i64 e.1, .int .i64 0, .bool false, .slice none 0 0, .int .i64 0, .int .i64 0, .slice none 0 0, .string ⟨#[]⟩]) ?_ rfl ⟨.slice none 0 0, .slice none 0 0, by rw [HQ.out]; rfl, by rw [HQ.out]; exact ⟨ownE_nil _, by simp, World.ownsRow_nil _ _ _ _, by simp [zeroSn]⟩, by rw [HQ.out]; exact HRDV.out⟩
  exact results_cell_row rfl _ _ w.heap.size _ _ _ _ rfl HEND.out.2 Try.underlying27 rfl Try.sizeMsg

set_option maxRecDepth 100000 in
set_option maxHeartbeats 16000000 in
theorem rmessage_k2 {w : World} {B g : Nat} {s : List UInt8 × Bool} (h : RdAt w B g s) (hk6 : (numR 1 s).1 = 2) :
    Calls Try.prog 23 #[.pointer (some ⟨g, 0, none⟩)] w fun e w' => MsgRV w w' B g e (msgR s) := by
  have hz := zero_cells Try.infoMsg
  have hg := rdAt_lt h
  have hpos := numR_pos 1 s
  have hb1 := below_more (Below.refl _ w) (.cells #[.int .i64 0, .int .i64 0, .int .i64 0, .int .i64 0, .int .i64 0, .int .i64 0, .int .i64 0, .bool false, .slice none 0 0, .int .i64 0, .int .i64 0, .slice none 0 0, .string ⟨#[]⟩] 27)
  have HNM := Lib.hid (rnumber_any (rdAt_below h hb1) 1 (by decide))
  have HRR := Lib.hid (Rw.alloc w 27 #[.int .i64 0, .int .i64 0, .int .i64 0, .int .i64 0, .int .i64 0, .int .i64 0, .int .i64 0, .bool false, .slice none 0 0, .int .i64 0, .int .i64 0, .slice none 0 0, .string ⟨#[]⟩] (Nat.zero_le _))
  obtain ⟨x, hx⟩ : ∃ x, x = numR 1 s := ⟨_, rfl⟩
  rw [← hx] at HNM hpos hk6
  obtain ⟨a, ha⟩ : ∃ a, a = numR 8 x.2 := ⟨_, rfl⟩
  obtain ⟨b, hb⟩ : ∃ b, b = numR 8 a.2 := ⟨_, rfl⟩
  obtain ⟨c, hc⟩ : ∃ c, c = numR 8 b.2 := ⟨_, rfl⟩
  have HMS := Lib.hid (msgR_of (q0 := c.2) hx ha hb hc rfl)
  have HI3 : Hid (([a.1, b.1, c.1], c.2) = intsR 3 x.2) := Lib.hid (by rw [intsR_three, ← ha, ← hb, ← hc])
  obtain ⟨y, hy⟩ : ∃ y, y = msgR s := ⟨_, rfl⟩
  rw [← hy] at HMS ⊢
  obtain ⟨x1, x2⟩ := x
  dsimp only at HMS HI3 hpos hk6
  obtain ⟨K, rfl⟩ := Int.eq_ofNat_of_zero_le hpos
  have HG := Lib.hid hg
  have HB := Lib.hid h.1
  have HB1 := Lib.hid hb1
  have HK6 := Lib.hid hk6
  clear h hg hpos hb1 hx ha hb hc hy hk6
  go_enter Try.func23, Try.ntmps23
  go_wp2_with (first | (refine wpList_alloc_z rfl 27 rfl #[.int .i64 0, .int .i64 0, .int .i64 0, .int .i64 0, .int .i64 0, .int .i64 0, .int .i64 0, .bool false, .slice none 0 0, .int .i64 0, .int .i64 0, .slice none 0 0, .string ⟨#[]⟩] hz ?_) | fail)
  refine (HNM.out).mono ?_
  rintro e w2 ⟨rfl, hv2⟩
  dsimp only at hv2 ⊢
  have hs2 : w.heap.size + 1 ≤ w2.heap.size := by have := hv2.2.size; simpa using this
  have hb3 := below_more (Below.refl _ w2) (.cells #[.int .i64 K, .int .i64 0, .int .i64 0, .int .i64 0, .int .i64 0, .int .i64 0, .int .i64 0, .bool false, .slice none 0 0, .int .i64 0, .int .i64 0, .slice none 0 0, .string ⟨#[]⟩] 27)
  have hr3 : Rw (w2.alloc (.cells #[.int .i64 K, .int .i64 0, .int .i64 0, .int .i64 0, .int .i64 0, .int .i64 0, .int .i64 0, .bool false, .slice none 0 0, .int .i64 0, .int .i64 0, .slice none 0 0, .string ⟨#[]⟩] 27)) 0 w2.heap.size 27 [.int .i64 K, .int .i64 0, .int .i64 0, .int .i64 0, .int .i64 0, .int .i64 0, .int .i64 0, .bool false, .slice none 0 0, .int .i64 0, .int .i64 0, .slice none 0 0, .string ⟨#[]⟩] := Rw.alloc w2 _ _ (Nat.zero_le _)
  have hrr3 : Rw (w2.alloc (.cells #[.int .i64 K, .int .i64 0, .int .i64 0, .int .i64 0, .int .i64 0, .int .i64 0, .int .i64 0, .bool false, .slice none 0 0, .int .i64 0, .int .i64 0, .slice none 0 0, .string ⟨#[]⟩] 27)) 0 w.heap.size 27 [.int .i64 0, .int .i64 0, .int .i64 0, .int .i64 0, .int .i64 0, .int .i64 0, .int .i64 0, .bool false, .slice none 0 0, .int .i64 0, .int .i64 0, .slice none 0 0, .string ⟨#[]⟩] := Rw.below (rw_kept HRR.out hv2.2 (by have := HG.out; omega)) hb3
  have hk3 : Kept (fun k => k = g) w (w2.alloc (.cells #[.int .i64 K, .int .i64 0, .int .i64 0, .int .i64 0, .int .i64 0, .int .i64 0, .int .i64 0, .bool false, .slice none 0 0, .int .i64 0, .int .i64 0, .slice none 0 0, .string ⟨#[]⟩] 27)) := kept_then (G := fun _ => False) (kept_then (kept_below HB1.out) hv2.2 (fun x hx => .inl hx)) (kept_below hb3) (fun _ h => h.elim)
  have HNE : Hid (w2.heap.size ≠ g) := Lib.hid (by have := HG.out; omega)
  have HBM : Hid (B ≤ w2.heap.size) := Lib.hid (by have := HG.out; have := HB.out; omega)
  have HNR : Hid (w.heap.size ≠ g) := Lib.hid (by have := HG.out; omega)
  have HBR : Hid (B ≤ w.heap.size) := Lib.hid (by have := HG.out; have := HB.out; omega)
  have HRM : Hid (w.heap.size ≠ w2.heap.size) := Lib.hid (by omega)
  have HWM : Hid (w.heap.size ≤ w2.heap.size) := Lib.hid (by omega)
  have HPT := Lib.hid (rptrs_new (rdAt_below hv2.1 hb3) hr3 HBM.out HNE.out (js := [1, 2, 3]) (n := 3) rfl (fun j hj => by simp at hj; rcases hj with rfl | rfl | rfl <;> simp) (by decide) (ps := #[.pointer (some ⟨w2.heap.size, 1, none⟩), .pointer (some ⟨w2.heap.size, 2, none⟩), .pointer (some ⟨w2.heap.size, 3, none⟩)]) rfl (p := w2.heap.size + 1) (by simp) HI3.out)
  have HK3 := Lib.hid hk3
  have HRR3 := Lib.hid hrr3
  clear hv2 hs2 hb3 hr3 hrr3 hk3 HNM
  go_wp2_with (first | (refine wpList_alloc_z rfl 27 rfl #[.int .i64 0, .int .i64 0, .int .i64 0, .int .i64 0, .int .i64 0, .int .i64 0, .int .i64 0, .bool false, .slice none 0 0, .int .i64 0, .int .i64 0, .slice none 0 0, .string ⟨#[]⟩] hz ?_) | fail)
  refine (HPT.out).mono ?_
  rintro e w5 ⟨rfl, hrd5, hrm5, hk5⟩
  dsimp only [setL, List.set] at hrm5 hrd5
  have hrr5 := rw_kept HRR3.out hk5 (fun e => e.elim HNR.out HRM.out)
  have hkk5 := kept_gm HK3.out hk5 HWM.out
  have x0 : w5.cell? ⟨w2.heap.size, 0, none⟩ = some (.int .i64 K) := Rw.cell hrm5 rfl
  have HRD := Lib.hid hrd5
  have HM := Lib.hid hrm5
  have HR := Lib.hid hrr5
  have HK := Lib.hid hkk5
  clear hrd5 hrm5 hk5 hrr5 hkk5 HPT HI3
  have hk6 := HK6.out
  obtain ⟨d, hd⟩ : ∃ d, d = yesR c.2 := ⟨_, rfl⟩
  have HQ := Lib.hid (HMS.out.trans (bodyR2 hk6 hd))
  have HYE := Lib.hid (ryes_any HRD.out)
  rw [← hd] at HYE
  have q1 : ((K : Int) == 1) = false := by rw [beq_eq_false_iff_ne]; omega
  have q2 : ((K : Int) == 2) = true := by rw [beq_iff_eq]; omega
  clear hk6 hd
  go_wp2_with fail
  refine (HYE.out).mono ?_
  rintro e wy ⟨rfl, hv⟩
  have hrm := rw_kept HM.out hv.2 HNE.out
  have hrr := rw_kept HR.out hv.2 HNR.out
  have xx := Rw.cell hrm (j := 7) rfl
  have ff := Rw.free hrm 7
  have hrm2 := Rw.stored hrm 7 (.bool d.1)
  have hrr2 := Rw.other hrr HRM.out.symm 7 (.bool d.1)
  have hrd2 := rd_put hv.1 HBM.out HNE.out 7 (.bool d.1)
  have hkk2 : Kept (fun k => k = g) w (wy.setCell ⟨w2.heap.size, 7, none⟩ (.bool d.1)) := kept_put (kept_trans HK.out hv.2) (.inr HWM.out) 7 _
  obtain ⟨w7, hwn⟩ : ∃ wn, wn = wy.setCell ⟨w2.heap.size, 7, none⟩ (.bool d.1) := ⟨_, rfl⟩
  rw [← hwn] at hrm2 hrr2 hrd2 hkk2
  dsimp only [List.set] at hrm2
  clear HRD HM HR HK HYE
  have HRD := Lib.hid hrd2
  have HM := Lib.hid hrm2
  have HR := Lib.hid hrr2
  have HK := Lib.hid hkk2
  have HWN := Lib.hid hwn
  clear hv hrm hrr hrm2 hrr2 hrd2 hkk2 hwn
  clear x0
  obtain ⟨hrdv, hend⟩ := md_end HRD.out HK.out HR.out HBR.out HNR.out (Nat.le_refl _) (xs := [.int .i64 K, .int .i64 a.1, .int .i64 b.1, .int .i64 c.1, .int .i64 0, .int .i64 0, .int .i64 0, .bool d.1, .slice none 0 0, .int .i64 0, .int .i64 0, .slice none 0 0, .string ⟨#[]⟩]) rfl
  have HRDV := Lib.hid hrdv
  have HEND := Lib.hid hend
  clear hrdv hend
  go_wp2_with (first | (rw [← HWN.out]; refine wpList_load_mid rfl 27 _ rfl w2.heap.size 0 rfl [.int .i64 K, .int .i64 a.1, .int .i64 b.1, .int .i64 c.1, .int .i64 0, .int .i64 0, .int .i64 0, .bool d.1, .slice none 0 0, .int .i64 0, .int .i64 0, .slice none 0 0, .string ⟨#[]⟩] _ (Rw.whole HM.out) Try.underlying27 rfl Try.sizeMsg ?_) | (refine wpList_store_mid rfl 27 _ _ rfl w.heap.size 0 #[.int .i64 K, .int .i64 a.1, .int .i64 b.1, .int .i64 c.1, .int .i64 0, .int .i64 0, .int .i64 0, .bool d.1, .slice none 0 0, .int .i64 0, .int .i64 0, .slice none 0 0, .string ⟨#[]⟩] rfl rfl (Rw.there HR.out 0 _ (by simp)) Try.sizeMsg (msg_one _ _ _ _ _ _ _ _ _ _ _ _ _ _ _ _ _) ?_) | fail)
  refine bodyPost_ret (v := .agg #[.int .i64 K, .int .i64 a.1, .int .i64 b.1, .int .i64 c.1, .int .i64 0, .int .i64 0, .int .i64 0, .bool d.1, .slice none 0 0, .int .i64 0, .int .i64 0, .slice none 0 0, .string ⟨#[]⟩]) ?_ rfl ⟨.slice none 0 0, .slice none 0 0, by rw [HQ.out]; rfl, by rw [HQ.out]; exact ⟨ownE_nil _, by simp, World.ownsRow_nil _ _ _ _, by simp [zeroSn]⟩, by rw [HQ.out]; exact HRDV.out⟩
  exact results_cell_row rfl _ _ w.heap.size _ _ _ _ rfl HEND.out.2 Try.underlying27 rfl Try.sizeMsg

set_option maxRecDepth 100000 in
set_option maxHeartbeats 16000000 in
theorem rmessage_k6 {w : World} {B g : Nat} {s : List UInt8 × Bool} (h : RdAt w B g s) (hk6 : ¬ (numR 1 s).1 = 1 ∧ ¬ (numR 1 s).1 = 2 ∧ ¬ (numR 1 s).1 = 3 ∧ ¬ (numR 1 s).1 = 4 ∧ ¬ (numR 1 s).1 = 5) :
    Calls Try.prog 23 #[.pointer (some ⟨g, 0, none⟩)] w fun e w' => MsgRV w w' B g e (msgR s) := by
  have hz := zero_cells Try.infoMsg
  have hg := rdAt_lt h
  have hpos := numR_pos 1 s
  have hb1 := below_more (Below.refl _ w) (.cells #[.int .i64 0, .int .i64 0, .int .i64 0, .int .i64 0, .int .i64 0, .int .i64 0, .int .i64 0, .bool false, .slice none 0 0, .int .i64 0, .int .i64 0, .slice none 0 0, .string ⟨#[]⟩] 27)
  have HNM := Lib.hid (rnumber_any (rdAt_below h hb1) 1 (by decide))
  have HRR := Lib.hid (Rw.alloc w 27 #[.int .i64 0, .int .i64 0, .int .i64 0, .int .i64 0, .int .i64 0, .int .i64 0, .int .i64 0, .bool false, .slice none 0 0, .int .i64 0, .int .i64 0, .slice none 0 0, .string ⟨#[]⟩] (Nat.zero_le _))
  obtain ⟨x, hx⟩ : ∃ x, x = numR 1 s := ⟨_, rfl⟩
  rw [← hx] at HNM hpos hk6
  obtain ⟨a, ha⟩ : ∃ a, a = numR 8 x.2 := ⟨_, rfl⟩
  obtain ⟨b, hb⟩ : ∃ b, b = numR 8 a.2 := ⟨_, rfl⟩
  obtain ⟨c, hc⟩ : ∃ c, c = numR 8 b.2 := ⟨_, rfl⟩
  have HMS := Lib.hid (msgR_of (q0 := c.2) hx ha hb hc rfl)
  have HI3 : Hid (([a.1, b.1, c.1], c.2) = intsR 3 x.2) := Lib.hid (by rw [intsR_three, ← ha, ← hb, ← hc])
  obtain ⟨y, hy⟩ : ∃ y, y = msgR s := ⟨_, rfl⟩
  rw [← hy] at HMS ⊢
  obtain ⟨x1, x2⟩ := x
  dsimp only at HMS HI3 hpos hk6
  obtain ⟨K, rfl⟩ := Int.eq_ofNat_of_zero_le hpos
  have HG := Lib.hid hg
  have HB := Lib.hid h.1
  have HB1 := Lib.hid hb1
  have HK6 := Lib.hid hk6
  clear h hg hpos hb1 hx ha hb hc hy hk6
  go_enter Try.func23, Try.ntmps23
  go_wp2_with (first | (refine wpList_alloc_z rfl 27 rfl #[.int .i64 0, .int .i64 0, .int .i64 0, .int .i64 0, .int .i64 0, .int .i64 0, .int .i64 0, .bool false, .slice none 0 0, .int .i64 0, .int .i64 0, .slice none 0 0, .string ⟨#[]⟩] hz ?_) | fail)
  refine (HNM.out).mono ?_
  rintro e w2 ⟨rfl, hv2⟩
  dsimp only at hv2 ⊢
  have hs2 : w.heap.size + 1 ≤ w2.heap.size := by have := hv2.2.size; simpa using this
  have hb3 := below_more (Below.refl _ w2) (.cells #[.int .i64 K, .int .i64 0, .int .i64 0, .int .i64 0, .int .i64 0, .int .i64 0, .int .i64 0, .bool false, .slice none 0 0, .int .i64 0, .int .i64 0, .slice none 0 0, .string ⟨#[]⟩] 27)
  have hr3 : Rw (w2.alloc (.cells #[.int .i64 K, .int .i64 0, .int .i64 0, .int .i64 0, .int .i64 0, .int .i64 0, .int .i64 0, .bool false, .slice none 0 0, .int .i64 0, .int .i64 0, .slice none 0 0, .string ⟨#[]⟩] 27)) 0 w2.heap.size 27 [.int .i64 K, .int .i64 0, .int .i64 0, .int .i64 0, .int .i64 0, .int .i64 0, .int .i64 0, .bool false, .slice none 0 0, .int .i64 0, .int .i64 0, .slice none 0 0, .string ⟨#[]⟩] := Rw.alloc w2 _ _ (Nat.zero_le _)
  have hrr3 : Rw (w2.alloc (.cells #[.int .i64 K, .int .i64 0, .int .i64 0, .int .i64 0, .int .i64 0, .int .i64 0, .int .i64 0, .bool false, .slice none 0 0, .int .i64 0, .int .i64 0, .slice none 0 0, .string ⟨#[]⟩] 27)) 0 w.heap.size 27 [.int .i64 0, .int .i64 0, .int .i64 0, .int .i64 0, .int .i64 0, .int .i64 0, .int .i64 0, .bool false, .slice none 0 0, .int .i64 0, .int .i64 0, .slice none 0 0, .string ⟨#[]⟩] := Rw.below (rw_kept HRR.out hv2.2 (by have := HG.out; omega)) hb3
  have hk3 : Kept (fun k => k = g) w (w2.alloc (.cells #[.int .i64 K, .int .i64 0, .int .i64 0, .int .i64 0, .int .i64 0, .int .i64 0, .int .i64 0, .bool false, .slice none 0 0, .int .i64 0, .int .i64 0, .slice none 0 0, .string ⟨#[]⟩] 27)) := kept_then (G := fun _ => False) (kept_then (kept_below HB1.out) hv2.2 (fun x hx => .inl hx)) (kept_below hb3) (fun _ h => h.elim)
  have HNE : Hid (w2.heap.size ≠ g) := Lib.hid (by have := HG.out; omega)
  have HBM : Hid (B ≤ w2.heap.size) := Lib.hid (by have := HG.out; have := HB.out; omega)
  have HNR : Hid (w.heap.size ≠ g) := Lib.hid (by have := HG.out; omega)
  have HBR : Hid (B ≤ w.heap.size) := Lib.hid (by have := HG.out; have := HB.out; omega)
  have HRM : Hid (w.heap.size ≠ w2.heap.size) := Lib.hid (by omega)
  have HWM : Hid (w.heap.size ≤ w2.heap.size) := Lib.hid (by omega)
  have HPT := Lib.hid (rptrs_new (rdAt_below hv2.1 hb3) hr3 HBM.out HNE.out (js := [1, 2, 3]) (n := 3) rfl (fun j hj => by simp at hj; rcases hj with rfl | rfl | rfl <;> simp) (by decide) (ps := #[.pointer (some ⟨w2.heap.size, 1, none⟩), .pointer (some ⟨w2.heap.size, 2, none⟩), .pointer (some ⟨w2.heap.size, 3, none⟩)]) rfl (p := w2.heap.size + 1) (by simp) HI3.out)
  have HK3 := Lib.hid hk3
  have HRR3 := Lib.hid hrr3
  clear hv2 hs2 hb3 hr3 hrr3 hk3 HNM
  go_wp2_with (first | (refine wpList_alloc_z rfl 27 rfl #[.int .i64 0, .int .i64 0, .int .i64 0, .int .i64 0, .int .i64 0, .int .i64 0, .int .i64 0, .bool false, .slice none 0 0, .int .i64 0, .int .i64 0, .slice none 0 0, .string ⟨#[]⟩] hz ?_) | fail)
  refine (HPT.out).mono ?_
  rintro e w5 ⟨rfl, hrd5, hrm5, hk5⟩
  dsimp only [setL, List.set] at hrm5 hrd5
  have hrr5 := rw_kept HRR3.out hk5 (fun e => e.elim HNR.out HRM.out)
  have hkk5 := kept_gm HK3.out hk5 HWM.out
  have x0 : w5.cell? ⟨w2.heap.size, 0, none⟩ = some (.int .i64 K) := Rw.cell hrm5 rfl
  have HRD := Lib.hid hrd5
  have HM := Lib.hid hrm5
  have HR := Lib.hid hrr5
  have HK := Lib.hid hkk5
  clear hrd5 hrm5 hk5 hrr5 hkk5 HPT HI3
  have hk6 := HK6.out
  have HQ := Lib.hid (HMS.out.trans (bodyR6 hk6))
  have q1 : ((K : Int) == 1) = false := by rw [beq_eq_false_iff_ne]; omega
  have q2 : ((K : Int) == 2) = false := by rw [beq_eq_false_iff_ne]; omega
  have q3 : ((K : Int) == 3) = false := by rw [beq_eq_false_iff_ne]; omega
  have q4 : ((K : Int) == 4) = false := by rw [beq_eq_false_iff_ne]; omega
  have q5 : ((K : Int) == 5) = false := by rw [beq_eq_false_iff_ne]; omega
  clear hk6
  obtain ⟨hrdv, hend⟩ := md_end HRD.out HK.out HR.out HBR.out HNR.out (Nat.le_refl _) (xs := [.int .i64 K, .int .i64 a.1, .int .i64 b.1, .int .i64 c.1, .int .i64 0, .int .i64 0, .int .i64 0, .bool false, .slice none 0 0, .int .i64 0, .int .i64 0, .slice none 0 0, .string ⟨#[]⟩]) rfl
  have HRDV := Lib.hid hrdv
  have HEND := Lib.hid hend
  clear hrdv hend
  go_wp2_with (first | (refine wpList_load_mid rfl 27 _ rfl w2.heap.size 0 rfl [.int .i64 K, .int .i64 a.1, .int .i64 b.1, .int .i64 c.1, .int .i64 0, .int .i64 0, .int .i64 0, .bool false, .slice none 0 0, .int .i64 0, .int .i64 0, .slice none 0 0, .string ⟨#[]⟩] _ (Rw.whole HM.out) Try.underlying27 rfl Try.sizeMsg ?_) | (refine wpList_store_mid rfl 27 _ _ rfl w.heap.size 0 #[.int .i64 K, .int .i64 a.1, .int .i64 b.1, .int .i64 c.1, .int .i64 0, .int .i64 0, .int .i64 0, .bool false, .slice none 0 0, .int .i64 0, .int .i64 0, .slice none 0 0, .string ⟨#[]⟩] rfl rfl (Rw.there HR.out 0 _ (by simp)) Try.sizeMsg (msg_one _ _ _ _ _ _ _ _ _ _ _ _ _ _ _ _ _) ?_) | fail)
  refine bodyPost_ret (v := .agg #[.int .i64 K, .int .i64 a.1, .int .i64 b.1, .int .i64 c.1, .int .i64 0, .int .i64 0, .int .i64 0, .bool false, .slice none 0 0, .int .i64 0, .int .i64 0, .slice none 0 0, .string ⟨#[]⟩]) ?_ rfl ⟨.slice none 0 0, .slice none 0 0, by rw [HQ.out]; rfl, by rw [HQ.out]; exact ⟨ownE_nil _, by simp, World.ownsRow_nil _ _ _ _, by simp [zeroSn]⟩, by rw [HQ.out]; exact HRDV.out⟩
  exact results_cell_row rfl _ _ w.heap.size _ _ _ _ rfl HEND.out.2 Try.underlying27 rfl Try.sizeMsg

end Go.Proofs.Ytpbdilbimpnmjaa
