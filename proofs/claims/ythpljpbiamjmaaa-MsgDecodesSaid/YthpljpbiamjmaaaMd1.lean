/- Contracts: msg: the reader: stop, take. -/
import Derived.BigRegion
import Derived.Deep.RegionHeld3
import Derived.IntWalk
import Derived.Deep.AppendLies
import Derived.Deep.RegionHeldLaw
import Derived.BigQuiet
import Derived.Deep.QuietTactic
import Derived.Deep.CutBlock
import Derived.Test.YthpljpbiamjmaaaProg
import Derived.Test.YthpljpbiamjmaaaKit
import Derived.Test.YthpljpbiamjmaaaRow
import Derived.Test.YthpljpbiamjmaaaCod2
import Derived.Test.YthpljpbiamjmaaaCod5
import Derived.Test.YthpljpbiamjmaaaCod7
import Derived.Test.YthpljpbiamjmaaaCod9
import Derived.Test.YthpljpbiamjmaaaTxt2
import Derived.Test.YthpljpbiamjmaaaFrm0
import Derived.Test.YthpljpbiamjmaaaFrm4
import Derived.Test.YthpljpbiamjmaaaFrm6
import Derived.Test.YthpljpbiamjmaaaFrm7
import Derived.Test.YthpljpbiamjmaaaFp
import Derived.Test.YthpljpbiamjmaaaNet0
import Derived.Test.YthpljpbiamjmaaaKp0
import Derived.Test.YthpljpbiamjmaaaKp1
import Derived.Test.YthpljpbiamjmaaaMg0
import Derived.Test.YthpljpbiamjmaaaMg5
import Derived.Test.YthpljpbiamjmaaaMg10
namespace Go.Proofs.Ythpljpbiamjmaaa
open Go.RowKit Go.Proofs

/-- Bytes that lie below B. -/
def BySl (w : World) (B : Nat) (v : Value) (l : List UInt8) : Prop := ∃ a c, v = .slice a l.length c ∧ l.length ≤ c ∧ Lies w B a l

theorem bySl_of {w : World} {B : Nat} {v : Value} {l : List UInt8} (h : ByteSl w B v l) : BySl w B v l := by
  rcases h with ⟨rfl, rfl⟩ | ⟨ad, c, rfl, hc, hl⟩
  · exact ⟨none, 0, rfl, Nat.le_refl _, .inl rfl⟩
  · exact ⟨some ad, c, rfl, hc, hl⟩

theorem lies_keep {w w' : World} {B : Nat} {a : Option Addr} {l : List UInt8} (h : Lies w B a l) (hk : ∀ k, k < B → k < w.heap.size → w'.heap[k]? = w.heap[k]?) : Lies w' B a l := by
  rcases h with h | ⟨b, o, ha, hb, h⟩
  · exact .inl h
  · exact .inr ⟨b, o, ha, hb, fun j x hj => cell_kept (h j x hj) (hk b hb (block_of_cell (h j x hj)))⟩

theorem bySl_kept {w w' : World} {B g : Nat} {v : Value} {l : List UInt8} (h : BySl w B v l) (hg : B ≤ g) (hk : Kept (fun k => k = g) w w') : BySl w' B v l := by
  obtain ⟨a, c, hv, hc, hl⟩ := h
  exact ⟨a, c, hv, hc, lies_keep hl (fun k hkB hks => hk.blk k hks (by omega))⟩

theorem bySl_below {w w' : World} {B : Nat} {v : Value} {l : List UInt8} (h : BySl w B v l) (hb : Below w.heap.size w w') : BySl w' B v l := by
  obtain ⟨a, c, hv, hc, hl⟩ := h
  exact ⟨a, c, hv, hc, lies_keep hl (fun k _ hks => hb.block k hks)⟩

def RdAt (w : World) (B g : Nat) (s : List UInt8 × Bool) : Prop := B ≤ g ∧ ∃ v, Rw w 0 g 59 [v, .bool s.2] ∧ BySl w B v s.1

def RdV (w w' : World) (B g : Nat) (s : List UInt8 × Bool) : Prop := RdAt w' B g s ∧ Kept (fun k => k = g) w w'

theorem rdAt_below {w w' : World} {B g : Nat} {s : List UInt8 × Bool} (h : RdAt w B g s) (hb : Below w.heap.size w w') : RdAt w' B g s := by
  obtain ⟨h1, v, h2, h3⟩ := h
  exact ⟨h1, v, Rw.below h2 hb, bySl_below h3 hb⟩

theorem rdV_then {w w1 w2 : World} {B g : Nat} {s s2 : List UInt8 × Bool} (h : RdV w w1 B g s) (h2 : RdV w1 w2 B g s2) : RdV w w2 B g s2 := ⟨h2.1, kept_trans h.2 h2.2⟩

theorem rdV_refl {w : World} {B g : Nat} {s : List UInt8 × Bool} (h : RdAt w B g s) : RdV w w B g s := ⟨h, kept_refl _ _⟩

theorem rdV_below {w w1 w2 : World} {B g : Nat} {s : List UInt8 × Bool} (h : RdV w w1 B g s) (hb : Below w1.heap.size w1 w2) : RdV w w2 B g s := ⟨rdAt_below h.1 hb, kept_then (G := fun _ => False) h.2 (kept_below hb) (fun _ h => h.elim)⟩

/-- Stores into block g. -/
theorem rd_store {w : World} {B g : Nat} {v v2 : Value} {b b2 : Bool} {l2 : List UInt8} (hg : B ≤ g) (hr : Rw w 0 g 59 [v, .bool b]) (hl : BySl w B v2 l2) : RdV w ((w.setCell ⟨g, 0, none⟩ v2).setCell ⟨g, 1, none⟩ (.bool b2)) B g (l2, b2) := by
  have hk : Kept (fun k => k = g) w ((w.setCell ⟨g, 0, none⟩ v2).setCell ⟨g, 1, none⟩ (.bool b2)) := kept_put (F := fun k => k = g) (kept_put (F := fun k => k = g) (kept_refl _ _) (.inl rfl) 0 v2) (.inl rfl) 1 (.bool b2)
  exact ⟨⟨hg, v2, Rw.stored (Rw.stored hr 0 v2) 1 (.bool b2), bySl_kept hl hg hk⟩, hk⟩

theorem rd_store1 {w : World} {B g : Nat} {v v2 : Value} {b : Bool} {l2 : List UInt8} (hg : B ≤ g) (hr : Rw w 0 g 59 [v, .bool b]) (hl : BySl w B v2 l2) : RdV w (w.setCell ⟨g, 0, none⟩ v2) B g (l2, b) := by
  have hk : Kept (fun k => k = g) w (w.setCell ⟨g, 0, none⟩ v2) := kept_put (F := fun k => k = g) (kept_refl _ _) (.inl rfl) 0 v2
  exact ⟨⟨hg, v2, Rw.stored hr 0 v2, bySl_kept hl hg hk⟩, hk⟩

theorem bySl_nil (w : World) (B : Nat) : BySl w B (.slice none 0 0) [] := ⟨none, 0, rfl, Nat.le_refl _, .inl rfl⟩

theorem rstop_any {w : World} {B g : Nat} {s : List UInt8 × Bool} (h : RdAt w B g s) :
    Calls Try.prog 53 #[.pointer (some ⟨g, 0, none⟩)] w fun e w' => e = .returned (.tuple #[]) ∧ RdV w w' B g ([], true) := by
  obtain ⟨hg, v, hr, hl⟩ := h
  obtain ⟨l, b⟩ := s
  dsimp only at hr hl
  have HE := Lib.hid (rd_store (b2 := true) hg hr (bySl_nil w B))
  obtain ⟨a, c, rfl, _⟩ := id hl
  have c0 := Rw.cell hr (j := 0) rfl
  have c1 := Rw.cell hr (j := 1) rfl
  have f0 := Rw.free hr 0
  have hr2 := Rw.stored hr 0 (.slice none 0 0)
  have c2 : (w.setCell ⟨g, 0, none⟩ (.slice none 0 0)).cell? ⟨g, 1, none⟩ = some (.bool b) := Rw.cell hr2 (j := 1) rfl
  have f2 := Rw.free hr2 1
  clear hr hl hg hr2
  go_enter Try.func53, Try.ntmps53
  go_wp2_with fail
  go_end0
  exact ⟨rfl, HE.out⟩

/-- rest[:n]. -/
theorem slice_to2 {P : Program} {T : TypeId} (ht : P.underlying T = some (.slice (P.elem T))) (hs : (P.info? (P.elem T)).map (·.size) = some 1) {w : World} {B : Nat} (a : Option Addr) (len cap t : Nat) (l : List UInt8) (h : t ≤ cap) (hl : Lies w B a l) :
    ∃ A, Lies w B A (l.take t) ∧ ∀ W, (Instr.slice T (.slice a len cap) none (some (.int .i64 (t : Int))) none).run P W = .ok (.slice A t cap) W := by
  refine ⟨if cap = 0 then a else a.map (·.add (0 * 1)), ?_, fun W => ?_⟩
  · rcases hl with rfl | ⟨b, o, rfl, hb, hby⟩
    · exact .inl (by simp)
    · refine .inr ⟨b, o, ?_, hb, fun j x hj => ?_⟩
      · split
        · rfl
        · simp [Addr.add_mid]
      · rw [List.getElem?_take] at hj
        split at hj
        · exact hby j x hj
        · cases hj
  · rw [run_slice_h W T a len cap ht .i64 t (by omega) (by omega), run_size1 hs]
    simp [Result.andThen, sliced]

/-- rest[n:]. -/
theorem slice_from2 {P : Program} {T : TypeId} (ht : P.underlying T = some (.slice (P.elem T))) (hs : (P.info? (P.elem T)).map (·.size) = some 1) {w : World} {B : Nat} (a : Option Addr) (cap t : Nat) (l : List UInt8) (h : t ≤ l.length) (hc : l.length ≤ cap) (hl : Lies w B a l) :
    ∃ A, Lies w B A (l.drop t) ∧ ∀ W, (Instr.slice T (.slice a l.length cap) (some (.int .i64 (t : Int))) none none).run P W = .ok (.slice A (l.length - t) (cap - t)) W := by
  refine ⟨if cap = t then a else a.map (·.add t), ?_, fun W => ?_⟩
  · rcases hl with rfl | ⟨b, o, rfl, hb, hby⟩
    · exact .inl (by simp)
    · by_cases he : cap = t
      · exact .inl (List.drop_of_length_le (by omega))
      · rw [if_neg he]
        refine .inr ⟨b, o + t, by simp [Addr.add_mid], hb, fun j x hj => ?_⟩
        rw [List.getElem?_drop] at hj
        rw [Nat.add_assoc]
        exact hby (t + j) x hj
  · rw [run_slice_l W T a l.length cap ht .i64 t (by omega) (by omega), run_size1 hs]
    simp [Result.andThen, sliced]

theorem Try.elemBy : Try.prog.underlying 30 = some (.slice (Try.prog.elem 30)) := by kernel_rfl

theorem Try.sizeBy : (Try.prog.info? (Try.prog.elem 30)).map (·.size) = some 1 := by kernel_rfl

def TakeV (w w' : World) (B g : Nat) (e : Ending) (q : List UInt8 × List UInt8 × Bool) : Prop := ∃ v', e = .returned v' ∧ BySl w' B v' q.1 ∧ RdV w w' B g q.2

set_option maxHeartbeats 1000000 in
theorem rtake_any {w : World} {B g : Nat} {s : List UInt8 × Bool} (h : RdAt w B g s) (N : Nat) :
    Calls Try.prog 52 #[.pointer (some ⟨g, 0, none⟩), .int .i64 N] w fun e w' => TakeV w w' B g e (takeR N s) := by
  have HST := Lib.hid (rstop_any h)
  obtain ⟨hg, v, hr, hl⟩ := h
  obtain ⟨l, b⟩ := s
  dsimp only at hr hl
  obtain ⟨a, c, rfl, hc, hli⟩ := id hl
  obtain ⟨q, hq⟩ : ∃ q, q = takeR N (l, b) := ⟨_, rfl⟩
  rw [← hq]
  obtain ⟨L, hL⟩ : ∃ L, L = l.length := ⟨_, rfl⟩
  by_cases hlt : l.length < N
  · have HQ : Hid (q = ([], [], true)) := Lib.hid (by rw [hq]; unfold takeR; rw [if_pos hlt])
    rw [← hL] at hr hlt
    have c0 := Rw.cell hr (j := 0) rfl
    have hn : (L : Int) < (N : Int) := by omega
    clear hg hr hl hc hli hq hlt hL
    go_enter Try.func52, Try.ntmps52
    go_wp2_with fail
    refine (HST.out).mono ?_
    rintro e w1 ⟨rfl, hv⟩
    have HV := Lib.hid hv
    clear hv
    go_wp2_with fail
    go_ret
    refine ⟨.slice none 0 0, rfl, ?_, ?_⟩
    · rw [HQ.out]; exact bySl_nil _ _
    · rw [HQ.out]; exact HV.out
  · have HQ : Hid (q = (l.take N, l.drop N, b)) := Lib.hid (by rw [hq]; unfold takeR; rw [if_neg hlt])
    obtain ⟨A1, hA1, hs1⟩ := slice_to2 Try.elemBy Try.sizeBy (w := w) (B := B) a l.length c N l (by omega) hli
    obtain ⟨A2, hA2, hs2⟩ := slice_from2 Try.elemBy Try.sizeBy (w := w) (B := B) a c N l (by omega) hc hli
    have HT : Hid (BySl w B (.slice A1 N c) (l.take N)) := Lib.hid ⟨A1, c, by rw [List.length_take, Nat.min_eq_left (by omega)], by rw [List.length_take]; omega, hA1⟩
    have HD : Hid (BySl w B (.slice A2 (l.length - N) (c - N)) (l.drop N)) := Lib.hid ⟨A2, c - N, by rw [List.length_drop], by rw [List.length_drop]; omega, hA2⟩
    have HE := Lib.hid (rd_store1 (b := b) hg hr HD.out)
    rw [← hL] at hr hlt hs1 hs2 HD HE
    have c0 := Rw.cell hr (j := 0) rfl
    have f0 := Rw.free hr 0
    have hn : ¬ (L : Int) < (N : Int) := by omega
    have HG := Lib.hid hg
    obtain ⟨L2, hL2⟩ : ∃ L2, L2 = L - N := ⟨_, rfl⟩
    obtain ⟨C2, hC2⟩ : ∃ C2, C2 = c - N := ⟨_, rfl⟩
    rw [← hL2, ← hC2] at hs2 HE
    clear hg hr hl hc hli hq hlt hL hA1 hA2 hL2 hC2
    go_enter Try.func52, Try.ntmps52
    go_wp2_with fail
    go_ret
    refine ⟨.slice A1 N c, rfl, ?_, ?_⟩
    · rw [HQ.out]; exact bySl_kept HT.out HG.out HE.out.2
    · rw [HQ.out]; exact HE.out

theorem or64w {a : Nat} {x : UInt8} (ha : a < 72057594037927936) : bits .or .u64 ((a : Int) * 256) (x.toNat : Int) = ((a * 256 + x.toNat : Nat) : Int) := by
  have hx := x.toNat_lt
  have h1 : (BitVec.ofInt 64 ((a : Int) * 256)) = BitVec.ofNat 64 (a * 256) := by
    rw [show ((a : Int) * 256) = ((a * 256 : Nat) : Int) by omega, BitVec.ofInt_natCast]
  have h2 : (BitVec.ofInt 64 (x.toNat : Int)) = BitVec.ofNat 64 x.toNat := by rw [BitVec.ofInt_natCast]
  show IntKind.u64.wrap _ = _
  simp only [IntKind.bits]
  rw [h1, h2]
  have h3 : (BitVec.ofNat 64 (a * 256) ||| BitVec.ofNat 64 x.toNat).toNat = a * 256 + x.toNat := by
    rw [BitVec.toNat_or, BitVec.toNat_ofNat, BitVec.toNat_ofNat, Nat.mod_eq_of_lt (by omega), Nat.mod_eq_of_lt (by omega), Nat.mul_comm a 256]
    exact (Nat.two_pow_add_eq_or_of_lt (i := 8) hx a).symm
  have key : IntKind.u64.wrap (((BitVec.ofNat 64 (a * 256) ||| BitVec.ofNat 64 x.toNat).toNat : Nat) : Int) = ((a * 256 + x.toNat : Nat) : Int) := by
    rw [h3, IntKind.wrap_u64]
    omega
  exact key

theorem takeR_len (n : Nat) (s : List UInt8 × Bool) : (takeR n s).1.length ≤ n := by
  unfold takeR
  split
  · simp
  · rw [List.length_take]; omega

theorem bySl_cell {w : World} {B : Nat} {A : Option Addr} {n c : Nat} {l : List UInt8} (h : BySl w B (.slice A n c) l) {i : Nat} {x : UInt8} (hx : l[i]? = some x) : ∃ b o, A = some ⟨b, o, none⟩ ∧ b < B ∧ w.cell? ⟨b, o + i, none⟩ = some (.int .u8 (x.toNat : Int)) := by
  obtain ⟨a2, c2, hv, _, hl⟩ := h
  injection hv with e1 _ _
  rcases hl with rfl | ⟨b, o, ha, hb, hby⟩
  · simp at hx
  · exact ⟨b, o, by rw [e1, ha], hb, hby i x hx⟩

def NumV (w w' : World) (B g : Nat) (e : Ending) (q : Int × List UInt8 × Bool) : Prop := e = .returned (.int .i64 q.1) ∧ RdV w w' B g q.2

theorem i64_nat (X : Nat) (h : X < 9223372036854775808) : IntKind.i64.wrap (X : Int) = (X : Int) := IntWalk.i64_in _ (by omega)

set_option maxRecDepth 100000 in
set_option maxHeartbeats 2000000 in
theorem rnumber_any {w : World} {B g : Nat} {s : List UInt8 × Bool} (h : RdAt w B g s) (sz : Nat) (hsz : sz ≤ 8) :
    Calls Try.prog 42 #[.pointer (some ⟨g, 0, none⟩), .int .i64 sz] w fun e w' => NumV w w' B g e (numR sz s) := by
  have HTK := Lib.hid (rtake_any h sz)
  obtain ⟨q, hq⟩ : ∃ q, q = takeR sz s := ⟨_, rfl⟩
  have hql : q.1.length ≤ 8 := by rw [hq]; exact Nat.le_trans (takeR_len sz s) hsz
  rw [← hq] at HTK
  have HQ : Hid (numR sz s = if 9223372036854775808 ≤ numS q.1 then (0, [], true) else (((numS q.1 : Nat) : Int), q.2)) := Lib.hid (by rw [hq]; rfl)
  have HQL := Lib.hid hql
  obtain ⟨l, s2⟩ := q
  dsimp only at HQ HQL HTK
  clear h hq hql
  go_enter Try.func42, Try.ntmps42
  go_wp2_with fail
  refine (HTK.out).mono ?_
  rintro e w1 ⟨v1, rfl, hb1, hv1⟩
  obtain ⟨A, C, rfl, _⟩ := id hb1
  dsimp only at hb1 hv1
  obtain ⟨n, hn⟩ : ∃ n, n = l.length := ⟨_, rfl⟩
  rw [← hn] at hb1 ⊢
  have HB1 := Lib.hid hb1
  have HV1 := Lib.hid hv1
  have HN := Lib.hid hn
  clear hb1 hv1 hn HTK
  go_wp2_with fail
  go_loopw [5, 12] (fun v i wr => ∃ k a : Nat, k ≤ n ∧ i = .int .i64 k ∧ v = .int .u64 a ∧ Hid (a = numS (l.take k)) ∧ w1 = wr) (fun _ i _ => n - (intOf i).toNat)
  case atStart => exact ⟨0, 0, Nat.zero_le _, rfl, rfl, Lib.hid rfl, rfl⟩
  case round =>
    obtain ⟨k, a, hk, rfl, rfl, HA, rfl⟩ := hrel
    have hlen : l.length ≤ 8 := HQL.out
    by_cases hlt : k < n
    · obtain ⟨x, hx⟩ : ∃ x, l[k]? = some x := ⟨_, List.getElem?_eq_getElem (by rw [← HN.out]; exact hlt)⟩
      obtain ⟨b, o, rfl, _, hcx⟩ := bySl_cell HB1.out hx
      have hak : a < 72057594037927936 := by
        rw [HA.out]
        have h1 := numS_lt (l.take k)
        have h2 : (l.take k).length = k := by rw [List.length_take]; have := HN.out; omega
        rw [h2] at h1
        have h3 : k ≤ 7 := by have := HN.out; omega
        exact Nat.lt_of_lt_of_le h1 (Nat.le_trans (Nat.pow_le_pow_right (by decide) h3) (by decide))
      have hor := or64w (a := a) (x := x) hak
      have hmod : (a : Int) * 256 % 18446744073709551616 = (a : Int) * 256 := by omega
      have hwx : IntKind.u64.wrap (x.toNat : Int) = (x.toNat : Int) := by rw [IntKind.wrap_u64]; have := x.toNat_lt; omega
      have HX : Hid (a * 256 + x.toNat = numS (l.take (k + 1))) := Lib.hid (by rw [take_succ_of hx, numS_snoc, HA.out])
      have hy : (k : Int) < (n : Int) := by omega
      have hy8 : (k : Int) < 8 := by have := HN.out; omega
      have HKL := Lib.hid hlt
      clear hx hlt hk hak hlen
      go_wp2_with fail
      go_roundw
      case rel =>
        have := HKL.out
        exact ⟨k + 1, a * 256 + x.toNat, by omega, by go_num, rfl, HX, trivial⟩
      case measure => have := HKL.out; simp [intOf]; omega
    · have HE : Hid (a = numS l) := Lib.hid (by have h := HA.out; rwa [List.take_of_length_le (by rw [← HN.out]; omega)] at h)
      have hyk : ¬ (k : Int) < (n : Int) := by omega
      clear hk hlt hlen HA
      by_cases hbig : 9223372036854775808 ≤ a
      · have HR : Hid (numR sz s = (0, [], true)) := Lib.hid (by rw [HQ.out, if_pos (by rw [← HE.out]; exact hbig)])
        have hq1 : decide ((9223372036854775807 : Int) < (a : Int)) = true := decide_eq_true (by omega)
        have HST := Lib.hid (rstop_any HV1.out.1)
        clear hbig
        go_wp2_with fail
        refine (HST.out).mono ?_
        rintro e w3 ⟨rfl, hv3⟩
        have HV3 := Lib.hid (rdV_then HV1.out hv3)
        clear hv3
        go_wp2_with fail
        go_ret
        refine ⟨?_, ?_⟩
        · rw [HR.out]; rfl
        · rw [HR.out]; exact HV3.out
      · have HR : Hid (numR sz s = ((a : Int), s2)) := Lib.hid (by rw [HQ.out, if_neg (by rw [← HE.out]; exact hbig), ← HE.out])
        have hq1 : decide ((9223372036854775807 : Int) < (a : Int)) = false := decide_eq_false (by omega)
        have hwa := i64_nat a (by omega)
        clear hbig
        go_wp2_with fail
        go_ret
        refine ⟨?_, ?_⟩
        · rw [HR.out]; rfl
        · rw [HR.out]; exact HV1.out

def YesV (w w' : World) (B g : Nat) (e : Ending) (q : Bool × List UInt8 × Bool) : Prop := e = .returned (.bool q.1) ∧ RdV w w' B g q.2

theorem ryes_any {w : World} {B g : Nat} {s : List UInt8 × Bool} (h : RdAt w B g s) :
    Calls Try.prog 44 #[.pointer (some ⟨g, 0, none⟩)] w fun e w' => YesV w w' B g e (yesR s) := by
  have HNM := Lib.hid (rnumber_any h 1 (by decide))
  have HY : Hid (yesR s = if 1 < (numR 1 s).1 then (false, [], true) else ((numR 1 s).1 == 1, (numR 1 s).2)) := Lib.hid rfl
  obtain ⟨q, hq⟩ : ∃ q, q = numR 1 s := ⟨_, rfl⟩
  obtain ⟨y, hy⟩ : ∃ y, y = yesR s := ⟨_, rfl⟩
  rw [← hq] at HNM HY
  rw [← hy] at HY ⊢
  obtain ⟨x, s2⟩ := q
  dsimp only at HY
  clear h hq hy
  go_enter Try.func44, Try.ntmps44
  go_wp2_with fail
  refine (HNM.out).mono ?_
  rintro e w1 ⟨rfl, hv1⟩
  dsimp only at hv1 ⊢
  have HV1 := Lib.hid hv1
  have HST := Lib.hid (rstop_any hv1.1)
  clear hv1 HNM
  by_cases hx : 1 < x
  · have HR : Hid (y = (false, [], true)) := Lib.hid (by rw [HY.out, if_pos hx])
    go_wp2_with fail
    refine (HST.out).mono ?_
    rintro e w3 ⟨rfl, hv3⟩
    have HV3 := Lib.hid (rdV_then HV1.out hv3)
    clear hv3
    go_wp2_with fail
    go_ret
    exact ⟨by rw [HR.out]; rfl, by rw [HR.out]; exact HV3.out⟩
  · have HR : Hid (y = (x == 1, s2)) := Lib.hid (by rw [HY.out, if_neg hx])
    go_wp2_with fail
    go_ret
    exact ⟨by rw [HR.out]; rfl, by rw [HR.out]; exact HV1.out⟩

theorem run_convert_bysl {P : Program} {w : World} (src e dst : TypeId) (hs : P.underlying src = some (.slice e)) (he : P.underlying e = some (.int .u8)) (hd : P.underlying dst = some .string) {B : Nat} {v : Value} {l : List UInt8} (h : BySl w B v l) : (convert src dst v).run P w = .ok (.string ⟨l.toArray⟩) w := by
  obtain ⟨a, c, rfl, _, hl⟩ := h
  rcases hl with rfl | ⟨b, o, rfl, _, hby⟩
  · show (convert src dst (.slice a 0 c)).run P w = _
    rw [run_convert_bytes_string w src dst e a 0 c hs he hd]
    cases a with
    | none => simp [Conv.bytesToString]; rfl
    | some ad => simp [Conv.bytesToString, loadCells]; rfl
  · rw [run_convert_bytes_arg w src e hs he b o l.length c (l.map fun c => (c.toNat : Int)) (by simp) (fun i hi => ?_) dst hd]
    · congr 2
      unfold strOfNums
      congr 2
      rw [List.map_map]
      conv => rhs; rw [← List.map_id l]
      apply List.map_congr_left
      intro c _
      simp
    · rw [hby i l[i] (List.getElem?_eq_getElem hi)]
      simp [List.getElem?_map, List.getD, List.getElem?_eq_getElem hi]

def TxtV (w w' : World) (B g : Nat) (e : Ending) (q : List UInt8 × List UInt8 × Bool) : Prop := e = .returned (.string ⟨q.1.toArray⟩) ∧ RdV w w' B g q.2

theorem numR_pos (n : Nat) (s : List UInt8 × Bool) : 0 ≤ (numR n s).1 := by
  unfold numR
  split
  · decide
  · dsimp only; omega

theorem rtext_any2 {w : World} {B g : Nat} {s : List UInt8 × Bool} (h : RdAt w B g s) :
    Calls Try.prog 54 #[.pointer (some ⟨g, 0, none⟩)] w fun e w' => TxtV w w' B g e (txtR s) := by
  have HNM := Lib.hid (rnumber_any h 4 (by decide))
  have hpos := numR_pos 4 s
  have HY : Hid (txtR s = takeR (numR 4 s).1.toNat (numR 4 s).2) := Lib.hid rfl
  obtain ⟨q, hq⟩ : ∃ q, q = numR 4 s := ⟨_, rfl⟩
  obtain ⟨y, hy⟩ : ∃ y, y = txtR s := ⟨_, rfl⟩
  rw [← hq] at HNM HY hpos
  rw [← hy] at HY ⊢
  obtain ⟨x, s2⟩ := q
  dsimp only at HY hpos
  obtain ⟨N, rfl⟩ := Int.eq_ofNat_of_zero_le hpos
  rw [Int.toNat_natCast] at HY
  clear h hq hy hpos
  go_enter Try.func54, Try.ntmps54
  go_wp2_with fail
  refine (HNM.out).mono ?_
  rintro e w1 ⟨rfl, hv1⟩
  dsimp only at hv1 ⊢
  have HV1 := Lib.hid hv1
  have HTK := Lib.hid (rtake_any hv1.1 N)
  rw [← HY.out] at HTK
  clear hv1 HNM
  go_wp2_with fail
  refine (HTK.out).mono ?_
  rintro e w2 ⟨v2, rfl, hb2, hv2⟩
  have hcv := run_convert_bysl 30 5 9 Try.underlying30 Try.underlying5 Try.underlying9 hb2
  have HV2 := Lib.hid (rdV_then HV1.out hv2)
  clear hb2 hv2 HTK
  go_wp2_with fail
  go_ret
  exact ⟨rfl, HV2.out⟩

theorem intsR_snoc : ∀ (i : Nat) (s : List UInt8 × Bool), intsR (i + 1) s = ((intsR i s).1 ++ [(numR 8 (intsR i s).2).1], (numR 8 (intsR i s).2).2)
  | 0, s => rfl
  | i + 1, s => by
    have ih := intsR_snoc i (numR 8 s).2
    rw [intsR, ih]
    rfl

theorem intsR_len : ∀ (i : Nat) (s : List UInt8 × Bool), (intsR i s).1.length = i
  | 0, _ => rfl
  | i + 1, s => by rw [intsR, List.length_cons, intsR_len i]

theorem numR_byte (s : List UInt8 × Bool) : (numR 1 s).1 < 256 := by
  unfold numR
  split
  · decide
  · dsimp only
    have h := numS_lt (takeR 1 s).1
    have h1 := takeR_len 1 s
    have h2 : (256 : Nat) ^ (takeR 1 s).1.length ≤ 256 ^ 1 := Nat.pow_le_pow_right (by decide) h1
    omega

theorem rdV_base {w w1 w2 : World} {B g : Nat} {s : List UInt8 × Bool} (h : RdV w w1 B g s) (hg : g < w.heap.size) (hb : Below w.heap.size w1 w2) : RdV w w2 B g s := by
  obtain ⟨⟨h1, v, h2, h3⟩, hk⟩ := h
  refine ⟨⟨h1, v, ⟨Nat.zero_le _, by rw [hb.block g hg]; exact h2.2⟩, ?_⟩, ?_⟩
  · obtain ⟨a, c, hv, hc, hl⟩ := h3
    exact ⟨a, c, hv, hc, lies_keep hl (fun k hk1 _ => hb.block k (by omega))⟩
  · exact ⟨hb.os.trans hk.os, hb.tape.trans hk.tape, hb.output.trans hk.output, Nat.le_trans hk.size hb.size, fun k hk1 hk2 => (hb.block k hk1).trans (hk.blk k hk1 hk2)⟩

theorem rdAt_lt {w : World} {B g : Nat} {s : List UInt8 × Bool} (h : RdAt w B g s) : g < w.heap.size := by
  obtain ⟨_, v, h2, _⟩ := h
  exact Rw.size h2

theorem own_off {w w2 : World} {b g n sz : Nat} {e : TypeId} {v : Value} {xs : List Value} (h : w.ownsRow b e sz v n xs) (hg : g < b) (hk : Kept (fun k => k = g) w w2) : w2.ownsRow b e sz v n xs := own_same h (fun k hkk => hk.blk k (own_lt h hkk) (fun e => by have := (World.ownsRow.lt h k hkk).1; omega))

def ListV (w w' : World) (B g : Nat) (e : Ending) (q : List Int × List UInt8 × Bool) : Prop := ∃ v', e = .returned v' ∧ w'.ownsRow w.heap.size 3 1 v' q.1.length (q.1.map kiV) ∧ RdV w w' B g q.2

set_option maxRecDepth 100000 in
set_option maxHeartbeats 2000000 in
theorem rlist_any {w : World} {B g : Nat} {s : List UInt8 × Bool} (h : RdAt w B g s) :
    Calls Try.prog 55 #[.pointer (some ⟨g, 0, none⟩)] w fun e w' => ListV w w' B g e (lstR s) := by
  have HNM := Lib.hid (rnumber_any h 1 (by decide))
  have hpos := numR_pos 1 s
  have hbyte := numR_byte s
  have HG := Lib.hid (rdAt_lt h)
  have HY : Hid (lstR s = intsR (numR 1 s).1.toNat (numR 1 s).2) := Lib.hid rfl
  obtain ⟨q, hq⟩ : ∃ q, q = numR 1 s := ⟨_, rfl⟩
  obtain ⟨y, hy⟩ : ∃ y, y = lstR s := ⟨_, rfl⟩
  rw [← hq] at HNM HY hpos hbyte
  rw [← hy] at HY ⊢
  obtain ⟨x, s2⟩ := q
  dsimp only at HY hpos hbyte
  obtain ⟨N, rfl⟩ := Int.eq_ofNat_of_zero_le hpos
  rw [Int.toNat_natCast] at HY
  have HN : Hid (N < 256) := Lib.hid (by omega)
  obtain ⟨i0, hi, hz, hz1, hz2⟩ := info_parts Try.infoInt
  clear h hq hy hpos hbyte
  go_enter Try.func55, Try.ntmps55
  go_wp2_with fail
  refine (HNM.out).mono ?_
  rintro e w1 ⟨rfl, hv1⟩
  dsimp only at hv1 ⊢
  have HV1 := Lib.hid hv1
  clear hv1 HNM
  go_wp2_with fail
  go_loopw [3, 6] (fun v i wr => ∃ (k : Nat) (a : Option Addr) (c : Nat), k ≤ N ∧ i = .int .i64 k ∧ v = .slice a k c ∧ Hid (wr.ownsRow w.heap.size 3 1 (.slice a k c) k ((intsR k s2).1.map kiV)) ∧ Hid (RdV w wr B g (intsR k s2).2)) (fun _ i _ => N - (intOf i).toNat)
  case atStart => exact ⟨0, none, 0, Nat.zero_le _, rfl, rfl, Lib.hid (World.ownsRow_nil _ _ _ _), HV1⟩
  case round =>
    obtain ⟨k, a, c, hk, rfl, rfl, HO, HV⟩ := hrel
    obtain ⟨w3, hw3⟩ : ∃ w3 : World, w3 = wr := ⟨_, rfl⟩
    subst hw3
    by_cases hlt : k < N
    · have HNX := Lib.hid (rnumber_any HV.out.1 8 (by decide))
      obtain ⟨q2, hq2⟩ : ∃ q2, q2 = numR 8 (intsR k s2).2 := ⟨_, rfl⟩
      rw [← hq2] at HNX
      have HSN : Hid (intsR (k + 1) s2 = ((intsR k s2).1 ++ [q2.1], q2.2)) := Lib.hid (by rw [intsR_snoc, hq2])
      obtain ⟨z, s3⟩ := q2
      dsimp only at HSN
      have hy : (k : Int) < (N : Int) := by omega
      have hk8 : (k : Int) < 256 := by have := HN.out; omega
      have HKL := Lib.hid hlt
      have hkb : k < 1099511627776 := by have := HN.out; omega
      clear hq2 hlt hk
      go_wp2_with fail
      refine (HNX.out).mono ?_
      rintro e w4 ⟨rfl, hv4⟩
      dsimp only at hv4 ⊢
      have HV4 := Lib.hid (rdV_then HV.out hv4)
      have HO4 := Lib.hid (own_off HO.out HG.out hv4.2)
      have HB4 : Hid (w.heap.size ≤ w4.heap.size) := Lib.hid HV4.out.2.size
      clear hv4 HNX
      go_wp2_with (at_builtin; refine wpList_append1 rfl _ _ 23 rfl w.heap.size 3 rfl i0 (.int .i64 0) 8 Try.underlying23 hi hz hz1 hz2 rfl (.slice a k c) k _ rfl HO4.out rfl rfl hkb (by decide) HB4.out ?_; intro v8 w8 hown8 hb8; obtain ⟨a8, c8, rfl⟩ := own_len hown8)
      have HO8 := Lib.hid hown8
      have HB8 := Lib.hid hb8
      clear hown8 hb8
      go_roundw
      case rel =>
        refine ⟨k + 1, a8, c8, HKL.out, by go_num, rfl, Lib.hid ?_, Lib.hid ?_⟩
        · rw [HSN.out, List.map_append]
          exact HO8.out
        · rw [HSN.out]
          exact rdV_base HV4.out HG.out HB8.out
      case measure => have := HKL.out; simp [intOf]; omega
    · have hyk : ¬ (k : Int) < (N : Int) := by omega
      have hkn : k = N := by omega
      have HE : Hid (w3.ownsRow w.heap.size 3 1 (.slice a k c) y.1.length (y.1.map kiV) ∧ RdV w w3 B g y.2) := Lib.hid (by
        rw [HY.out, intsR_len, ← hkn]
        exact ⟨HO.out, HV.out⟩)
      clear hlt hk hkn
      go_wp2_with fail
      go_ret
      exact ⟨_, rfl, HE.out.1, HE.out.2⟩

/-- Cells set one by one. -/
def setL : List Value → List Nat → List Int → List Value
  | cs, j :: js, x :: xs => setL (cs.set j (.int .i64 x)) js xs
  | cs, _, _ => cs

theorem setL_snoc : ∀ (js : List Nat) (xs : List Int) (cs : List Value) (j : Nat) (x : Int), js.length = xs.length → setL cs (js ++ [j]) (xs ++ [x]) = (setL cs js xs).set j (.int .i64 x)
  | [], [], cs, j, x, _ => rfl
  | a :: js, b :: xs, cs, j, x, h => by
    rw [List.cons_append, List.cons_append, setL, setL]
    exact setL_snoc js xs _ j x (by simpa using h)
  | [], _ :: _, _, _, _, h => by simp at h
  | _ :: _, [], _, _, _, h => by simp at h

theorem setL_len : ∀ (js : List Nat) (xs : List Int) (cs : List Value), (setL cs js xs).length = cs.length
  | [], _, _ => by rw [setL]; intro j js x xs h; cases h
  | _ :: _, [], _ => by rw [setL]; intro j js x xs _ h; cases h
  | j :: js, x :: xs, cs => by rw [setL, setL_len js xs]; simp

def PtrsV (w w' : World) (B g gm : Nat) (T : TypeId) (cs : List Value) (js : List Nat) (q : List Int × List UInt8 × Bool) : Prop := RdAt w' B g q.2 ∧ Rw w' 0 gm T (setL cs js q.1) ∧ Kept (fun k => k = g ∨ k = gm) w w'

theorem rdAt_kept {w w' : World} {B g gm : Nat} {s : List UInt8 × Bool} (h : RdAt w B g s) (hB : B ≤ gm) (hne : gm ≠ g) (hk : Kept (fun k => k = gm) w w') : RdAt w' B g s := by
  obtain ⟨h1, v, h2, h3⟩ := h
  exact ⟨h1, v, rw_kept h2 hk (fun e => hne e.symm), bySl_kept h3 hB hk⟩

set_option maxRecDepth 100000 in
set_option maxHeartbeats 2000000 in
theorem rptrs_any {w : World} {B g gm b o n c : Nat} {T : TypeId} {cs : List Value} {s : List UInt8 × Bool} (h : RdAt w B g s) (hm : Rw w 0 gm T cs) (hB : B ≤ gm) (hne : gm ≠ g) {js : List Nat} (hn : n = js.length) (hj : ∀ j ∈ js, j < cs.length) (hbg : b ≠ g) (hbm : b ≠ gm) (hp : ∀ i j, js[i]? = some j → w.cell? ⟨b, o + i, none⟩ = some (.pointer (some ⟨gm, j, none⟩))) (hn8 : n ≤ 8) :
    Calls Try.prog 43 #[.pointer (some ⟨g, 0, none⟩), .slice (some ⟨b, o, none⟩) n c] w fun e w' => e = .returned (.tuple #[]) ∧ PtrsV w w' B g gm T cs js (intsR n s) := by
  have H0 : Hid (PtrsV w w B g gm T cs (js.take 0) (intsR 0 s)) := Lib.hid ⟨h, by rw [List.take_zero]; exact hm, kept_refl _ _⟩
  have HP := Lib.hid hp
  have HN := Lib.hid hn
  have HJ := Lib.hid hj
  have HNE := Lib.hid hne
  have HB := Lib.hid hB
  have HBG := Lib.hid hbg
  have HBM := Lib.hid hbm
  clear h hm hp hn hj hne hB hbg hbm
  go_enter Try.func43, Try.ntmps43
  go_wp2_with fail
  go_loopw [8] (fun i wr => ∃ k : Nat, k ≤ n ∧ i = .int .i64 k ∧ Hid (PtrsV w wr B g gm T cs (js.take k) (intsR k s))) (fun i _ => n - (intOf i).toNat)
  case atStart => exact ⟨0, Nat.zero_le _, rfl, H0⟩
  case round =>
    clear H0
    obtain ⟨k, hk, rfl, HV⟩ := hrel
    obtain ⟨w3, hw3⟩ : ∃ w3 : World, w3 = wr := ⟨_, rfl⟩
    subst hw3
    by_cases hlt : k < n
    · obtain ⟨j, hjj⟩ : ∃ j, js[k]? = some j := ⟨_, List.getElem?_eq_getElem (by rw [← HN.out]; exact hlt)⟩
      have d0 : w3.cell? ⟨b, o + k, none⟩ = some (.pointer (some ⟨gm, j, none⟩)) := cell_kept (HP.out k j hjj) (HV.out.2.2.blk b (block_of_cell (HP.out k j hjj)) (fun e => e.elim HBG.out HBM.out))
      have HNX := Lib.hid (rnumber_any HV.out.1 8 (by decide))
      obtain ⟨q2, hq2⟩ : ∃ q2, q2 = numR 8 (intsR k s).2 := ⟨_, rfl⟩
      rw [← hq2] at HNX
      have HSN : Hid (intsR (k + 1) s = ((intsR k s).1 ++ [q2.1], q2.2)) := Lib.hid (by rw [intsR_snoc, hq2])
      obtain ⟨z, s3⟩ := q2
      dsimp only at HSN
      have HTK := Lib.hid (show js.take (k + 1) = js.take k ++ [j] from take_succ_of hjj)
      have HJL : Hid (j < cs.length) := Lib.hid (HJ.out j (List.mem_of_getElem? hjj))
      have hy : (k : Int) < (n : Int) := by omega
      have hk8 : (k : Int) < 8 := by omega
      have HKL := Lib.hid hlt
      clear hq2 hlt hk hjj
      go_wp2_with fail
      refine (HNX.out).mono ?_
      rintro e w4 ⟨rfl, hv4⟩
      dsimp only at hv4 ⊢
      have hr4 := rw_kept HV.out.2.1 hv4.2 HNE.out
      obtain ⟨x0, hx0⟩ : ∃ x0, (setL cs (js.take k) (intsR k s).1)[j]? = some x0 := ⟨_, List.getElem?_eq_getElem (by rw [setL_len]; exact HJL.out)⟩
      have d4 := Rw.cell hr4 hx0
      have f4 := Rw.free hr4 j
      have hrs := Rw.stored hr4 j (.int .i64 z)
      have hks : Kept (fun k => k = gm) w4 (w4.setCell ⟨gm, j, none⟩ (.int .i64 z)) := kept_put (F := fun k => k = gm) (kept_refl _ _) (.inl rfl) j _
      have HE : Hid (PtrsV w (w4.setCell ⟨gm, j, none⟩ (.int .i64 z)) B g gm T cs (js.take (k + 1)) (intsR (k + 1) s)) := Lib.hid ⟨by rw [HSN.out]; exact rdAt_kept hv4.1 HB.out HNE.out hks, by
        rw [HSN.out, HTK.out, setL_snoc _ _ _ _ _ (by rw [intsR_len, List.length_take, ← HN.out]; have := HKL.out; omega)]
        exact hrs, kept_then (kept_then HV.out.2.2 hv4.2 (fun x hx => .inl (.inl hx))) hks (fun x hx => .inl (.inr hx))⟩
      clear hr4 hx0 hrs hks hv4 d0 HNX
      go_wp2_with fail
      go_roundw
      case rel => exact ⟨k + 1, HKL.out, by go_num, HE⟩
      case measure => have := HKL.out; simp [intOf]; omega
    · have hyk : ¬ (k : Int) < (n : Int) := by omega
      have hkn : k = n := by omega
      have HE : Hid (PtrsV w w3 B g gm T cs js (intsR n s)) := Lib.hid (by
        have h := HV.out
        rw [hkn, List.take_of_length_le (by rw [← HN.out]; omega)] at h
        exact h)
      clear hlt hk hkn
      go_wp2_with fail
      go_end0
      exact ⟨rfl, HE.out⟩

theorem entsR_snoc : ∀ (i : Nat) (s : List UInt8 × Bool), entsR (i + 1) s = ((entsR i s).1 ++ [(entR1 (entsR i s).2).1], (entR1 (entsR i s).2).2)
  | 0, s => by simp only [entsR, List.nil_append]
  | i + 1, s => by
    have ih := entsR_snoc i (entR1 s).2
    rw [entsR, ih]
    simp only [entsR, List.cons_append]

theorem entsR_len : ∀ (i : Nat) (s : List UInt8 × Bool), (entsR i s).1.length = i
  | 0, _ => rfl
  | i + 1, s => by rw [entsR, List.length_cons, entsR_len i]

theorem snpR_full (s : List UInt8 × Bool) : snpR s = (⟨(numR 8 s).1, (numR 8 (numR 8 s).2).1, (lstR (numR 8 (numR 8 s).2).2).1, ⟨(txtR (lstR (numR 8 (numR 8 s).2).2).2).1.toArray⟩⟩, (txtR (lstR (numR 8 (numR 8 s).2).2).2).2) := Prod.ext (snpR_eq s) (by unfold snpR; rfl)

def SnapV (w w' : World) (B g : Nat) (e : Ending) (q : SnpM × List UInt8 × Bool) : Prop := ∃ u, e = .returned (.agg #[.int .i64 q.1.ix, .int .i64 q.1.tm, u, .string q.1.d]) ∧ w'.ownsRow w.heap.size 3 1 u q.1.ms.length (q.1.ms.map kiV) ∧ RdV w w' B g q.2

theorem kept_new {w w' : World} {F G : Nat → Prop} (h : Kept G w w') (hG : ∀ k, G k → F k ∨ w.heap.size ≤ k) : Kept F w w' := kept_mono h hG

theorem intsR_two (s : List UInt8 × Bool) : intsR 2 s = ([(numR 8 s).1, (numR 8 (numR 8 s).2).1], (numR 8 (numR 8 s).2).2) := rfl

theorem intsR_three (s : List UInt8 × Bool) : intsR 3 s = ([(numR 8 s).1, (numR 8 (numR 8 s).2).1, (numR 8 (numR 8 (numR 8 s).2).2).1], (numR 8 (numR 8 (numR 8 s).2).2).2) := by simp only [intsR]

theorem rd_put {w : World} {B g gm : Nat} {s : List UInt8 × Bool} (h : RdAt w B g s) (hB : B ≤ gm) (hne : gm ≠ g) (j : Nat) (u : Value) : RdAt (w.setCell ⟨gm, j, none⟩ u) B g s := rdAt_kept h hB hne (kept_put (F := fun k => k = gm) (kept_refl _ _) (.inl rfl) j u)

set_option maxRecDepth 100000 in
set_option maxHeartbeats 4000000 in
theorem rsnap_any {w : World} {B g : Nat} {s : List UInt8 × Bool} (h : RdAt w B g s) :
    Calls Try.prog 46 #[.pointer (some ⟨g, 0, none⟩)] w fun e w' => SnapV w w' B g e (snpR s) := by
  have hz := zero_cells Try.infoSnap
  have hg := rdAt_lt h
  have hB := h.1
  have HQ : Hid (snpR s = (⟨(numR 8 s).1, (numR 8 (numR 8 s).2).1, (lstR (numR 8 (numR 8 s).2).2).1, ⟨(txtR (lstR (numR 8 (numR 8 s).2).2).2).1.toArray⟩⟩, (txtR (lstR (numR 8 (numR 8 s).2).2).2).2)) := Lib.hid (snpR_full s)
  have HI2 : Hid (intsR 2 s = ([(numR 8 s).1, (numR 8 (numR 8 s).2).1], (numR 8 (numR 8 s).2).2)) := Lib.hid (intsR_two s)
  obtain ⟨q1, hq1⟩ : ∃ q1, q1 = numR 8 s := ⟨_, rfl⟩
  rw [← hq1] at HQ HI2
  obtain ⟨q2, hq2⟩ : ∃ q2, q2 = numR 8 q1.2 := ⟨_, rfl⟩
  rw [← hq2] at HQ HI2
  obtain ⟨q3, hq3⟩ : ∃ q3, q3 = lstR q2.2 := ⟨_, rfl⟩
  rw [← hq3] at HQ
  obtain ⟨q4, hq4⟩ : ∃ q4, q4 = txtR q3.2 := ⟨_, rfl⟩
  rw [← hq4] at HQ
  have HQ3 := Lib.hid hq3
  have HQ4 := Lib.hid hq4
  obtain ⟨y, hy⟩ : ∃ y, y = snpR s := ⟨_, rfl⟩
  rw [← hy] at HQ ⊢
  obtain ⟨gR, hgR⟩ : ∃ gR, gR = w.heap.size := ⟨_, rfl⟩
  obtain ⟨gm, hgm⟩ : ∃ gm, gm = w.heap.size + 1 := ⟨_, rfl⟩
  have hb1 := below_more (Below.refl _ w) (.cells #[.int .i64 0, .int .i64 0, .slice none 0 0, .string ⟨#[]⟩] 25)
  have hb2 := below_more hb1 (.cells #[.int .i64 0, .int .i64 0, .slice none 0 0, .string ⟨#[]⟩] 25)
  have hr1 : Rw ((w.alloc (.cells #[.int .i64 0, .int .i64 0, .slice none 0 0, .string ⟨#[]⟩] 25)).alloc (.cells #[.int .i64 0, .int .i64 0, .slice none 0 0, .string ⟨#[]⟩] 25)) 0 gm 25 [.int .i64 0, .int .i64 0, .slice none 0 0, .string ⟨#[]⟩] := by
    have := Rw.alloc (w.alloc (.cells #[.int .i64 0, .int .i64 0, .slice none 0 0, .string ⟨#[]⟩] 25)) 25 #[.int .i64 0, .int .i64 0, .slice none 0 0, .string ⟨#[]⟩] (Nat.zero_le _)
    rw [hgm]; simpa using this
  have hrR : Rw ((w.alloc (.cells #[.int .i64 0, .int .i64 0, .slice none 0 0, .string ⟨#[]⟩] 25)).alloc (.cells #[.int .i64 0, .int .i64 0, .slice none 0 0, .string ⟨#[]⟩] 25)) 0 gR 25 [.int .i64 0, .int .i64 0, .slice none 0 0, .string ⟨#[]⟩] := by
    rw [hgR]; exact Rw.more (Rw.alloc w _ _ (Nat.zero_le _)) _
  obtain ⟨w2, hw2⟩ : ∃ w2, w2 = (w.alloc (.cells #[.int .i64 0, .int .i64 0, .slice none 0 0, .string ⟨#[]⟩] 25)).alloc (.cells #[.int .i64 0, .int .i64 0, .slice none 0 0, .string ⟨#[]⟩] 25) := ⟨_, rfl⟩
  have hs2 : w2.heap.size = w.heap.size + 1 + 1 := by rw [hw2]; simp
  rw [← hw2] at hb2 hr1 hrR
  have hp3 := below_more (Below.refl _ w2) (.cells #[.pointer (some ⟨gm, 0, none⟩), .pointer (some ⟨gm, 1, none⟩)] 81)
  have hpt := (rptrs_any (c := 2) (rdAt_below h (below_then hb2 hp3)) (Rw.below hr1 hp3) (gm := gm) (b := w2.heap.size) (o := 0) (n := 2) (js := [0, 1]) (by omega) (by omega) rfl (fun j hj => by simp at hj; rcases hj with rfl | rfl <;> simp) (by omega) (by omega) (fun i j hij => by
    rw [Nat.zero_add, cell_of_row _ _ _ _ 81 (0, 0) (heap_alloc_new w2 _)]
    match i, hij with
    | 0, hij => simp at hij; subst hij; rfl
    | 1, hij => simp at hij; subst hij; rfl
    | i + 2, hij => simp at hij) (by decide))
  rw [HI2.out] at hpt
  have HK3 := Lib.hid (below_then hb2 hp3)
  have HRR := Lib.hid (Rw.below hrR hp3)
  have HG := Lib.hid hg
  have HB := Lib.hid hB
  rw [hs2] at hpt
  have HBM : Hid (B ≤ gm) := Lib.hid (by omega)
  have HNM : Hid (gm ≠ g) := Lib.hid (by omega)
  have HBR : Hid (B ≤ gR) := Lib.hid (by omega)
  have HNR : Hid (gR ≠ g) := Lib.hid (by omega)
  have HRM : Hid (gR ≠ gm) := Lib.hid (by omega)
  subst hw2 hgm hgR
  have HPT := Lib.hid hpt
  clear h hg hB hy hb1 hb2 hr1 hrR hs2 hp3 hpt hq1 hq2 hq3 hq4
  go_enter Try.func46, Try.ntmps46
  go_wp2_with (first | (refine wpList_alloc_z rfl 25 rfl #[.int .i64 0, .int .i64 0, .slice none 0 0, .string ⟨#[]⟩] hz ?_) | fail)
  refine (HPT.out).mono ?_
  rintro e w4 ⟨rfl, hrd4, hrm4, hk4⟩
  dsimp only [setL, List.set] at hrm4
  have hrr4 := rw_kept HRR.out hk4 (fun e => e.elim HNR.out HRM.out)
  have HLI := Lib.hid (rlist_any hrd4)
  rw [← HQ3.out] at HLI
  have HK4 : Hid (Kept (fun k => k = g) w w4) := Lib.hid (kept_then (kept_below HK3.out) hk4 (fun x hx => hx.elim .inl (fun e => .inr (by omega))))
  have HM4 := Lib.hid hrm4
  have HR4 := Lib.hid hrr4
  clear hrd4 hrm4 hrr4 hk4 HPT
  go_wp2_with fail
  refine (HLI.out).mono ?_
  rintro e w5 ⟨u, rfl, hu5, hv5⟩
  obtain ⟨ua, uc, rfl⟩ := own_len hu5
  have hrm5 := rw_kept HM4.out hv5.2 HNM.out
  have hrr5 := rw_kept HR4.out hv5.2 HNR.out
  have c5 := Rw.cell hrm5 (j := 2) rfl
  have f5 := Rw.free hrm5 2
  have hrm6 := Rw.stored hrm5 2 (.slice ua q3.1.length uc)
  have hrr6 := Rw.other hrr5 HRM.out.symm 2 (.slice ua q3.1.length uc)
  have hrd6 := rd_put hv5.1 HBM.out HNM.out 2 (.slice ua q3.1.length uc)
  have HU6 := Lib.hid (own_store (own_mono hu5 HK4.out.size) hrm5 (by decide) 2 (.slice ua q3.1.length uc))
  obtain ⟨w6, hw6⟩ : ∃ w6, w6 = w5.setCell ⟨w.heap.size + 1, 2, none⟩ (.slice ua q3.1.length uc) := ⟨_, rfl⟩
  have HK6 : Hid (Kept (fun k => k = g) w w6) := Lib.hid (by rw [hw6]; exact kept_put (kept_trans HK4.out hv5.2) (.inr (by omega)) 2 _)
  rw [← hw6] at hrm6 hrr6 hrd6 HU6
  have HTX := Lib.hid (rtext_any2 hrd6)
  rw [← HQ4.out] at HTX
  have HM6 := Lib.hid hrm6
  have HR6 := Lib.hid hrr6
  have HW6 := Lib.hid hw6
  clear hu5 hv5 hrm5 hrr5 hrm6 hrr6 hrd6 hw6 HLI
  go_wp2_with fail
  rw [← HW6.out]
  refine (HTX.out).mono ?_
  rintro e w7 ⟨rfl, hv7⟩
  have hrm7 := rw_kept HM6.out hv7.2 HNM.out
  have hrr7 := rw_kept HR6.out hv7.2 HNR.out
  have c70 : w7.cell? ⟨w.heap.size + 1, 0, none⟩ = some (.int .i64 q1.1) := Rw.cell hrm7 rfl
  have c71 : w7.cell? ⟨w.heap.size + 1, 1, none⟩ = some (.int .i64 q2.1) := Rw.cell hrm7 rfl
  have c72 : w7.cell? ⟨w.heap.size + 1, 2, none⟩ = some (.slice ua q3.1.length uc) := Rw.cell hrm7 rfl
  have c73 := Rw.cell hrm7 (j := 3) rfl
  have f7 := Rw.free hrm7 3
  have hrm8 := Rw.stored hrm7 3 (.string ⟨q4.1.toArray⟩)
  have hrr8 := Rw.other hrr7 HRM.out.symm 3 (.string ⟨q4.1.toArray⟩)
  have hrd8 := rd_put hv7.1 HBM.out HNM.out 3 (.string ⟨q4.1.toArray⟩)
  have hu8 := own_store (own_off HU6.out HG.out hv7.2) hrm7 (by decide) 3 (.string ⟨q4.1.toArray⟩)
  obtain ⟨w8, hw8⟩ : ∃ w8, w8 = w7.setCell ⟨w.heap.size + 1, 3, none⟩ (.string ⟨q4.1.toArray⟩) := ⟨_, rfl⟩
  have hk8 : Kept (fun k => k = g) w w8 := by rw [hw8]; exact kept_put (kept_trans HK6.out hv7.2) (.inr (by omega)) 3 _
  rw [← hw8] at hrm8 hrr8 hrd8 hu8
  have HM8 : Hid (Rw w8 0 (w.heap.size + 1) 25 [.int .i64 q1.1, .int .i64 q2.1, .slice ua q3.1.length uc, .string ⟨q4.1.toArray⟩]) := Lib.hid hrm8
  have HR8 := Lib.hid hrr8
  have hend := Rw.storedAll hrr8 [.int .i64 q1.1, .int .i64 q2.1, .slice ua q3.1.length uc, .string ⟨q4.1.toArray⟩] rfl
  have hk9 : Kept (fun k => k = w.heap.size) w8 (w8.setCells w.heap.size 0 [.int .i64 q1.1, .int .i64 q2.1, .slice ua q3.1.length uc, .string ⟨q4.1.toArray⟩]) := kept_puts (F := fun k => k = w.heap.size) (.inl rfl) _ 0 (kept_refl _ _)
  have HEND := Lib.hid hend
  have HU9 := Lib.hid (own_stores hu8 hrr8 (by decide) 0 [.int .i64 q1.1, .int .i64 q2.1, .slice ua q3.1.length uc, .string ⟨q4.1.toArray⟩])
  have HV9 : Hid (RdV w (w8.setCells w.heap.size 0 [.int .i64 q1.1, .int .i64 q2.1, .slice ua q3.1.length uc, .string ⟨q4.1.toArray⟩]) B g q4.2) := Lib.hid ⟨rdAt_kept hrd8 HBR.out HNR.out hk9, kept_then hk8 hk9 (fun x hx => .inr (by omega))⟩
  have HW8 := Lib.hid hw8
  clear hv7 hrm7 hrr7 hrm8 hrr8 hrd8 hu8 hw8 hk8 hend hk9 c70 c71 c72 HTX
  go_wp2_with (first | (rw [← HW8.out]; refine wpList_load_mid rfl 25 _ rfl (w.heap.size + 1) 0 rfl [.int .i64 q1.1, .int .i64 q2.1, .slice ua q3.1.length uc, .string ⟨q4.1.toArray⟩] _ (Rw.whole HM8.out) Try.underlying25 rfl Try.sizeSnap ?_) | (refine wpList_store_mid rfl 25 _ _ rfl w.heap.size 0 #[.int .i64 q1.1, .int .i64 q2.1, .slice ua q3.1.length uc, .string ⟨q4.1.toArray⟩] rfl rfl (Rw.there HR8.out 0 _ (by simp)) Try.sizeSnap (snp_one _ _ _ _ _ _) ?_) | fail)
  refine bodyPost_ret (v := .agg #[.int .i64 q1.1, .int .i64 q2.1, .slice ua q3.1.length uc, .string ⟨q4.1.toArray⟩]) ?_ rfl ⟨.slice ua q3.1.length uc, by rw [HQ.out], by rw [HQ.out]; exact HU9.out, by rw [HQ.out]; exact HV9.out⟩
  exact results_cell_row rfl _ _ w.heap.size _ _ _ _ rfl HEND.out.2 Try.underlying25 rfl Try.sizeSnap

/-- Entries read so far: rows of the call's own. -/
def AppG (w : World) (g : Nat) (es : List EntM) (w' : World) (v : Value) : Prop :=
  ∃ ns : List RecE, ns.map (·.e) = es ∧ OwnE w' 0 v ns ∧ (∀ k, v.ownBlock = some k → w.heap.size ≤ k) ∧ Kept (fun k => k = g) w w'

theorem appG_keep {w w1 w2 : World} {B g : Nat} {s : List UInt8 × Bool} {es : List EntM} {v : Value} (h : AppG w g es w1 v) (hr : RdAt w1 B g s) (hg : g < w.heap.size) (hk : Kept (fun k => k = g) w1 w2) : AppG w g es w2 v := by
  obtain ⟨ns, h1, h2, h3, h4⟩ := h
  obtain ⟨_, x, hx, _⟩ := hr
  exact ⟨ns, h1, ⟨own_same h2.1 (fun k hkk => hk.blk k (own_lt h2.1 hkk) (fun e => by have := h3 k hkk; omega)), fun r hrr => ⟨own_same (h2.2 r hrr).1 (fun k hkk => hk.blk k (own_lt (h2.2 r hrr).1 hkk) (fun e => by subst e; exact own_rw (h2.2 r hrr).1 hx (by decide) hkk)), (h2.2 r hrr).2⟩⟩, h3, kept_trans h4 hk⟩

theorem appG_add {w w8 w10 : World} {g n : Nat} {es : List EntM} {v v' u : Value} {ns : List RecE} {e : EntM} {o : Obj} (hm : ns.map (·.e) = es) (h2 : OwnE w8 0 v ns) (h3 : ∀ k, v.ownBlock = some k → w.heap.size ≤ k) (h4 : Kept (fun k => k = g) w w8)
    (hu : w8.ownsRow w.heap.size 3 1 u e.ms.length (e.ms.map kiV)) (hl : e.ms.length ≤ 1000000) (hn : n = ns.length) (h : w10.ownsRow 0 46 5 v' (n + 1) (rowsE ns ++ cellsE ⟨e, u⟩)) (hg : (w8.alloc o).grownBy w10 v.ownBlock)
    (hat : ∀ k, v'.ownBlock = some k → v.ownBlock = some k ∨ k = w8.heap.size + 1) : AppG w g (es ++ [e]) w10 v' := by
  subst hn
  have hbA : Below w8.heap.size w8 (w8.alloc o) := below_more (Below.refl _ _) o
  have hk4 : Kept (fun k => v.ownBlock = some k) w8 w10 := kept_grown (kept_below hbA) hg (fun k hk => .inl hk)
  have hoff : ∀ {x : Value} {m : Nat} {xs : List Value}, w8.ownsRow 0 3 1 x m xs → w10.ownsRow 0 3 1 x m xs := fun {x m xs} hx => own_keep hx hk4 (fun k hkk hkv => own_unlike h2.1 hx (by decide) hkv hkk)
  refine ⟨ns ++ [⟨e, u⟩], by rw [List.map_append, hm]; rfl, ⟨?_, fun r hr => ?_⟩, fun k hkk => ?_, kept_then h4 hk4 (fun k hkk => .inr (h3 k hkk))⟩
  · rw [List.length_append, rowsE_app, rowsE_one]
    exact h
  · rcases List.mem_append.1 hr with hr | hr
    · exact ⟨hoff (h2.2 r hr).1, (h2.2 r hr).2⟩
    · simp at hr
      subst hr
      exact ⟨hoff (own_mono hu (Nat.zero_le _)), hl⟩
  · rcases hat k hkk with h | h
    · exact h3 k h
    · have := h4.size
      omega

theorem rdAt_keptF {w w' : World} {B g : Nat} {F : Nat → Prop} {s : List UInt8 × Bool} (h : RdAt w B g s) (hk : Kept F w w') (hF : ∀ x, F x → x ≠ g ∧ B ≤ x) : RdAt w' B g s := by
  obtain ⟨h1, v, h2, a, c, hv, hc, hl⟩ := h
  exact ⟨h1, v, rw_kept h2 hk (fun hf => (hF g hf).1 rfl), a, c, hv, hc, lies_keep hl (fun k hkB hks => hk.blk k hks (fun hf => by have := (hF k hf).2; omega))⟩

theorem entR1_full (s : List UInt8 × Bool) : entR1 s = (⟨(numR 8 s).1, (numR 8 (numR 8 s).2).1, (numR 8 (numR 8 (numR 8 s).2).2).1, ⟨(txtR (numR 8 (numR 8 (numR 8 s).2).2).2).1.toArray⟩, (lstR (txtR (numR 8 (numR 8 (numR 8 s).2).2).2).2).1⟩, (lstR (txtR (numR 8 (numR 8 (numR 8 s).2).2).2).2).2) := Prod.ext (entR1_eq s) (by unfold entR1; rfl)

theorem lstR_len (s : List UInt8 × Bool) : (lstR s).1.length ≤ 1000000 := by
  unfold lstR
  rw [intsR_len]
  have := numR_byte s
  omega

def EntsV (w w' : World) (B g : Nat) (e : Ending) (q : List EntM × List UInt8 × Bool) : Prop := ∃ v', e = .returned v' ∧ AppG w g q.1 w' v' ∧ RdAt w' B g q.2

set_option maxRecDepth 100000 in
set_option maxHeartbeats 8000000 in
theorem rentries_any {w : World} {B g : Nat} {s : List UInt8 × Bool} (h : RdAt w B g s) :
    Calls Try.prog 45 #[.pointer (some ⟨g, 0, none⟩)] w fun e w' => EntsV w w' B g e (entsR (numR 1 s).1.toNat (numR 1 s).2) := by
  have hz := zero_cells Try.infoEntz
  have HNM := Lib.hid (rnumber_any h 1 (by decide))
  have hpos := numR_pos 1 s
  have hbyte := numR_byte s
  have HG := Lib.hid (rdAt_lt h)
  have HB := Lib.hid h.1
  obtain ⟨q, hq⟩ : ∃ q, q = numR 1 s := ⟨_, rfl⟩
  rw [← hq] at HNM hpos hbyte ⊢
  obtain ⟨x, s2⟩ := q
  dsimp only at hpos hbyte ⊢
  obtain ⟨N, rfl⟩ := Int.eq_ofNat_of_zero_le hpos
  rw [Int.toNat_natCast]
  have HN : Hid (N < 256) := Lib.hid (by omega)
  obtain ⟨i0, hi0, hz0, hz1, hz2⟩ := info_parts Try.infoEntry
  clear h hq hpos hbyte
  go_enter Try.func45, Try.ntmps45
  go_wp2_with fail
  refine (HNM.out).mono ?_
  rintro e w1 ⟨rfl, hv1⟩
  dsimp only at hv1 ⊢
  have HV1 := Lib.hid hv1
  clear hv1 HNM
  go_wp2_with fail
  go_loopw [3, 7] (fun v i wr => ∃ (k : Nat) (a : Option Addr) (c : Nat), k ≤ N ∧ i = .int .i64 k ∧ v = .slice a k c ∧ Hid (AppG w g (entsR k s2).1 wr (.slice a k c)) ∧ Hid (RdAt wr B g (entsR k s2).2)) (fun _ i _ => N - (intOf i).toNat)
  case atStart => exact ⟨0, none, 0, Nat.zero_le _, rfl, rfl, Lib.hid ⟨[], rfl, ⟨World.ownsRow_nil _ _ _ _, fun r hr => by simp at hr⟩, fun k hk => by simp [Value.ownBlock] at hk, HV1.out.2⟩, Lib.hid HV1.out.1⟩
  case round =>
    obtain ⟨k, a, c, hk, rfl, rfl, HA, HR⟩ := hrel
    obtain ⟨w3, hw3⟩ : ∃ w3 : World, w3 = wr := ⟨_, rfl⟩
    subst hw3
    by_cases hlt : k < N
    · have HSN : Hid (entsR (k + 1) s2 = ((entsR k s2).1 ++ [(entR1 (entsR k s2).2).1], (entR1 (entsR k s2).2).2)) := Lib.hid (entsR_snoc k s2)
      have HLEN : Hid ((entsR k s2).1.length = k) := Lib.hid (entsR_len k s2)
      obtain ⟨t, ht⟩ : ∃ t, t = (entsR k s2).2 := ⟨_, rfl⟩
      obtain ⟨es, hes⟩ : ∃ es, es = (entsR k s2).1 := ⟨_, rfl⟩
      rw [← ht, ← hes] at HSN
      rw [← ht] at HR
      rw [← hes] at HA HLEN
      have HQ := Lib.hid (entR1_full t)
      have HI3 := Lib.hid (intsR_three t)
      obtain ⟨q1, hq1⟩ : ∃ q1, q1 = numR 8 t := ⟨_, rfl⟩
      rw [← hq1] at HQ HI3
      obtain ⟨q2, hq2⟩ : ∃ q2, q2 = numR 8 q1.2 := ⟨_, rfl⟩
      rw [← hq2] at HQ HI3
      obtain ⟨q3, hq3⟩ : ∃ q3, q3 = numR 8 q2.2 := ⟨_, rfl⟩
      rw [← hq3] at HQ HI3
      obtain ⟨q4, hq4⟩ : ∃ q4, q4 = txtR q3.2 := ⟨_, rfl⟩
      rw [← hq4] at HQ
      obtain ⟨q5, hq5⟩ : ∃ q5, q5 = lstR q4.2 := ⟨_, rfl⟩
      rw [← hq5] at HQ
      have HQ4 := Lib.hid hq4
      have HQ5 := Lib.hid hq5
      have HL5 : Hid (q5.1.length ≤ 1000000) := Lib.hid (by rw [hq5]; exact lstR_len _)
      have hgs : g < w3.heap.size := rdAt_lt HR.out
      have hws : w.heap.size ≤ w3.heap.size := by obtain ⟨_, _, _, _, hk⟩ := HA.out; exact hk.size
      obtain ⟨gE, hgE⟩ : ∃ gE, gE = w3.heap.size := ⟨_, rfl⟩
      have hb1 := below_more (Below.refl _ w3) (.cells #[.int .i64 0, .int .i64 0, .int .i64 0, .string ⟨#[]⟩, .slice none 0 0] 46)
      have hr1 : Rw (w3.alloc (.cells #[.int .i64 0, .int .i64 0, .int .i64 0, .string ⟨#[]⟩, .slice none 0 0] 46)) 0 gE 46 [.int .i64 0, .int .i64 0, .int .i64 0, .string ⟨#[]⟩, .slice none 0 0] := by rw [hgE]; exact Rw.alloc w3 _ _ (Nat.zero_le _)
      obtain ⟨w2, hw2⟩ : ∃ w2, w2 = w3.alloc (.cells #[.int .i64 0, .int .i64 0, .int .i64 0, .string ⟨#[]⟩, .slice none 0 0] 46) := ⟨_, rfl⟩
      have hs2 : w2.heap.size = w3.heap.size + 1 := by rw [hw2]; simp
      rw [← hw2] at hb1 hr1
      have hp3 := below_more (Below.refl _ w2) (.cells #[.pointer (some ⟨gE, 0, none⟩), .pointer (some ⟨gE, 1, none⟩), .pointer (some ⟨gE, 2, none⟩)] 81)
      have hb12 := below_then hb1 hp3
      have hpt := (rptrs_any (c := 3) (rdAt_below HR.out hb12) (Rw.below hr1 hp3) (gm := gE) (b := w2.heap.size) (o := 0) (n := 3) (js := [0, 1, 2]) (by have := HB.out; omega) (by omega) rfl (fun j hj => by simp at hj; rcases hj with rfl | rfl | rfl <;> simp) (by omega) (by omega) (fun i j hij => by
        rw [Nat.zero_add, cell_of_row _ _ _ _ 81 (0, 0) (heap_alloc_new w2 _)]
        match i, hij with
        | 0, hij => simp at hij; subst hij; rfl
        | 1, hij => simp at hij; subst hij; rfl
        | 2, hij => simp at hij; subst hij; rfl
        | i + 3, hij => simp at hij) (by decide))
      rw [HI3.out, hs2] at hpt
      have HBE : Hid (B ≤ gE) := Lib.hid (by have := HB.out; omega)
      have HNE : Hid (gE ≠ g) := Lib.hid (by omega)
      have HGE : Hid (w.heap.size ≤ gE) := Lib.hid (by omega)
      have HB12 := Lib.hid hb12
      subst hw2 hgE
      have HPT := Lib.hid hpt
      have hy : (k : Int) < (N : Int) := by omega
      have hk8 : (k : Int) < 256 := by have := HN.out; omega
      have HKL := Lib.hid hlt
      have HMX : Hid (k + 1 ≤ maxLen) := Lib.hid (by have := HN.out; unfold maxLen; omega)
      have HBT : Hid ((k + 1) * 64 ≤ 140737488355328) := Lib.hid (by have := HN.out; omega)
      clear hk hlt ht hes hq1 hq2 hq3 hq4 hq5 hgs hws hb1 hr1 hs2 hp3 hb12 hpt
      go_wp2_with (first | (refine wpList_alloc_z rfl 46 rfl #[.int .i64 0, .int .i64 0, .int .i64 0, .string ⟨#[]⟩, .slice none 0 0] hz ?_) | fail)
      refine (HPT.out).mono ?_
      rintro e w4 ⟨rfl, hrd4, hrm4, hk4⟩
      dsimp only [setL, List.set] at hrm4
      have HTX := Lib.hid (rtext_any2 hrd4)
      dsimp only at HTX
      rw [← HQ4.out] at HTX
      have HK4 : Hid (Kept (fun k => k = g) w3 w4) := Lib.hid (kept_then (kept_below HB12.out) hk4 (fun x hx => hx.elim .inl (fun e => .inr (by omega))))
      have HM4 := Lib.hid hrm4
      clear hrd4 hrm4 hk4 HPT
      go_wp2_with fail
      refine (HTX.out).mono ?_
      rintro e w5 ⟨rfl, hv5⟩
      have hrm5 := rw_kept HM4.out hv5.2 HNE.out
      have c5 := Rw.cell hrm5 (j := 3) rfl
      have f5 := Rw.free hrm5 3
      have hrm6 := Rw.stored hrm5 3 (.string ⟨q4.1.toArray⟩)
      have hrd6 := rd_put hv5.1 HBE.out HNE.out 3 (.string ⟨q4.1.toArray⟩)
      obtain ⟨w6, hw6⟩ : ∃ w6, w6 = w5.setCell ⟨w3.heap.size, 3, none⟩ (.string ⟨q4.1.toArray⟩) := ⟨_, rfl⟩
      have HK6 : Hid (Kept (fun k => k = g) w3 w6) := Lib.hid (by rw [hw6]; exact kept_put (kept_trans HK4.out hv5.2) (.inr (Nat.le_refl _)) 3 _)
      rw [← hw6] at hrm6 hrd6
      have HLI := Lib.hid (rlist_any hrd6)
      rw [← HQ5.out] at HLI
      have HM6 := Lib.hid hrm6
      have HW6 := Lib.hid hw6
      clear hv5 hrm5 hrm6 hrd6 hw6 HTX
      go_wp2_with fail
      rw [← HW6.out]
      refine (HLI.out).mono ?_
      rintro e w7 ⟨u, rfl, hu7, hv7⟩
      obtain ⟨ua, uc, rfl⟩ := own_len hu7
      obtain ⟨M, hM⟩ : ∃ M, M = q5.1.length := ⟨_, rfl⟩
      rw [← hM] at hu7 ⊢
      have HMM := Lib.hid hM
      have hrm7 := rw_kept HM6.out hv7.2 HNE.out
      have c7 := Rw.cell hrm7 (j := 4) rfl
      have f7 := Rw.free hrm7 4
      have hrm8 := Rw.stored hrm7 4 (.slice ua M uc)
      have hrd8 := rd_put hv7.1 HBE.out HNE.out 4 (.slice ua M uc)
      have hu8 := own_store (own_mono hu7 (Nat.le_trans HGE.out HK6.out.size)) hrm7 (by decide) 4 (.slice ua M uc)
      obtain ⟨w8, hw8⟩ : ∃ w8, w8 = w7.setCell ⟨w3.heap.size, 4, none⟩ (.slice ua M uc) := ⟨_, rfl⟩
      have hk8' : Kept (fun k => k = g) w3 w8 := by rw [hw8]; exact kept_put (kept_trans HK6.out hv7.2) (.inr (Nat.le_refl _)) 4 _
      have hsz8 : w8.heap.size = w7.heap.size := by rw [hw8]; simp
      rw [← hw8] at hrm8 hrd8 hu8
      have g0 : w8.cell? ⟨w3.heap.size, 0, none⟩ = some (.int .i64 q1.1) := Rw.cell hrm8 rfl
      have g1 : w8.cell? ⟨w3.heap.size, 1, none⟩ = some (.int .i64 q2.1) := Rw.cell hrm8 rfl
      have g2 : w8.cell? ⟨w3.heap.size, 2, none⟩ = some (.int .i64 q3.1) := Rw.cell hrm8 rfl
      have g3 : w8.cell? ⟨w3.heap.size, 3, none⟩ = some (.string ⟨q4.1.toArray⟩) := Rw.cell hrm8 rfl
      have g4 : w8.cell? ⟨w3.heap.size, 4, none⟩ = some (.slice ua M uc) := Rw.cell hrm8 rfl
      have hA8 := appG_keep HA.out HR.out HG.out hk8'
      obtain ⟨ns, m1, m2, m3, m4⟩ := hA8
      have hnl : ns.length = k := by rw [← HLEN.out, ← m1, List.length_map]
      have HO8 : Hid (w8.ownsRow 0 46 5 (.slice a k c) k (rowsE ns)) := Lib.hid (by have := m2.1; rw [hnl] at this; exact this)
      have HNS := Lib.hid hnl
      have HM1 := Lib.hid m1
      have HM2 := Lib.hid m2
      have HM3 := Lib.hid m3
      have HM4' := Lib.hid m4
      have HU8 := Lib.hid hu8
      have HRD8 := Lib.hid hrd8
      have HW8 := Lib.hid hw8
      have HSZ8 := Lib.hid hsz8
      clear hu7 hv7 hM hrm7 hrm8 hrd8 hu8 hw8 hk8' hsz8 hnl m1 m2 m3 m4 HLI
      go_wp2_with (first
        | (rw [← HW8.out]; refine wpList_load_mid rfl 46 _ rfl w3.heap.size 0 rfl [.int .i64 q1.1, .int .i64 q2.1, .int .i64 q3.1, .string ⟨q4.1.toArray⟩, .slice ua M uc] _ (fun j v hj => by match j, hj with | 0, hj => (simp at hj; subst hj; exact g0) | 1, hj => (simp at hj; subst hj; exact g1) | 2, hj => (simp at hj; subst hj; exact g2) | 3, hj => (simp at hj; subst hj; exact g3) | 4, hj => (simp at hj; subst hj; exact g4) | j + 5, hj => simp at hj) Try.underlying46 rfl Try.infoEnt ?_)
        | (refine wpList_append_lies _ rfl (.tmp 21) (.tmp 23) 22 rfl 0 46 i0 _ 5 64 Try.underlying22 hi0 hz0 hz1 hz2 rfl (by decide) (.slice a k c) k (rowsE ns) rfl ((HO8.out).alloc _) ⟨w8.heap.size, 0, none⟩ 1 1 [.int .i64 q1.1, .int .i64 q2.1, .int .i64 q3.1, .string ⟨q4.1.toArray⟩, .slice ua M uc] rfl rfl (World.news_of_block (heap_alloc_new w8 _)) (ent_cells_one _ _ _ _ _ _ _) (by decide) HMX.out HBT.out (Nat.zero_le _) (w8.heap.size + 1) (by simp) ?_; intro gg cap w10 hown hgrow hat hlt4)
        | fail)
      have HGR := Lib.hid hgrow
      have HOW := Lib.hid hown
      have HAT := Lib.hid hat
      clear hgrow hown hat hlt4 g0 g1 g2 g3 g4
      go_roundw
      case rel =>
        refine ⟨k + 1, some ⟨gg, 0, none⟩, cap, HKL.out, by go_num, rfl, Lib.hid ?_, Lib.hid ?_⟩
        · rw [HSN.out, HQ.out]
          exact appG_add HM1.out HM2.out HM3.out HM4'.out (e := ⟨q1.1, q2.1, q3.1, ⟨q4.1.toArray⟩, q5.1⟩) (u := .slice ua M uc) (by rw [← HMM.out]; exact HU8.out) HL5.out HNS.out.symm HOW.out HGR.out (fun k hk => by
            simp only [Value.ownBlock, Option.some.injEq] at hk
            subst hk
            exact HAT.out)
        · rw [HSN.out, HQ.out]
          exact rdAt_keptF HRD8.out (kept_grown (F := fun x => (Value.slice a k c).ownBlock = some x) (kept_below (below_more (Below.refl _ _) _)) HGR.out (fun _ hk => .inl hk)) (fun x hx => by
            have h1 := HM3.out x hx
            have h2 := HG.out
            have h3 := HB.out
            exact ⟨by omega, by omega⟩)
      case measure => have := HKL.out; simp [intOf]; omega
    · have hyk : ¬ (k : Int) < (N : Int) := by omega
      have hkn : k = N := by omega
      have HE : Hid (AppG w g (entsR N s2).1 w3 (.slice a k c) ∧ RdAt w3 B g (entsR N s2).2) := Lib.hid (by rw [← hkn]; exact ⟨HA.out, HR.out⟩)
      clear hlt hk hkn
      go_wp2_with fail
      go_ret
      exact ⟨_, rfl, HE.out.1, HE.out.2⟩

theorem msgR_of {s q0 : List UInt8 × Bool} {x : Int × List UInt8 × Bool} {a b c : Int × List UInt8 × Bool} (h0 : x = numR 1 s) (ha : a = numR 8 x.2) (hb : b = numR 8 a.2) (hc : c = numR 8 b.2) (hq : q0 = c.2) : msgR s = bodyR ⟨x.1, a.1, b.1, c.1, 0, 0, 0, false, [], zeroSn⟩ q0 := by
  subst hq hc hb ha h0
  have e1 : headR s = (⟨(numR 1 s).1, (numR 8 (numR 1 s).2).1, (numR 8 (numR 8 (numR 1 s).2).2).1, (numR 8 (numR 8 (numR 8 (numR 1 s).2).2).2).1, 0, 0, 0, false, [], zeroSn⟩, (numR 8 (numR 8 (numR 8 (numR 1 s).2).2).2).2) := by unfold headR; rfl
  unfold msgR
  rw [e1]

theorem bodyR1 {m : MsgM} {s : List UInt8 × Bool} (h : m.kd = 1) {d e : Int × List UInt8 × Bool} (hd : d = numR 8 s) (he : e = numR 8 d.2) : bodyR m s = ({ m with ix := d.1, lt := e.1 }, e.2) := by subst he hd; unfold bodyR; rw [if_pos h]

theorem bodyR2 {m : MsgM} {s : List UInt8 × Bool} (h : m.kd = 2) {d : Bool × List UInt8 × Bool} (hd : d = yesR s) : bodyR m s = ({ m with yes := d.1 }, d.2) := by subst hd; unfold bodyR; rw [if_neg (by omega), if_pos h]

theorem bodyR3 {m : MsgM} {s : List UInt8 × Bool} (h : m.kd = 3) {d e f n : Int × List UInt8 × Bool} {u : List EntM × List UInt8 × Bool} (hd : d = numR 8 s) (he : e = numR 8 d.2) (hf : f = numR 8 e.2) (hn : n = numR 1 f.2) (hu : u = entsR n.1.toNat n.2) : bodyR m s = ({ m with ix := d.1, lt := e.1, cm := f.1, es := u.1 }, u.2) := by subst hu hn hf he hd; unfold bodyR; rw [if_neg (by omega), if_neg (by omega), if_pos h]

theorem bodyR4 {m : MsgM} {s : List UInt8 × Bool} (h : m.kd = 4) {d : Bool × List UInt8 × Bool} {e : Int × List UInt8 × Bool} (hd : d = yesR s) (he : e = numR 8 d.2) : bodyR m s = ({ m with yes := d.1, ix := e.1 }, e.2) := by subst he hd; unfold bodyR; rw [if_neg (by omega), if_neg (by omega), if_neg (by omega), if_pos h]

theorem bodyR5 {m : MsgM} {s : List UInt8 × Bool} (h : m.kd = 5) {d : SnpM × List UInt8 × Bool} (hd : d = snpR s) : bodyR m s = ({ m with sn := d.1 }, d.2) := by subst hd; unfold bodyR; rw [if_neg (by omega), if_neg (by omega), if_neg (by omega), if_neg (by omega), if_pos h]

theorem bodyR6 {m : MsgM} {s : List UInt8 × Bool} (h : ¬ m.kd = 1 ∧ ¬ m.kd = 2 ∧ ¬ m.kd = 3 ∧ ¬ m.kd = 4 ∧ ¬ m.kd = 5) : bodyR m s = (m, s) := by unfold bodyR; rw [if_neg h.1, if_neg h.2.1, if_neg h.2.2.1, if_neg h.2.2.2.1, if_neg h.2.2.2.2]

/-- ints by a row of pointers that is made for it. -/
theorem rptrs_new {W : World} {B g gm n p : Nat} {T : TypeId} {cs : List Value} {s : List UInt8 × Bool} (h : RdAt W B g s) (hm : Rw W 0 gm T cs) (hB : B ≤ gm) (hne : gm ≠ g) {js : List Nat} (hn : n = js.length) (hj : ∀ j ∈ js, j < cs.length) (hn8 : n ≤ 8) {ps : Array Value} (hps : ps.toList = js.map fun j => .pointer (some ⟨gm, j, none⟩)) (hp : p = W.heap.size) {r : List Int × List UInt8 × Bool} (hr : r = intsR n s) :
    Calls Try.prog 43 #[.pointer (some ⟨g, 0, none⟩), .slice (some ⟨p, 0, none⟩) n n] (W.alloc (.cells ps 81)) fun e w' => e = .returned (.tuple #[]) ∧ PtrsV W w' B g gm T cs js r := by
  subst hp hr
  have hb := below_more (Below.refl _ W) (.cells ps 81)
  have h1 := rdAt_lt h
  have h2 := Rw.size hm
  refine (rptrs_any (c := n) (rdAt_below h hb) (Rw.below hm hb) hB hne hn hj (b := W.heap.size) (o := 0) (by omega) (by omega) (fun i j hij => ?_) hn8).mono ?_
  · rw [Nat.zero_add, cell_of_row _ _ _ _ 81 (0, 0) (heap_alloc_new W _)]
    have h3 : (js.map fun j => Value.pointer (some ⟨gm, j, none⟩))[i]? = some (.pointer (some ⟨gm, j, none⟩)) := by rw [List.getElem?_map, hij]; rfl
    rw [← hps] at h3
    simpa using h3
  · rintro e w' ⟨rfl, a1, a2, a3⟩
    exact ⟨rfl, a1, a2, kept_then (kept_below hb) a3 (fun x hx => .inl hx)⟩

theorem msg_one (a b c d e f g : Int) (y : Bool) (A1 A2 : Option Addr) (n1 c1 n2 c2 : Nat) (i j : Int) (s : ByteArray) : (#[Value.int .i64 a, .int .i64 b, .int .i64 c, .int .i64 d, .int .i64 e, .int .i64 f, .int .i64 g, .bool y, .slice A1 n1 c1, .int .i64 i, .int .i64 j, .slice A2 n2 c2, .string s].all (·.oneCell')) = true := by simp [Value.oneCell']

def MsgOwn (w : World) (ev mv : Value) (m : MsgM) : Prop := (∃ ns : List RecE, ns.map (·.e) = m.es ∧ OwnE w 0 ev ns) ∧ m.es.length ≤ 1000000 ∧ w.ownsRow 0 3 1 mv m.sn.ms.length (m.sn.ms.map kiV) ∧ m.sn.ms.length ≤ 1000000

theorem ownE_nil (w : World) : ∃ ns : List RecE, ns.map (·.e) = [] ∧ OwnE w 0 (.slice none 0 0) ns := ⟨[], rfl, World.ownsRow_nil _ _ _ _, fun r hr => by simp at hr⟩

theorem msgOwn_at {w : World} {ev mv : Value} {m : MsgM} (h : MsgOwn w ev mv m) : MsgAt w ev mv m := by
  obtain ⟨⟨ns, h1, h2⟩, h3, h4, h5⟩ := h
  refine ⟨?_, h3, intsAt_own h4 h5⟩
  rw [← h1]
  exact ownE_ents h2

def MsgRV (w w' : World) (B g : Nat) (e : Ending) (q : MsgM × List UInt8 × Bool) : Prop := ∃ ev mv, e = .returned (msgV q.1 ev mv) ∧ MsgOwn w' ev mv q.1 ∧ RdV w w' B g q.2

/-- What stands at the end, ahead of the copy into the result. -/
theorem md_end {w W : World} {B g gR : Nat} {s : List UInt8 × Bool} {cs : List Value} (hrd : RdAt W B g s) (hk : Kept (fun k => k = g) w W) (hR : Rw W 0 gR 27 cs) (hB : B ≤ gR) (hne : gR ≠ g) (hw : w.heap.size ≤ gR) {xs : List Value} (hl : cs.length = xs.length) : RdV w (W.setCells gR 0 xs) B g s ∧ Rw (W.setCells gR 0 xs) 0 gR 27 xs := by
  have hk9 : Kept (fun k => k = gR) W (W.setCells gR 0 xs) := kept_puts (F := fun k => k = gR) (.inl rfl) _ 0 (kept_refl _ _)
  exact ⟨⟨rdAt_kept hrd hB hne hk9, kept_then hk hk9 (fun x hx => .inr (by omega))⟩, Rw.storedAll hR xs hl⟩

theorem kept_gm {w w3 W : World} {g gm : Nat} (hk : Kept (fun k => k = g) w w3) (h : Kept (fun k => k = g ∨ k = gm) w3 W) (hg : w.heap.size ≤ gm) : Kept (fun k => k = g) w W := kept_then hk h (fun x hx => hx.elim .inl (fun e => .inr (by omega)))

set_option maxRecDepth 100000 in
set_option maxHeartbeats 16000000 in
theorem rmessage_k1 {w : World} {B g : Nat} {s : List UInt8 × Bool} (h : RdAt w B g s) (hk6 : (numR 1 s).1 = 1) :
    Calls Try.prog 24 #[.pointer (some ⟨g, 0, none⟩)] w fun e w' => MsgRV w w' B g e (msgR s) := by
  have hz := zero_cells Try.infoMsg
  have hg := rdAt_lt h
  have hpos := numR_pos 1 s
  have hb1 := below_more (Below.refl _ w) (.cells #[.int .i64 0, .int .i64 0, .int .i64 0, .int .i64 0, .int .i64 0, .int .i64 0, .int .i64 0, .bool false, .slice none 0 0, .int .i64 0, .int .i64 0, .slice none 0 0, .string ⟨#[]⟩] 27)
  have HNM := Lib.hid (rnumber_any (rdAt_below h hb1) 1 (by decide))
  have HRR := Lib.hid (Rw.alloc w 27 #[.int .i64 0, .int .i64 0, .int .i64 0, .int .i64 0, .int .i64 0, .int .i64 0, .int .i64 0, .bool false, .slice none 0 0, .int .i64 0, .int .i64 0, .slice none 0 0, .string ⟨#[]⟩] (Nat.zero_le _))
  obtain ⟨x, hx⟩ : ∃ x, x = numR 1 s := ⟨_, rfl⟩
  rw [← hx] at HNM hpos hk6
  obtain ⟨a, ha⟩ : ∃ a, a = numR 8 x.2 := ⟨_, rfl⟩
  obtain ⟨b, hb⟩ : ∃ b, b = numR 8 a.2 := ⟨_, rfl⟩
  obtain ⟨c, hc⟩ : ∃ c, c = numR 8 b.2 := ⟨_, rfl⟩
  have HMS := Lib.hid (msgR_of (q0 := c.2) hx ha hb hc rfl)
  have HI3 : Hid (([a.1, b.1, c.1], c.2) = intsR 3 x.2) := Lib.hid (by rw [intsR_three, ← ha, ← hb, ← hc])
  obtain ⟨y, hy⟩ : ∃ y, y = msgR s := ⟨_, rfl⟩
  rw [← hy] at HMS ⊢
  obtain ⟨x1, x2⟩ := x
  dsimp only at HMS HI3 hpos hk6
  obtain ⟨K, rfl⟩ := Int.eq_ofNat_of_zero_le hpos
  have HG := Lib.hid hg
  have HB := Lib.hid h.1
  have HB1 := Lib.hid hb1
  have HK6 := Lib.hid hk6
  clear h hg hpos hb1 hx ha hb hc hy hk6
  go_enter Try.func24, Try.ntmps24
  go_wp2_with (first | (refine wpList_alloc_z rfl 27 rfl #[.int .i64 0, .int .i64 0, .int .i64 0, .int .i64 0, .int .i64 0, .int .i64 0, .int .i64 0, .bool false, .slice none 0 0, .int .i64 0, .int .i64 0, .slice none 0 0, .string ⟨#[]⟩] hz ?_) | fail)
  refine (HNM.out).mono ?_
  rintro e w2 ⟨rfl, hv2⟩
  dsimp only at hv2 ⊢
  have hs2 : w.heap.size + 1 ≤ w2.heap.size := by have := hv2.2.size; simpa using this
  have hb3 := below_more (Below.refl _ w2) (.cells #[.int .i64 K, .int .i64 0, .int .i64 0, .int .i64 0, .int .i64 0, .int .i64 0, .int .i64 0, .bool false, .slice none 0 0, .int .i64 0, .int .i64 0, .slice none 0 0, .string ⟨#[]⟩] 27)
  have hr3 : Rw (w2.alloc (.cells #[.int .i64 K, .int .i64 0, .int .i64 0, .int .i64 0, .int .i64 0, .int .i64 0, .int .i64 0, .bool false, .slice none 0 0, .int .i64 0, .int .i64 0, .slice none 0 0, .string ⟨#[]⟩] 27)) 0 w2.heap.size 27 [.int .i64 K, .int .i64 0, .int .i64 0, .int .i64 0, .int .i64 0, .int .i64 0, .int .i64 0, .bool false, .slice none 0 0, .int .i64 0, .int .i64 0, .slice none 0 0, .string ⟨#[]⟩] := Rw.alloc w2 _ _ (Nat.zero_le _)
  have hrr3 : Rw (w2.alloc (.cells #[.int .i64 K, .int .i64 0, .int .i64 0, .int .i64 0, .int .i64 0, .int .i64 0, .int .i64 0, .bool false, .slice none 0 0, .int .i64 0, .int .i64 0, .slice none 0 0, .string ⟨#[]⟩] 27)) 0 w.heap.size 27 [.int .i64 0, .int .i64 0, .int .i64 0, .int .i64 0, .int .i64 0, .int .i64 0, .int .i64 0, .bool false, .slice none 0 0, .int .i64 0, .int .i64 0, .slice none 0 0, .string ⟨#[]⟩] := Rw.below (rw_kept HRR.out hv2.2 (by have := HG.out; omega)) hb3
  have hk3 : Kept (fun k => k = g) w (w2.alloc (.cells #[.int .i64 K, .int .i64 0, .int .i64 0, .int .i64 0, .int .i64 0, .int .i64 0, .int .i64 0, .bool false, .slice none 0 0, .int .i64 0, .int .i64 0, .slice none 0 0, .string ⟨#[]⟩] 27)) := kept_then (G := fun _ => False) (kept_then (kept_below HB1.out) hv2.2 (fun x hx => .inl hx)) (kept_below hb3) (fun _ h => h.elim)
  have HNE : Hid (w2.heap.size ≠ g) := Lib.hid (by have := HG.out; omega)
  have HBM : Hid (B ≤ w2.heap.size) := Lib.hid (by have := HG.out; have := HB.out; omega)
  have HNR : Hid (w.heap.size ≠ g) := Lib.hid (by have := HG.out; omega)
  have HBR : Hid (B ≤ w.heap.size) := Lib.hid (by have := HG.out; have := HB.out; omega)
  have HRM : Hid (w.heap.size ≠ w2.heap.size) := Lib.hid (by omega)
  have HWM : Hid (w.heap.size ≤ w2.heap.size) := Lib.hid (by omega)
  have HPT := Lib.hid (rptrs_new (rdAt_below hv2.1 hb3) hr3 HBM.out HNE.out (js := [1, 2, 3]) (n := 3) rfl (fun j hj => by simp at hj; rcases hj with rfl | rfl | rfl <;> simp) (by decide) (ps := #[.pointer (some ⟨w2.heap.size, 1, none⟩), .pointer (some ⟨w2.heap.size, 2, none⟩), .pointer (some ⟨w2.heap.size, 3, none⟩)]) rfl (p := w2.heap.size + 1) (by simp) HI3.out)
  have HK3 := Lib.hid hk3
  have HRR3 := Lib.hid hrr3
  clear hv2 hs2 hb3 hr3 hrr3 hk3 HNM
  go_wp2_with (first | (refine wpList_alloc_z rfl 27 rfl #[.int .i64 0, .int .i64 0, .int .i64 0, .int .i64 0, .int .i64 0, .int .i64 0, .int .i64 0, .bool false, .slice none 0 0, .int .i64 0, .int .i64 0, .slice none 0 0, .string ⟨#[]⟩] hz ?_) | fail)
  refine (HPT.out).mono ?_
  rintro e w5 ⟨rfl, hrd5, hrm5, hk5⟩
  dsimp only [setL, List.set] at hrm5 hrd5
  have hrr5 := rw_kept HRR3.out hk5 (fun e => e.elim HNR.out HRM.out)
  have hkk5 := kept_gm HK3.out hk5 HWM.out
  have x0 : w5.cell? ⟨w2.heap.size, 0, none⟩ = some (.int .i64 K) := Rw.cell hrm5 rfl
  have HRD := Lib.hid hrd5
  have HM := Lib.hid hrm5
  have HR := Lib.hid hrr5
  have HK := Lib.hid hkk5
  clear hrd5 hrm5 hk5 hrr5 hkk5 HPT HI3
  have hk6 := HK6.out
  obtain ⟨d, hd⟩ : ∃ d, d = numR 8 c.2 := ⟨_, rfl⟩
  obtain ⟨e, he⟩ : ∃ e, e = numR 8 d.2 := ⟨_, rfl⟩
  have HQ := Lib.hid (HMS.out.trans (bodyR1 hk6 hd he))
  have HPT := Lib.hid (rptrs_new HRD.out HM.out HBM.out HNE.out (js := [4, 5]) (n := 2) rfl (fun j hj => by simp at hj; rcases hj with rfl | rfl <;> simp) (by decide) (ps := #[.pointer (some ⟨w2.heap.size, 4, none⟩), .pointer (some ⟨w2.heap.size, 5, none⟩)]) rfl (p := w5.heap.size) rfl (r := ([d.1, e.1], e.2)) (by rw [intsR_two, ← hd, ← he]))
  have q1 : ((K : Int) == 1) = true := by rw [beq_iff_eq]; omega
  clear hk6 hd he
  go_wp2_with fail
  refine (HPT.out).mono ?_
  rintro e w7 ⟨rfl, hrd, hrm, hk⟩
  dsimp only [setL, List.set] at hrm hrd
  have hrr := rw_kept HR.out hk (fun e => e.elim HNR.out HRM.out)
  have hkk := kept_gm HK.out hk HWM.out
  clear HRD HM HR HK HPT
  have HRD := Lib.hid hrd
  have HM := Lib.hid hrm
  have HR := Lib.hid hrr
  have HK := Lib.hid hkk
  clear hrd hrm hk hrr hkk
  clear x0
  obtain ⟨hrdv, hend⟩ := md_end HRD.out HK.out HR.out HBR.out HNR.out (Nat.le_refl _) (xs := [.int .i64 K, .int .i64 a.1, .int .i64 b.1, .int .i64 c.1, .int .i64 d.1, .int .i64 e.1, .int .i64 0, .bool false, .slice none 0 0, .int .i64 0, .int .i64 0, .slice none 0 0, .string ⟨#[]⟩]) rfl
  have HRDV := Lib.hid hrdv
  have HEND := Lib.hid hend
  clear hrdv hend
  go_wp2_with (first | (refine wpList_load_mid rfl 27 _ rfl w2.heap.size 0 rfl [.int .i64 K, .int .i64 a.1, .int .i64 b.1, .int .i64 c.1, .int .i64 d.1, .int .i64 e.1, .int .i64 0, .bool false, .slice none 0 0, .int .i64 0, .int .i64 0, .slice none 0 0, .string ⟨#[]⟩] _ (Rw.whole HM.out) Try.underlying27 rfl Try.sizeMsg ?_) | (refine wpList_store_mid rfl 27 _ _ rfl w.heap.size 0 #[.int .i64 K, .int .i64 a.1, .int .i64 b.1, .int .i64 c.1, .int .i64 d.1, .int .i64 e.1, .int .i64 0, .bool false, .slice none 0 0, .int .i64 0, .int .i64 0, .slice none 0 0, .string ⟨#[]⟩] rfl rfl (Rw.there HR.out 0 _ (by simp)) Try.sizeMsg (msg_one _ _ _ _ _ _ _ _ _ _ _ _ _ _ _ _ _) ?_) | fail)
  refine bodyPost_ret (v := .agg #[.int .i64 K, .int .i64 a.1, .int .i64 b.1, .int .i64 c.1, .int .i64 d.1, .int .i64 e.1, .int .i64 0, .bool false, .slice none 0 0, .int .i64 0, .int .i64 0, .slice none 0 0, .string ⟨#[]⟩]) ?_ rfl ⟨.slice none 0 0, .slice none 0 0, by rw [HQ.out]; rfl, by rw [HQ.out]; exact ⟨ownE_nil _, by simp, World.ownsRow_nil _ _ _ _, by simp [zeroSn]⟩, by rw [HQ.out]; exact HRDV.out⟩
  exact results_cell_row rfl _ _ w.heap.size _ _ _ _ rfl HEND.out.2 Try.underlying27 rfl Try.sizeMsg

set_option maxRecDepth 100000 in
set_option maxHeartbeats 16000000 in
theorem rmessage_k2 {w : World} {B g : Nat} {s : List UInt8 × Bool} (h : RdAt w B g s) (hk6 : (numR 1 s).1 = 2) :
    Calls Try.prog 24 #[.pointer (some ⟨g, 0, none⟩)] w fun e w' => MsgRV w w' B g e (msgR s) := by
  have hz := zero_cells Try.infoMsg
  have hg := rdAt_lt h
  have hpos := numR_pos 1 s
  have hb1 := below_more (Below.refl _ w) (.cells #[.int .i64 0, .int .i64 0, .int .i64 0, .int .i64 0, .int .i64 0, .int .i64 0, .int .i64 0, .bool false, .slice none 0 0, .int .i64 0, .int .i64 0, .slice none 0 0, .string ⟨#[]⟩] 27)
  have HNM := Lib.hid (rnumber_any (rdAt_below h hb1) 1 (by decide))
  have HRR := Lib.hid (Rw.alloc w 27 #[.int .i64 0, .int .i64 0, .int .i64 0, .int .i64 0, .int .i64 0, .int .i64 0, .int .i64 0, .bool false, .slice none 0 0, .int .i64 0, .int .i64 0, .slice none 0 0, .string ⟨#[]⟩] (Nat.zero_le _))
  obtain ⟨x, hx⟩ : ∃ x, x = numR 1 s := ⟨_, rfl⟩
  rw [← hx] at HNM hpos hk6
  obtain ⟨a, ha⟩ : ∃ a, a = numR 8 x.2 := ⟨_, rfl⟩
  obtain ⟨b, hb⟩ : ∃ b, b = numR 8 a.2 := ⟨_, rfl⟩
  obtain ⟨c, hc⟩ : ∃ c, c = numR 8 b.2 := ⟨_, rfl⟩
  have HMS := Lib.hid (msgR_of (q0 := c.2) hx ha hb hc rfl)
  have HI3 : Hid (([a.1, b.1, c.1], c.2) = intsR 3 x.2) := Lib.hid (by rw [intsR_three, ← ha, ← hb, ← hc])
  obtain ⟨y, hy⟩ : ∃ y, y = msgR s := ⟨_, rfl⟩
  rw [← hy] at HMS ⊢
  obtain ⟨x1, x2⟩ := x
  dsimp only at HMS HI3 hpos hk6
  obtain ⟨K, rfl⟩ := Int.eq_ofNat_of_zero_le hpos
  have HG := Lib.hid hg
  have HB := Lib.hid h.1
  have HB1 := Lib.hid hb1
  have HK6 := Lib.hid hk6
  clear h hg hpos hb1 hx ha hb hc hy hk6
  go_enter Try.func24, Try.ntmps24
  go_wp2_with (first | (refine wpList_alloc_z rfl 27 rfl #[.int .i64 0, .int .i64 0, .int .i64 0, .int .i64 0, .int .i64 0, .int .i64 0, .int .i64 0, .bool false, .slice none 0 0, .int .i64 0, .int .i64 0, .slice none 0 0, .string ⟨#[]⟩] hz ?_) | fail)
  refine (HNM.out).mono ?_
  rintro e w2 ⟨rfl, hv2⟩
  dsimp only at hv2 ⊢
  have hs2 : w.heap.size + 1 ≤ w2.heap.size := by have := hv2.2.size; simpa using this
  have hb3 := below_more (Below.refl _ w2) (.cells #[.int .i64 K, .int .i64 0, .int .i64 0, .int .i64 0, .int .i64 0, .int .i64 0, .int .i64 0, .bool false, .slice none 0 0, .int .i64 0, .int .i64 0, .slice none 0 0, .string ⟨#[]⟩] 27)
  have hr3 : Rw (w2.alloc (.cells #[.int .i64 K, .int .i64 0, .int .i64 0, .int .i64 0, .int .i64 0, .int .i64 0, .int .i64 0, .bool false, .slice none 0 0, .int .i64 0, .int .i64 0, .slice none 0 0, .string ⟨#[]⟩] 27)) 0 w2.heap.size 27 [.int .i64 K, .int .i64 0, .int .i64 0, .int .i64 0, .int .i64 0, .int .i64 0, .int .i64 0, .bool false, .slice none 0 0, .int .i64 0, .int .i64 0, .slice none 0 0, .string ⟨#[]⟩] := Rw.alloc w2 _ _ (Nat.zero_le _)
  have hrr3 : Rw (w2.alloc (.cells #[.int .i64 K, .int .i64 0, .int .i64 0, .int .i64 0, .int .i64 0, .int .i64 0, .int .i64 0, .bool false, .slice none 0 0, .int .i64 0, .int .i64 0, .slice none 0 0, .string ⟨#[]⟩] 27)) 0 w.heap.size 27 [.int .i64 0, .int .i64 0, .int .i64 0, .int .i64 0, .int .i64 0, .int .i64 0, .int .i64 0, .bool false, .slice none 0 0, .int .i64 0, .int .i64 0, .slice none 0 0, .string ⟨#[]⟩] := Rw.below (rw_kept HRR.out hv2.2 (by have := HG.out; omega)) hb3
  have hk3 : Kept (fun k => k = g) w (w2.alloc (.cells #[.int .i64 K, .int .i64 0, .int .i64 0, .int .i64 0, .int .i64 0, .int .i64 0, .int .i64 0, .bool false, .slice none 0 0, .int .i64 0, .int .i64 0, .slice none 0 0, .string ⟨#[]⟩] 27)) := kept_then (G := fun _ => False) (kept_then (kept_below HB1.out) hv2.2 (fun x hx => .inl hx)) (kept_below hb3) (fun _ h => h.elim)
  have HNE : Hid (w2.heap.size ≠ g) := Lib.hid (by have := HG.out; omega)
  have HBM : Hid (B ≤ w2.heap.size) := Lib.hid (by have := HG.out; have := HB.out; omega)
  have HNR : Hid (w.heap.size ≠ g) := Lib.hid (by have := HG.out; omega)
  have HBR : Hid (B ≤ w.heap.size) := Lib.hid (by have := HG.out; have := HB.out; omega)
  have HRM : Hid (w.heap.size ≠ w2.heap.size) := Lib.hid (by omega)
  have HWM : Hid (w.heap.size ≤ w2.heap.size) := Lib.hid (by omega)
  have HPT := Lib.hid (rptrs_new (rdAt_below hv2.1 hb3) hr3 HBM.out HNE.out (js := [1, 2, 3]) (n := 3) rfl (fun j hj => by simp at hj; rcases hj with rfl | rfl | rfl <;> simp) (by decide) (ps := #[.pointer (some ⟨w2.heap.size, 1, none⟩), .pointer (some ⟨w2.heap.size, 2, none⟩), .pointer (some ⟨w2.heap.size, 3, none⟩)]) rfl (p := w2.heap.size + 1) (by simp) HI3.out)
  have HK3 := Lib.hid hk3
  have HRR3 := Lib.hid hrr3
  clear hv2 hs2 hb3 hr3 hrr3 hk3 HNM
  go_wp2_with (first | (refine wpList_alloc_z rfl 27 rfl #[.int .i64 0, .int .i64 0, .int .i64 0, .int .i64 0, .int .i64 0, .int .i64 0, .int .i64 0, .bool false, .slice none 0 0, .int .i64 0, .int .i64 0, .slice none 0 0, .string ⟨#[]⟩] hz ?_) | fail)
  refine (HPT.out).mono ?_
  rintro e w5 ⟨rfl, hrd5, hrm5, hk5⟩
  dsimp only [setL, List.set] at hrm5 hrd5
  have hrr5 := rw_kept HRR3.out hk5 (fun e => e.elim HNR.out HRM.out)
  have hkk5 := kept_gm HK3.out hk5 HWM.out
  have x0 : w5.cell? ⟨w2.heap.size, 0, none⟩ = some (.int .i64 K) := Rw.cell hrm5 rfl
  have HRD := Lib.hid hrd5
  have HM := Lib.hid hrm5
  have HR := Lib.hid hrr5
  have HK := Lib.hid hkk5
  clear hrd5 hrm5 hk5 hrr5 hkk5 HPT HI3
  have hk6 := HK6.out
  obtain ⟨d, hd⟩ : ∃ d, d = yesR c.2 := ⟨_, rfl⟩
  have HQ := Lib.hid (HMS.out.trans (bodyR2 hk6 hd))
  have HYE := Lib.hid (ryes_any HRD.out)
  rw [← hd] at HYE
  have q1 : ((K : Int) == 1) = false := by rw [beq_eq_false_iff_ne]; omega
  have q2 : ((K : Int) == 2) = true := by rw [beq_iff_eq]; omega
  clear hk6 hd
  go_wp2_with fail
  refine (HYE.out).mono ?_
  rintro e wy ⟨rfl, hv⟩
  have hrm := rw_kept HM.out hv.2 HNE.out
  have hrr := rw_kept HR.out hv.2 HNR.out
  have xx := Rw.cell hrm (j := 7) rfl
  have ff := Rw.free hrm 7
  have hrm2 := Rw.stored hrm 7 (.bool d.1)
  have hrr2 := Rw.other hrr HRM.out.symm 7 (.bool d.1)
  have hrd2 := rd_put hv.1 HBM.out HNE.out 7 (.bool d.1)
  have hkk2 : Kept (fun k => k = g) w (wy.setCell ⟨w2.heap.size, 7, none⟩ (.bool d.1)) := kept_put (kept_trans HK.out hv.2) (.inr HWM.out) 7 _
  obtain ⟨w7, hwn⟩ : ∃ wn, wn = wy.setCell ⟨w2.heap.size, 7, none⟩ (.bool d.1) := ⟨_, rfl⟩
  rw [← hwn] at hrm2 hrr2 hrd2 hkk2
  dsimp only [List.set] at hrm2
  clear HRD HM HR HK HYE
  have HRD := Lib.hid hrd2
  have HM := Lib.hid hrm2
  have HR := Lib.hid hrr2
  have HK := Lib.hid hkk2
  have HWN := Lib.hid hwn
  clear hv hrm hrr hrm2 hrr2 hrd2 hkk2 hwn
  clear x0
  obtain ⟨hrdv, hend⟩ := md_end HRD.out HK.out HR.out HBR.out HNR.out (Nat.le_refl _) (xs := [.int .i64 K, .int .i64 a.1, .int .i64 b.1, .int .i64 c.1, .int .i64 0, .int .i64 0, .int .i64 0, .bool d.1, .slice none 0 0, .int .i64 0, .int .i64 0, .slice none 0 0, .string ⟨#[]⟩]) rfl
  have HRDV := Lib.hid hrdv
  have HEND := Lib.hid hend
  clear hrdv hend
  go_wp2_with (first | (rw [← HWN.out]; refine wpList_load_mid rfl 27 _ rfl w2.heap.size 0 rfl [.int .i64 K, .int .i64 a.1, .int .i64 b.1, .int .i64 c.1, .int .i64 0, .int .i64 0, .int .i64 0, .bool d.1, .slice none 0 0, .int .i64 0, .int .i64 0, .slice none 0 0, .string ⟨#[]⟩] _ (Rw.whole HM.out) Try.underlying27 rfl Try.sizeMsg ?_) | (refine wpList_store_mid rfl 27 _ _ rfl w.heap.size 0 #[.int .i64 K, .int .i64 a.1, .int .i64 b.1, .int .i64 c.1, .int .i64 0, .int .i64 0, .int .i64 0, .bool d.1, .slice none 0 0, .int .i64 0, .int .i64 0, .slice none 0 0, .string ⟨#[]⟩] rfl rfl (Rw.there HR.out 0 _ (by simp)) Try.sizeMsg (msg_one _ _ _ _ _ _ _ _ _ _ _ _ _ _ _ _ _) ?_) | fail)
  refine bodyPost_ret (v := .agg #[.int .i64 K, .int .i64 a.1, .int .i64 b.1, .int .i64 c.1, .int .i64 0, .int .i64 0, .int .i64 0, .bool d.1, .slice none 0 0, .int .i64 0, .int .i64 0, .slice none 0 0, .string ⟨#[]⟩]) ?_ rfl ⟨.slice none 0 0, .slice none 0 0, by rw [HQ.out]; rfl, by rw [HQ.out]; exact ⟨ownE_nil _, by simp, World.ownsRow_nil _ _ _ _, by simp [zeroSn]⟩, by rw [HQ.out]; exact HRDV.out⟩
  exact results_cell_row rfl _ _ w.heap.size _ _ _ _ rfl HEND.out.2 Try.underlying27 rfl Try.sizeMsg

set_option maxRecDepth 100000 in
set_option maxHeartbeats 16000000 in
theorem rmessage_k6 {w : World} {B g : Nat} {s : List UInt8 × Bool} (h : RdAt w B g s) (hk6 : ¬ (numR 1 s).1 = 1 ∧ ¬ (numR 1 s).1 = 2 ∧ ¬ (numR 1 s).1 = 3 ∧ ¬ (numR 1 s).1 = 4 ∧ ¬ (numR 1 s).1 = 5) :
    Calls Try.prog 24 #[.pointer (some ⟨g, 0, none⟩)] w fun e w' => MsgRV w w' B g e (msgR s) := by
  have hz := zero_cells Try.infoMsg
  have hg := rdAt_lt h
  have hpos := numR_pos 1 s
  have hb1 := below_more (Below.refl _ w) (.cells #[.int .i64 0, .int .i64 0, .int .i64 0, .int .i64 0, .int .i64 0, .int .i64 0, .int .i64 0, .bool false, .slice none 0 0, .int .i64 0, .int .i64 0, .slice none 0 0, .string ⟨#[]⟩] 27)
  have HNM := Lib.hid (rnumber_any (rdAt_below h hb1) 1 (by decide))
  have HRR := Lib.hid (Rw.alloc w 27 #[.int .i64 0, .int .i64 0, .int .i64 0, .int .i64 0, .int .i64 0, .int .i64 0, .int .i64 0, .bool false, .slice none 0 0, .int .i64 0, .int .i64 0, .slice none 0 0, .string ⟨#[]⟩] (Nat.zero_le _))
  obtain ⟨x, hx⟩ : ∃ x, x = numR 1 s := ⟨_, rfl⟩
  rw [← hx] at HNM hpos hk6
  obtain ⟨a, ha⟩ : ∃ a, a = numR 8 x.2 := ⟨_, rfl⟩
  obtain ⟨b, hb⟩ : ∃ b, b = numR 8 a.2 := ⟨_, rfl⟩
  obtain ⟨c, hc⟩ : ∃ c, c = numR 8 b.2 := ⟨_, rfl⟩
  have HMS := Lib.hid (msgR_of (q0 := c.2) hx ha hb hc rfl)
  have HI3 : Hid (([a.1, b.1, c.1], c.2) = intsR 3 x.2) := Lib.hid (by rw [intsR_three, ← ha, ← hb, ← hc])
  obtain ⟨y, hy⟩ : ∃ y, y = msgR s := ⟨_, rfl⟩
  rw [← hy] at HMS ⊢
  obtain ⟨x1, x2⟩ := x
  dsimp only at HMS HI3 hpos hk6
  obtain ⟨K, rfl⟩ := Int.eq_ofNat_of_zero_le hpos
  have HG := Lib.hid hg
  have HB := Lib.hid h.1
  have HB1 := Lib.hid hb1
  have HK6 := Lib.hid hk6
  clear h hg hpos hb1 hx ha hb hc hy hk6
  go_enter Try.func24, Try.ntmps24
  go_wp2_with (first | (refine wpList_alloc_z rfl 27 rfl #[.int .i64 0, .int .i64 0, .int .i64 0, .int .i64 0, .int .i64 0, .int .i64 0, .int .i64 0, .bool false, .slice none 0 0, .int .i64 0, .int .i64 0, .slice none 0 0, .string ⟨#[]⟩] hz ?_) | fail)
  refine (HNM.out).mono ?_
  rintro e w2 ⟨rfl, hv2⟩
  dsimp only at hv2 ⊢
  have hs2 : w.heap.size + 1 ≤ w2.heap.size := by have := hv2.2.size; simpa using this
  have hb3 := below_more (Below.refl _ w2) (.cells #[.int .i64 K, .int .i64 0, .int .i64 0, .int .i64 0, .int .i64 0, .int .i64 0, .int .i64 0, .bool false, .slice none 0 0, .int .i64 0, .int .i64 0, .slice none 0 0, .string ⟨#[]⟩] 27)
  have hr3 : Rw (w2.alloc (.cells #[.int .i64 K, .int .i64 0, .int .i64 0, .int .i64 0, .int .i64 0, .int .i64 0, .int .i64 0, .bool false, .slice none 0 0, .int .i64 0, .int .i64 0, .slice none 0 0, .string ⟨#[]⟩] 27)) 0 w2.heap.size 27 [.int .i64 K, .int .i64 0, .int .i64 0, .int .i64 0, .int .i64 0, .int .i64 0, .int .i64 0, .bool false, .slice none 0 0, .int .i64 0, .int .i64 0, .slice none 0 0, .string ⟨#[]⟩] := Rw.alloc w2 _ _ (Nat.zero_le _)
  have hrr3 : Rw (w2.alloc (.cells #[.int .i64 K, .int .i64 0, .int .i64 0, .int .i64 0, .int .i64 0, .int .i64 0, .int .i64 0, .bool false, .slice none 0 0, .int .i64 0, .int .i64 0, .slice none 0 0, .string ⟨#[]⟩] 27)) 0 w.heap.size 27 [.int .i64 0, .int .i64 0, .int .i64 0, .int .i64 0, .int .i64 0, .int .i64 0, .int .i64 0, .bool false, .slice none 0 0, .int .i64 0, .int .i64 0, .slice none 0 0, .string ⟨#[]⟩] := Rw.below (rw_kept HRR.out hv2.2 (by have := HG.out; omega)) hb3
  have hk3 : Kept (fun k => k = g) w (w2.alloc (.cells #[.int .i64 K, .int .i64 0, .int .i64 0, .int .i64 0, .int .i64 0, .int .i64 0, .int .i64 0, .bool false, .slice none 0 0, .int .i64 0, .int .i64 0, .slice none 0 0, .string ⟨#[]⟩] 27)) := kept_then (G := fun _ => False) (kept_then (kept_below HB1.out) hv2.2 (fun x hx => .inl hx)) (kept_below hb3) (fun _ h => h.elim)
  have HNE : Hid (w2.heap.size ≠ g) := Lib.hid (by have := HG.out; omega)
  have HBM : Hid (B ≤ w2.heap.size) := Lib.hid (by have := HG.out; have := HB.out; omega)
  have HNR : Hid (w.heap.size ≠ g) := Lib.hid (by have := HG.out; omega)
  have HBR : Hid (B ≤ w.heap.size) := Lib.hid (by have := HG.out; have := HB.out; omega)
  have HRM : Hid (w.heap.size ≠ w2.heap.size) := Lib.hid (by omega)
  have HWM : Hid (w.heap.size ≤ w2.heap.size) := Lib.hid (by omega)
  have HPT := Lib.hid (rptrs_new (rdAt_below hv2.1 hb3) hr3 HBM.out HNE.out (js := [1, 2, 3]) (n := 3) rfl (fun j hj => by simp at hj; rcases hj with rfl | rfl | rfl <;> simp) (by decide) (ps := #[.pointer (some ⟨w2.heap.size, 1, none⟩), .pointer (some ⟨w2.heap.size, 2, none⟩), .pointer (some ⟨w2.heap.size, 3, none⟩)]) rfl (p := w2.heap.size + 1) (by simp) HI3.out)
  have HK3 := Lib.hid hk3
  have HRR3 := Lib.hid hrr3
  clear hv2 hs2 hb3 hr3 hrr3 hk3 HNM
  go_wp2_with (first | (refine wpList_alloc_z rfl 27 rfl #[.int .i64 0, .int .i64 0, .int .i64 0, .int .i64 0, .int .i64 0, .int .i64 0, .int .i64 0, .bool false, .slice none 0 0, .int .i64 0, .int .i64 0, .slice none 0 0, .string ⟨#[]⟩] hz ?_) | fail)
  refine (HPT.out).mono ?_
  rintro e w5 ⟨rfl, hrd5, hrm5, hk5⟩
  dsimp only [setL, List.set] at hrm5 hrd5
  have hrr5 := rw_kept HRR3.out hk5 (fun e => e.elim HNR.out HRM.out)
  have hkk5 := kept_gm HK3.out hk5 HWM.out
  have x0 : w5.cell? ⟨w2.heap.size, 0, none⟩ = some (.int .i64 K) := Rw.cell hrm5 rfl
  have HRD := Lib.hid hrd5
  have HM := Lib.hid hrm5
  have HR := Lib.hid hrr5
  have HK := Lib.hid hkk5
  clear hrd5 hrm5 hk5 hrr5 hkk5 HPT HI3
  have hk6 := HK6.out
  have HQ := Lib.hid (HMS.out.trans (bodyR6 hk6))
  have q1 : ((K : Int) == 1) = false := by rw [beq_eq_false_iff_ne]; omega
  have q2 : ((K : Int) == 2) = false := by rw [beq_eq_false_iff_ne]; omega
  have q3 : ((K : Int) == 3) = false := by rw [beq_eq_false_iff_ne]; omega
  have q4 : ((K : Int) == 4) = false := by rw [beq_eq_false_iff_ne]; omega
  have q5 : ((K : Int) == 5) = false := by rw [beq_eq_false_iff_ne]; omega
  clear hk6
  obtain ⟨hrdv, hend⟩ := md_end HRD.out HK.out HR.out HBR.out HNR.out (Nat.le_refl _) (xs := [.int .i64 K, .int .i64 a.1, .int .i64 b.1, .int .i64 c.1, .int .i64 0, .int .i64 0, .int .i64 0, .bool false, .slice none 0 0, .int .i64 0, .int .i64 0, .slice none 0 0, .string ⟨#[]⟩]) rfl
  have HRDV := Lib.hid hrdv
  have HEND := Lib.hid hend
  clear hrdv hend
  go_wp2_with (first | (refine wpList_load_mid rfl 27 _ rfl w2.heap.size 0 rfl [.int .i64 K, .int .i64 a.1, .int .i64 b.1, .int .i64 c.1, .int .i64 0, .int .i64 0, .int .i64 0, .bool false, .slice none 0 0, .int .i64 0, .int .i64 0, .slice none 0 0, .string ⟨#[]⟩] _ (Rw.whole HM.out) Try.underlying27 rfl Try.sizeMsg ?_) | (refine wpList_store_mid rfl 27 _ _ rfl w.heap.size 0 #[.int .i64 K, .int .i64 a.1, .int .i64 b.1, .int .i64 c.1, .int .i64 0, .int .i64 0, .int .i64 0, .bool false, .slice none 0 0, .int .i64 0, .int .i64 0, .slice none 0 0, .string ⟨#[]⟩] rfl rfl (Rw.there HR.out 0 _ (by simp)) Try.sizeMsg (msg_one _ _ _ _ _ _ _ _ _ _ _ _ _ _ _ _ _) ?_) | fail)
  refine bodyPost_ret (v := .agg #[.int .i64 K, .int .i64 a.1, .int .i64 b.1, .int .i64 c.1, .int .i64 0, .int .i64 0, .int .i64 0, .bool false, .slice none 0 0, .int .i64 0, .int .i64 0, .slice none 0 0, .string ⟨#[]⟩]) ?_ rfl ⟨.slice none 0 0, .slice none 0 0, by rw [HQ.out]; rfl, by rw [HQ.out]; exact ⟨ownE_nil _, by simp, World.ownsRow_nil _ _ _ _, by simp [zeroSn]⟩, by rw [HQ.out]; exact HRDV.out⟩
  exact results_cell_row rfl _ _ w.heap.size _ _ _ _ rfl HEND.out.2 Try.underlying27 rfl Try.sizeMsg

set_option maxRecDepth 100000 in
set_option maxHeartbeats 16000000 in
theorem rmessage_k3 {w : World} {B g : Nat} {s : List UInt8 × Bool} (h : RdAt w B g s) (hk6 : (numR 1 s).1 = 3) :
    Calls Try.prog 24 #[.pointer (some ⟨g, 0, none⟩)] w fun e w' => MsgRV w w' B g e (msgR s) := by
  have hz := zero_cells Try.infoMsg
  have hg := rdAt_lt h
  have hpos := numR_pos 1 s
  have hb1 := below_more (Below.refl _ w) (.cells #[.int .i64 0, .int .i64 0, .int .i64 0, .int .i64 0, .int .i64 0, .int .i64 0, .int .i64 0, .bool false, .slice none 0 0, .int .i64 0, .int .i64 0, .slice none 0 0, .string ⟨#[]⟩] 27)
  have HNM := Lib.hid (rnumber_any (rdAt_below h hb1) 1 (by decide))
  have HRR := Lib.hid (Rw.alloc w 27 #[.int .i64 0, .int .i64 0, .int .i64 0, .int .i64 0, .int .i64 0, .int .i64 0, .int .i64 0, .bool false, .slice none 0 0, .int .i64 0, .int .i64 0, .slice none 0 0, .string ⟨#[]⟩] (Nat.zero_le _))
  obtain ⟨x, hx⟩ : ∃ x, x = numR 1 s := ⟨_, rfl⟩
  rw [← hx] at HNM hpos hk6
  obtain ⟨a, ha⟩ : ∃ a, a = numR 8 x.2 := ⟨_, rfl⟩
  obtain ⟨b, hb⟩ : ∃ b, b = numR 8 a.2 := ⟨_, rfl⟩
  obtain ⟨c, hc⟩ : ∃ c, c = numR 8 b.2 := ⟨_, rfl⟩
  have HMS := Lib.hid (msgR_of (q0 := c.2) hx ha hb hc rfl)
  have HI3 : Hid (([a.1, b.1, c.1], c.2) = intsR 3 x.2) := Lib.hid (by rw [intsR_three, ← ha, ← hb, ← hc])
  obtain ⟨y, hy⟩ : ∃ y, y = msgR s := ⟨_, rfl⟩
  rw [← hy] at HMS ⊢
  obtain ⟨x1, x2⟩ := x
  dsimp only at HMS HI3 hpos hk6
  obtain ⟨K, rfl⟩ := Int.eq_ofNat_of_zero_le hpos
  have HG := Lib.hid hg
  have HB := Lib.hid h.1
  have HB1 := Lib.hid hb1
  have HK6 := Lib.hid hk6
  clear h hg hpos hb1 hx ha hb hc hy hk6
  go_enter Try.func24, Try.ntmps24
  go_wp2_with (first | (refine wpList_alloc_z rfl 27 rfl #[.int .i64 0, .int .i64 0, .int .i64 0, .int .i64 0, .int .i64 0, .int .i64 0, .int .i64 0, .bool false, .slice none 0 0, .int .i64 0, .int .i64 0, .slice none 0 0, .string ⟨#[]⟩] hz ?_) | fail)
  refine (HNM.out).mono ?_
  rintro e w2 ⟨rfl, hv2⟩
  dsimp only at hv2 ⊢
  have hs2 : w.heap.size + 1 ≤ w2.heap.size := by have := hv2.2.size; simpa using this
  have hb3 := below_more (Below.refl _ w2) (.cells #[.int .i64 K, .int .i64 0, .int .i64 0, .int .i64 0, .int .i64 0, .int .i64 0, .int .i64 0, .bool false, .slice none 0 0, .int .i64 0, .int .i64 0, .slice none 0 0, .string ⟨#[]⟩] 27)
  have hr3 : Rw (w2.alloc (.cells #[.int .i64 K, .int .i64 0, .int .i64 0, .int .i64 0, .int .i64 0, .int .i64 0, .int .i64 0, .bool false, .slice none 0 0, .int .i64 0, .int .i64 0, .slice none 0 0, .string ⟨#[]⟩] 27)) 0 w2.heap.size 27 [.int .i64 K, .int .i64 0, .int .i64 0, .int .i64 0, .int .i64 0, .int .i64 0, .int .i64 0, .bool false, .slice none 0 0, .int .i64 0, .int .i64 0, .slice none 0 0, .string ⟨#[]⟩] := Rw.alloc w2 _ _ (Nat.zero_le _)
  have hrr3 : Rw (w2.alloc (.cells #[.int .i64 K, .int .i64 0, .int .i64 0, .int .i64 0, .int .i64 0, .int .i64 0, .int .i64 0, .bool false, .slice none 0 0, .int .i64 0, .int .i64 0, .slice none 0 0, .string ⟨#[]⟩] 27)) 0 w.heap.size 27 [.int .i64 0, .int .i64 0, .int .i64 0, .int .i64 0, .int .i64 0, .int .i64 0, .int .i64 0, .bool false, .slice none 0 0, .int .i64 0, .int .i64 0, .slice none 0 0, .string ⟨#[]⟩] := Rw.below (rw_kept HRR.out hv2.2 (by have := HG.out; omega)) hb3
  have hk3 : Kept (fun k => k = g) w (w2.alloc (.cells #[.int .i64 K, .int .i64 0, .int .i64 0, .int .i64 0, .int .i64 0, .int .i64 0, .int .i64 0, .bool false, .slice none 0 0, .int .i64 0, .int .i64 0, .slice none 0 0, .string ⟨#[]⟩] 27)) := kept_then (G := fun _ => False) (kept_then (kept_below HB1.out) hv2.2 (fun x hx => .inl hx)) (kept_below hb3) (fun _ h => h.elim)
  have HNE : Hid (w2.heap.size ≠ g) := Lib.hid (by have := HG.out; omega)
  have HBM : Hid (B ≤ w2.heap.size) := Lib.hid (by have := HG.out; have := HB.out; omega)
  have HNR : Hid (w.heap.size ≠ g) := Lib.hid (by have := HG.out; omega)
  have HBR : Hid (B ≤ w.heap.size) := Lib.hid (by have := HG.out; have := HB.out; omega)
  have HRM : Hid (w.heap.size ≠ w2.heap.size) := Lib.hid (by omega)
  have HWM : Hid (w.heap.size ≤ w2.heap.size) := Lib.hid (by omega)
  have HPT := Lib.hid (rptrs_new (rdAt_below hv2.1 hb3) hr3 HBM.out HNE.out (js := [1, 2, 3]) (n := 3) rfl (fun j hj => by simp at hj; rcases hj with rfl | rfl | rfl <;> simp) (by decide) (ps := #[.pointer (some ⟨w2.heap.size, 1, none⟩), .pointer (some ⟨w2.heap.size, 2, none⟩), .pointer (some ⟨w2.heap.size, 3, none⟩)]) rfl (p := w2.heap.size + 1) (by simp) HI3.out)
  have HK3 := Lib.hid hk3
  have HRR3 := Lib.hid hrr3
  clear hv2 hs2 hb3 hr3 hrr3 hk3 HNM
  go_wp2_with (first | (refine wpList_alloc_z rfl 27 rfl #[.int .i64 0, .int .i64 0, .int .i64 0, .int .i64 0, .int .i64 0, .int .i64 0, .int .i64 0, .bool false, .slice none 0 0, .int .i64 0, .int .i64 0, .slice none 0 0, .string ⟨#[]⟩] hz ?_) | fail)
  refine (HPT.out).mono ?_
  rintro e w5 ⟨rfl, hrd5, hrm5, hk5⟩
  dsimp only [setL, List.set] at hrm5 hrd5
  have hrr5 := rw_kept HRR3.out hk5 (fun e => e.elim HNR.out HRM.out)
  have hkk5 := kept_gm HK3.out hk5 HWM.out
  have x0 : w5.cell? ⟨w2.heap.size, 0, none⟩ = some (.int .i64 K) := Rw.cell hrm5 rfl
  have HRD := Lib.hid hrd5
  have HM := Lib.hid hrm5
  have HR := Lib.hid hrr5
  have HK := Lib.hid hkk5
  clear hrd5 hrm5 hk5 hrr5 hkk5 HPT HI3
  have hk6 := HK6.out
  obtain ⟨d, hd⟩ : ∃ d, d = numR 8 c.2 := ⟨_, rfl⟩
  obtain ⟨e, he⟩ : ∃ e, e = numR 8 d.2 := ⟨_, rfl⟩
  obtain ⟨f, hf⟩ : ∃ f, f = numR 8 e.2 := ⟨_, rfl⟩
  obtain ⟨nn, hnn⟩ : ∃ nn, nn = numR 1 f.2 := ⟨_, rfl⟩
  obtain ⟨u, hu⟩ : ∃ u, u = entsR nn.1.toNat nn.2 := ⟨_, rfl⟩
  have HQ := Lib.hid (HMS.out.trans (bodyR3 hk6 hd he hf hnn hu))
  have HUN : Hid (u = entsR (numR 1 f.2).1.toNat (numR 1 f.2).2) := Lib.hid (by rw [hu, hnn])
  have HUL : Hid (u.1.length ≤ 1000000) := Lib.hid (by rw [hu, entsR_len]; have h1 := numR_byte f.2; rw [← hnn] at h1; omega)
  have HPT := Lib.hid (rptrs_new HRD.out HM.out HBM.out HNE.out (js := [4, 5, 6]) (n := 3) rfl (fun j hj => by simp at hj; rcases hj with rfl | rfl | rfl <;> simp) (by decide) (ps := #[.pointer (some ⟨w2.heap.size, 4, none⟩), .pointer (some ⟨w2.heap.size, 5, none⟩), .pointer (some ⟨w2.heap.size, 6, none⟩)]) rfl (p := w5.heap.size) rfl (r := ([d.1, e.1, f.1], f.2)) (by rw [intsR_three, ← hd, ← he, ← hf]))
  have q1 : ((K : Int) == 1) = false := by rw [beq_eq_false_iff_ne]; omega
  have q2 : ((K : Int) == 2) = false := by rw [beq_eq_false_iff_ne]; omega
  have q3 : ((K : Int) == 3) = true := by rw [beq_iff_eq]; omega
  clear hk6 hd he hf hnn hu
  go_wp2_with fail
  refine (HPT.out).mono ?_
  rintro e w7 ⟨rfl, hrd, hrm, hk⟩
  dsimp only [setL, List.set] at hrm hrd
  have hrr := rw_kept HR.out hk (fun e => e.elim HNR.out HRM.out)
  have hkk := kept_gm HK.out hk HWM.out
  clear HRD HM HR HK HPT
  have HRD := Lib.hid hrd
  have HM := Lib.hid hrm
  have HR := Lib.hid hrr
  have HK := Lib.hid hkk
  clear hrd hrm hk hrr hkk
  have HEN := Lib.hid (rentries_any HRD.out)
  rw [← HUN.out] at HEN
  go_wp2_with fail
  refine (HEN.out).mono ?_
  rintro ee wy ⟨vv, rfl, ⟨ns, hm1, hm2, hm3, hm4⟩, hrd⟩
  obtain ⟨va, vc, rfl⟩ := own_len hm2.1
  obtain ⟨NL, hNL⟩ : ∃ NL, NL = ns.length := ⟨_, rfl⟩
  rw [← hNL] at hm2 hm3 ⊢
  have hrm := rw_kept HM.out hm4 HNE.out
  have hrr := rw_kept HR.out hm4 HNR.out
  have xx := Rw.cell hrm (j := 8) rfl
  have ff := Rw.free hrm 8
  have hrm2 := Rw.stored hrm 8 (.slice va NL vc)
  have hrr2 := Rw.other hrr HRM.out.symm 8 (.slice va NL vc)
  have hrd2 := rd_put hrd HBM.out HNE.out 8 (.slice va NL vc)
  have hkk2 : Kept (fun k => k = g) w (wy.setCell ⟨w2.heap.size, 8, none⟩ (.slice va NL vc)) := kept_put (kept_trans HK.out hm4) (.inr HWM.out) 8 _
  have hoe : OwnE (wy.setCell ⟨w2.heap.size, 8, none⟩ (.slice va NL vc)) 0 (.slice va NL vc) ns := ⟨own_store hm2.1 hrm (by decide) 8 _, fun r hr => ⟨own_store (hm2.2 r hr).1 hrm (by decide) 8 _, (hm2.2 r hr).2⟩⟩
  obtain ⟨wz, hwn⟩ : ∃ wn, wn = wy.setCell ⟨w2.heap.size, 8, none⟩ (.slice va NL vc) := ⟨_, rfl⟩
  rw [← hwn] at hrm2 hrr2 hrd2 hkk2 hoe
  dsimp only [List.set] at hrm2
  clear HRD HM HR HK HEN
  have HRD := Lib.hid hrd2
  have HM := Lib.hid hrm2
  have HR := Lib.hid hrr2
  have HK := Lib.hid hkk2
  have HWN := Lib.hid hwn
  have HOE := Lib.hid hoe
  have HM1 := Lib.hid hm1
  have HNL := Lib.hid hNL
  clear hm1 hm2 hm3 hm4 hNL hrd hrm hrr hrm2 hrr2 hrd2 hkk2 hwn hoe
  clear x0
  obtain ⟨hrdv, hend⟩ := md_end HRD.out HK.out HR.out HBR.out HNR.out (Nat.le_refl _) (xs := [.int .i64 K, .int .i64 a.1, .int .i64 b.1, .int .i64 c.1, .int .i64 d.1, .int .i64 e.1, .int .i64 f.1, .bool false, .slice va NL vc, .int .i64 0, .int .i64 0, .slice none 0 0, .string ⟨#[]⟩]) rfl
  have HES : Hid (∃ ns : List RecE, ns.map (·.e) = u.1 ∧ OwnE (wz.setCells w.heap.size 0 [.int .i64 K, .int .i64 a.1, .int .i64 b.1, .int .i64 c.1, .int .i64 d.1, .int .i64 e.1, .int .i64 f.1, .bool false, .slice va NL vc, .int .i64 0, .int .i64 0, .slice none 0 0, .string ⟨#[]⟩]) 0 (.slice va NL vc) ns) := Lib.hid ⟨ns, HM1.out, own_stores HOE.out.1 HR.out (by decide) 0 _, fun r hr => ⟨own_stores (HOE.out.2 r hr).1 HR.out (by decide) 0 _, (HOE.out.2 r hr).2⟩⟩
  have HEL := HUL
  have HRDV := Lib.hid hrdv
  have HEND := Lib.hid hend
  clear hrdv hend
  go_wp2_with (first | (rw [← HWN.out]; refine wpList_load_mid rfl 27 _ rfl w2.heap.size 0 rfl [.int .i64 K, .int .i64 a.1, .int .i64 b.1, .int .i64 c.1, .int .i64 d.1, .int .i64 e.1, .int .i64 f.1, .bool false, .slice va NL vc, .int .i64 0, .int .i64 0, .slice none 0 0, .string ⟨#[]⟩] _ (Rw.whole HM.out) Try.underlying27 rfl Try.sizeMsg ?_) | (refine wpList_store_mid rfl 27 _ _ rfl w.heap.size 0 #[.int .i64 K, .int .i64 a.1, .int .i64 b.1, .int .i64 c.1, .int .i64 d.1, .int .i64 e.1, .int .i64 f.1, .bool false, .slice va NL vc, .int .i64 0, .int .i64 0, .slice none 0 0, .string ⟨#[]⟩] rfl rfl (Rw.there HR.out 0 _ (by simp)) Try.sizeMsg (msg_one _ _ _ _ _ _ _ _ _ _ _ _ _ _ _ _ _) ?_) | fail)
  refine bodyPost_ret (v := .agg #[.int .i64 K, .int .i64 a.1, .int .i64 b.1, .int .i64 c.1, .int .i64 d.1, .int .i64 e.1, .int .i64 f.1, .bool false, .slice va NL vc, .int .i64 0, .int .i64 0, .slice none 0 0, .string ⟨#[]⟩]) ?_ rfl ⟨.slice va NL vc, .slice none 0 0, by rw [HQ.out]; rfl, by rw [HQ.out]; exact ⟨HES.out, HEL.out, World.ownsRow_nil _ _ _ _, by simp [zeroSn]⟩, by rw [HQ.out]; exact HRDV.out⟩
  exact results_cell_row rfl _ _ w.heap.size _ _ _ _ rfl HEND.out.2 Try.underlying27 rfl Try.sizeMsg

theorem intsR_one (s : List UInt8 × Bool) : intsR 1 s = ([(numR 8 s).1], (numR 8 s).2) := by simp only [intsR]

set_option maxRecDepth 100000 in
set_option maxHeartbeats 16000000 in
theorem rmessage_k4 {w : World} {B g : Nat} {s : List UInt8 × Bool} (h : RdAt w B g s) (hk6 : (numR 1 s).1 = 4) :
    Calls Try.prog 24 #[.pointer (some ⟨g, 0, none⟩)] w fun e w' => MsgRV w w' B g e (msgR s) := by
  have hz := zero_cells Try.infoMsg
  have hg := rdAt_lt h
  have hpos := numR_pos 1 s
  have hb1 := below_more (Below.refl _ w) (.cells #[.int .i64 0, .int .i64 0, .int .i64 0, .int .i64 0, .int .i64 0, .int .i64 0, .int .i64 0, .bool false, .slice none 0 0, .int .i64 0, .int .i64 0, .slice none 0 0, .string ⟨#[]⟩] 27)
  have HNM := Lib.hid (rnumber_any (rdAt_below h hb1) 1 (by decide))
  have HRR := Lib.hid (Rw.alloc w 27 #[.int .i64 0, .int .i64 0, .int .i64 0, .int .i64 0, .int .i64 0, .int .i64 0, .int .i64 0, .bool false, .slice none 0 0, .int .i64 0, .int .i64 0, .slice none 0 0, .string ⟨#[]⟩] (Nat.zero_le _))
  obtain ⟨x, hx⟩ : ∃ x, x = numR 1 s := ⟨_, rfl⟩
  rw [← hx] at HNM hpos hk6
  obtain ⟨a, ha⟩ : ∃ a, a = numR 8 x.2 := ⟨_, rfl⟩
  obtain ⟨b, hb⟩ : ∃ b, b = numR 8 a.2 := ⟨_, rfl⟩
  obtain ⟨c, hc⟩ : ∃ c, c = numR 8 b.2 := ⟨_, rfl⟩
  have HMS := Lib.hid (msgR_of (q0 := c.2) hx ha hb hc rfl)
  have HI3 : Hid (([a.1, b.1, c.1], c.2) = intsR 3 x.2) := Lib.hid (by rw [intsR_three, ← ha, ← hb, ← hc])
  obtain ⟨y, hy⟩ : ∃ y, y = msgR s := ⟨_, rfl⟩
  rw [← hy] at HMS ⊢
  obtain ⟨x1, x2⟩ := x
  dsimp only at HMS HI3 hpos hk6
  obtain ⟨K, rfl⟩ := Int.eq_ofNat_of_zero_le hpos
  have HG := Lib.hid hg
  have HB := Lib.hid h.1
  have HB1 := Lib.hid hb1
  have HK6 := Lib.hid hk6
  clear h hg hpos hb1 hx ha hb hc hy hk6
  go_enter Try.func24, Try.ntmps24
  go_wp2_with (first | (refine wpList_alloc_z rfl 27 rfl #[.int .i64 0, .int .i64 0, .int .i64 0, .int .i64 0, .int .i64 0, .int .i64 0, .int .i64 0, .bool false, .slice none 0 0, .int .i64 0, .int .i64 0, .slice none 0 0, .string ⟨#[]⟩] hz ?_) | fail)
  refine (HNM.out).mono ?_
  rintro e w2 ⟨rfl, hv2⟩
  dsimp only at hv2 ⊢
  have hs2 : w.heap.size + 1 ≤ w2.heap.size := by have := hv2.2.size; simpa using this
  have hb3 := below_more (Below.refl _ w2) (.cells #[.int .i64 K, .int .i64 0, .int .i64 0, .int .i64 0, .int .i64 0, .int .i64 0, .int .i64 0, .bool false, .slice none 0 0, .int .i64 0, .int .i64 0, .slice none 0 0, .string ⟨#[]⟩] 27)
  have hr3 : Rw (w2.alloc (.cells #[.int .i64 K, .int .i64 0, .int .i64 0, .int .i64 0, .int .i64 0, .int .i64 0, .int .i64 0, .bool false, .slice none 0 0, .int .i64 0, .int .i64 0, .slice none 0 0, .string ⟨#[]⟩] 27)) 0 w2.heap.size 27 [.int .i64 K, .int .i64 0, .int .i64 0, .int .i64 0, .int .i64 0, .int .i64 0, .int .i64 0, .bool false, .slice none 0 0, .int .i64 0, .int .i64 0, .slice none 0 0, .string ⟨#[]⟩] := Rw.alloc w2 _ _ (Nat.zero_le _)
  have hrr3 : Rw (w2.alloc (.cells #[.int .i64 K, .int .i64 0, .int .i64 0, .int .i64 0, .int .i64 0, .int .i64 0, .int .i64 0, .bool false, .slice none 0 0, .int .i64 0, .int .i64 0, .slice none 0 0, .string ⟨#[]⟩] 27)) 0 w.heap.size 27 [.int .i64 0, .int .i64 0, .int .i64 0, .int .i64 0, .int .i64 0, .int .i64 0, .int .i64 0, .bool false, .slice none 0 0, .int .i64 0, .int .i64 0, .slice none 0 0, .string ⟨#[]⟩] := Rw.below (rw_kept HRR.out hv2.2 (by have := HG.out; omega)) hb3
  have hk3 : Kept (fun k => k = g) w (w2.alloc (.cells #[.int .i64 K, .int .i64 0, .int .i64 0, .int .i64 0, .int .i64 0, .int .i64 0, .int .i64 0, .bool false, .slice none 0 0, .int .i64 0, .int .i64 0, .slice none 0 0, .string ⟨#[]⟩] 27)) := kept_then (G := fun _ => False) (kept_then (kept_below HB1.out) hv2.2 (fun x hx => .inl hx)) (kept_below hb3) (fun _ h => h.elim)
  have HNE : Hid (w2.heap.size ≠ g) := Lib.hid (by have := HG.out; omega)
  have HBM : Hid (B ≤ w2.heap.size) := Lib.hid (by have := HG.out; have := HB.out; omega)
  have HNR : Hid (w.heap.size ≠ g) := Lib.hid (by have := HG.out; omega)
  have HBR : Hid (B ≤ w.heap.size) := Lib.hid (by have := HG.out; have := HB.out; omega)
  have HRM : Hid (w.heap.size ≠ w2.heap.size) := Lib.hid (by omega)
  have HWM : Hid (w.heap.size ≤ w2.heap.size) := Lib.hid (by omega)
  have HPT := Lib.hid (rptrs_new (rdAt_below hv2.1 hb3) hr3 HBM.out HNE.out (js := [1, 2, 3]) (n := 3) rfl (fun j hj => by simp at hj; rcases hj with rfl | rfl | rfl <;> simp) (by decide) (ps := #[.pointer (some ⟨w2.heap.size, 1, none⟩), .pointer (some ⟨w2.heap.size, 2, none⟩), .pointer (some ⟨w2.heap.size, 3, none⟩)]) rfl (p := w2.heap.size + 1) (by simp) HI3.out)
  have HK3 := Lib.hid hk3
  have HRR3 := Lib.hid hrr3
  clear hv2 hs2 hb3 hr3 hrr3 hk3 HNM
  go_wp2_with (first | (refine wpList_alloc_z rfl 27 rfl #[.int .i64 0, .int .i64 0, .int .i64 0, .int .i64 0, .int .i64 0, .int .i64 0, .int .i64 0, .bool false, .slice none 0 0, .int .i64 0, .int .i64 0, .slice none 0 0, .string ⟨#[]⟩] hz ?_) | fail)
  refine (HPT.out).mono ?_
  rintro e w5 ⟨rfl, hrd5, hrm5, hk5⟩
  dsimp only [setL, List.set] at hrm5 hrd5
  have hrr5 := rw_kept HRR3.out hk5 (fun e => e.elim HNR.out HRM.out)
  have hkk5 := kept_gm HK3.out hk5 HWM.out
  have x0 : w5.cell? ⟨w2.heap.size, 0, none⟩ = some (.int .i64 K) := Rw.cell hrm5 rfl
  have HRD := Lib.hid hrd5
  have HM := Lib.hid hrm5
  have HR := Lib.hid hrr5
  have HK := Lib.hid hkk5
  clear hrd5 hrm5 hk5 hrr5 hkk5 HPT HI3
  have hk6 := HK6.out
  obtain ⟨d, hd⟩ : ∃ d, d = yesR c.2 := ⟨_, rfl⟩
  obtain ⟨e, he⟩ : ∃ e, e = numR 8 d.2 := ⟨_, rfl⟩
  have HQ := Lib.hid (HMS.out.trans (bodyR4 hk6 hd he))
  have HEE := Lib.hid he
  have HYE := Lib.hid (ryes_any HRD.out)
  rw [← hd] at HYE
  have q1 : ((K : Int) == 1) = false := by rw [beq_eq_false_iff_ne]; omega
  have q2 : ((K : Int) == 2) = false := by rw [beq_eq_false_iff_ne]; omega
  have q3 : ((K : Int) == 3) = false := by rw [beq_eq_false_iff_ne]; omega
  have q4 : ((K : Int) == 4) = true := by rw [beq_iff_eq]; omega
  clear hk6 hd he
  go_wp2_with fail
  refine (HYE.out).mono ?_
  rintro e wy ⟨rfl, hv⟩
  have hrm := rw_kept HM.out hv.2 HNE.out
  have hrr := rw_kept HR.out hv.2 HNR.out
  have xx := Rw.cell hrm (j := 7) rfl
  have ff := Rw.free hrm 7
  have hrm2 := Rw.stored hrm 7 (.bool d.1)
  have hrr2 := Rw.other hrr HRM.out.symm 7 (.bool d.1)
  have hrd2 := rd_put hv.1 HBM.out HNE.out 7 (.bool d.1)
  have hkk2 : Kept (fun k => k = g) w (wy.setCell ⟨w2.heap.size, 7, none⟩ (.bool d.1)) := kept_put (kept_trans HK.out hv.2) (.inr HWM.out) 7 _
  obtain ⟨w7, hwn⟩ : ∃ wn, wn = wy.setCell ⟨w2.heap.size, 7, none⟩ (.bool d.1) := ⟨_, rfl⟩
  rw [← hwn] at hrm2 hrr2 hrd2 hkk2
  dsimp only [List.set] at hrm2
  clear HRD HM HR HK HYE
  have HRD := Lib.hid hrd2
  have HM := Lib.hid hrm2
  have HR := Lib.hid hrr2
  have HK := Lib.hid hkk2
  have HWN := Lib.hid hwn
  clear hv hrm hrr hrm2 hrr2 hrd2 hkk2 hwn
  have he := HEE.out
  have HPT := Lib.hid (rptrs_new HRD.out HM.out HBM.out HNE.out (js := [4]) (n := 1) rfl (fun j hj => by simp at hj; subst hj <;> simp) (by decide) (ps := #[.pointer (some ⟨w2.heap.size, 4, none⟩)]) rfl (p := wy.heap.size) (by rw [HWN.out]; simp) (r := ([e.1], e.2)) (by rw [intsR_one, ← he]))
  clear he
  go_wp2_with fail
  rw [← HWN.out]
  refine (HPT.out).mono ?_
  rintro e w9 ⟨rfl, hrd, hrm, hk⟩
  dsimp only [setL, List.set] at hrm hrd
  have hrr := rw_kept HR.out hk (fun e => e.elim HNR.out HRM.out)
  have hkk := kept_gm HK.out hk HWM.out
  clear HRD HM HR HK HPT
  have HRD := Lib.hid hrd
  have HM := Lib.hid hrm
  have HR := Lib.hid hrr
  have HK := Lib.hid hkk
  clear hrd hrm hk hrr hkk
  clear x0
  obtain ⟨hrdv, hend⟩ := md_end HRD.out HK.out HR.out HBR.out HNR.out (Nat.le_refl _) (xs := [.int .i64 K, .int .i64 a.1, .int .i64 b.1, .int .i64 c.1, .int .i64 e.1, .int .i64 0, .int .i64 0, .bool d.1, .slice none 0 0, .int .i64 0, .int .i64 0, .slice none 0 0, .string ⟨#[]⟩]) rfl
  have HRDV := Lib.hid hrdv
  have HEND := Lib.hid hend
  clear hrdv hend
  go_wp2_with (first | (refine wpList_load_mid rfl 27 _ rfl w2.heap.size 0 rfl [.int .i64 K, .int .i64 a.1, .int .i64 b.1, .int .i64 c.1, .int .i64 e.1, .int .i64 0, .int .i64 0, .bool d.1, .slice none 0 0, .int .i64 0, .int .i64 0, .slice none 0 0, .string ⟨#[]⟩] _ (Rw.whole HM.out) Try.underlying27 rfl Try.sizeMsg ?_) | (refine wpList_store_mid rfl 27 _ _ rfl w.heap.size 0 #[.int .i64 K, .int .i64 a.1, .int .i64 b.1, .int .i64 c.1, .int .i64 e.1, .int .i64 0, .int .i64 0, .bool d.1, .slice none 0 0, .int .i64 0, .int .i64 0, .slice none 0 0, .string ⟨#[]⟩] rfl rfl (Rw.there HR.out 0 _ (by simp)) Try.sizeMsg (msg_one _ _ _ _ _ _ _ _ _ _ _ _ _ _ _ _ _) ?_) | fail)
  refine bodyPost_ret (v := .agg #[.int .i64 K, .int .i64 a.1, .int .i64 b.1, .int .i64 c.1, .int .i64 e.1, .int .i64 0, .int .i64 0, .bool d.1, .slice none 0 0, .int .i64 0, .int .i64 0, .slice none 0 0, .string ⟨#[]⟩]) ?_ rfl ⟨.slice none 0 0, .slice none 0 0, by rw [HQ.out]; rfl, by rw [HQ.out]; exact ⟨ownE_nil _, by simp, World.ownsRow_nil _ _ _ _, by simp [zeroSn]⟩, by rw [HQ.out]; exact HRDV.out⟩
  exact results_cell_row rfl _ _ w.heap.size _ _ _ _ rfl HEND.out.2 Try.underlying27 rfl Try.sizeMsg

set_option maxRecDepth 100000 in
set_option maxHeartbeats 16000000 in
theorem rmessage_k5 {w : World} {B g : Nat} {s : List UInt8 × Bool} (h : RdAt w B g s) (hk6 : (numR 1 s).1 = 5) :
    Calls Try.prog 24 #[.pointer (some ⟨g, 0, none⟩)] w fun e w' => MsgRV w w' B g e (msgR s) := by
  have hz := zero_cells Try.infoMsg
  have hg := rdAt_lt h
  have hpos := numR_pos 1 s
  have hb1 := below_more (Below.refl _ w) (.cells #[.int .i64 0, .int .i64 0, .int .i64 0, .int .i64 0, .int .i64 0, .int .i64 0, .int .i64 0, .bool false, .slice none 0 0, .int .i64 0, .int .i64 0, .slice none 0 0, .string ⟨#[]⟩] 27)
  have HNM := Lib.hid (rnumber_any (rdAt_below h hb1) 1 (by decide))
  have HRR := Lib.hid (Rw.alloc w 27 #[.int .i64 0, .int .i64 0, .int .i64 0, .int .i64 0, .int .i64 0, .int .i64 0, .int .i64 0, .bool false, .slice none 0 0, .int .i64 0, .int .i64 0, .slice none 0 0, .string ⟨#[]⟩] (Nat.zero_le _))
  obtain ⟨x, hx⟩ : ∃ x, x = numR 1 s := ⟨_, rfl⟩
  rw [← hx] at HNM hpos hk6
  obtain ⟨a, ha⟩ : ∃ a, a = numR 8 x.2 := ⟨_, rfl⟩
  obtain ⟨b, hb⟩ : ∃ b, b = numR 8 a.2 := ⟨_, rfl⟩
  obtain ⟨c, hc⟩ : ∃ c, c = numR 8 b.2 := ⟨_, rfl⟩
  have HMS := Lib.hid (msgR_of (q0 := c.2) hx ha hb hc rfl)
  have HI3 : Hid (([a.1, b.1, c.1], c.2) = intsR 3 x.2) := Lib.hid (by rw [intsR_three, ← ha, ← hb, ← hc])
  obtain ⟨y, hy⟩ : ∃ y, y = msgR s := ⟨_, rfl⟩
  rw [← hy] at HMS ⊢
  obtain ⟨x1, x2⟩ := x
  dsimp only at HMS HI3 hpos hk6
  obtain ⟨K, rfl⟩ := Int.eq_ofNat_of_zero_le hpos
  have HG := Lib.hid hg
  have HB := Lib.hid h.1
  have HB1 := Lib.hid hb1
  have HK6 := Lib.hid hk6
  clear h hg hpos hb1 hx ha hb hc hy hk6
  go_enter Try.func24, Try.ntmps24
  go_wp2_with (first | (refine wpList_alloc_z rfl 27 rfl #[.int .i64 0, .int .i64 0, .int .i64 0, .int .i64 0, .int .i64 0, .int .i64 0, .int .i64 0, .bool false, .slice none 0 0, .int .i64 0, .int .i64 0, .slice none 0 0, .string ⟨#[]⟩] hz ?_) | fail)
  refine (HNM.out).mono ?_
  rintro e w2 ⟨rfl, hv2⟩
  dsimp only at hv2 ⊢
  have hs2 : w.heap.size + 1 ≤ w2.heap.size := by have := hv2.2.size; simpa using this
  have hb3 := below_more (Below.refl _ w2) (.cells #[.int .i64 K, .int .i64 0, .int .i64 0, .int .i64 0, .int .i64 0, .int .i64 0, .int .i64 0, .bool false, .slice none 0 0, .int .i64 0, .int .i64 0, .slice none 0 0, .string ⟨#[]⟩] 27)
  have hr3 : Rw (w2.alloc (.cells #[.int .i64 K, .int .i64 0, .int .i64 0, .int .i64 0, .int .i64 0, .int .i64 0, .int .i64 0, .bool false, .slice none 0 0, .int .i64 0, .int .i64 0, .slice none 0 0, .string ⟨#[]⟩] 27)) 0 w2.heap.size 27 [.int .i64 K, .int .i64 0, .int .i64 0, .int .i64 0, .int .i64 0, .int .i64 0, .int .i64 0, .bool false, .slice none 0 0, .int .i64 0, .int .i64 0, .slice none 0 0, .string ⟨#[]⟩] := Rw.alloc w2 _ _ (Nat.zero_le _)
  have hrr3 : Rw (w2.alloc (.cells #[.int .i64 K, .int .i64 0, .int .i64 0, .int .i64 0, .int .i64 0, .int .i64 0, .int .i64 0, .bool false, .slice none 0 0, .int .i64 0, .int .i64 0, .slice none 0 0, .string ⟨#[]⟩] 27)) 0 w.heap.size 27 [.int .i64 0, .int .i64 0, .int .i64 0, .int .i64 0, .int .i64 0, .int .i64 0, .int .i64 0, .bool false, .slice none 0 0, .int .i64 0, .int .i64 0, .slice none 0 0, .string ⟨#[]⟩] := Rw.below (rw_kept HRR.out hv2.2 (by have := HG.out; omega)) hb3
  have hk3 : Kept (fun k => k = g) w (w2.alloc (.cells #[.int .i64 K, .int .i64 0, .int .i64 0, .int .i64 0, .int .i64 0, .int .i64 0, .int .i64 0, .bool false, .slice none 0 0, .int .i64 0, .int .i64 0, .slice none 0 0, .string ⟨#[]⟩] 27)) := kept_then (G := fun _ => False) (kept_then (kept_below HB1.out) hv2.2 (fun x hx => .inl hx)) (kept_below hb3) (fun _ h => h.elim)
  have HNE : Hid (w2.heap.size ≠ g) := Lib.hid (by have := HG.out; omega)
  have HBM : Hid (B ≤ w2.heap.size) := Lib.hid (by have := HG.out; have := HB.out; omega)
  have HNR : Hid (w.heap.size ≠ g) := Lib.hid (by have := HG.out; omega)
  have HBR : Hid (B ≤ w.heap.size) := Lib.hid (by have := HG.out; have := HB.out; omega)
  have HRM : Hid (w.heap.size ≠ w2.heap.size) := Lib.hid (by omega)
  have HWM : Hid (w.heap.size ≤ w2.heap.size) := Lib.hid (by omega)
  have HPT := Lib.hid (rptrs_new (rdAt_below hv2.1 hb3) hr3 HBM.out HNE.out (js := [1, 2, 3]) (n := 3) rfl (fun j hj => by simp at hj; rcases hj with rfl | rfl | rfl <;> simp) (by decide) (ps := #[.pointer (some ⟨w2.heap.size, 1, none⟩), .pointer (some ⟨w2.heap.size, 2, none⟩), .pointer (some ⟨w2.heap.size, 3, none⟩)]) rfl (p := w2.heap.size + 1) (by simp) HI3.out)
  have HK3 := Lib.hid hk3
  have HRR3 := Lib.hid hrr3
  clear hv2 hs2 hb3 hr3 hrr3 hk3 HNM
  go_wp2_with (first | (refine wpList_alloc_z rfl 27 rfl #[.int .i64 0, .int .i64 0, .int .i64 0, .int .i64 0, .int .i64 0, .int .i64 0, .int .i64 0, .bool false, .slice none 0 0, .int .i64 0, .int .i64 0, .slice none 0 0, .string ⟨#[]⟩] hz ?_) | fail)
  refine (HPT.out).mono ?_
  rintro e w5 ⟨rfl, hrd5, hrm5, hk5⟩
  dsimp only [setL, List.set] at hrm5 hrd5
  have hrr5 := rw_kept HRR3.out hk5 (fun e => e.elim HNR.out HRM.out)
  have hkk5 := kept_gm HK3.out hk5 HWM.out
  have x0 : w5.cell? ⟨w2.heap.size, 0, none⟩ = some (.int .i64 K) := Rw.cell hrm5 rfl
  have HRD := Lib.hid hrd5
  have HM := Lib.hid hrm5
  have HR := Lib.hid hrr5
  have HK := Lib.hid hkk5
  clear hrd5 hrm5 hk5 hrr5 hkk5 HPT HI3
  have hk6 := HK6.out
  obtain ⟨d, hd⟩ : ∃ d, d = snpR c.2 := ⟨_, rfl⟩
  have HQ := Lib.hid (HMS.out.trans (bodyR5 hk6 hd))
  have HSN := Lib.hid (rsnap_any HRD.out)
  rw [← hd] at HSN
  have HDL : Hid (d.1.ms.length ≤ 1000000) := Lib.hid (by rw [hd, snpR_full]; exact lstR_len _)
  have q1 : ((K : Int) == 1) = false := by rw [beq_eq_false_iff_ne]; omega
  have q2 : ((K : Int) == 2) = false := by rw [beq_eq_false_iff_ne]; omega
  have q3 : ((K : Int) == 3) = false := by rw [beq_eq_false_iff_ne]; omega
  have q4 : ((K : Int) == 4) = false := by rw [beq_eq_false_iff_ne]; omega
  have q5 : ((K : Int) == 5) = true := by rw [beq_iff_eq]; omega
  clear hk6 hd
  go_wp2_with fail
  refine (HSN.out).mono ?_
  rintro e wy ⟨u, rfl, hu, hv⟩
  obtain ⟨ua, uc, rfl⟩ := own_len hu
  obtain ⟨ML, hML⟩ : ∃ ML, ML = d.1.ms.length := ⟨_, rfl⟩
  rw [← hML] at hu ⊢
  have hrm := rw_kept HM.out hv.2 HNE.out
  have hrr := rw_kept HR.out hv.2 HNR.out
  have hrm2 : Rw (wy.setCells w2.heap.size 9 [.int .i64 d.1.ix, .int .i64 d.1.tm, .slice ua ML uc, .string d.1.d]) 0 w2.heap.size 27 [.int .i64 K, .int .i64 a.1, .int .i64 b.1, .int .i64 c.1, .int .i64 0, .int .i64 0, .int .i64 0, .bool false, .slice none 0 0, .int .i64 d.1.ix, .int .i64 d.1.tm, .slice ua ML uc, .string d.1.d] := setCells_rw [.int .i64 d.1.ix, .int .i64 d.1.tm, .slice ua ML uc, .string d.1.d] wy [.int .i64 K, .int .i64 a.1, .int .i64 b.1, .int .i64 c.1, .int .i64 0, .int .i64 0, .int .i64 0, .bool false, .slice none 0 0] [.int .i64 0, .int .i64 0, .slice none 0 0, .string ⟨#[]⟩] hrm rfl
  have hkm : Kept (fun k => k = w2.heap.size) wy (wy.setCells w2.heap.size 9 [.int .i64 d.1.ix, .int .i64 d.1.tm, .slice ua ML uc, .string d.1.d]) := kept_puts (F := fun k => k = w2.heap.size) (.inl rfl) _ 9 (kept_refl _ _)
  have hrr2 := rw_kept hrr hkm HRM.out
  have hrd2 := rdAt_kept hv.1 HBM.out HNE.out hkm
  have hkk2 := kept_gm (gm := w2.heap.size) (kept_trans HK.out hv.2) (kept_mono hkm (fun x hx => .inl (.inr hx))) HWM.out
  have hou := own_stores hu hrm (by decide) 9 [.int .i64 d.1.ix, .int .i64 d.1.tm, .slice ua ML uc, .string d.1.d]
  have HMY := Lib.hid hrm
  obtain ⟨wz, hwn⟩ : ∃ wn, wn = wy.setCells w2.heap.size 9 [.int .i64 d.1.ix, .int .i64 d.1.tm, .slice ua ML uc, .string d.1.d] := ⟨_, rfl⟩
  rw [← hwn] at hrm2 hrr2 hrd2 hkk2 hou
  clear HRD HM HR HK HSN
  have HRD := Lib.hid hrd2
  have HM := Lib.hid hrm2
  have HR := Lib.hid hrr2
  have HK := Lib.hid hkk2
  have HWN := Lib.hid hwn
  have HOU := Lib.hid hou
  have HMLN := Lib.hid hML
  clear hML hu hv hrm hrr hrm2 hkm hrr2 hrd2 hkk2 hwn hou
  clear x0
  obtain ⟨hrdv, hend⟩ := md_end HRD.out HK.out HR.out HBR.out HNR.out (Nat.le_refl _) (xs := [.int .i64 K, .int .i64 a.1, .int .i64 b.1, .int .i64 c.1, .int .i64 0, .int .i64 0, .int .i64 0, .bool false, .slice none 0 0, .int .i64 d.1.ix, .int .i64 d.1.tm, .slice ua ML uc, .string d.1.d]) rfl
  have hms := own_stores HOU.out HR.out (by decide) 0 [.int .i64 K, .int .i64 a.1, .int .i64 b.1, .int .i64 c.1, .int .i64 0, .int .i64 0, .int .i64 0, .bool false, .slice none 0 0, .int .i64 d.1.ix, .int .i64 d.1.tm, .slice ua ML uc, .string d.1.d]
  have HMS2 : Hid (World.ownsRow (wz.setCells w.heap.size 0 [.int .i64 K, .int .i64 a.1, .int .i64 b.1, .int .i64 c.1, .int .i64 0, .int .i64 0, .int .i64 0, .bool false, .slice none 0 0, .int .i64 d.1.ix, .int .i64 d.1.tm, .slice ua ML uc, .string d.1.d]) 0 3 1 (.slice ua ML uc) d.1.ms.length (d.1.ms.map kiV)) := Lib.hid (by rw [← HMLN.out]; exact own_mono hms (Nat.zero_le _))
  clear hms
  have HRDV := Lib.hid hrdv
  have HEND := Lib.hid hend
  clear hrdv hend
  go_wp2_with (first | (refine wpList_store_mid rfl 25 _ _ rfl w2.heap.size 9 #[.int .i64 d.1.ix, .int .i64 d.1.tm, .slice ua ML uc, .string d.1.d] rfl rfl (Rw.there HMY.out 9 _ (by simp)) Try.sizeSnap (snp_one _ _ _ _ _ _) ?_) | (rw [← HWN.out]; refine wpList_load_mid rfl 27 _ rfl w2.heap.size 0 rfl [.int .i64 K, .int .i64 a.1, .int .i64 b.1, .int .i64 c.1, .int .i64 0, .int .i64 0, .int .i64 0, .bool false, .slice none 0 0, .int .i64 d.1.ix, .int .i64 d.1.tm, .slice ua ML uc, .string d.1.d] _ (Rw.whole HM.out) Try.underlying27 rfl Try.sizeMsg ?_) | (refine wpList_store_mid rfl 27 _ _ rfl w.heap.size 0 #[.int .i64 K, .int .i64 a.1, .int .i64 b.1, .int .i64 c.1, .int .i64 0, .int .i64 0, .int .i64 0, .bool false, .slice none 0 0, .int .i64 d.1.ix, .int .i64 d.1.tm, .slice ua ML uc, .string d.1.d] rfl rfl (Rw.there HR.out 0 _ (by simp)) Try.sizeMsg (msg_one _ _ _ _ _ _ _ _ _ _ _ _ _ _ _ _ _) ?_) | fail)
  refine bodyPost_ret (v := .agg #[.int .i64 K, .int .i64 a.1, .int .i64 b.1, .int .i64 c.1, .int .i64 0, .int .i64 0, .int .i64 0, .bool false, .slice none 0 0, .int .i64 d.1.ix, .int .i64 d.1.tm, .slice ua ML uc, .string d.1.d]) ?_ rfl ⟨.slice none 0 0, .slice ua ML uc, by rw [HQ.out]; rfl, by rw [HQ.out]; exact ⟨ownE_nil _, by simp, HMS2.out, HDL.out⟩, by rw [HQ.out]; exact HRDV.out⟩
  exact results_cell_row rfl _ _ w.heap.size _ _ _ _ rfl HEND.out.2 Try.underlying27 rfl Try.sizeMsg

theorem rmessage_any {w : World} {B g : Nat} {s : List UInt8 × Bool} (h : RdAt w B g s) :
    Calls Try.prog 24 #[.pointer (some ⟨g, 0, none⟩)] w fun e w' => MsgRV w w' B g e (msgR s) := by
  by_cases h1 : (numR 1 s).1 = 1
  · exact rmessage_k1 h h1
  by_cases h2 : (numR 1 s).1 = 2
  · exact rmessage_k2 h h2
  by_cases h3 : (numR 1 s).1 = 3
  · exact rmessage_k3 h h3
  by_cases h4 : (numR 1 s).1 = 4
  · exact rmessage_k4 h h4
  by_cases h5 : (numR 1 s).1 = 5
  · exact rmessage_k5 h h5
  exact rmessage_k6 h ⟨h1, h2, h3, h4, h5⟩

def decC (l : List UInt8) : Int := if goodR l = true then 0 else 7

def DecV (w w' : World) (e : Ending) (l : List UInt8) : Prop := ∃ ev mv, e = .returned (.tuple #[msgV (decR l) ev mv, .int .i64 (decC l)]) ∧ MsgOwn w' ev mv (decR l) ∧ Below w.heap.size w w'

theorem decV_no {w w' : World} {l : List UInt8} (h : goodR l = false) (hb : Below w.heap.size w w') : DecV w w' (.returned (.tuple #[.agg #[.int .i64 0, .int .i64 0, .int .i64 0, .int .i64 0, .int .i64 0, .int .i64 0, .int .i64 0, .bool false, .slice none 0 0, .int .i64 0, .int .i64 0, .slice none 0 0, .string ⟨#[]⟩], .int .i64 7])) l := by
  refine ⟨.slice none 0 0, .slice none 0 0, ?_, ?_, hb⟩
  · unfold decR decC; rw [if_neg (by rw [h]; decide), if_neg (by rw [h]; decide)]; rfl
  · unfold decR; rw [if_neg (by rw [h]; decide)]; exact ⟨ownE_nil _, by simp [zeroMs], World.ownsRow_nil _ _ _ _, by simp [zeroMs, zeroSn]⟩

theorem msgOwn_stores {w : World} {ev mv : Value} {m : MsgM} {gR : Nat} {cs : List Value} (h : MsgOwn w ev mv m) (hr : Rw w 0 gR 27 cs) (xs : List Value) : MsgOwn (w.setCells gR 0 xs) ev mv m := by
  obtain ⟨⟨ns, h1, h2⟩, h3, h4, h5⟩ := h
  exact ⟨⟨ns, h1, own_stores h2.1 hr (by decide) 0 _, fun r hr2 => ⟨own_stores (h2.2 r hr2).1 hr (by decide) 0 _, (h2.2 r hr2).2⟩⟩, h3, own_stores h4 hr (by decide) 0 _, h5⟩

theorem msgOwn_below {w w' : World} {ev mv : Value} {m : MsgM} (h : MsgOwn w ev mv m) (hb : Below w.heap.size w w') : MsgOwn w' ev mv m := by
  obtain ⟨⟨ns, h1, h2⟩, h3, h4, h5⟩ := h
  exact ⟨⟨ns, h1, ownE_below h2 hb⟩, h3, own_below h4 hb, h5⟩

theorem below_stores {w W : World} {g : Nat} (hb : Below w.heap.size w W) (hg : w.heap.size ≤ g) (xs : List Value) : Below w.heap.size w (W.setCells g 0 xs) := below_setCells hg xs 0 W hb

theorem goodR_not {l : List UInt8} (h : (msgR (l, false)).2.2 = true ∨ 0 < (msgR (l, false)).2.1.length ∨ okMB (msgR (l, false)).1 = false) : goodR l = false := by
  unfold goodR
  rcases h with h | h | h
  · rw [h]; rfl
  · rw [decide_eq_false (by omega)]; simp
  · rw [h]; simp

theorem goodR_yes {l : List UInt8} (h1 : (msgR (l, false)).2.2 = false) (h2 : (msgR (l, false)).2.1.length = 0) (h3 : okMB (msgR (l, false)).1 = true) : goodR l = true ∧ decR l = (msgR (l, false)).1 ∧ decC l = 0 := by
  have hg : goodR l = true := by unfold goodR; rw [h1, decide_eq_true h2, h3]; rfl
  exact ⟨hg, by unfold decR; rw [if_pos hg], by unfold decC; rw [if_pos hg]⟩

set_option maxRecDepth 100000 in
set_option maxHeartbeats 8000000 in
theorem decode_any {w : World} {v : Value} {l : List UInt8} (h : ByteSl w w.heap.size v l) :
    Calls Try.prog 13 #[v] w fun e w' => DecV w w' e l := by
  have hz := zero_cells Try.infoMsg
  obtain ⟨ba, bc, rfl, _⟩ := byteSl_len h
  obtain ⟨LB, hLB⟩ : ∃ LB, LB = l.length := ⟨_, rfl⟩
  rw [← hLB] at h ⊢
  have hb1 := below_more (Below.refl _ w) (.cells #[.int .i64 0, .int .i64 0, .int .i64 0, .int .i64 0, .int .i64 0, .int .i64 0, .int .i64 0, .bool false, .slice none 0 0, .int .i64 0, .int .i64 0, .slice none 0 0, .string ⟨#[]⟩] 27)
  have hb2 := below_more hb1 (.cells #[.slice ba LB bc, .bool false] 59)
  have hrR : Rw ((w.alloc (.cells #[.int .i64 0, .int .i64 0, .int .i64 0, .int .i64 0, .int .i64 0, .int .i64 0, .int .i64 0, .bool false, .slice none 0 0, .int .i64 0, .int .i64 0, .slice none 0 0, .string ⟨#[]⟩] 27)).alloc (.cells #[.slice ba LB bc, .bool false] 59)) 0 w.heap.size 27 [.int .i64 0, .int .i64 0, .int .i64 0, .int .i64 0, .int .i64 0, .int .i64 0, .int .i64 0, .bool false, .slice none 0 0, .int .i64 0, .int .i64 0, .slice none 0 0, .string ⟨#[]⟩] := Rw.more (Rw.alloc w _ _ (Nat.zero_le _)) _
  have hrd : RdAt ((w.alloc (.cells #[.int .i64 0, .int .i64 0, .int .i64 0, .int .i64 0, .int .i64 0, .int .i64 0, .int .i64 0, .bool false, .slice none 0 0, .int .i64 0, .int .i64 0, .slice none 0 0, .string ⟨#[]⟩] 27)).alloc (.cells #[.slice ba LB bc, .bool false] 59)) w.heap.size (w.heap.size + 1) (l, false) := by
    refine ⟨by omega, .slice ba LB bc, ?_, bySl_below (bySl_of h) hb2⟩
    have := Rw.alloc (w.alloc (.cells #[.int .i64 0, .int .i64 0, .int .i64 0, .int .i64 0, .int .i64 0, .int .i64 0, .int .i64 0, .bool false, .slice none 0 0, .int .i64 0, .int .i64 0, .slice none 0 0, .string ⟨#[]⟩] 27)) 59 #[.slice ba LB bc, .bool false] (Nat.zero_le _)
    simpa using this
  have HMS := Lib.hid (rmessage_any hrd)
  have HRR := Lib.hid hrR
  have HB2 := Lib.hid hb2
  have HNO : Hid (∀ w', (msgR (l, false)).2.2 = true ∨ 0 < (msgR (l, false)).2.1.length ∨ okMB (msgR (l, false)).1 = false → Below w.heap.size w w' → DecV w w' (.returned (.tuple #[.agg #[.int .i64 0, .int .i64 0, .int .i64 0, .int .i64 0, .int .i64 0, .int .i64 0, .int .i64 0, .bool false, .slice none 0 0, .int .i64 0, .int .i64 0, .slice none 0 0, .string ⟨#[]⟩], .int .i64 7])) l) := Lib.hid (fun w' h1 h2 => decV_no (goodR_not h1) h2)
  have HYE : Hid (∀ w' ev mv, (msgR (l, false)).2.2 = false → (msgR (l, false)).2.1.length = 0 → okMB (msgR (l, false)).1 = true → MsgOwn w' ev mv (msgR (l, false)).1 → Below w.heap.size w w' → DecV w w' (.returned (.tuple #[msgV (msgR (l, false)).1 ev mv, .int .i64 0])) l) := Lib.hid (fun w' ev mv h1 h2 h3 h4 h5 => by
    obtain ⟨_, e2, e3⟩ := goodR_yes h1 h2 h3
    exact ⟨ev, mv, by rw [e2, e3], by rw [e2]; exact h4, h5⟩)
  obtain ⟨q, hq⟩ : ∃ q, q = msgR (l, false) := ⟨_, rfl⟩
  rw [← hq] at HMS HNO HYE
  obtain ⟨m, rl, rbad⟩ := q
  dsimp only at HMS HNO HYE
  clear h hLB hb1 hb2 hrR hrd hq
  go_enter Try.func13, Try.ntmps13
  go_wp2_with (first | (refine wpList_alloc_z rfl 27 rfl #[.int .i64 0, .int .i64 0, .int .i64 0, .int .i64 0, .int .i64 0, .int .i64 0, .int .i64 0, .bool false, .slice none 0 0, .int .i64 0, .int .i64 0, .slice none 0 0, .string ⟨#[]⟩] hz ?_) | fail)
  refine (HMS.out).mono ?_
  rintro e w3 ⟨ev, mv, rfl, hown, hrd3, hk3⟩
  dsimp only at hown hrd3 ⊢
  obtain ⟨ea, ec, rfl, _⟩ := id (msgOwn_at hown).1
  obtain ⟨ma, mc, rfl⟩ := intsAt_len (msgOwn_at hown).2.2
  obtain ⟨n, hn⟩ : ∃ n, n = m.es.length := ⟨_, rfl⟩
  obtain ⟨M, hM⟩ : ∃ M, M = m.sn.ms.length := ⟨_, rfl⟩
  rw [← hn, ← hM] at hown ⊢
  have hrr3 := rw_kept HRR.out hk3 (by omega)
  have hb3 : Below w.heap.size w w3 := below_kept (kept_then (kept_below HB2.out) hk3 (fun x hx => .inr (by omega)))
  obtain ⟨_, rv, hrr, hbs⟩ := hrd3
  obtain ⟨ra, rc, rfl, _⟩ := id hbs
  obtain ⟨RL, hRL⟩ : ∃ RL, RL = rl.length := ⟨_, rfl⟩
  dsimp only at hrr
  rw [← hRL] at hrr
  have hb4 := below_more (Below.refl _ w3) (.cells #[.int .i64 m.kd, .int .i64 m.fr, .int .i64 m.to, .int .i64 m.tm, .int .i64 m.ix, .int .i64 m.lt, .int .i64 m.cm, .bool m.yes, .slice ea n ec, .int .i64 m.sn.ix, .int .i64 m.sn.tm, .slice ma M mc, .string m.sn.d] 27)
  have hr4 := Rw.below hrr hb4
  have x0 := Rw.cell hr4 (j := 0) (v := .slice ra RL rc) rfl
  have x1 := Rw.cell hr4 (j := 1) (v := .bool rbad) rfl
  have HO3 := Lib.hid hown
  have HRL := Lib.hid hRL
  have HB4 := Lib.hid (hb3.trans (Below.mono hb4 hb3.size))
  have HR4 := Lib.hid (Rw.below hrr3 hb4)
  have HO4 := Lib.hid (msgOwn_below hown hb4)
  have HEN := Lib.hid (encodable_any (msgOwn_at (msgOwn_below hown hb4)))
  have HM4 : Hid (Rw (w3.alloc (.cells #[.int .i64 m.kd, .int .i64 m.fr, .int .i64 m.to, .int .i64 m.tm, .int .i64 m.ix, .int .i64 m.lt, .int .i64 m.cm, .bool m.yes, .slice ea n ec, .int .i64 m.sn.ix, .int .i64 m.sn.tm, .slice ma M mc, .string m.sn.d] 27)) 0 w3.heap.size 27 [.int .i64 m.kd, .int .i64 m.fr, .int .i64 m.to, .int .i64 m.tm, .int .i64 m.ix, .int .i64 m.lt, .int .i64 m.cm, .bool m.yes, .slice ea n ec, .int .i64 m.sn.ix, .int .i64 m.sn.tm, .slice ma M mc, .string m.sn.d]) := Lib.hid (Rw.alloc w3 _ _ (Nat.zero_le _))
  unfold msgV at HEN ⊢
  clear hown hn hM hrr3 hb3 hrr hbs hRL hb4 hr4 hk3 HMS
  cases rbad with
  | true =>
    have HNO2 := Lib.hid (fun w' (hb : Below w.heap.size w w') => HNO.out w' (.inl rfl) hb)
    clear HNO HYE
    go_wp2_with (first | (refine wpList_alloc_z rfl 27 rfl #[.int .i64 0, .int .i64 0, .int .i64 0, .int .i64 0, .int .i64 0, .int .i64 0, .int .i64 0, .bool false, .slice none 0 0, .int .i64 0, .int .i64 0, .slice none 0 0, .string ⟨#[]⟩] hz ?_) | (refine wpList_store_mid rfl 27 _ _ rfl w.heap.size 0 #[.int .i64 0, .int .i64 0, .int .i64 0, .int .i64 0, .int .i64 0, .int .i64 0, .int .i64 0, .bool false, .slice none 0 0, .int .i64 0, .int .i64 0, .slice none 0 0, .string ⟨#[]⟩] rfl rfl (Rw.there HR4.out 0 _ (by simp)) Try.sizeMsg (msg_one _ _ _ _ _ _ _ _ _ _ _ _ _ _ _ _ _) ?_) | fail)
    have HEND := Lib.hid (Rw.storedAll HR4.out [.int .i64 0, .int .i64 0, .int .i64 0, .int .i64 0, .int .i64 0, .int .i64 0, .int .i64 0, .bool false, .slice none 0 0, .int .i64 0, .int .i64 0, .slice none 0 0, .string ⟨#[]⟩] rfl)
    refine bodyPost_ret (v := .tuple #[.agg #[.int .i64 0, .int .i64 0, .int .i64 0, .int .i64 0, .int .i64 0, .int .i64 0, .int .i64 0, .bool false, .slice none 0 0, .int .i64 0, .int .i64 0, .slice none 0 0, .string ⟨#[]⟩], .int .i64 7]) ?_ rfl ?_
    case refine_2 => exact HNO2.out _ (below_stores HB4.out (Nat.le_refl _) _)
    exact results_row_tmp rfl _ _ w.heap.size 0 27 [.int .i64 0, .int .i64 0, .int .i64 0, .int .i64 0, .int .i64 0, .int .i64 0, .int .i64 0, .bool false, .slice none 0 0, .int .i64 0, .int .i64 0, .slice none 0 0, .string ⟨#[]⟩] _ rfl HEND.out Try.underlying27 rfl Try.sizeMsg (.int .i64 7) rfl
  | false =>
    by_cases hrl : (0 : Int) < (RL : Int)
    · have HNO2 := Lib.hid (fun w' (hb : Below w.heap.size w w') => HNO.out w' (.inr (.inl (by rw [← HRL.out]; omega))) hb)
      have q0 : decide ((0 : Int) < (RL : Int)) = true := decide_eq_true hrl
      have q1 : 0 < RL := by omega
      have q2 : decide (0 < RL) = true := decide_eq_true q1
      clear HNO HYE
      go_wp2_with (first | (refine wpList_alloc_z rfl 27 rfl #[.int .i64 0, .int .i64 0, .int .i64 0, .int .i64 0, .int .i64 0, .int .i64 0, .int .i64 0, .bool false, .slice none 0 0, .int .i64 0, .int .i64 0, .slice none 0 0, .string ⟨#[]⟩] hz ?_) | (refine wpList_store_mid rfl 27 _ _ rfl w.heap.size 0 #[.int .i64 0, .int .i64 0, .int .i64 0, .int .i64 0, .int .i64 0, .int .i64 0, .int .i64 0, .bool false, .slice none 0 0, .int .i64 0, .int .i64 0, .slice none 0 0, .string ⟨#[]⟩] rfl rfl (Rw.there HR4.out 0 _ (by simp)) Try.sizeMsg (msg_one _ _ _ _ _ _ _ _ _ _ _ _ _ _ _ _ _) ?_) | fail)
      have HEND := Lib.hid (Rw.storedAll HR4.out [.int .i64 0, .int .i64 0, .int .i64 0, .int .i64 0, .int .i64 0, .int .i64 0, .int .i64 0, .bool false, .slice none 0 0, .int .i64 0, .int .i64 0, .slice none 0 0, .string ⟨#[]⟩] rfl)
      refine bodyPost_ret (v := .tuple #[.agg #[.int .i64 0, .int .i64 0, .int .i64 0, .int .i64 0, .int .i64 0, .int .i64 0, .int .i64 0, .bool false, .slice none 0 0, .int .i64 0, .int .i64 0, .slice none 0 0, .string ⟨#[]⟩], .int .i64 7]) ?_ rfl ?_
      case refine_2 => exact HNO2.out _ (below_stores HB4.out (Nat.le_refl _) _)
      exact results_row_tmp rfl _ _ w.heap.size 0 27 [.int .i64 0, .int .i64 0, .int .i64 0, .int .i64 0, .int .i64 0, .int .i64 0, .int .i64 0, .bool false, .slice none 0 0, .int .i64 0, .int .i64 0, .slice none 0 0, .string ⟨#[]⟩] _ rfl HEND.out Try.underlying27 rfl Try.sizeMsg (.int .i64 7) rfl
    · have HRL0 : Hid (rl.length = 0) := Lib.hid (by rw [← HRL.out]; omega)
      have hrl0 : RL = 0 := by omega
      subst hrl0
      obtain ⟨ok, hok⟩ : ∃ ok, ok = okMB m := ⟨_, rfl⟩
      rw [← hok] at HEN HNO HYE
      have HNO2 : Hid (ok = false → ∀ w', Below w.heap.size w w' → DecV w w' (.returned (.tuple #[.agg #[.int .i64 0, .int .i64 0, .int .i64 0, .int .i64 0, .int .i64 0, .int .i64 0, .int .i64 0, .bool false, .slice none 0 0, .int .i64 0, .int .i64 0, .slice none 0 0, .string ⟨#[]⟩], .int .i64 7])) l) := Lib.hid (fun he w' hb => HNO.out w' (.inr (.inr he)) hb)
      have HYE2 : Hid (ok = true → ∀ w' ev mv, MsgOwn w' ev mv m → Below w.heap.size w w' → DecV w w' (.returned (.tuple #[msgV m ev mv, .int .i64 0])) l) := Lib.hid (fun he w' ev mv h4 hb => HYE.out w' ev mv rfl HRL0.out he h4 hb)
      clear HNO HYE
      clear hrl hok HRL
      go_wp2_with (first | (refine wpList_alloc_z rfl 27 rfl #[.int .i64 0, .int .i64 0, .int .i64 0, .int .i64 0, .int .i64 0, .int .i64 0, .int .i64 0, .bool false, .slice none 0 0, .int .i64 0, .int .i64 0, .slice none 0 0, .string ⟨#[]⟩] hz ?_) | fail)
      refine (HEN.out).mono ?_
      rintro e w6 ⟨rfl, hb6⟩
      have HB6 := Lib.hid (HB4.out.trans (Below.mono hb6 HB4.out.size))
      have HR6 := Lib.hid (Rw.below HR4.out hb6)
      have HM6 := Lib.hid (Rw.below HM4.out hb6)
      have HO6 := Lib.hid (msgOwn_below HO4.out hb6)
      clear hb6 HEN x0 x1
      cases ok with
      | false =>
        have HNA := Lib.hid (HNO2.out rfl)
        clear HYE2 HNO2
        go_wp2_with (first | (refine wpList_alloc_z rfl 27 rfl #[.int .i64 0, .int .i64 0, .int .i64 0, .int .i64 0, .int .i64 0, .int .i64 0, .int .i64 0, .bool false, .slice none 0 0, .int .i64 0, .int .i64 0, .slice none 0 0, .string ⟨#[]⟩] hz ?_) | (refine wpList_store_mid rfl 27 _ _ rfl w.heap.size 0 #[.int .i64 0, .int .i64 0, .int .i64 0, .int .i64 0, .int .i64 0, .int .i64 0, .int .i64 0, .bool false, .slice none 0 0, .int .i64 0, .int .i64 0, .slice none 0 0, .string ⟨#[]⟩] rfl rfl (Rw.there HR6.out 0 _ (by simp)) Try.sizeMsg (msg_one _ _ _ _ _ _ _ _ _ _ _ _ _ _ _ _ _) ?_) | fail)
        have HEND := Lib.hid (Rw.storedAll HR6.out [.int .i64 0, .int .i64 0, .int .i64 0, .int .i64 0, .int .i64 0, .int .i64 0, .int .i64 0, .bool false, .slice none 0 0, .int .i64 0, .int .i64 0, .slice none 0 0, .string ⟨#[]⟩] rfl)
        refine bodyPost_ret (v := .tuple #[.agg #[.int .i64 0, .int .i64 0, .int .i64 0, .int .i64 0, .int .i64 0, .int .i64 0, .int .i64 0, .bool false, .slice none 0 0, .int .i64 0, .int .i64 0, .slice none 0 0, .string ⟨#[]⟩], .int .i64 7]) ?_ rfl ?_
        case refine_2 => exact HNA.out _ (below_stores HB6.out (Nat.le_refl _) _)
        exact results_row_tmp rfl _ _ w.heap.size 0 27 [.int .i64 0, .int .i64 0, .int .i64 0, .int .i64 0, .int .i64 0, .int .i64 0, .int .i64 0, .bool false, .slice none 0 0, .int .i64 0, .int .i64 0, .slice none 0 0, .string ⟨#[]⟩] _ rfl HEND.out Try.underlying27 rfl Try.sizeMsg (.int .i64 7) rfl
      | true =>
        have HYA := Lib.hid (HYE2.out rfl)
        clear HNO2 HYE2
        go_wp2_with (first | (refine wpList_load_mid rfl 27 _ rfl w3.heap.size 0 rfl [.int .i64 m.kd, .int .i64 m.fr, .int .i64 m.to, .int .i64 m.tm, .int .i64 m.ix, .int .i64 m.lt, .int .i64 m.cm, .bool m.yes, .slice ea n ec, .int .i64 m.sn.ix, .int .i64 m.sn.tm, .slice ma M mc, .string m.sn.d] _ (Rw.whole HM6.out) Try.underlying27 rfl Try.sizeMsg ?_) | (refine wpList_store_mid rfl 27 _ _ rfl w.heap.size 0 #[.int .i64 m.kd, .int .i64 m.fr, .int .i64 m.to, .int .i64 m.tm, .int .i64 m.ix, .int .i64 m.lt, .int .i64 m.cm, .bool m.yes, .slice ea n ec, .int .i64 m.sn.ix, .int .i64 m.sn.tm, .slice ma M mc, .string m.sn.d] rfl rfl (Rw.there HR6.out 0 _ (by simp)) Try.sizeMsg (msg_one _ _ _ _ _ _ _ _ _ _ _ _ _ _ _ _ _) ?_) | fail)
        have HEND := Lib.hid (Rw.storedAll HR6.out [.int .i64 m.kd, .int .i64 m.fr, .int .i64 m.to, .int .i64 m.tm, .int .i64 m.ix, .int .i64 m.lt, .int .i64 m.cm, .bool m.yes, .slice ea n ec, .int .i64 m.sn.ix, .int .i64 m.sn.tm, .slice ma M mc, .string m.sn.d] rfl)
        refine bodyPost_ret (v := .tuple #[.agg #[.int .i64 m.kd, .int .i64 m.fr, .int .i64 m.to, .int .i64 m.tm, .int .i64 m.ix, .int .i64 m.lt, .int .i64 m.cm, .bool m.yes, .slice ea n ec, .int .i64 m.sn.ix, .int .i64 m.sn.tm, .slice ma M mc, .string m.sn.d], .int .i64 0]) ?_ rfl ?_
        case refine_2 => exact HYA.out _ _ _ (msgOwn_stores HO6.out HR6.out _) (below_stores HB6.out (Nat.le_refl _) _)
        exact results_row_tmp rfl _ _ w.heap.size 0 27 [.int .i64 m.kd, .int .i64 m.fr, .int .i64 m.to, .int .i64 m.tm, .int .i64 m.ix, .int .i64 m.lt, .int .i64 m.cm, .bool m.yes, .slice ea n ec, .int .i64 m.sn.ix, .int .i64 m.sn.tm, .slice ma M mc, .string m.sn.d] _ rfl HEND.out Try.underlying27 rfl Try.sizeMsg (.int .i64 0) rfl

theorem or64g {a : Nat} {x : UInt8} (ha : a < 72057594037927936) : bits .or .u64 ((a : Int) * 256) (x.toNat : Int) = ((a * 256 + x.toNat : Nat) : Int) := by
  have hx := x.toNat_lt
  have h1 : (BitVec.ofInt 64 ((a : Int) * 256)) = BitVec.ofNat 64 (a * 256) := by
    rw [show ((a : Int) * 256) = ((a * 256 : Nat) : Int) by omega, BitVec.ofInt_natCast]
  have h2 : (BitVec.ofInt 64 (x.toNat : Int)) = BitVec.ofNat 64 x.toNat := by rw [BitVec.ofInt_natCast]
  show IntKind.u64.wrap _ = _
  simp only [IntKind.bits]
  rw [h1, h2]
  have h3 : (BitVec.ofNat 64 (a * 256) ||| BitVec.ofNat 64 x.toNat).toNat = a * 256 + x.toNat := by
    rw [BitVec.toNat_or, BitVec.toNat_ofNat, BitVec.toNat_ofNat, Nat.mod_eq_of_lt (by omega), Nat.mod_eq_of_lt (by omega), Nat.mul_comm a 256]
    exact (Nat.two_pow_add_eq_or_of_lt (i := 8) hx a).symm
  have key : IntKind.u64.wrap (((BitVec.ofNat 64 (a * 256) ||| BitVec.ofNat 64 x.toNat).toNat : Nat) : Int) = ((a * 256 + x.toNat : Nat) : Int) := by
    rw [h3, IntKind.wrap_u64]
    omega
  exact key

theorem numS_lt8 {l : List UInt8} {k : Nat} (h : l.length ≤ k) : numS l < 256 ^ k := Nat.lt_of_lt_of_le (numS_lt l) (Nat.pow_le_pow_right (by decide) h)

def GetV (w w' : World) (e : Ending) (V : Nat) : Prop := e = .returned (.int .u64 (V : Int)) ∧ w = w'

theorem get_gen (b o N c n : Nat) (l : List UInt8) (w : World) (hl : l.length = N) (hat : ByAt w b o l) (hn : n ≤ N) (hn8 : n ≤ 8) :
    Calls Try.prog 47 #[.slice (some ⟨b, o, none⟩) N c, .int .i64 n] w fun e w' => GetV w w' e (numS (l.take n)) := by
  have HAT := Lib.hid hat
  have HL := Lib.hid hl
  have HNN := Lib.hid hn
  have hn9 : (n : Int) < 9 := by omega
  clear hat hl hn
  go_enter Try.func47, Try.ntmps47
  go_wp2_with fail
  go_loopw [5, 6] (fun v i wr => ∃ k a : Nat, k ≤ n ∧ i = .int .i64 k ∧ v = .int .u64 a ∧ Hid (a < 256 ^ k) ∧ Hid (a = numS (l.take k)) ∧ w = wr) (fun _ i _ => n - (intOf i).toNat)
  case atStart => exact ⟨0, 0, Nat.zero_le _, rfl, rfl, Lib.hid (by decide), Lib.hid rfl, rfl⟩
  case round =>
    obtain ⟨k, a, hk, rfl, rfl, HP, HA, rfl⟩ := hrel
    by_cases hlt : k < n
    · obtain ⟨x, hx⟩ : ∃ x, l[k]? = some x := ⟨_, List.getElem?_eq_getElem (by rw [HL.out]; have := HNN.out; omega)⟩
      have hcx := HAT.out k x hx
      have hak : a < 72057594037927936 := Nat.lt_of_lt_of_le HP.out (Nat.le_trans (Nat.pow_le_pow_right (by decide) (by omega : k ≤ 7)) (by decide))
      have hor := or64g (a := a) (x := x) hak
      have hmod : (a : Int) * 256 % 18446744073709551616 = (a : Int) * 256 := by omega
      have hwx : IntKind.u64.wrap (x.toNat : Int) = (x.toNat : Int) := by rw [IntKind.wrap_u64]; have := x.toNat_lt; omega
      have HX : Hid (a * 256 + x.toNat = numS (l.take (k + 1))) := Lib.hid (by rw [take_succ_of hx, numS_snoc, HA.out])
      have HXL : Hid (a * 256 + x.toNat < 256 ^ (k + 1)) := Lib.hid (by rw [HX.out]; exact numS_lt8 (by rw [List.length_take]; omega))
      have hy : (k : Int) < (n : Int) := by omega
      have hk9 : (k : Int) < 9 := by omega
      have hyN : (k : Int) < (N : Int) := by have := HNN.out; omega
      have HKL := Lib.hid hlt
      clear hx hlt hk hak
      go_wp2_with fail
      go_roundw
      case rel =>
        have := HKL.out
        exact ⟨k + 1, a * 256 + x.toNat, by omega, by go_num, rfl, HXL, HX, trivial⟩
      case measure => have := HKL.out; simp [intOf]; omega
    · have HE : Hid (a = numS (l.take n)) := Lib.hid (by have := HA.out; rw [show k = n by omega] at this; exact this)
      have hyk : ¬ (k : Int) < (n : Int) := by omega
      clear hk hlt
      go_wp2_with fail
      go_ret
      exact ⟨by rw [HE.out]; rfl, rfl⟩

/-- A number as an int has it. -/
def sgn (v : Nat) : Int := if v < 9223372036854775808 then (v : Int) else (v : Int) - 18446744073709551616

theorem sgn_lt {v : Nat} (h : v < 18446744073709551616) : sgn v < 9223372036854775808 := by unfold sgn; split <;> omega

theorem sgn_wrap {v : Nat} (h : v < 18446744073709551616) : IntKind.i64.wrap (v : Int) = sgn v := by
  rw [IntWalk.i64_left]
  unfold wrap64 sgn
  split <;> omega

def numE (l : List UInt8) (n : Nat) (s : Nat × Bool) : Int × Nat × Bool :=
  if s.2 = true ∨ l.length < s.1 + n then (0, s.1, true) else (sgn (numS ((l.drop s.1).take n)), s.1 + n, decide (9223372036854775808 ≤ numS ((l.drop s.1).take n)))

theorem numE_lt (l : List UInt8) {n : Nat} (hn : n ≤ 8) (s : Nat × Bool) : (numE l n s).1 < 9223372036854775808 := by
  unfold numE
  split
  · show (0 : Int) < _; decide
  · refine sgn_lt (Nat.lt_of_lt_of_le (numS_lt8 (k := 8) (by rw [List.length_take]; omega)) (by decide))

theorem numE_at (l : List UInt8) (n : Nat) (s : Nat × Bool) (h : s.1 ≤ l.length) : (numE l n s).2.1 ≤ l.length := by
  unfold numE
  split
  · exact h
  · rename_i hh
    simp only [not_or] at hh
    show s.1 + n ≤ _
    omega

/-- An Eye in block g over bytes that lie below B: the place, whether they are none. -/
def EyAt (w : World) (B g : Nat) (l : List UInt8) (s : Nat × Bool) : Prop := B ≤ g ∧ s.1 ≤ l.length ∧ ∃ a c, Rw w 0 g 63 [.slice a l.length c, .int .i64 s.1, .bool s.2] ∧ l.length ≤ c ∧ Lies w B a l

def EyV (w w' : World) (B g : Nat) (l : List UInt8) (s : Nat × Bool) : Prop := EyAt w' B g l s ∧ Kept (fun k => k = g) w w'

theorem eyAt_below {w w' : World} {B g : Nat} {l : List UInt8} {s : Nat × Bool} (h : EyAt w B g l s) (hb : Below w.heap.size w w') : EyAt w' B g l s := by
  obtain ⟨h1, h2, a, c, h3, h4, h5⟩ := h
  exact ⟨h1, h2, a, c, Rw.below h3 hb, h4, lies_keep h5 (fun k _ hks => hb.block k hks)⟩

theorem eyV_then {w w1 w2 : World} {B g : Nat} {l : List UInt8} {s s2 : Nat × Bool} (h : EyV w w1 B g l s) (h2 : EyV w1 w2 B g l s2) : EyV w w2 B g l s2 := ⟨h2.1, kept_trans h.2 h2.2⟩

theorem ey_store {w : World} {B g : Nat} {l : List UInt8} {s s2 : Nat × Bool} (h : EyAt w B g l s) (h2 : s2.1 ≤ l.length) : EyV w ((w.setCell ⟨g, 1, none⟩ (.int .i64 s2.1)).setCell ⟨g, 2, none⟩ (.bool s2.2)) B g l s2 := by
  obtain ⟨h1, _, a, c, h3, h4, h5⟩ := h
  have hk : Kept (fun k => k = g) w ((w.setCell ⟨g, 1, none⟩ (.int .i64 s2.1)).setCell ⟨g, 2, none⟩ (.bool s2.2)) := kept_put (F := fun k => k = g) (kept_put (F := fun k => k = g) (kept_refl _ _) (.inl rfl) 1 _) (.inl rfl) 2 _
  exact ⟨⟨h1, h2, a, c, Rw.stored (Rw.stored h3 1 _) 2 _, h4, lies_keep h5 (fun k hkB hks => hk.blk k hks (by omega))⟩, hk⟩

theorem ey_bad {w : World} {B g : Nat} {l : List UInt8} {s : Nat × Bool} (h : EyAt w B g l s) : EyV w (w.setCell ⟨g, 2, none⟩ (.bool true)) B g l (s.1, true) := by
  obtain ⟨h1, h2, a, c, h3, h4, h5⟩ := h
  have hk : Kept (fun k => k = g) w (w.setCell ⟨g, 2, none⟩ (.bool true)) := kept_put (F := fun k => k = g) (kept_refl _ _) (.inl rfl) 2 _
  exact ⟨⟨h1, h2, a, c, Rw.stored h3 2 _, h4, lies_keep h5 (fun k hkB hks => hk.blk k hks (by omega))⟩, hk⟩

theorem ey_go {w : World} {B g : Nat} {l : List UInt8} {s : Nat × Bool} (h : EyAt w B g l s) {i : Nat} (h2 : i ≤ l.length) : EyV w (w.setCell ⟨g, 1, none⟩ (.int .i64 i)) B g l (i, s.2) := by
  obtain ⟨h1, _, a, c, h3, h4, h5⟩ := h
  have hk : Kept (fun k => k = g) w (w.setCell ⟨g, 1, none⟩ (.int .i64 i)) := kept_put (F := fun k => k = g) (kept_refl _ _) (.inl rfl) 1 _
  exact ⟨⟨h1, h2, a, c, Rw.stored h3 1 _, h4, lies_keep h5 (fun k hkB hks => hk.blk k hks (by omega))⟩, hk⟩

def EyNum (w w' : World) (B g : Nat) (l : List UInt8) (e : Ending) (q : Int × Nat × Bool) : Prop := e = .returned (.int .i64 q.1) ∧ EyV w w' B g l q.2

theorem eyV_from {w w1 w2 : World} {B g : Nat} {l : List UInt8} {s : Nat × Bool} (hb : Below w.heap.size w w1) (h : EyV w1 w2 B g l s) : EyV w w2 B g l s := ⟨h.1, kept_then (kept_below hb) h.2 (fun _ hx => .inl hx)⟩

theorem lies_pos {w : World} {B : Nat} {a : Option Addr} {l : List UInt8} (h : Lies w B a l) (hl : 0 < l.length) : ∃ b o, a = some ⟨b, o, none⟩ ∧ ByAt w b o l := by
  rcases h with h | ⟨b, o, ha, _, h⟩
  · rw [h] at hl; simp at hl
  · exact ⟨b, o, ha, h⟩

theorem byAt_below {w w' : World} {b o : Nat} {l : List UInt8} (h : ByAt w b o l) (hb : Below w.heap.size w w') : ByAt w' b o l := fun j x hj => by
  have h1 := h j x hj
  rw [hb.cell (block_of_cell h1)]
  exact h1

set_option maxRecDepth 100000 in
set_option maxHeartbeats 4000000 in
theorem eynum_bad {w : World} {B g : Nat} {l : List UInt8} {s : Nat × Bool} (h : EyAt w B g l s) (n : Nat) (hb : s.2 = true) :
    Calls Try.prog 25 #[.pointer (some ⟨g, 0, none⟩), .int .i64 n] w fun e w' => EyNum w w' B g l e (numE l n s) := by
  have HQ : Hid (numE l n s = (0, s.1, true)) := Lib.hid (by unfold numE; rw [if_pos (.inl hb)])
  obtain ⟨i, b⟩ := s
  dsimp only at hb
  subst hb
  have H := Lib.hid h
  obtain ⟨h1, h2, a, c, h3, h4, h5⟩ := h
  have c2 := Rw.cell h3 (j := 2) (v := .bool true) rfl
  have f2 := Rw.free h3 2
  clear h1 h2 h3 h4 h5
  go_enter Try.func25, Try.ntmps25
  go_upto_region 1 with fail
  go_cut [23] from 6 (fun c23 wx => c23 = .bool true ∧ Hid (Below w.heap.size w wx))
  case first =>
    go_quiet (fail)
    go_wp2_with fail
    go_meet
    exact ⟨rfl, Lib.hid (below_drewN (Below.refl _ _) _)⟩
  case rest =>
    obtain ⟨rfl, HB⟩ := hcut
    generalize wc = w1 at *
    have hA := eyAt_below H.out HB.out
    have HE := Lib.hid (eyV_from HB.out (ey_bad hA))
    obtain ⟨_, _, a1, k1, h3, _, _⟩ := hA
    have d2 := Rw.cell h3 (j := 2) (v := .bool true) rfl
    have e2 := Rw.free h3 2
    clear h3 c2 f2
    go_wp2_with fail
    go_ret
    rw [HQ.out]
    exact ⟨rfl, HE.out⟩

set_option maxRecDepth 100000 in
set_option maxHeartbeats 4000000 in
theorem eynum_few {w : World} {B g : Nat} {l : List UInt8} {s : Nat × Bool} (h : EyAt w B g l s) (n : Nat) (hn : 1 ≤ n ∧ n ≤ 8) (hl : l.length ≤ 1000000) (hb : s.2 = false) (hf : l.length < s.1 + n) :
    Calls Try.prog 25 #[.pointer (some ⟨g, 0, none⟩), .int .i64 n] w fun e w' => EyNum w w' B g l e (numE l n s) := by
  have HQ : Hid (numE l n s = (0, s.1, true)) := Lib.hid (by unfold numE; rw [if_pos (.inr hf)])
  obtain ⟨i, b⟩ := s
  dsimp only at hb hf
  subst hb
  have H := Lib.hid h
  obtain ⟨h1, h2, a, c, h3, h4, h5⟩ := h
  dsimp only at h2
  have c2 := Rw.cell h3 (j := 2) (v := .bool false) rfl
  have c1 := Rw.cell h3 (j := 1) rfl
  obtain ⟨L, hL⟩ : ∃ L, L = l.length := ⟨_, rfl⟩
  have c0 : w.cell? ⟨g, 0, none⟩ = some (.slice a L c) := by rw [hL]; exact Rw.cell h3 (j := 0) rfl
  dsimp only at c1
  have hw : IntKind.i64.wrap ((L : Int) - (i : Int)) = (L : Int) - (i : Int) := IntWalk.i64_in _ (by omega)
  have ht : decide ((L : Int) - (i : Int) < (n : Int)) = true := decide_eq_true (by omega)
  have hi6 : (i : Int) ≤ 1000000 := by omega
  have hL6 : (L : Int) ≤ 1000000 := by omega
  clear h1 h2 h3 h4 h5 hL hl hf hn
  go_enter Try.func25, Try.ntmps25
  go_upto_region 1 with fail
  go_cut [23] from 6 (fun c23 wx => c23 = .bool true ∧ Hid (Below w.heap.size w wx))
  case first =>
    go_quiet (fail)
    go_wp2_with fail
    go_meet
    exact ⟨rfl, Lib.hid (below_drewN (Below.refl _ _) _)⟩
  case rest =>
    obtain ⟨rfl, HB⟩ := hcut
    generalize wc = w1 at *
    have hA := eyAt_below H.out HB.out
    have HE := Lib.hid (eyV_from HB.out (ey_bad hA))
    obtain ⟨_, _, a1, k1, h3, _, _⟩ := hA
    have d2 := Rw.cell h3 (j := 2) (v := .bool false) rfl
    have e2 := Rw.free h3 2
    clear h3 c2 c0 c1 hw ht hi6 hL6
    go_wp2_with fail
    go_ret
    rw [HQ.out]
    exact ⟨rfl, HE.out⟩

set_option maxRecDepth 100000 in
set_option maxHeartbeats 8000000 in
theorem eynum_read {w : World} {B g : Nat} {l : List UInt8} {s : Nat × Bool} (h : EyAt w B g l s) (n : Nat) (hn : 1 ≤ n ∧ n ≤ 8) (hl : l.length ≤ 1000000) (hb : s.2 = false) (hf : s.1 + n ≤ l.length) :
    Calls Try.prog 25 #[.pointer (some ⟨g, 0, none⟩), .int .i64 n] w fun e w' => EyNum w w' B g l e (numE l n s) := by
  obtain ⟨V, hV⟩ : ∃ V, V = numS ((l.drop s.1).take n) := ⟨_, rfl⟩
  have HQ : Hid (numE l n s = (sgn V, s.1 + n, decide (9223372036854775808 ≤ V))) := Lib.hid (by unfold numE; rw [if_neg (by rw [hb]; simp; omega), hV])
  have HVL : Hid (V < 18446744073709551616) := Lib.hid (by rw [hV]; exact Nat.lt_of_lt_of_le (numS_lt8 (k := 8) (by rw [List.length_take]; omega)) (by decide))
  obtain ⟨i, b⟩ := s
  dsimp only at hb hf hV
  subst hb
  have H := Lib.hid h
  have HF := Lib.hid hf
  have HN := Lib.hid hn
  have HV := Lib.hid hV
  obtain ⟨h1, h2, a, c, h3, h4, h5⟩ := h
  dsimp only at h2
  have c2 := Rw.cell h3 (j := 2) (v := .bool false) rfl
  have c1 := Rw.cell h3 (j := 1) rfl
  obtain ⟨L, hL⟩ : ∃ L, L = l.length := ⟨_, rfl⟩
  have c0 : w.cell? ⟨g, 0, none⟩ = some (.slice a L c) := by rw [hL]; exact Rw.cell h3 (j := 0) rfl
  dsimp only at c1
  have hw : IntKind.i64.wrap ((L : Int) - (i : Int)) = (L : Int) - (i : Int) := IntWalk.i64_in _ (by omega)
  have ht : decide ((L : Int) - (i : Int) < (n : Int)) = false := decide_eq_false (by omega)
  have hi6 : (i : Int) ≤ 1000000 := by omega
  have hL6 : (L : Int) ≤ 1000000 := by omega
  have HL6 := Lib.hid hl
  have HLL := Lib.hid hL
  clear h1 h2 h3 h4 h5 hL hl hf hn hV
  go_enter Try.func25, Try.ntmps25
  go_upto_region 1 with fail
  go_cut [23] from 6 (fun c23 wx => c23 = .bool false ∧ Hid (Below w.heap.size w wx))
  case first =>
    go_quiet (fail)
    go_wp2_with fail
    go_meet
    exact ⟨rfl, Lib.hid (below_drewN (Below.refl _ _) _)⟩
  case rest =>
    obtain ⟨rfl, HB⟩ := hcut
    generalize wc = w1 at *
    clear c0 c1 c2 hw ht
    have hA := eyAt_below H.out HB.out
    obtain ⟨h1, h2, a1, k1, h3, h4, h5⟩ := id hA
    dsimp only at h2
    have d1 := Rw.cell h3 (j := 1) rfl
    dsimp only at d1
    have d0 : w1.cell? ⟨g, 0, none⟩ = some (.slice a1 L k1) := by rw [HLL.out]; exact Rw.cell h3 (j := 0) rfl
    obtain ⟨A2, hA2, hs2⟩ := slice_from2 Try.elemBy Try.sizeBy (w := w1) (B := B) a1 k1 i l h2 h4 h5
    obtain ⟨b2, o2, rfl, hby⟩ := lies_pos hA2 (by rw [List.length_drop]; have := HF.out; have := HN.out; omega)
    obtain ⟨R, hR⟩ : ∃ R, R = L - i := ⟨_, rfl⟩
    have HG := Lib.hid (fun W (hW : Below w1.heap.size w1 W) => get_gen b2 o2 R (k1 - i) n (l.drop i) W (by rw [List.length_drop, hR, HLL.out]) (byAt_below hby hW) (by rw [hR, HLL.out]; have := HF.out; omega) HN.out.2)
    rw [← HV.out] at HG
    obtain ⟨K2, hK2⟩ : ∃ K2, K2 = k1 - i := ⟨_, rfl⟩
    rw [← hK2] at HG hs2
    rw [← HLL.out, ← hR] at hs2
    have HA := Lib.hid hA
    have hi0 : 0 ≤ (i : Int) := by omega
    have hiL : (i : Int) ≤ (L : Int) := by have := HLL.out; omega
    clear h1 h2 h3 h4 h5 hA hA2 hby hR hK2
    have HGQ : Hid (∀ m, Calls Try.prog 47 #[.slice (some ⟨b2, o2, none⟩) R K2, .int .i64 n] (w1.drewN m) fun e w' => e = .returned (.int .u64 (V : Int)) ∧ w' = w1.drewN m) := Lib.hid (fun m => (HG.out _ (below_drewN (Below.refl _ _) m)).mono (fun _ _ h => ⟨h.1, h.2.symm⟩))
    go_upto_region 4 with fail
    go_cut [5] from 27 (fun c5 wx => c5 = .int .u64 (V : Int) ∧ Hid (Below w1.heap.size w1 wx))
    case first =>
      go_quiet ((go_at_call 47; exact Calls.quiet_of_same (HGQ.out _)))
      go_wp2_with fail
      go_meet
      exact ⟨rfl, Lib.hid (below_drewN (Below.refl _ _) _)⟩
    case rest =>
      obtain ⟨rfl, HB2⟩ := hcut
      generalize wc = w2 at *
      clear d0 d1 hs2 HG HGQ
      have hA := eyAt_below HA.out HB2.out
      have HG5 := Lib.hid (ey_go hA (i := i + n) HF.out)
      have HBB := Lib.hid (below_then HB.out HB2.out)
      obtain ⟨_, _, a2, k2, h3, _, _⟩ := hA
      have d1 := Rw.cell h3 (j := 1) rfl
      have e1 := Rw.free h3 1
      dsimp only at d1
      have hw5 : IntKind.i64.wrap ((i : Int) + (n : Int)) = (i : Int) + (n : Int) := IntWalk.i64_in _ (by have := HN.out; omega)
      have hn8 : (n : Int) ≤ 8 := by have := HN.out; omega
      obtain ⟨w3, hw3⟩ : ∃ w3, w3 = w2.setCell ⟨g, 1, none⟩ (.int .i64 ((i + n : Nat) : Int)) := ⟨_, rfl⟩
      rw [← hw3] at HG5
      have hw3' : w3 = w2.setCell ⟨g, 1, none⟩ (.int .i64 ((i : Int) + (n : Int))) := by rw [hw3]; congr 2
      have HW3 := Lib.hid hw3'
      clear h3 hw3 hw3'
      go_upto_region 6 with fail
      rw [← HW3.out]
      clear d1 e1 hw5 hi0 hiL hi6 hL6 hn8
      obtain ⟨S, hS⟩ : ∃ S, S = sgn V := ⟨_, rfl⟩
      have hwS : IntKind.i64.wrap (V : Int) = S := by rw [hS]; exact sgn_wrap HVL.out
      have hwS2 : wrap64 (V : Int) = S := by rw [← hwS]; exact (IntWalk.i64_left _).symm
      rw [← hS] at HQ
      clear hS
      by_cases hbig : 9223372036854775808 ≤ V
      · have q6 : (9223372036854775808 : Int) ≤ (V : Int) := by omega
        have hQ := HQ.out
        rw [decide_eq_true hbig] at hQ
        have HQ2 := Lib.hid hQ
        have HE := Lib.hid (eyV_then (eyV_from HBB.out HG5.out) (ey_bad HG5.out.1))
        obtain ⟨_, _, a3, k3, h3, _, _⟩ := HG5.out.1
        have d2 := Rw.cell h3 (j := 2) (v := .bool false) rfl
        have e2 := Rw.free h3 2
        clear h3 hbig hQ HQ
        go_wp2_with fail
        go_ret
        rw [HQ2.out]
        exact ⟨rfl, HE.out⟩
      · have q6 : ¬ ((9223372036854775808 : Int) ≤ (V : Int)) := by omega
        have hQ := HQ.out
        rw [decide_eq_false hbig] at hQ
        have HQ2 := Lib.hid hQ
        have HE := Lib.hid (eyV_from HBB.out HG5.out)
        clear hbig hQ HQ
        go_wp2_with fail
        go_ret
        rw [HQ2.out]
        exact ⟨rfl, HE.out⟩

theorem eynum_any {w : World} {B g : Nat} {l : List UInt8} {s : Nat × Bool} (h : EyAt w B g l s) (n : Nat) (hn : 1 ≤ n ∧ n ≤ 8) (hl : l.length ≤ 1000000) :
    Calls Try.prog 25 #[.pointer (some ⟨g, 0, none⟩), .int .i64 n] w fun e w' => EyNum w w' B g l e (numE l n s) := by
  cases hb : s.2 with
  | true => exact eynum_bad h n hb
  | false =>
    by_cases hf : l.length < s.1 + n
    · exact eynum_few h n hn hl hb hf
    · exact eynum_read h n hn hl hb (by omega)

def yesE (l : List UInt8) (s : Nat × Bool) : Bool × Nat × Bool := ((numE l 1 s).1 == 1, (numE l 1 s).2.1, (numE l 1 s).2.2 || decide (1 < (numE l 1 s).1))

def EyYes (w w' : World) (B g : Nat) (l : List UInt8) (e : Ending) (q : Bool × Nat × Bool) : Prop := e = .returned (.bool q.1) ∧ EyV w w' B g l q.2

set_option maxRecDepth 100000 in
set_option maxHeartbeats 4000000 in
theorem eyyes_any {w : World} {B g : Nat} {l : List UInt8} {s : Nat × Bool} (h : EyAt w B g l s) (hl : l.length ≤ 1000000) :
    Calls Try.prog 26 #[.pointer (some ⟨g, 0, none⟩)] w fun e w' => EyYes w w' B g l e (yesE l s) := by
  have HN := Lib.hid (eynum_any h 1 (by decide) hl)
  obtain ⟨q, hq⟩ : ∃ q, q = yesE l s := ⟨_, rfl⟩
  unfold yesE at hq
  obtain ⟨⟨x, s2⟩, hx⟩ : ∃ p, p = numE l 1 s := ⟨_, rfl⟩
  rw [← hx] at HN hq
  dsimp only at hq
  have HQ : Hid (yesE l s = (x == 1, s2.1, s2.2 || decide (1 < x))) := Lib.hid (by unfold yesE; rw [← hx])
  clear hq hx
  go_enter Try.func26, Try.ntmps26
  go_wp2_with fail
  refine (HN.out).mono ?_
  rintro e w1 ⟨rfl, hv⟩
  have HV := Lib.hid hv
  clear hv HN
  by_cases hb : 1 < x
  · have q1 : (x == 1) = false := by rw [beq_eq_false_iff_ne]; omega
    have HE := Lib.hid (eyV_then HV.out (ey_bad HV.out.1))
    obtain ⟨_, _, a3, k3, h3, _, _⟩ := HV.out.1
    obtain ⟨i2, b2⟩ := s2
    dsimp only at h3
    have d2 := Rw.cell h3 (j := 2) (v := .bool b2) rfl
    have e2 := Rw.free h3 2
    have HR : Hid (yesE l s = (false, i2, true)) := Lib.hid (by rw [HQ.out, q1, decide_eq_true hb]; simp)
    clear h3 HQ
    go_wp2_with fail
    go_ret
    rw [HR.out]
    exact ⟨rfl, HE.out⟩
  · have q0 : ¬ (1 < x) := hb
    obtain ⟨y, hy⟩ : ∃ y, y = (x == 1) := ⟨_, rfl⟩
    have HR : Hid (yesE l s = (y, s2)) := Lib.hid (by rw [HQ.out, decide_eq_false hb, ← hy]; simp)
    have hy2 : (x == 1) = y := hy.symm
    clear HQ hb hy
    go_wp2_with fail
    go_ret
    rw [HR.out]
    exact ⟨rfl, HV.out⟩

def txtE (l : List UInt8) (s : Nat × Bool) : List UInt8 × Nat × Bool :=
  if (numE l 4 s).2.2 = true ∨ (l.length : Int) - (numE l 4 s).2.1 < (numE l 4 s).1 then ([], (numE l 4 s).2.1, true)
  else ((l.drop (numE l 4 s).2.1).take (numE l 4 s).1.toNat, (numE l 4 s).2.1 + (numE l 4 s).1.toNat, false)

/-- bytes[lo:hi]. -/
theorem slice_both {P : Program} {T : TypeId} (ht : P.underlying T = some (.slice (P.elem T))) (hs : (P.info? (P.elem T)).map (·.size) = some 1) {w : World} {B : Nat} (a : Option Addr) (len cap lo n : Nat) (l : List UInt8) (h : lo + n ≤ cap) (hl : Lies w B a l) (hlen : lo + n ≤ l.length) :
    ∃ A, Lies w B A ((l.drop lo).take n) ∧ ∀ W, (Instr.slice T (.slice a len cap) (some (.int .i64 (lo : Int))) (some (.int .i64 ((lo : Int) + (n : Int)))) none).run P W = .ok (.slice A n (cap - lo)) W := by
  refine ⟨if cap = lo then a else a.map (·.add (lo * 1)), ?_, fun W => ?_⟩
  · rcases hl with rfl | ⟨b, o, rfl, hb, hby⟩
    · exact .inl (by simp)
    · by_cases he : cap = lo
      · have hn0 : n = 0 := by omega
        subst hn0
        exact .inl (by simp)
      · rw [if_neg he]
        refine .inr ⟨b, o + lo, by simp [Addr.add_mid], hb, fun j x hj => ?_⟩
        rw [List.getElem?_take] at hj
        split at hj
        · rw [List.getElem?_drop] at hj
          rw [Nat.add_assoc]
          exact hby (lo + j) x hj
        · cases hj
  · rw [run_slice_lh W T a len cap ht .i64 .i64 lo ((lo : Int) + (n : Int)) (by omega) (by omega) (by omega), run_size1 hs]
    simp only [Result.andThen, sliced]
    have e1 : ((lo : Int) + (n : Int)).toNat - lo = n := by omega
    simp [e1]

def EyTxt (w w' : World) (B g : Nat) (l : List UInt8) (e : Ending) (q : List UInt8 × Nat × Bool) : Prop := e = .returned (.string ⟨q.1.toArray⟩) ∧ EyV w w' B g l q.2

theorem numE_pos4 (l : List UInt8) (s : Nat × Bool) : 0 ≤ (numE l 4 s).1 ∧ (numE l 4 s).1 < 4294967296 := by
  unfold numE
  split
  · show (0 : Int) ≤ 0 ∧ (0 : Int) < 4294967296
    decide
  · have h : numS ((l.drop s.1).take 4) < 256 ^ 4 := numS_lt8 (by rw [List.length_take]; omega)
    have h2 : numS ((l.drop s.1).take 4) < 4294967296 := h
    show 0 ≤ sgn _ ∧ sgn _ < _
    unfold sgn
    rw [if_pos (by omega)]
    omega

set_option maxRecDepth 100000 in
set_option maxHeartbeats 8000000 in
theorem eytext_any {w : World} {B g : Nat} {l : List UInt8} {s : Nat × Bool} (h : EyAt w B g l s) (hl : l.length ≤ 1000000) :
    Calls Try.prog 27 #[.pointer (some ⟨g, 0, none⟩)] w fun e w' => EyTxt w w' B g l e (txtE l s) := by
  have HN := Lib.hid (eynum_any h 4 (by decide) hl)
  have hp := numE_pos4 l s
  have HA4 := numE_at l 4 s h.2.1
  have HY : Hid (txtE l s = (if (numE l 4 s).2.2 = true ∨ (l.length : Int) - (numE l 4 s).2.1 < (numE l 4 s).1 then ([], (numE l 4 s).2.1, true) else ((l.drop (numE l 4 s).2.1).take (numE l 4 s).1.toNat, (numE l 4 s).2.1 + (numE l 4 s).1.toNat, false))) := Lib.hid rfl
  obtain ⟨q, hq⟩ : ∃ q, q = numE l 4 s := ⟨_, rfl⟩
  obtain ⟨y, hy⟩ : ∃ y, y = txtE l s := ⟨_, rfl⟩
  rw [← hq] at HN HY hp HA4
  rw [← hy] at HY ⊢
  obtain ⟨x, i, b⟩ := q
  dsimp only at HY hp HA4
  obtain ⟨N, rfl⟩ := Int.eq_ofNat_of_zero_le hp.1
  rw [Int.toNat_natCast] at HY
  have HI := Lib.hid HA4
  have HLL := Lib.hid hl
  clear h hq hy hp HA4 hl
  obtain ⟨L, hL⟩ : ∃ L, L = l.length := ⟨_, rfl⟩
  rw [← hL] at HY
  have HL := Lib.hid hL
  clear hL
  go_enter Try.func27, Try.ntmps27
  go_wp2_with fail
  refine (HN.out).mono ?_
  rintro e w1 ⟨rfl, hv⟩
  have HV := Lib.hid hv
  have h3' : EyAt w1 B g l (i, b) := hv.1
  obtain ⟨h1, h2, a, c, h3, h4, h5⟩ := h3'
  dsimp only at h2 h3 ⊢
  have d2 := Rw.cell h3 (j := 2) (v := .bool b) rfl
  have e2 := Rw.free h3 2
  have d1 := Rw.cell h3 (j := 1) rfl
  have d0 : w1.cell? ⟨g, 0, none⟩ = some (.slice a L c) := by rw [HL.out]; exact Rw.cell h3 (j := 0) rfl
  have hw : IntKind.i64.wrap ((L : Int) - (i : Int)) = (L : Int) - (i : Int) := IntWalk.i64_in _ (by have := HL.out; have := HLL.out; omega)
  have hi6 : (i : Int) ≤ 1000000 := by have := HLL.out; omega
  have hL6 : (L : Int) ≤ 1000000 := by have := HL.out; have := HLL.out; omega
  clear hv HN h1 h3
  go_upto_region 2 with fail
  by_cases hbad : b = true ∨ (L : Int) - (i : Int) < (N : Int)
  · have HR : Hid (y = ([], i, true)) := Lib.hid (by rw [HY.out, if_pos hbad])
    clear HY
    go_cut [23] from 6 (fun c23 wx => c23 = .bool true ∧ Hid (Below w1.heap.size w1 wx))
    case first =>
      cases b with
      | true =>
        clear hbad
        go_quiet (fail)
        go_wp2_with fail
        go_meet
        exact ⟨rfl, Lib.hid (below_drewN (Below.refl _ _) _)⟩
      | false =>
        have ht : decide ((L : Int) - (i : Int) < (N : Int)) = true := decide_eq_true (hbad.resolve_left (by decide))
        clear hbad
        go_quiet (fail)
        go_wp2_with fail
        go_meet
        exact ⟨rfl, Lib.hid (below_drewN (Below.refl _ _) _)⟩
    case rest =>
      obtain ⟨rfl, HB⟩ := hcut
      generalize wc = w2 at *
      have hA := eyAt_below HV.out.1 HB.out
      have HE := Lib.hid (eyV_then HV.out (eyV_from HB.out (ey_bad hA)))
      obtain ⟨_, _, a1, k1, h3, _, _⟩ := hA
      have d2' := Rw.cell h3 (j := 2) (v := .bool b) rfl
      have e2' := Rw.free h3 2
      clear h3 d0 d1 d2 e2 hw hi6 hL6 hbad
      go_wp2_with fail
      go_ret
      rw [HR.out]
      exact ⟨rfl, HE.out⟩
  · have hb : b = false := by cases b <;> simp_all
    subst hb
    have hNL : ¬ ((L : Int) - (i : Int) < (N : Int)) := fun hh => hbad (.inr hh)
    have HR : Hid (y = ((l.drop i).take N, i + N, false)) := Lib.hid (by rw [HY.out, if_neg hbad])
    have HNL : Hid (i + N ≤ L) := Lib.hid (by omega)
    have ht : decide ((L : Int) - (i : Int) < (N : Int)) = false := decide_eq_false hNL
    clear HY hbad
    go_cut [23] from 6 (fun c23 wx => c23 = .bool false ∧ Hid (Below w1.heap.size w1 wx))
    case first =>
      go_quiet (fail)
      go_wp2_with fail
      go_meet
      exact ⟨rfl, Lib.hid (below_drewN (Below.refl _ _) _)⟩
    case rest =>
      obtain ⟨rfl, HB⟩ := hcut
      generalize wc = w2 at *
      have hA := eyAt_below HV.out.1 HB.out
      have HG5 := Lib.hid (ey_go hA (i := i + N) (by rw [← HL.out]; exact HNL.out))
      obtain ⟨_, _, a2, k2, h3, _, _⟩ := hA
      have g1 := Rw.cell h3 (j := 1) rfl
      have f1 := Rw.free h3 1
      dsimp only at g1
      have hw5 : IntKind.i64.wrap ((i : Int) + (N : Int)) = (i : Int) + (N : Int) := IntWalk.i64_in _ (by have := HNL.out; omega)
      have hN6 : (N : Int) ≤ 1000000 := by have := HNL.out; omega
      obtain ⟨w3, hw3⟩ : ∃ w3, w3 = w2.setCell ⟨g, 1, none⟩ (.int .i64 ((i + N : Nat) : Int)) := ⟨_, rfl⟩
      rw [← hw3] at HG5
      have hw3' : w3 = w2.setCell ⟨g, 1, none⟩ (.int .i64 ((i : Int) + (N : Int))) := by rw [hw3]; congr 2
      have HW3 := Lib.hid hw3'
      have hi0 : 0 ≤ (i : Int) := by omega
      have hN0 : 0 ≤ (N : Int) := by omega
      clear h3 hw3 hw3' d0 d1 d2 e2 hw ht h2 h4 h5 hNL
      go_upto_region 6 with fail
      rw [← HW3.out]
      clear g1 f1
      obtain ⟨_, h2, a3, k3, h3, h4, h5⟩ := HG5.out.1
      have g0 : w3.cell? ⟨g, 0, none⟩ = some (.slice a3 L k3) := by rw [HL.out]; exact Rw.cell h3 (j := 0) rfl
      have g1 : w3.cell? ⟨g, 1, none⟩ = some (.int .i64 ((i : Int) + (N : Int))) := Rw.cell h3 (j := 1) rfl
      have hw6 : IntKind.i64.wrap ((i : Int) + (N : Int) - (N : Int)) = (i : Int) := by rw [IntWalk.i64_in _ (by omega)]; omega
      obtain ⟨A, hA, hsl⟩ := slice_both Try.elemBy Try.sizeBy (w := w3) (B := B) a3 L k3 i N l (by have := HNL.out; rw [← HL.out] at h4; omega) h5 (by rw [← HL.out]; exact HNL.out)
      obtain ⟨K3, hK3⟩ : ∃ K3, K3 = k3 - i := ⟨_, rfl⟩
      rw [← hK3] at hsl
      have hKN : N ≤ K3 := by rw [hK3]; have := HNL.out; rw [← HL.out] at h4; omega
      obtain ⟨l2, hl2⟩ : ∃ l2, l2 = (l.drop i).take N := ⟨_, rfl⟩
      have hl2l : l2.length = N := by rw [hl2, List.length_take, List.length_drop]; have := HNL.out; have := HL.out; omega
      rw [← hl2] at hA
      have HBY : Hid (BySl w3 B (.slice A N K3) l2) := Lib.hid ⟨A, K3, by rw [hl2l], by omega, hA⟩
      have hcv : ∀ m, (convert 30 9 (.slice A N K3)).run Try.prog (w3.drewN m) = .ok (.string ⟨l2.toArray⟩) (w3.drewN m) := fun m => run_convert_bysl 30 5 9 Try.underlying30 Try.underlying5 Try.underlying9 (bySl_below HBY.out (below_drewN (Below.refl _ _) m))
      have HR2 : Hid (y = (l2, i + N, false)) := Lib.hid (by rw [HR.out, hl2])
      have HE := Lib.hid (eyV_then HV.out (eyV_from HB.out HG5.out))
      clear h2 h3 h4 h5 hA hK3 hKN hl2 hl2l HR
      go_quiet (fail)
      go_wp2_with fail
      go_ret
      rw [HR2.out]
      exact ⟨rfl, ⟨eyAt_below HE.out.1 (below_drewN (Below.refl _ _) _), kept_then (G := fun _ => False) HE.out.2 (kept_below (below_drewN (Below.refl _ _) _)) (fun _ h => h.elim)⟩⟩

def intsE (l : List UInt8) : Nat → Nat × Bool → List Int × Nat × Bool
  | 0, s => ([], s)
  | k + 1, s => if s.2 = true then ([], s) else ((numE l 8 s).1 :: (intsE l k (numE l 8 s).2).1, (intsE l k (numE l 8 s).2).2)

def lstE (l : List UInt8) (s : Nat × Bool) : List Int × Nat × Bool := intsE l (numE l 1 s).1.toNat (numE l 1 s).2

theorem intsE_bad (l : List UInt8) (k : Nat) {s : Nat × Bool} (h : s.2 = true) : intsE l k s = ([], s) := by
  cases k with
  | zero => rfl
  | succ k => rw [intsE, if_pos h]

theorem intsE_go {l : List UInt8} {k N : Nat} {s s0 : Nat × Bool} {cs : List Int} (hk : k < N) (hb : s.2 = false) (h : intsE l N s0 = (cs ++ (intsE l (N - k) s).1, (intsE l (N - k) s).2)) : intsE l N s0 = ((cs ++ [(numE l 8 s).1]) ++ (intsE l (N - (k + 1)) (numE l 8 s).2).1, (intsE l (N - (k + 1)) (numE l 8 s).2).2) := by
  rw [h, show N - k = (N - (k + 1)) + 1 by omega, intsE, if_neg (by rw [hb]; decide)]
  simp

theorem numE_one (l : List UInt8) (s : Nat × Bool) : 0 ≤ (numE l 1 s).1 ∧ (numE l 1 s).1 < 256 := by
  unfold numE
  split
  · show (0 : Int) ≤ 0 ∧ (0 : Int) < 256
    decide
  · have h : numS ((l.drop s.1).take 1) < 256 ^ 1 := numS_lt8 (by rw [List.length_take]; omega)
    have h2 : numS ((l.drop s.1).take 1) < 256 := h
    show 0 ≤ sgn _ ∧ sgn _ < _
    unfold sgn
    rw [if_pos (by omega)]
    omega

def EyLst (w w' : World) (B g : Nat) (l : List UInt8) (e : Ending) (q : List Int × Nat × Bool) : Prop := ∃ v', e = .returned v' ∧ w'.ownsRow w.heap.size 3 1 v' q.1.length (q.1.map kiV) ∧ EyV w w' B g l q.2

theorem eyV_base {w w1 w2 : World} {B g : Nat} {l : List UInt8} {s : Nat × Bool} (h : EyV w w1 B g l s) (hg : g < w.heap.size) (hb : Below w.heap.size w1 w2) : EyV w w2 B g l s := by
  obtain ⟨⟨h1, h2, a, c, h3, h4, h5⟩, hk⟩ := h
  refine ⟨⟨h1, h2, a, c, ⟨Nat.zero_le _, by rw [hb.block g hg]; exact h3.2⟩, h4, lies_keep h5 (fun k hk1 _ => hb.block k (by omega))⟩, ?_⟩
  exact ⟨hb.os.trans hk.os, hb.tape.trans hk.tape, hb.output.trans hk.output, Nat.le_trans hk.size hb.size, fun k hk1 hk2 => (hb.block k hk1).trans (hk.blk k hk1 hk2)⟩

theorem eyAt_lt {w : World} {B g : Nat} {l : List UInt8} {s : Nat × Bool} (h : EyAt w B g l s) : g < w.heap.size := by
  obtain ⟨_, _, a, c, h2, _⟩ := h
  exact Rw.size h2

theorem eyAt_cell {w : World} {B g : Nat} {l : List UInt8} {s : Nat × Bool} (h : EyAt w B g l s) : w.cell? ⟨g, 2, none⟩ = some (.bool s.2) := by
  obtain ⟨_, _, a, c, h2, _⟩ := h
  exact Rw.cell h2 (j := 2) rfl

set_option maxRecDepth 100000 in
set_option maxHeartbeats 4000000 in
theorem eyints_any {w : World} {B g : Nat} {l : List UInt8} {s : Nat × Bool} (h : EyAt w B g l s) (hl : l.length ≤ 1000000) :
    Calls Try.prog 28 #[.pointer (some ⟨g, 0, none⟩)] w fun e w' => EyLst w w' B g l e (lstE l s) := by
  have HNM := Lib.hid (eynum_any h 1 (by decide) hl)
  have hp := numE_one l s
  have HG := Lib.hid (eyAt_lt h)
  have HLL := Lib.hid hl
  have HY : Hid (lstE l s = intsE l (numE l 1 s).1.toNat (numE l 1 s).2) := Lib.hid rfl
  obtain ⟨q, hq⟩ : ∃ q, q = numE l 1 s := ⟨_, rfl⟩
  obtain ⟨y, hy⟩ : ∃ y, y = lstE l s := ⟨_, rfl⟩
  rw [← hq] at HNM HY hp
  rw [← hy] at HY ⊢
  obtain ⟨x, s2⟩ := q
  dsimp only at HY hp
  obtain ⟨N, rfl⟩ := Int.eq_ofNat_of_zero_le hp.1
  rw [Int.toNat_natCast] at HY
  have HN : Hid (N < 256) := Lib.hid (by omega)
  obtain ⟨i0, hi, hz, hz1, hz2⟩ := info_parts Try.infoInt
  clear h hq hy hp hl
  go_enter Try.func28, Try.ntmps28
  go_wp2_with fail
  refine (HNM.out).mono ?_
  rintro e w1 ⟨rfl, hv1⟩
  dsimp only at hv1 ⊢
  have HV1 := Lib.hid hv1
  clear hv1 HNM
  go_wp2_with fail
  go_loopw [4, 5] (fun v i wr => ∃ (k : Nat) (a : Option Addr) (c : Nat) (cs : List Int) (s : Nat × Bool), k ≤ N ∧ i = .int .i64 k ∧ v = .slice a k c ∧ Hid (cs.length = k ∧ intsE l N s2 = (cs ++ (intsE l (N - k) s).1, (intsE l (N - k) s).2)) ∧ Hid (wr.ownsRow w.heap.size 3 1 (.slice a k c) k (cs.map kiV)) ∧ Hid (EyV w wr B g l s)) (fun _ i _ => N - (intOf i).toNat)
  case atStart => exact ⟨0, none, 0, [], s2, Nat.zero_le _, rfl, rfl, Lib.hid ⟨rfl, rfl⟩, Lib.hid (World.ownsRow_nil _ _ _ _), HV1⟩
  case round =>
    obtain ⟨k, a, c, cs, s3, hk, rfl, rfl, HC, HO, HV⟩ := hrel
    obtain ⟨w3, hw3⟩ : ∃ w3 : World, w3 = wr := ⟨_, rfl⟩
    subst hw3
    have d2 := eyAt_cell HV.out.1
    by_cases hlt : k < N
    · have hy : (k : Int) < (N : Int) := by omega
      have hk8 : (k : Int) < 256 := by have := HN.out; omega
      have HKL := Lib.hid hlt
      have hkb : k < 1099511627776 := by have := HN.out; omega
      cases hb : s3.2 with
      | true =>
        rw [hb] at d2
        have HE : Hid (w3.ownsRow w.heap.size 3 1 (.slice a k c) y.1.length (y.1.map kiV) ∧ EyV w w3 B g l y.2) := Lib.hid (by
          rw [HY.out, HC.out.2, intsE_bad l _ hb, List.append_nil, HC.out.1]
          exact ⟨HO.out, HV.out⟩)
        clear hlt hk hb
        go_wp2_with fail
        go_ret
        exact ⟨_, rfl, HE.out.1, HE.out.2⟩
      | false =>
        rw [hb] at d2
        have HNX := Lib.hid (eynum_any HV.out.1 8 (by decide) HLL.out)
        have HSN := Lib.hid (intsE_go hlt hb HC.out.2)
        obtain ⟨q2, hq2⟩ : ∃ q2, q2 = numE l 8 s3 := ⟨_, rfl⟩
        rw [← hq2] at HNX HSN
        obtain ⟨z, s4⟩ := q2
        dsimp only at HSN
        clear hq2 hlt hk hb
        go_wp2_with fail
        refine (HNX.out).mono ?_
        rintro e w4 ⟨rfl, hv4⟩
        dsimp only at hv4 ⊢
        have HV4 := Lib.hid (eyV_then HV.out hv4)
        have HO4 := Lib.hid (own_off HO.out HG.out hv4.2)
        have HB4 : Hid (w.heap.size ≤ w4.heap.size) := Lib.hid HV4.out.2.size
        clear hv4 HNX d2
        go_wp2_with (at_builtin; refine wpList_append1 rfl _ _ 23 rfl w.heap.size 3 rfl i0 (.int .i64 0) 8 Try.underlying23 hi hz hz1 hz2 rfl (.slice a k c) k _ rfl HO4.out rfl rfl hkb (by decide) HB4.out ?_; intro v8 w8 hown8 hb8; obtain ⟨a8, c8, rfl⟩ := own_len hown8)
        have HO8 := Lib.hid hown8
        have HB8 := Lib.hid hb8
        clear hown8 hb8
        go_roundw
        case rel =>
          refine ⟨k + 1, a8, c8, cs ++ [z], s4, HKL.out, by go_num, rfl, Lib.hid ⟨by rw [List.length_append, HC.out.1]; rfl, HSN.out⟩, Lib.hid ?_, Lib.hid ?_⟩
          · rw [List.map_append]
            exact HO8.out
          · exact eyV_base HV4.out HG.out HB8.out
        case measure => have := HKL.out; simp [intOf]; omega
    · have hyk : ¬ (k : Int) < (N : Int) := by omega
      have hkn : k = N := by omega
      have HE : Hid (w3.ownsRow w.heap.size 3 1 (.slice a k c) y.1.length (y.1.map kiV) ∧ EyV w w3 B g l y.2) := Lib.hid (by
        rw [HY.out, HC.out.2, show N - k = 0 by omega, intsE, List.append_nil, HC.out.1]
        exact ⟨HO.out, HV.out⟩)
      clear hlt hk hkn
      go_wp2_with fail
      go_ret
      exact ⟨_, rfl, HE.out.1, HE.out.2⟩

def entE1 (l : List UInt8) (s : Nat × Bool) : EntM × Nat × Bool :=
  let a := numE l 8 s; let b := numE l 8 a.2; let c := numE l 8 b.2; let d := txtE l c.2; let e := lstE l d.2
  (⟨a.1, b.1, c.1, ⟨d.1.toArray⟩, e.1⟩, e.2)

def entsE (l : List UInt8) : Nat → Nat × Bool → List EntM × Nat × Bool
  | 0, s => ([], s)
  | k + 1, s => if s.2 = true then ([], s) else ((entE1 l s).1 :: (entsE l k (entE1 l s).2).1, (entsE l k (entE1 l s).2).2)

theorem entsE_bad (l : List UInt8) (k : Nat) {s : Nat × Bool} (h : s.2 = true) : entsE l k s = ([], s) := by
  cases k with
  | zero => rfl
  | succ k => rw [entsE, if_pos h]

theorem entsE_go {l : List UInt8} {k N : Nat} {s s0 : Nat × Bool} {cs : List EntM} (hk : k < N) (hb : s.2 = false) (h : entsE l N s0 = (cs ++ (entsE l (N - k) s).1, (entsE l (N - k) s).2)) : entsE l N s0 = ((cs ++ [(entE1 l s).1]) ++ (entsE l (N - (k + 1)) (entE1 l s).2).1, (entsE l (N - (k + 1)) (entE1 l s).2).2) := by
  rw [h, show N - k = (N - (k + 1)) + 1 by omega, entsE, if_neg (by rw [hb]; decide)]
  simp

def headE (l : List UInt8) : MsgM × Nat × Bool :=
  let k := numE l 1 (0, false); let a := numE l 8 k.2; let b := numE l 8 a.2; let c := numE l 8 b.2
  (⟨k.1, a.1, b.1, c.1, 0, 0, 0, false, [], zeroSn⟩, c.2)

def snpE (l : List UInt8) (s : Nat × Bool) : SnpM × Nat × Bool :=
  let a := numE l 8 s; let b := numE l 8 a.2; let e := lstE l b.2; let d := txtE l e.2
  (⟨a.1, b.1, e.1, ⟨d.1.toArray⟩⟩, d.2)

def bodyE (l : List UInt8) (m : MsgM) (s : Nat × Bool) : MsgM × Nat × Bool :=
  if m.kd = 1 then let a := numE l 8 s; let b := numE l 8 a.2; ({ m with ix := a.1, lt := b.1 }, b.2)
  else if m.kd = 2 then let a := yesE l s; ({ m with yes := a.1 }, a.2)
  else if m.kd = 3 then let a := numE l 8 s; let b := numE l 8 a.2; let c := numE l 8 b.2; let n := numE l 1 c.2; let e := entsE l n.1.toNat n.2; ({ m with ix := a.1, lt := b.1, cm := c.1, es := e.1 }, e.2)
  else if m.kd = 4 then let a := yesE l s; let b := numE l 8 a.2; ({ m with yes := a.1, ix := b.1 }, b.2)
  else if m.kd = 5 then let a := snpE l s; ({ m with sn := a.1 }, a.2)
  else (m, s)

def refE (l : List UInt8) : MsgM × Nat × Bool := bodyE l (headE l).1 (headE l).2

/-- What is still to be read. -/
def atE (l : List UInt8) (s : Nat × Bool) (r : List UInt8) : Prop := s.2 = false ∧ s.1 ≤ l.length ∧ l.drop s.1 = r

theorem numE_back {l r : List UInt8} {s : Nat × Bool} {n v : Nat} (h : atE l s (layS n v ++ r)) (hv : v < 256 ^ n) (h2 : v < 9223372036854775808) : (numE l n s).1 = (v : Int) ∧ atE l (numE l n s).2 r := by
  obtain ⟨hb, hi, hd⟩ := h
  have hl : l.length - s.1 = n + r.length := by rw [← List.length_drop, hd, List.length_append, layS_len]
  have ht : (l.drop s.1).take n = layS n v := by rw [hd, List.take_left' (layS_len n v)]
  have hn : numS (layS n v) = v := by rw [num_lay, Nat.mod_eq_of_lt hv]
  unfold numE
  rw [if_neg (by rw [hb]; simp; omega), ht, hn]
  refine ⟨by show sgn v = _; unfold sgn; rw [if_pos h2], ?_, ?_, ?_⟩
  · show decide _ = false
    exact decide_eq_false (by omega)
  · show s.1 + n ≤ _
    omega
  · show l.drop (s.1 + n) = r
    rw [← List.drop_drop, hd, List.drop_left' (layS_len n v)]

theorem intE_back {l r : List UInt8} {s : Nat × Bool} {n : Int} (h : atE l s (intW n ++ r)) (h0 : 0 ≤ n) (h2 : n < 9223372036854775808) : (numE l 8 s).1 = n ∧ atE l (numE l 8 s).2 r := by
  have h1 := numE_back (n := 8) (v := n.toNat) h (by have : (256 : Nat) ^ 8 = 18446744073709551616 := by decide
                                                     omega) (by omega)
  refine ⟨by rw [h1.1]; omega, h1.2⟩

theorem intE_back3 {l r : List UInt8} {s : Nat × Bool} {x : Int} {xs : List Int} (h : atE l s (intW x ++ r)) (h0 : natsB xs = true) (hs : smallI xs) (hx : x ∈ xs) : (numE l 8 s).1 = x ∧ atE l (numE l 8 s).2 r := intE_back h ((natsB_iff _).1 h0 x hx) (hs x hx)

theorem intsE_back {l : List UInt8} : ∀ (xs : List Int) (r : List UInt8) (s : Nat × Bool), natsB xs = true → smallI xs → atE l s (intsW xs ++ r) → (intsE l xs.length s).1 = xs ∧ atE l (intsE l xs.length s).2 r
  | [], r, s, _, _, h => ⟨rfl, by show atE l s r; simpa [intsW] using h⟩
  | x :: xs, r, s, h0, hs, h => by
    rw [intsW_cons, List.append_assoc] at h
    have hb := h.1
    obtain ⟨a1, s1⟩ := intE_back3 h h0 hs (by simp)
    obtain ⟨a2, s2⟩ := intsE_back xs r _ ((natsB_iff _).2 fun n hn => (natsB_iff _).1 h0 n (by simp [hn])) (fun n hn => hs n (by simp [hn])) s1
    rw [List.length_cons, intsE, if_neg (by rw [hb]; decide)]
    exact ⟨by show _ :: _ = _; rw [a1, a2], s2⟩

theorem lstE_back {l r : List UInt8} {s : Nat × Bool} {xs : List Int} (h : atE l s (lstW xs ++ r)) (hm : memsB xs = true) (hs : smallI xs) : (lstE l s).1 = xs ∧ atE l (lstE l s).2 r := by
  unfold memsB at hm
  simp only [Bool.and_eq_true, decide_eq_true_eq] at hm
  unfold lstW at h
  rw [List.append_assoc] at h
  obtain ⟨a1, s1⟩ := numE_back h (by omega) (by omega)
  unfold lstE
  rw [a1, Int.toNat_natCast]
  exact intsE_back xs r _ hm.2 hs s1

theorem txtE_back {l r : List UInt8} {s : Nat × Bool} {d : ByteArray} (h : atE l s (txtW d ++ r)) (hd : d.size < 4294967296) : (txtE l s).1 = d.data.toList ∧ atE l (txtE l s).2 r := by
  unfold txtW at h
  rw [List.append_assoc] at h
  obtain ⟨a1, s1⟩ := numE_back h (by omega) (by omega)
  obtain ⟨hb, hi, hdr⟩ := s1
  have hl : l.length - (numE l 4 s).2.1 = d.size + r.length := by rw [← List.length_drop, hdr, List.length_append, size_data]
  unfold txtE
  rw [a1, if_neg (by rw [hb]; simp; omega), Int.toNat_natCast]
  refine ⟨?_, rfl, ?_, ?_⟩
  · show (l.drop _).take _ = _
    rw [hdr, List.take_left' (size_data d)]
  · show _ + d.size ≤ _
    omega
  · show l.drop (_ + d.size) = r
    rw [← List.drop_drop, hdr, List.drop_left' (size_data d)]

theorem yesE_back {l r : List UInt8} {s : Nat × Bool} {y : Bool} (h : atE l s (yesW y ++ r)) : (yesE l s).1 = y ∧ atE l (yesE l s).2 r := by
  unfold yesW at h
  obtain ⟨a1, s1⟩ := numE_back h (by cases y <;> decide) (by cases y <;> decide)
  unfold yesE
  rw [a1]
  obtain ⟨hb, hi, hdr⟩ := s1
  refine ⟨by cases y <;> rfl, ?_, hi, hdr⟩
  show (_ || _) = false
  rw [hb]
  cases y <;> rfl

theorem entE1_back {l r : List UInt8} {s : Nat × Bool} {e : EntM} (ha : atE l s (entW e ++ r)) (h : entB e = true) (hs : smallE e) : (entE1 l s).1 = e ∧ atE l (entE1 l s).2 r := by
  unfold entB at h
  simp only [Bool.and_eq_true, decide_eq_true_eq] at h
  obtain ⟨⟨h1, h2⟩, h3⟩ := h
  have e0 : entW e ++ r = intW e.ix ++ (intW e.tm ++ (intW e.kd ++ (txtW e.d ++ (lstW e.ms ++ r)))) := by
    unfold entW
    simp only [intsW_cons, intsW_nil, List.append_nil, List.append_assoc]
  rw [e0] at ha
  obtain ⟨a1, s1⟩ := intE_back3 ha h1 hs.1 (by simp)
  obtain ⟨a2, s2⟩ := intE_back3 s1 h1 hs.1 (by simp)
  obtain ⟨a3, s3⟩ := intE_back3 s2 h1 hs.1 (by simp)
  obtain ⟨a4, s4⟩ := txtE_back s3 (by omega)
  obtain ⟨a5, s5⟩ := lstE_back s4 h3 hs.2
  refine ⟨?_, s5⟩
  unfold entE1
  dsimp only
  rw [a1, a2, a3, a4, a5, bytes_back]

theorem entsE_back {l : List UInt8} : ∀ (xs : List EntM) (r : List UInt8) (s : Nat × Bool), xs.all entB = true → (∀ e ∈ xs, smallE e) → atE l s (entsW xs ++ r) → (entsE l xs.length s).1 = xs ∧ atE l (entsE l xs.length s).2 r
  | [], r, s, _, _, h => ⟨rfl, by show atE l s r; simpa [entsW] using h⟩
  | x :: xs, r, s, h0, hs, h => by
    simp only [List.all_cons, Bool.and_eq_true] at h0
    rw [entsW_cons, List.append_assoc] at h
    have hb := h.1
    obtain ⟨a1, s1⟩ := entE1_back h h0.1 (hs x (by simp))
    obtain ⟨a2, s2⟩ := entsE_back xs r _ h0.2 (fun n hn => hs n (by simp [hn])) s1
    rw [List.length_cons, entsE, if_neg (by rw [hb]; decide)]
    exact ⟨by show _ :: _ = _; rw [a1, a2], s2⟩

theorem snpE_back {l r : List UInt8} {s : Nat × Bool} {e : SnpM} (ha : atE l s (snpW e ++ r)) (h : snpB e = true) (hs : smallS e) : (snpE l s).1 = e ∧ atE l (snpE l s).2 r := by
  unfold snpB at h
  simp only [Bool.and_eq_true, decide_eq_true_eq] at h
  obtain ⟨⟨h1, h2⟩, h3⟩ := h
  have e0 : snpW e ++ r = intW e.ix ++ (intW e.tm ++ (lstW e.ms ++ (txtW e.d ++ r))) := by
    unfold snpW
    simp only [intsW_cons, intsW_nil, List.append_nil, List.append_assoc]
  rw [e0] at ha
  obtain ⟨a1, s1⟩ := intE_back3 ha h1 hs.1 (by simp)
  obtain ⟨a2, s2⟩ := intE_back3 s1 h1 hs.1 (by simp)
  obtain ⟨a3, s3⟩ := lstE_back s2 h3 hs.2
  obtain ⟨a4, s4⟩ := txtE_back s3 (by omega)
  refine ⟨?_, s4⟩
  unfold snpE
  dsimp only
  rw [a1, a2, a3, a4, bytes_back]

theorem headE_back {l r : List UInt8} {m : MsgM} (ha : l = layS 1 m.kd.toNat ++ intsW [m.fr, m.to, m.tm] ++ r) (h : okMB m = true) (hs : smallM m) : (headE l).1 = ⟨m.kd, m.fr, m.to, m.tm, 0, 0, 0, false, [], zeroSn⟩ ∧ atE l (headE l).2 r := by
  obtain ⟨h1, h2, h3, h4, _⟩ := okMB_parts h
  have e0 : layS 1 m.kd.toNat ++ intsW [m.fr, m.to, m.tm] ++ r = layS 1 m.kd.toNat ++ (intW m.fr ++ (intW m.to ++ (intW m.tm ++ r))) := by
    simp only [intsW_cons, intsW_nil, List.append_nil, List.append_assoc]
  have hA : atE l (0, false) (layS 1 m.kd.toNat ++ (intW m.fr ++ (intW m.to ++ (intW m.tm ++ r)))) := ⟨rfl, Nat.zero_le _, by rw [← e0]; exact ha⟩
  obtain ⟨a1, s1⟩ := numE_back hA (by omega) (by omega)
  obtain ⟨a2, s2⟩ := intE_back s1 (by omega) (by omega)
  obtain ⟨a3, s3⟩ := intE_back s2 (by omega) (by omega)
  obtain ⟨a4, s4⟩ := intE_back s3 ((natsB_iff _).1 h4 _ (by simp)) (hs.1 _ (by simp))
  refine ⟨?_, s4⟩
  unfold headE
  dsimp only
  rw [a1, a2, a3, a4, Int.toNat_of_nonneg (by omega)]

theorem refE_back {m : MsgM} (h : okMB m = true) (hs : smallM m) : (refE (msgW m)).1 = m ∧ (refE (msgW m)).2.2 = false := by
  obtain ⟨h1, h2, h3, h4, h5, h6, h7⟩ := okMB_parts h
  have hsI : smallI [m.tm, m.ix, m.lt, m.cm] := fun n hn => hs.1 n (by simp only [List.mem_cons, List.not_mem_nil, or_false] at hn; rcases hn with rfl | rfl | rfl | rfl <;> simp)
  obtain ⟨l, hl⟩ : ∃ l, l = msgW m := ⟨_, rfl⟩
  rw [← hl]
  unfold msgW at hl
  obtain ⟨a0, s0⟩ := headE_back hl h hs
  have s0' : atE l (headE l).2 (bodyW m ++ []) := by rw [List.append_nil]; exact s0
  clear s0 hl
  suffices key : ∀ s, atE l s (bodyW m ++ []) → (bodyE l ⟨m.kd, m.fr, m.to, m.tm, 0, 0, 0, false, [], zeroSn⟩ s).1 = m ∧ (bodyE l ⟨m.kd, m.fr, m.to, m.tm, 0, 0, 0, false, [], zeroSn⟩ s).2.2 = false by
    unfold refE
    rw [a0]
    exact key _ s0'
  intro s hA
  clear s0' a0
  unfold bodyE
  unfold bodyW at hA
  dsimp only
  obtain ⟨kd, fr, tq, tm, ix, lt, cm, yes, es, sn⟩ := m
  dsimp only at h1 h2 h3 h4 h5 h6 h7 hsI hA ⊢
  have hkd : kd = 1 ∨ kd = 2 ∨ kd = 3 ∨ kd = 4 ∨ kd = 5 := by omega
  rcases hkd with rfl | rfl | rfl | rfl | rfl
  · obtain ⟨g1, g2, g3, g4, g5, g6⟩ := emptyB_parts h7
    simp [unlM] at g1 g2 g3 g4 g5 g6
    subst g3 g4 g5 g6
    simp only [if_true, intsW_cons, intsW_nil, List.append_nil, List.append_assoc] at hA ⊢
    obtain ⟨a1, s1⟩ := intE_back3 hA h4 hsI (by simp)
    rw [← List.append_nil (intW lt)] at s1
    obtain ⟨a2, s2⟩ := intE_back3 s1 h4 hsI (by simp)
    exact ⟨by rw [a1, a2], s2.1⟩
  · obtain ⟨g1, g2, g3, g4, g5, g6⟩ := emptyB_parts h7
    simp [unlM] at g1 g2 g3 g4 g5 g6
    subst g1 g2 g3 g5 g6
    rw [if_neg (by decide), if_pos rfl] at hA ⊢
    obtain ⟨a1, s1⟩ := yesE_back hA
    exact ⟨by dsimp only; rw [a1], s1.1⟩
  · obtain ⟨g1, g2, g3, g4, g5, g6⟩ := emptyB_parts h7
    simp [unlM] at g1 g2 g3 g4 g5 g6
    subst g4 g6
    unfold entsB at h5
    simp only [Bool.and_eq_true, decide_eq_true_eq] at h5
    rw [if_neg (by decide), if_neg (by decide), if_pos rfl] at hA ⊢
    simp only [intsW_cons, intsW_nil, List.append_nil, List.append_assoc] at hA
    obtain ⟨a1, s1⟩ := intE_back3 hA h4 hsI (by simp)
    obtain ⟨a2, s2⟩ := intE_back3 s1 h4 hsI (by simp)
    obtain ⟨a3, s3⟩ := intE_back3 s2 h4 hsI (by simp)
    obtain ⟨a4, s4⟩ := numE_back s3 (by omega) (by omega)
    rw [← List.append_nil (entsW es)] at s4
    obtain ⟨a5, s5⟩ := entsE_back es [] _ h5.2 hs.2.1 s4
    dsimp only
    rw [a4, Int.toNat_natCast]
    exact ⟨by rw [a1, a2, a3, a5], s5.1⟩
  · obtain ⟨g1, g2, g3, g4, g5, g6⟩ := emptyB_parts h7
    simp [unlM] at g1 g2 g3 g4 g5 g6
    subst g2 g3 g5 g6
    rw [if_neg (by decide), if_neg (by decide), if_neg (by decide), if_pos rfl] at hA ⊢
    simp only [intsW_cons, intsW_nil, List.append_nil] at hA
    obtain ⟨a1, s1⟩ := yesE_back hA
    rw [← List.append_nil (intW ix)] at s1
    obtain ⟨a2, s2⟩ := intE_back3 s1 h4 hsI (by simp)
    exact ⟨by dsimp only; rw [a1, a2], s2.1⟩
  · obtain ⟨g1, g2, g3, g4, g5, g6⟩ := emptyB_parts h7
    simp [unlM] at g1 g2 g3 g4 g5 g6
    subst g1 g2 g3 g4 g5
    rw [if_neg (by decide), if_neg (by decide), if_neg (by decide), if_neg (by decide), if_pos rfl] at hA ⊢
    obtain ⟨a1, s1⟩ := snpE_back hA h6 hs.2.2
    exact ⟨by dsimp only; rw [a1], s1.1⟩

/-- Whether bytes are read and written again as they are. -/
def okE (l : List UInt8) : Bool := !(refE l).2.2 && decide (codW (refE l).1 = 0) && decide (encW (refE l).1 = l)

theorem okE_good {l : List UInt8} (hs : smallM (refE l).1) : okE l = goodR l ∧ (okE l = true → (refE l).1 = decR l) := by
  have key : okE l = true → goodR l = true ∧ (refE l).1 = decR l := by
    intro h
    unfold okE at h
    simp only [Bool.and_eq_true, decide_eq_true_eq, Bool.not_eq_true'] at h
    obtain ⟨⟨_, h2⟩, h3⟩ := h
    have hok : okMB (refE l).1 = true := by
      cases hk : okMB (refE l).1 with
      | true => rfl
      | false => unfold codW at h2; rw [if_neg (by rw [hk]; decide)] at h2; cases h2
    unfold encW at h3
    rw [if_pos hok] at h3
    obtain ⟨g1, g2⟩ := dec_back hok hs
    rw [h3] at g1 g2
    exact ⟨g1, g2.symm⟩
  refine ⟨?_, fun h => (key h).2⟩
  cases hk : okE l with
  | true => exact (key hk).1.symm
  | false =>
    cases hg : goodR l with
    | false => rfl
    | true =>
      have h1 := dec_once hg
      have h2 := (goodR_parts hg).2
      obtain ⟨e1, e2⟩ := refE_back h2 (decR_small hg)
      rw [h1] at e1 e2
      have : okE l = true := by
        unfold okE codW encW
        rw [e1, e2, if_pos h2, if_pos h2, h1]
        simp
      rw [hk] at this
      cases this

theorem numE_small (l : List UInt8) (s : Nat × Bool) {n : Nat} (hn : n ≤ 8) : (numE l n s).1 < 9223372036854775808 := numE_lt l hn s

theorem intsE_small (l : List UInt8) : ∀ (k : Nat) (s : Nat × Bool), smallI (intsE l k s).1
  | 0, s => by rw [intsE]; intro n hn; cases hn
  | k + 1, s => by
    rw [intsE]
    split
    · intro n hn; cases hn
    · intro n hn
      rcases List.mem_cons.1 hn with rfl | hn
      · exact numE_small l s (by decide)
      · exact intsE_small l k _ n hn

theorem small_two {a b : Int} (ha : a < 9223372036854775808) (hb : b < 9223372036854775808) : smallI [a, b] := fun n hn => by
  simp only [List.mem_cons, List.not_mem_nil, or_false] at hn
  rcases hn with rfl | rfl
  · exact ha
  · exact hb

theorem small_thr {a b c : Int} (ha : a < 9223372036854775808) (hb : b < 9223372036854775808) (hc : c < 9223372036854775808) : smallI [a, b, c] := fun n hn => by
  simp only [List.mem_cons, List.not_mem_nil, or_false] at hn
  rcases hn with rfl | rfl | rfl
  · exact ha
  · exact hb
  · exact hc

theorem entE1_small (l : List UInt8) (s : Nat × Bool) : smallE (entE1 l s).1 := ⟨small_thr (numE_small l _ (by decide)) (numE_small l _ (by decide)) (numE_small l _ (by decide)), intsE_small l _ _⟩

theorem entsE_small (l : List UInt8) : ∀ (k : Nat) (s : Nat × Bool), ∀ e ∈ (entsE l k s).1, smallE e
  | 0, s => by rw [entsE]; intro n hn; cases hn
  | k + 1, s => by
    rw [entsE]
    split
    · intro n hn; cases hn
    · intro n hn
      rcases List.mem_cons.1 hn with rfl | hn
      · exact entE1_small l s
      · exact entsE_small l k _ n hn

theorem zero_small : (0 : Int) < 9223372036854775808 := by decide

theorem refE_small (l : List UInt8) : smallM (refE l).1 := by
  have hk := numE_small l (0, false) (n := 1) (by decide)
  have hz := zeroSn_small
  have h7 : ∀ {a b c d e f g : Int}, a < 9223372036854775808 → b < 9223372036854775808 → c < 9223372036854775808 → d < 9223372036854775808 → e < 9223372036854775808 → f < 9223372036854775808 → g < 9223372036854775808 → smallI [a, b, c, d, e, f, g] := fun ha hb hc hd he hf hg n hn => by
    simp only [List.mem_cons, List.not_mem_nil, or_false] at hn
    rcases hn with rfl | rfl | rfl | rfl | rfl | rfl | rfl <;> assumption
  have n8 := fun s => numE_small l s (n := 8) (by decide)
  unfold refE bodyE
  split
  · exact ⟨h7 hk (n8 _) (n8 _) (n8 _) (n8 _) (n8 _) zero_small, fun _ h => (List.not_mem_nil h).elim, hz⟩
  split
  · exact ⟨h7 hk (n8 _) (n8 _) (n8 _) zero_small zero_small zero_small, fun _ h => (List.not_mem_nil h).elim, hz⟩
  split
  · exact ⟨h7 hk (n8 _) (n8 _) (n8 _) (n8 _) (n8 _) (n8 _), entsE_small l _ _, hz⟩
  split
  · exact ⟨h7 hk (n8 _) (n8 _) (n8 _) (n8 _) zero_small zero_small, fun _ h => (List.not_mem_nil h).elim, hz⟩
  split
  · exact ⟨h7 hk (n8 _) (n8 _) (n8 _) zero_small zero_small zero_small, fun _ h => (List.not_mem_nil h).elim, small_two (n8 _) (n8 _), intsE_small l _ _⟩
  · exact ⟨h7 hk (n8 _) (n8 _) (n8 _) zero_small zero_small zero_small, fun _ h => (List.not_mem_nil h).elim, hz⟩

theorem refE_ok {l : List UInt8} : (okE l = true → goodR l = true ∧ (refE l).1 = decR l) ∧ (okE l = false → goodR l = false) := by
  obtain ⟨h1, h2⟩ := okE_good (refE_small l)
  exact ⟨fun h => ⟨by rw [← h1]; exact h, h2 h⟩, fun h => by rw [← h1]; exact h⟩

def DS0 (w W : World) (gR gE : Nat) (l : List UInt8) (s : Nat × Bool) : Prop := Below w.heap.size w W ∧ EyAt W w.heap.size gE l s ∧ Rw W 0 gR 27 [.int .i64 0, .int .i64 0, .int .i64 0, .int .i64 0, .int .i64 0, .int .i64 0, .int .i64 0, .bool false, .slice none 0 0, .int .i64 0, .int .i64 0, .slice none 0 0, .string ⟨#[]⟩] ∧ w.heap.size ≤ gR ∧ gR ≠ gE

theorem ds0_num {w W W2 : World} {gR gE : Nat} {l : List UInt8} {s s2 : Nat × Bool} (h : DS0 w W gR gE l s) (hv : EyV W W2 w.heap.size gE l s2) : DS0 w W2 gR gE l s2 :=
  ⟨below_kept (kept_then (kept_below h.1) hv.2 (fun x hx => .inr (by subst hx; exact h.2.1.1))), hv.1, rw_kept h.2.2.1 hv.2 h.2.2.2.2, h.2.2.2⟩

theorem ds0_below {w W W2 : World} {gR gE : Nat} {l : List UInt8} {s : Nat × Bool} (h : DS0 w W gR gE l s) (hb : Below W.heap.size W W2) : DS0 w W2 gR gE l s := ⟨below_then h.1 hb, eyAt_below h.2.1 hb, Rw.below h.2.2.1 hb, h.2.2.2⟩

def DSt (w W : World) (gR gE gM : Nat) (l : List UInt8) (s : Nat × Bool) (cs : List Value) : Prop := DS0 w W gR gE l s ∧ Rw W 0 gM 27 cs ∧ w.heap.size ≤ gM ∧ gM ≠ gE ∧ gR ≠ gM

theorem dst_num {w W W2 : World} {gR gE gM : Nat} {l : List UInt8} {s s2 : Nat × Bool} {cs : List Value} (h : DSt w W gR gE gM l s cs) (hv : EyV W W2 w.heap.size gE l s2) : DSt w W2 gR gE gM l s2 cs :=
  ⟨ds0_num h.1 hv, rw_kept h.2.1 hv.2 h.2.2.2.1, h.2.2⟩

theorem dst_below {w W W2 : World} {gR gE gM : Nat} {l : List UInt8} {s : Nat × Bool} {cs : List Value} (h : DSt w W gR gE gM l s cs) (hb : Below W.heap.size W W2) : DSt w W2 gR gE gM l s cs := ⟨ds0_below h.1 hb, Rw.below h.2.1 hb, h.2.2⟩

theorem dst_set {w W : World} {gR gE gM : Nat} {l : List UInt8} {s : Nat × Bool} {cs : List Value} (h : DSt w W gR gE gM l s cs) (j : Nat) (u : Value) : DSt w (W.setCell ⟨gM, j, none⟩ u) gR gE gM l s (cs.set j u) := by
  obtain ⟨⟨h1, ⟨e1, e2, a, c, e3, e4, e5⟩, h3, h4, h5⟩, h6, h7, h8, h9⟩ := h
  have hk : Kept (fun k => k = gM) W (W.setCell ⟨gM, j, none⟩ u) := kept_put (F := fun k => k = gM) (kept_refl _ _) (.inl rfl) j u
  exact ⟨⟨Below.setCell h1 h7 _, ⟨e1, e2, a, c, rw_kept e3 hk (fun e => h8 e.symm), e4, lies_keep e5 (fun k hkB hks => hk.blk k hks (by omega))⟩, rw_kept h3 hk h9, h4, h5⟩, Rw.stored h6 j u, h7, h8, h9⟩

theorem dst_new {w W : World} {gR gE : Nat} {l : List UInt8} {s : Nat × Bool} (h : DS0 w W gR gE l s) (cs : List Value) : DSt w (W.alloc (.cells cs.toArray 27)) gR gE W.heap.size l s cs :=
  ⟨ds0_below h (below_more (Below.refl _ _) _), Rw.alloc W _ _ (Nat.zero_le _), h.1.size, (by have := eyAt_lt h.2.1; omega), (by have := Rw.size h.2.2.1; omega)⟩

theorem dst_start {w : World} {a : Option Addr} {c : Nat} {l : List UInt8} (h : ByteSl w w.heap.size (.slice a l.length c) l) : DS0 w ((w.alloc (.cells #[.int .i64 0, .int .i64 0, .int .i64 0, .int .i64 0, .int .i64 0, .int .i64 0, .int .i64 0, .bool false, .slice none 0 0, .int .i64 0, .int .i64 0, .slice none 0 0, .string ⟨#[]⟩] 27)).alloc (.cells #[.slice a l.length c, .int .i64 0, .bool false] 63)) w.heap.size (w.heap.size + 1) l (0, false) := by
  have hb1 := below_more (Below.refl _ w) (.cells #[.int .i64 0, .int .i64 0, .int .i64 0, .int .i64 0, .int .i64 0, .int .i64 0, .int .i64 0, .bool false, .slice none 0 0, .int .i64 0, .int .i64 0, .slice none 0 0, .string ⟨#[]⟩] 27)
  have hb2 := below_more hb1 (.cells #[.slice a l.length c, .int .i64 0, .bool false] 63)
  refine ⟨hb2, ⟨by omega, Nat.zero_le _, a, c, ?_, ?_, ?_⟩, Rw.more (Rw.alloc w _ _ (Nat.zero_le _)) _, Nat.le_refl _, by omega⟩
  · have := Rw.alloc (w.alloc (.cells #[.int .i64 0, .int .i64 0, .int .i64 0, .int .i64 0, .int .i64 0, .int .i64 0, .int .i64 0, .bool false, .slice none 0 0, .int .i64 0, .int .i64 0, .slice none 0 0, .string ⟨#[]⟩] 27)) 63 #[.slice a l.length c, .int .i64 0, .bool false] (Nat.zero_le _)
    simpa using this
  · obtain ⟨a', c', hv, hc, _⟩ := bySl_of h
    injection hv with _ _ e3
    rw [e3]
    exact hc
  · obtain ⟨a', c', hv, _, hl⟩ := bySl_below (bySl_of h) hb2
    injection hv with e1 _ _
    rw [← e1] at hl
    exact hl

/-- What Decode leaves. -/
def RDec (w w' : World) (e : Ending) (l : List UInt8) : Prop := Below w.heap.size w w' ∧ ((okE l = true ∧ ∃ ev mv, e = .returned (.tuple #[msgV (refE l).1 ev mv, .int .i64 0]) ∧ MsgAt w' ev mv (refE l).1) ∨ (okE l = false ∧ e = .returned (.tuple #[.agg #[.int .i64 0, .int .i64 0, .int .i64 0, .int .i64 0, .int .i64 0, .int .i64 0, .int .i64 0, .bool false, .slice none 0 0, .int .i64 0, .int .i64 0, .slice none 0 0, .string ⟨#[]⟩], .int .i64 7])))

theorem rdec_no {w w' : World} {l : List UInt8} (h : okE l = false) (hb : Below w.heap.size w w') : RDec w w' (.returned (.tuple #[.agg #[.int .i64 0, .int .i64 0, .int .i64 0, .int .i64 0, .int .i64 0, .int .i64 0, .int .i64 0, .bool false, .slice none 0 0, .int .i64 0, .int .i64 0, .slice none 0 0, .string ⟨#[]⟩], .int .i64 7])) l := ⟨hb, .inr ⟨h, rfl⟩⟩

theorem rdec_yes {w w' : World} {l : List UInt8} {m : MsgM} {ev mv : Value} (h : okE l = true) (hm : (refE l).1 = m) (hA : MsgAt w' ev mv m) (hb : Below w.heap.size w w') : RDec w w' (.returned (.tuple #[msgV m ev mv, .int .i64 0])) l := ⟨hb, .inl ⟨h, ev, mv, by rw [hm], by rw [hm]; exact hA⟩⟩

theorem okE_bad {l : List UInt8} {m : MsgM} {i : Nat} (h : refE l = (m, i, true)) : okE l = false := by unfold okE; rw [h]; rfl

theorem okE_cod {l : List UInt8} {m : MsgM} {i : Nat} {b : Bool} (h : refE l = (m, i, b)) (hc : codW m ≠ 0) : okE l = false := by unfold okE; rw [h]; dsimp only; rw [decide_eq_false hc]; simp

theorem okE_enc {l : List UInt8} {m : MsgM} {i : Nat} {b : Bool} (h : refE l = (m, i, b)) (hc : encW m ≠ l) : okE l = false := by unfold okE; rw [h]; dsimp only; rw [decide_eq_false hc]; simp

theorem okE_all {l : List UInt8} {m : MsgM} {i : Nat} (h : refE l = (m, i, false)) (h1 : codW m = 0) (h2 : encW m = l) : okE l = true := by unfold okE; rw [h]; dsimp only; rw [decide_eq_true h1, decide_eq_true h2]; rfl

theorem ey_own {W W2 : World} {B g n sz : Nat} {v : Value} {xs : List Value} {l : List UInt8} {s : Nat × Bool} (h : W.ownsRow 0 3 sz v n xs) (hE : EyAt W B g l s) (hk : Kept (fun k => k = g) W W2) : W2.ownsRow 0 3 sz v n xs := by
  obtain ⟨_, _, a, c, hr, _⟩ := hE
  exact own_keep h hk (fun k hkk hkg => by subst hkg; exact own_rw h hr (by decide) hkk)

theorem intsE_len (l : List UInt8) : ∀ (k : Nat) (s : Nat × Bool), (intsE l k s).1.length ≤ k
  | 0, s => by rw [intsE]; exact Nat.le_refl _
  | k + 1, s => by
    rw [intsE]
    split
    · exact Nat.zero_le _
    · have := intsE_len l k (numE l 8 s).2
      show (_ :: _).length ≤ _
      rw [List.length_cons]
      omega

theorem lstE_len (l : List UInt8) (s : Nat × Bool) : (lstE l s).1.length ≤ 1000000 := by
  have h1 := intsE_len l (numE l 1 s).1.toNat (numE l 1 s).2
  have h2 := numE_one l s
  unfold lstE
  omega

def EyApp (w W : World) (es : List EntM) (v : Value) : Prop := ∃ ns : List RecE, ns.map (·.e) = es ∧ OwnE W 0 v ns ∧ (∀ k, v.ownBlock = some k → w.heap.size ≤ k)

theorem appE_keep {w W W2 : World} {B g : Nat} {l : List UInt8} {s : Nat × Bool} {es : List EntM} {v : Value} (h : EyApp w W es v) (hE : EyAt W B g l s) (hk : Kept (fun k => k = g) W W2) : EyApp w W2 es v := by
  obtain ⟨ns, h1, h2, h3⟩ := h
  obtain ⟨_, _, a, c, hr, _⟩ := id hE
  exact ⟨ns, h1, ⟨own_keep h2.1 hk (fun k hkk hkg => by subst hkg; exact own_rw h2.1 hr (by decide) hkk), fun r hrr => ⟨ey_own (h2.2 r hrr).1 hE hk, (h2.2 r hrr).2⟩⟩, h3⟩

theorem appE_setM {w W : World} {gM : Nat} {cs : List Value} {es : List EntM} {v : Value} (h : EyApp w W es v) (hr : Rw W 0 gM 27 cs) (j : Nat) (u : Value) : EyApp w (W.setCell ⟨gM, j, none⟩ u) es v := by
  obtain ⟨ns, h1, h2, h3⟩ := h
  exact ⟨ns, h1, ⟨own_store h2.1 hr (by decide) j u, fun r hrr => ⟨own_store (h2.2 r hrr).1 hr (by decide) j u, (h2.2 r hrr).2⟩⟩, h3⟩

theorem appE_nil (w W : World) : EyApp w W [] (.slice none 0 0) := ⟨[], rfl, ⟨World.ownsRow_nil _ _ _ _, fun r hr => by simp at hr⟩, fun k hk => by simp [Value.ownBlock] at hk⟩

theorem appE_add {w w8 w10 : World} {n : Nat} {es : List EntM} {v v' u : Value} {ns : List RecE} {e : EntM} {o : Obj} (hm : ns.map (·.e) = es) (h2 : OwnE w8 0 v ns) (h3 : ∀ k, v.ownBlock = some k → w.heap.size ≤ k) (hle : w.heap.size ≤ w8.heap.size)
    (hu : w8.ownsRow 0 3 1 u e.ms.length (e.ms.map kiV)) (hl : e.ms.length ≤ 1000000) (hn : n = ns.length) (h : w10.ownsRow 0 46 5 v' (n + 1) (rowsE ns ++ cellsE ⟨e, u⟩)) (hg : (w8.alloc o).grownBy w10 v.ownBlock)
    (hat : ∀ k, v'.ownBlock = some k → v.ownBlock = some k ∨ k = w8.heap.size + 1) : EyApp w w10 (es ++ [e]) v' := by
  subst hn
  have hbA : Below w8.heap.size w8 (w8.alloc o) := below_more (Below.refl _ _) o
  have hk4 : Kept (fun k => v.ownBlock = some k) w8 w10 := kept_grown (kept_below hbA) hg (fun k hk => .inl hk)
  have hoff : ∀ {x : Value} {m : Nat} {xs : List Value}, w8.ownsRow 0 3 1 x m xs → w10.ownsRow 0 3 1 x m xs := fun {x m xs} hx => own_keep hx hk4 (fun k hkk hkv => own_unlike h2.1 hx (by decide) hkv hkk)
  refine ⟨ns ++ [⟨e, u⟩], by rw [List.map_append, hm]; rfl, ⟨?_, fun r hr => ?_⟩, fun k hkk => ?_⟩
  · rw [List.length_append, rowsE_app, rowsE_one]
    exact h
  · rcases List.mem_append.1 hr with hr | hr
    · exact ⟨hoff (h2.2 r hr).1, (h2.2 r hr).2⟩
    · simp at hr
      subst hr
      exact ⟨hoff hu, hl⟩
  · rcases hat k hkk with h | h
    · exact h3 k h
    · omega

theorem dst_kept {w W W2 : World} {gR gE gM : Nat} {l : List UInt8} {s : Nat × Bool} {cs : List Value} {F : Nat → Prop} (h : DSt w W gR gE gM l s cs) (hk : Kept F W W2) (hF : ∀ k, F k → w.heap.size ≤ k ∧ k ≠ gR ∧ k ≠ gE ∧ k ≠ gM) : DSt w W2 gR gE gM l s cs := by
  obtain ⟨⟨h1, ⟨e1, e2, a, c, e3, e4, e5⟩, h3, h4, h5⟩, h6, h7, h8, h9⟩ := h
  exact ⟨⟨below_kept (kept_then (kept_below h1) hk (fun x hx => .inr (hF x hx).1)), ⟨e1, e2, a, c, rw_kept e3 hk (fun hf => (hF _ hf).2.2.1 rfl), e4, lies_keep e5 (fun k hkB hks => hk.blk k hks (fun hf => by have := (hF k hf).1; omega))⟩, rw_kept h3 hk (fun hf => (hF _ hf).2.1 rfl), h4, h5⟩, rw_kept h6 hk (fun hf => (hF _ hf).2.2.2 rfl), h7, h8, h9⟩

theorem appE_msg {w W : World} {es : List EntM} {v : Value} (h : EyApp w W es v) (hl : es.length ≤ 1000000) {kd fr tq tm ix lt cm : Int} {yes : Bool} : MsgOwn W v (.slice none 0 0) ⟨kd, fr, tq, tm, ix, lt, cm, yes, es, zeroSn⟩ := by
  obtain ⟨ns, h1, h2, _⟩ := h
  exact ⟨⟨ns, h1, h2⟩, hl, World.ownsRow_nil _ _ _ _, by simp [zeroSn]⟩

theorem eyAt_unlike {w : World} {B g n sz : Nat} {v : Value} {xs : List Value} {l : List UInt8} {s : Nat × Bool} (h : w.ownsRow 0 46 sz v n xs) (hE : EyAt w B g l s) : v.ownBlock ≠ some g := by
  obtain ⟨_, _, a, c, hr, _⟩ := hE
  exact own_rw h hr (by decide)

end Go.Proofs.Ythpljpbiamjmaaa
