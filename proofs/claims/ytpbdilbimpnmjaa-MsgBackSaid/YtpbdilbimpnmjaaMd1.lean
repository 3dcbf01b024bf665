/- Contracts: msg: the reader: stop, take. -/
import Derived.BigRegion
import Derived.Deep.RegionHeld3
import Derived.IntWalk
import Derived.Test.YtpbdilbimpnmjaaProg
import Derived.Test.YtpbdilbimpnmjaaKit
import Derived.Test.YtpbdilbimpnmjaaRow
import Derived.Test.YtpbdilbimpnmjaaCod5
import Derived.Test.YtpbdilbimpnmjaaCod7
import Derived.Test.YtpbdilbimpnmjaaCod9
import Derived.Test.YtpbdilbimpnmjaaFrm0
import Derived.Test.YtpbdilbimpnmjaaFrm4
import Derived.Test.YtpbdilbimpnmjaaFrm7
import Derived.Test.YtpbdilbimpnmjaaFp
import Derived.Test.YtpbdilbimpnmjaaNet0
import Derived.Test.YtpbdilbimpnmjaaKp0
import Derived.Test.YtpbdilbimpnmjaaMg0
namespace Go.Proofs.Ytpbdilbimpnmjaa
open Go.RowKit Go.Proofs

/-- Bytes that lie below B. -/
def BySl (w : World) (B : Nat) (v : Value) (l : List UInt8) : Prop := ∃ a c, v = .slice a l.length c ∧ l.length ≤ c ∧ Lies w B a l

theorem bySl_of {w : World} {B : Nat} {v : Value} {l : List UInt8} (h : ByteSl w B v l) : BySl w B v l := by
  rcases h with ⟨rfl, rfl⟩ | ⟨ad, c, rfl, hc, hl⟩
  · exact ⟨none, 0, rfl, Nat.le_refl _, .inl rfl⟩
  · exact ⟨some ad, c, rfl, hc, hl⟩

theorem lies_keep {w w' : World} {B : Nat} {a : Option Addr} {l : List UInt8} (h : Lies w B a l) (hk : ∀ k, k < B → k < w.heap.size → w'.heap[k]? = w.heap[k]?) : Lies w' B a l := by
  rcases h with h | ⟨b, o, ha, hb, h⟩
  · exact .inl h
  · exact .inr ⟨b, o, ha, hb, fun j x hj => cell_kept (h j x hj) (hk b hb (block_of_cell (h j x hj)))⟩

theorem bySl_kept {w w' : World} {B g : Nat} {v : Value} {l : List UInt8} (h : BySl w B v l) (hg : B ≤ g) (hk : Kept (fun k => k = g) w w') : BySl w' B v l := by
  obtain ⟨a, c, hv, hc, hl⟩ := h
  exact ⟨a, c, hv, hc, lies_keep hl (fun k hkB hks => hk.blk k hks (by omega))⟩

theorem bySl_below {w w' : World} {B : Nat} {v : Value} {l : List UInt8} (h : BySl w B v l) (hb : Below w.heap.size w w') : BySl w' B v l := by
  obtain ⟨a, c, hv, hc, hl⟩ := h
  exact ⟨a, c, hv, hc, lies_keep hl (fun k _ hks => hb.block k hks)⟩

def RdAt (w : World) (B g : Nat) (s : List UInt8 × Bool) : Prop := B ≤ g ∧ ∃ v, Rw w 0 g 59 [v, .bool s.2] ∧ BySl w B v s.1

def RdV (w w' : World) (B g : Nat) (s : List UInt8 × Bool) : Prop := RdAt w' B g s ∧ Kept (fun k => k = g) w w'

theorem rdAt_below {w w' : World} {B g : Nat} {s : List UInt8 × Bool} (h : RdAt w B g s) (hb : Below w.heap.size w w') : RdAt w' B g s := by
  obtain ⟨h1, v, h2, h3⟩ := h
  exact ⟨h1, v, Rw.below h2 hb, bySl_below h3 hb⟩

theorem rdV_then {w w1 w2 : World} {B g : Nat} {s s2 : List UInt8 × Bool} (h : RdV w w1 B g s) (h2 : RdV w1 w2 B g s2) : RdV w w2 B g s2 := ⟨h2.1, kept_trans h.2 h2.2⟩

theorem rdV_refl {w : World} {B g : Nat} {s : List UInt8 × Bool} (h : RdAt w B g s) : RdV w w B g s := ⟨h, kept_refl _ _⟩

theorem rdV_below {w w1 w2 : World} {B g : Nat} {s : List UInt8 × Bool} (h : RdV w w1 B g s) (hb : Below w1.heap.size w1 w2) : RdV w w2 B g s := ⟨rdAt_below h.1 hb, kept_then (G := fun _ => False) h.2 (kept_below hb) (fun _ h => h.elim)⟩

/-- Stores into block g. -/
theorem rd_store {w : World} {B g : Nat} {v v2 : Value} {b b2 : Bool} {l2 : List UInt8} (hg : B ≤ g) (hr : Rw w 0 g 59 [v, .bool b]) (hl : BySl w B v2 l2) : RdV w ((w.setCell ⟨g, 0, none⟩ v2).setCell ⟨g, 1, none⟩ (.bool b2)) B g (l2, b2) := by
  have hk : Kept (fun k => k = g) w ((w.setCell ⟨g, 0, none⟩ v2).setCell ⟨g, 1, none⟩ (.bool b2)) := kept_put (F := fun k => k = g) (kept_put (F := fun k => k = g) (kept_refl _ _) (.inl rfl) 0 v2) (.inl rfl) 1 (.bool b2)
  exact ⟨⟨hg, v2, Rw.stored (Rw.stored hr 0 v2) 1 (.bool b2), bySl_kept hl hg hk⟩, hk⟩

theorem rd_store1 {w : World} {B g : Nat} {v v2 : Value} {b : Bool} {l2 : List UInt8} (hg : B ≤ g) (hr : Rw w 0 g 59 [v, .bool b]) (hl : BySl w B v2 l2) : RdV w (w.setCell ⟨g, 0, none⟩ v2) B g (l2, b) := by
  have hk : Kept (fun k => k = g) w (w.setCell ⟨g, 0, none⟩ v2) := kept_put (F := fun k => k = g) (kept_refl _ _) (.inl rfl) 0 v2
  exact ⟨⟨hg, v2, Rw.stored hr 0 v2, bySl_kept hl hg hk⟩, hk⟩

theorem bySl_nil (w : World) (B : Nat) : BySl w B (.slice none 0 0) [] := ⟨none, 0, rfl, Nat.le_refl _, .inl rfl⟩

theorem rstop_any {w : World} {B g : Nat} {s : List UInt8 × Bool} (h : RdAt w B g s) :
    Calls Try.prog 52 #[.pointer (some ⟨g, 0, none⟩)] w fun e w' => e = .returned (.tuple #[]) ∧ RdV w w' B g ([], true) := by
  obtain ⟨hg, v, hr, hl⟩ := h
  obtain ⟨l, b⟩ := s
  dsimp only at hr hl
  have HE := Lib.hid (rd_store (b2 := true) hg hr (bySl_nil w B))
  obtain ⟨a, c, rfl, _⟩ := id hl
  have c0 := Rw.cell hr (j := 0) rfl
  have c1 := Rw.cell hr (j := 1) rfl
  have f0 := Rw.free hr 0
  have hr2 := Rw.stored hr 0 (.slice none 0 0)
  have c2 : (w.setCell ⟨g, 0, none⟩ (.slice none 0 0)).cell? ⟨g, 1, none⟩ = some (.bool b) := Rw.cell hr2 (j := 1) rfl
  have f2 := Rw.free hr2 1
  clear hr hl hg hr2
  go_enter Try.func52, Try.ntmps52
  go_wp2_with fail
  go_end0
  exact ⟨rfl, HE.out⟩

/-- rest[:n]. -/
theorem slice_to2 {P : Program} {T : TypeId} (ht : P.underlying T = some (.slice (P.elem T))) (hs : (P.info? (P.elem T)).map (·.size) = some 1) {w : World} {B : Nat} (a : Option Addr) (len cap t : Nat) (l : List UInt8) (h : t ≤ cap) (hl : Lies w B a l) :
    ∃ A, Lies w B A (l.take t) ∧ ∀ W, (Instr.slice T (.slice a len cap) none (some (.int .i64 (t : Int))) none).run P W = .ok (.slice A t cap) W := by
  refine ⟨if cap = 0 then a else a.map (·.add (0 * 1)), ?_, fun W => ?_⟩
  · rcases hl with rfl | ⟨b, o, rfl, hb, hby⟩
    · exact .inl (by simp)
    · refine .inr ⟨b, o, ?_, hb, fun j x hj => ?_⟩
      · split
        · rfl
        · simp [Addr.add_mid]
      · rw [List.getElem?_take] at hj
        split at hj
        · exact hby j x hj
        · cases hj
  · rw [run_slice_h W T a len cap ht .i64 t (by omega) (by omega), run_size1 hs]
    simp [Result.andThen, sliced]

/-- rest[n:]. -/
theorem slice_from2 {P : Program} {T : TypeId} (ht : P.underlying T = some (.slice (P.elem T))) (hs : (P.info? (P.elem T)).map (·.size) = some 1) {w : World} {B : Nat} (a : Option Addr) (cap t : Nat) (l : List UInt8) (h : t ≤ l.length) (hc : l.length ≤ cap) (hl : Lies w B a l) :
    ∃ A, Lies w B A (l.drop t) ∧ ∀ W, (Instr.slice T (.slice a l.length cap) (some (.int .i64 (t : Int))) none none).run P W = .ok (.slice A (l.length - t) (cap - t)) W := by
  refine ⟨if cap = t then a else a.map (·.add t), ?_, fun W => ?_⟩
  · rcases hl with rfl | ⟨b, o, rfl, hb, hby⟩
    · exact .inl (by simp)
    · by_cases he : cap = t
      · exact .inl (List.drop_of_length_le (by omega))
      · rw [if_neg he]
        refine .inr ⟨b, o + t, by simp [Addr.add_mid], hb, fun j x hj => ?_⟩
        rw [List.getElem?_drop] at hj
        rw [Nat.add_assoc]
        exact hby (t + j) x hj
  · rw [run_slice_l W T a l.length cap ht .i64 t (by omega) (by omega), run_size1 hs]
    simp [Result.andThen, sliced]

theorem Try.elemBy : Try.prog.underlying 30 = some (.slice (Try.prog.elem 30)) := by kernel_rfl

theorem Try.sizeBy : (Try.prog.info? (Try.prog.elem 30)).map (·.size) = some 1 := by kernel_rfl

def TakeV (w w' : World) (B g : Nat) (e : Ending) (q : List UInt8 × List UInt8 × Bool) : Prop := ∃ v', e = .returned v' ∧ BySl w' B v' q.1 ∧ RdV w w' B g q.2

set_option maxHeartbeats 1000000 in
theorem rtake_any {w : World} {B g : Nat} {s : List UInt8 × Bool} (h : RdAt w B g s) (N : Nat) :
    Calls Try.prog 51 #[.pointer (some ⟨g, 0, none⟩), .int .i64 N] w fun e w' => TakeV w w' B g e (takeR N s) := by
  have HST := Lib.hid (rstop_any h)
  obtain ⟨hg, v, hr, hl⟩ := h
  obtain ⟨l, b⟩ := s
  dsimp only at hr hl
  obtain ⟨a, c, rfl, hc, hli⟩ := id hl
  obtain ⟨q, hq⟩ : ∃ q, q = takeR N (l, b) := ⟨_, rfl⟩
  rw [← hq]
  obtain ⟨L, hL⟩ : ∃ L, L = l.length := ⟨_, rfl⟩
  by_cases hlt : l.length < N
  · have HQ : Hid (q = ([], [], true)) := Lib.hid (by rw [hq]; unfold takeR; rw [if_pos hlt])
    rw [← hL] at hr hlt
    have c0 := Rw.cell hr (j := 0) rfl
    have hn : (L : Int) < (N : Int) := by omega
    clear hg hr hl hc hli hq hlt hL
    go_enter Try.func51, Try.ntmps51
    go_wp2_with fail
    refine (HST.out).mono ?_
    rintro e w1 ⟨rfl, hv⟩
    have HV := Lib.hid hv
    clear hv
    go_wp2_with fail
    go_ret
    refine ⟨.slice none 0 0, rfl, ?_, ?_⟩
    · rw [HQ.out]; exact bySl_nil _ _
    · rw [HQ.out]; exact HV.out
  · have HQ : Hid (q = (l.take N, l.drop N, b)) := Lib.hid (by rw [hq]; unfold takeR; rw [if_neg hlt])
    obtain ⟨A1, hA1, hs1⟩ := slice_to2 Try.elemBy Try.sizeBy (w := w) (B := B) a l.length c N l (by omega) hli
    obtain ⟨A2, hA2, hs2⟩ := slice_from2 Try.elemBy Try.sizeBy (w := w) (B := B) a c N l (by omega) hc hli
    have HT : Hid (BySl w B (.slice A1 N c) (l.take N)) := Lib.hid ⟨A1, c, by rw [List.length_take, Nat.min_eq_left (by omega)], by rw [List.length_take]; omega, hA1⟩
    have HD : Hid (BySl w B (.slice A2 (l.length - N) (c - N)) (l.drop N)) := Lib.hid ⟨A2, c - N, by rw [List.length_drop], by rw [List.length_drop]; omega, hA2⟩
    have HE := Lib.hid (rd_store1 (b := b) hg hr HD.out)
    rw [← hL] at hr hlt hs1 hs2 HD HE
    have c0 := Rw.cell hr (j := 0) rfl
    have f0 := Rw.free hr 0
    have hn : ¬ (L : Int) < (N : Int) := by omega
    have HG := Lib.hid hg
    obtain ⟨L2, hL2⟩ : ∃ L2, L2 = L - N := ⟨_, rfl⟩
    obtain ⟨C2, hC2⟩ : ∃ C2, C2 = c - N := ⟨_, rfl⟩
    rw [← hL2, ← hC2] at hs2 HE
    clear hg hr hl hc hli hq hlt hL hA1 hA2 hL2 hC2
    go_enter Try.func51, Try.ntmps51
    go_wp2_with fail
    go_ret
    refine ⟨.slice A1 N c, rfl, ?_, ?_⟩
    · rw [HQ.out]; exact bySl_kept HT.out HG.out HE.out.2
    · rw [HQ.out]; exact HE.out

theorem or64w {a : Nat} {x : UInt8} (ha : a < 72057594037927936) : bits .or .u64 ((a : Int) * 256) (x.toNat : Int) = ((a * 256 + x.toNat : Nat) : Int) := by
  have hx := x.toNat_lt
  have h1 : (BitVec.ofInt 64 ((a : Int) * 256)) = BitVec.ofNat 64 (a * 256) := by
    rw [show ((a : Int) * 256) = ((a * 256 : Nat) : Int) by omega, BitVec.ofInt_natCast]
  have h2 : (BitVec.ofInt 64 (x.toNat : Int)) = BitVec.ofNat 64 x.toNat := by rw [BitVec.ofInt_natCast]
  show IntKind.u64.wrap _ = _
  simp only [IntKind.bits]
  rw [h1, h2]
  have h3 : (BitVec.ofNat 64 (a * 256) ||| BitVec.ofNat 64 x.toNat).toNat = a * 256 + x.toNat := by
    rw [BitVec.toNat_or, BitVec.toNat_ofNat, BitVec.toNat_ofNat, Nat.mod_eq_of_lt (by omega), Nat.mod_eq_of_lt (by omega), Nat.mul_comm a 256]
    exact (Nat.two_pow_add_eq_or_of_lt (i := 8) hx a).symm
  have key : IntKind.u64.wrap (((BitVec.ofNat 64 (a * 256) ||| BitVec.ofNat 64 x.toNat).toNat : Nat) : Int) = ((a * 256 + x.toNat : Nat) : Int) := by
    rw [h3, IntKind.wrap_u64]
    omega
  exact key

theorem takeR_len (n : Nat) (s : List UInt8 × Bool) : (takeR n s).1.length ≤ n := by
  unfold takeR
  split
  · simp
  · rw [List.length_take]; omega

theorem bySl_cell {w : World} {B : Nat} {A : Option Addr} {n c : Nat} {l : List UInt8} (h : BySl w B (.slice A n c) l) {i : Nat} {x : UInt8} (hx : l[i]? = some x) : ∃ b o, A = some ⟨b, o, none⟩ ∧ b < B ∧ w.cell? ⟨b, o + i, none⟩ = some (.int .u8 (x.toNat : Int)) := by
  obtain ⟨a2, c2, hv, _, hl⟩ := h
  injection hv with e1 _ _
  rcases hl with rfl | ⟨b, o, ha, hb, hby⟩
  · simp at hx
  · exact ⟨b, o, by rw [e1, ha], hb, hby i x hx⟩

def NumV (w w' : World) (B g : Nat) (e : Ending) (q : Int × List UInt8 × Bool) : Prop := e = .returned (.int .i64 q.1) ∧ RdV w w' B g q.2

theorem i64_nat (X : Nat) (h : X < 9223372036854775808) : IntKind.i64.wrap (X : Int) = (X : Int) := IntWalk.i64_in _ (by omega)

set_option maxRecDepth 100000 in
set_option maxHeartbeats 2000000 in
theorem rnumber_any {w : World} {B g : Nat} {s : List UInt8 × Bool} (h : RdAt w B g s) (sz : Nat) (hsz : sz ≤ 8) :
    Calls Try.prog 41 #[.pointer (some ⟨g, 0, none⟩), .int .i64 sz] w fun e w' => NumV w w' B g e (numR sz s) := by
  have HTK := Lib.hid (rtake_any h sz)
  obtain ⟨q, hq⟩ : ∃ q, q = takeR sz s := ⟨_, rfl⟩
  have hql : q.1.length ≤ 8 := by rw [hq]; exact Nat.le_trans (takeR_len sz s) hsz
  rw [← hq] at HTK
  have HQ : Hid (numR sz s = if 9223372036854775808 ≤ numS q.1 then (0, [], true) else (((numS q.1 : Nat) : Int), q.2)) := Lib.hid (by rw [hq]; rfl)
  have HQL := Lib.hid hql
  obtain ⟨l, s2⟩ := q
  dsimp only at HQ HQL HTK
  clear h hq hql
  go_enter Try.func41, Try.ntmps41
  go_wp2_with fail
  refine (HTK.out).mono ?_
  rintro e w1 ⟨v1, rfl, hb1, hv1⟩
  obtain ⟨A, C, rfl, _⟩ := id hb1
  dsimp only at hb1 hv1
  obtain ⟨n, hn⟩ : ∃ n, n = l.length := ⟨_, rfl⟩
  rw [← hn] at hb1 ⊢
  have HB1 := Lib.hid hb1
  have HV1 := Lib.hid hv1
  have HN := Lib.hid hn
  clear hb1 hv1 hn HTK
  go_wp2_with fail
  go_loopw [5, 12] (fun v i wr => ∃ k a : Nat, k ≤ n ∧ i = .int .i64 k ∧ v = .int .u64 a ∧ Hid (a = numS (l.take k)) ∧ w1 = wr) (fun _ i _ => n - (intOf i).toNat)
  case atStart => exact ⟨0, 0, Nat.zero_le _, rfl, rfl, Lib.hid rfl, rfl⟩
  case round =>
    obtain ⟨k, a, hk, rfl, rfl, HA, rfl⟩ := hrel
    have hlen : l.length ≤ 8 := HQL.out
    by_cases hlt : k < n
    · obtain ⟨x, hx⟩ : ∃ x, l[k]? = some x := ⟨_, List.getElem?_eq_getElem (by rw [← HN.out]; exact hlt)⟩
      obtain ⟨b, o, rfl, _, hcx⟩ := bySl_cell HB1.out hx
      have hak : a < 72057594037927936 := by
        rw [HA.out]
        have h1 := numS_lt (l.take k)
        have h2 : (l.take k).length = k := by rw [List.length_take]; have := HN.out; omega
        rw [h2] at h1
        have h3 : k ≤ 7 := by have := HN.out; omega
        exact Nat.lt_of_lt_of_le h1 (Nat.le_trans (Nat.pow_le_pow_right (by decide) h3) (by decide))
      have hor := or64w (a := a) (x := x) hak
      have hmod : (a : Int) * 256 % 18446744073709551616 = (a : Int) * 256 := by omega
      have hwx : IntKind.u64.wrap (x.toNat : Int) = (x.toNat : Int) := by rw [IntKind.wrap_u64]; have := x.toNat_lt; omega
      have HX : Hid (a * 256 + x.toNat = numS (l.take (k + 1))) := Lib.hid (by rw [take_succ_of hx, numS_snoc, HA.out])
      have hy : (k : Int) < (n : Int) := by omega
      have hy8 : (k : Int) < 8 := by have := HN.out; omega
      have HKL := Lib.hid hlt
      clear hx hlt hk hak hlen
      go_wp2_with fail
      go_roundw
      case rel =>
        have := HKL.out
        exact ⟨k + 1, a * 256 + x.toNat, by omega, by go_num, rfl, HX, trivial⟩
      case measure => have := HKL.out; simp [intOf]; omega
    · have HE : Hid (a = numS l) := Lib.hid (by have h := HA.out; rwa [List.take_of_length_le (by rw [← HN.out]; omega)] at h)
      have hyk : ¬ (k : Int) < (n : Int) := by omega
      clear hk hlt hlen HA
      by_cases hbig : 9223372036854775808 ≤ a
      · have HR : Hid (numR sz s = (0, [], true)) := Lib.hid (by rw [HQ.out, if_pos (by rw [← HE.out]; exact hbig)])
        have hq1 : decide ((9223372036854775807 : Int) < (a : Int)) = true := decide_eq_true (by omega)
        have HST := Lib.hid (rstop_any HV1.out.1)
        clear hbig
        go_wp2_with fail
        refine (HST.out).mono ?_
        rintro e w3 ⟨rfl, hv3⟩
        have HV3 := Lib.hid (rdV_then HV1.out hv3)
        clear hv3
        go_wp2_with fail
        go_ret
        refine ⟨?_, ?_⟩
        · rw [HR.out]; rfl
        · rw [HR.out]; exact HV3.out
      · have HR : Hid (numR sz s = ((a : Int), s2)) := Lib.hid (by rw [HQ.out, if_neg (by rw [← HE.out]; exact hbig), ← HE.out])
        have hq1 : decide ((9223372036854775807 : Int) < (a : Int)) = false := decide_eq_false (by omega)
        have hwa := i64_nat a (by omega)
        clear hbig
        go_wp2_with fail
        go_ret
        refine ⟨?_, ?_⟩
        · rw [HR.out]; rfl
        · rw [HR.out]; exact HV1.out

def YesV (w w' : World) (B g : Nat) (e : Ending) (q : Bool × List UInt8 × Bool) : Prop := e = .returned (.bool q.1) ∧ RdV w w' B g q.2

theorem ryes_any {w : World} {B g : Nat} {s : List UInt8 × Bool} (h : RdAt w B g s) :
    Calls Try.prog 43 #[.pointer (some ⟨g, 0, none⟩)] w fun e w' => YesV w w' B g e (yesR s) := by
  have HNM := Lib.hid (rnumber_any h 1 (by decide))
  have HY : Hid (yesR s = if 1 < (numR 1 s).1 then (false, [], true) else ((numR 1 s).1 == 1, (numR 1 s).2)) := Lib.hid rfl
  obtain ⟨q, hq⟩ : ∃ q, q = numR 1 s := ⟨_, rfl⟩
  obtain ⟨y, hy⟩ : ∃ y, y = yesR s := ⟨_, rfl⟩
  rw [← hq] at HNM HY
  rw [← hy] at HY ⊢
  obtain ⟨x, s2⟩ := q
  dsimp only at HY
  clear h hq hy
  go_enter Try.func43, Try.ntmps43
  go_wp2_with fail
  refine (HNM.out).mono ?_
  rintro e w1 ⟨rfl, hv1⟩
  dsimp only at hv1 ⊢
  have HV1 := Lib.hid hv1
  have HST := Lib.hid (rstop_any hv1.1)
  clear hv1 HNM
  by_cases hx : 1 < x
  · have HR : Hid (y = (false, [], true)) := Lib.hid (by rw [HY.out, if_pos hx])
    go_wp2_with fail
    refine (HST.out).mono ?_
    rintro e w3 ⟨rfl, hv3⟩
    have HV3 := Lib.hid (rdV_then HV1.out hv3)
    clear hv3
    go_wp2_with fail
    go_ret
    exact ⟨by rw [HR.out]; rfl, by rw [HR.out]; exact HV3.out⟩
  · have HR : Hid (y = (x == 1, s2)) := Lib.hid (by rw [HY.out, if_neg hx])
    go_wp2_with fail
    go_ret
    exact ⟨by rw [HR.out]; rfl, by rw [HR.out]; exact HV1.out⟩

theorem run_convert_bysl {P : Program} {w : World} (src e dst : TypeId) (hs : P.underlying src = some (.slice e)) (he : P.underlying e = some (.int .u8)) (hd : P.underlying dst = some .string) {B : Nat} {v : Value} {l : List UInt8} (h : BySl w B v l) : (convert src dst v).run P w = .ok (.string ⟨l.toArray⟩) w := by
  obtain ⟨a, c, rfl, _, hl⟩ := h
  rcases hl with rfl | ⟨b, o, rfl, _, hby⟩
  · show (convert src dst (.slice a 0 c)).run P w = _
    rw [run_convert_bytes_string w src dst e a 0 c hs he hd]
    cases a with
    | none => simp [Conv.bytesToString]; rfl
    | some ad => simp [Conv.bytesToString, loadCells]; rfl
  · rw [run_convert_bytes_arg w src e hs he b o l.length c (l.map fun c => (c.toNat : Int)) (by simp) (fun i hi => ?_) dst hd]
    · congr 2
      unfold strOfNums
      congr 2
      rw [List.map_map]
      conv => rhs; rw [← List.map_id l]
      apply List.map_congr_left
      intro c _
      simp
    · rw [hby i l[i] (List.getElem?_eq_getElem hi)]
      simp [List.getElem?_map, List.getD, List.getElem?_eq_getElem hi]

def TxtV (w w' : World) (B g : Nat) (e : Ending) (q : List UInt8 × List UInt8 × Bool) : Prop := e = .returned (.string ⟨q.1.toArray⟩) ∧ RdV w w' B g q.2

theorem numR_pos (n : Nat) (s : List UInt8 × Bool) : 0 ≤ (numR n s).1 := by
  unfold numR
  split
  · decide
  · dsimp only; omega

theorem rtext_any2 {w : World} {B g : Nat} {s : List UInt8 × Bool} (h : RdAt w B g s) :
    Calls Try.prog 53 #[.pointer (some ⟨g, 0, none⟩)] w fun e w' => TxtV w w' B g e (txtR s) := by
  have HNM := Lib.hid (rnumber_any h 4 (by decide))
  have hpos := numR_pos 4 s
  have HY : Hid (txtR s = takeR (numR 4 s).1.toNat (numR 4 s).2) := Lib.hid rfl
  obtain ⟨q, hq⟩ : ∃ q, q = numR 4 s := ⟨_, rfl⟩
  obtain ⟨y, hy⟩ : ∃ y, y = txtR s := ⟨_, rfl⟩
  rw [← hq] at HNM HY hpos
  rw [← hy] at HY ⊢
  obtain ⟨x, s2⟩ := q
  dsimp only at HY hpos
  obtain ⟨N, rfl⟩ := Int.eq_ofNat_of_zero_le hpos
  rw [Int.toNat_natCast] at HY
  clear h hq hy hpos
  go_enter Try.func53, Try.ntmps53
  go_wp2_with fail
  refine (HNM.out).mono ?_
  rintro e w1 ⟨rfl, hv1⟩
  dsimp only at hv1 ⊢
  have HV1 := Lib.hid hv1
  have HTK := Lib.hid (rtake_any hv1.1 N)
  rw [← HY.out] at HTK
  clear hv1 HNM
  go_wp2_with fail
  refine (HTK.out).mono ?_
  rintro e w2 ⟨v2, rfl, hb2, hv2⟩
  have hcv := run_convert_bysl 30 5 9 Try.underlying30 Try.underlying5 Try.underlying9 hb2
  have HV2 := Lib.hid (rdV_then HV1.out hv2)
  clear hb2 hv2 HTK
  go_wp2_with fail
  go_ret
  exact ⟨rfl, HV2.out⟩

theorem intsR_snoc : ∀ (i : Nat) (s : List UInt8 × Bool), intsR (i + 1) s = ((intsR i s).1 ++ [(numR 8 (intsR i s).2).1], (numR 8 (intsR i s).2).2)
  | 0, s => rfl
  | i + 1, s => by
    have ih := intsR_snoc i (numR 8 s).2
    rw [intsR, ih]
    rfl

theorem intsR_len : ∀ (i : Nat) (s : List UInt8 × Bool), (intsR i s).1.length = i
  | 0, _ => rfl
  | i + 1, s => by rw [intsR, List.length_cons, intsR_len i]

theorem numR_byte (s : List UInt8 × Bool) : (numR 1 s).1 < 256 := by
  unfold numR
  split
  · decide
  · dsimp only
    have h := numS_lt (takeR 1 s).1
    have h1 := takeR_len 1 s
    have h2 : (256 : Nat) ^ (takeR 1 s).1.length ≤ 256 ^ 1 := Nat.pow_le_pow_right (by decide) h1
    omega

theorem rdV_base {w w1 w2 : World} {B g : Nat} {s : List UInt8 × Bool} (h : RdV w w1 B g s) (hg : g < w.heap.size) (hb : Below w.heap.size w1 w2) : RdV w w2 B g s := by
  obtain ⟨⟨h1, v, h2, h3⟩, hk⟩ := h
  refine ⟨⟨h1, v, ⟨Nat.zero_le _, by rw [hb.block g hg]; exact h2.2⟩, ?_⟩, ?_⟩
  · obtain ⟨a, c, hv, hc, hl⟩ := h3
    exact ⟨a, c, hv, hc, lies_keep hl (fun k hk1 _ => hb.block k (by omega))⟩
  · exact ⟨hb.os.trans hk.os, hb.tape.trans hk.tape, hb.output.trans hk.output, Nat.le_trans hk.size hb.size, fun k hk1 hk2 => (hb.block k hk1).trans (hk.blk k hk1 hk2)⟩

theorem rdAt_lt {w : World} {B g : Nat} {s : List UInt8 × Bool} (h : RdAt w B g s) : g < w.heap.size := by
  obtain ⟨_, v, h2, _⟩ := h
  exact Rw.size h2

theorem own_off {w w2 : World} {b g n sz : Nat} {e : TypeId} {v : Value} {xs : List Value} (h : w.ownsRow b e sz v n xs) (hg : g < b) (hk : Kept (fun k => k = g) w w2) : w2.ownsRow b e sz v n xs := own_same h (fun k hkk => hk.blk k (own_lt h hkk) (fun e => by have := (World.ownsRow.lt h k hkk).1; omega))

def ListV (w w' : World) (B g : Nat) (e : Ending) (q : List Int × List UInt8 × Bool) : Prop := ∃ v', e = .returned v' ∧ w'.ownsRow w.heap.size 3 1 v' q.1.length (q.1.map kiV) ∧ RdV w w' B g q.2

set_option maxRecDepth 100000 in
set_option maxHeartbeats 2000000 in
theorem rlist_any {w : World} {B g : Nat} {s : List UInt8 × Bool} (h : RdAt w B g s) :
    Calls Try.prog 54 #[.pointer (some ⟨g, 0, none⟩)] w fun e w' => ListV w w' B g e (lstR s) := by
  have HNM := Lib.hid (rnumber_any h 1 (by decide))
  have hpos := numR_pos 1 s
  have hbyte := numR_byte s
  have HG := Lib.hid (rdAt_lt h)
  have HY : Hid (lstR s = intsR (numR 1 s).1.toNat (numR 1 s).2) := Lib.hid rfl
  obtain ⟨q, hq⟩ : ∃ q, q = numR 1 s := ⟨_, rfl⟩
  obtain ⟨y, hy⟩ : ∃ y, y = lstR s := ⟨_, rfl⟩
  rw [← hq] at HNM HY hpos hbyte
  rw [← hy] at HY ⊢
  obtain ⟨x, s2⟩ := q
  dsimp only at HY hpos hbyte
  obtain ⟨N, rfl⟩ := Int.eq_ofNat_of_zero_le hpos
  rw [Int.toNat_natCast] at HY
  have HN : Hid (N < 256) := Lib.hid (by omega)
  obtain ⟨i0, hi, hz, hz1, hz2⟩ := info_parts Try.infoInt
  clear h hq hy hpos hbyte
  go_enter Try.func54, Try.ntmps54
  go_wp2_with fail
  refine (HNM.out).mono ?_
  rintro e w1 ⟨rfl, hv1⟩
  dsimp only at hv1 ⊢
  have HV1 := Lib.hid hv1
  clear hv1 HNM
  go_wp2_with fail
  go_loopw [3, 6] (fun v i wr => ∃ (k : Nat) (a : Option Addr) (c : Nat), k ≤ N ∧ i = .int .i64 k ∧ v = .slice a k c ∧ Hid (wr.ownsRow w.heap.size 3 1 (.slice a k c) k ((intsR k s2).1.map kiV)) ∧ Hid (RdV w wr B g (intsR k s2).2)) (fun _ i _ => N - (intOf i).toNat)
  case atStart => exact ⟨0, none, 0, Nat.zero_le _, rfl, rfl, Lib.hid (World.ownsRow_nil _ _ _ _), HV1⟩
  case round =>
    obtain ⟨k, a, c, hk, rfl, rfl, HO, HV⟩ := hrel
    obtain ⟨w3, hw3⟩ : ∃ w3 : World, w3 = wr := ⟨_, rfl⟩
    subst hw3
    by_cases hlt : k < N
    · have HNX := Lib.hid (rnumber_any HV.out.1 8 (by decide))
      obtain ⟨q2, hq2⟩ : ∃ q2, q2 = numR 8 (intsR k s2).2 := ⟨_, rfl⟩
      rw [← hq2] at HNX
      have HSN : Hid (intsR (k + 1) s2 = ((intsR k s2).1 ++ [q2.1], q2.2)) := Lib.hid (by rw [intsR_snoc, hq2])
      obtain ⟨z, s3⟩ := q2
      dsimp only at HSN
      have hy : (k : Int) < (N : Int) := by omega
      have hk8 : (k : Int) < 256 := by have := HN.out; omega
      have HKL := Lib.hid hlt
      have hkb : k < 1099511627776 := by have := HN.out; omega
      clear hq2 hlt hk
      go_wp2_with fail
      refine (HNX.out).mono ?_
      rintro e w4 ⟨rfl, hv4⟩
      dsimp only at hv4 ⊢
      have HV4 := Lib.hid (rdV_then HV.out hv4)
      have HO4 := Lib.hid (own_off HO.out HG.out hv4.2)
      have HB4 : Hid (w.heap.size ≤ w4.heap.size) := Lib.hid HV4.out.2.size
      clear hv4 HNX
      go_wp2_with (at_builtin; refine wpList_append1 rfl _ _ 23 rfl w.heap.size 3 rfl i0 (.int .i64 0) 8 Try.underlying23 hi hz hz1 hz2 rfl (.slice a k c) k _ rfl HO4.out rfl rfl hkb (by decide) HB4.out ?_; intro v8 w8 hown8 hb8; obtain ⟨a8, c8, rfl⟩ := own_len hown8)
      have HO8 := Lib.hid hown8
      have HB8 := Lib.hid hb8
      clear hown8 hb8
      go_roundw
      case rel =>
        refine ⟨k + 1, a8, c8, HKL.out, by go_num, rfl, Lib.hid ?_, Lib.hid ?_⟩
        · rw [HSN.out, List.map_append]
          exact HO8.out
        · rw [HSN.out]
          exact rdV_base HV4.out HG.out HB8.out
      case measure => have := HKL.out; simp [intOf]; omega
    · have hyk : ¬ (k : Int) < (N : Int) := by omega
      have hkn : k = N := by omega
      have HE : Hid (w3.ownsRow w.heap.size 3 1 (.slice a k c) y.1.length (y.1.map kiV) ∧ RdV w w3 B g y.2) := Lib.hid (by
        rw [HY.out, intsR_len, ← hkn]
        exact ⟨HO.out, HV.out⟩)
      clear hlt hk hkn
      go_wp2_with fail
      go_ret
      exact ⟨_, rfl, HE.out.1, HE.out.2⟩

/-- Cells set one by one. -/
def setL : List Value → List Nat → List Int → List Value
  | cs, j :: js, x :: xs => setL (cs.set j (.int .i64 x)) js xs
  | cs, _, _ => cs

theorem setL_snoc : ∀ (js : List Nat) (xs : List Int) (cs : List Value) (j : Nat) (x : Int), js.length = xs.length → setL cs (js ++ [j]) (xs ++ [x]) = (setL cs js xs).set j (.int .i64 x)
  | [], [], cs, j, x, _ => rfl
  | a :: js, b :: xs, cs, j, x, h => by
    rw [List.cons_append, List.cons_append, setL, setL]
    exact setL_snoc js xs _ j x (by simpa using h)
  | [], _ :: _, _, _, _, h => by simp at h
  | _ :: _, [], _, _, _, h => by simp at h

theorem setL_len : ∀ (js : List Nat) (xs : List Int) (cs : List Value), (setL cs js xs).length = cs.length
  | [], _, _ => by rw [setL]; intro j js x xs h; cases h
  | _ :: _, [], _ => by rw [setL]; intro j js x xs _ h; cases h
  | j :: js, x :: xs, cs => by rw [setL, setL_len js xs]; simp

def PtrsV (w w' : World) (B g gm : Nat) (T : TypeId) (cs : List Value) (js : List Nat) (q : List Int × List UInt8 × Bool) : Prop := RdAt w' B g q.2 ∧ Rw w' 0 gm T (setL cs js q.1) ∧ Kept (fun k => k = g ∨ k = gm) w w'

theorem rdAt_kept {w w' : World} {B g gm : Nat} {s : List UInt8 × Bool} (h : RdAt w B g s) (hB : B ≤ gm) (hne : gm ≠ g) (hk : Kept (fun k => k = gm) w w') : RdAt w' B g s := by
  obtain ⟨h1, v, h2, h3⟩ := h
  exact ⟨h1, v, rw_kept h2 hk (fun e => hne e.symm), bySl_kept h3 hB hk⟩

set_option maxRecDepth 100000 in
set_option maxHeartbeats 2000000 in
theorem rptrs_any {w : World} {B g gm b o n c : Nat} {T : TypeId} {cs : List Value} {s : List UInt8 × Bool} (h : RdAt w B g s) (hm : Rw w 0 gm T cs) (hB : B ≤ gm) (hne : gm ≠ g) {js : List Nat} (hn : n = js.length) (hj : ∀ j ∈ js, j < cs.length) (hbg : b ≠ g) (hbm : b ≠ gm) (hp : ∀ i j, js[i]? = some j → w.cell? ⟨b, o + i, none⟩ = some (.pointer (some ⟨gm, j, none⟩))) (hn8 : n ≤ 8) :
    Calls Try.prog 42 #[.pointer (some ⟨g, 0, none⟩), .slice (some ⟨b, o, none⟩) n c] w fun e w' => e = .returned (.tuple #[]) ∧ PtrsV w w' B g gm T cs js (intsR n s) := by
  have H0 : Hid (PtrsV w w B g gm T cs (js.take 0) (intsR 0 s)) := Lib.hid ⟨h, by rw [List.take_zero]; exact hm, kept_refl _ _⟩
  have HP := Lib.hid hp
  have HN := Lib.hid hn
  have HJ := Lib.hid hj
  have HNE := Lib.hid hne
  have HB := Lib.hid hB
  have HBG := Lib.hid hbg
  have HBM := Lib.hid hbm
  clear h hm hp hn hj hne hB hbg hbm
  go_enter Try.func42, Try.ntmps42
  go_wp2_with fail
  go_loopw [8] (fun i wr => ∃ k : Nat, k ≤ n ∧ i = .int .i64 k ∧ Hid (PtrsV w wr B g gm T cs (js.take k) (intsR k s))) (fun i _ => n - (intOf i).toNat)
  case atStart => exact ⟨0, Nat.zero_le _, rfl, H0⟩
  case round =>
    clear H0
    obtain ⟨k, hk, rfl, HV⟩ := hrel
    obtain ⟨w3, hw3⟩ : ∃ w3 : World, w3 = wr := ⟨_, rfl⟩
    subst hw3
    by_cases hlt : k < n
    · obtain ⟨j, hjj⟩ : ∃ j, js[k]? = some j := ⟨_, List.getElem?_eq_getElem (by rw [← HN.out]; exact hlt)⟩
      have d0 : w3.cell? ⟨b, o + k, none⟩ = some (.pointer (some ⟨gm, j, none⟩)) := cell_kept (HP.out k j hjj) (HV.out.2.2.blk b (block_of_cell (HP.out k j hjj)) (fun e => e.elim HBG.out HBM.out))
      have HNX := Lib.hid (rnumber_any HV.out.1 8 (by decide))
      obtain ⟨q2, hq2⟩ : ∃ q2, q2 = numR 8 (intsR k s).2 := ⟨_, rfl⟩
      rw [← hq2] at HNX
      have HSN : Hid (intsR (k + 1) s = ((intsR k s).1 ++ [q2.1], q2.2)) := Lib.hid (by rw [intsR_snoc, hq2])
      obtain ⟨z, s3⟩ := q2
      dsimp only at HSN
      have HTK := Lib.hid (show js.take (k + 1) = js.take k ++ [j] from take_succ_of hjj)
      have HJL : Hid (j < cs.length) := Lib.hid (HJ.out j (List.mem_of_getElem? hjj))
      have hy : (k : Int) < (n : Int) := by omega
      have hk8 : (k : Int) < 8 := by omega
      have HKL := Lib.hid hlt
      clear hq2 hlt hk hjj
      go_wp2_with fail
      refine (HNX.out).mono ?_
      rintro e w4 ⟨rfl, hv4⟩
      dsimp only at hv4 ⊢
      have hr4 := rw_kept HV.out.2.1 hv4.2 HNE.out
      obtain ⟨x0, hx0⟩ : ∃ x0, (setL cs (js.take k) (intsR k s).1)[j]? = some x0 := ⟨_, List.getElem?_eq_getElem (by rw [setL_len]; exact HJL.out)⟩
      have d4 := Rw.cell hr4 hx0
      have f4 := Rw.free hr4 j
      have hrs := Rw.stored hr4 j (.int .i64 z)
      have hks : Kept (fun k => k = gm) w4 (w4.setCell ⟨gm, j, none⟩ (.int .i64 z)) := kept_put (F := fun k => k = gm) (kept_refl _ _) (.inl rfl) j _
      have HE : Hid (PtrsV w (w4.setCell ⟨gm, j, none⟩ (.int .i64 z)) B g gm T cs (js.take (k + 1)) (intsR (k + 1) s)) := Lib.hid ⟨by rw [HSN.out]; exact rdAt_kept hv4.1 HB.out HNE.out hks, by
        rw [HSN.out, HTK.out, setL_snoc _ _ _ _ _ (by rw [intsR_len, List.length_take, ← HN.out]; have := HKL.out; omega)]
        exact hrs, kept_then (kept_then HV.out.2.2 hv4.2 (fun x hx => .inl (.inl hx))) hks (fun x hx => .inl (.inr hx))⟩
      clear hr4 hx0 hrs hks hv4 d0 HNX
      go_wp2_with fail
      go_roundw
      case rel => exact ⟨k + 1, HKL.out, by go_num, HE⟩
      case measure => have := HKL.out; simp [intOf]; omega
    · have hyk : ¬ (k : Int) < (n : Int) := by omega
      have hkn : k = n := by omega
      have HE : Hid (PtrsV w w3 B g gm T cs js (intsR n s)) := Lib.hid (by
        have h := HV.out
        rw [hkn, List.take_of_length_le (by rw [← HN.out]; omega)] at h
        exact h)
      clear hlt hk hkn
      go_wp2_with fail
      go_end0
      exact ⟨rfl, HE.out⟩

end Go.Proofs.Ytpbdilbimpnmjaa
