/-
  DiskApart: whatever the number and the picks, a copy and what a crash leaves are disks of their own; the law returns true, and what was there has not turned. No condition.
-/
import Derived.Test.YtifkebjfedpaoaaProg
import Derived.Test.YtifkebjfedpaoaaKit
import Derived.Test.YtifkebjfedpaoaaLaw
import Derived.Test.YtifkebjfedpaoaaRow
import Derived.Test.YtifkebjfedpaoaaCod7
import Derived.Test.YtifkebjfedpaoaaFrm4
import Derived.Test.YtifkebjfedpaoaaFrm5
import Derived.Test.YtifkebjfedpaoaaFrm8
import Derived.Test.YtifkebjfedpaoaaFrm11
import Derived.Test.YtifkebjfedpaoaaFrm12
import Derived.Test.YtifkebjfedpaoaaFp
import Derived.Test.YtifkebjfedpaoaaRdk0
import Derived.Test.YtifkebjfedpaoaaDsk0
import Derived.Test.YtifkebjfedpaoaaDsk6
import Derived.Test.YtifkebjfedpaoaaDsk7
import Derived.Test.YtifkebjfedpaoaaDsk9
import Derived.Test.YtifkebjfedpaoaaDsk14
import Derived.Test.YtifkebjfedpaoaaDsk17
import Derived.Test.YtifkebjfedpaoaaDsk18
import Derived.Test.YtifkebjfedpaoaaDsk19
import Derived.Test.YtifkebjfedpaoaaDsk20
import Derived.Test.YtifkebjfedpaoaaDLasts
namespace Go.Proofs.Ytifkebjfedpaoaa
open Go.ChangeShapes Go.WideShapes Go.ChangeAt Go.RowKit Go.Proofs
open Go.ChangeMaps (open_string shut_string)

theorem zapp_lit2 {w0 w : World} {Z : Nat → Prop} {g : Nat} {D : CodM} (h : DIn w0 w Z g D) (s : ByteArray) (l : List UInt8) (cs : Array Value) (e e2 : TypeId) (f1 f2 : Nat × Nat) (n b b2 : Nat) (hcs : cs = (l.map byteV).toArray) (hn : n = l.length) (hb : b = w.heap.size) (hb2 : b2 = w.heap.size + 1) (hok : CodOk D) (hl : l.length < 1099511627776) (k : Int) (D' : CodM) (hap : appM D s.data.toList l = (k, D')) :
    Calls Try.prog 15 #[.pointer (some ⟨g, 0, none⟩), .string s, .slice (some ⟨b2, 0, none⟩) 1 1] ((w.alloc (.cells cs e f1)).alloc (.cells #[.slice (some ⟨b, 0, none⟩) n n] e2 f2)) fun e w' => e = .returned (.int .i64 k) ∧ DIn w0 w' Z g D' ∧ KeptZ w0 w w' Z := by
  have hbl := below_lit2 w (.cells cs e f1) (.cells #[.slice (some ⟨b, 0, none⟩) n n] e2 f2)
  have h2 := dIn_new h hbl
  refine (zapp_any h2 s [l] _ hok (lit_parts w cs e e2 f1 f2 l n b b2 hcs hn hb hb2 _ (.inr (.inr ⟨by omega, by simp; omega⟩)) (.inr (.inr ⟨by omega, by simp; omega⟩))) (by simpa using hl) (by simp)).mono ?_
  rintro e w' ⟨rfl, hd, hk⟩
  rw [flat_one, hap] at hd
  rw [flat_one, hap]
  exact ⟨rfl, dIn_less hd (fun k hk => .inl hk), Nat.le_trans hbl.size hk.1, fun k hk2 hz => (hk.2 k (Nat.lt_of_lt_of_le hk2 hbl.size) (hz.imp id .inl)).trans (hbl.block k hk2)⟩

/-- What one disk does leaves another as it is. -/
theorem kz_other {w0 w w' : World} {Zd Za Zn : Nat → Prop} {g : Nat} {D : CodM} (h : DIn w0 w Zd g D) (hk : KeptZ w0 w w' Za) (hb : Below w0.heap.size w0 w') (hz : ∀ k, k < w.heap.size → w0.heap.size ≤ k → ¬ Za k → Zd k) (hn : ∀ k, Zn k → Zd k ∨ (w.heap.size ≤ k ∧ k < w'.heap.size)) : DIn w0 w' Zn g D := by
  have hb0 := dIn_below h
  have hkept : Kept (fun k => ¬ (k < w0.heap.size ∨ Za k)) w w' :=
    ⟨hb.os.trans hb0.os.symm, hb.tape.trans hb0.tape.symm, hb.output.trans hb0.output.symm, hk.1, fun k hlt hn => hk.2 k hlt (Classical.not_not.1 hn)⟩
  exact dIn_less (dIn_other h hkept (fun k hlt hg => hz k hlt (by omega) (fun hza => hg (.inr hza))) hb) hn

theorem oneD_rem {x : List UInt8} {i ops : Nat} : remM (oneD x i ops) [102] = (0, ⟨5000, [], ops + 1, false, 0⟩) := rfl

theorem oneD_names (x : List UInt8) (i ops : Nat) : ∀ f ∈ (oneD x i ops).fs, f.name.length ≤ maxLen := fun f hf => by
  simp [oneD] at hf
  subst hf
  show 1 ≤ maxLen
  decide

theorem oneD_size (x : List UInt8) (i ops : Nat) (h : x.length < 1099511627776) : sizeM (oneD x i ops).fs < 1099511627776 := by
  show sizeM [⟨[102], x, i⟩] < _
  simp only [sizeM, List.map_cons, List.map_nil, List.sum_cons, List.sum_nil]
  omega

theorem oneD_find (x : List UInt8) (i ops : Nat) : findM (oneD x i ops).fs (⟨#[102]⟩ : ByteArray).data.toList = some ⟨[102], x, i⟩ := rfl

set_option maxHeartbeats 2000000 in
theorem diskApart_any (x : Int) (_hx : -9223372036854775808 ≤ x ∧ x ≤ 9223372036854775807) (v : Value) (ps : List Int) (w : World) (hp : PickAt w v ps) (hri : RangeI ps) :
    Calls Try.prog 7 #[.int .i64 x, v] w fun e w' => e = .returned (.bool true) ∧ Below w.heap.size w w' := by
  have HP := Lib.hid hp
  have HRI := Lib.hid hri
  obtain ⟨pa, pc, rfl, _, _⟩ := hp
  clear _hx hri
  obtain ⟨np, hnp⟩ : ∃ np, np = ps.length := ⟨_, rfl⟩
  rw [← hnp]
  rw [← hnp] at HP
  clear hnp
  have kc : ∀ (W : World) (C : Array Value) (n c g : Nat), g = W.heap.size → (convert 39 39 (.slice (some ⟨g, 0, none⟩) n c)).run Try.prog (W.alloc (.cells C 5)) = .ok (.slice (some ⟨g, 0, none⟩) n c) (W.alloc (.cells C 5 (C.size, C.size + 1))) := fun W C n c g hg => by
    subst hg
    exact Lib.run_convert_bytes_const (P := Try.prog) W 39 5 C n c Try.underlying39 Try.underlying5
  by_cases hc : x < 0 ∨ 500 < x ∨ 20 < (np : Int)
  · have hw := dawake_any w
    have HW := Lib.hid hw
    clear hw
    go_enter Try.func7, Try.ntmps7
    by_cases h1 : x < 0
    · go_wp2_with fail
      refine (HW.out).mono ?_
      rintro e w' ⟨rfl, hb⟩
      go_wp2_with fail
      go_ret
      exact ⟨rfl, hb⟩
    by_cases h2 : 500 < x
    · go_wp2_with fail
      refine (HW.out).mono ?_
      rintro e w' ⟨rfl, hb⟩
      go_wp2_with fail
      go_ret
      exact ⟨rfl, hb⟩
    have h5 : 20 < (np : Int) := by omega
    clear hc
    go_wp2_with fail
    refine (HW.out).mono ?_
    rintro e w' ⟨rfl, hb⟩
    go_wp2_with fail
    go_ret
    exact ⟨rfl, hb⟩
  · obtain ⟨N, rfl⟩ : ∃ a : Nat, x = (a : Int) := ⟨x.toNat, by omega⟩
    have h2 : ¬ 500 < (N : Int) := by omega
    have h5 : ¬ 20 < (np : Int) := by omega
    have hNi : (N : Int) ≤ 500 := by omega
    have HNB : Hid (N ≤ 500) := Lib.hid (by omega)
    clear hc
    go_enter Try.func7, Try.ntmps7
    go_wp2_with fail
    refine (dnew_any 5000 w (by omega) (by omega)).mono ?_
    rintro e w1 h1
    rcases h1 with ⟨h1, _⟩ | ⟨_, _, rfl, hw1⟩
    · exact absurd ⟨by omega, by omega⟩ h1
    obtain ⟨g, hg⟩ : ∃ g, g = w.heap.size := ⟨_, rfl⟩
    have hd1 := dIn_new0 (room := 5000) hw1
    rw [← hg] at hd1 ⊢
    have HD1 := Lib.hid hd1
    clear hw1 hg hd1 h2 h5
    go_wp2_with fail
    have hby := dbytes_any (N : Int) N 1 w1 (by omega) (by have := HNB.out; omega) (by omega)
    rw [show ((1 : Nat) : Int) = 1 from rfl] at hby
    refine hby.mono ?_
    clear hby
    rintro e w2 ⟨gb, rfl, hob, hb2⟩
    have hd2 := dIn_new HD1.out hb2
    have hgl := own_cap hob
    have hat2 := byAt_own hob
    obtain ⟨l, hl⟩ : ∃ l, l = byteL 1 N := ⟨_, rfl⟩
    have hll : N = l.length := by rw [hl, byteL_len]
    rw [← hl] at hat2
    have HZ : Hid (∀ k, k = gb → w1.heap.size ≤ k ∧ k < w2.heap.size) := Lib.hid (fun k hk => by rw [hk]; exact ⟨hgl.1, hgl.2.2⟩)
    have HD2 : Hid (DIn w w2 (fun k => k = gb) g (newM 5000)) := Lib.hid (dIn_less hd2 (fun k hk => .inr (HZ.out k hk)))
    have HAT2 := Lib.hid hat2
    have HLL := Lib.hid hll
    have HLE := Lib.hid hl
    clear hob hb2 hd2 hgl hat2 hl hll
    go_wp2_with fail
    have hbz := byteZ_take (Z := fun k => k < w.heap.size ∨ k = gb) HAT2.out HLL.out (.inr rfl) N (Nat.le_refl _)
    rw [HLL.out, List.take_length, ← HLL.out] at hbz
    have hA := zapp_sl HD2.out ⟨#[102]⟩ (.slice (some ⟨gb, 0, none⟩) N N) l 39 (0, 0) w2.heap.size hbz rfl (by unfold CodOk; decide) (by have := HNB.out; have := HLL.out; omega) 0 _ (oneD_new (by have := HNB.out; have := HLL.out; omega))
    refine hA.mono ?_
    clear hA hbz
    rintro e w3 ⟨rfl, hd3, _⟩
    have HD3 : Hid (DIn w w3 (fun _ => False) g (oneD l 0 1)) := Lib.hid (dIn_less hd3 (fun _ h => h.elim))
    clear hd3
    have HOK : Hid (∀ (y : List UInt8) (i ops : Nat), y.length ≤ 1000 → ops < 100 → CodOk (oneD y i ops)) := Lib.hid (fun y i ops h1 h2 => oneD_ok (by omega) h2)
    have HLN : Hid (l.length ≤ 500) := Lib.hid (by have := HNB.out; have := HLL.out; omega)
    go_wp2_with fail
    have hA := zsyn_sl HD3.out ⟨#[102]⟩ 9 (0, 0) w3.heap.size rfl (HOK.out _ _ _ (by have := HLN.out; omega) (by decide)) (by decide) 0 _ oneD_syn
    refine hA.mono ?_
    clear hA
    rintro e w4 ⟨rfl, hd4, _⟩
    have HD4 := Lib.hid hd4
    clear hd4
    go_wp2_with fail
    have hA := zcopy_any HD4.out (HOK.out _ _ _ (by have := HLN.out; omega) (by decide))
    refine hA.mono ?_
    clear hA
    rintro e w5 ⟨rfl, _, ha5, hb5⟩
    have HD5 : Hid (DIn w w5 (fun k => w4.heap.size ≤ k ∧ k < w5.heap.size) g (oneD l l.length 2)) := Lib.hid (dIn_less (dIn_new HD4.out hb5) (fun k hk => .inr hk))
    have HA5 := Lib.hid ha5
    have HS5 : Hid (w4.heap.size ≤ w5.heap.size) := Lib.hid hb5.size
    clear ha5 hb5
    go_wp2_with fail
    have hC := zcrash_any HD5.out ps (.slice pa np pc) (HOK.out _ _ _ (by have := HLN.out; omega) (by decide)) (pickAt_below HP.out (dIn_below HD5.out)) HRI.out (oneD_names _ _ _)
    refine hC.mono ?_
    clear hC
    rintro e w6 ⟨rfl, _, hc6, hb6⟩
    obtain ⟨r, hr, hcm⟩ := oneD_crash (x := l) (i := l.length) (ops := 2) ps (Nat.le_refl _)
    obtain rfl : r = 0 := by omega
    rw [Nat.add_zero, List.take_length] at hcm
    rw [hcm] at hc6
    have HC6 : Hid (DIn w w6 (fun k => k < w5.heap.size) w5.heap.size (oneD l l.length 0)) := Lib.hid hc6
    have HD6 : Hid (DIn w w6 (fun k => w4.heap.size ≤ k ∧ k < w6.heap.size) g (oneD l l.length 2)) := Lib.hid (dIn_less (dIn_new HD5.out hb6) (fun k hk => by have := hb6.size; omega))
    have HA6 : Hid (DIn w w6 (fun k => k < w4.heap.size ∨ (w5.heap.size ≤ k ∧ k < w6.heap.size)) w4.heap.size (oneD l l.length 2)) := Lib.hid (dIn_new HA5.out hb6)
    have HS6 : Hid (w5.heap.size ≤ w6.heap.size) := Lib.hid hb6.size
    obtain ⟨ga, hga⟩ : ∃ ga, ga = w4.heap.size := ⟨_, rfl⟩
    obtain ⟨gc, hgc⟩ : ∃ gc, gc = w5.heap.size := ⟨_, rfl⟩
    simp only [← hga, ← hgc]
    rw [← hga, ← hgc] at HA6
    rw [← hgc] at HC6 HS6
    rw [← hga] at HD6 HS5
    rw [← hgc] at HS5
    clear hc6 hb6 hr hcm hga hgc HD5 HA5 HD4
    go_wp2_with fail
    have hA := zapp_lit2 HA6.out ⟨#[102]⟩ [97] #[.int .u8 97] 5 39 (1, 2) (0, 0) 1 w6.heap.size (w6.heap.size + 1) rfl rfl rfl rfl (HOK.out _ _ _ (by have := HLN.out; omega) (by decide)) (by decide) 0 _ (oneD_app (by have := HLN.out; simp; omega))
    refine hA.mono ?_
    clear hA
    rintro e w7 ⟨rfl, ha7, hk7⟩
    have HS7 : Hid (w6.heap.size ≤ w7.heap.size) := Lib.hid hk7.1
    have HD7 : Hid (DIn w w7 (fun k => ga ≤ k ∧ k < w7.heap.size) g (oneD l l.length 2)) := Lib.hid (kz_other HD6.out hk7 (dIn_below ha7) (fun k h1 _ h3 => by omega) (fun k hk => by have := HS5.out; have := HS6.out; omega))
    have HC7 : Hid (DIn w w7 (fun k => k < gc ∨ (w6.heap.size ≤ k ∧ k < w7.heap.size)) gc (oneD l l.length 0)) := Lib.hid (kz_other HC6.out hk7 (dIn_below ha7) (fun k h1 _ h3 => by omega) (fun k hk => by omega))
    have HA7 := Lib.hid ha7
    clear ha7 hk7 HA6 HC6 HD6
    go_wp2_with fail
    have hA := zapp_lit2 HC7.out ⟨#[102]⟩ [98, 98] #[.int .u8 98, .int .u8 98] 5 39 (2, 3) (0, 0) 2 w7.heap.size (w7.heap.size + 1) rfl rfl rfl rfl (HOK.out _ _ _ (by have := HLN.out; omega) (by decide)) (by decide) 0 _ (oneD_app (by have := HLN.out; simp; omega))
    refine hA.mono ?_
    clear hA
    rintro e w8 ⟨rfl, hc8, hk8⟩
    have HS8 : Hid (w7.heap.size ≤ w8.heap.size) := Lib.hid hk8.1
    have HD8 : Hid (DIn w w8 (fun k => ga ≤ k ∧ k < w8.heap.size) g (oneD l l.length 2)) := Lib.hid (kz_other HD7.out hk8 (dIn_below hc8) (fun k h1 _ h3 => by have := HS5.out; omega) (fun k hk => by omega))
    have HA8 : Hid (DIn w w8 (fun k => k < ga ∨ (gc ≤ k ∧ k < w6.heap.size) ∨ (w7.heap.size ≤ k ∧ k < w8.heap.size)) ga (oneD (l ++ [97]) l.length 3)) := Lib.hid (kz_other HA7.out hk8 (dIn_below hc8) (fun k h1 _ h3 => by omega) (fun k hk => by omega))
    have HC8 := Lib.hid hc8
    clear hc8 hk8 HA7 HC7 HD7
    go_wp2_with fail
    have hA := zrem_any HC8.out ⟨#[102]⟩ (HOK.out _ _ _ (by have := HLN.out; simp; omega) (by decide)) (by decide)
    rw [show (⟨#[102]⟩ : ByteArray).data.toList = [102] from rfl, oneD_rem] at hA
    refine hA.mono ?_
    clear hA
    rintro e w9 ⟨rfl, hc9, hk9⟩
    have HD9 : Hid (DIn w w9 (fun k => ga ≤ k ∧ k < w9.heap.size) g (oneD l l.length 2)) := Lib.hid (kz_other HD8.out hk9 (dIn_below hc9) (fun k h1 _ h3 => by have := HS5.out; omega) (fun k hk => by omega))
    have HA9 : Hid (DIn w w9 (fun _ => False) ga (oneD (l ++ [97]) l.length 3)) := Lib.hid (kz_other HA8.out hk9 (dIn_below hc9) (fun k h1 _ h3 => by omega) (fun k hk => hk.elim))
    have HC9 := Lib.hid hc9
    clear hc9 hk9 HA8 HC8 HD8
    go_wp2_with fail
    have hR := zread_any HD9.out ⟨#[102]⟩ (by decide) (oneD_size _ _ _ (by have := HLN.out; omega))
    refine hR.mono ?_
    clear hR
    rintro e w10 ⟨h10, hb10⟩
    rw [oneD_find] at h10
    obtain ⟨v10, rfl, ho10⟩ := h10
    have HD10 : Hid (DIn w w10 (fun _ => False) g (oneD l l.length 2)) := Lib.hid (dIn_less (dIn_new HD9.out hb10) (fun k hk => hk.elim))
    have HA10 : Hid (DIn w w10 (fun _ => False) ga (oneD (l ++ [97]) l.length 3)) := Lib.hid (dIn_less (dIn_new HA9.out hb10) (fun k hk => hk.elim))
    have HC10 : Hid (DIn w w10 (fun _ => False) gc ⟨5000, [], 2, false, 0⟩) := Lib.hid (dIn_less (dIn_new HC9.out hb10) (fun k hk => hk.elim))
    have HO10 := Lib.hid ho10
    clear hb10 ho10 HD9 HA9 HC9
    go_wp2_with fail
    have hR := zread_any HA10.out ⟨#[102]⟩ (by decide) (oneD_size _ _ _ (by have := HLN.out; simp; omega))
    refine hR.mono ?_
    clear hR
    rintro e w11 ⟨h11, hb11⟩
    rw [oneD_find] at h11
    obtain ⟨v11, rfl, ho11⟩ := h11
    obtain ⟨T, hT⟩ : ∃ T, T = (l ++ [97]).length := ⟨_, rfl⟩
    have hTN : (N : Int) + 1 = (T : Int) := by rw [hT, List.length_append, HLL.out]; simp
    change w11.ownsRow w10.heap.size 5 1 v11 (l ++ [97]).length ((l ++ [97]).map byteV) at ho11
    rw [← hT] at ho11
    obtain ⟨a11, q11, rfl⟩ := own_len ho11
    have HD11 : Hid (DIn w w11 (fun _ => False) g (oneD l l.length 2)) := Lib.hid (dIn_less (dIn_new HD10.out hb11) (fun k hk => hk.elim))
    have HC11 : Hid (DIn w w11 (fun _ => False) gc ⟨5000, [], 2, false, 0⟩) := Lib.hid (dIn_less (dIn_new HC10.out hb11) (fun k hk => hk.elim))
    have HO11 := Lib.hid (own_below HO10.out hb11)
    clear hb11 ho11 hT HD10 HA10 HC10 HO10
    go_wp2_with fail
    have hR := zread_any HC11.out ⟨#[102]⟩ (by decide) (by show 0 < _; decide)
    refine hR.mono ?_
    clear hR
    rintro e w12 ⟨h12, hb12⟩
    rw [show findM ([] : List FileM) (⟨#[102]⟩ : ByteArray).data.toList = none from rfl] at h12
    have h12b : e = .returned (.tuple #[.slice none 0 0, .int .i64 4]) := h12
    subst h12b
    have HD12 : Hid (DIn w w12 (fun _ => False) g (oneD l l.length 2)) := Lib.hid (dIn_less (dIn_new HD11.out hb12) (fun k hk => hk.elim))
    have HC12 : Hid (DIn w w12 (fun _ => False) gc ⟨5000, [], 2, false, 0⟩) := Lib.hid (dIn_less (dIn_new HC11.out hb12) (fun k hk => hk.elim))
    have HO12 := Lib.hid (own_below HO11.out hb12)
    clear hb12 h12 HD11 HC11 HO11
    go_wp2_with fail
    have hby := dbytes_any (N : Int) N 1 w12 (by omega) (by have := HNB.out; omega) (by omega)
    rw [show ((1 : Nat) : Int) = 1 from rfl, ← HLE.out] at hby
    refine hby.mono ?_
    clear hby
    rintro e w13 ⟨gb13, rfl, hob13, hb13⟩
    have HD13 : Hid (DIn w w13 (fun _ => False) g (oneD l l.length 2)) := Lib.hid (dIn_less (dIn_new HD12.out hb13) (fun k hk => hk.elim))
    have HC13 : Hid (DIn w w13 (fun _ => False) gc ⟨5000, [], 2, false, 0⟩) := Lib.hid (dIn_less (dIn_new HC12.out hb13) (fun k hk => hk.elim))
    have HO13 := Lib.hid (own_below HO12.out hb13)
    have HOB13 := Lib.hid hob13
    clear hb13 hob13 HD12 HC12 HO12
    go_wp2_with fail
    refine (bytes_any l l _ _ w13 (by have := HLN.out; omega) (by have := HLN.out; omega) (own_sliceAt HO13.out) (own_sliceAt HOB13.out)).mono ?_
    rintro e w14 ⟨rfl, hx14⟩
    rw [show (l == l) = true by simp]
    have hb14 : Below w13.heap.size w13 w14 := below_draws (Below.refl _ _) hx14
    have HD14 : Hid (DIn w w14 (fun _ => False) g (oneD l l.length 2)) := Lib.hid (dIn_less (dIn_new HD13.out hb14) (fun k hk => hk.elim))
    have HC14 : Hid (DIn w w14 (fun _ => False) gc ⟨5000, [], 2, false, 0⟩) := Lib.hid (dIn_less (dIn_new HC13.out hb14) (fun k hk => hk.elim))
    clear hx14 hb14 HD13 HC13 HO13 HOB13
    go_wp2_with fail
    have hQ := zops_any HD14.out
    rw [show ((oneD l l.length 2).ops : Int) = 2 from rfl] at hQ
    refine hQ.mono ?_
    clear hQ
    rintro e w15 ⟨rfl, rfl⟩
    go_wp2_with fail
    have hQ := zops_any HC14.out
    rw [show (((⟨5000, [], 2, false, 0⟩ : CodM).ops : Nat) : Int) = 2 from rfl] at hQ
    refine hQ.mono ?_
    clear hQ
    rintro e w16 ⟨rfl, rfl⟩
    have HB16 := Lib.hid (dIn_below HC14.out)
    go_wp2_with fail
    refine (dawake_any _).mono ?_
    rintro e w17 ⟨rfl, hb17⟩
    go_wp2_with fail
    go_ret
    exact ⟨rfl, below_then HB16.out hb17⟩

theorem diskApart_own : ownKnob Try.prog.godebug = none := by kernel_rfl

set_option maxRecDepth 100000 in
theorem diskApart_lifted (os : Os) (started : os.Started) (H : Type) (enc : TypeId × Value → H) :
    ReturnsInHanded {} Try.checked os 7 .any (Rows.diskApartSpec.pre6 enc Try.prog Try.f7 Rows.diskApartRow.domain false) (Rows.diskApartSpec.post enc Try.prog Try.f7 false true false false) := by
  refine law_lifted (C := Try.checked) diskApart_own started (by kernel_rfl) Try.func7
    (ChangeSpec.witness6 (enc := enc) (C := Try.checked) false ⟨#[], #[.int .i64 0, .slice none 0 0], []⟩ 8 (by kernel_rfl) (by kernel_rfl) (by kernel_rfl) (by kernel_rfl))
    (by kernel_rfl) (of_decide_eq_true (by kernel_rfl)) (tb := 4) (by kernel_rfl) Try.underlying4 rfl (fun ds h => by match ds, h with | [d0, d1], _ => exact ⟨rfl, rfl, rfl⟩) ?_
  intro W base args ds p hval0 hA0 hlt hsz0
  have hval : ∀ (j : Nat) t v, Try.f7.params[j]? = some t → args[j]? = some v → Value.okWide Try.prog W .any base t v := hval0
  have hA : DataW.TrodAll enc Try.prog W 0 (fun _ => true) true Try.f7.params.toList args.toList ds p := hA0
  have hsz : (DataW.weightsEach Try.prog Try.f7.params.toList ds).all (· ≤ reachBytes) = true := hsz0
  rw [Try.params7] at hA hval hsz
  obtain ⟨v0, vs0, d0, ds0, p0, q0, hargs, rfl, rfl, h0, r0⟩ := trodAll_cons hA
  obtain ⟨v1, vs1, d1, ds1, p1, q1, rfl, rfl, rfl, h1, r1⟩ := trodAll_cons r0
  obtain ⟨rfl, rfl, rfl⟩ := trodAll_nil r1
  obtain rfl : args = #[v0, v1] := by cases args; simp_all
  have s1 := sized_at hsz (j := 1) (t := 34) (d := d1) rfl rfl
  obtain ⟨a0, rfl, rfl, rfl, w0⟩ := open_int Try.underlying3 (hval 0 3 v0 rfl rfl) h0
  obtain ⟨a1, g1, z1⟩ := open_picks Try.underlying34 Try.underlying3 (by kernel_rfl) (by kernel_rfl) (hval 1 34 v1 rfl rfl) h1 s1
  exact diskApart_any (w := W) a0 (bounds_i64 w0) v1 a1 g1 z1

theorem diskApart_over : Rows.diskApartRow.holds Try.pinned (OpenSpec.ofChange Rows.diskApartSpec) :=
  OpenClaim.holds_of_wide 7 Try.f7 rfl rfl rfl rfl rfl rfl rfl ⟨rfl, rfl, rfl, rfl, rfl⟩ rfl rfl rfl rfl rfl (by kernel_rfl) Try.func7 (by kernel_rfl)
    (of_decide_eq_true (by kernel_rfl)) (by unfold Func.isWrapper; first | (rw [if_pos (by decide +kernel)]; kernel_rfl) | (rw [if_neg (by decide +kernel)]; exact ⟨rfl, rfl⟩))
    (fun os started H enc _ => diskApart_lifted os started H enc)

theorem diskApart_proved : Rows.DiskApartSaid := diskApart_over
#print axioms diskApart_proved

end Go.Proofs.Ytifkebjfedpaoaa
