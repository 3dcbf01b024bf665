/- Contracts: the code's New, Ops, Cut, change, Truncate, Remove, Rename. -/
import Derived.BigRegion
import Derived.Deep.RegionHeld3
import Derived.Maps.OwnSet
import Derived.Test.YtifkebjfedpaoaaProg
import Derived.Test.YtifkebjfedpaoaaKit
import Derived.Test.YtifkebjfedpaoaaRow
import Derived.Test.YtifkebjfedpaoaaCod5
import Derived.Test.YtifkebjfedpaoaaCod7
import Derived.Test.YtifkebjfedpaoaaFp
import Derived.Test.YtifkebjfedpaoaaDsk0
import Derived.Test.YtifkebjfedpaoaaDsk1
import Derived.Test.YtifkebjfedpaoaaDsk2
import Derived.Test.YtifkebjfedpaoaaDsk6
import Derived.Test.YtifkebjfedpaoaaDsk7
import Derived.Test.YtifkebjfedpaoaaDsk8
namespace Go.Proofs.Ytifkebjfedpaoaa
open Go.RowKit Go.Proofs Go.Maps

theorem Try.infoDisk : (Try.prog.info? 61).map (fun i => (i.zero, i.size)) = some (some (.agg #[.int .i64 0, .map none, .int .i64 0, .bool false, .int .i64 0]), 5) := by kernel_rfl

def newM (room : Nat) : CodM := ⟨room, [], 0, false, 0⟩

def DNewV (w w' : World) (room : Int) (e : Ending) : Prop :=
  (¬ (0 ≤ room ∧ room ≤ 4194304) ∧ e = .returned (.tuple #[.pointer none, .int .i64 1]) ∧ w' = w) ∨
  (0 ≤ room ∧ room ≤ 4194304 ∧ e = .returned (.tuple #[.pointer (some ⟨w.heap.size, 0, none⟩), .int .i64 0]) ∧ w' = w.alloc (.cells #[.int .i64 room, .map none, .int .i64 0, .bool false, .int .i64 0] 61))

theorem dnew_any (room : Int) (w : World) (h1 : -9223372036854775808 ≤ room) (h2 : room ≤ 9223372036854775807) : Calls Try.prog 10 #[.int .i64 room] w fun e w' => DNewV w w' room e := by
  go_enter Try.func10, Try.ntmps10
  by_cases h0 : room < 0
  · go_wp2_with fail
    go_ret2
    exact .inl ⟨by omega, rfl, rfl⟩
  · by_cases h4 : room ≤ 4194304
    · have hy : ¬ 4194304 < room := by omega
      go_wp2_with fail
      go_ret2
      exact .inr ⟨by omega, h4, rfl, rfl⟩
    · have hy : 4194304 < room := by omega
      go_wp2_with fail
      go_ret2
      exact .inl ⟨by omega, rfl, rfl⟩

theorem codAt_new {w w' : World} {room : Nat} (h : w' = w.alloc (.cells #[.int .i64 room, .map none, .int .i64 0, .bool false, .int .i64 0] 61)) : CodAt w' (fun k => w.heap.size ≤ k) w.heap.size (newM room) := by
  subst h
  refine ⟨Nat.le_refl _, .map none, [], Rw.alloc w _ _ (Nat.zero_le _), ⟨.inl ⟨rfl, rfl⟩, ?_, ?_, List.Pairwise.nil, List.Pairwise.nil⟩, rfl⟩
  · intro b hb
    simp at hb
  · intro x hx
    simp at hx

theorem dops_any (F : Nat → Prop) (g : Nat) (D : CodM) (w : World) (h : CodAt w F g D) : Calls Try.prog 26 #[.pointer (some ⟨g, 0, none⟩)] w fun e w' => e = .returned (.int .i64 D.ops) ∧ w' = w := by
  obtain ⟨_, mv, rs, hr, _, _⟩ := h
  have c2 : w.cell? ⟨g, 2, none⟩ = some (.int .i64 D.ops) := hr.cell rfl
  go_enter Try.func26, Try.ntmps26
  go_wp2_with fail
  go_ret
  exact ⟨rfl, rfl⟩

def cutM (D : CodM) (n : Int) : CodM := ⟨D.room, D.fs, D.ops, true, n.toNat⟩

theorem dcut_any (F : Nat → Prop) (g : Nat) (D : CodM) (n : Int) (w : World) (h : CodAt w F g D) : Calls Try.prog 22 #[.pointer (some ⟨g, 0, none⟩), .int .i64 n] w fun e w' => e = .returned (.tuple #[]) ∧ CodV w w' F g (cutM D n) := by
  obtain ⟨hF, mv, rs, hr, hfs, hD⟩ := h
  have c3 : w.cell? ⟨g, 3, none⟩ = some (.bool D.cut) := hr.cell rfl
  have f3 : w.frozen? ⟨g, 3, none⟩ = false := hr.free 3
  have hr2 := Rw.stored hr 3 (.bool true)
  have c4 : (w.setCell ⟨g, 3, none⟩ (.bool true)).cell? ⟨g, 4, none⟩ = some (.int .i64 D.left) := hr2.cell rfl
  have f4 : (w.setCell ⟨g, 3, none⟩ (.bool true)).frozen? ⟨g, 4, none⟩ = false := hr2.free 4
  have hk : ∀ (u : Value), Kept (fun k => k = g) w ((w.setCell ⟨g, 3, none⟩ (.bool true)).setCell ⟨g, 4, none⟩ u) := fun u => kept_put (F := fun k => k = g) (kept_put (F := fun k => k = g) (kept_refl _ w) (.inl rfl) 3 _) (.inl rfl) 4 _
  have hend : ∀ (m : Nat), n.toNat = m → CodV w ((w.setCell ⟨g, 3, none⟩ (.bool true)).setCell ⟨g, 4, none⟩ (.int .i64 m)) F g (cutM D n) := fun m hm => by
    refine ⟨⟨.inl hF, mv, rs, ?_, filesAt_more (filesAt_keep hfs (hk _) (fun k hk => .inr ⟨_, hk ▸ hr⟩)) (fun _ hk => .inl hk), hD⟩, kept_mono (hk _) (fun k hk => .inl (hk ▸ hF))⟩
    have := Rw.stored hr2 4 (.int .i64 (m : Int))
    unfold cutM
    rw [hm]
    exact this
  have HE := Lib.hid hend
  clear hend hk hr2 hr hfs hD hF
  go_enter Try.func22, Try.ntmps22
  by_cases h0 : 0 ≤ n
  · obtain ⟨m, hm⟩ : ∃ m : Nat, n = m := ⟨n.toNat, by omega⟩
    have hmx : max n 0 = n := by omega
    have hmx2 : max 0 n = n := by omega
    have HM := Lib.hid hm
    clear hm
    go_wp2_with fail
    go_end0
    refine ⟨rfl, ?_⟩
    have := HE.out m (by have := HM.out; omega)
    rw [← HM.out] at this
    exact this
  · have hn0 : n < 0 := by omega
    have hmx : max n 0 = 0 := by omega
    go_wp2_with fail
    go_end0
    exact ⟨rfl, HE.out 0 (by omega)⟩

/-- Behind change. -/
def chV (D : CodM) (rs : List Rec) (s : List UInt8) : Value :=
  if goesM D = false then .tuple #[.pointer none, .int .i64 6] else match findR rs s with | none => .tuple #[.pointer none, .int .i64 4] | some x => .tuple #[.pointer (some ⟨x.g, 0, none⟩), .int .i64 0]

theorem change_any (F : Nat → Prop) (g : Nat) (D : CodM) (s : ByteArray) (w : World) (mv : Value) (rs : List Rec) (hF : F g) (hr : Rw w 0 g 61 [.int .i64 D.room, mv, .int .i64 D.ops, .bool D.cut, .int .i64 D.left]) (hfs : FilesAt w F mv rs) (hok : CodOk D) (hs : s.size ≤ maxLen) :
    Calls Try.prog 51 #[.pointer (some ⟨g, 0, none⟩), .string s] w fun e w' => e = .returned (chV D rs s.data.toList) ∧
      Rw w' 0 g 61 [.int .i64 D.room, mv, .int .i64 (tickM D).ops, .bool D.cut, .int .i64 (tickM D).left] ∧ FilesAt w' F mv rs ∧ Kept F w w' := by
  have HPF := Lib.hid (perf_any F g D w mv rs hF hr hfs hok)
  have HS := Lib.hid hs
  clear hF hr hfs hok hs
  go_enter Try.func51, Try.ntmps51
  go_wp2_with fail
  refine (HPF.out).mono ?_
  rintro e w1 ⟨rfl, hr1, hfs1, hk1⟩
  have c1 : w1.cell? ⟨g, 1, none⟩ = some mv := hr1.cell rfl
  have hlook := look_any hfs1.1 s HS.out
  have HR1 := Lib.hid hr1
  have HFS1 := Lib.hid hfs1
  have HK1 := Lib.hid hk1
  clear hr1 hfs1 hk1 HPF
  cases hgo : goesM D with
  | false =>
    have HV : Hid (chV D rs s.data.toList = .tuple #[.pointer none, .int .i64 6]) := Lib.hid (by unfold chV; rw [if_pos hgo])
    clear hgo
    go_wp2_with fail
    go_ret2
    rw [HV.out]
    exact ⟨rfl, HR1.out, HFS1.out, HK1.out⟩
  | true =>
    have HGO : Hid (¬ goesM D = false) := Lib.hid (by rw [hgo]; decide)
    clear hgo
    cases hq : findR rs s.data.toList with
    | none =>
      have HV : Hid (chV D rs s.data.toList = .tuple #[.pointer none, .int .i64 4]) := Lib.hid (by unfold chV; rw [if_neg HGO.out, hq])
      rw [hq] at hlook
      simp only [recP] at hlook
      clear hq
      go_wp2_with fail
      go_ret2
      rw [HV.out]
      exact ⟨rfl, HR1.out, HFS1.out, HK1.out⟩
    | some x =>
      have HV : Hid (chV D rs s.data.toList = .tuple #[.pointer (some ⟨x.g, 0, none⟩), .int .i64 0]) := Lib.hid (by unfold chV; rw [if_neg HGO.out, hq])
      rw [hq] at hlook
      simp only [recP] at hlook
      clear hq
      go_wp2_with fail
      go_ret2
      rw [HV.out]
      exact ⟨rfl, HR1.out, HFS1.out, HK1.out⟩

/-- What a changing call does to its file. -/
def truM (D : CodM) (s : List UInt8) (n : Int) : Int × CodM :=
  if goesM D = false then (6, tickM D) else match findM D.fs s with
    | none => (4, tickM D)
    | some f => if n < 0 ∨ (f.b.length : Int) < n then (1, tickM D) else (0, withM (tickM D) (setM s (fun _ => ⟨s, f.b.take n.toNat, min f.syn n.toNat⟩) D.fs))

def remM (D : CodM) (s : List UInt8) : Int × CodM :=
  if goesM D = false then (6, tickM D) else match findM D.fs s with
    | none => (4, tickM D)
    | some _ => (0, withM (tickM D) (dropM s D.fs))

def renM (D : CodM) (s t : List UInt8) : Int × CodM :=
  if goesM D = false then (6, tickM D) else match findM D.fs s with
    | none => (4, tickM D)
    | some f => if nameB t = false then (1, tickM D) else (0, withM (tickM D) (putM ⟨t, f.b, f.syn⟩ (dropM s D.fs)))

theorem chV_off {D : CodM} {rs : List Rec} {s : List UInt8} (h : goesM D = false) : chV D rs s = .tuple #[.pointer none, .int .i64 6] := by unfold chV; rw [if_pos h]

theorem chV_none {D : CodM} {rs : List Rec} {s : List UInt8} (h : goesM D = true) (h2 : findR rs s = none) : chV D rs s = .tuple #[.pointer none, .int .i64 4] := by unfold chV; rw [if_neg (by rw [h]; decide), h2]

theorem chV_some {D : CodM} {rs : List Rec} {s : List UInt8} {x : Rec} (h : goesM D = true) (h2 : findR rs s = some x) : chV D rs s = .tuple #[.pointer (some ⟨x.g, 0, none⟩), .int .i64 0] := by unfold chV; rw [if_neg (by rw [h]; decide), h2]

theorem codV_tick {w w1 : World} {F : Nat → Prop} {g : Nat} {D : CodM} {mv : Value} {rs : List Rec} (hF : F g) (hr : Rw w1 0 g 61 [.int .i64 D.room, mv, .int .i64 (tickM D).ops, .bool D.cut, .int .i64 (tickM D).left]) (hfs : FilesAt w1 F mv rs) (hD : rs.map (·.f) = D.fs) (hk : Kept F w w1) : CodV w w1 F g (tickM D) :=
  codV_same (D := tickM D) hF hr hfs hD hk (Below.refl _ _)

set_option maxHeartbeats 1000000 in
theorem dtruncate_any (F : Nat → Prop) (g : Nat) (D : CodM) (s : ByteArray) (n : Int) (w : World) (h : CodAt w F g D) (hok : CodOk D) (hs : s.size ≤ maxLen) :
    Calls Try.prog 24 #[.pointer (some ⟨g, 0, none⟩), .string s, .int .i64 n] w fun e w' => e = .returned (.int .i64 (truM D s.data.toList n).1) ∧ CodV w w' F g (truM D s.data.toList n).2 := by
  obtain ⟨hF, mv, rs, hr, hfs, hD⟩ := h
  have hch := change_any F g D s w mv rs hF hr hfs hok hs
  obtain ⟨R, hR⟩ : ∃ R, R = truM D s.data.toList n := ⟨_, rfl⟩
  rw [← hR]
  unfold truM at hR
  have HR := Lib.hid hR
  have HF := Lib.hid hF
  have HD := Lib.hid hD
  have HOK := Lib.hid hok
  clear hr hfs hok hF hD hR hs
  cases hgo : goesM D with
  | false =>
    rw [chV_off hgo] at hch
    have HCH := Lib.hid hch
    have HQ : Hid (R = (6, tickM D)) := Lib.hid (by rw [HR.out, if_pos hgo])
    clear hgo hch
    go_enter Try.func24, Try.ntmps24
    go_wp2_with fail
    refine (HCH.out).mono ?_
    rintro e w1 ⟨rfl, hr1, hfs1, hk1⟩
    have HV := Lib.hid (codV_tick HF.out hr1 hfs1 HD.out hk1)
    clear hr1 hfs1 hk1
    go_wp2_with fail
    go_ret
    rw [HQ.out]
    exact ⟨rfl, HV.out⟩
  | true =>
    cases hq : findR rs s.data.toList with
    | none =>
      rw [chV_none hgo hq] at hch
      have HCH := Lib.hid hch
      have HQ : Hid (R = (4, tickM D)) := Lib.hid (by rw [HR.out, if_neg (by rw [hgo]; decide), findR_none_f HD.out hq])
      clear hgo hch hq
      go_enter Try.func24, Try.ntmps24
      go_wp2_with fail
      refine (HCH.out).mono ?_
      rintro e w1 ⟨rfl, hr1, hfs1, hk1⟩
      have HV := Lib.hid (codV_tick HF.out hr1 hfs1 HD.out hk1)
      clear hr1 hfs1 hk1
      go_wp2_with fail
      go_ret
      rw [HQ.out]
      exact ⟨rfl, HV.out⟩
    | some x =>
      rw [chV_some hgo hq] at hch
      obtain ⟨hxm, hxn⟩ := findR_some hq
      have HCH := Lib.hid hch
      have HQ0 : Hid (R = if n < 0 ∨ (x.f.b.length : Int) < n then (1, tickM D) else (0, withM (tickM D) (setM s.data.toList (fun _ => ⟨s.data.toList, x.f.b.take n.toNat, min x.f.syn n.toNat⟩) D.fs))) :=
        Lib.hid (by rw [HR.out, if_neg (by rw [hgo]; decide), findR_some_f HD.out hq])
      have HXM := Lib.hid hxm
      have HXN := Lib.hid hxn
      obtain ⟨N, hN⟩ : ∃ N, N = x.f.b.length := ⟨_, rfl⟩
      have HNN := Lib.hid hN
      have hNb : N < 1099511627776 := by
        have h1 := sizeM_mem (List.mem_map.2 ⟨x, hxm, rfl⟩ : x.f ∈ rs.map (·.f))
        rw [HD.out] at h1
        have := HOK.out.1
        have := HOK.out.2.1
        omega
      have HNB := Lib.hid hNb
      clear hgo hch hq hxm hxn hN hNb
      go_enter Try.func24, Try.ntmps24
      by_cases h0 : n < 0
      · have HQ : Hid (R = (1, tickM D)) := Lib.hid (by rw [HQ0.out, if_pos (.inl h0)])
        go_wp2_with fail
        refine (HCH.out).mono ?_
        rintro e w1 ⟨rfl, hr1, hfs1, hk1⟩
        have HV := Lib.hid (codV_tick HF.out hr1 hfs1 HD.out hk1)
        clear hr1 hfs1 hk1
        go_wp2_with fail
        go_ret
        rw [HQ.out]
        exact ⟨rfl, HV.out⟩
      · by_cases h1 : (N : Int) < n
        · have HQ : Hid (R = (1, tickM D)) := Lib.hid (by rw [HQ0.out, if_pos (.inr (by rw [← HNN.out]; exact h1))])
          go_wp2_with fail
          refine (HCH.out).mono ?_
          rintro e w1 ⟨rfl, hr1, hfs1, hk1⟩
          obtain ⟨_, hrx, hox, _⟩ := hfs1.2.2.1 x HXM.out
          obtain ⟨a2, q2, hu⟩ := own_len hox.1
          have hc := hrx.cell (j := 0) rfl
          rw [hu, ← HNN.out] at hc
          have HSZ := Lib.hid (dsize_any x.g a2 N q2 w1 hc)
          have HV := Lib.hid (codV_tick HF.out hr1 hfs1 HD.out hk1)
          clear hr1 hfs1 hk1 hrx hox hu hc
          go_wp2_with fail
          refine (HSZ.out).mono ?_
          rintro e w2 ⟨rfl, rfl⟩
          go_wp2_with fail
          go_ret
          rw [HQ.out]
          exact ⟨rfl, HV.out⟩
        · obtain ⟨m, hm⟩ : ∃ m : Nat, n = m := ⟨n.toNat, by omega⟩
          subst hm
          have hmN : m ≤ N := by omega
          have HQ : Hid (R = (0, withM (tickM D) (setM s.data.toList (fun _ => ⟨s.data.toList, x.f.b.take m, min x.f.syn m⟩) D.fs))) := Lib.hid (by
            rw [HQ0.out, if_neg (by rw [← HNN.out]; omega), Int.toNat_natCast])
          have HMN := Lib.hid hmN
          clear hmN
          go_wp2_with fail
          refine (HCH.out).mono ?_
          rintro e w1 ⟨rfl, hr1, hfs1, hk1⟩
          obtain ⟨_, hrx, hox, _⟩ := hfs1.2.2.1 x HXM.out
          obtain ⟨a2, q2, hu⟩ := own_len hox.1
          have hc := hrx.cell (j := 0) rfl
          rw [hu, ← HNN.out] at hc
          have HSZ := Lib.hid (dsize_any x.g a2 N q2 w1 hc)
          have HTR := Lib.hid (truncate_any x.g x.f.b x.u x.f.syn m w1 hrx hox.1 (by rw [← HNN.out]; exact HMN.out) (by have := HNB.out; have := HNN.out; omega))
          have HR1 := Lib.hid hr1
          have HFS1 := Lib.hid hfs1
          have HK1 := Lib.hid hk1
          clear hr1 hfs1 hk1 hrx hox hu hc
          go_wp2_with fail
          refine (HSZ.out).mono ?_
          rintro e w2 ⟨rfl, rfl⟩
          go_wp2_with fail
          refine (HTR.out).mono ?_
          rintro e w3 ⟨v3, rfl, ho3, hr3, hk3⟩
          have hlm : (x.f.b.take m).length = m := by rw [List.length_take, ← HNN.out]; have := HMN.out; omega
          have hset := filesAt_set (m := x.f.b.take m) (syn := min x.f.syn m) HFS1.out HXM.out (kept_mono hk3 (fun k hk => .inl (.inl hk))) hr3 (by rw [hlm]; exact own_mono ho3 (Nat.zero_le _)) (fun k hk => .inr (by
            rcases ho3.2 with ⟨rfl, _⟩ | ⟨g2, cap, cur, rfl, hb, _⟩
            · simp [Value.ownBlock] at hk
            · simp [Value.ownBlock] at hk
              omega)) (by rw [hlm]; omega)
          have hX := HFS1.out.2.2.1 x HXM.out
          have hr3d := rw_kept HR1.out hk3 (fun e => rw_type hX.2.1 HR1.out (by decide) e.symm)
          have hsz := HK1.out.size
          have HV : Hid (CodV w w3 F g (withM (tickM D) (setM s.data.toList (fun _ => ⟨s.data.toList, x.f.b.take m, min x.f.syn m⟩) D.fs))) := Lib.hid (by
            refine ⟨⟨.inl HF.out, mv, _, hr3d, filesAt_more hset (fun k hk => hk.elim .inl (fun h => .inr (Nat.le_trans hsz h))), ?_⟩, kept_trans HK1.out (kept_mono hk3 (fun k hk => .inl (by rw [hk]; exact hX.1)))⟩
            rw [setR_f, HD.out, HXN.out]
            rfl)
          clear hr3d hset ho3 hr3 hk3 hX hsz hlm
          go_wp2_with fail
          go_ret
          rw [HQ.out]
          exact ⟨rfl, HV.out⟩

end Go.Proofs.Ytifkebjfedpaoaa
