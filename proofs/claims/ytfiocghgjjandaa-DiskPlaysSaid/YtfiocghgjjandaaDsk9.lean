/- Contracts: the code's New, Ops, Cut, change, Truncate, Remove, Rename. -/
import Derived.BigRegion
import Derived.Deep.RegionHeld3
import Derived.Maps.OwnSet
import Derived.Test.YtfiocghgjjandaaProg
import Derived.Test.YtfiocghgjjandaaKit
import Derived.Test.YtfiocghgjjandaaRow
import Derived.Test.YtfiocghgjjandaaCod5
import Derived.Test.YtfiocghgjjandaaCod7
import Derived.Test.YtfiocghgjjandaaFrm4
import Derived.Test.YtfiocghgjjandaaFp
import Derived.Test.YtfiocghgjjandaaDsk0
import Derived.Test.YtfiocghgjjandaaDsk1
import Derived.Test.YtfiocghgjjandaaDsk2
import Derived.Test.YtfiocghgjjandaaDsk6
import Derived.Test.YtfiocghgjjandaaDsk7
import Derived.Test.YtfiocghgjjandaaDsk8
namespace Go.Proofs.Ytfiocghgjjandaa
open Go.RowKit Go.Proofs Go.Maps

theorem Try.infoDisk : (Try.prog.info? 47).map (fun i => (i.zero, i.size)) = some (some (.agg #[.int .i64 0, .map none, .int .i64 0, .bool false, .int .i64 0]), 5) := by kernel_rfl

def newM (room : Nat) : CodM := ⟨room, [], 0, false, 0⟩

def DNewV (w w' : World) (room : Int) (e : Ending) : Prop :=
  (¬ (0 ≤ room ∧ room ≤ 4194304) ∧ e = .returned (.tuple #[.pointer none, .int .i64 1]) ∧ w' = w) ∨
  (0 ≤ room ∧ room ≤ 4194304 ∧ e = .returned (.tuple #[.pointer (some ⟨w.heap.size, 0, none⟩), .int .i64 0]) ∧ w' = w.alloc (.cells #[.int .i64 room, .map none, .int .i64 0, .bool false, .int .i64 0] 47))

theorem dnew_any (room : Int) (w : World) (h1 : -9223372036854775808 ≤ room) (h2 : room ≤ 9223372036854775807) : Calls Try.prog 6 #[.int .i64 room] w fun e w' => DNewV w w' room e := by
  go_enter Try.func6, Try.ntmps6
  by_cases h0 : room < 0
  · go_wp2_with fail
    go_ret2
    exact .inl ⟨by omega, rfl, rfl⟩
  · by_cases h4 : room ≤ 4194304
    · have hy : ¬ 4194304 < room := by omega
      go_wp2_with fail
      go_ret2
      exact .inr ⟨by omega, h4, rfl, rfl⟩
    · have hy : 4194304 < room := by omega
      go_wp2_with fail
      go_ret2
      exact .inl ⟨by omega, rfl, rfl⟩

theorem codAt_new {w w' : World} {room : Nat} (h : w' = w.alloc (.cells #[.int .i64 room, .map none, .int .i64 0, .bool false, .int .i64 0] 47)) : CodAt w' (fun k => w.heap.size ≤ k) w.heap.size (newM room) := by
  subst h
  refine ⟨Nat.le_refl _, .map none, [], Rw.alloc w _ _ (Nat.zero_le _), ⟨.inl ⟨rfl, rfl⟩, ?_, ?_, List.Pairwise.nil, List.Pairwise.nil⟩, rfl⟩
  · intro b hb
    simp at hb
  · intro x hx
    simp at hx

theorem dops_any (F : Nat → Prop) (g : Nat) (D : CodM) (w : World) (h : CodAt w F g D) : Calls Try.prog 31 #[.pointer (some ⟨g, 0, none⟩)] w fun e w' => e = .returned (.int .i64 D.ops) ∧ w' = w := by
  obtain ⟨_, mv, rs, hr, _, _⟩ := h
  have c2 : w.cell? ⟨g, 2, none⟩ = some (.int .i64 D.ops) := hr.cell rfl
  go_enter Try.func31, Try.ntmps31
  go_wp2_with fail
  go_ret
  exact ⟨rfl, rfl⟩

def cutM (D : CodM) (n : Int) : CodM := ⟨D.room, D.fs, D.ops, true, n.toNat⟩

theorem dcut_any (F : Nat → Prop) (g : Nat) (D : CodM) (n : Int) (w : World) (h : CodAt w F g D) : Calls Try.prog 23 #[.pointer (some ⟨g, 0, none⟩), .int .i64 n] w fun e w' => e = .returned (.tuple #[]) ∧ CodV w w' F g (cutM D n) := by
  obtain ⟨hF, mv, rs, hr, hfs, hD⟩ := h
  have c3 : w.cell? ⟨g, 3, none⟩ = some (.bool D.cut) := hr.cell rfl
  have f3 : w.frozen? ⟨g, 3, none⟩ = false := hr.free 3
  have hr2 := Rw.stored hr 3 (.bool true)
  have c4 : (w.setCell ⟨g, 3, none⟩ (.bool true)).cell? ⟨g, 4, none⟩ = some (.int .i64 D.left) := hr2.cell rfl
  have f4 : (w.setCell ⟨g, 3, none⟩ (.bool true)).frozen? ⟨g, 4, none⟩ = false := hr2.free 4
  have hk : ∀ (u : Value), Kept (fun k => k = g) w ((w.setCell ⟨g, 3, none⟩ (.bool true)).setCell ⟨g, 4, none⟩ u) := fun u => kept_put (F := fun k => k = g) (kept_put (F := fun k => k = g) (kept_refl _ w) (.inl rfl) 3 _) (.inl rfl) 4 _
  have hend : ∀ (m : Nat), n.toNat = m → CodV w ((w.setCell ⟨g, 3, none⟩ (.bool true)).setCell ⟨g, 4, none⟩ (.int .i64 m)) F g (cutM D n) := fun m hm => by
    refine ⟨⟨.inl hF, mv, rs, ?_, filesAt_more (filesAt_keep hfs (hk _) (fun k hk => .inr ⟨_, hk ▸ hr⟩)) (fun _ hk => .inl hk), hD⟩, kept_mono (hk _) (fun k hk => .inl (hk ▸ hF))⟩
    have := Rw.stored hr2 4 (.int .i64 (m : Int))
    unfold cutM
    rw [hm]
    exact this
  have HE := Lib.hid hend
  clear hend hk hr2 hr hfs hD hF
  go_enter Try.func23, Try.ntmps23
  by_cases h0 : 0 ≤ n
  · obtain ⟨m, hm⟩ : ∃ m : Nat, n = m := ⟨n.toNat, by omega⟩
    have hmx : max n 0 = n := by omega
    have hmx2 : max 0 n = n := by omega
    have HM := Lib.hid hm
    clear hm
    go_wp2_with fail
    go_end0
    refine ⟨rfl, ?_⟩
    have := HE.out m (by have := HM.out; omega)
    rw [← HM.out] at this
    exact this
  · have hn0 : n < 0 := by omega
    have hmx : max n 0 = 0 := by omega
    go_wp2_with fail
    go_end0
    exact ⟨rfl, HE.out 0 (by omega)⟩

/-- Behind change. -/
def chV (D : CodM) (rs : List Rec) (s : List UInt8) : Value :=
  if goesM D = false then .tuple #[.pointer none, .int .i64 6] else match findR rs s with | none => .tuple #[.pointer none, .int .i64 4] | some x => .tuple #[.pointer (some ⟨x.g, 0, none⟩), .int .i64 0]

theorem change_any (F : Nat → Prop) (g : Nat) (D : CodM) (s : ByteArray) (w : World) (mv : Value) (rs : List Rec) (hF : F g) (hr : Rw w 0 g 47 [.int .i64 D.room, mv, .int .i64 D.ops, .bool D.cut, .int .i64 D.left]) (hfs : FilesAt w F mv rs) (hok : CodOk D) (hs : s.size ≤ maxLen) :
    Calls Try.prog 48 #[.pointer (some ⟨g, 0, none⟩), .string s] w fun e w' => e = .returned (chV D rs s.data.toList) ∧
      Rw w' 0 g 47 [.int .i64 D.room, mv, .int .i64 (tickM D).ops, .bool D.cut, .int .i64 (tickM D).left] ∧ FilesAt w' F mv rs ∧ Kept F w w' := by
  have HPF := Lib.hid (perf_any F g D w mv rs hF hr hfs hok)
  have HS := Lib.hid hs
  clear hF hr hfs hok hs
  go_enter Try.func48, Try.ntmps48
  go_wp2_with fail
  refine (HPF.out).mono ?_
  rintro e w1 ⟨rfl, hr1, hfs1, hk1⟩
  have c1 : w1.cell? ⟨g, 1, none⟩ = some mv := hr1.cell rfl
  have hlook := look_any hfs1.1 s HS.out
  have HR1 := Lib.hid hr1
  have HFS1 := Lib.hid hfs1
  have HK1 := Lib.hid hk1
  clear hr1 hfs1 hk1 HPF
  cases hgo : goesM D with
  | false =>
    have HV : Hid (chV D rs s.data.toList = .tuple #[.pointer none, .int .i64 6]) := Lib.hid (by unfold chV; rw [if_pos hgo])
    clear hgo
    go_wp2_with fail
    go_ret2
    rw [HV.out]
    exact ⟨rfl, HR1.out, HFS1.out, HK1.out⟩
  | true =>
    have HGO : Hid (¬ goesM D = false) := Lib.hid (by rw [hgo]; decide)
    clear hgo
    cases hq : findR rs s.data.toList with
    | none =>
      have HV : Hid (chV D rs s.data.toList = .tuple #[.pointer none, .int .i64 4]) := Lib.hid (by unfold chV; rw [if_neg HGO.out, hq])
      rw [hq] at hlook
      simp only [recP] at hlook
      clear hq
      go_wp2_with fail
      go_ret2
      rw [HV.out]
      exact ⟨rfl, HR1.out, HFS1.out, HK1.out⟩
    | some x =>
      have HV : Hid (chV D rs s.data.toList = .tuple #[.pointer (some ⟨x.g, 0, none⟩), .int .i64 0]) := Lib.hid (by unfold chV; rw [if_neg HGO.out, hq])
      rw [hq] at hlook
      simp only [recP] at hlook
      clear hq
      go_wp2_with fail
      go_ret2
      rw [HV.out]
      exact ⟨rfl, HR1.out, HFS1.out, HK1.out⟩

/-- What a changing call does to its file. -/
def truM (D : CodM) (s : List UInt8) (n : Int) : Int × CodM :=
  if goesM D = false then (6, tickM D) else match findM D.fs s with
    | none => (4, tickM D)
    | some f => if n < 0 ∨ (f.b.length : Int) < n then (1, tickM D) else (0, withM (tickM D) (setM s (fun _ => ⟨s, f.b.take n.toNat, min f.syn n.toNat⟩) D.fs))

def remM (D : CodM) (s : List UInt8) : Int × CodM :=
  if goesM D = false then (6, tickM D) else match findM D.fs s with
    | none => (4, tickM D)
    | some _ => (0, withM (tickM D) (dropM s D.fs))

def renM (D : CodM) (s t : List UInt8) : Int × CodM :=
  if goesM D = false then (6, tickM D) else match findM D.fs s with
    | none => (4, tickM D)
    | some f => if nameB t = false then (1, tickM D) else (0, withM (tickM D) (putM ⟨t, f.b, f.syn⟩ (dropM s D.fs)))

theorem chV_off {D : CodM} {rs : List Rec} {s : List UInt8} (h : goesM D = false) : chV D rs s = .tuple #[.pointer none, .int .i64 6] := by unfold chV; rw [if_pos h]

theorem chV_none {D : CodM} {rs : List Rec} {s : List UInt8} (h : goesM D = true) (h2 : findR rs s = none) : chV D rs s = .tuple #[.pointer none, .int .i64 4] := by unfold chV; rw [if_neg (by rw [h]; decide), h2]

theorem chV_some {D : CodM} {rs : List Rec} {s : List UInt8} {x : Rec} (h : goesM D = true) (h2 : findR rs s = some x) : chV D rs s = .tuple #[.pointer (some ⟨x.g, 0, none⟩), .int .i64 0] := by unfold chV; rw [if_neg (by rw [h]; decide), h2]

theorem codV_tick {w w1 : World} {F : Nat → Prop} {g : Nat} {D : CodM} {mv : Value} {rs : List Rec} (hF : F g) (hr : Rw w1 0 g 47 [.int .i64 D.room, mv, .int .i64 (tickM D).ops, .bool D.cut, .int .i64 (tickM D).left]) (hfs : FilesAt w1 F mv rs) (hD : rs.map (·.f) = D.fs) (hk : Kept F w w1) : CodV w w1 F g (tickM D) :=
  codV_same (D := tickM D) hF hr hfs hD hk (Below.refl _ _)

set_option maxHeartbeats 1000000 in
theorem dtruncate_any (F : Nat → Prop) (g : Nat) (D : CodM) (s : ByteArray) (n : Int) (w : World) (h : CodAt w F g D) (hok : CodOk D) (hs : s.size ≤ maxLen) :
    Calls Try.prog 19 #[.pointer (some ⟨g, 0, none⟩), .string s, .int .i64 n] w fun e w' => e = .returned (.int .i64 (truM D s.data.toList n).1) ∧ CodV w w' F g (truM D s.data.toList n).2 := by
  obtain ⟨hF, mv, rs, hr, hfs, hD⟩ := h
  have hch := change_any F g D s w mv rs hF hr hfs hok hs
  obtain ⟨R, hR⟩ : ∃ R, R = truM D s.data.toList n := ⟨_, rfl⟩
  rw [← hR]
  unfold truM at hR
  have HR := Lib.hid hR
  have HF := Lib.hid hF
  have HD := Lib.hid hD
  have HOK := Lib.hid hok
  clear hr hfs hok hF hD hR hs
  cases hgo : goesM D with
  | false =>
    rw [chV_off hgo] at hch
    have HCH := Lib.hid hch
    have HQ : Hid (R = (6, tickM D)) := Lib.hid (by rw [HR.out, if_pos hgo])
    clear hgo hch
    go_enter Try.func19, Try.ntmps19
    go_wp2_with fail
    refine (HCH.out).mono ?_
    rintro e w1 ⟨rfl, hr1, hfs1, hk1⟩
    have HV := Lib.hid (codV_tick HF.out hr1 hfs1 HD.out hk1)
    clear hr1 hfs1 hk1
    go_wp2_with fail
    go_ret
    rw [HQ.out]
    exact ⟨rfl, HV.out⟩
  | true =>
    cases hq : findR rs s.data.toList with
    | none =>
      rw [chV_none hgo hq] at hch
      have HCH := Lib.hid hch
      have HQ : Hid (R = (4, tickM D)) := Lib.hid (by rw [HR.out, if_neg (by rw [hgo]; decide), findR_none_f HD.out hq])
      clear hgo hch hq
      go_enter Try.func19, Try.ntmps19
      go_wp2_with fail
      refine (HCH.out).mono ?_
      rintro e w1 ⟨rfl, hr1, hfs1, hk1⟩
      have HV := Lib.hid (codV_tick HF.out hr1 hfs1 HD.out hk1)
      clear hr1 hfs1 hk1
      go_wp2_with fail
      go_ret
      rw [HQ.out]
      exact ⟨rfl, HV.out⟩
    | some x =>
      rw [chV_some hgo hq] at hch
      obtain ⟨hxm, hxn⟩ := findR_some hq
      have HCH := Lib.hid hch
      have HQ0 : Hid (R = if n < 0 ∨ (x.f.b.length : Int) < n then (1, tickM D) else (0, withM (tickM D) (setM s.data.toList (fun _ => ⟨s.data.toList, x.f.b.take n.toNat, min x.f.syn n.toNat⟩) D.fs))) :=
        Lib.hid (by rw [HR.out, if_neg (by rw [hgo]; decide), findR_some_f HD.out hq])
      have HXM := Lib.hid hxm
      have HXN := Lib.hid hxn
      obtain ⟨N, hN⟩ : ∃ N, N = x.f.b.length := ⟨_, rfl⟩
      have HNN := Lib.hid hN
      have hNb : N < 1099511627776 := by
        have h1 := sizeM_mem (List.mem_map.2 ⟨x, hxm, rfl⟩ : x.f ∈ rs.map (·.f))
        rw [HD.out] at h1
        have := HOK.out.1
        have := HOK.out.2.1
        omega
      have HNB := Lib.hid hNb
      clear hgo hch hq hxm hxn hN hNb
      go_enter Try.func19, Try.ntmps19
      by_cases h0 : n < 0
      · have HQ : Hid (R = (1, tickM D)) := Lib.hid (by rw [HQ0.out, if_pos (.inl h0)])
        go_wp2_with fail
        refine (HCH.out).mono ?_
        rintro e w1 ⟨rfl, hr1, hfs1, hk1⟩
        have HV := Lib.hid (codV_tick HF.out hr1 hfs1 HD.out hk1)
        clear hr1 hfs1 hk1
        go_wp2_with fail
        go_ret
        rw [HQ.out]
        exact ⟨rfl, HV.out⟩
      · by_cases h1 : (N : Int) < n
        · have HQ : Hid (R = (1, tickM D)) := Lib.hid (by rw [HQ0.out, if_pos (.inr (by rw [← HNN.out]; exact h1))])
          go_wp2_with fail
          refine (HCH.out).mono ?_
          rintro e w1 ⟨rfl, hr1, hfs1, hk1⟩
          obtain ⟨_, hrx, hox, _⟩ := hfs1.2.2.1 x HXM.out
          obtain ⟨a2, q2, hu⟩ := own_len hox.1
          have hc := hrx.cell (j := 0) rfl
          rw [hu, ← HNN.out] at hc
          have HSZ := Lib.hid (dsize_any x.g a2 N q2 w1 hc)
          have HV := Lib.hid (codV_tick HF.out hr1 hfs1 HD.out hk1)
          clear hr1 hfs1 hk1 hrx hox hu hc
          go_wp2_with fail
          refine (HSZ.out).mono ?_
          rintro e w2 ⟨rfl, rfl⟩
          go_wp2_with fail
          go_ret
          rw [HQ.out]
          exact ⟨rfl, HV.out⟩
        · obtain ⟨m, hm⟩ : ∃ m : Nat, n = m := ⟨n.toNat, by omega⟩
          subst hm
          have hmN : m ≤ N := by omega
          have HQ : Hid (R = (0, withM (tickM D) (setM s.data.toList (fun _ => ⟨s.data.toList, x.f.b.take m, min x.f.syn m⟩) D.fs))) := Lib.hid (by
            rw [HQ0.out, if_neg (by rw [← HNN.out]; omega), Int.toNat_natCast])
          have HMN := Lib.hid hmN
          clear hmN
          go_wp2_with fail
          refine (HCH.out).mono ?_
          rintro e w1 ⟨rfl, hr1, hfs1, hk1⟩
          obtain ⟨_, hrx, hox, _⟩ := hfs1.2.2.1 x HXM.out
          obtain ⟨a2, q2, hu⟩ := own_len hox.1
          have hc := hrx.cell (j := 0) rfl
          rw [hu, ← HNN.out] at hc
          have HSZ := Lib.hid (dsize_any x.g a2 N q2 w1 hc)
          have HTR := Lib.hid (truncate_any x.g x.f.b x.u x.f.syn m w1 hrx hox.1 (by rw [← HNN.out]; exact HMN.out) (by have := HNB.out; have := HNN.out; omega))
          have HR1 := Lib.hid hr1
          have HFS1 := Lib.hid hfs1
          have HK1 := Lib.hid hk1
          clear hr1 hfs1 hk1 hrx hox hu hc
          go_wp2_with fail
          refine (HSZ.out).mono ?_
          rintro e w2 ⟨rfl, rfl⟩
          go_wp2_with fail
          refine (HTR.out).mono ?_
          rintro e w3 ⟨v3, rfl, ho3, hr3, hk3⟩
          have hlm : (x.f.b.take m).length = m := by rw [List.length_take, ← HNN.out]; have := HMN.out; omega
          have hset := filesAt_set (m := x.f.b.take m) (syn := min x.f.syn m) HFS1.out HXM.out (kept_mono hk3 (fun k hk => .inl (.inl hk))) hr3 (by rw [hlm]; exact own_mono ho3 (Nat.zero_le _)) (fun k hk => .inr (by
            rcases ho3.2 with ⟨rfl, _⟩ | ⟨g2, cap, cur, rfl, hb, _⟩
            · simp [Value.ownBlock] at hk
            · simp [Value.ownBlock] at hk
              omega)) (by rw [hlm]; omega)
          have hX := HFS1.out.2.2.1 x HXM.out
          have hr3d := rw_kept HR1.out hk3 (fun e => rw_type hX.2.1 HR1.out (by decide) e.symm)
          have hsz := HK1.out.size
          have HV : Hid (CodV w w3 F g (withM (tickM D) (setM s.data.toList (fun _ => ⟨s.data.toList, x.f.b.take m, min x.f.syn m⟩) D.fs))) := Lib.hid (by
            refine ⟨⟨.inl HF.out, mv, _, hr3d, filesAt_more hset (fun k hk => hk.elim .inl (fun h => .inr (Nat.le_trans hsz h))), ?_⟩, kept_trans HK1.out (kept_mono hk3 (fun k hk => .inl (by rw [hk]; exact hX.1)))⟩
            rw [setR_f, HD.out, HXN.out]
            rfl)
          clear hr3d hset ho3 hr3 hk3 hX hsz hlm
          go_wp2_with fail
          go_ret
          rw [HQ.out]
          exact ⟨rfl, HV.out⟩

theorem apart_of {w : World} {F : Nat → Prop} {mv : Value} {rs : List Rec} {x z : Rec} (h : FilesAt w F mv rs) (hx : x ∈ rs) (hz : z ∈ rs) (hn : z.f.name ≠ x.f.name) : ApartR x z := by
  have hp := h.2.2.2.1
  obtain ⟨i, hi, rfl⟩ := List.getElem_of_mem hx
  obtain ⟨j, hj, rfl⟩ := List.getElem_of_mem hz
  rcases Nat.lt_trichotomy i j with h | rfl | h
  · exact List.pairwise_iff_getElem.1 hp i j hi hj h
  · exact absurd rfl hn
  · exact apartR_symm (List.pairwise_iff_getElem.1 hp j i hj hi h)

theorem mapV_block {w : World} {mv : Value} {rs : List Rec} {x : Rec} (h : MapV w mv rs) (hx : x ∈ rs) : ∃ b, mv = .map (some b) ∧ MapAt w b rs := by
  rcases h with ⟨_, rfl⟩ | ⟨b, hb, hm⟩
  · simp at hx
  · exact ⟨b, hb, hm⟩

theorem kept_grow {w w' : World} {b : Nat} (h : w.grownBy w' (some b)) : Kept (fun k => k = b) w w' := kept_grown (kept_refl _ w) h (fun g hg => .inl (by injection hg with hg; exact hg.symm))

theorem del_at {w' : World} {b : Nat} {rs : List Rec} {s : List UInt8} (h : w'.ownsMap Try.prog 9 ptrR b rs.length ((DataW.map (rs.map entR)).del (.string s))) : MapAt w' b (dropR s rs) := by
  rw [entR_del] at h
  exact mapAt_tight h

set_option maxHeartbeats 1000000 in
theorem dremove_any (F : Nat → Prop) (g : Nat) (D : CodM) (s : ByteArray) (w : World) (h : CodAt w F g D) (hok : CodOk D) (hs : s.size ≤ maxLen) :
    Calls Try.prog 21 #[.pointer (some ⟨g, 0, none⟩), .string s] w fun e w' => e = .returned (.int .i64 (remM D s.data.toList).1) ∧ CodV w w' F g (remM D s.data.toList).2 := by
  obtain ⟨hF, mv, rs, hr, hfs, hD⟩ := h
  have hch := change_any F g D s w mv rs hF hr hfs hok hs
  obtain ⟨R, hR⟩ : ∃ R, R = remM D s.data.toList := ⟨_, rfl⟩
  rw [← hR]
  unfold remM at hR
  have HR := Lib.hid hR
  have HF := Lib.hid hF
  have HD := Lib.hid hD
  have HS := Lib.hid hs
  clear hr hfs hok hF hD hR hs
  cases hgo : goesM D with
  | false =>
    rw [chV_off hgo] at hch
    have HCH := Lib.hid hch
    have HQ : Hid (R = (6, tickM D)) := Lib.hid (by rw [HR.out, if_pos hgo])
    clear hgo hch
    go_enter Try.func21, Try.ntmps21
    go_wp2_with fail
    refine (HCH.out).mono ?_
    rintro e w1 ⟨rfl, hr1, hfs1, hk1⟩
    have HV := Lib.hid (codV_tick HF.out hr1 hfs1 HD.out hk1)
    clear hr1 hfs1 hk1
    go_wp2_with fail
    go_ret
    rw [HQ.out]
    exact ⟨rfl, HV.out⟩
  | true =>
    cases hq : findR rs s.data.toList with
    | none =>
      rw [chV_none hgo hq] at hch
      have HCH := Lib.hid hch
      have HQ : Hid (R = (4, tickM D)) := Lib.hid (by rw [HR.out, if_neg (by rw [hgo]; decide), findR_none_f HD.out hq])
      clear hgo hch hq
      go_enter Try.func21, Try.ntmps21
      go_wp2_with fail
      refine (HCH.out).mono ?_
      rintro e w1 ⟨rfl, hr1, hfs1, hk1⟩
      have HV := Lib.hid (codV_tick HF.out hr1 hfs1 HD.out hk1)
      clear hr1 hfs1 hk1
      go_wp2_with fail
      go_ret
      rw [HQ.out]
      exact ⟨rfl, HV.out⟩
    | some x =>
      rw [chV_some hgo hq] at hch
      obtain ⟨hxm, _⟩ := findR_some hq
      have HCH := Lib.hid hch
      have HQ : Hid (R = (0, withM (tickM D) (dropM s.data.toList D.fs))) := Lib.hid (by rw [HR.out, if_neg (by rw [hgo]; decide), findR_some_f HD.out hq])
      have HXM := Lib.hid hxm
      clear hgo hch hq hxm
      go_enter Try.func21, Try.ntmps21
      go_wp2_with fail
      refine (HCH.out).mono ?_
      rintro e w1 ⟨rfl, hr1, hfs1, hk1⟩
      obtain ⟨b, rfl, hm1⟩ := mapV_block hfs1.1 HXM.out
      have c1 : w1.cell? ⟨g, 1, none⟩ = some (.map (some b)) := hr1.cell rfl
      have HM1 := Lib.hid hm1
      have HR1 := Lib.hid hr1
      have HFS1 := Lib.hid hfs1
      have HK1 := Lib.hid hk1
      clear hr1 hfs1 hk1 hm1
      go_wp2_with (first | (at_delete; refine wpList_delete_own _ rfl _ _ 45 9 rfl 73 Try.keyS Try.underlying45 ptrR b rs.length (.map (rs.map entR)) rfl HM1.out _ _ rfl (key_of s HS.out) ?_; intro w2 hown2 hturn2) | fail)
      have hk2 := kept_grow (World.mapTurned.grown hturn2)
      have hfs2 := filesAt_drop HFS1.out (del_at hown2) hk2
      have HV : Hid (CodV w w2 F g (withM (tickM D) (dropM s.data.toList D.fs))) := Lib.hid (by
        refine ⟨⟨.inl HF.out, .map (some b), _, rw_kept HR1.out hk2 (fun e => map_ne HM1.out HR1.out e.symm), filesAt_more hfs2 (fun k hk => .inl hk), ?_⟩, kept_trans HK1.out (kept_mono hk2 (fun k hk => .inl (by rw [hk]; exact HFS1.out.2.1 b rfl)))⟩
        rw [dropR_f, HD.out]
        rfl)
      clear hown2 hturn2 hk2 hfs2
      go_wp2_with fail
      go_ret
      rw [HQ.out]
      exact ⟨rfl, HV.out⟩

set_option maxHeartbeats 1000000 in
theorem drename_any (F : Nat → Prop) (g : Nat) (D : CodM) (s t : ByteArray) (w : World) (h : CodAt w F g D) (hok : CodOk D) (hs : s.size ≤ maxLen) :
    Calls Try.prog 17 #[.pointer (some ⟨g, 0, none⟩), .string s, .string t] w fun e w' => e = .returned (.int .i64 (renM D s.data.toList t.data.toList).1) ∧ CodV w w' F g (renM D s.data.toList t.data.toList).2 := by
  obtain ⟨hF, mv, rs, hr, hfs, hD⟩ := h
  have hch := change_any F g D s w mv rs hF hr hfs hok hs
  obtain ⟨R, hR⟩ : ∃ R, R = renM D s.data.toList t.data.toList := ⟨_, rfl⟩
  rw [← hR]
  unfold renM at hR
  have HR := Lib.hid hR
  have HF := Lib.hid hF
  have HD := Lib.hid hD
  have HS := Lib.hid hs
  have HLE : Hid (rs.length < 1099511627776) := Lib.hid (by
    have h1 := hok.2.2.2.2
    rw [← hD, List.length_map] at h1
    exact h1)
  clear hr hfs hok hF hD hR hs
  cases hgo : goesM D with
  | false =>
    rw [chV_off hgo] at hch
    have HCH := Lib.hid hch
    have HQ : Hid (R = (6, tickM D)) := Lib.hid (by rw [HR.out, if_pos hgo])
    clear hgo hch
    go_enter Try.func17, Try.ntmps17
    go_wp2_with fail
    refine (HCH.out).mono ?_
    rintro e w1 ⟨rfl, hr1, hfs1, hk1⟩
    have HV := Lib.hid (codV_tick HF.out hr1 hfs1 HD.out hk1)
    clear hr1 hfs1 hk1
    go_wp2_with fail
    go_ret
    rw [HQ.out]
    exact ⟨rfl, HV.out⟩
  | true =>
    cases hq : findR rs s.data.toList with
    | none =>
      rw [chV_none hgo hq] at hch
      have HCH := Lib.hid hch
      have HQ : Hid (R = (4, tickM D)) := Lib.hid (by rw [HR.out, if_neg (by rw [hgo]; decide), findR_none_f HD.out hq])
      clear hgo hch hq
      go_enter Try.func17, Try.ntmps17
      go_wp2_with fail
      refine (HCH.out).mono ?_
      rintro e w1 ⟨rfl, hr1, hfs1, hk1⟩
      have HV := Lib.hid (codV_tick HF.out hr1 hfs1 HD.out hk1)
      clear hr1 hfs1 hk1
      go_wp2_with fail
      go_ret
      rw [HQ.out]
      exact ⟨rfl, HV.out⟩
    | some x =>
      rw [chV_some hgo hq] at hch
      obtain ⟨hxm, hxn⟩ := findR_some hq
      have HCH := Lib.hid hch
      have HQ0 : Hid (R = if nameB t.data.toList = false then (1, tickM D) else (0, withM (tickM D) (putM ⟨t.data.toList, x.f.b, x.f.syn⟩ (dropM s.data.toList D.fs)))) := Lib.hid (by rw [HR.out, if_neg (by rw [hgo]; decide), findR_some_f HD.out hq])
      have HXM := Lib.hid hxm
      have HXN := Lib.hid hxn
      clear hgo hch hq hxm hxn
      have hnm := fun W => nameable_any t W
      cases hnb : nameB t.data.toList with
      | false =>
        have HQ : Hid (R = (1, tickM D)) := Lib.hid (by rw [HQ0.out, if_pos hnb])
        rw [hnb] at hnm
        have HNM := Lib.hid hnm
        clear hnb hnm
        go_enter Try.func17, Try.ntmps17
        go_wp2_with fail
        refine (HCH.out).mono ?_
        rintro e w1 ⟨rfl, hr1, hfs1, hk1⟩
        have HV := Lib.hid (codV_tick HF.out hr1 hfs1 HD.out hk1)
        clear hr1 hfs1 hk1
        go_wp2_with fail
        refine (HNM.out _).mono ?_
        rintro e w2 ⟨rfl, rfl⟩
        go_wp2_with fail
        go_ret
        rw [HQ.out]
        exact ⟨rfl, HV.out⟩
      | true =>
        have HT : Hid (t.size ≤ maxLen) := Lib.hid (by
          unfold nameB at hnb
          rw [Bool.and_eq_true, decide_eq_true_eq, decide_eq_true_eq, size_data] at hnb
          unfold maxLen
          omega)
        have HQ : Hid (R = (0, withM (tickM D) (putM ⟨t.data.toList, x.f.b, x.f.syn⟩ (dropM s.data.toList D.fs)))) := Lib.hid (by rw [HQ0.out, if_neg (by rw [hnb]; decide)])
        rw [hnb] at hnm
        have HNM := Lib.hid hnm
        clear hnb hnm
        go_enter Try.func17, Try.ntmps17
        go_wp2_with fail
        refine (HCH.out).mono ?_
        rintro e w1 ⟨rfl, hr1, hfs1, hk1⟩
        obtain ⟨b, rfl, hm1⟩ := mapV_block hfs1.1 HXM.out
        have c1 : w1.cell? ⟨g, 1, none⟩ = some (.map (some b)) := hr1.cell rfl
        have HM1 := Lib.hid hm1
        have HR1 := Lib.hid hr1
        have HFS1 := Lib.hid hfs1
        have HK1 := Lib.hid hk1
        clear hr1 hfs1 hk1 hm1
        go_wp2_with fail
        refine (HNM.out _).mono ?_
        rintro e w2 ⟨rfl, rfl⟩
        go_wp2_with (first | (at_delete; refine wpList_delete_own _ rfl _ _ 45 9 rfl 73 Try.keyS Try.underlying45 ptrR b rs.length (.map (rs.map entR)) rfl HM1.out _ _ rfl (key_of s HS.out) ?_; intro w3 hown3 hturn3) | fail)
        have hk3 := kept_grow (World.mapTurned.grown hturn3)
        have hfs3 := filesAt_drop HFS1.out (del_at hown3) hk3
        have hr3 := rw_kept HR1.out hk3 (fun e => map_ne HM1.out HR1.out e.symm)
        have hX := HFS1.out.2.2.1 x HXM.out
        have hx3 : RecAt w3 F ⟨⟨t.data.toList, x.f.b, x.f.syn⟩, x.g, x.u⟩ :=
          recAt_keep (x := ⟨⟨t.data.toList, x.f.b, x.f.syn⟩, x.g, x.u⟩) ⟨hX.1, hX.2.1, hX.2.2.1, hX.2.2.2⟩ hk3 (fun e => map_ne HM1.out hX.2.1 e.symm) (fun k hk e => by subst e; exact map_own HM1.out hX.2.2.1.1 hk)
        have hap : ∀ y ∈ dropR s.data.toList rs, ApartR ⟨⟨t.data.toList, x.f.b, x.f.syn⟩, x.g, x.u⟩ y := fun y hy => by
          obtain ⟨hy, hyn⟩ := dropR_mem.1 hy
          have ha := apart_of HFS1.out HXM.out hy (by rw [HXN.out]; exact hyn)
          exact ⟨ha.1, ha.2⟩
        have hput := dput_any g D.room (.map (some b)) (tickM D).ops D.cut (tickM D).left (dropR s.data.toList rs) ⟨⟨t.data.toList, x.f.b, x.f.syn⟩, x.g, x.u⟩ t w3 hr3 hfs3.1 rfl HT.out (Nat.lt_of_le_of_lt (List.length_filter_le _ _) HLE.out)
        have HPUT := Lib.hid hput
        have HFS3 := Lib.hid hfs3
        have HR3 := Lib.hid hr3
        have HX3 := Lib.hid hx3
        have HAP := Lib.hid hap
        have HK3 : Hid (Kept F w w3) := Lib.hid (kept_trans HK1.out (kept_mono hk3 (fun k hk => .inl (by rw [hk]; exact HFS1.out.2.1 b rfl))))
        clear hput hfs3 hr3 hx3 hap hk3 hX hown3 hturn3 c1
        go_wp2_with fail
        refine (HPUT.out).mono ?_
        rintro e w4 ⟨rfl, hd4⟩
        obtain ⟨b4, hr4, hfs4, hk4⟩ := filesAt_put HFS3.out HR3.out HX3.out HAP.out hd4
        have HV : Hid (CodV w w4 F g (withM (tickM D) (putM ⟨t.data.toList, x.f.b, x.f.syn⟩ (dropM s.data.toList D.fs)))) := Lib.hid (by
          refine ⟨⟨.inl HF.out, _, _, hr4, filesAt_more hfs4 (fun k hk => hk.elim .inl (fun h => .inr (Nat.le_trans HK3.out.size h))), ?_⟩, kept_trans HK3.out (kept_mono hk4 (fun k hk => .inl (hk.elim (fun e => e ▸ HF.out) id)))⟩
          rw [putR_f, dropR_f, HD.out]
          rfl)
        clear hd4 hr4 hfs4 hk4
        go_wp2_with fail
        go_ret
        rw [HQ.out]
        exact ⟨rfl, HV.out⟩

end Go.Proofs.Ytfiocghgjjandaa
