/-
  KeepOwn: what is handed in to a Keep is not kept, what it tells is one's own: writing into either turns nothing that it keeps; the law returns true for every two numbers; the card's statement, its listed table tied to the program's text. No condition.
-/
import Derived.BigRegion
import Derived.Deep.RegionHeld3
import Derived.Deep.QuietTactic
import Derived.BigQuiet
import Derived.IntWalk
import Derived.Lib.LaidTab
import Derived.Stop.LaidErr
import Derived.Deep.DeepHandedRow
import Derived.Test.YtageldnhchgplaaGreatDoorCards
import Derived.Test.YtageldnhchgplaaGreatDoorTie
import Derived.Test.YtageldnhchgplaaGreatDoorProg
import Derived.Test.YtageldnhchgplaaGreatDoorKit
import Derived.Test.YtageldnhchgplaaGreatDoorLaw
import Derived.Test.YtageldnhchgplaaGreatDoorRow
import Derived.Test.YtageldnhchgplaaGreatDoorCod7
import Derived.Test.YtageldnhchgplaaGreatDoorFrm3
import Derived.Test.YtageldnhchgplaaGreatDoorFrm4
import Derived.Test.YtageldnhchgplaaGreatDoorNibs
import Derived.Test.YtageldnhchgplaaGreatDoorFp
import Derived.Test.YtageldnhchgplaaGreatDoorDsk17
import Derived.Test.YtageldnhchgplaaGreatDoorNet0
import Derived.Test.YtageldnhchgplaaGreatDoorKp0
import Derived.Test.YtageldnhchgplaaGreatDoorKp5
import Derived.Test.YtageldnhchgplaaGreatDoorKp6
import Derived.Test.YtageldnhchgplaaGreatDoorKp10
import Derived.Test.YtageldnhchgplaaGreatDoorKp18
import Derived.Test.YtageldnhchgplaaGreatDoorKp23
namespace Go.Proofs.YtageldnhchgplaaGreatDoor
open Go.ChangeShapes Go.WideShapes Go.ChangeAt Go.RowKit Go.Proofs
open Go.ChangeMaps (open_string shut_string)

theorem kepAt_new {w0 w w' : World} {Z : Nat → Prop} {g kb R : Nat} {s sp : ByteArray} {b : List UInt8} {ops : Nat} {t q : Int} {la : Option Addr} {lc : Nat} {rs : List RecE} {lz : Nat} (h : KepAt w0 w Z g kb R s sp b ops t q la lc rs lz) (hb : Below w.heap.size w w') :
    KepAt w0 w' (fun k => Z k ∨ (w.heap.size ≤ k ∧ k < w'.heap.size)) g kb R s sp b ops t q la lc rs lz :=
  ⟨dIn_new h.din hb, Rw.below h.rwk hb, ownE_below h.own hb, .inl h.zk, h.kge, fun k hk => .inl (h.zl k hk), fun r hr k hk => .inl (h.zm r hr k hk)⟩

theorem kepAt_put {w0 w : World} {Z : Nat → Prop} {g kb R : Nat} {s sp : ByteArray} {b : List UInt8} {ops : Nat} {t q : Int} {la : Option Addr} {lc : Nat} {rs : List RecE} {lz : Nat} (h : KepAt w0 w Z g kb R s sp b ops t q la lc rs lz) {k0 : Nat} (hz : Z k0) (h0 : w0.heap.size ≤ k0) (hkb : k0 ≠ kb)
    (hl : (Value.slice la rs.length lc).ownBlock ≠ some k0) (hm : ∀ r ∈ rs, r.u.ownBlock ≠ some k0) (j : Nat) (x : Value) : KepAt w0 (w.setCell ⟨k0, j, none⟩ x) Z g kb R s sp b ops t q la lc rs lz := by
  have hk : Kept (fun k => k = k0) w (w.setCell ⟨k0, j, none⟩ x) := kept_put (kept_refl (fun k => k = k0) w) (.inl rfl) j x
  have hb : Below w0.heap.size w0 (w.setCell ⟨k0, j, none⟩ x) := (dIn_below h.din).setCell (p := ⟨k0, j, none⟩) h0 x
  exact ⟨dIn_less (dIn_other h.din hk (fun k _ hk => by rw [hk]; exact hz) hb) (fun k hk => .inl hk), Rw.other h.rwk hkb j x,
    ownE_keep h.own (fun k hk2 => hk.blk k (own_lt h.own.1 hk2) (fun e => hl (by rw [← e]; exact hk2))) (fun r hr k hk2 => hk.blk k (own_lt (h.own.2 r hr).1 hk2) (fun e => hm r hr (by rw [← e]; exact hk2))),
    h.zk, h.kge, h.zl, h.zm⟩

def ownEnt (n : Nat) : EntM := ⟨1, 0, 2, ⟨#[]⟩, List.replicate n 0⟩

theorem tot_own : ∀ n : Fin 10, totL (chFrS [.app [ownEnt n.val]]) ≤ 500 ∧ szCh (.app [ownEnt n.val]) < 131072 ∧ ensz [ownEnt n.val] ≤ 1000 := by decide +kernel

theorem one_ent {ns : List RecE} {e : EntM} (h : ns.map (·.e) = [e]) : ∃ u, ns = [⟨e, u⟩] := by
  match ns, h with
  | [⟨a, u⟩], h =>
    simp at h
    subst h
    exact ⟨u, rfl⟩

/-- The block of integers that a slice of the call's own lies in. -/
theorem ints_first {w : World} {base : Nat} {u : Value} {n : Nat} (h0 : 0 < n) (h : w.ownsRow base 3 1 u n ((List.replicate n (0 : Int)).map kiV)) :
    ∃ b c, u = .slice (some ⟨b, 0, none⟩) n c ∧ w.cell? ⟨b, 0, none⟩ = some (.int .i64 0) ∧ ∃ cur, w.heap[b]? = some (.cells cur 3 (0, 0)) := by
  obtain ⟨b, c, rfl⟩ : ∃ b c, u = .slice (some ⟨b, 0, none⟩) n c := by
    rcases h.2 with ⟨_, h2⟩ | ⟨g, cap, cur, hv, _⟩
    · exact absurd h2 (by omega)
    · exact ⟨g, cap, hv⟩
  refine ⟨b, c, rfl, ?_, own_blk h rfl⟩
  rw [World.ownsRow.cellAt h 0 (by omega), List.getElem?_map, List.getElem?_replicate, if_pos h0]
  rfl

theorem ents_first {w : World} {a : Option Addr} {c : Nat} {r : RecE} (h : w.ownsRow 0 32 5 (.slice a 1 c) 1 (rowsE [r])) :
    ∃ b, a = some ⟨b, 0, none⟩ ∧ (∀ (j : Nat) (x : Value), (cellsE r)[j]? = some x → w.cell? ⟨b, j, none⟩ = some x) ∧ ∃ cur, w.heap[b]? = some (.cells cur 32 (0, 0)) := by
  obtain ⟨b, rfl⟩ := own_awake h
  refine ⟨b, rfl, fun j x hj => ?_, own_blk h rfl⟩
  have hj5 : j < 5 := (List.getElem?_eq_some_iff.1 hj).1
  rw [World.ownsRow.cellAt h j (by omega)]
  have := rowsE_at (rs := [r]) (k := 0) (r := r) rfl hj
  simpa using this

theorem frozen_at {w : World} {b : Nat} {cur : Array Value} {e : TypeId} (h : w.heap[b]? = some (.cells cur e (0, 0))) (j : Nat) : w.frozen? ⟨b, j, none⟩ = false := Lib.frozen_of_heap h j

theorem cell_putO {w : World} {b j g : Nat} {x : Value} (h : w.cell? ⟨b, j, none⟩ = some x) (hne : b ≠ g) (i : Nat) (u : Value) : (w.setCell ⟨g, i, none⟩ u).cell? ⟨b, j, none⟩ = some x :=
  cell_kept h (by simp only [World.setCell, Array.getElem?_modify]; rw [if_neg (fun e => hne e.symm)])

theorem frozen_putO {w : World} {b j g : Nat} (h : w.frozen? ⟨b, j, none⟩ = false) (hne : b ≠ g) (i : Nat) (u : Value) : (w.setCell ⟨g, i, none⟩ u).frozen? ⟨b, j, none⟩ = false := by
  unfold World.frozen? at h ⊢
  simp only [World.setCell, Array.getElem?_modify]
  rw [if_neg (fun e => hne e.symm)]
  exact h

set_option maxRecDepth 100000 in
set_option maxHeartbeats 4000000 in
theorem keepOwn_any (k : Int) (_hk : -9223372036854775808 ≤ k ∧ k ≤ 9223372036854775807) (v : Int) (_hv : -9223372036854775808 ≤ v ∧ v ≤ 9223372036854775807) (w : World) (hT : NibAt w) :
    Calls Tryz.prog 4 #[.int .i64 k, .int .i64 v] w fun e w' => e = .returned (.bool true) ∧ Below w.heap.size w w' := by
  have HT := Lib.hid hT
  have HOK := Lib.hid (kepOk_fresh hT)
  clear hT
  by_cases h1 : k < 1
  · go_enter Tryz.func4, Tryz.ntmps4
    go_wp2_with fail
    refine (kawake_any HT.out).mono ?_
    rintro e w1 ⟨rfl, hb⟩
    go_wp2
    go_ret
    exact ⟨rfl, hb⟩
  · by_cases h9 : 9 < k
    · go_enter Tryz.func4, Tryz.ntmps4
      go_wp2_with fail
      refine (kawake_any HT.out).mono ?_
      rintro e w1 ⟨rfl, hb⟩
      go_wp2
      go_ret
      exact ⟨rfl, hb⟩
    · obtain ⟨n, hn⟩ : ∃ n : Nat, k = (n : Int) := ⟨k.toNat, by omega⟩
      subst hn
      have hn1 : 1 ≤ n ∧ n ≤ 9 := by omega
      have HTO := Lib.hid (tot_own ⟨n, by omega⟩)
      have HFI : Hid (FitsA 0 [ownEnt n]) := Lib.hid (fun j e hj => by
        match j, hj with
        | 0, hj => simp at hj; subst hj; exact ⟨rfl, Int.le_refl 0, (by decide : (0 : Int) ≤ 2), (by decide : (0 : Nat) ≤ 4000), by simp [ownEnt]; omega⟩
        | n + 1, hj => simp at hj)
      obtain ⟨i0, hi, hz0, hz1, hz2⟩ := info_parts Tryz.infoInt
      go_enter Tryz.func4, Tryz.ntmps4
      go_wp2_with fail
      refine (kfresh_any _).mono ?_
      rintro e w1 ⟨g, kb, sp, rfl, hK1⟩
      have HK1 := Lib.hid hK1
      clear hK1
      go_wp2_with (first | (refine wpList_make1 w1 rfl _ _ 30 rfl 3 i0 (.int .i64 0) 8 Tryz.underlying30 hi hz0 hz1 hz2 rfl .i64 .i64 _ _ n rfl rfl rfl rfl (by omega) (by omega) ?_; intro w2 hown2 hb2) | fail)
      obtain ⟨gm, hgm⟩ : ∃ gm, gm = w1.heap.size := ⟨_, rfl⟩
      obtain ⟨gl, hgl⟩ : ∃ gl, gl = w2.heap.size := ⟨_, rfl⟩
      rw [← hgm] at hown2 ⊢
      rw [← hgl]
      obtain ⟨w3, hw3⟩ : ∃ w3, w3 = w2.alloc (.cells #[.int .i64 1, .int .i64 0, .int .i64 2, .string ⟨#[]⟩, .slice (some ⟨gm, 0, none⟩) n n] 32) := ⟨_, rfl⟩
      rw [← hw3]
      have hb3 : Below w1.heap.size w1 w3 := by rw [hw3]; exact below_more hb2 _
      have hb23 : Below w2.heap.size w2 w3 := by rw [hw3]; exact below_more (Below.refl _ _) _
      have hrw3 : Rw w3 0 gl 32 (cellsE ⟨ownEnt n, .slice (some ⟨gm, 0, none⟩) n n⟩) := by rw [hw3, hgl]; exact Rw.alloc w2 _ _ (Nat.zero_le _)
      have hown2' : w2.ownsRow gm 3 1 (.slice (some ⟨gm, 0, none⟩) n n) n ((List.replicate n (0 : Int)).map kiV) := by rw [List.map_replicate]; exact hown2
      have hown3 := own_below hown2' hb23
      obtain ⟨_, _, em, hm0, cm, hmb⟩ := ints_first (by omega) hown3
      injection em with em _ _
      injection em with em
      injection em with em _ _
      subst em
      have hmlt : gm < w3.heap.size := own_lt hown3 rfl
      have hllt : gl < w3.heap.size := Rw.size hrw3
      have hgm1 : w1.heap.size ≤ gm := by omega
      have hgl1 : w1.heap.size ≤ gl := by rw [hgl]; exact hb2.size
      have hK3 := kepAt_new HK1.out hb3
      have hkb : kb < w1.heap.size := Rw.size HK1.out.rwk
      have hents : EntsAt w3 (.slice (some ⟨gl, 0, none⟩) 1 1) [ownEnt n] := by
        refine ⟨_, 1, rfl, .inr ⟨gl, 0, rfl, fun j e hj => ?_⟩⟩
        match j, hj with
        | 0, hj =>
          simp at hj
          subst hj
          refine ⟨.slice (some ⟨gm, 0, none⟩) n n, fun i x hi => ?_, ?_⟩
          · have := Rw.cell hrw3 hi
            simpa using this
          · refine ⟨by simp [ownEnt]; omega, .inr ⟨⟨gm, 0, none⟩, n, by simp [ownEnt], .inr ⟨gm, 0, rfl, fun i x hi => ?_⟩⟩⟩
            have hi2 : i < n := by
              have := (List.getElem?_eq_some_iff.1 hi).1
              simpa [ownEnt] using this
            rw [Nat.zero_add, World.ownsRow.cellAt hown3 i (by omega), List.getElem?_map]
            have hi3 : (List.replicate n (0 : Int))[i]? = some x := hi
            rw [hi3]
            rfl
        | j + 1, hj => simp at hj
      have HA := Lib.hid (kapp_first (pn := 1) (es := [ownEnt n]) hK3 HOK.out rfl hents HFI.out (by simp) (by simp) (by have := HTO.out.1; simpa using this) HTO.out.2.1 (by decide) (by have := HTO.out.2.2; omega))
      have HM3 := Lib.hid hmb
      have HL3 := Lib.hid hrw3
      have HGE := Lib.hid (show gm < w3.heap.size ∧ gl < w3.heap.size ∧ w1.heap.size ≤ gm ∧ w1.heap.size ≤ gl ∧ kb < w1.heap.size ∧ gm < gl from ⟨hmlt, hllt, hgm1, hgl1, hkb, by rw [hgl]; exact own_lt hown2 rfl⟩)
      have HC0 := Lib.hid hm0
      have HKGE := Lib.hid (show w.heap.size ≤ w1.heap.size from (dIn_below HK1.out.din).size)
      clear hw3 hb3 hb23 hrw3 hown2 hown2' hown3 hm0 hmb hmlt hllt hgm1 hgl1 hK3 hkb hents hgm hgl hb2
      refine HA.out.mono ?_
      rintro e w4 ⟨rfl, ⟨b4, la, lc, ns, hns, hb4, hK4, hlg, hme⟩, hv4⟩
      obtain ⟨u4, rfl⟩ := one_ent hns
      -- the caller's own two blocks are as they were
      have hzm : ∀ x, x = gm ∨ x = gl → w4.heap[x]? = w3.heap[x]? := fun x hx => by
        obtain ⟨g1, g2, g3, g4, g5, g6⟩ := HGE.out
        have hx3 : x < w3.heap.size := by rcases hx with rfl | rfl <;> assumption
        have hx1 : w1.heap.size ≤ x := by rcases hx with rfl | rfl <;> assumption
        exact hv4.2 x hx3 (.inr (.inr ⟨hx1, hx3⟩)) (by omega)
      have hm4 := (hzm gm (.inl rfl)).trans HM3.out
      have hl4 := rw_heap HL3.out (hzm gl (.inr rfl))
      have hc4 := cell_kept HC0.out (hzm gm (.inl rfl))
      have hfm := frozen_at hm4 0
      have hcl1 := Rw.cell (j := 1) (v := .int .i64 0) hl4 rfl
      have hfl1 := Rw.free hl4 1
      have hne : gl ≠ gm := by have := HGE.out.2.2.2.2.2; omega
      have hput1 : (w4.setCell ⟨gm, 0, none⟩ (.int .i64 (wrap64 (v + 1)))).cell? ⟨gl, 1, none⟩ = some (.int .i64 0) := Rw.cell (j := 1) (v := .int .i64 0) (Rw.other hl4 (Ne.symm hne) 0 _) rfl
      have hput2 : (w4.setCell ⟨gm, 0, none⟩ (.int .i64 (wrap64 (v + 1)))).frozen? ⟨gl, 1, none⟩ = false := Rw.free (Rw.other hl4 (Ne.symm hne) 0 (.int .i64 (wrap64 (v + 1)))) 1
      have hno : ∀ x, x = gm ∨ x = gl → (Value.slice la 1 lc).ownBlock ≠ some x ∧ ∀ r ∈ [(⟨ownEnt n, u4⟩ : RecE)], r.u.ownBlock ≠ some x := fun x hx => by
        obtain ⟨g1, g2, g3, g4, g5, g6⟩ := HGE.out
        have hx3 : x < w3.heap.size := by rcases hx with rfl | rfl <;> assumption
        exact ⟨fun h => by have := hlg x h; omega, fun r hr h => by have := hme r hr x h; omega⟩
      have hK5 := kepAt_put hK4 (k0 := gm) (.inl (.inr ⟨HGE.out.2.2.1, HGE.out.1⟩)) (by have := HGE.out.2.2.1; have := HKGE.out; omega) (by have := HGE.out.2.2.1; have := HGE.out.2.2.2.2.1; omega) (hno gm (.inl rfl)).1 (hno gm (.inl rfl)).2 0 (.int .i64 (wrap64 (v + 1)))
      have hK6 := kepAt_put hK5 (k0 := gl) (.inl (.inr ⟨HGE.out.2.2.2.1, HGE.out.2.1⟩)) (by have := HGE.out.2.2.2.1; have := HKGE.out; omega) (by have := HGE.out.2.2.2.1; have := HGE.out.2.2.2.2.1; omega) (hno gl (.inr rfl)).1 (hno gl (.inr rfl)).2 1 (.int .i64 9)
      have HK6 := Lib.hid hK6
      clear hzm hm4 hl4 hfl1 hK4 hK5 hK6 hno hv4 hlg hme hns hb4 HA hcl1
      go_wp2_with fail
      generalize (w4.setCell ⟨gm, 0, none⟩ (.int .i64 (wrap64 (v + 1)))).setCell ⟨gl, 1, none⟩ (.int .i64 9) = w6 at HK6 ⊢
      clear hc4 hfm hput1 hput2 HL3 HM3 HC0 HTO HFI
      have HN1 := Lib.hid hn1
      have hard6 := khard_any (kp := .pointer (some ⟨kb, 0, none⟩)) (ms := []) (ma := none) (mc := 0) (es := [ownEnt n]) (fun W hb => know_any (Rw.below HK6.out.rwk hb)) ⟨by simp, .inl ⟨rfl, rfl⟩⟩ (ownE_ents HK6.out.own) (by simp)
      refine hard6.mono ?_
      clear hard6
      rintro e w7 ⟨a7, c7, a27, c27, ns7, rfl, hns7, hown7, hb7, hnew7, hnm7⟩
      obtain ⟨u7, rfl⟩ := one_ent hns7
      obtain ⟨l7, rfl, hcl7, cur7, hbl7⟩ := ents_first hown7.1
      have hi7 : w7.ownsRow 0 3 1 u7 n ((List.replicate n (0 : Int)).map kiV) := by
        have h := (hown7.2 ⟨ownEnt n, u7⟩ (by simp)).1
        have e : (⟨ownEnt n, u7⟩ : RecE).e.ms.length = n := by simp [ownEnt]
        rw [e] at h
        exact h
      obtain ⟨m7, cm7, rfl, hmc7, curm7, hmb7⟩ := ints_first (by omega) hi7
      have d70 := kcell_more hmc7 (.cells #[.int .i64 0, .int .i64 0, .int .i64 0, .int .i64 0, .slice a27 0 c27, .string ⟨#[]⟩, .slice (some ⟨l7, 0, none⟩) 1 c7] 41)
      have d71 := kcell_more (hcl7 1 (.int .i64 0) rfl) (.cells #[.int .i64 0, .int .i64 0, .int .i64 0, .int .i64 0, .slice a27 0 c27, .string ⟨#[]⟩, .slice (some ⟨l7, 0, none⟩) 1 c7] 41)
      have d74 := kcell_more (hcl7 4 (.slice (some ⟨m7, 0, none⟩) n cm7) rfl) (.cells #[.int .i64 0, .int .i64 0, .int .i64 0, .int .i64 0, .slice a27 0 c27, .string ⟨#[]⟩, .slice (some ⟨l7, 0, none⟩) 1 c7] 41)
      have HR7 := Lib.hid (Rw.alloc w7 41 #[.int .i64 0, .int .i64 0, .int .i64 0, .int .i64 0, .slice a27 0 c27, .string ⟨#[]⟩, .slice (some ⟨l7, 0, none⟩) 1 c7] (Nat.zero_le w7.heap.size))
      have d76 := Rw.cell (j := 6) HR7.out rfl
      have hlt7 : m7 < w7.heap.size := own_lt hi7 rfl
      have hltl7 : l7 < w7.heap.size := own_lt hown7.1 rfl
      have hne7 : l7 ≠ m7 := by
        intro e
        rw [e, hmb7] at hbl7
        injection hbl7 with h
        injection h with _ h
        exact absurd h (by decide)
      have hW8 := below_more hb7 (.cells #[.int .i64 0, .int .i64 0, .int .i64 0, .int .i64 0, .slice a27 0 c27, .string ⟨#[]⟩, .slice (some ⟨l7, 0, none⟩) 1 c7] 41)
      have hsz8 : w7.heap.size < (w7.alloc (.cells #[.int .i64 0, .int .i64 0, .int .i64 0, .int .i64 0, .slice a27 0 c27, .string ⟨#[]⟩, .slice (some ⟨l7, 0, none⟩) 1 c7] 41)).heap.size := by simp
      have hf8 : ∀ x, x < w7.heap.size → (w7.alloc (.cells #[.int .i64 0, .int .i64 0, .int .i64 0, .int .i64 0, .slice a27 0 c27, .string ⟨#[]⟩, .slice (some ⟨l7, 0, none⟩) 1 c7] 41)).heap[x]? = w7.heap[x]? := fun x hx => (below_more (Below.refl w7.heap.size w7) _).block x hx
      have fm8 := frozen_at ((hf8 m7 hlt7).trans hmb7) 0
      have fl8 := (hf8 l7 hltl7).trans hbl7
      have hoK : ∀ x, w6.heap.size ≤ x → (Value.slice la 1 lc).ownBlock ≠ some x ∧ ∀ r ∈ [(⟨ownEnt n, u4⟩ : RecE)], r.u.ownBlock ≠ some x := fun x hx => ⟨fun h => by have := own_lt HK6.out.own.1 h; omega, fun r hr h => by have := own_lt (HK6.out.own.2 r hr).1 h; omega⟩
      have hm6 : w6.heap.size ≤ m7 := hnm7 ⟨ownEnt n, .slice (some ⟨m7, 0, none⟩) n cm7⟩ (by simp) m7 rfl
      have hl6 : w6.heap.size ≤ l7 := hnew7 l7 rfl
      have hkb6 : kb < w6.heap.size := Rw.size HK6.out.rwk
      have hw06 : w.heap.size ≤ w6.heap.size := (dIn_below HK6.out.din).size
      have hK8 := kepAt_new HK6.out hW8
      have hK9 := kepAt_put hK8 (k0 := m7) (.inr ⟨hm6, by omega⟩) (by omega) (by omega) (hoK m7 hm6).1 (hoK m7 hm6).2 0 (.int .i64 7)
      have hK10 := kepAt_put hK9 (k0 := l7) (.inr ⟨hl6, by omega⟩) (by omega) (by omega) (hoK l7 hl6).1 (hoK l7 hl6).2 1 (.int .i64 8)
      have HK10 := Lib.hid hK10
      have d96 := Rw.cell (j := 6) (Rw.other HR7.out (show m7 ≠ w7.heap.size by omega) 0 (.int .i64 7)) rfl
      have d91 := cell_putO d71 hne7 0 (.int .i64 7)
      have f91 := frozen_putO (frozen_at fl8 1) hne7 0 (.int .i64 7)
      clear hns7 hown7 hb7 hnew7 hnm7 hcl7 hbl7 hi7 hmc7 hmb7 hlt7 hltl7 hne7 hW8 hsz8 hf8 fl8 hoK hm6 hl6 hkb6 hw06 hK8 hK9 hK10 HR7 HK6
      go_wp2_with fail
      generalize ((w7.alloc (.cells #[.int .i64 0, .int .i64 0, .int .i64 0, .int .i64 0, .slice a27 0 c27, .string ⟨#[]⟩, .slice (some ⟨l7, 0, none⟩) 1 c7] 41)).setCell ⟨m7, 0, none⟩ (.int .i64 7)).setCell ⟨l7, 1, none⟩ (.int .i64 8) = w10 at HK10 ⊢
      clear d70 d71 d74 d76 d96 d91 f91 fm8
      have hard10 := khard_any (kp := .pointer (some ⟨kb, 0, none⟩)) (ms := []) (ma := none) (mc := 0) (es := [ownEnt n]) (fun W hb => know_any (Rw.below HK10.out.rwk hb)) ⟨by simp, .inl ⟨rfl, rfl⟩⟩ (ownE_ents HK10.out.own) (by simp)
      refine hard10.mono ?_
      clear hard10
      rintro e w11 ⟨a11, c11, a211, c211, ns11, rfl, hns11, hown11, hb11, hnew11, hnm11⟩
      obtain ⟨u11, rfl⟩ := one_ent hns11
      obtain ⟨l11, rfl, hcl11, cur11, hbl11⟩ := ents_first hown11.1
      have hi11 : w11.ownsRow 0 3 1 u11 n ((List.replicate n (0 : Int)).map kiV) := by
        have h := (hown11.2 ⟨ownEnt n, u11⟩ (by simp)).1
        have e : (⟨ownEnt n, u11⟩ : RecE).e.ms.length = n := by simp [ownEnt]
        rw [e] at h
        exact h
      obtain ⟨m11, cm11, rfl, hmc11, curm11, hmb11⟩ := ints_first (by have := HN1.out; omega) hi11
      have d110 := kcell_more hmc11 (.cells #[.int .i64 0, .int .i64 0, .int .i64 0, .int .i64 0, .slice a211 0 c211, .string ⟨#[]⟩, .slice (some ⟨l11, 0, none⟩) 1 c11] 41)
      have d111 := kcell_more (hcl11 1 (.int .i64 0) rfl) (.cells #[.int .i64 0, .int .i64 0, .int .i64 0, .int .i64 0, .slice a211 0 c211, .string ⟨#[]⟩, .slice (some ⟨l11, 0, none⟩) 1 c11] 41)
      have d114 := kcell_more (hcl11 4 (.slice (some ⟨m11, 0, none⟩) n cm11) rfl) (.cells #[.int .i64 0, .int .i64 0, .int .i64 0, .int .i64 0, .slice a211 0 c211, .string ⟨#[]⟩, .slice (some ⟨l11, 0, none⟩) 1 c11] 41)
      have HR11 := Lib.hid (Rw.alloc w11 41 #[.int .i64 0, .int .i64 0, .int .i64 0, .int .i64 0, .slice a211 0 c211, .string ⟨#[]⟩, .slice (some ⟨l11, 0, none⟩) 1 c11] (Nat.zero_le w11.heap.size))
      have d116 := Rw.cell (j := 6) HR11.out rfl
      have HBK := Lib.hid (below_more ((dIn_below HK10.out.din).trans (hb11.mono (dIn_below HK10.out.din).size)) (.cells #[.int .i64 0, .int .i64 0, .int .i64 0, .int .i64 0, .slice a211 0 c211, .string ⟨#[]⟩, .slice (some ⟨l11, 0, none⟩) 1 c11] 41))
      have HAW := Lib.hid (kawake_any (nib_stay HT.out HBK.out))
      clear hns11 hown11 hb11 hnew11 hnm11 hcl11 hbl11 hi11 hmc11 hmb11 HR11 HK10
      go_wp2_with fail
      refine HAW.out.mono ?_
      rintro e w13 ⟨rfl, hb13⟩
      have HBL := Lib.hid (below_then HBK.out hb13)
      clear hb13
      go_wp2
      go_ret
      exact ⟨rfl, HBL.out⟩

set_option maxRecDepth 100000
theorem keepOwn_own : ownKnob Tryz.prog.godebug = none := by kernel_rfl

theorem keepOwn_contract (H : Type) (enc : TypeId × Value → H) (W : World) (base : Nat) (args : Array Value) (ds gs : List (DataW H)) (before : List MemPlace)
    (hval0 : ∀ (j : Nat) t v, Tryz.f4.params[j]? = some t → args[j]? = some v → Value.okWide Tryz.prog W .any base t v)
    (hW : DataW.Whole enc Tryz.prog Tryz.f4.params.toList Rows.keepOwnSpec.vars false W args.toList ds gs before) {vt : List TypeId}
    (hsz0 : (DataW.weightsEach Tryz.prog (Tryz.f4.params.toList ++ vt) (ds ++ gs)).all (· ≤ reachBytes) = true) (hL : laidMetH Tryz.prog Rows.keepOwnRow.laid W) :
    Calls Tryz.prog 4 args W fun e W' => ∃ v, e = .returned v ∧ Rows.keepOwnSpec.post enc Tryz.prog Tryz.f4 false true false false W args v W' := by
  refine law_contract (by kernel_rfl) (of_decide_eq_true (by kernel_rfl)) (tb := 4) (by kernel_rfl) Tryz.underlying4 rfl (fun ds h => by match ds, h with | [d0, d1], _ => exact ⟨rfl, rfl, rfl⟩) hW hsz0 ?_
  intro p hA0 hlt hszz
  have hval := hval0
  have hA : DataW.TrodAll enc Tryz.prog W 0 (fun _ => true) true Tryz.f4.params.toList args.toList ds p := hA0
  have hsz : (DataW.weightsEach Tryz.prog Tryz.f4.params.toList ds).all (· ≤ reachBytes) = true := hszz
  clear hval0 hA0 hszz hsz0 hW
  rw [Tryz.params4] at hA hval hsz
  obtain ⟨v0, vs0, d0, ds0, p0, q0, hargs, rfl, rfl, h0, r0⟩ := trodAll_cons hA
  obtain ⟨v1, vs1, d1, ds1, p1, q1, rfl, rfl, rfl, h1, r1⟩ := trodAll_cons r0
  obtain ⟨rfl, rfl, rfl⟩ := trodAll_nil r1
  obtain rfl : args = #[v0, v1] := by cases args; simp_all
  obtain ⟨a0, rfl, rfl, rfl, w0⟩ := open_int Tryz.underlying3 (hval 0 3 v0 rfl rfl) h0
  obtain ⟨a1, rfl, rfl, rfl, w1⟩ := open_int Tryz.underlying3 (hval 1 3 v1 rfl rfl) h1
  exact keepOwn_any (w := W) a0 (bounds_i64 w0) a1 (bounds_i64 w1) (nib_of hL)

noncomputable def keepOwn_world (os : Os) : World := laidIn Tryz.prog Rows.keepOwnRow.laid (World.holding Tryz.prog os ⟨#[], #[], []⟩)

theorem keepOwn_met (os : Os) : laidMet Tryz.prog Rows.keepOwnRow.laid ((keepOwn_world os).forCall (fun _ _ => 0) ⟨#[], #[.int .i64 0, .int .i64 0], []⟩).memory :=
  laidMet_of_run' 8 (by kernel_rfl) (by kernel_rfl)

theorem keepOwn_reads (os : Os) {H : Type} (enc : TypeId × Value → H) : ∃ places, DataW.whole enc Tryz.prog ((keepOwn_world os).forCall (fun _ _ => 0) ⟨#[], #[.int .i64 0, .int .i64 0], []⟩).memory Tryz.f4.params.toList Rows.keepOwnSpec.vars false (#[.int .i64 0, .int .i64 0] : Array Value).toList 8 = some ([.lit (.int .i64 0), .lit (.int .i64 0)], [], places) :=
  ⟨[], by kernel_rfl⟩

set_option maxRecDepth 100000 in
theorem keepOwn_lifted (os : Os) (started : os.Started) (H : Type) (enc : TypeId × Value → H) (F : Stop.Interp) :
    ReturnsInHanded {} Tryz.checked os 4 .any ((OpenSpec.ofChange Rows.keepOwnSpec).preRow enc Tryz.prog Tryz.f4 Rows.keepOwnRow.domain false Rows.keepOwnRow.laid) (((OpenSpec.ofChange Rows.keepOwnSpec).at F).post enc Tryz.prog Tryz.f4 false true false false) := by
  obtain ⟨places, hx⟩ := keepOwn_reads os enc
  refine returnsInHanded_of_row (C := Tryz.checked) (s := OpenSpec.ofChange Rows.keepOwnSpec) keepOwn_own started (by kernel_rfl) Tryz.func4
    (witness_row_at (enc := enc) (C := Tryz.checked) false (keepOwn_world os) #[.int .i64 0, .int .i64 0] rfl (by kernel_rfl) (by kernel_rfl) (by kernel_rfl)
      (OpenSpec.preRow_of_cond 8 hx (by kernel_rfl) (fun k hk => by cases hk) (by kernel_rfl) (keepOwn_met os))) ?_
  intro W base args ds gs before hval hW _ _ hsz hL _ _
  exact keepOwn_contract H enc W base args ds gs before hval hW hsz hL

theorem keepOwn_said : Rows.KeepOwnSaid :=
  OpenClaim.holds_of_cond 4 Tryz.f4 rfl rfl rfl rfl rfl rfl rfl ⟨rfl, rfl, rfl, rfl, rfl⟩ rfl rfl rfl rfl rfl (by kernel_rfl) Tryz.func4 (by kernel_rfl)
    (of_decide_eq_true (by kernel_rfl)) (by unfold Func.isWrapper; first | (rw [if_pos (by decide +kernel)]; kernel_rfl) | (rw [if_neg (by decide +kernel)]; exact ⟨rfl, rfl⟩))
    (fun os started H enc _ F => by rw [OpenClaim.pre_eq_preRow]; exact keepOwn_lifted os started H enc F)

theorem keepOwn_plain (f : FuncId) (fn : Func) (hf : Tryz.pinned.checked.prog.funcNamed Tryz.f4.name = some f) (hfn : Tryz.pinned.checked.prog.funcs[f]? = some fn) :
    false = Tryz.pinned.checked.prog.looks [] ∧ ∀ (j : Nat) t, fn.params[j]? = some t → Tryz.pinned.checked.prog.wantsStandIn t = false := by
  obtain rfl : f = 4 := Option.some.inj ((show Tryz.prog.funcNamed Tryz.f4.name = some 4 by kernel_rfl).symm.trans hf) |>.symm
  obtain rfl : fn = Tryz.f4 := (Option.some.inj (Tryz.func4.symm.trans hfn)).symm
  refine ⟨by kernel_rfl, fun j t ht => ?_⟩
  have hall : ∀ t ∈ Tryz.f4.params, Tryz.prog.wantsStandIn t = false := of_decide_eq_true (by kernel_rfl)
  exact hall t (Array.mem_of_getElem? ht)

theorem keepOwn_card : Rows.KeepOwnCardSaid :=
  Claim7.holds_tied_plain_at .later [] _ _ _ _ keepOwn_said (fun _ h => by cases h) (by kernel_rfl) (fun _ h => by cases h) keepOwn_row_tie rfl ⟨rfl, rfl⟩ (by kernel_rfl) rfl keepOwn_plain (by kernel_rfl)
#print axioms keepOwn_card

end Go.Proofs.YtageldnhchgplaaGreatDoor
