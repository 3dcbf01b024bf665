/- Contracts: the code's disk: first, sync, unsynced, truncate, put. -/
import Derived.BigRegion
import Derived.Deep.RegionHeld3
import Derived.Carry
import Derived.Laws.Cover3
import Derived.Maps.OwnSet
import Derived.Test.YtfiocghgjjandaaProg
import Derived.Test.YtfiocghgjjandaaKit
import Derived.Test.YtfiocghgjjandaaRow
import Derived.Test.YtfiocghgjjandaaCod5
import Derived.Test.YtfiocghgjjandaaCod7
import Derived.Test.YtfiocghgjjandaaCod9
import Derived.Test.YtfiocghgjjandaaFrm4
import Derived.Test.YtfiocghgjjandaaFrm6
import Derived.Test.YtfiocghgjjandaaFp
import Derived.Test.YtfiocghgjjandaaDsk0
import Derived.Test.YtfiocghgjjandaaDsk1
namespace Go.Proofs.Ytfiocghgjjandaa
open Go.RowKit Go.Proofs Go.Maps

theorem first_any (g : Nat) (l : List UInt8) (u : Value) (n : Nat) (w : World) (h0 : w.cell? ⟨g, 0, none⟩ = some u) (ho : w.ownsRow 0 5 1 u l.length (l.map byteV)) (hn : n ≤ l.length) (hl : l.length ≤ 140737488355328) :
    Calls Try.prog 42 #[.pointer (some ⟨g, 0, none⟩), .int .i64 n] w fun e w' => ∃ v', e = .returned v' ∧ w'.ownsRow w.heap.size 5 1 v' n ((l.take n).map byteV) ∧ Below w.heap.size w w' := by
  have hlen : (l.take n).length = n := by rw [List.length_take]; omega
  rcases own_sl ho with ⟨rfl, rfl⟩ | ⟨ad, c, rfl, hc, hlies⟩
  · have hn0 : n = 0 := by simpa using hn
    subst hn0
    have hcl := clone_any [] (.slice none 0 0) w (.inl ⟨rfl, rfl⟩) (by simp)
    have HCL := Lib.hid hcl
    clear hcl ho hlen hn hl
    have hsl : ∀ W, (Instr.slice 40 (.slice none 0 0) none (some (.int .i64 0)) none).run Try.prog W = .ok (.slice none 0 0) W := fun W => by
      rw [run_slice_h W 40 none 0 0 (by kernel_rfl) .i64 0 (by omega) (by omega), run_size1 (by kernel_rfl)]
      simp [Result.andThen, sliced]
    go_enter Try.func42, Try.ntmps42
    go_wp2_with fail
    refine (HCL.out).mono ?_
    rintro e w1 ⟨v', rfl, ho1, hb1⟩
    go_wp2_with fail
    go_ret
    exact ⟨v', rfl, ho1, hb1⟩
  · have hcl := clone_any (l.take n) (.slice (some ad) n c) w (.inr ⟨ad, c, by rw [hlen], by omega, by
      rcases hlies with rfl | ⟨b, o, h1, h2, h3⟩
      · left; simp
      · exact .inr ⟨b, o, h1, h2, byAt_take h3 n⟩⟩) (by omega)
    rw [hlen] at hcl
    have hnc : (n : Int) ≤ (c : Int) := by omega
    have HCL := Lib.hid hcl
    have hsl : ∀ W, (Instr.slice 40 (.slice (some ad) l.length c) none (some (.int .i64 (n : Int))) none).run Try.prog W = .ok (.slice (some ad) n c) W := fun W => by
      rw [run_slice_h W 40 (some ad) l.length c (by kernel_rfl) .i64 n (by omega) (by omega), run_size1 (by kernel_rfl)]
      simp [Result.andThen, sliced, Addr.add]
    obtain ⟨N, hN⟩ : ∃ N, N = l.length := ⟨_, rfl⟩
    rw [← hN] at h0 hsl
    clear hcl ho hlen hn hl hlies hc hN
    go_enter Try.func42, Try.ntmps42
    go_wp2_with fail
    refine (HCL.out).mono ?_
    rintro e w1 ⟨v', rfl, ho1, hb1⟩
    go_wp2_with fail
    go_ret
    exact ⟨v', rfl, ho1, hb1⟩

theorem sync_any (g : Nat) (a : Option Addr) (n c : Nat) (w : World) (h0 : w.cell? ⟨g, 0, none⟩ = some (.slice a n c)) (h1 : (w.cell? ⟨g, 1, none⟩).isSome) (hf : w.frozen? ⟨g, 1, none⟩ = false) :
    Calls Try.prog 39 #[.pointer (some ⟨g, 0, none⟩)] w fun e w' => e = .returned (.tuple #[]) ∧ w' = w.setCell ⟨g, 1, none⟩ (.int .i64 n) := by
  obtain ⟨x, h1⟩ := Option.isSome_iff_exists.1 h1
  have hs := dsize_any g a n c w h0
  have HS := Lib.hid hs
  clear hs
  go_enter Try.func39, Try.ntmps39
  go_wp2_with fail
  refine (HS.out).mono ?_
  rintro e w1 ⟨rfl, rfl⟩
  go_wp2_with fail
  go_end0
  exact ⟨rfl, rfl⟩

theorem unsynced_any (g : Nat) (a : Option Addr) (n c syn : Nat) (w : World) (h0 : w.cell? ⟨g, 0, none⟩ = some (.slice a n c)) (h1 : w.cell? ⟨g, 1, none⟩ = some (.int .i64 syn)) (hn : n < 1099511627776) (hs : syn ≤ n) :
    Calls Try.prog 40 #[.pointer (some ⟨g, 0, none⟩)] w fun e w' => e = .returned (.int .i64 ((n - syn : Nat) : Int)) ∧ ∃ m, w' = w.drewN m := by
  obtain ⟨d, hd⟩ : ∃ d, d = n - syn := ⟨_, rfl⟩
  have hsub : (n : Int) - (syn : Int) = (d : Int) := by omega
  have hd2 : (d : Int) < 1099511627776 := by omega
  rw [← hd]
  clear hd hn hs
  go_enter Try.func40, Try.ntmps40
  go_wp2_with fail
  go_region_with (first | (go_at_call 43; refine (dsize_any g a n c _ (by simpa using h0)).mono ?_; rintro e w2 ⟨rfl, rfl⟩))
  all_goals
    go_wp2_with fail
    go_ret
    refine ⟨?_, _, rfl⟩
    exact ret_int (by rw [IntKind.wrap_i64]; omega)

theorem truncate_any (g : Nat) (l : List UInt8) (u : Value) (syn n : Nat) (w : World) (hr : Rw w 0 g 78 [u, .int .i64 syn]) (ho : w.ownsRow 0 5 1 u l.length (l.map byteV)) (hn : n ≤ l.length) (hl : l.length ≤ 140737488355328) :
    Calls Try.prog 50 #[.pointer (some ⟨g, 0, none⟩), .int .i64 n] w fun e w' => ∃ v', e = .returned (.tuple #[]) ∧ w'.ownsRow w.heap.size 5 1 v' n ((l.take n).map byteV) ∧
      Rw w' 0 g 78 [v', .int .i64 (min syn n : Nat)] ∧ Kept (fun k => k = g) w w' := by
  have h0 : w.cell? ⟨g, 0, none⟩ = some u := hr.cell rfl
  have HF := Lib.hid (first_any g l u n w h0 ho hn hl)
  have hgs := hr.size
  have HR := Lib.hid hr
  have HG := Lib.hid hgs
  have HL := Lib.hid hl
  have HN := Lib.hid hn
  clear h0 ho hn hl hr hgs
  go_enter Try.func50, Try.ntmps50
  go_wp2_with fail
  refine (HF.out).mono ?_
  rintro e w1 ⟨v', rfl, ho1, hb1⟩
  obtain ⟨a1, q1, rfl⟩ := own_len ho1
  have hr1 := Rw.below HR.out hb1
  have HK := Lib.hid (kept_below (F := fun k => k = g) hb1)
  have c0 : w1.cell? ⟨g, 0, none⟩ = some u := hr1.cell rfl
  have f0 : w1.frozen? ⟨g, 0, none⟩ = false := hr1.free 0
  have k1 : (w1.setCell ⟨g, 0, none⟩ (.slice a1 n q1)).cell? ⟨g, 1, none⟩ = some (.int .i64 syn) := cell_keep (hr1.cell rfl) (by decide) _
  have k2 : (w1.setCell ⟨g, 0, none⟩ (.slice a1 n q1)).frozen? ⟨g, 1, none⟩ = false := (hr1.stored 0 (.slice a1 n q1)).free 1
  have HR1 := Lib.hid hr1
  have HO1 := Lib.hid ho1
  clear hr1 hb1 ho1 HF
  by_cases hle : syn ≤ n
  · have hi : (syn : Int) ≤ (n : Int) := by omega
    have hm : min (syn : Int) (n : Int) = syn := by omega
    have hm2 : min syn n = syn := by omega
    go_wp2_with fail
    go_end0
    refine ⟨_, rfl, own_other (own_other HO1.out HG.out 0 _) HG.out 1 _, ?_, kept_put (kept_put HK.out (.inl rfl) 0 _) (.inl rfl) 1 _⟩
    rw [hm2]
    exact (HR1.out.stored 0 (.slice a1 n q1)).stored 1 _
  · have hi : ¬ (syn : Int) ≤ (n : Int) := by omega
    have hm : min (syn : Int) (n : Int) = n := by omega
    have hm2 : min syn n = n := by omega
    go_wp2_with fail
    go_end0
    refine ⟨_, rfl, own_other (own_other HO1.out HG.out 0 _) HG.out 1 _, ?_, kept_put (kept_put HK.out (.inl rfl) 0 _) (.inl rfl) 1 _⟩
    rw [hm2]
    exact (HR1.out.stored 0 (.slice a1 n q1)).stored 1 _

open Go.Op in
theorem run_eql_map_nil {P : Program} (w : World) (t k e : TypeId) (m : Option Nat) (h : P.underlying t = some (.map k e)) : (binOp .eql t (.map m) (.map none)).run P w = .ok (.bool m.isNone) w := by
  simp only [binOp]
  simp [run_equal_map_nil w t k e m h]

/-- A file gets its name: in the map that is there, or in a new one. -/
def DputV (w w' : World) (gd : Nat) (room : Int) (mv : Value) (ops : Int) (cut : Bool) (left : Int) (rs : List Rec) : Prop :=
  ∃ b, (mv = .map (some b) ∨ w.heap.size ≤ b) ∧ Rw w' 0 gd 47 [.int .i64 room, .map (some b), .int .i64 ops, .bool cut, .int .i64 left] ∧ MapAt w' b rs ∧ Kept (fun k => k = gd ∨ mv = .map (some k)) w w'

theorem dput_any (gd : Nat) (room : Int) (mv : Value) (ops : Int) (cut : Bool) (left : Int) (rs : List Rec) (x : Rec) (s : ByteArray) (w : World)
    (hr : Rw w 0 gd 47 [.int .i64 room, mv, .int .i64 ops, .bool cut, .int .i64 left]) (hm : MapV w mv rs) (hs : s.data.toList = x.f.name) (hsz : s.size ≤ maxLen) (hn : rs.length < 1099511627776) :
    Calls Try.prog 37 #[.pointer (some ⟨gd, 0, none⟩), .string s, .pointer (some ⟨x.g, 0, none⟩)] w fun e w' => e = .returned (.tuple #[]) ∧ DputV w w' gd room mv ops cut left (putR x rs) := by
  have c1 : w.cell? ⟨gd, 1, none⟩ = some mv := hr.cell rfl
  have f1 : w.frozen? ⟨gd, 1, none⟩ = false := hr.free 1
  have hkey := key_of s hsz
  rw [hs] at hkey
  have hmax : rs.length < maxLen := by unfold maxLen; omega
  have hgs := hr.size
  have hmm := @run_makeMap Try.prog
  have heq := fun W m => run_eql_map_nil (P := Try.prog) W 45 _ _ m Try.underlying45
  rcases hm with ⟨rfl, rfl⟩ | ⟨b, rfl, hm⟩
  · have hown0 := (World.ownsMap_made w Try.prog 9 ptrR).setCell (a := ⟨gd, 1, none⟩) (by show w.heap.size ≠ gd; omega) (.map (some w.heap.size))
    have k1 := (Rw.more hr (.map #[] 0)).cell (j := 1) rfl
    have k2 := (Rw.more hr (.map #[] 0)).free 1
    have hr2 := (Rw.more hr (.map #[] 0)).stored 1 (.map (some w.heap.size))
    have hK2 := kept_put (F := fun k => k = gd ∨ Value.map none = .map (some k)) (kept_alloc (kept_refl _ w) (.map #[] 0)) (g := gd) (.inl (.inl rfl)) 1 (.map (some w.heap.size))
    have l1 := hr2.cell (j := 1) rfl
    have HR := Lib.hid hr2
    have HK := Lib.hid hK2
    have HG := Lib.hid hgs
    have HS := Lib.hid hs
    have HKEY := Lib.hid hkey
    have HO := Lib.hid hown0
    clear hr hr2 hK2 hgs hs hmax hn hsz hkey hown0
    go_enter Try.func37, Try.ntmps37
    go_wp2_with (first | (at_mapUpdate; refine wpList_mapUpdate_own _ rfl _ _ _ 45 rfl 9 73 Try.keyS Try.underlying45 ptrR w.heap.size 0 (.map []) rfl HO.out (by unfold maxLen; omega) _ _ _ rfl rfl HKEY.out (.lit (.int .u64 x.g)) [] rfl ?_; intro w1 hown1 hgrow1) | fail)
    go_end0
    refine ⟨rfl, w.heap.size, .inr (Nat.le_refl _), ?_, mapAt_tight (n := 1) ?_, ?_⟩
    · refine ⟨Nat.zero_le _, ?_⟩
      rw [hgrow1.block gd (by simp [World.setCell]; have := HG.out; omega) (by intro e; injection e with e; have := HG.out; omega)]
      exact HR.out.2
    · have := hown1
      rw [show (DataW.map [] : DataW Unit) = DataW.map (([] : List Rec).map entR) from rfl, entR_put x []] at this
      exact this
    · exact kept_grown HK.out hgrow1 (fun g hg => by cases hg; exact .inr (Nat.le_refl _))
  · have hne : b ≠ gd := by
      intro e
      subst e
      obtain ⟨es, clock, hb, _⟩ := hm
      rw [hr.2] at hb
      cases hb
    have hmo : w.ownsMap Try.prog 9 ptrR b rs.length (.map (rs.map entR)) := hm
    have HR := Lib.hid hr
    have HG := Lib.hid hgs
    have HNE := Lib.hid hne
    have HKEY := Lib.hid hkey
    have HO := Lib.hid hmo
    have HM := Lib.hid hmax
    clear hr hgs hs hn hm hne hsz hkey hmo hmax hmm
    go_enter Try.func37, Try.ntmps37
    go_wp2_with (first | (at_mapUpdate; refine wpList_mapUpdate_own _ rfl _ _ _ 45 rfl 9 73 Try.keyS Try.underlying45 ptrR b rs.length (.map (rs.map entR)) rfl HO.out HM.out _ _ _ rfl rfl HKEY.out (.lit (.int .u64 x.g)) [] rfl ?_; intro w1 hown1 hgrow1) | fail)
    go_end0
    refine ⟨rfl, b, .inl rfl, ?_, mapAt_tight (n := rs.length + 1) ?_, ?_⟩
    · refine ⟨Nat.zero_le _, ?_⟩
      rw [hgrow1.block gd HG.out (by intro e; injection e with e; exact HNE.out e.symm)]
      exact HR.out.2
    · have := hown1
      rw [entR_put x rs] at this
      exact this
    · exact kept_grown (kept_refl _ w) hgrow1 (fun g hg => by cases hg; exact .inl (.inr rfl))

end Go.Proofs.Ytfiocghgjjandaa
