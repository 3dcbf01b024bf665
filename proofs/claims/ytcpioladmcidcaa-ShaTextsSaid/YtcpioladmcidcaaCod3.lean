/- Contracts: the code's words: start and mix. -/
import Derived.Deep.RegionHeld3
import Derived.BigRegion
import Derived.Test.YtcpioladmcidcaaProg
import Derived.Test.YtcpioladmcidcaaKit
import Derived.Test.YtcpioladmcidcaaInfo
import Derived.Test.YtcpioladmcidcaaRow
import Derived.Test.YtcpioladmcidcaaU32
import Derived.Test.YtcpioladmcidcaaSha
import Derived.Test.YtcpioladmcidcaaSha2b
import Derived.Test.YtcpioladmcidcaaRow2
import Derived.Test.YtcpioladmcidcaaLit
import Derived.Test.YtcpioladmcidcaaCod1
import Derived.Test.YtcpioladmcidcaaCod2
namespace Go.Proofs.Ytcpioladmcidcaa
open Go.RowKit Go.Proofs

/-- A Digest's cells: eight words, the length, a block. -/
def digL (s : H8) (n : Int) (b : List UInt8) : List Value := s.l.map wV ++ (.int .u64 n :: b.map byteV)

theorem digL_len (s : H8) (n : Int) (b : List UInt8) (h : b.length = 64) : (digL s n b).length = 73 := by simp [digL, H8.l, h]

theorem digL_word {s : H8} {n : Int} {b : List UInt8} {k : Nat} {x : UInt32} (h : s.l[k]? = some x) : (digL s n b)[k]? = some (.int .u32 (iw x)) := by
  have hk : k < s.l.length := (List.getElem?_eq_some_iff.1 h).1
  unfold digL
  rw [List.getElem?_append_left (by simpa using hk), List.getElem?_map, h]
  rfl

theorem digL_num {s : H8} {n : Int} {b : List UInt8} : (digL s n b)[8]? = some (.int .u64 n) := rfl

theorem digL_byte {s : H8} {n : Int} {b : List UInt8} {k : Nat} {x : UInt8} (h : b[k]? = some x) : (digL s n b)[9 + k]? = some (byteV x) := by
  have e : digL s n b = (s.l.map wV ++ [.int .u64 n]) ++ b.map byteV := by simp [digL]
  rw [e, List.getElem?_append_right (by simp [H8.l])]
  have : 9 + k - (s.l.map wV ++ [Value.int .u64 n]).length = k := by simp [H8.l]
  rw [this, List.getElem?_map, h]
  rfl

set_option maxRecDepth 100000 in
theorem start_any (base g : Nat) (s : H8) (n : Int) (b : List UInt8) (w : World) (hr : Rw w base g 47 (digL s n b)) :
    Calls Try.prog 23 #[.pointer (some ⟨g, 0, none⟩)] w fun e w' => e = .returned (.tuple #[]) ∧ Rw w' base g 47 (digL h0S n b) ∧ Save w.heap.size g w w' := by
  obtain ⟨L, hL⟩ : ∃ L, L = h0S.l.map wV := ⟨_, rfl⟩
  have hLl : L.length = 8 := by rw [hL]; rfl
  have h1c : ∀ v ∈ L, v.oneCell' = true := by rw [hL]; intro v hv; obtain ⟨x, _, rfl⟩ := List.mem_map.1 hv; rfl
  have HI : Hid ((Try.prog.info? 41).map (·.size) = some L.length) := Lib.hid (by rw [hLl]; exact Try.infoW8n)
  have HC := Lib.hid h1c
  have HL := Lib.hid hL
  have HLL := Lib.hid hLl
  have HR := Lib.hid hr
  clear hL hLl h1c hr
  go_enter Try.func23, Try.ntmps23
  go_wp2_with (first | (refine wpList_build_k (cs := L.toArray) rfl rfl (by rw [HL.out]; kernel_rfl) ?_) | (refine wpList_store_mid rfl 41 _ _ rfl g 0 L.toArray rfl rfl (HR.out.there 0 _ (by rw [List.size_toArray, HLL.out]; simp [digL, H8.l])) (by rw [HI.out]; simp) (all_oneCell_toArray HC.out) ?_))
  have hfin := Rw.storedMid (pre := []) (xs := s.l.map wV) (post := .int .u64 n :: b.map byteV) HR.out 0 L rfl (by rw [HLL.out]; rfl)
  rw [HL.out] at hfin
  go_end0
  rw [HL.out]
  exact ⟨rfl, hfin, (Save.refl _ _ _).puts _ _⟩

/-- The first k words are sums, the rest are as they were. -/
def upTo (s v : H8) (k : Nat) : List Value := ((s.add v).l.take k ++ s.l.drop k).map wV

theorem lt8 {P : Nat → Prop} (h0 : P 0) (h1 : P 1) (h2 : P 2) (h3 : P 3) (h4 : P 4) (h5 : P 5) (h6 : P 6) (h7 : P 7) {k : Nat} (hk : k < 8) : P k := by
  match k, hk with
  | 0, _ => exact h0
  | 1, _ => exact h1
  | 2, _ => exact h2
  | 3, _ => exact h3
  | 4, _ => exact h4
  | 5, _ => exact h5
  | 6, _ => exact h6
  | 7, _ => exact h7

theorem upTo_at {s v : H8} {k : Nat} (hk : k < 8) (r : List Value) : (upTo s v k ++ r)[k]? = some (.int .u32 (iw (s.l.getD k 0))) :=
  lt8 (P := fun k => (upTo s v k ++ r)[k]? = some (.int .u32 (iw (s.l.getD k 0)))) rfl rfl rfl rfl rfl rfl rfl rfl hk

theorem upTo_set {s v : H8} {k : Nat} (hk : k < 8) (r : List Value) : (upTo s v k ++ r).set k (wV (s.l.getD k 0 + v.l.getD k 0)) = upTo s v (k + 1) ++ r :=
  lt8 (P := fun k => (upTo s v k ++ r).set k (wV (s.l.getD k 0 + v.l.getD k 0)) = upTo s v (k + 1) ++ r) rfl rfl rfl rfl rfl rfl rfl rfl hk

theorem row8_at (a b c d e f g h : UInt32) {k : Nat} (hk : k < 8) : (#[.int .u32 (iw a), .int .u32 (iw b), .int .u32 (iw c), .int .u32 (iw d), .int .u32 (iw e), .int .u32 (iw f), .int .u32 (iw g), .int .u32 (iw h)] : Array Value)[k]? = some (.int .u32 (iw ((⟨a, b, c, d, e, f, g, h⟩ : H8).l.getD k 0))) :=
  lt8 (P := fun k => (#[.int .u32 (iw a), .int .u32 (iw b), .int .u32 (iw c), .int .u32 (iw d), .int .u32 (iw e), .int .u32 (iw f), .int .u32 (iw g), .int .u32 (iw h)] : Array Value)[k]? = some (.int .u32 (iw ((⟨a, b, c, d, e, f, g, h⟩ : H8).l.getD k 0)))) rfl rfl rfl rfl rfl rfl rfl rfl hk

theorem roundS_at {K W : List UInt32} {s V : H8} {k : Nat} {kk ww : UInt32} (hV : V = rounds K W s k) (hk : K[k]? = some kk) (hw : W[k]? = some ww) : rounds K W s (k + 1) = roundS V kk ww := by
  rw [rounds, hV, List.getD_eq_getElem?_getD, hk, List.getD_eq_getElem?_getD, hw]
  rfl

set_option maxRecDepth 100000 in
set_option maxHeartbeats 2000000 in
theorem mix_any (base g : Nat) (s : H8) (n : Int) (l : List UInt8) (w : World) (hl : l.length = 64) (hr : Rw w base g 47 (digL s n l)) :
    Calls Try.prog 24 #[.pointer (some ⟨g, 0, none⟩), .pointer (some ⟨g, 9, none⟩)] w fun e w' => e = .returned (.tuple #[]) ∧ Rw w' base g 47 (digL (blockS kL s l) n l) ∧ Save w.heap.size g w w' := by
  have hby : ByAt w g 9 l := fun j x hj => hr.cell (digL_byte hj)
  obtain ⟨W, hW⟩ : ∃ W, W = sched (words l 16) 48 := ⟨_, rfl⟩
  have hWl : W.length = 64 := by rw [hW, sched_len, words_len]
  have hsch := schedule_any g 9 l
  rw [← hW] at hsch
  obtain ⟨Z, hz, hZ⟩ : ∃ Z, (∀ w, (zeroValue 53).run Try.prog w = .ok (.agg Z) w) ∧ Z = Array.replicate 64 (.int .u32 0) := ⟨_, zero_cells Try.infoW64, rfl⟩
  obtain ⟨A, hA⟩ : ∃ A, A = W.map wV := ⟨_, rfl⟩
  obtain ⟨C, hC⟩ : ∃ C, C = kL.map wV := ⟨_, rfl⟩
  have hAl : A.length = 64 := by rw [hA, List.length_map, hWl]
  have hCl : C.length = 64 := by rw [hC, List.length_map, kL_len]
  have hA1 : ∀ v ∈ A, v.oneCell' = true := by rw [hA]; intro v hv; obtain ⟨x, _, rfl⟩ := List.mem_map.1 hv; rfl
  have hC1 : ∀ v ∈ C, v.oneCell' = true := by rw [hC]; intro v hv; obtain ⟨x, _, rfl⟩ := List.mem_map.1 hv; rfl
  have HZA : Hid (Z.toList.length = A.length) := Lib.hid (by rw [hZ, hAl]; simp)
  have HZC : Hid (Z.toList.length = C.length) := Lib.hid (by rw [hZ, hCl]; simp)
  have HIA : Hid ((Try.prog.info? 53).map (·.size) = some A.length) := Lib.hid (by rw [hAl]; exact Try.infoW64n)
  have HIC : Hid ((Try.prog.info? 53).map (·.size) = some C.length) := Lib.hid (by rw [hCl]; exact Try.infoW64n)
  have HWL := Lib.hid hWl
  have HBS : Hid (blockS kL s l = s.add (rounds kL W s 64)) := Lib.hid (by rw [hW]; rfl)
  have HL := Lib.hid hl
  have HR := Lib.hid hr
  have HBY := Lib.hid hby
  have HA1 := Lib.hid hA1
  have HC1 := Lib.hid hC1
  have HA := Lib.hid hA
  have HC := Lib.hid hC
  rw [← hA] at hsch
  have HSCH := Lib.hid hsch
  clear hl hr hby hW hWl hsch hZ hA hC hAl hCl hA1 hC1
  go_enter Try.func24, Try.ntmps24
  go_wp2_with fail
  refine (HSCH.out w HL.out HBY.out).mono ?_
  rintro e w1 ⟨rfl, hb1⟩
  obtain ⟨gp, hgp⟩ : ∃ gp, gp = w1.heap.size := ⟨_, rfl⟩
  have hp0 := Rw.alloc w1 53 Z (base := w.heap.size) hb1.size
  have HP0 := Lib.hid hp0
  clear hp0
  go_wp2_with (first | (refine wpList_alloc_z rfl 53 rfl Z hz ?_) | (refine wpList_store_mid rfl 53 _ _ rfl w1.heap.size 0 A.toArray rfl rfl (HP0.out.there 0 _ (by rw [HZA.out]; simp)) (by rw [HIA.out]; simp) (all_oneCell_toArray HA1.out) ?_) | fail)
  have hp1 := HP0.out.storedAll A HZA.out
  have hs1 : Below w.heap.size w ((w1.alloc (.cells Z 53)).setCells w1.heap.size 0 A) := below_setCells hb1.size _ _ _ (below_more hb1 _)
  rw [← hgp] at hp1 hs1
  simp only [← hgp]
  have hgw : w.heap.size ≤ gp := by rw [hgp]; exact hb1.size
  generalize (w1.alloc (.cells Z 53)).setCells gp 0 A = w2 at hp1 hs1 ⊢
  have HP1 := Lib.hid hp1
  have HS1 := Lib.hid hs1
  have HGW := Lib.hid hgw
  clear hp1 hs1 hgw hgp hb1
  refine (constants_any w2).mono ?_
  rintro e w3 ⟨rfl, hb3⟩
  rw [← HC.out]
  obtain ⟨gk, hgk⟩ : ∃ gk, gk = w3.heap.size := ⟨_, rfl⟩
  have HB3 := Lib.hid hb3
  have hk0 := Rw.alloc w3 53 Z (base := w.heap.size) (Nat.le_trans HS1.out.size hb3.size)
  have HK0 := Lib.hid hk0
  clear hk0 hb3
  go_wp2_with (first | (refine wpList_alloc_z rfl 53 rfl Z hz ?_) | (refine wpList_store_mid rfl 53 _ _ rfl w3.heap.size 0 C.toArray rfl rfl (HK0.out.there 0 _ (by rw [HZC.out]; simp)) (by rw [HIC.out]; simp) (all_oneCell_toArray HC1.out) ?_))
  have hk1 := HK0.out.storedAll C HZC.out
  have hb3 : Below w.heap.size w w3 := HS1.out.trans (HB3.out.mono HS1.out.size)
  have hs4 : Below w.heap.size w ((w3.alloc (.cells Z 53)).setCells w3.heap.size 0 C) := below_setCells (Nat.le_trans HS1.out.size HB3.out.size) _ _ _ (below_more hb3 _)
  have hp4 : Rw ((w3.alloc (.cells Z 53)).setCells w3.heap.size 0 C) w.heap.size gp 53 A := Rw.otherAll (Rw.more (HP1.out.below HB3.out) _) (by have := HP1.out.size; have := HB3.out.size; omega) _ _
  rw [← hgk] at hk1 hs4 hp4
  simp only [← hgk]
  have hgw : w.heap.size ≤ gk := by rw [hgk]; exact hb3.size
  generalize (w3.alloc (.cells Z 53)).setCells gk 0 C = w4 at hk1 hs4 hp4 ⊢
  clear hgk hb3 HK0 HP0 HB3 HS1 HP1 HZA HZC HIA HIC HA1 HC1 HSCH HBY hz
  have hg4 := HR.out.below hs4
  have HS4 := Lib.hid hs4
  have HP4 := Lib.hid hp4
  have HK4 := Lib.hid hk1
  have HG4 := Lib.hid hg4
  have HGW2 := Lib.hid hgw
  clear hk1 hs4 hp4 hgw hg4
  obtain ⟨sa, sb, sc, sd, se, sf, sg, sh⟩ := s
  have d0 : w4.cell? ⟨g, 0, none⟩ = some (.int .u32 (iw sa)) := HG4.out.cell rfl
  have d1 : w4.cell? ⟨g, 1, none⟩ = some (.int .u32 (iw sb)) := HG4.out.cell rfl
  have d2 : w4.cell? ⟨g, 2, none⟩ = some (.int .u32 (iw sc)) := HG4.out.cell rfl
  have d3 : w4.cell? ⟨g, 3, none⟩ = some (.int .u32 (iw sd)) := HG4.out.cell rfl
  have d4 : w4.cell? ⟨g, 4, none⟩ = some (.int .u32 (iw se)) := HG4.out.cell rfl
  have d5 : w4.cell? ⟨g, 5, none⟩ = some (.int .u32 (iw sf)) := HG4.out.cell rfl
  have d6 : w4.cell? ⟨g, 6, none⟩ = some (.int .u32 (iw sg)) := HG4.out.cell rfl
  have d7 : w4.cell? ⟨g, 7, none⟩ = some (.int .u32 (iw sh)) := HG4.out.cell rfl
  go_quiet (fail)
  obtain ⟨w5, hw5⟩ : ∃ w5, w5 = w4.drewN nq := ⟨_, rfl⟩
  rw [← hw5]
  have e4 : w5.cell? ⟨g, 4, none⟩ = some (.int .u32 (iw se)) := by rw [hw5]; exact d4
  have e5 : w5.cell? ⟨g, 5, none⟩ = some (.int .u32 (iw sf)) := by rw [hw5]; exact d5
  have e6 : w5.cell? ⟨g, 6, none⟩ = some (.int .u32 (iw sg)) := by rw [hw5]; exact d6
  have e7 : w5.cell? ⟨g, 7, none⟩ = some (.int .u32 (iw sh)) := by rw [hw5]; exact d7
  have HW5 := Lib.hid hw5
  clear d0 d1 d2 d3 d4 d5 d6 d7 hw5
  go_wp2_with fail
  go_quiet (fail)
  clear e4 e5 e6 e7
  obtain ⟨w6, hw6⟩ : ∃ w6, w6 = w5.drewN nq := ⟨_, rfl⟩
  rw [← hw6]
  have hd : Drew w4 w6 := by rw [hw6, HW5.out]; exact ⟨_, World.drewN_drewN _ _ _⟩
  have HS6 : Hid (Below w.heap.size w w6) := Lib.hid (below_draws HS4.out hd)
  have HP6 : Hid (Rw w6 w.heap.size gp 53 A) := Lib.hid (HP4.out.drew hd)
  have HK6 : Hid (Rw w6 w.heap.size gk 53 C) := Lib.hid (HK4.out.drew hd)
  have HG6 : Hid (Rw w6 base g 47 (digL ⟨sa, sb, sc, sd, se, sf, sg, sh⟩ n l)) := Lib.hid (HG4.out.drew hd)
  clear hd hw6 HW5 HS4 HP4 HK4 HG4
  go_wp2_with fail
  obtain ⟨S, hS⟩ : ∃ S : H8, S = ⟨sa, sb, sc, sd, se, sf, sg, sh⟩ := ⟨_, rfl⟩
  have HS := Lib.hid hS
  have hg6 := HG6.out
  rw [← hS] at hg6
  have HG7 := Lib.hid hg6
  have HBS2 : Hid (blockS kL ⟨sa, sb, sc, sd, se, sf, sg, sh⟩ l = S.add (rounds kL W S 64)) := Lib.hid (by rw [hS]; exact HBS.out)
  clear hS hg6 HG6 HBS
  go_loopw [6, 7, 8, 9, 10, 11, 12, 13, 66] (fun s6 s7 s8 s9 s10 s11 s12 s13 i wr => ∃ (k : Nat) (a b c d e f g' h : UInt32), k ≤ 64 ∧ i = .int .i64 k ∧ s6 = .int .u32 (iw a) ∧ s7 = .int .u32 (iw b) ∧ s8 = .int .u32 (iw c) ∧ s9 = .int .u32 (iw d) ∧ s10 = .int .u32 (iw e) ∧ s11 = .int .u32 (iw f) ∧ s12 = .int .u32 (iw g') ∧ s13 = .int .u32 (iw h) ∧ Hid ((⟨a, b, c, d, e, f, g', h⟩ : H8) = rounds kL W S k) ∧ Hid (Drew w6 wr)) (fun _ _ _ _ _ _ _ _ i _ => 64 - (intOf i).toNat)
  case atStart => exact ⟨0, sa, sb, sc, sd, se, sf, sg, sh, by omega, rfl, rfl, rfl, rfl, rfl, rfl, rfl, rfl, rfl, Lib.hid HS.out.symm, Lib.hid ⟨0, rfl⟩⟩
  case round =>
    obtain ⟨k, va, vb, vc, vd, ve, vf, vg, vh, hk, rfl, rfl, rfl, rfl, rfl, rfl, rfl, rfl, rfl, HV, HD⟩ := hrel
    obtain ⟨w7, hw7⟩ : ∃ w7 : World, w7 = wr := ⟨_, rfl⟩
    subst hw7
    by_cases hlt : k < 64
    · obtain ⟨kk, hkk⟩ : ∃ kk, kL[k]? = some kk := ⟨_, List.getElem?_eq_getElem (by rw [kL_len]; exact hlt)⟩
      obtain ⟨ww, hww⟩ : ∃ ww, W[k]? = some ww := ⟨_, List.getElem?_eq_getElem (by rw [HWL.out]; exact hlt)⟩
      have HN := Lib.hid (roundS_at HV.out hkk hww)
      have hck : w7.cell? ⟨gk, k, none⟩ = some (.int .u32 (iw kk)) := (HK6.out.drew HD.out).cell (by rw [HC.out, List.getElem?_map, hkk]; rfl)
      have hcw : w7.cell? ⟨gp, k, none⟩ = some (.int .u32 (iw ww)) := (HP6.out.drew HD.out).cell (by rw [HA.out, List.getElem?_map, hww]; rfl)
      have HCK := Lib.hid hck
      have HCW := Lib.hid hcw
      have HKL := Lib.hid hlt
      have hk64 : (k : Int) < 64 := by omega
      have HP : Hid (Value.int .u32 (((iw vh + bits .xor .u32 (bits .xor .u32 (iw (rr ve 6)) (iw (rr ve 11))) (iw (rr ve 25)) + bits .xor .u32 (bits .and .u32 (iw ve) (iw vf)) (bits .and .u32 (bits .xor .u32 IntKind.u32.max (iw ve)) (iw vg)) + iw kk) % (4294967296 : Int) + iw ww) % (4294967296 : Int)) = .int .u32 (iw (roundP ⟨va, vb, vc, vd, ve, vf, vg, vh⟩ kk ww))) := Lib.hid (by
        simp only [iw_notm, iw_xor, iw_and, iw_sum5]
        rfl)
      have HQ : Hid (((bits .xor .u32 (bits .xor .u32 (iw (rr va 2)) (iw (rr va 13))) (iw (rr va 22)) + bits .xor .u32 (bits .xor .u32 (bits .and .u32 (iw va) (iw vb)) (bits .and .u32 (iw va) (iw vc))) (bits .and .u32 (iw vb) (iw vc))) % (4294967296 : Int)) = iw (roundQ ⟨va, vb, vc, vd, ve, vf, vg, vh⟩)) := Lib.hid (by
        simp only [iw_xor, iw_and, iw_addm]
        rfl)
      clear hkk hww hck hcw hlt hk
      go_wp2_with fail
      refine (rot_any ve 6 (-6) rfl (by decide) _).mono ?_
      rintro e w' ⟨rfl, rfl⟩
      go_wp2_with fail
      refine (rot_any ve 11 (-11) rfl (by decide) _).mono ?_
      rintro e w' ⟨rfl, rfl⟩
      go_wp2_with fail
      refine (rot_any ve 25 (-25) rfl (by decide) _).mono ?_
      rintro e w' ⟨rfl, rfl⟩
      have hck := HCK.out
      have hcw := HCW.out
      go_wp2_with fail
      go_quiet (fail)
      rw [HP.out]
      obtain ⟨pp, hpp⟩ : ∃ pp, pp = roundP ⟨va, vb, vc, vd, ve, vf, vg, vh⟩ kk ww := ⟨_, rfl⟩
      rw [← hpp]
      have HPP := Lib.hid hpp
      obtain ⟨w8, hw8⟩ : ∃ w8, w8 = w7.drewN nq := ⟨_, rfl⟩
      rw [← hw8]
      have HD8 : Hid (Drew w6 w8) := Lib.hid (by rw [hw8]; exact HD.out.more _)
      clear hpp hck hcw hw8 HP
      go_wp2_with fail
      refine (rot_any va 2 (-2) rfl (by decide) _).mono ?_
      rintro e w' ⟨rfl, rfl⟩
      go_wp2_with fail
      refine (rot_any va 13 (-13) rfl (by decide) _).mono ?_
      rintro e w' ⟨rfl, rfl⟩
      go_wp2_with fail
      refine (rot_any va 22 (-22) rfl (by decide) _).mono ?_
      rintro e w' ⟨rfl, rfl⟩
      go_wp2_with fail
      go_roundw
      case rel =>
        have hk := HKL.out
        refine ⟨k + 1, pp + roundQ ⟨va, vb, vc, vd, ve, vf, vg, vh⟩, va, vb, vc, vd + pp, ve, vf, vg, by omega, by go_num, by rw [HQ.out, iw_addm], rfl, rfl, rfl, by rw [iw_addm], rfl, rfl, rfl, Lib.hid ?_, HD8⟩
        rw [HN.out, HPP.out]
        rfl
      case measure => have hk := HKL.out; simp [intOf]; omega
    · have h64 : k = 64 := by omega
      have hv := HV.out
      rw [h64] at hv
      obtain ⟨V, hVV⟩ : ∃ V : H8, V = ⟨va, vb, vc, vd, ve, vf, vg, vh⟩ := ⟨_, rfl⟩
      rw [← hVV] at hv
      have HFIN : Hid (blockS kL ⟨sa, sb, sc, sd, se, sf, sg, sh⟩ l = S.add V) := Lib.hid (by rw [hv]; exact HBS2.out)
      have HVV := Lib.hid hVV
      have hn64 : ¬ ((k : Int) < 64) := by omega
      have HSV : Hid (Save w.heap.size g w w7) := Lib.hid (Save.of (below_draws HS6.out HD.out))
      have HG8 : Hid (Rw w7 base g 47 (upTo S V 0 ++ (.int .u64 n :: l.map byteV))) := Lib.hid (HG7.out.drew HD.out)
      clear h64 hv hVV hlt hk HV HD HP6 HK6 HS6 HG7 HBS2
      go_wp2_with (refine wpList_build8 rfl _ _ _ _ _ _ _ _ rfl _ _ _ _ _ _ _ _ rfl rfl rfl rfl rfl rfl rfl rfl ?_)
      have hu : (Try.prog.info? 40).map (·.size) = some 1 := (zero_of_info3 Try.infoU32)
      go_loopw [142] (fun i wr => ∃ k : Nat, k ≤ 8 ∧ i = .int .i64 k ∧ Hid (Rw wr base g 47 (upTo S V k ++ (.int .u64 n :: l.map byteV))) ∧ Hid (Save w.heap.size g w wr)) (fun i _ => 8 - (intOf i).toNat)
      case atStart => exact ⟨0, by omega, rfl, HG8, HSV⟩
      case round =>
        clear HG8 HSV
        obtain ⟨k, hk, rfl, HG, HSV⟩ := hrel
        obtain ⟨w8, hw8⟩ : ∃ w8 : World, w8 = wr := ⟨_, rfl⟩
        subst hw8
        by_cases hlt : k < 8
        · have hc := HG.out.cell (upTo_at hlt _)
          have hf := HG.out.free k
          have hrow := row8_at va vb vc vd ve vf vg vh hlt
          rw [← HVV.out] at hrow
          have hy : (k : Int) < 8 := by omega
          have hfin := HG.out.stored k (wV (S.l.getD k 0 + V.l.getD k 0))
          rw [upTo_set hlt] at hfin
          obtain ⟨x, hx⟩ : ∃ x, x = S.l.getD k 0 := ⟨_, rfl⟩
          obtain ⟨y, hyy⟩ : ∃ y, y = V.l.getD k 0 := ⟨_, rfl⟩
          rw [← hx] at hc hfin
          rw [← hyy] at hrow hfin
          have HROW := Lib.hid hrow
          have HFIN2 := Lib.hid hfin
          have HKL := Lib.hid hlt
          clear hrow hfin hx hyy hk
          go_wp2_with (refine wpList_index_row (ki := .i64) rfl 41 _ _ rfl (.int .u32 (iw y)) Try.underlying41 Try.underlying40 hu rfl rfl hlt HROW.out ?_)
          go_region
          go_wp2
          go_roundw
          case rel =>
            refine ⟨k + 1, by have := HKL.out; omega, by go_num, Lib.hid ?_, Lib.hid ?_⟩
            · rw [iw_addm]
              exact HFIN2.out
            · rw [iw_addm]
              exact (HSV.out.put k _).draws ⟨1, rfl⟩
          case measure => have hk := HKL.out; simp [intOf]; omega
        · have h8 : k = 8 := by omega
          have hg := HG.out
          rw [h8] at hg
          have HGF := Lib.hid hg
          clear h8 hg hk HG
          go_wp2
          go_end0
          rw [HFIN.out]
          exact ⟨rfl, HGF.out, HSV.out⟩

end Go.Proofs.Ytcpioladmcidcaa
