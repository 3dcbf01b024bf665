/- Picks that came in; the law's bytes; one file's disk. -/
import Derived.BigRegion
import Derived.Deep.RegionHeld3
import Derived.Stop.BytesEq
import Derived.Test.YtifkebjfedpaoaaProg
import Derived.Test.YtifkebjfedpaoaaKit
import Derived.Test.YtifkebjfedpaoaaLaw
import Derived.Test.YtifkebjfedpaoaaInfo
import Derived.Test.YtifkebjfedpaoaaRow
import Derived.Test.YtifkebjfedpaoaaCod5
import Derived.Test.YtifkebjfedpaoaaCod7
import Derived.Test.YtifkebjfedpaoaaFrm12
import Derived.Test.YtifkebjfedpaoaaDsk0
import Derived.Test.YtifkebjfedpaoaaDsk6
import Derived.Test.YtifkebjfedpaoaaDsk7
import Derived.Test.YtifkebjfedpaoaaDsk9
import Derived.Test.YtifkebjfedpaoaaDsk12
import Derived.Test.YtifkebjfedpaoaaDsk13
import Derived.Test.YtifkebjfedpaoaaDsk14
import Derived.Test.YtifkebjfedpaoaaDsk17
namespace Go.Proofs.Ytifkebjfedpaoaa
open Go.ChangeShapes Go.WideShapes Go.RowKit Go.Proofs Go.Maps

theorem open_picks {H : Type} {enc : TypeId × Value → H} {P : Program} {W : World} {base b0 : Nat} {r : Reach} {held : Bool} {t e : TypeId} {v : Value} {d : DataW H} {ps : List MemPlace} (ht : P.underlying t = some (.slice e)) (he : P.underlying e = some (.int .i64)) (hc : P.cellsOf e = 1) (hby : P.bytesOf e = 8)
    (hval : Value.okWide P W r b0 t v) (hd : DataW.Trod enc P W base (fun _ => true) held t v d ps) (hz : ∀ n ∈ d.weights P t, n ≤ reachBytes) :
    ∃ l : List Int, PickAt W v l ∧ RangeI l := by
  have hd0 := hd
  obtain ⟨a0, len, cap, rfl⟩ := okWide_slice ht hval
  obtain ⟨zs, hsl, hlen, hwf⟩ := open_nums ht he hc hval hd0 hz
  obtain ⟨fuel, hf⟩ := hd
  obtain ⟨a1, c1, hv, hcells⟩ := hsl
  injection hv with e1 e2 e3
  subst e1; subst e3
  rw [List.length_map] at e2
  have hri : RangeI zs := ⟨fun p hp => bounds_i64 (hwf p hp), by
    rw [hby] at hlen
    have : reachBytes < 9223372036854775807 := by decide
    omega⟩
  refine ⟨zs, ?_, hri⟩
  rcases open_ints ht he hc hf with ⟨hcs, hx⟩ | ⟨a, len', cap', ss, hcs, _, hle, hm, hss, hx, hcell, hws⟩
  · simp [Value.cells] at hcs
    obtain ⟨rfl, rfl, rfl⟩ := hcs
    have hzs : zs = [] := List.eq_nil_of_length_eq_zero e2.symm
    subst hzs
    exact ⟨none, 0, rfl, Nat.le_refl _, .inl rfl⟩
  · simp [Value.cells] at hcs
    obtain ⟨rfl, rfl, rfl⟩ := hcs
    subst e2
    refine ⟨some a, cap, rfl, hle, ?_⟩
    rcases hcells with h | ⟨b, o, ha, h⟩
    · exact .inl (List.map_eq_nil_iff.1 h)
    · exact .inr ⟨b, o, ha, fun j p hj => h j _ (by rw [List.getElem?_map, hj]; rfl)⟩

theorem pickAt_below {w w' : World} {v : Value} {ps : List Int} (h : PickAt w v ps) (hb : Below w.heap.size w w') : PickAt w' v ps := by
  obtain ⟨a, c, rfl, hc, hl⟩ := h
  refine ⟨a, c, rfl, hc, ?_⟩
  rcases hl with h | ⟨b, o, ha, h⟩
  · exact .inl h
  · exact .inr ⟨b, o, ha, fun j p hj => (hb.cell (p := ⟨b, o + j, none⟩) (block_of_cell (h j p hj))).trans (h j p hj)⟩

/-- Bytes that hang on a number. -/
def byteL (c n : Nat) : List UInt8 := (List.range n).map (fun i => (c + i).toUInt8)

theorem byteL_len (c n : Nat) : (byteL c n).length = n := by simp [byteL]

theorem byteL_set (c : Nat) {n k : Nat} (hk : k < n) : ((byteL c k ++ List.replicate (n - k) 0).map byteV).set k (byteV (c + k).toUInt8) = (byteL c (k + 1) ++ List.replicate (n - (k + 1)) 0).map byteV := by
  rw [show n - k = n - (k + 1) + 1 by omega, List.replicate_succ, List.map_append, List.set_append, if_neg (by rw [List.length_map, byteL_len]; omega)]
  rw [List.length_map, byteL_len, Nat.sub_self, List.map_cons, List.set_cons_zero, List.map_append]
  unfold byteL
  rw [List.range_succ, List.map_append, List.map_append, List.append_assoc]
  rfl

theorem byteL_val (c k : Nat) : (((c + k).toUInt8.toNat : Nat) : Int) = ((c : Int) + (k : Int)) % 256 := by
  rw [Nat.toUInt8_eq, UInt8.toNat_ofNat']
  omega

set_option maxHeartbeats 1000000 in
theorem dbytes_any (z : Int) (n c : Nat) (w : World) (hz : max z 0 = (n : Int)) (hn : n < 4294967296) (hc : c < 4294967296) :
    Calls Try.prog 14 #[.int .i64 z, .int .i64 c] w fun e w' => ∃ g, e = .returned (.slice (some ⟨g, 0, none⟩) n n) ∧ w'.ownsRow w.heap.size 5 1 (.slice (some ⟨g, 0, none⟩) n n) n ((byteL c n).map byteV) ∧ Below w.heap.size w w' := by
  obtain ⟨i0, hi, hz0, hz1, hz2⟩ := info_parts Try.infoByte
  have hn1 : (n : Int) < 4294967296 := by omega
  have hc1 : (c : Int) < 4294967296 := by omega
  have HN := Lib.hid hn
  have hz' : max 0 z = (n : Int) := by omega
  clear hn hc
  go_enter Try.func14, Try.ntmps14
  by_cases hsg : z ≤ 0
  all_goals
    have hval : ∃ m : Int, m = max z 0 := ⟨_, rfl⟩
    go_wp2_with (first | (refine wpList_make1 w rfl _ _ 39 rfl 5 i0 (.int .u8 0) 1 Try.underlying39 hi hz0 hz1 hz2 rfl .i64 .i64 _ _ n rfl rfl (by omega) (by omega) (by have := HN.out; omega) (by decide) ?_; intro w1 hown1 hb1) | fail)
    obtain ⟨g, hg⟩ : ∃ g, g = w.heap.size := ⟨_, rfl⟩
    have ho1 : w1.ownsRow w.heap.size 5 1 (.slice (some ⟨g, 0, none⟩) n n) n ((byteL c 0 ++ List.replicate (n - 0) 0).map byteV) := by
      rw [hg]
      simpa [byteV, byteL] using hown1
    have HO := Lib.hid ho1
    have HB := Lib.hid hb1
    have HG := Lib.hid hg
    simp only [← hg]
    clear hown1 hb1 ho1 hg hz hz' hsg hval
    go_loopw [6] (fun i wr => ∃ k : Nat, k ≤ n ∧ i = .int .i64 k ∧ Hid (wr.ownsRow w.heap.size 5 1 (.slice (some ⟨g, 0, none⟩) n n) n ((byteL c k ++ List.replicate (n - k) 0).map byteV)) ∧ Hid (Below w.heap.size w wr)) (fun i _ => n - (intOf i).toNat)
    case atStart => exact ⟨0, Nat.zero_le _, rfl, HO, HB⟩
    case round =>
      clear HO HB
      obtain ⟨k, hk, rfl, HO, HB⟩ := hrel
      obtain ⟨w3, hw3⟩ : ∃ w3 : World, w3 = wr := ⟨_, rfl⟩
      subst hw3
      by_cases hlt : k < n
      · have hc0 : w3.cell? ⟨g, k, none⟩ = some (.int .u8 0) := (HO.out.cellAt k (by omega)).trans (by
          rw [List.getElem?_map, List.getElem?_append_right (by rw [byteL_len]; omega), List.getElem?_replicate, if_pos (by rw [byteL_len]; omega)]
          rfl)
        have hf0 := HO.out.frozenAt k
        have hy : (k : Int) < (n : Int) := by omega
        have HKL := Lib.hid hlt
        clear hk
        go_wp2_with fail
        go_roundw
        case rel =>
          have hk := HKL.out
          refine ⟨k + 1, by omega, by go_num, Lib.hid ?_, Lib.hid (HB.out.setCell (by show _ ≤ g; rw [HG.out]; exact Nat.le_refl _) _)⟩
          have h := (HO.out.stored k (byteV (c + k).toUInt8)).1
          rw [byteL_set c hk] at h
          unfold byteV at h
          rw [byteL_val] at h
          exact h
        case measure => have := HKL.out; simp [intOf]; omega
      · have hka : k = n := by omega
        have ho := HO.out
        rw [hka, Nat.sub_self, List.replicate_zero, List.append_nil] at ho
        have HO2 := Lib.hid ho
        have hy : ¬ (k : Int) < (n : Int) := by omega
        clear hka ho hk HO hn1 hc1 hlt
        go_wp2_with fail
        go_ret
        exact ⟨g, rfl, HO2.out, HB.out⟩

def oneD (b : List UInt8) (syn ops : Nat) : CodM := ⟨5000, [⟨[102], b, syn⟩], ops, false, 0⟩

theorem oneD_ok {b : List UInt8} {syn ops : Nat} (hb : b.length ≤ 5000) (ho : ops < 100) : CodOk (oneD b syn ops) := by
  refine ⟨by show 5000 < _; decide, ?_, by show ops < _; omega, by show 0 < _; decide, by show 1 < _; decide⟩
  show sizeM [⟨[102], b, syn⟩] ≤ 5000
  simp [sizeM]
  exact hb

theorem oneD_new {x : List UInt8} (hx : x.length ≤ 5000) : appM (newM 5000) [102] x = (0, oneD x 0 1) := by
  have hf : fullM (newM 5000) [102] x.length = false := by
    show (((findM [] [102]).isNone && decide (64 ≤ 0)) || !decide (sizeM [] + x.length ≤ 5000)) = false
    simp [sizeM, hx]
  unfold appM
  rw [if_neg (by decide), if_neg (by decide), hf, if_neg (by decide)]
  rfl

theorem oneD_syn {x : List UInt8} {i ops : Nat} : synM (oneD x i ops) [⟨#[102]⟩] = (0, oneD x x.length (ops + 1)) := rfl

theorem oneD_app {x y : List UInt8} {i ops : Nat} (hx : x.length + y.length ≤ 5000) : appM (oneD x i ops) [102] y = (0, oneD (x ++ y) i (ops + 1)) := by
  have hf : fullM (oneD x i ops) [102] y.length = false := by
    show (((findM [⟨[102], x, i⟩] [102]).isNone && decide (64 ≤ 1)) || !decide (sizeM [⟨[102], x, i⟩] + y.length ≤ 5000)) = false
    simp [sizeM, hx]
  unfold appM
  rw [show goesM (oneD x i ops) = true from rfl, if_neg (by decide), if_neg (by decide), hf, if_neg (by decide)]
  rfl

theorem oneD_crash {x : List UInt8} {i ops : Nat} (ps : List Int) (hi : i ≤ x.length) : ∃ r, i + r ≤ x.length ∧ crashM (oneD x i ops) ps = ⟨5000, [⟨[102], x.take (i + r), i + r⟩], 0, false, 0⟩ := by
  by_cases h : i < x.length
  · cases ps with
    | nil => exact ⟨0, by omega, by unfold crashM; rw [show (oneD x i ops).fs = [⟨[102], x, i⟩] from rfl, crashL_none]; rfl⟩
    | cons p q =>
      refine ⟨(p % ((x.length - i + 1 : Nat) : Int)).toNat, ?_, by unfold crashM; rw [show (oneD x i ops).fs = [⟨[102], x, i⟩] from rfl, crashL_take h]; rfl⟩
      have h1 := Int.emod_nonneg p (show ((x.length - i + 1 : Nat) : Int) ≠ 0 by omega)
      have h2 := Int.emod_lt_of_pos p (show (0 : Int) < ((x.length - i + 1 : Nat) : Int) by omega)
      omega
  · exact ⟨0, by omega, by unfold crashM; rw [show (oneD x i ops).fs = [⟨[102], x, i⟩] from rfl, crashL_skip h]; rfl⟩

/-- A part, as a slice of it is written out in a call. -/
theorem parts_sl (w : World) (Z : Nat → Prop) (v : Value) (l : List UInt8) (e : TypeId) (f : Nat × Nat) (b : Nat) (hv : ByteZ w Z v l) (hb : b = w.heap.size) (hZ : Z b) : PartsZ (w.alloc (.cells #[v] e f)) Z (.slice (some ⟨b, 0, none⟩) 1 1) [l] := by
  subst hb
  refine .inr ⟨_, 1, rfl, .inr ⟨_, 0, rfl, hZ, fun j m hj => ?_⟩⟩
  cases j with
  | zero =>
    simp at hj
    subst hj
    refine ⟨v, by rw [cell_of_row _ _ _ _ e f (heap_alloc_new w _)]; rfl, ?_⟩
    rcases hv with h | ⟨ad, c, rfl, hc, hl⟩
    · exact .inl h
    · refine .inr ⟨ad, c, rfl, hc, ?_⟩
      rcases hl with h | ⟨b, o, ha, hz, hat⟩
      · exact .inl h
      · exact .inr ⟨b, o, ha, hz, fun j x hj => ((below_more (Below.refl _ w) _).cell (p := ⟨b, o + j, none⟩) (block_of_cell (hat j x hj))).trans (hat j x hj)⟩
  | succ j => simp at hj

theorem kept_lit {w0 w w' : World} {Z : Nat → Prop} {o : Obj} (h : KeptZ w0 (w.alloc o) w' (fun k => Z k ∨ (w.heap.size ≤ k ∧ k < (w.alloc o).heap.size))) : KeptZ w0 w w' Z := by
  have hb := below_more (Below.refl w.heap.size w) o
  exact ⟨Nat.le_trans hb.size h.1, fun k hk hz => (h.2 k (Nat.lt_of_lt_of_le hk hb.size) (hz.imp id .inl)).trans (hb.block k hk)⟩

theorem zapp_sl {w0 w : World} {Z : Nat → Prop} {g : Nat} {D : CodM} (h : DIn w0 w Z g D) (s : ByteArray) (v : Value) (l : List UInt8) (e : TypeId) (f : Nat × Nat) (b : Nat) (hv : ByteZ w (fun k => k < w0.heap.size ∨ Z k) v l) (hb : b = w.heap.size) (hok : CodOk D) (hl : l.length < 1099511627776) (k : Int) (D' : CodM) (hap : appM D s.data.toList l = (k, D')) :
    Calls Try.prog 15 #[.pointer (some ⟨g, 0, none⟩), .string s, .slice (some ⟨b, 0, none⟩) 1 1] (w.alloc (.cells #[v] e f)) fun e w' => e = .returned (.int .i64 k) ∧ DIn w0 w' Z g D' ∧ KeptZ w0 w w' Z := by
  have h2 := dIn_new h (below_more (Below.refl _ w) (.cells #[v] e f))
  have hv2 : ByteZ w (fun k => k < w0.heap.size ∨ (Z k ∨ (w.heap.size ≤ k ∧ k < (w.alloc (.cells #[v] e f)).heap.size))) v l := by
    rcases hv with h | ⟨ad, c, h1, h2, h3⟩
    · exact .inl h
    · exact .inr ⟨ad, c, h1, h2, h3.imp id (fun ⟨b, o, q1, q2, q3⟩ => ⟨b, o, q1, q2.imp id .inl, q3⟩)⟩
  refine (zapp_any h2 s [l] _ hok (parts_sl w _ v l e f b hv2 hb (.inr (.inr ⟨by omega, by simp; omega⟩))) (by simpa using hl) (by simp)).mono ?_
  rintro e w' ⟨rfl, hd, hk⟩
  rw [flat_one, hap] at hd
  rw [flat_one, hap]
  exact ⟨rfl, dIn_less hd (fun k hk => .inl hk), kept_lit hk⟩

theorem zsyn_sl {w0 w : World} {Z : Nat → Prop} {g : Nat} {D : CodM} (h : DIn w0 w Z g D) (s : ByteArray) (e : TypeId) (f1 : Nat × Nat) (b : Nat) (hb : b = w.heap.size) (hok : CodOk D) (hs : s.size ≤ maxLen) (k : Int) (D' : CodM) (hap : synM D [s] = (k, D')) :
    Calls Try.prog 16 #[.pointer (some ⟨g, 0, none⟩), .slice (some ⟨b, 0, none⟩) 1 1] (w.alloc (.cells #[.string s] e f1)) fun e w' => e = .returned (.int .i64 k) ∧ DIn w0 w' Z g D' ∧ KeptZ w0 w w' Z := by
  have h2 := dIn_new h (below_more (Below.refl _ w) (.cells #[.string s] e f1))
  refine (zsyn_any h2 [s] b 0 1 hok (.inr (.inr ⟨by omega, by simp; omega⟩)) (fun j t hj => ?_) (fun t ht => by simp at ht; rw [ht]; exact hs) (by simp)).mono ?_
  · cases j with
    | zero =>
      simp at hj
      subst hj hb
      rw [cell_of_row _ _ _ _ e f1 (heap_alloc_new w _)]
      rfl
    | succ j => simp at hj
  · rintro e w' ⟨rfl, hd, hk⟩
    rw [hap] at hd
    rw [hap]
    exact ⟨rfl, dIn_less hd (fun k hk => .inl hk), kept_lit hk⟩

end Go.Proofs.Ytifkebjfedpaoaa
