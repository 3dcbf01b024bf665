/-
  DiskFull: whatever the room and the numbers, a disk takes as many bytes as it has room for, and as many files; the law returns true, and what was there has not turned. No condition.
-/
import Derived.Test.YtifkebjfedpaoaaProg
import Derived.Test.YtifkebjfedpaoaaKit
import Derived.Test.YtifkebjfedpaoaaLaw
import Derived.Test.YtifkebjfedpaoaaRow
import Derived.Test.YtifkebjfedpaoaaRow2
import Derived.Test.YtifkebjfedpaoaaCod5
import Derived.Test.YtifkebjfedpaoaaCod7
import Derived.Test.YtifkebjfedpaoaaFrm4
import Derived.Test.YtifkebjfedpaoaaFrm5
import Derived.Test.YtifkebjfedpaoaaFrm11
import Derived.Test.YtifkebjfedpaoaaFrm12
import Derived.Test.YtifkebjfedpaoaaRdk0
import Derived.Test.YtifkebjfedpaoaaDsk0
import Derived.Test.YtifkebjfedpaoaaDsk1
import Derived.Test.YtifkebjfedpaoaaDsk6
import Derived.Test.YtifkebjfedpaoaaDsk7
import Derived.Test.YtifkebjfedpaoaaDsk9
import Derived.Test.YtifkebjfedpaoaaDsk14
import Derived.Test.YtifkebjfedpaoaaDsk17
import Derived.Test.YtifkebjfedpaoaaDsk18
import Derived.Test.YtifkebjfedpaoaaDsk19
import Derived.Test.YtifkebjfedpaoaaDsk20
namespace Go.Proofs.Ytifkebjfedpaoaa
open Go.ChangeShapes Go.WideShapes Go.ChangeAt Go.RowKit Go.Proofs
open Go.ChangeMaps (open_string shut_string)

def nameL (k : Nat) : List UInt8 := [102, (97 + k % 26).toUInt8, (97 + k / 26).toUInt8]

theorem nameL_inj {i j : Nat} (hi : i < 90) (hj : j < 90) (h : nameL i = nameL j) : i = j := by
  unfold nameL at h
  simp only [List.cons.injEq, and_true, true_and] at h
  obtain ⟨h1, h2⟩ := h
  have e1 := congrArg UInt8.toNat h1
  have e2 := congrArg UInt8.toNat h2
  rw [Nat.toUInt8_eq, Nat.toUInt8_eq, UInt8.toNat_ofNat', UInt8.toNat_ofNat'] at e1 e2
  omega

theorem insM_len {x : FileM} : ∀ {fs : List FileM}, (insM x fs).length = fs.length + 1
  | [] => rfl
  | y :: r => by
    unfold insM
    split
    · rfl
    · rw [List.length_cons, insM_len, List.length_cons]

theorem insM_size {x : FileM} : ∀ {fs : List FileM}, sizeM (insM x fs) = x.b.length + sizeM fs
  | [] => by simp [insM, sizeM]
  | y :: r => by
    have ih := insM_size (x := x) (fs := r)
    unfold insM
    unfold sizeM at ih ⊢
    split
    · rw [List.map_cons, List.sum_cons]
    · rw [List.map_cons, List.sum_cons, ih, List.map_cons, List.sum_cons]
      omega

def FullAt (R k U K : Nat) (D : CodM) : Prop :=
  D.room = R ∧ D.cut = false ∧ D.ops = k ∧ D.left = 0 ∧ D.fs.length = K ∧ sizeM D.fs = U ∧ U ≤ R ∧ K ≤ k ∧ ∀ f ∈ D.fs, ∃ j, j < k ∧ f.name = nameL j

theorem fullAt_ok {R k U K : Nat} {D : CodM} (h : FullAt R k U K D) (hR : R ≤ 3000) (hk : k ≤ 90) : CodOk D := by
  obtain ⟨h1, _, h3, h4, h5, h6, h7, h8, _⟩ := h
  exact ⟨by omega, by omega, by omega, by omega, by omega⟩

theorem fullAt_none {R k U K : Nat} {D : CodM} (h : FullAt R k U K D) (hk : k < 90) : findM D.fs (nameL k) = none := by
  cases hq : findM D.fs (nameL k) with
  | none => rfl
  | some f =>
    obtain ⟨hm, hn⟩ := findM_some hq
    obtain ⟨j, hj, hjn⟩ := h.2.2.2.2.2.2.2.2 f hm
    have := nameL_inj (by omega) hk (hjn.symm.trans hn)
    omega

theorem fullAt_full {R k U K : Nat} {D : CodM} (h : FullAt R k U K D) (hk : k < 90) (m : List UInt8) (hf : R < U + m.length ∨ 64 ≤ K) : appM D (nameL k) m = (3, tickM D) ∧ FullAt R (k + 1) U K (tickM D) := by
  have hn := fullAt_none h hk
  obtain ⟨h1, h2, h3, h4, h5, h6, h7, h8, h9⟩ := h
  have hg : goesM D = true := by unfold goesM; rw [h2]; rfl
  have hfm : fullM D (nameL k) m.length = true := by
    unfold fullM
    rw [hn, h5, h6, h1]
    rcases hf with hf | hf
    · have : ¬ U + m.length ≤ R := by omega
      simp [this]
    · simp [hf]
  refine ⟨?_, h1, h2, by show D.ops + 1 = _; omega, by show (if D.cut then _ else _) = 0; rw [h2]; simpa using h4, h5, h6, h7, by omega, fun f hf => ?_⟩
  · unfold appM
    rw [hg, if_neg (by decide), show nameB (nameL k) = true from rfl, if_neg (by decide), hfm, if_pos rfl]
  · obtain ⟨j, hj, hjn⟩ := h9 f hf
    exact ⟨j, by omega, hjn⟩

theorem fullAt_fits {R k U K : Nat} {D : CodM} (h : FullAt R k U K D) (hk : k < 90) (m : List UInt8) (hf : U + m.length ≤ R) (hK : K < 64) :
    ∃ D', appM D (nameL k) m = (0, D') ∧ FullAt R (k + 1) (U + m.length) (K + 1) D' := by
  have hn := fullAt_none h hk
  obtain ⟨h1, h2, h3, h4, h5, h6, h7, h8, h9⟩ := h
  have hg : goesM D = true := by unfold goesM; rw [h2]; rfl
  have hfm : fullM D (nameL k) m.length = false := by
    unfold fullM
    rw [hn, h5, h6, h1]
    have : ¬ 64 ≤ K := by omega
    simp [this, hf]
  have hadd : addM D.fs (nameL k) m = insM ⟨nameL k, m, 0⟩ D.fs := by
    unfold addM
    rw [hn]
    show insM ⟨nameL k, m, 0⟩ (dropM (nameL k) D.fs) = _
    rw [dropM_none (findM_none hn)]
  refine ⟨withM (tickM D) (addM D.fs (nameL k) m), ?_, h1, h2, by show D.ops + 1 = _; omega, by show (if D.cut then _ else _) = 0; rw [h2]; simpa using h4, ?_, ?_, by omega, by omega, fun f hf => ?_⟩
  · unfold appM
    rw [hg, if_neg (by decide), show nameB (nameL k) = true from rfl, if_neg (by decide), hfm, if_neg (by decide)]
  · show (addM D.fs (nameL k) m).length = _
    rw [hadd, insM_len, h5]
  · show sizeM (addM D.fs (nameL k) m) = _
    rw [hadd, insM_size, h6]
    show m.length + U = _
    omega
  · have hf2 : f ∈ insM ⟨nameL k, m, 0⟩ D.fs := by rw [← hadd]; exact hf
    rcases insM_mem.1 hf2 with rfl | hf2
    · exact ⟨k, by omega, rfl⟩
    · obtain ⟨j, hj, hjn⟩ := h9 f hf2
      exact ⟨j, by omega, hjn⟩

theorem fullAt_new {R : Nat} : FullAt R 0 0 0 (newM R) := ⟨rfl, rfl, rfl, rfl, rfl, rfl, Nat.zero_le _, Nat.le_refl _, fun f hf => by simp [newM] at hf⟩

theorem name_two (k : Nat) : ((⟨#[102]⟩ : ByteArray) ++ strOfNums [((97 + k % 26 : Nat) : Int), ((97 + k / 26 : Nat) : Int)]).data.toList = nameL k := by
  unfold strOfNums nameL
  simp
  refine ⟨?_, ?_⟩
  · rw [show ((97 : Int) + (k : Int) % 26).toNat = 97 + k % 26 by omega, UInt8.ofNat_add]
    rfl
  · rw [show ((97 : Int) + (k : Int) / 26).toNat = 97 + k / 26 by omega, UInt8.ofNat_add]
    rfl

theorem partsZ_imp {w : World} {Z Z' : Nat → Prop} {v : Value} {ls : List (List UInt8)} (h : PartsZ w Z v ls) (hZ : ∀ k, Z k → Z' k) : PartsZ w Z' v ls := by
  have hbz : ∀ u l, ByteZ w Z u l → ByteZ w Z' u l := fun u l h => h.imp id (fun ⟨ad, c, h1, h2, h3⟩ => ⟨ad, c, h1, h2, h3.imp id (fun ⟨b, o, q1, q2, q3⟩ => ⟨b, o, q1, hZ b q2, q3⟩)⟩)
  rcases h with h | ⟨A, C, h1, h2⟩
  · exact .inl h
  · exact .inr ⟨A, C, h1, h2.imp id (fun ⟨b, o, q1, q2, q3⟩ => ⟨b, o, q1, hZ b q2, fun j l hj => by obtain ⟨u, hu, hb⟩ := q3 j l hj; exact ⟨u, hu, hbz u l hb⟩⟩)⟩

theorem byteZ_lt {w : World} {Z : Nat → Prop} {u : Value} {l : List UInt8} (h : ByteZ w Z u l) : ByteZ w (fun q => Z q ∧ q < w.heap.size) u l := by
  rcases h with h | ⟨ad, c, h1, h2, h3⟩
  · exact .inl h
  · refine .inr ⟨ad, c, h1, h2, ?_⟩
    rcases h3 with h | ⟨b, o, q1, q2, q3⟩
    · exact .inl h
    · cases l with
      | nil => exact .inl rfl
      | cons y t => exact .inr ⟨b, o, q1, ⟨q2, block_of_cell (q3 0 y rfl)⟩, q3⟩

theorem partsZ_lt {w : World} {Z : Nat → Prop} {v : Value} {ls : List (List UInt8)} (h : PartsZ w Z v ls) : PartsZ w (fun q => Z q ∧ q < w.heap.size) v ls := by
  rcases h with h | ⟨A, C, h1, h2⟩
  · exact .inl h
  · refine .inr ⟨A, C, h1, ?_⟩
    rcases h2 with h | ⟨b, o, q1, q2, q3⟩
    · exact .inl h
    · cases ls with
      | nil => exact .inl rfl
      | cons y t =>
        refine .inr ⟨b, o, q1, ⟨q2, ?_⟩, fun j l hj => ?_⟩
        · obtain ⟨u, hu, _⟩ := q3 0 y rfl
          exact block_of_cell hu
        · obtain ⟨u, hu, hb⟩ := q3 j l hj
          exact ⟨u, hu, byteZ_lt hb⟩

theorem byteZ_of_own {w : World} {base B g n : Nat} {l : List UInt8} (h : w.ownsRow B 5 1 (.slice (some ⟨g, 0, none⟩) n n) n (l.map byteV)) (hb : base ≤ B) : ByteZ w (fun q => base ≤ q) (.slice (some ⟨g, 0, none⟩) n n) l := by
  have hl : n = l.length := by have := h.1; simpa using this.symm
  have hg := (own_cap h).1
  exact .inr ⟨_, n, by rw [← hl], by omega, .inr ⟨g, 0, rfl, Nat.le_trans hb hg, byAt_own h⟩⟩

theorem byteZ_more {w : World} {Z : Nat → Prop} {u : Value} {l : List UInt8} (h : ByteZ w Z u l) (o : Obj) : ByteZ (w.alloc o) Z u l := by
  rcases h with h | ⟨ad, c, h1, h2, h3⟩
  · exact .inl h
  · refine .inr ⟨ad, c, h1, h2, h3.imp id (fun ⟨b, o2, q1, q2, q3⟩ => ⟨b, o2, q1, q2, fun j x hj => ?_⟩)⟩
    exact ((below_more (Below.refl _ w) o).cell (p := ⟨b, o2 + j, none⟩) (block_of_cell (q3 j x hj))).trans (q3 j x hj)

theorem parts_sl1 (w : World) (Z : Nat → Prop) (v : Value) (l : List UInt8) (o : Obj) (e : TypeId) (f : Nat × Nat) (b : Nat) (hv : ByteZ w Z v l) (hb : b = w.heap.size + 1) (hZ : Z b) : PartsZ ((w.alloc o).alloc (.cells #[v] e f)) Z (.slice (some ⟨b, 0, none⟩) 1 1) [l] :=
  parts_sl (w.alloc o) Z v l e f b (byteZ_more hv o) (by rw [hb]; simp) hZ

theorem parts_sl2 (w : World) (Z : Nat → Prop) (v : Value) (l : List UInt8) (o : Obj) (e : TypeId) (f : Nat × Nat) (b : Nat) (hv : ByteZ w Z v l) (hb : b = w.heap.size) (hZ : Z b) : PartsZ ((w.alloc (.cells #[v] e f)).alloc o) Z (.slice (some ⟨b, 0, none⟩) 1 1) [l] := by
  have h := parts_sl w Z v l e f b hv hb hZ
  rcases h with h | ⟨A, C, h1, h2⟩
  · exact .inl h
  · exact .inr ⟨A, C, h1, h2.imp id (fun ⟨b, o2, q1, q2, q3⟩ => ⟨b, o2, q1, q2, fun j l hj => by
      obtain ⟨u, hu, hb⟩ := q3 j l hj
      exact ⟨u, ((below_more (Below.refl _ (w.alloc (.cells #[v] e f))) o).cell (p := ⟨b, o2 + j, none⟩) (block_of_cell hu)).trans hu, byteZ_more hb o⟩⟩)⟩

theorem conv_two (XA XB : Int) (W W' : World) (hb : Below (W.alloc (.cells #[.int .u8 XA, .int .u8 XB] 5)).heap.size (W.alloc (.cells #[.int .u8 XA, .int .u8 XB] 5)) W') :
    (convert 39 9 (.slice (some ⟨W.heap.size, 0, none⟩) 2 2)).run Try.prog W' = .ok (.string (strOfNums [XA, XB])) W' := by
  refine run_convert_bytes_arg (P := Try.prog) (w := W') 39 5 Try.underlying39 Try.underlying5 W.heap.size 0 2 2 [XA, XB] rfl (fun i hi => ?_) 9 Try.underlying9
  have h0 : (W.alloc (.cells #[.int .u8 XA, .int .u8 XB] 5)).cell? ⟨W.heap.size, 0 + i, none⟩ = some (.int .u8 ([XA, XB].getD i 0)) := by
    rw [cell_of_row _ _ _ _ 5 (0, 0) (heap_alloc_new W _)]
    match i, hi with
    | 0, _ => rfl
    | 1, _ => rfl
  exact (hb.cell (p := ⟨W.heap.size, 0 + i, none⟩) (block_of_cell h0)).trans h0

set_option maxRecDepth 100000 in
set_option maxHeartbeats 4000000 in
theorem diskFull_any (x : Int) (_hx : -9223372036854775808 ≤ x ∧ x ≤ 9223372036854775807) (v : Value) (ps : List Int) (w : World) (hp : PickAt w v ps) (hri : RangeI ps) :
    Calls Try.prog 5 #[.int .i64 x, v] w fun e w' => e = .returned (.bool true) ∧ Below w.heap.size w w' := by
  have HRI := Lib.hid hri
  obtain ⟨pa, pc, rfl, _, hpl⟩ := hp
  have HPL := Lib.hid hpl
  clear _hx hri hpl
  obtain ⟨n, hnp⟩ : ∃ n, n = ps.length := ⟨_, rfl⟩
  rw [← hnp]
  have HNP := Lib.hid hnp
  clear hnp
  by_cases hc : x < 0 ∨ 3000 < x ∨ 90 < (n : Int)
  · have hw := dawake_any w
    have HW := Lib.hid hw
    clear hw
    go_enter Try.func5, Try.ntmps5
    by_cases h1 : x < 0
    · go_wp2_with fail
      refine (HW.out).mono ?_
      rintro e w' ⟨rfl, hb⟩
      go_wp2_with fail
      go_ret
      exact ⟨rfl, hb⟩
    by_cases h2 : 3000 < x
    · go_wp2_with fail
      refine (HW.out).mono ?_
      rintro e w' ⟨rfl, hb⟩
      go_wp2_with fail
      go_ret
      exact ⟨rfl, hb⟩
    have h5 : 90 < (n : Int) := by omega
    clear hc
    go_wp2_with fail
    refine (HW.out).mono ?_
    rintro e w' ⟨rfl, hb⟩
    go_wp2_with fail
    go_ret
    exact ⟨rfl, hb⟩
  · obtain ⟨R, rfl⟩ : ∃ a : Nat, x = (a : Int) := ⟨x.toNat, by omega⟩
    have h2 : ¬ 3000 < (R : Int) := by omega
    have h5 : ¬ 90 < (n : Int) := by omega
    have HRB : Hid (R ≤ 3000 ∧ n ≤ 90) := Lib.hid (by omega)
    clear hc
    go_enter Try.func5, Try.ntmps5
    go_wp2_with fail
    refine (dnew_any (R : Int) w (by omega) (by omega)).mono ?_
    rintro e w1 h1
    rcases h1 with ⟨h1, _⟩ | ⟨hj1, hj2, rfl, hw1⟩
    · exact absurd ⟨by omega, by omega⟩ h1
    clear hj1 hj2
    obtain ⟨g, hg⟩ : ∃ g, g = w.heap.size := ⟨_, rfl⟩
    have hd1 := dIn_new0 hw1
    rw [← hg] at hd1 ⊢
    have HD1 := Lib.hid hd1
    clear hw1 hg hd1 h2 h5
    go_wp2_with fail
    go_loopw [7, 8, 9] (fun u f i wr => ∃ (k U K : Nat) (D : CodM), k ≤ n ∧ i = .int .i64 k ∧ u = .int .i64 U ∧ f = .int .i64 K ∧ Hid (DIn w wr (fun _ => False) g D) ∧ Hid (FullAt R k U K D)) (fun _ _ i _ => n - (intOf i).toNat)
    case atStart => exact ⟨0, 0, 0, _, Nat.zero_le _, rfl, rfl, rfl, HD1, Lib.hid fullAt_new⟩
    case round =>
      clear HD1
      obtain ⟨k, U, K, D, hk, rfl, rfl, rfl, HD, HF⟩ := hrel
      obtain ⟨w2, hw2⟩ : ∃ w3 : World, w3 = wr := ⟨_, rfl⟩
      subst hw2
      by_cases hlt : k < n
      · obtain ⟨p, hpk⟩ : ∃ p, ps[k]? = some p := ⟨_, List.getElem?_eq_getElem (by rw [← HNP.out]; exact hlt)⟩
        obtain ⟨pb, po, rfl, hcl⟩ := HPL.out.resolve_left (by intro e; rw [e] at hpk; simp at hpk)
        have hcell : w2.cell? ⟨pb, po + k, none⟩ = some (.int .i64 p) := ((dIn_below HD.out).cell (p := ⟨pb, po + k, none⟩) (block_of_cell (hcl k p hpk))).trans (hcl k p hpk)
        have hpr := HRI.out.1 p (List.mem_of_getElem? hpk)
        have hro := round_any p 100 w2 hpr (by omega)
        rw [show ((100 : Nat) : Int) = 100 from rfl] at hro
        have HRO := Lib.hid hro
        have hy : (k : Int) < (n : Int) := by omega
        have HKL := Lib.hid hlt
        clear hpk hcl hpr hro hk hlt
        go_wp2_with fail
        refine (HRO.out).mono ?_
        rintro e w3 ⟨⟨r, hr, rfl⟩, rfl⟩
        have hk90 : k < 90 := by have := HKL.out; have := HRB.out; omega
        have HKB := Lib.hid hk90
        have HRL := Lib.hid hr
        have hby := fun W => dbytes_any (r : Int) r k W (by omega) (by omega) (by omega)
        have HBY := Lib.hid hby
        clear hby hcell HRO hy hr
        go_wp2_with fail
        obtain ⟨AI, hmod⟩ : ∃ AI : Int, (k : Int).tmod 26 = AI := ⟨_, rfl⟩
        obtain ⟨BI, hdiv⟩ : ∃ BI : Int, (k : Int).tdiv 26 = BI := ⟨_, rfl⟩
        have hAI : AI = ((k % 26 : Nat) : Int) := by rw [← hmod, Int.tmod_eq_emod_of_nonneg (by omega)]; omega
        have hBI : BI = ((k / 26 : Nat) : Int) := by rw [← hdiv, Int.tdiv_eq_ediv_of_nonneg (by omega)]; omega
        obtain ⟨XA, hXA⟩ : ∃ XA : Int, (97 : Int) + AI = XA := ⟨_, rfl⟩
        obtain ⟨XB, hXB⟩ : ∃ XB : Int, (97 : Int) + BI = XB := ⟨_, rfl⟩
        have hXAb : 0 ≤ XA ∧ XA < 256 := by omega
        have hXBb : 0 ≤ XB ∧ XB < 256 := by omega
        have hw6a : wrap64 XA = XA := by unfold wrap64; omega
        have hw6b : wrap64 XB = XB := by unfold wrap64; omega
        have hwia : IntKind.i64.wrap XA = XA := by rw [IntKind.wrap_i64]; omega
        have hwai : IntKind.i64.wrap AI = AI := by rw [IntKind.wrap_i64]; omega
        have hwbi : IntKind.i64.wrap BI = BI := by rw [IntKind.wrap_i64]; omega
        have hwib : IntKind.i64.wrap XB = XB := by rw [IntKind.wrap_i64]; omega
        have HXV : Hid (XA = ((97 + k % 26 : Nat) : Int) ∧ XB = ((97 + k / 26 : Nat) : Int)) := Lib.hid (by omega)
        have hwa : IntKind.u8.wrap XA = XA := by rw [IntKind.wrap_u8]; omega
        have hwb : IntKind.u8.wrap XB = XB := by rw [IntKind.wrap_u8]; omega
        have hma : XA % 256 = XA := by omega
        have hmb : XB % 256 = XB := by omega
        clear hAI hBI hXAb hXBb hk90
        have hcv := conv_two XA XB
        obtain ⟨sv, hsv⟩ : ∃ sv, sv = strOfNums [XA, XB] := ⟨_, rfl⟩
        rw [← hsv] at hcv
        have hsz : sv.size = 2 := by rw [hsv]; rfl
        obtain ⟨nm, hnm⟩ : ∃ nm : ByteArray, nm = (⟨#[102]⟩ : ByteArray) ++ sv := ⟨_, rfl⟩
        have hcat : ∀ W, (Op.stringOp .add ({ data := #[102] } : ByteArray) sv).run Try.prog W = .ok (.string nm) W := fun W => by
          rw [hnm]
          exact run_string_add_sum (P := Try.prog) (w := W) _ _ (by rw [hsz]; decide)
        have HSV := Lib.hid hsv
        have HNM := Lib.hid hnm
        clear hnm
        have HCV := Lib.hid hcv
        obtain ⟨L, hL⟩ : ∃ L : Obj, L = .cells #[.int .u8 XA, .int .u8 XB] 5 := ⟨_, rfl⟩
        have S1 : ∀ W : World, (convert 39 9 (.slice (some ⟨W.heap.size, 0, none⟩) 2 2)).run Try.prog (W.alloc (.cells #[.int .u8 XA, .int .u8 XB] 5)) = .ok (.string sv) (W.alloc (.cells #[.int .u8 XA, .int .u8 XB] 5)) := fun W => HCV.out W _ (Below.refl _ _)
        have S1d : ∀ W : World, (convert 39 9 (.slice (some ⟨W.heap.size, 0, none⟩) 2 2)).run Try.prog (W.alloc (.cells #[.int .u8 XA, .int .u8 XB] 5)).drew = .ok (.string sv) (W.alloc (.cells #[.int .u8 XA, .int .u8 XB] 5)).drew := fun W => HCV.out W _ (below_draws (w' := (W.alloc (.cells #[.int .u8 XA, .int .u8 XB] 5)).drewN 1) (Below.refl _ _) ⟨1, rfl⟩)
        have S2 : ∀ (W : World) (o : Obj), (convert 39 9 (.slice (some ⟨W.heap.size, 0, none⟩) 2 2)).run Try.prog ((W.alloc (.cells #[.int .u8 XA, .int .u8 XB] 5)).alloc o) = .ok (.string sv) ((W.alloc (.cells #[.int .u8 XA, .int .u8 XB] 5)).alloc o) := fun W o => HCV.out W _ (below_more (Below.refl _ _) o)
        have S5 : ∀ (W : World) (o : Obj), (convert 39 9 (.slice (some ⟨W.heap.size + 1, 0, none⟩) 2 2)).run Try.prog ((W.alloc o).alloc (.cells #[.int .u8 XA, .int .u8 XB] 5)) = .ok (.string sv) ((W.alloc o).alloc (.cells #[.int .u8 XA, .int .u8 XB] 5)) := fun W o => by
          have h := HCV.out (W.alloc o) _ (Below.refl _ _)
          rw [show (W.alloc o).heap.size = W.heap.size + 1 by simp] at h
          exact h
        have hnml : nm.data.toList = nameL k := by
          rw [HNM.out, HSV.out, HXV.out.1, HXV.out.2]
          exact name_two k
        obtain ⟨en, U', K', D', hap, hfa, hen⟩ : ∃ (en : Int) (U' K' : Nat) (D' : CodM), appM D (nameL k) (byteL k r) = (en, D') ∧ FullAt R (k + 1) U' K' D' ∧ ((en = 3 ∧ U' = U ∧ K' = K ∧ (R < U + r ∨ 64 ≤ K)) ∨ (en = 0 ∧ U' = U + r ∧ K' = K + 1 ∧ ¬ (R < U + r ∨ 64 ≤ K))) := by
          by_cases hful : R < U + r ∨ 64 ≤ K
          · obtain ⟨h1, h2⟩ := fullAt_full HF.out HKB.out (byteL k r) (by rw [byteL_len]; exact hful)
            exact ⟨3, U, K, _, h1, h2, .inl ⟨rfl, rfl, rfl, hful⟩⟩
          · obtain ⟨D', h1, h2⟩ := fullAt_fits HF.out HKB.out (byteL k r) (by rw [byteL_len]; omega) (by omega)
            rw [byteL_len] at h2
            exact ⟨0, _, _, D', h1, h2, .inr ⟨rfl, rfl, rfl, hful⟩⟩
        have HFA := Lib.hid hfa
        have HEN := Lib.hid hen
        have HAP : Hid (∀ (W : World) (v : Value), Below w2.heap.size w2 W → PartsZ W (fun q => w2.heap.size ≤ q) v [byteL k r] → Calls Try.prog 15 #[.pointer (some ⟨g, 0, none⟩), .string nm, v] W fun e w' => e = .returned (.int .i64 en) ∧ DIn w w' (fun _ => False) g D') := Lib.hid (fun W v hb hpz => by
          refine (zapp_any (dIn_new HD.out hb) nm [byteL k r] v (fullAt_ok HF.out HRB.out.1 (by have := HKB.out; omega)) (partsZ_imp (partsZ_lt hpz) (fun q hq => .inr (.inr hq))) (by rw [flat_one, byteL_len]; have := HRL.out; omega) (by simp)).mono ?_
          rintro e w' ⟨rfl, hd, _⟩
          rw [flat_one, hnml, hap] at hd
          rw [flat_one, hnml, hap]
          exact ⟨rfl, dIn_less hd (fun _ h => h.elim)⟩)
        have HW0 : Hid (Below w2.heap.size w2 w2.drew) := Lib.hid (below_draws (w' := w2.drewN 1) (Below.refl _ _) ⟨1, rfl⟩)
        have HW1 : Hid (Below w2.heap.size w2 (w2.alloc (.cells #[.int .u8 XA, .int .u8 XB] 5)).drew) := Lib.hid (below_draws (w' := (w2.alloc (.cells #[.int .u8 XA, .int .u8 XB] 5)).drewN 1) (below_more (Below.refl _ _) _) ⟨1, rfl⟩)
        have HL1 : Hid (Below (w2.alloc (.cells #[.int .u8 XA, .int .u8 XB] 5)).heap.size (w2.alloc (.cells #[.int .u8 XA, .int .u8 XB] 5)) (w2.alloc (.cells #[.int .u8 XA, .int .u8 XB] 5)).drew) := Lib.hid (below_draws (w' := (w2.alloc (.cells #[.int .u8 XA, .int .u8 XB] 5)).drewN 1) (Below.refl _ _) ⟨1, rfl⟩)
        clear hcv hsv hL hfa hen hap hnml
        go_region_with (first
          | (go_at_call 14; refine (HBY.out _).mono ?_; rintro e wb ⟨gb, rfl, hob, hbb⟩; have hwb : Below w2.heap.size w2 wb := (by first | exact below_then HW1.out hbb | exact below_then HW0.out hbb); have hbz := byteZ_of_own (base := w2.heap.size) hob (by first | exact HW1.out.size | exact HW0.out.size); try (have S3 := HCV.out w2 wb (below_then HL1.out hbb)); try (have S4 := fun o => HCV.out w2 (wb.alloc o) (below_more (below_then HL1.out hbb) o)))
          | (go_at_call 15; (first
              | with_reducible refine (HAP.out _ _ (below_more hwb _) (parts_sl wb _ _ _ _ _ _ hbz rfl hwb.size)).mono ?_
              | with_reducible refine (HAP.out _ _ (below_more (below_more hwb _) _) (parts_sl1 wb _ _ _ _ _ _ _ hbz rfl (Nat.le_succ_of_le hwb.size))).mono ?_
              | with_reducible refine (HAP.out _ _ (below_more (below_more hwb _) _) (parts_sl2 wb _ _ _ _ _ _ _ hbz rfl hwb.size)).mono ?_); rintro e w7 ⟨rfl, hd7⟩))
        all_goals
          have HD7 := Lib.hid hd7
          have hUR : U ≤ R := HF.out.2.2.2.2.2.2.1
          have hKk : K ≤ k := HF.out.2.2.2.2.2.2.2.1
          have hUb : (U : Int) ≤ 3000 := by have := HRB.out; omega
          have hrb : (r : Int) < 100 := by have := HRL.out; omega
          have hKb : (K : Int) ≤ 90 := by have := HKB.out; omega
          have hkb : (k : Int) < 90 := by have := HKB.out; omega
          obtain ⟨RU, hRU⟩ : ∃ RU : Int, (R : Int) - (U : Int) = RU := ⟨_, rfl⟩
          have hwru : wrap64 RU = RU := by have := HRB.out; unfold wrap64; omega
          try clear hd7
          try clear hob
          try clear hbb
          try clear hbz
          try clear hwb
          try clear S1
          try clear S1d
          try clear S2
          try clear S5
          try clear S3
          try clear S4
          try clear hcat
          try clear hsz
          try clear hwa
          try clear hma
          try clear hmb
          try clear hw6a
          try clear hw6b
          try clear hwia
          try clear hwib
          try clear hwai
          try clear hwbi
          try clear hmod
          try clear hdiv
          try clear hXA
          try clear hXB
          try clear hUR
          try clear hKk
          rcases HEN.out with ⟨rfl, rfl, rfl, hful⟩ | ⟨rfl, rfl, rfl, hful⟩
          · by_cases hgt : RU < (r : Int)
            · clear hful
              go_wp2_with fail
              go_roundw
              case rel => exact ⟨k + 1, _, _, D', by have := HKL.out; omega, by go_num, rfl, rfl, HD7, HFA⟩
              case measure => have := HKL.out; simp [intOf]; omega
            · have h64 : (64 : Int) ≤ (K' : Int) := by omega
              clear hful
              go_wp2_with fail
              go_roundw
              case rel => exact ⟨k + 1, _, _, D', by have := HKL.out; omega, by go_num, rfl, rfl, HD7, HFA⟩
              case measure => have := HKL.out; simp [intOf]; omega
          · have hgt : ¬ RU < (r : Int) := by omega
            have h64 : ¬ (64 : Int) ≤ (K : Int) := by omega
            clear hful
            go_wp2_with fail
            go_roundw
            case rel => exact ⟨k + 1, _, _, D', by have := HKL.out; omega, by go_num, by go_num, by go_num, HD7, HFA⟩
            case measure => have := HKL.out; simp [intOf]; omega
      · have HFK : Hid (D.fs.length = K) := Lib.hid HF.out.2.2.2.2.1
        have hnm := znames_any HD.out (by have := (fullAt_ok HF.out HRB.out.1 (by have := HRB.out; omega)).2.2.2.2; exact this)
        have HNM := Lib.hid hnm
        have HB := Lib.hid (dIn_below HD.out)
        have hy : ¬ (k : Int) < (n : Int) := by omega
        clear hnm hk hlt
        go_wp2_with fail
        refine (HNM.out).mono ?_
        rintro e w3 ⟨⟨v3, rfl, ho3⟩, hb3⟩
        rw [HFK.out] at ho3
        obtain ⟨a3, q3, rfl⟩ := own_len ho3
        have HB3 := Lib.hid (below_then HB.out hb3)
        clear ho3 hb3
        go_wp2_with fail
        refine (dawake_any _).mono ?_
        rintro e w4 ⟨rfl, hb4⟩
        go_wp2_with fail
        go_ret
        exact ⟨rfl, below_then HB3.out hb4⟩

theorem diskFull_own : ownKnob Try.prog.godebug = none := by kernel_rfl

set_option maxRecDepth 100000 in
theorem diskFull_lifted (os : Os) (started : os.Started) (H : Type) (enc : TypeId × Value → H) :
    ReturnsInHanded {} Try.checked os 5 .any (Rows.diskFullSpec.pre6 enc Try.prog Try.f5 Rows.diskFullRow.domain false) (Rows.diskFullSpec.post enc Try.prog Try.f5 false true false false) := by
  refine law_lifted (C := Try.checked) diskFull_own started (by kernel_rfl) Try.func5
    (ChangeSpec.witness6 (enc := enc) (C := Try.checked) false ⟨#[], #[.int .i64 0, .slice none 0 0], []⟩ 8 (by kernel_rfl) (by kernel_rfl) (by kernel_rfl) (by kernel_rfl))
    (by kernel_rfl) (of_decide_eq_true (by kernel_rfl)) (tb := 4) (by kernel_rfl) Try.underlying4 rfl (fun ds h => by match ds, h with | [d0, d1], _ => exact ⟨rfl, rfl, rfl⟩) ?_
  intro W base args ds p hval0 hA0 hlt hsz0
  have hval : ∀ (j : Nat) t v, Try.f5.params[j]? = some t → args[j]? = some v → Value.okWide Try.prog W .any base t v := hval0
  have hA : DataW.TrodAll enc Try.prog W 0 (fun _ => true) true Try.f5.params.toList args.toList ds p := hA0
  have hsz : (DataW.weightsEach Try.prog Try.f5.params.toList ds).all (· ≤ reachBytes) = true := hsz0
  rw [Try.params5] at hA hval hsz
  obtain ⟨v0, vs0, d0, ds0, p0, q0, hargs, rfl, rfl, h0, r0⟩ := trodAll_cons hA
  obtain ⟨v1, vs1, d1, ds1, p1, q1, rfl, rfl, rfl, h1, r1⟩ := trodAll_cons r0
  obtain ⟨rfl, rfl, rfl⟩ := trodAll_nil r1
  obtain rfl : args = #[v0, v1] := by cases args; simp_all
  have s1 := sized_at hsz (j := 1) (t := 34) (d := d1) rfl rfl
  obtain ⟨a0, rfl, rfl, rfl, w0⟩ := open_int Try.underlying3 (hval 0 3 v0 rfl rfl) h0
  obtain ⟨a1, g1, z1⟩ := open_picks Try.underlying34 Try.underlying3 (by kernel_rfl) (by kernel_rfl) (hval 1 34 v1 rfl rfl) h1 s1
  exact diskFull_any (w := W) a0 (bounds_i64 w0) v1 a1 g1 z1

theorem diskFull_over : Rows.diskFullRow.holds Try.pinned (OpenSpec.ofChange Rows.diskFullSpec) :=
  OpenClaim.holds_of_wide 5 Try.f5 rfl rfl rfl rfl rfl rfl rfl ⟨rfl, rfl, rfl, rfl, rfl⟩ rfl rfl rfl rfl rfl (by kernel_rfl) Try.func5 (by kernel_rfl)
    (of_decide_eq_true (by kernel_rfl)) (by unfold Func.isWrapper; first | (rw [if_pos (by decide +kernel)]; kernel_rfl) | (rw [if_neg (by decide +kernel)]; exact ⟨rfl, rfl⟩))
    (fun os started H enc _ => diskFull_lifted os started H enc)

theorem diskFull_proved : Rows.DiskFullSaid := diskFull_over
#print axioms diskFull_proved

end Go.Proofs.Ytifkebjfedpaoaa
