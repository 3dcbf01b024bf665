/- csp: many directives in plain words; Round's number. -/
import Derived.Test.YtceajdpjablfiaaShelf
import Derived.BigRegion
import Derived.BigQuiet
import Derived.Test.YtceajdpjablfiaaProg
import Derived.Test.YtceajdpjablfiaaKit
import Derived.Test.YtceajdpjablfiaaAsc4
import Derived.Test.YtceajdpjablfiaaHdr10
import Derived.Test.YtceajdpjablfiaaCsp0
import Derived.Test.YtceajdpjablfiaaCsp8
namespace Go.Proofs.Ytceajdpjablfiaa
open Go.RowKit Go.Proofs

def nmL (i : Nat) : List UInt8 := [100, UInt8.ofNat (97 + i)]

def srcsL (r : Nat) : List (List UInt8) := (List.range r).map (fun k => [120, UInt8.ofNat (48 + k)])

def tailL (r : Nat) : List UInt8 := (List.range r).flatMap (fun k => [9, 120, UInt8.ofNat (48 + k)])

def itL (i r : Nat) : List UInt8 := 32 :: (nmL i ++ tailL r ++ [32])

def manyS : List Nat → Nat → List UInt8
  | [], _ => []
  | r :: t, i => itL i r ++ 59 :: manyS t (i + 1)

def manyD : List Nat → Nat → List DirM
  | [], _ => []
  | r :: t, i => ⟨nmL i, srcsL r⟩ :: manyD t (i + 1)

def manyP : List Nat → Nat → List (List UInt8)
  | [], _ => []
  | r :: t, i => itL i r :: manyP t (i + 1)

def itB (i r : Nat) : Bool := (match dirO (itL i r) with | some d => decide (d.cdn = nmL i) && decide (d.cdl = srcsL r) | none => false) && !((itL i r).contains 59)

theorem itB_all : ∀ i : Nat, i < 20 → ∀ r : Nat, r < 5 → itB i r = true := by decide +kernel

theorem it_dir {i r : Nat} (hi : i < 20) (hr : r < 5) : dirO (itL i r) = some ⟨nmL i, srcsL r⟩ ∧ (59 : UInt8) ∉ itL i r := by
  have h := itB_all i hi r hr
  unfold itB at h
  rw [Bool.and_eq_true] at h
  obtain ⟨h1, h2⟩ := h
  constructor
  · cases hd : dirO (itL i r) with
    | none => rw [hd] at h1; cases h1
    | some d =>
      rw [hd] at h1
      simp only [Bool.and_eq_true, decide_eq_true_eq] at h1
      obtain ⟨h3, h4⟩ := h1
      obtain ⟨a, b⟩ := d
      dsimp only at h3 h4
      rw [h3, h4]
  · intro hm
    rw [Bool.not_eq_true', ← Bool.not_eq_true, List.contains_iff_mem] at h2
    exact h2 hm

theorem many_split : ∀ (ns : List Nat) (i : Nat), i + ns.length ≤ 20 → (∀ r ∈ ns, r < 5) → splitGo 59 [] (manyS ns i) = manyP ns i ++ [[]]
  | [], i, _, _ => rfl
  | r :: t, i, hi, hr => by
    rw [List.length_cons] at hi
    have h1 := (it_dir (i := i) (r := r) (by omega) (hr r (List.mem_cons_self ..))).2
    unfold manyS manyP
    rw [splitGo_pre 59 (itL i r) [] _ h1, List.nil_append, many_split t (i + 1) (by omega) (fun x hx => hr x (List.mem_cons_of_mem _ hx)), List.cons_append]

theorem many_dirs : ∀ (ns : List Nat) (i : Nat), i + ns.length ≤ 20 → (∀ r ∈ ns, r < 5) → (manyP ns i).map dirO = (manyD ns i).map some
  | [], i, _, _ => rfl
  | r :: t, i, hi, hr => by
    rw [List.length_cons] at hi
    have h1 := (it_dir (i := i) (r := r) (by omega) (hr r (List.mem_cons_self ..))).1
    unfold manyP manyD
    rw [List.map_cons, List.map_cons, h1, many_dirs t (i + 1) (by omega) (fun x hx => hr x (List.mem_cons_of_mem _ hx))]

theorem nm_inj {i j : Nat} (hi : i < 20) (hj : j < 20) (h : nmL i = nmL j) : i = j := by
  unfold nmL at h
  injection h with _ h
  injection h with h _
  have h2 := congrArg UInt8.toNat h
  rw [UInt8.toNat_ofNat', UInt8.toNat_ofNat'] at h2
  omega

theorem many_names : ∀ (ns : List Nat) (i : Nat) (d : DirM), d ∈ manyD ns i → ∃ m, i ≤ m ∧ m < i + ns.length ∧ d.cdn = nmL m
  | [], i, d, h => by cases h
  | r :: t, i, d, h => by
    unfold manyD at h
    rw [List.length_cons]
    rcases List.mem_cons.1 h with rfl | h
    · exact ⟨i, by omega, by omega, rfl⟩
    · obtain ⟨m, h1, h2, h3⟩ := many_names t (i + 1) d h
      exact ⟨m, by omega, by omega, h3⟩

theorem many_apart : ∀ (ns : List Nat) (i : Nat), i + ns.length ≤ 20 → apartD (manyD ns i)
  | [], i, _ => List.Pairwise.nil
  | r :: t, i, hi => by
    rw [List.length_cons] at hi
    unfold manyD apartD
    refine List.pairwise_cons.2 ⟨fun d hd => ?_, many_apart t (i + 1) (by omega)⟩
    obtain ⟨m, h1, h2, h3⟩ := many_names t (i + 1) d hd
    rw [h3]
    intro e
    have := nm_inj (by omega) (by omega) e
    omega

theorem many_csp (ns : List Nat) (hn : ns.length ≤ 20) (hr : ∀ r ∈ ns, r < 5) : cspL (manyS ns 0) = manyD ns 0 := by
  unfold cspL splitL cspP
  rw [many_split ns 0 (by omega) hr, List.foldl_append, cfold_all _ _ [] (many_dirs ns 0 (by omega) hr) (by rw [List.nil_append]; exact many_apart ns 0 (by omega))]
  rfl

theorem many_len : ∀ (ns : List Nat) (i : Nat), (manyD ns i).length = ns.length
  | [], _ => rfl
  | r :: t, i => by unfold manyD; rw [List.length_cons, List.length_cons, many_len t (i + 1)]

theorem many_at : ∀ (ns : List Nat) (i k r : Nat), ns[k]? = some r → (manyD ns i)[k]? = some ⟨nmL (i + k), srcsL r⟩
  | [], i, k, r, h => by simp at h
  | q :: t, i, 0, r, h => by
    simp at h
    subst h
    rfl
  | q :: t, i, k + 1, r, h => by
    have ih := many_at t (i + 1) k r (by simpa using h)
    unfold manyD
    rw [List.getElem?_cons_succ, ih]
    congr 3
    omega

theorem manyS_snoc : ∀ (ns : List Nat) (i r : Nat), manyS (ns ++ [r]) i = manyS ns i ++ (itL (i + ns.length) r ++ [59])
  | [], i, r => by simp [manyS]
  | q :: t, i, r => by
    rw [List.cons_append]
    unfold manyS
    rw [manyS_snoc t (i + 1) r, List.length_cons, show i + 1 + t.length = i + (t.length + 1) from by omega]
    simp

theorem tail_len (r : Nat) : (tailL r).length = 3 * r := by
  unfold tailL
  induction r with
  | zero => rfl
  | succ k ih => rw [List.range_succ, List.flatMap_append, List.length_append, ih]; simp; omega

theorem tail_succ (r : Nat) : tailL (r + 1) = tailL r ++ [9, 120, UInt8.ofNat (48 + r)] := by
  unfold tailL
  rw [List.range_succ, List.flatMap_append]
  simp

theorem manyS_len : ∀ (ns : List Nat) (i : Nat), (∀ r ∈ ns, r < 5) → (manyS ns i).length ≤ 17 * ns.length
  | [], i, _ => Nat.zero_le _
  | r :: t, i, h => by
    have h1 := manyS_len t (i + 1) (fun x hx => h x (List.mem_cons_of_mem _ hx))
    have h2 := tail_len r
    have h3 := h r (List.mem_cons_self ..)
    unfold manyS itL nmL
    simp only [List.length_append, List.length_cons, List.length_nil, h2]
    omega

theorem many_tot : ∀ (ns : List Nat) (i : Nat), (∀ r ∈ ns, r < 5) → dirsN (manyD ns i) ≤ 20 * ns.length
  | [], i, _ => Nat.zero_le _
  | r :: t, i, h => by
    have h1 := many_tot t (i + 1) (fun x hx => h x (List.mem_cons_of_mem _ hx))
    have h3 := h r (List.mem_cons_self ..)
    have h4 : llTot (srcsL r) = 3 * r := by
      unfold srcsL
      clear h1 h3 h
      induction r with
      | zero => rfl
      | succ k ih => rw [List.range_succ, List.map_append, llTot_app, ih]; simp [llTot]; omega
    unfold manyD
    simp only [dirsN, dirN, llTot, h4, nmL, List.length_cons, List.length_nil]
    omega

theorem srcs_len (r : Nat) : (srcsL r).length = r := by unfold srcsL; rw [List.length_map, List.length_range]

/-- Found by its name, whatever stands around. -/
theorem many_pick {ns : List Nat} (hn : ns.length ≤ 20) {k : Nat} {d : DirM} (hk : (manyD ns 0)[k]? = some d) (r : List (List UInt8)) : cpickO (manyD ns 0) ([110, 111, 110, 101] :: d.cdn :: r) = some d := by
  have hno : cfindO (manyD ns 0) [110, 111, 110, 101] = none := cfind_none.2 (by
    rw [Bool.eq_false_iff]
    intro e
    obtain ⟨x, hx, hxn⟩ := cmet_mem.1 e
    obtain ⟨m, _, _, h3⟩ := many_names ns 0 x hx
    rw [h3] at hxn
    have := congrArg List.length hxn
    simp [nmL] at this)
  have hap := many_apart ns 0 (by omega)
  have hyes : cfindO (manyD ns 0) d.cdn = some d := cfind_at hk rfl (by
    rw [Bool.eq_false_iff]
    intro e
    obtain ⟨x, hx, hxn⟩ := cmet_mem.1 e
    obtain ⟨j, hj⟩ := List.mem_iff_getElem?.1 hx
    rw [List.getElem?_take] at hj
    split at hj
    · rename_i hjk
      exact apart_at hap hjk hj hk hxn
    · cases hj)
  unfold cpickO
  rw [hno]
  show cpickO _ (d.cdn :: r) = _
  unfold cpickO
  rw [hyes]

/-! Round -/
def rndN (k : Int) (n : Nat) : Nat := if Int.tmod k n < 0 then (Int.tmod k n + n).toNat else (Int.tmod k n).toNat

theorem rnd_lt (k : Int) (n : Nat) (hn : 0 < n) : rndN k n < n := by
  unfold rndN
  have h2 : Int.tmod k n < (n : Int) := Int.tmod_lt_of_pos k (by omega)
  split
  · omega
  · omega

theorem round_is (k : Int) (n : Nat) (w : World) (hk : -9223372036854775808 ≤ k ∧ k ≤ 9223372036854775807) (hn : 0 < n ∧ n < 1099511627776) :
    Calls Try.prog 20 #[.int .i64 k, .int .i64 n] w fun e w' => e = .returned (.int .i64 (rndN k n : Nat)) ∧ w' = w := by
  have hn0 : ¬ (n : Int) = 0 := by omega
  obtain ⟨q, hq⟩ : ∃ q, q = Int.tmod k n := ⟨_, rfl⟩
  have h1 : -(n : Int) < q := by
    rw [hq]
    rcases (by omega : 0 ≤ k ∨ k < 0) with h | h
    · have := Int.tmod_nonneg (n : Int) h
      omega
    · have h3 := Int.tmod_lt_of_pos (-k) (b := (n : Int)) (by omega)
      rw [Int.neg_tmod] at h3
      omega
  have h2 : q < (n : Int) := by rw [hq]; exact Int.tmod_lt_of_pos k (by omega)
  by_cases hneg : q < 0
  · have HR : Hid ((rndN k n : Int) = q + n) := Lib.hid (by unfold rndN; rw [← hq, if_pos hneg]; omega)
    go_enter Try.func20, Try.ntmps20
    go_wp2
    go_ret
    refine ⟨?_, rfl⟩
    rw [HR.out, hq]
    rfl
  · have HR : Hid ((rndN k n : Int) = q) := Lib.hid (by unfold rndN; rw [← hq, if_neg hneg]; omega)
    go_enter Try.func20, Try.ntmps20
    go_wp2
    go_ret
    refine ⟨?_, rfl⟩
    rw [HR.out, hq]
    rfl

end Go.Proofs.Ytceajdpjablfiaa
