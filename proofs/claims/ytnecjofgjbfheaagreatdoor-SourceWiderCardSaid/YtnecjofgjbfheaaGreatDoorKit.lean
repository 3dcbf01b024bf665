/- Lemmas of my own over the library: an append of one element to a slice that the call owns, its world told by Below alone. -/
import Derived.WalkKit
import Derived.WalkSpells
import Derived.Lib.Hide
import Derived.Deep.QuietTactic
import Derived.BigQuiet
import Derived.ShutString
import Derived.Lib.Strings
import Derived.WalkSmall
namespace Go.Proofs.YtnecjofgjbfheaaGreatDoor
open Go.RowKit
set_option maxRecDepth 100000

theorem ret_int {k : IntKind} {a b : Int} (h : a = b) : Ending.returned (.int k a) = .returned (.int k b) := by rw [h]
theorem ret_bool {a b : Bool} (h : a = b) : Ending.returned (.bool a) = .returned (.bool b) := by rw [h]
theorem ret_str {a b : ByteArray} (h : a = b) : Ending.returned (.string a) = .returned (.string b) := by rw [h]

theorem below_own {w w' : World} {base : Nat} {e : TypeId} {size : Nat} {v : Value} {n : Nat} {xs : List Value} (hown : w.ownsRow base e size v n xs)
    (hg : w.grownBy w' v.ownBlock) (hb : base ≤ w.heap.size) : Below base w w' := by
  refine (Below.refl base w).grown hg hb ?_
  intro k hk
  rcases hown.2 with ⟨hv, _⟩ | ⟨g, cap, cur, hv, hbg, _⟩
  · rw [hv] at hk; simp [Value.ownBlock] at hk
  · rw [hv] at hk; simp [Value.ownBlock] at hk; omega

theorem wpList_append1g {P : Program} {W w : World} {x : Value} {ops : Array Oper} {rest : List Oper} {o : Oper} {a : Act} {Q : Exit → Act → World → Prop} (hgd : o.guard = none) (s y : Operand) (t : TypeId)
    (ho : o.op = .call { callee := .builtin .append, args := #[s, y], argTypes := #[t, t] })
    (base : Nat) (e : TypeId) (hW : W = w.alloc (.cells #[x] e)) (i : TypeInfo) (z : Value) (bytes : Nat) (ht : P.underlying t = some (.slice e)) (hi : P.info? e = some i) (hz : i.zero = some z)
    (hsize : i.size = 1) (hby : i.bytes = bytes) (hzs : z.cells.size = 1)
    (v : Value) (n : Nat) (xs : List Value) (hs : a.eval s = v) (hown : w.ownsRow base e 1 v n xs)
    (g : Nat) (hx : a.eval y = .slice (some ⟨g, 0, none⟩) 1 1) (hg0 : g = w.heap.size) (h1 : x.oneCell' = true)
    (hn : n < 1099511627776) (hbytes : bytes ≤ 64) (hbase : base ≤ w.heap.size)
    (h : ∀ v' w', w'.ownsRow base e 1 v' (n + 1) (xs ++ [x]) → Below base w w' → wpList P ops Q rest (a.put o.dst v') w') : wpList P ops Q (o :: rest) a W := by
  subst hW hg0
  refine wpList_append_own _ hgd s y t ho base e i z 1 bytes ht hi hz hsize hby hzs (by decide) v n xs hs (hown.alloc _) ⟨w.heap.size, 0, none⟩ 1 1 [x] hx rfl (cell_one_new _ _ _) ?_ ?_ ?_ ?_ ?_
  · intro u hu
    simp at hu
    rw [hu]; exact h1
  · unfold maxLen; omega
  · have : (n + 1) * bytes ≤ 1099511627776 * 64 := Nat.mul_le_mul (by omega) hbytes
    omega
  · simp; omega
  · intro v' w' hown' hg _
    exact h v' w' hown' (((Below.refl base w).alloc hbase _).trans (below_own (hown.alloc _) hg (by simp; omega)))

theorem wpList_append1 {P : Program} {W w : World} {x : Value} {ops : Array Oper} {rest : List Oper} {o : Oper} {a : Act} {Q : Exit → Act → World → Prop} (hgd : o.guard = none) (s y : Operand) (t : TypeId)
    (ho : o.op = .call { callee := .builtin .append, args := #[s, y], argTypes := #[t, t] })
    (base : Nat) (e : TypeId) (hW : W = w.alloc (.cells #[x] e)) (i : TypeInfo) (z : Value) (bytes : Nat) (ht : P.underlying t = some (.slice e)) (hi : P.info? e = some i) (hz : i.zero = some z)
    (hsize : i.size = 1) (hby : i.bytes = bytes) (hzs : z.cells.size = 1)
    (v : Value) (n : Nat) (xs : List Value) (hs : a.eval s = v) (hown : w.ownsRow base e 1 v n xs)
    (hx : a.eval y = .slice (some ⟨w.heap.size, 0, none⟩) 1 1) (h1 : x.oneCell' = true)
    (hn : n < 1099511627776) (hbytes : bytes ≤ 64) (hbase : base ≤ w.heap.size)
    (h : ∀ v' w', w'.ownsRow base e 1 v' (n + 1) (xs ++ [x]) → Below base w w' → wpList P ops Q rest (a.put o.dst v') w') : wpList P ops Q (o :: rest) a W :=
  wpList_append1g hgd s y t ho base e hW i z bytes ht hi hz hsize hby hzs v n xs hs hown w.heap.size hx rfl h1 hn hbytes hbase h

/-- A byte as a value. -/
def byteV (c : UInt8) : Value := .int .u8 c.toNat

/-- string(b) of a slice of bytes that the call owns. -/
theorem run_convert_own {P : Program} {w : World} (src e dst : TypeId) (hs : P.underlying src = some (.slice e)) (he : P.underlying e = some (.int .u8)) (hd : P.underlying dst = some .string) {base : Nat} {v : Value} {n : Nat} {xs : List UInt8}
    (hown : w.ownsRow base e 1 v n (xs.map byteV)) : (convert src dst v).run P w = .ok (.string ⟨xs.toArray⟩) w := by
  obtain ⟨hl, h⟩ := hown
  simp at hl
  rcases h with ⟨rfl, hn⟩ | ⟨g, cap, cur, rfl, hbg, hb, hnc, hcm, hcs, htake⟩
  · rw [run_convert_bytes_nil w src e hs he 0 0 dst hd]
    have : xs = [] := by apply List.eq_nil_of_length_eq_zero; omega
    subst this; rfl
  · have hown' : w.ownsRow base e 1 (.slice (some ⟨g, 0, none⟩) n cap) n (xs.map byteV) := ⟨by simp; omega, .inr ⟨g, cap, cur, rfl, hbg, hb, hnc, hcm, hcs, htake⟩⟩
    rw [run_convert_bytes_arg w src e hs he g 0 n cap (xs.map fun c => (c.toNat : Int)) (by simp; omega) (fun i hi => ?_) dst hd]
    · congr 2
      unfold strOfNums
      congr 2
      rw [List.map_map]
      conv => rhs; rw [← List.map_id xs]
      apply List.map_congr_left
      intro c _
      simp
    · rw [Nat.zero_add, hown'.cellAt i (by omega)]
      have hi' : i < xs.length := by omega
      simp [List.getElem?_map, List.getD, List.getElem?_eq_getElem hi', byteV]

/-- Block g holds xs first, none of them frozen: what []byte(s) lays. -/
def Buf (w : World) (g : Nat) (e : TypeId) (xs : List Value) : Prop :=
  ∃ (cur : Array Value) (F : Nat), w.heap[g]? = some (.cells cur e (F, F + 1)) ∧ xs.length ≤ F ∧ xs.length ≤ cur.size ∧ cur.toList.take xs.length = xs

theorem Buf.cell {w : World} {g : Nat} {e : TypeId} {xs : List Value} (h : Buf w g e xs) (j : Nat) (hj : j < xs.length) : w.cell? ⟨g, j, none⟩ = some xs[j] := by
  obtain ⟨cur, F, hg, _, hc, ht⟩ := h
  rw [cell_of_row w g j cur e _ hg]
  have h1 : (cur.toList.take xs.length)[j]? = some xs[j] := by rw [ht]; exact List.getElem?_eq_getElem hj
  rw [List.getElem?_take, if_pos hj] at h1
  simpa using h1

theorem Buf.at {w : World} {g : Nat} {e : TypeId} {xs : List Value} (h : Buf w g e xs) {j : Nat} {v : Value} (hj : xs[j]? = some v) : w.cell? ⟨g, j, none⟩ = some v := by
  obtain ⟨hl, rfl⟩ := List.getElem?_eq_some_iff.1 hj
  exact h.cell j hl

theorem Buf.free {w : World} {g : Nat} {e : TypeId} {xs : List Value} (h : Buf w g e xs) (j : Nat) (hj : j < xs.length) : w.frozen? ⟨g, j, none⟩ = false := by
  obtain ⟨cur, F, hg, hF, _, _⟩ := h
  simp [World.frozen?, hg]
  omega

theorem Buf.stored {w : World} {g : Nat} {e : TypeId} {xs : List Value} (h : Buf w g e xs) (j : Nat) (u : Value) : Buf (w.setCell ⟨g, j, none⟩ u) g e (xs.set j u) := by
  obtain ⟨cur, F, hg, hF, hc, ht⟩ := h
  refine ⟨cur.setIfInBounds j u, F, ?_, by simpa using hF, by simpa using hc, ?_⟩
  · simp only [World.setCell, Array.getElem?_modify, hg]
    simp
  · rw [Array.toList_setIfInBounds, List.length_set, List.take_set, ht]

theorem Buf.bytes {w : World} {e : TypeId} (s : ByteArray) (cap : Nat) (hcap : s.size ≤ cap) : Buf (w.alloc (.cells (bytesRow s cap) e ((bytesRow s cap).size, (bytesRow s cap).size + 1))).drew w.heap.size e (s.data.toList.map byteV) := by
  have e1 : s.data.size = s.size := rfl
  have hl : (bytesRow s cap).size = cap := by unfold bytesRow; rw [Array.size_append, Array.size_map, Array.size_replicate, e1]; omega
  refine ⟨_, _, heap_alloc_new w _, by rw [hl]; simpa using hcap, by rw [hl]; simpa using hcap, ?_⟩
  simp only [bytesRow, Array.toList_append, List.length_map, Array.toList_map]
  rw [List.take_append_of_le_length (by simp), List.take_of_length_le (by simp)]
  rfl

theorem run_convert_buf {P : Program} {w : World} (src e dst : TypeId) (hs : P.underlying src = some (.slice e)) (he : P.underlying e = some (.int .u8)) (hd : P.underlying dst = some .string) {g n cap : Nat} {xs : List UInt8}
    (hb : Buf w g e (xs.map byteV)) (hn : n = xs.length) : (convert src dst (.slice (some ⟨g, 0, none⟩) n cap)).run P w = .ok (.string ⟨xs.toArray⟩) w := by
  subst hn
  rw [run_convert_bytes_arg w src e hs he g 0 xs.length cap (xs.map fun c => (c.toNat : Int)) (by simp) (fun i hi => ?_) dst hd]
  · congr 2
    unfold strOfNums
    congr 2
    rw [List.map_map]
    conv => rhs; rw [← List.map_id xs]
    apply List.map_congr_left
    intro c _
    simp
  · rw [Nat.zero_add, hb.cell i (by simpa using hi)]
    simp [List.getElem?_map, List.getD, List.getElem?_eq_getElem hi, byteV]

theorem drewN_more {w wr : World} (h : ∃ m, wr = w.drewN m) (n : Nat) : ∃ m, wr.drewN n = w.drewN m := by
  obtain ⟨m, rfl⟩ := h
  exact ⟨_, World.drewN_drewN _ _ _⟩

theorem below_draws {B : Nat} {a w w' : World} (h : Below B a w) (hm : ∃ m, w' = w.drewN m) : Below B a w' := by
  obtain ⟨m, rfl⟩ := hm
  exact below_drewN h m
theorem below_then {a w w' : World} (h : Below a.heap.size a w) (h2 : Below w.heap.size w w') : Below a.heap.size a w' := h.trans (h2.mono h.size)
theorem below_more {a w : World} (h : Below a.heap.size a w) (o : Obj) : Below a.heap.size a (w.alloc o) := h.alloc h.size o

theorem grownCap_le (w : World) (n o : Nat) (e : TypeId) : n ≤ grownCap w n o e := by
  unfold grownCap Question.cut
  simp
  try omega

/-- The slice value v reads as the values xs (one cell each) in world w: one that came in, or one of the call's own. -/
def SliceAt (w : World) (v : Value) (xs : List Value) : Prop :=
  ∃ a c, v = .slice a xs.length c ∧ (xs = [] ∨ ∃ b off, a = some ⟨b, off, none⟩ ∧ ∀ (j : Nat) (x : Value), xs[j]? = some x → w.cell? ⟨b, off + j, none⟩ = some x)

theorem block_of_cell {w : World} {b o : Nat} {x : Value} (h : w.cell? ⟨b, o, none⟩ = some x) : b < w.heap.size := by
  rcases Nat.lt_or_ge b w.heap.size with hb | hb
  · exact hb
  · unfold World.cell? at h
    rw [Array.getElem?_eq_none hb] at h
    cases h

theorem SliceAt.below {w w' : World} {v : Value} {xs : List Value} (h : SliceAt w v xs) (hb : Below w.heap.size w w') : SliceAt w' v xs := by
  obtain ⟨a, c, rfl, h⟩ := h
  refine ⟨a, c, rfl, ?_⟩
  rcases h with h | ⟨b, off, ha, hc⟩
  · exact .inl h
  · refine .inr ⟨b, off, ha, fun j x hj => ?_⟩
    have h1 := hc j x hj
    rw [hb.cell (block_of_cell h1)]
    exact h1

theorem SliceAt.nil (w : World) : SliceAt w (.slice none 0 0) [] := ⟨none, 0, rfl, .inl rfl⟩

theorem SliceAt.own {w : World} {base : Nat} {e : TypeId} {v : Value} {n : Nat} {xs : List Value} (h : w.ownsRow base e 1 v n xs) : SliceAt w v xs := by
  have hl : xs.length = n := by have := h.1; omega
  rcases h.2 with ⟨hv, hn⟩ | ⟨g, cap, cur, hv, _, _⟩
  · have : xs = [] := List.eq_nil_of_length_eq_zero (by omega)
    subst this
    exact ⟨none, 0, hv, .inl rfl⟩
  · subst hv
    refine ⟨some ⟨g, 0, none⟩, cap, by rw [hl], .inr ⟨g, 0, rfl, fun j x hj => ?_⟩⟩
    have hjl : j < xs.length := (List.getElem?_eq_some_iff.1 hj).1
    rw [Nat.zero_add, h.cellAt j (by omega)]
    exact hj

/-- A slice literal's block. -/
theorem SliceAt.lit (w : World) (cs : Array Value) (e : TypeId) (n c : Nat) (hn : n = cs.size) : SliceAt (w.alloc (.cells cs e)) (.slice (some ⟨w.heap.size, 0, none⟩) n c) cs.toList := by
  subst hn
  refine ⟨some ⟨w.heap.size, 0, none⟩, c, by simp, .inr ⟨w.heap.size, 0, rfl, fun j x hj => ?_⟩⟩
  rw [Nat.zero_add, cell_of_row _ _ _ cs e (0, 0) (heap_alloc_new w _)]
  simpa using hj

/-- Not nil: where the cells lie. -/
theorem SliceAt.at {w : World} {v : Value} {xs : List Value} (h : SliceAt w v xs) (hne : xs ≠ []) :
    ∃ b off c, v = .slice (some ⟨b, off, none⟩) xs.length c ∧ ∀ (j : Nat) (x : Value), xs[j]? = some x → w.cell? ⟨b, off + j, none⟩ = some x := by
  obtain ⟨a, c, rfl, h⟩ := h
  rcases h with h | ⟨b, off, rfl, hc⟩
  · exact absurd h hne
  · exact ⟨b, off, c, rfl, hc⟩
theorem SliceAt.empty {w : World} {v : Value} (h : SliceAt w v []) : ∃ a c, v = .slice a 0 c := by
  obtain ⟨a, c, rfl, _⟩ := h
  exact ⟨a, c, rfl⟩
theorem SliceAt.len {w : World} {v : Value} {xs : List Value} (h : SliceAt w v xs) : ∃ a c, v = .slice a xs.length c := by
  obtain ⟨a, c, rfl, _⟩ := h
  exact ⟨a, c, rfl⟩

def strV (s : ByteArray) : Value := .string s

theorem SliceAt.bytes (w : World) (l : List UInt8) (cs : Array Value) (e : TypeId) (n c : Nat) (h : cs.toList = l.map byteV) (hn : n = cs.size) : SliceAt (w.alloc (.cells cs e)) (.slice (some ⟨w.heap.size, 0, none⟩) n c) (l.map byteV) := by
  rw [← h]
  exact SliceAt.lit w cs e n c hn

/-- The length of a text in a slot: for a measure. -/
def strSize : Value → Nat | .string t => t.size | _ => 0

theorem size_data (s : ByteArray) : s.data.toList.length = s.size := by simp
theorem emptyYes {t : ByteArray} (h : t.size = 0) : t.toList.isEmpty = true := by
  rw [ByteArray.toList_eq, List.isEmpty_iff]
  exact List.eq_nil_of_length_eq_zero (by rw [size_data]; exact h)
theorem emptyNo {t : ByteArray} (h : t.size ≠ 0) : t.toList.isEmpty = false := by
  cases hc : t.toList.isEmpty
  · rfl
  · rw [ByteArray.toList_eq, List.isEmpty_iff] at hc
    exact absurd (by rw [← size_data, hc]; rfl) h
theorem nil_of_size {t : ByteArray} (h : t.size = 0) : t.data.toList = [] := List.eq_nil_of_length_eq_zero (by rw [size_data]; exact h)
theorem extract_list (s : ByteArray) (a b : Nat) : (s.extract a b).data.toList = (s.data.toList.take b).drop a := by
  rw [Lib.extract_data]
  simp [List.drop_take]
theorem extract_tail (s : ByteArray) (a : Nat) : (s.extract a s.size).data.toList = s.data.toList.drop a := by
  rw [extract_list, List.take_of_length_le (by rw [size_data]; exact Nat.le_refl _)]
theorem mk_list (s : ByteArray) {l : List UInt8} (h : s.data.toList = l) : s = ⟨l.toArray⟩ := by
  subst h
  cases s
  rfl
theorem cons_of (t : ByteArray) (h : 0 < t.size) : t.data.toList = t[0] :: t.data.toList.drop 1 := by
  have := List.drop_eq_getElem_cons (l := t.data.toList) (i := 0) (by rw [size_data]; exact h)
  rw [List.drop_zero] at this
  exact this
theorem snoc_of (t : ByteArray) (h : 0 < t.size) : t.data.toList = t.data.toList.take (t.size - 1) ++ [t[t.size - 1]] := by
  have h1 : t.size - 1 < t.data.toList.length := by rw [size_data]; omega
  have := List.take_succ_eq_append_getElem h1
  rw [show t.size - 1 + 1 = t.size from by omega, List.take_of_length_le (by rw [size_data]; exact Nat.le_refl _)] at this
  exact this

/-- make([]T, n) of elements of one cell: n zero elements of the call's own, the world told by Below alone. -/
theorem wpList_make1 {P : Program} (w : World) {ops : Array Oper} {rest : List Oper} {o : Oper} {a : Act} {Q : Exit → Act → World → Prop}
    (hg : o.guard = none) (l c : Operand) (t : TypeId) (hop : o.op = Op.makeSlice t l c)
    (e : TypeId) (i : TypeInfo) (z : Value) (bytes : Nat) (h1 : P.underlying t = some (.slice e)) (h2 : P.info? e = some i) (h3 : i.zero = some z) (h4 : i.size = 1) (h5 : i.bytes = bytes) (hz : z.cells = #[z])
    (kl kc : IntKind) (L C : Int) (n : Nat) (hl : a.eval l = .int kl L) (hc : a.eval c = .int kc C) (hL : L = (n : Int)) (hC : C = (n : Int)) (b2 : n < 1099511627776) (b3 : bytes ≤ 64)
    (hK : ∀ w', w'.ownsRow w.heap.size e 1 (.slice (some ⟨w.heap.size, 0, none⟩) n n) n (List.replicate n z) → Below w.heap.size w w' → wpList P ops Q rest (a.put o.dst (.slice (some ⟨w.heap.size, 0, none⟩) n n)) w') :
    wpList P ops Q (o :: rest) a w := by
  have hb : i.bytes * n ≤ 281474976710656 := by
    rw [h5]
    have : bytes * n ≤ 64 * 1099511627776 := Nat.mul_le_mul b3 (by omega)
    omega
  refine wpList_make_full w hg l c t hop w.heap.size e i z 1 h1 h2 h3 h4 kl kc L C n hl hc hL hC hb (by unfold maxLen; omega) (Nat.le_refl _) ?_
  intro w' hown hgr
  refine hK w' ?_ ((Below.refl _ _).grown hgr (Nat.le_refl _) (fun k hk => by cases hk))
  rw [hz, Nat.mul_one, toList_madeCells_one] at hown
  exact hown

/-- A list of numbers of one kind. -/
def numV (k : IntKind) (n : Int) : Value := .int k n

theorem own_mono {w : World} {base base' : Nat} {e : TypeId} {size : Nat} {v : Value} {n : Nat} {xs : List Value} (h : w.ownsRow base' e size v n xs) (hb : base ≤ base') : w.ownsRow base e size v n xs := by
  refine ⟨h.1, ?_⟩
  rcases h.2 with h | ⟨g, cap, cur, hv, hg, r⟩
  · exact .inl h
  · exact .inr ⟨g, cap, cur, hv, Nat.le_trans hb hg, r⟩
/-- What is owned stays owned while nothing that is there turns. -/
theorem own_below {w w' : World} {base : Nat} {e : TypeId} {size : Nat} {v : Value} {n : Nat} {xs : List Value} (h : w.ownsRow base e size v n xs) (hb : Below w.heap.size w w') : w'.ownsRow base e size v n xs := by
  refine ⟨h.1, ?_⟩
  rcases h.2 with h | ⟨g, cap, cur, hv, hg, hh, r⟩
  · exact .inl h
  · refine .inr ⟨g, cap, cur, hv, hg, ?_, r⟩
    rw [hb.block g ?_]
    · exact hh
    · rcases Nat.lt_or_ge g w.heap.size with h | h
      · exact h
      · rw [Array.getElem?_eq_none h] at hh; cases hh

theorem own_len {w : World} {base : Nat} {e : TypeId} {size : Nat} {v : Value} {n : Nat} {xs : List Value} (h : w.ownsRow base e size v n xs) : ∃ a c, v = .slice a n c := by
  rcases h.2 with ⟨hv, hn⟩ | ⟨g, cap, cur, hv, _⟩
  · exact ⟨none, 0, by rw [hv, hn]⟩
  · exact ⟨_, _, hv⟩
/-- A slice's length: for a measure. -/
def lenOf : Value → Nat | .slice _ n _ => n | _ => 0

theorem take_succ_of {α : Type} {l : List α} {k : Nat} {x : α} (h : l[k]? = some x) : l.take (k + 1) = l.take k ++ [x] := by
  obtain ⟨hk, rfl⟩ := List.getElem?_eq_some_iff.1 h
  exact List.take_succ_eq_append_getElem hk

end Go.Proofs.YtnecjofgjbfheaaGreatDoor
