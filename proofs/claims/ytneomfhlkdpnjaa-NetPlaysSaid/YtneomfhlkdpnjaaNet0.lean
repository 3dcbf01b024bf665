/- Stage 5: packets in a row: the plain model, and how they lie in memory. -/
import Derived.Deep.MidRow
import Derived.Test.YtneomfhlkdpnjaaProg
import Derived.Test.YtneomfhlkdpnjaaKit
import Derived.Test.YtneomfhlkdpnjaaInfo
import Derived.Test.YtneomfhlkdpnjaaRow
import Derived.Test.YtneomfhlkdpnjaaSha
import Derived.Test.YtneomfhlkdpnjaaFp
namespace Go.Proofs.Ytneomfhlkdpnjaa
open Go.RowKit Go.Proofs

structure PkM where
  f : Int
  t : Int
  b : List UInt8

/-- A packet in memory: what it is, and its bytes' slice. -/
structure RecP where
  p : PkM
  u : Value

def nodeB (k : Int) : Bool := decide (1 ≤ k) && decide (k ≤ 9)

def travB (p : PkM) : Bool := (nodeB p.f && nodeB p.t) && decide (p.f ≠ p.t)

def sendM : List PkM → List PkM → Nat × List PkM
  | ps, [] => (0, ps)
  | ps, p :: r => if (decide (ps.length < 64) && travB p) = true then ((sendM (ps ++ [p]) r).1 + 1, (sendM (ps ++ [p]) r).2) else sendM ps r

theorem sendM_snoc (ls : List PkM) (x : PkM) : ∀ ps, sendM ps (ls ++ [x]) = if (decide ((sendM ps ls).2.length < 64) && travB x) = true then ((sendM ps ls).1 + 1, (sendM ps ls).2 ++ [x]) else sendM ps ls := by
  induction ls with
  | nil =>
    intro ps
    rw [List.nil_append]
    unfold sendM
    rfl
  | cons y r ih =>
    intro ps
    rw [List.cons_append]
    unfold sendM
    by_cases h : (decide (ps.length < 64) && travB y) = true
    · rw [if_pos h, if_pos h, ih]
      dsimp only
      split <;> rfl
    · rw [if_neg h, if_neg h, ih]

theorem sendM_len : ∀ (ls ps : List PkM), ps.length ≤ 64 → (sendM ps ls).2.length ≤ 64 ∧ (sendM ps ls).1 ≤ ls.length
  | [], ps, h => ⟨h, Nat.le_refl _⟩
  | p :: r, ps, h => by
    unfold sendM
    split
    · rename_i hc
      simp only [Bool.and_eq_true, decide_eq_true_eq] at hc
      have := sendM_len r (ps ++ [p]) (by simp; omega)
      simp only [List.length_cons]
      omega
    · have := sendM_len r ps h
      simp only [List.length_cons]
      omega

def cellsP (r : RecP) : List Value := [.int .i64 r.p.f, .int .i64 r.p.t, r.u]

def aggP (r : RecP) : Value := .agg #[.int .i64 r.p.f, .int .i64 r.p.t, r.u]

def rowsP (rs : List RecP) : List Value := (rs.map cellsP).flatten

theorem rowsP_len : ∀ rs : List RecP, (rowsP rs).length = rs.length * 3
  | [] => rfl
  | r :: rs => by
    have := rowsP_len rs
    unfold rowsP at this ⊢
    rw [List.map_cons, List.flatten_cons, List.length_append, this, List.length_cons]
    show 3 + _ = _
    omega

theorem rowsP_app (a b : List RecP) : rowsP (a ++ b) = rowsP a ++ rowsP b := by unfold rowsP; rw [List.map_append, List.flatten_append]

theorem rowsP_one (r : RecP) : rowsP [r] = [.int .i64 r.p.f, .int .i64 r.p.t, r.u] := rfl

theorem rowsP_take : ∀ (rs : List RecP) (k : Nat), rowsP (rs.take k) = (rowsP rs).take (k * 3)
  | [], k => by simp [rowsP]
  | r :: rs, 0 => by simp [rowsP]
  | r :: rs, k + 1 => by
    have ih := rowsP_take rs k
    unfold rowsP at ih ⊢
    rw [List.take_succ_cons, List.map_cons, List.flatten_cons, ih, List.map_cons, List.flatten_cons, List.take_append, show (cellsP r).length = 3 from rfl, show (k + 1) * 3 - 3 = k * 3 by omega, List.take_of_length_le (l := cellsP r) (by show 3 ≤ _; omega)]

theorem rowsP_drop : ∀ (rs : List RecP) (k : Nat), rowsP (rs.drop k) = (rowsP rs).drop (k * 3)
  | [], k => by simp [rowsP]
  | r :: rs, 0 => by simp [rowsP]
  | r :: rs, k + 1 => by
    have ih := rowsP_drop rs k
    unfold rowsP at ih ⊢
    rw [List.drop_succ_cons, ih, List.map_cons, List.flatten_cons, List.drop_append, show (cellsP r).length = 3 from rfl, show (k + 1) * 3 - 3 = k * 3 by omega, List.drop_of_length_le (l := cellsP r) (by show 3 ≤ _; omega), List.nil_append]

theorem rowsP_at {rs : List RecP} {k : Nat} {r : RecP} (h : rs[k]? = some r) {j : Nat} {v : Value} (hj : (cellsP r)[j]? = some v) : (rowsP rs)[k * 3 + j]? = some v := by
  have h1 := rowsP_drop rs k
  have hk : k < rs.length := (List.getElem?_eq_some_iff.1 h).1
  have h2 : rs.drop k = r :: rs.drop (k + 1) := by
    rw [List.drop_eq_getElem_cons hk]
    congr 1
    exact (List.getElem?_eq_some_iff.1 h).2
  rw [h2] at h1
  unfold rowsP at h1
  rw [List.map_cons, List.flatten_cons] at h1
  rw [show (rowsP rs)[k * 3 + j]? = ((rowsP rs).drop (k * 3))[j]? by rw [List.getElem?_drop]]
  unfold rowsP
  rw [← h1, List.getElem?_append_left (List.getElem?_eq_some_iff.1 hj).1]
  exact hj

theorem rowsP_one_cell {rs : List RecP} (h : ∀ r ∈ rs, r.u.oneCell' = true) : ∀ v ∈ rowsP rs, v.oneCell' = true := fun v hv => by
  unfold rowsP at hv
  obtain ⟨c, hc, hv⟩ := List.mem_flatten.1 hv
  obtain ⟨r, hr, rfl⟩ := List.mem_map.1 hc
  unfold cellsP at hv
  simp only [List.mem_cons, List.not_mem_nil, or_false] at hv
  rcases hv with rfl | rfl | rfl
  · rfl
  · rfl
  · exact h r hr

/-- A row of packets of the program's own; a packet's bytes. -/
def OwnP (w : World) (v : Value) (rs : List RecP) : Prop := w.ownsRow 0 52 3 v rs.length (rowsP rs)

def BytP (w : World) (r : RecP) : Prop := w.ownsRow 0 5 1 r.u r.p.b.length (r.p.b.map byteV) ∧ r.p.b.length ≤ 140737488351232

def NetAt (T : TypeId) (w : World) (g : Nat) (v : Value) (rs : List RecP) : Prop := Rw w 0 g T [v] ∧ OwnP w v rs ∧ ∀ r ∈ rs, BytP w r

/-- What a call may turn. -/
def Foot (g : Nat) (v : Value) : Nat → Prop := fun k => k = g ∨ v.ownBlock = some k

theorem own_slice {w : World} {base : Nat} {e : TypeId} {s : Nat} {v : Value} {n : Nat} {xs : List Value} (h : w.ownsRow base e s v n xs) : v.oneCell' = true := by
  rcases h.2 with ⟨rfl, _⟩ | ⟨g, cap, cur, rfl, _⟩ <;> rfl

theorem own_blk {w : World} {base : Nat} {e : TypeId} {s : Nat} {v : Value} {n : Nat} {xs : List Value} (h : w.ownsRow base e s v n xs) {k : Nat} (hk : v.ownBlock = some k) : ∃ cur, w.heap[k]? = some (.cells cur e (0, 0)) := by
  rcases h.2 with ⟨rfl, _⟩ | ⟨g, cap, cur, rfl, _, hh, _⟩
  · simp [Value.ownBlock] at hk
  · simp [Value.ownBlock] at hk
    subst hk
    exact ⟨cur, hh⟩

theorem own_lt {w : World} {base : Nat} {e : TypeId} {s : Nat} {v : Value} {n : Nat} {xs : List Value} (h : w.ownsRow base e s v n xs) {k : Nat} (hk : v.ownBlock = some k) : k < w.heap.size := by
  obtain ⟨cur, hc⟩ := own_blk h hk
  rcases Nat.lt_or_ge k w.heap.size with hg | hg
  · exact hg
  · rw [Array.getElem?_eq_none hg] at hc; cases hc

/-- A row stays where its block does. -/
theorem own_same {w w' : World} {base : Nat} {e : TypeId} {s : Nat} {v : Value} {n : Nat} {xs : List Value} (h : w.ownsRow base e s v n xs) (hs : ∀ g, v.ownBlock = some g → w'.heap[g]? = w.heap[g]?) : w'.ownsRow base e s v n xs := by
  refine ⟨h.1, ?_⟩
  rcases h.2 with hn | ⟨g, cap, cur, rfl, hb, hh, r⟩
  · exact .inl hn
  · exact .inr ⟨g, cap, cur, rfl, hb, (hs g rfl).trans hh, r⟩

theorem own_keep {w w' : World} {F : Nat → Prop} {base : Nat} {e : TypeId} {s : Nat} {v : Value} {n : Nat} {xs : List Value} (h : w.ownsRow base e s v n xs) (hk : Kept F w w') (hF : ∀ k, v.ownBlock = some k → ¬ F k) : w'.ownsRow base e s v n xs :=
  own_same h (fun g hg => hk.blk g (own_lt h hg) (hF g hg))

theorem own_unlike {w : World} {b1 b2 : Nat} {e1 e2 : TypeId} {s1 s2 : Nat} {v1 v2 : Value} {n1 n2 : Nat} {x1 x2 : List Value} (h1 : w.ownsRow b1 e1 s1 v1 n1 x1) (h2 : w.ownsRow b2 e2 s2 v2 n2 x2) (he : e1 ≠ e2) {k : Nat} (hk : v1.ownBlock = some k) : v2.ownBlock ≠ some k := by
  intro hk2
  obtain ⟨c1, a⟩ := own_blk h1 hk
  obtain ⟨c2, b⟩ := own_blk h2 hk2
  rw [a] at b
  injection b with b
  injection b with _ e _
  exact he e

theorem own_rw {w : World} {base b2 g : Nat} {e1 e2 : TypeId} {s : Nat} {v : Value} {n : Nat} {xs cs : List Value} (h1 : w.ownsRow base e1 s v n xs) (h2 : Rw w b2 g e2 cs) (he : e1 ≠ e2) : v.ownBlock ≠ some g := by
  intro hk
  obtain ⟨c1, a⟩ := own_blk h1 hk
  rw [h2.2] at a
  injection a with a
  injection a with _ e _
  exact he e.symm

/-- Bytes are apart from what a call may turn. -/
theorem bytP_off {T : TypeId} {w : World} {g : Nat} {v : Value} {rs : List RecP} (h : NetAt T w g v rs) (hT : T ≠ 5) {base n : Nat} {u : Value} {xs : List Value} (hu : w.ownsRow base 5 1 u n xs) {k : Nat} (hk : u.ownBlock = some k) : ¬ Foot g v k := by
  rintro (rfl | hf)
  · exact own_rw hu h.1 (fun e => hT e.symm) hk
  · exact own_unlike h.2.1 hu (by decide) hf hk

theorem netAt_lt {T : TypeId} {w : World} {g : Nat} {v : Value} {rs : List RecP} (h : NetAt T w g v rs) {k : Nat} (hk : Foot g v k) : k < w.heap.size := by
  rcases hk with rfl | hk
  · exact Rw.size h.1
  · exact own_lt h.2.1 hk

theorem netAt_same {T : TypeId} {w w' : World} {g : Nat} {v : Value} {rs : List RecP} (h : NetAt T w g v rs) (h1 : ∀ k, Foot g v k → w'.heap[k]? = w.heap[k]?) (h2 : ∀ r ∈ rs, ∀ k, r.u.ownBlock = some k → w'.heap[k]? = w.heap[k]?) : NetAt T w' g v rs :=
  ⟨⟨h.1.1, (h1 g (.inl rfl)).trans h.1.2⟩, own_same h.2.1 (fun k hk => h1 k (.inr hk)), fun r hr => ⟨own_same (h.2.2 r hr).1 (h2 r hr), (h.2.2 r hr).2⟩⟩

theorem netAt_below {T : TypeId} {w w' : World} {g : Nat} {v : Value} {rs : List RecP} (h : NetAt T w g v rs) (hb : Below w.heap.size w w') : NetAt T w' g v rs :=
  netAt_same h (fun k hk => hb.block k (netAt_lt h hk)) (fun r hr k hk => hb.block k (own_lt (h.2.2 r hr).1 hk))

/-- What a call on a net leaves. -/
def NetV (T : TypeId) (w w' : World) (g : Nat) (v : Value) (rs' : List RecP) : Prop :=
  ∃ v', NetAt T w' g v' rs' ∧ (∀ k, v'.ownBlock = some k → v.ownBlock = some k ∨ w.heap.size ≤ k) ∧ Kept (Foot g v) w w'

theorem foot_next {g : Nat} {v v' : Value} {w : World} (h : ∀ k, v'.ownBlock = some k → v.ownBlock = some k ∨ w.heap.size ≤ k) : ∀ k, Foot g v' k → Foot g v k ∨ w.heap.size ≤ k := fun k hk => by
  rcases hk with rfl | hk
  · exact .inl (.inl rfl)
  · exact (h k hk).imp .inr id

theorem netV_below {T : TypeId} {w w' : World} {g : Nat} {v : Value} {rs : List RecP} (h : NetAt T w g v rs) (hb : Below w.heap.size w w') : NetV T w w' g v rs := ⟨v, netAt_below h hb, fun _ hk => .inl hk, kept_below hb⟩

theorem netV_more {T : TypeId} {w w' w'' : World} {g : Nat} {v : Value} {rs : List RecP} (h : NetV T w w' g v rs) (hb : Below w'.heap.size w' w'') : NetV T w w'' g v rs := by
  obtain ⟨v', h1, h2, h3⟩ := h
  exact ⟨v', netAt_below h1 hb, h2, kept_then (G := fun _ => False) h3 (kept_below hb) (fun _ h => h.elim)⟩

theorem netV_of {T : TypeId} {w w' w'' : World} {g : Nat} {v : Value} {rs : List RecP} (hb : Below w.heap.size w w') (h : NetV T w' w'' g v rs) : NetV T w w'' g v rs := by
  obtain ⟨v', h1, h2, h3⟩ := h
  exact ⟨v', h1, fun k hk => (h2 k hk).imp id (Nat.le_trans hb.size), kept_then (G := Foot g v) (kept_below hb) h3 (fun x hx => .inl hx)⟩

theorem netV_then {T : TypeId} {w w1 w2 : World} {g : Nat} {v v1 : Value} {rs : List RecP} (hv : ∀ k, v1.ownBlock = some k → v.ownBlock = some k ∨ w.heap.size ≤ k) (hk : Kept (Foot g v) w w1) (h : NetV T w1 w2 g v1 rs) : NetV T w w2 g v rs := by
  obtain ⟨v', h1, h2, h3⟩ := h
  refine ⟨v', h1, fun k hk2 => ?_, kept_then hk h3 (foot_next hv)⟩
  rcases h2 k hk2 with h | h
  · exact hv k h
  · exact .inr (Nat.le_trans hk.size h)

/-- A packet of the row, by value. -/
theorem ownP_range {w : World} {v : Value} {rs : List RecP} (h : OwnP w v rs) {k : Nat} {r : RecP} (hk : rs[k]? = some r) : ∃ g c, v = .slice (some ⟨g, 0, none⟩) rs.length c ∧ rs.length ≤ c ∧ w.rangeAt g (k * 3) [.int .i64 r.p.f, .int .i64 r.p.t, r.u] := by
  have hkl : k < rs.length := (List.getElem?_eq_some_iff.1 hk).1
  rcases h.2 with ⟨_, hn⟩ | ⟨g, cap, cur, rfl, _, _, hc, _⟩
  · omega
  · refine ⟨g, cap, rfl, hc, fun j x hj => ?_⟩
    have hj3 : j < 3 := (List.getElem?_eq_some_iff.1 hj).1
    rw [World.ownsRow.cellAt h (k * 3 + j) (by omega)]
    exact rowsP_at hk hj

theorem Try.infoPacket : (Try.prog.info? 52).map (fun i => (i.zero, i.size, i.bytes)) = some (some (.agg #[.int .i64 0, .int .i64 0, .slice none 0 0]), 3, 40) := by kernel_rfl

theorem Try.infoPk : (Try.prog.info? 52).map (·.size) = some 3 := zero_of_info3 Try.infoPacket

theorem Try.infoPkz : (Try.prog.info? 52).map (fun i => (i.zero, i.size)) = some (some (.agg #[.int .i64 0, .int .i64 0, .slice none 0 0]), 3) := by kernel_rfl

end Go.Proofs.Ytneomfhlkdpnjaa
