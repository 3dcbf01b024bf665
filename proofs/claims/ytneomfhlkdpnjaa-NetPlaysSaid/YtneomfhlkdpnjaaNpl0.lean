/- Two nets side by side: the code's and the reference's. -/
import Derived.BigRegion
import Derived.Deep.RegionHeld3
import Derived.Test.YtneomfhlkdpnjaaProg
import Derived.Test.YtneomfhlkdpnjaaKit
import Derived.Test.YtneomfhlkdpnjaaRow
import Derived.Test.YtneomfhlkdpnjaaFp
import Derived.Test.YtneomfhlkdpnjaaNet0
import Derived.Test.YtneomfhlkdpnjaaNet1
import Derived.Test.YtneomfhlkdpnjaaNet5
import Derived.Test.YtneomfhlkdpnjaaNet6
import Derived.Test.YtneomfhlkdpnjaaNet7
import Derived.Test.YtneomfhlkdpnjaaNet11
import Derived.Test.YtneomfhlkdpnjaaNet12
import Derived.Test.YtneomfhlkdpnjaaNet17
import Derived.Test.YtneomfhlkdpnjaaRnt1
import Derived.Test.YtneomfhlkdpnjaaRnt2
import Derived.Test.YtneomfhlkdpnjaaRnt3
import Derived.Test.YtneomfhlkdpnjaaRnt4
import Derived.Test.YtneomfhlkdpnjaaRnt5
namespace Go.Proofs.Ytneomfhlkdpnjaa
open Go.RowKit Go.Proofs

/-- Both nets, made since w0; Z: blocks that are neither's. -/
def Both (w0 w : World) (Z : Nat → Prop) (g h : Nat) (ps qs : List PkM) : Prop :=
  ∃ v rs v2 rs2, NetAt 93 w g v rs ∧ NetAt 45 w h v2 rs2 ∧ rs.map (·.p) = ps ∧ rs2.map (·.p) = qs ∧ (w0.heap.size ≤ g ∧ w0.heap.size ≤ h) ∧ (∀ k, v.ownBlock = some k → w0.heap.size ≤ k) ∧ (∀ k, v2.ownBlock = some k → w0.heap.size ≤ k) ∧
    (∀ k, v.ownBlock = some k → v2.ownBlock ≠ some k) ∧ Below w0.heap.size w0 w ∧ ∀ k, Z k → k < w.heap.size ∧ ¬ Foot g v k ∧ ¬ Foot h v2 k

theorem both_all {w0 w : World} {Z : Nat → Prop} {g h : Nat} {ps qs : List PkM} (H : Both w0 w Z g h ps qs) : Below w0.heap.size w0 w := by
  obtain ⟨_, _, _, _, _, _, _, _, _, _, _, _, hb, _⟩ := H
  exact hb

theorem both_less {w0 w : World} {Z Z' : Nat → Prop} {g h : Nat} {ps qs : List PkM} (H : Both w0 w Z g h ps qs) (hZ : ∀ k, Z' k → Z k) : Both w0 w Z' g h ps qs := by
  obtain ⟨v, rs, v2, rs2, h1, h2, h3, h4, h5, h6, h7, h8, h9, h10⟩ := H
  exact ⟨v, rs, v2, rs2, h1, h2, h3, h4, h5, h6, h7, h8, h9, fun k hk => h10 k (hZ k hk)⟩

theorem both_below {w0 w w' : World} {Z : Nat → Prop} {g h : Nat} {ps qs : List PkM} (H : Both w0 w Z g h ps qs) (hb : Below w.heap.size w w') : Both w0 w' (fun k => Z k ∨ (w.heap.size ≤ k ∧ k < w'.heap.size)) g h ps qs := by
  obtain ⟨v, rs, v2, rs2, h1, h2, h3, h4, h5, h6, h7, h8, h9, h10⟩ := H
  refine ⟨v, rs, v2, rs2, netAt_below h1 hb, netAt_below h2 hb, h3, h4, h5, h6, h7, h8, h9.trans (hb.mono h9.size), fun k hk => ?_⟩
  rcases hk with hk | hk
  · exact ⟨Nat.lt_of_lt_of_le (h10 k hk).1 hb.size, (h10 k hk).2⟩
  · exact ⟨hk.2, fun hf => by have := netAt_lt h1 hf; omega, fun hf => by have := netAt_lt h2 hf; omega⟩

/-- What a call on one net leaves of the other. -/
theorem net_other {T T2 : TypeId} {w w' : World} {g h : Nat} {v v2 : Value} {rs rs2 : List RecP} (hT : T ≠ 5) (hP : T ≠ 52) (hP2 : T2 ≠ 52) (hTT : T ≠ T2) (h1 : NetAt T w g v rs) (h2 : NetAt T2 w h v2 rs2) (ha : ∀ k, v.ownBlock = some k → v2.ownBlock ≠ some k) (hk : Kept (Foot g v) w w') : NetAt T2 w' h v2 rs2 := by
  refine netAt_same h2 (fun k hkk => hk.blk k (netAt_lt h2 hkk) ?_) (fun r hr k hkk => hk.blk k (own_lt (h2.2.2 r hr).1 hkk) (bytP_off h1 hT (h2.2.2 r hr).1 hkk))
  rintro (rfl | hv)
  · rcases hkk with rfl | hv2
    · have e1 := h1.1.2
      rw [h2.1.2] at e1
      injection e1 with e1
      injection e1 with _ e _
      exact hTT e.symm
    · exact own_rw h2.2.1 h1.1 (fun e => hP e.symm) hv2
  · rcases hkk with rfl | hv2
    · exact own_rw h1.2.1 h2.1 (fun e => hP2 e.symm) hv
    · exact ha k hv hv2

theorem both_n {w0 w w' : World} {Z : Nat → Prop} {g h : Nat} {v v2 : Value} {rs rs2 rs' : List RecP} (h1 : NetAt 93 w g v rs) (h2 : NetAt 45 w h v2 rs2) (h5 : w0.heap.size ≤ g ∧ w0.heap.size ≤ h) (h6 : ∀ k, v.ownBlock = some k → w0.heap.size ≤ k) (h7 : ∀ k, v2.ownBlock = some k → w0.heap.size ≤ k)
    (h8 : ∀ k, v.ownBlock = some k → v2.ownBlock ≠ some k) (h9 : Below w0.heap.size w0 w) (h10 : ∀ k, Z k → k < w.heap.size ∧ ¬ Foot g v k ∧ ¬ Foot h v2 k) (hV : NetV 93 w w' g v rs') : Both w0 w' Z g h (rs'.map (·.p)) (rs2.map (·.p)) ∧ Stay w w' Z := by
  obtain ⟨v', k1, k2, k3⟩ := hV
  refine ⟨⟨v', rs', v2, rs2, k1, net_other (by decide) (by decide) (by decide) (by decide) h1 h2 h8 k3, rfl, rfl, h5, fun k hk => ?_, h7, fun k hk hk2 => ?_, ?_, fun k hk => ?_⟩, fun k hk => k3.blk k (h10 k hk).1 (h10 k hk).2.1, fun n u xs ho => own_keep ho k3 (fun _ hb => bytP_off h1 (by decide) ho hb)⟩
  · rcases k2 k hk with h | h
    · exact h6 k h
    · exact Nat.le_trans h9.size h
  · rcases k2 k hk with hh | hh
    · exact h8 k hh hk2
    · have := own_lt h2.2.1 hk2
      omega
  · refine below_kept (kept_then (F := fun _ => False) (kept_below h9) k3 (fun k hk => .inr ?_))
    rcases hk with rfl | hk
    · exact h5.1
    · exact h6 k hk
  · have h11 := h10 k hk
    refine ⟨Nat.lt_of_lt_of_le h11.1 k3.size, fun hf => ?_, h11.2.2⟩
    rcases foot_next k2 k hf with h | h
    · exact h11.2.1 h
    · omega

theorem both_r {w0 w w' : World} {Z : Nat → Prop} {g h : Nat} {v v2 : Value} {rs rs2 rs' : List RecP} (h1 : NetAt 93 w g v rs) (h2 : NetAt 45 w h v2 rs2) (h5 : w0.heap.size ≤ g ∧ w0.heap.size ≤ h) (h6 : ∀ k, v.ownBlock = some k → w0.heap.size ≤ k) (h7 : ∀ k, v2.ownBlock = some k → w0.heap.size ≤ k)
    (h8 : ∀ k, v.ownBlock = some k → v2.ownBlock ≠ some k) (h9 : Below w0.heap.size w0 w) (h10 : ∀ k, Z k → k < w.heap.size ∧ ¬ Foot g v k ∧ ¬ Foot h v2 k) (hV : NetV 45 w w' h v2 rs') : Both w0 w' Z g h (rs.map (·.p)) (rs'.map (·.p)) ∧ Stay w w' Z := by
  obtain ⟨v', k1, k2, k3⟩ := hV
  refine ⟨⟨v, rs, v', rs', net_other (by decide) (by decide) (by decide) (by decide) h2 h1 (fun k hk hk2 => h8 k hk2 hk) k3, k1, rfl, rfl, h5, h6, fun k hk => ?_, fun k hk hk2 => ?_, ?_, fun k hk => ?_⟩, fun k hk => k3.blk k (h10 k hk).1 (h10 k hk).2.2, fun n u xs ho => own_keep ho k3 (fun _ hb => bytP_off h2 (by decide) ho hb)⟩
  · rcases k2 k hk with h | h
    · exact h7 k h
    · exact Nat.le_trans h9.size h
  · rcases k2 k hk2 with hh | hh
    · exact h8 k hk hh
    · have := own_lt h1.2.1 hk
      omega
  · refine below_kept (kept_then (F := fun _ => False) (kept_below h9) k3 (fun k hk => .inr ?_))
    rcases hk with rfl | hk
    · exact h5.2
    · exact h7 k hk
  · have h11 := h10 k hk
    refine ⟨Nat.lt_of_lt_of_le h11.1 k3.size, h11.2.1, fun hf => ?_⟩
    rcases foot_next k2 k hf with h | h
    · exact h11.2.2 h
    · omega

/-- Old blocks stay. -/
theorem pks_old {w0 w : World} {F : Nat → Prop} {vin : Value} {ls : List PkM} (hz : PksZ w0 (fun k => k < w0.heap.size) vin ls) (hb : Below w0.heap.size w0 w) (hF : ∀ k, F k → w0.heap.size ≤ k) : ∀ w', Kept F w w' → PksIn w' vin ls := fun w' hk =>
  pksZ_in hz (fun k hlt _ => by
    rw [hk.blk k (Nat.lt_of_lt_of_le hlt hb.size) (fun hf => by have := hF k hf; omega)]
    exact hb.block k hlt) (Nat.le_trans hb.size hk.size)

theorem foot_new {w0 : World} {g : Nat} {v : Value} (hg : w0.heap.size ≤ g) (hv : ∀ k, v.ownBlock = some k → w0.heap.size ≤ k) : ∀ k, Foot g v k → w0.heap.size ≤ k := by
  rintro k (rfl | hk)
  · exact hg
  · exact hv k hk
section
variable {w0 w : World} {Z : Nat → Prop} {g h : Nat} {ps qs : List PkM}

theorem both_send (H : Both w0 w Z g h ps qs) {vin : Value} {ls : List PkM} (hz : PksZ w0 (fun k => k < w0.heap.size) vin ls) (hn : ls.length ≤ 100) (hl : ps.length ≤ 64) :
    Calls Try.prog 13 #[.pointer (some ⟨g, 0, none⟩), vin] w fun e w' => e = .returned (.int .i64 (sendM ps ls).1) ∧ Both w0 w' Z g h (sendM ps ls).2 qs ∧ Stay w w' Z := by
  obtain ⟨v, rs, v2, rs2, h1, h2, rfl, rfl, h5, h6, h7, h8, h9, h10⟩ := H
  refine (nsend_any h1 ls vin (pks_old hz h9 (foot_new h5.1 h6)) (by omega) (by simpa using hl)).mono ?_
  rintro e w' ⟨rfl, rs', hV, hm, _⟩
  have := both_n h1 h2 h5 h6 h7 h8 h9 h10 hV
  rw [hm] at this
  exact ⟨rfl, this⟩

theorem both_rsend (H : Both w0 w Z g h ps qs) {vin : Value} {ls : List PkM} (hz : PksZ w0 (fun k => k < w0.heap.size) vin ls) (hn : ls.length ≤ 100) (hl : qs.length ≤ 64) :
    Calls Try.prog 14 #[.pointer (some ⟨h, 0, none⟩), vin] w fun e w' => e = .returned (.int .i64 (sendM qs ls).1) ∧ Both w0 w' Z g h ps (sendM qs ls).2 ∧ Stay w w' Z := by
  obtain ⟨v, rs, v2, rs2, h1, h2, rfl, rfl, h5, h6, h7, h8, h9, h10⟩ := H
  refine (rsend_any h2 ls vin (pks_old hz h9 (foot_new h5.2 h7)) hn (by simpa using hl)).mono ?_
  rintro e w' ⟨rfl, rs', hV, hm, _⟩
  have := both_r h1 h2 h5 h6 h7 h8 h9 h10 hV
  rw [hm] at this
  exact ⟨rfl, this⟩

theorem both_deliver (H : Both w0 w Z g h ps qs) {k : Nat} {p : PkM} (hk : ps[k]? = some p) (hl : ps.length ≤ 64) :
    Calls Try.prog 15 #[.pointer (some ⟨g, 0, none⟩), .int .i64 k] w fun e w' => ∃ a c, e = .returned (.tuple #[.agg #[.int .i64 p.f, .int .i64 p.t, .slice a p.b.length c], .bool true]) ∧ w'.ownsRow 0 5 1 (.slice a p.b.length c) p.b.length (p.b.map byteV) ∧ p.b.length ≤ 140737488351232 ∧ Both w0 w' Z g h (ps.eraseIdx k) qs ∧ Stay w w' Z := by
  obtain ⟨v, rs, v2, rs2, h1, h2, rfl, rfl, h5, h6, h7, h8, h9, h10⟩ := H
  rw [List.getElem?_map] at hk
  obtain ⟨r, hr, rfl⟩ := Option.map_eq_some_iff.1 hk
  refine (deliver_yes h1 hr (by rw [List.length_map] at hl; omega)).mono ?_
  rintro e w' ⟨a, c, hu, rfl, hV, hby⟩
  have := both_n h1 h2 h5 h6 h7 h8 h9 h10 hV
  rw [erase_map] at this
  exact ⟨a, c, rfl, by rw [← hu]; exact hby.1, hby.2, this⟩

theorem both_rdeliver (H : Both w0 w Z g h ps qs) {k : Nat} {p : PkM} (hk : qs[k]? = some p) (hl : qs.length ≤ 64) :
    Calls Try.prog 16 #[.pointer (some ⟨h, 0, none⟩), .int .i64 k] w fun e w' => ∃ a c, e = .returned (.tuple #[.agg #[.int .i64 p.f, .int .i64 p.t, .slice a p.b.length c], .bool true]) ∧ w'.ownsRow 0 5 1 (.slice a p.b.length c) p.b.length (p.b.map byteV) ∧ p.b.length ≤ 140737488351232 ∧ Both w0 w' Z g h ps (qs.eraseIdx k) ∧ Stay w w' Z := by
  obtain ⟨v, rs, v2, rs2, h1, h2, rfl, rfl, h5, h6, h7, h8, h9, h10⟩ := H
  rw [List.getElem?_map] at hk
  obtain ⟨r, hr, rfl⟩ := Option.map_eq_some_iff.1 hk
  refine (rdeliver_yes h2 hr (by rw [List.length_map] at hl; omega)).mono ?_
  rintro e w' ⟨a, c, hu, rfl, hV, hby⟩
  have := both_r h1 h2 h5 h6 h7 h8 h9 h10 hV
  rw [erase_map] at this
  exact ⟨a, c, rfl, by rw [← hu]; exact hby.1, hby.2, this⟩

theorem both_drop (H : Both w0 w Z g h ps qs) {k : Nat} {p : PkM} (hk : ps[k]? = some p) (hl : ps.length ≤ 64) :
    Calls Try.prog 18 #[.pointer (some ⟨g, 0, none⟩), .int .i64 k] w fun e w' => e = .returned (.bool true) ∧ Both w0 w' Z g h (ps.eraseIdx k) qs ∧ Stay w w' Z := by
  obtain ⟨v, rs, v2, rs2, h1, h2, rfl, rfl, h5, h6, h7, h8, h9, h10⟩ := H
  rw [List.getElem?_map] at hk
  obtain ⟨r, hr, rfl⟩ := Option.map_eq_some_iff.1 hk
  refine (drop_yes h1 hr (by rw [List.length_map] at hl; omega)).mono ?_
  rintro e w' ⟨rfl, hV⟩
  have := both_n h1 h2 h5 h6 h7 h8 h9 h10 hV
  rw [erase_map] at this
  exact ⟨rfl, this⟩

theorem both_twice (H : Both w0 w Z g h ps qs) {k : Nat} {p : PkM} (hk : ps[k]? = some p) (hl : ps.length < 64) :
    Calls Try.prog 19 #[.pointer (some ⟨g, 0, none⟩), .int .i64 k] w fun e w' => e = .returned (.bool true) ∧ Both w0 w' Z g h (ps ++ [p]) qs ∧ Stay w w' Z := by
  obtain ⟨v, rs, v2, rs2, h1, h2, rfl, rfl, h5, h6, h7, h8, h9, h10⟩ := H
  rw [List.getElem?_map] at hk
  obtain ⟨r, hr, rfl⟩ := Option.map_eq_some_iff.1 hk
  refine (ntwice_yes h1 hr (by rw [List.length_map] at hl; omega)).mono ?_
  rintro e w' ⟨rfl, u', hu, hV⟩
  have := both_n h1 h2 h5 h6 h7 h8 h9 h10 hV
  rw [List.map_append] at this
  exact ⟨rfl, this⟩

theorem both_twice_no (H : Both w0 w Z g h ps qs) {k : Int} (hk : inNB k ps.length = false ∨ ¬ ps.length < 64) :
    Calls Try.prog 19 #[.pointer (some ⟨g, 0, none⟩), .int .i64 k] w fun e w' => e = .returned (.bool false) ∧ Both w0 w' Z g h ps qs ∧ Stay w w' Z := by
  have H0 := H
  obtain ⟨v, rs, v2, rs2, h1, h2, rfl, rfl, h5, h6, h7, h8, h9, h10⟩ := H
  refine (ntwice_no h1 (by simpa using hk)).mono ?_
  rintro e w' ⟨rfl, hw⟩
  cases hw
  exact ⟨rfl, H0, fun _ _ => rfl, fun _ _ _ h => h⟩

theorem both_rtwice (H : Both w0 w Z g h ps qs) {k : Nat} {p : PkM} (hk : qs[k]? = some p) (hl : qs.length ≤ 64) :
    Calls Try.prog 20 #[.pointer (some ⟨h, 0, none⟩), .int .i64 k] w fun e w' => e = .returned (.bool (((sendM qs [p]).1 : Int) == 1)) ∧ Both w0 w' Z g h ps (sendM qs [p]).2 ∧ Stay w w' Z := by
  obtain ⟨v, rs, v2, rs2, h1, h2, rfl, rfl, h5, h6, h7, h8, h9, h10⟩ := H
  rw [List.getElem?_map] at hk
  obtain ⟨r, hr, rfl⟩ := Option.map_eq_some_iff.1 hk
  refine (rtwice_yes h2 hr (by simpa using hl)).mono ?_
  rintro e w' ⟨rfl, rs', hV, hm, _⟩
  have := both_r h1 h2 h5 h6 h7 h8 h9 h10 hV
  rw [hm] at this
  exact ⟨rfl, this⟩

theorem both_clear (H : Both w0 w Z g h ps qs) (k : Int) (hl : ps.length ≤ 64) :
    Calls Try.prog 21 #[.pointer (some ⟨g, 0, none⟩), .int .i64 k] w fun e w' => e = .returned (.int .i64 ((ps.length - (leftM k ps).length : Nat) : Int)) ∧ Both w0 w' Z g h (leftM k ps) qs ∧ Stay w w' Z := by
  obtain ⟨v, rs, v2, rs2, h1, h2, rfl, rfl, h5, h6, h7, h8, h9, h10⟩ := H
  refine (nclear_any h1 k (by simpa using hl)).mono ?_
  rintro e w' ⟨⟨q, rfl, hq⟩, hV⟩
  have := both_n h1 h2 h5 h6 h7 h8 h9 h10 hV
  rw [keepM_map] at this
  refine ⟨ret_int ?_, this⟩
  rw [← keepM_map, List.length_map, List.length_map]
  omega

theorem both_rclear (H : Both w0 w Z g h ps qs) (k : Int) (hl : qs.length ≤ 64) :
    Calls Try.prog 22 #[.pointer (some ⟨h, 0, none⟩), .int .i64 k] w fun e w' => e = .returned (.int .i64 ((qs.length - (leftM k qs).length : Nat) : Int)) ∧ Both w0 w' Z g h ps (leftM k qs) ∧ Stay w w' Z := by
  obtain ⟨v, rs, v2, rs2, h1, h2, rfl, rfl, h5, h6, h7, h8, h9, h10⟩ := H
  refine (rclear_any h2 k (by simpa using hl)).mono ?_
  rintro e w' ⟨⟨q, rfl, hq⟩, hV⟩
  have := both_r h1 h2 h5 h6 h7 h8 h9 h10 hV
  rw [keepM_map] at this
  refine ⟨ret_int ?_, this⟩
  rw [← keepM_map, List.length_map, List.length_map]
  omega

theorem both_len (H : Both w0 w Z g h ps qs) : Calls Try.prog 25 #[.pointer (some ⟨g, 0, none⟩)] w fun e w' => e = .returned (.int .i64 ps.length) ∧ w' = w := by
  obtain ⟨v, rs, v2, rs2, h1, h2, rfl, rfl, h5, h6, h7, h8, h9, h10⟩ := H
  rw [List.length_map]
  exact nlen_any h1

theorem both_cell (H : Both w0 w Z g h ps qs) : ∃ a c, w.cell? ⟨h, 0, none⟩ = some (.slice a qs.length c) := by
  obtain ⟨v, rs, v2, rs2, h1, h2, rfl, rfl, h5, h6, h7, h8, h9, h10⟩ := H
  obtain ⟨a, c, rfl⟩ := own_len h2.2.1
  rw [List.length_map]
  exact ⟨a, c, Rw.cell h2.1 rfl⟩

theorem both_row (H : Both w0 w Z g h ps qs) {k : Nat} {p : PkM} (hk : qs[k]? = some p) : ∃ (gr c : Nat) (a2 : Option Addr) (c2 : Nat), w.cell? ⟨h, 0, none⟩ = some (.slice (some ⟨gr, 0, none⟩) qs.length c) ∧ w.rangeAt gr (k * 3) [.int .i64 p.f, .int .i64 p.t, .slice a2 p.b.length c2] ∧ w.ownsRow 0 5 1 (.slice a2 p.b.length c2) p.b.length (p.b.map byteV) := by
  obtain ⟨v, rs, v2, rs2, h1, h2, rfl, rfl, h5, h6, h7, h8, h9, h10⟩ := H
  rw [List.getElem?_map] at hk
  obtain ⟨r, hr, rfl⟩ := Option.map_eq_some_iff.1 hk
  obtain ⟨gr, c, rfl, hc, hrange⟩ := ownP_range h2.2.1 hr
  have ho := (h2.2.2 r (List.mem_of_getElem? hr)).1
  obtain ⟨a2, c2, hu⟩ := own_len ho
  rw [hu] at ho hrange
  rw [List.length_map]
  exact ⟨gr, c, a2, c2, Rw.cell h2.1 rfl, hrange, ho⟩

theorem both_peek (H : Both w0 w Z g h ps qs) {k : Nat} {p : PkM} (hk : ps[k]? = some p) :
    Calls Try.prog 23 #[.pointer (some ⟨g, 0, none⟩), .int .i64 k] w fun e w' => ∃ a c, e = .returned (.tuple #[.agg #[.int .i64 p.f, .int .i64 p.t, .slice a p.b.length c], .bool true]) ∧ w'.ownsRow w.heap.size 5 1 (.slice a p.b.length c) p.b.length (p.b.map byteV) ∧ p.b.length ≤ 140737488351232 ∧ Below w.heap.size w w' := by
  obtain ⟨v, rs, v2, rs2, h1, h2, rfl, rfl, h5, h6, h7, h8, h9, h10⟩ := H
  rw [List.getElem?_map] at hk
  obtain ⟨r, hr, rfl⟩ := Option.map_eq_some_iff.1 hk
  have hb := (h1.2.2 r (List.mem_of_getElem? hr)).2
  refine (peek_yes h1 hr).mono ?_
  rintro e w' ⟨a, c, rfl, ho, hw⟩
  exact ⟨a, c, rfl, ho, hb, hw⟩

theorem both_rpeek (H : Both w0 w Z g h ps qs) {k : Nat} {p : PkM} (hk : qs[k]? = some p) :
    Calls Try.prog 24 #[.pointer (some ⟨h, 0, none⟩), .int .i64 k] w fun e w' => ∃ a c, e = .returned (.tuple #[.agg #[.int .i64 p.f, .int .i64 p.t, .slice a p.b.length c], .bool true]) ∧ w'.ownsRow 0 5 1 (.slice a p.b.length c) p.b.length (p.b.map byteV) ∧ Below w.heap.size w w' := by
  obtain ⟨v, rs, v2, rs2, h1, h2, rfl, rfl, h5, h6, h7, h8, h9, h10⟩ := H
  rw [List.getElem?_map] at hk
  obtain ⟨r, hr, rfl⟩ := Option.map_eq_some_iff.1 hk
  have hb := (h2.2.2 r (List.mem_of_getElem? hr)).1
  refine (rpeek_yes h2 hr).mono ?_
  rintro e w' ⟨a, c, hu, rfl, hw⟩
  exact ⟨a, c, rfl, by rw [← hu]; exact own_below hb hw, hw⟩

theorem both_no_deliver (H : Both w0 w Z g h ps qs) {k : Int} (hk : inNB k ps.length = false) :
    Calls Try.prog 15 #[.pointer (some ⟨g, 0, none⟩), .int .i64 k] w fun e w' => e = .returned (.tuple #[zeroPk, .bool false]) ∧ Below w.heap.size w w' := by
  obtain ⟨v, rs, v2, rs2, h1, h2, rfl, rfl, h5, h6, h7, h8, h9, h10⟩ := H
  exact deliver_no h1 (by simpa using hk)

theorem both_no_rdeliver (H : Both w0 w Z g h ps qs) {k : Int} (hk : inNB k qs.length = false) :
    Calls Try.prog 16 #[.pointer (some ⟨h, 0, none⟩), .int .i64 k] w fun e w' => e = .returned (.tuple #[zeroPk, .bool false]) ∧ Below w.heap.size w w' := by
  obtain ⟨v, rs, v2, rs2, h1, h2, rfl, rfl, h5, h6, h7, h8, h9, h10⟩ := H
  exact rdeliver_no h2 (by simpa using hk)

theorem both_no_drop (H : Both w0 w Z g h ps qs) {k : Int} (hk : inNB k ps.length = false) :
    Calls Try.prog 18 #[.pointer (some ⟨g, 0, none⟩), .int .i64 k] w fun e w' => e = .returned (.bool false) ∧ Below w.heap.size w w' := by
  obtain ⟨v, rs, v2, rs2, h1, h2, rfl, rfl, h5, h6, h7, h8, h9, h10⟩ := H
  exact drop_no h1 (by simpa using hk)

theorem both_no_rtwice (H : Both w0 w Z g h ps qs) {k : Int} (hk : inNB k qs.length = false) :
    Calls Try.prog 20 #[.pointer (some ⟨h, 0, none⟩), .int .i64 k] w fun e w' => e = .returned (.bool false) ∧ Both w0 w' Z g h ps qs ∧ Stay w w' Z := by
  have H0 := H
  obtain ⟨v, rs, v2, rs2, h1, h2, rfl, rfl, h5, h6, h7, h8, h9, h10⟩ := H
  refine (rtwice_no h2 (by simpa using hk)).mono ?_
  rintro e w' ⟨rfl, hb⟩
  exact ⟨rfl, both_less (both_below H0 hb) (fun _ h => .inl h), fun k hk => hb.block k (h10 k hk).1, fun _ _ _ ho => own_below ho hb⟩

theorem both_no_peek (H : Both w0 w Z g h ps qs) {k : Int} (hk : inNB k ps.length = false) :
    Calls Try.prog 23 #[.pointer (some ⟨g, 0, none⟩), .int .i64 k] w fun e w' => e = .returned (.tuple #[zeroPk, .bool false]) ∧ Below w.heap.size w w' := by
  obtain ⟨v, rs, v2, rs2, h1, h2, rfl, rfl, h5, h6, h7, h8, h9, h10⟩ := H
  exact peek_no h1 (by simpa using hk)

theorem both_no_rpeek (H : Both w0 w Z g h ps qs) {k : Int} (hk : inNB k qs.length = false) :
    Calls Try.prog 24 #[.pointer (some ⟨h, 0, none⟩), .int .i64 k] w fun e w' => e = .returned (.tuple #[zeroPk, .bool false]) ∧ Below w.heap.size w w' := by
  obtain ⟨v, rs, v2, rs2, h1, h2, rfl, rfl, h5, h6, h7, h8, h9, h10⟩ := H
  exact rpeek_no h2 (by simpa using hk)
end

end Go.Proofs.Ytneomfhlkdpnjaa
