/- csp: the first directives of a list; names that are apart. -/
import Derived.Test.YtceajdpjablfiaaShelf
import Derived.BigRegion
import Derived.BigQuiet
import Derived.Test.YtceajdpjablfiaaProg
import Derived.Test.YtceajdpjablfiaaKit
import Derived.Test.YtceajdpjablfiaaPlain
import Derived.Test.YtceajdpjablfiaaCsp0
import Derived.Test.YtceajdpjablfiaaCsp1
namespace Go.Proofs.Ytceajdpjablfiaa
open Go.RowKit Go.Proofs

theorem dirs_take {w : World} {a : Option Addr} {n c : Nat} {ds : List DirM} (h : DirsAt w (.slice a n c) ds) {k : Nat} (hk : k ≤ ds.length) (c2 : Nat) : DirsAt w (.slice a k c2) (ds.take k) := by
  obtain ⟨a1, c1, he, hc⟩ := h
  injection he with e1 e2 e3
  subst e1
  refine ⟨a, c2, by rw [List.length_take, Nat.min_eq_left hk], ?_⟩
  rcases hc with rfl | ⟨b, o, rfl, hat⟩
  · exact .inl (by simp)
  · refine .inr ⟨b, o, rfl, fun j d hj => hat j d ?_⟩
    rw [List.getElem?_take] at hj
    split at hj
    · exact hj
    · cases hj

/-- l[:k] of a row of directives of the call's own. -/
theorem dirs_head {w : World} {base : Nat} {v : Value} {ds : List DirM} (h : OwnD w base v ds) {k : Nat} (hk : k ≤ ds.length) :
    ∃ va vc, v = .slice va ds.length vc ∧ DirsAt w (.slice va k vc) (ds.take k) ∧ ∀ W, (Instr.slice 24 (.slice va ds.length vc) none (some (.int .i64 (k : Int))) none).run Try.prog W = .ok (.slice va k vc) W := by
  have hat := ownD_at h
  obtain ⟨rs, _, hown, _⟩ := h
  rcases hown.2 with ⟨hv, hn⟩ | ⟨g, cap, cur, hv, _, hh, hnc, _⟩
  · have h0 : k = 0 := by omega
    subst h0
    refine ⟨none, 0, by rw [hv, hn], ?_, fun W => ?_⟩
    · rw [hv] at hat
      exact dirs_take hat (by omega) 0
    · rw [hn]
      show (Instr.slice 24 (.slice none 0 0) none (some (.int .i64 (0 : Int))) none).run Try.prog W = _
      rw [run_slice_h W 24 none 0 0 (by kernel_rfl) .i64 0 (by omega) (by omega), show (Go.sizeOf (Try.prog.elem 24)).run Try.prog W = .ok 2 W from by kernel_rfl]
      simp [Result.andThen, sliced]
  · refine ⟨some ⟨g, 0, none⟩, cap, hv, ?_, fun W => ?_⟩
    · rw [hv] at hat
      exact dirs_take hat hk cap
    · rw [run_slice_h W 24 (some ⟨g, 0, none⟩) ds.length cap (by kernel_rfl) .i64 k (by omega) (by omega), show (Go.sizeOf (Try.prog.elem 24)).run Try.prog W = .ok 2 W from by kernel_rfl]
      simp [Result.andThen, sliced, Addr.add]

/-- A byte of a name that was read. -/
theorem name_byte {d : DirM} (h : neatD d) {c : UInt8} (hc : c ∈ d.cdn) : (c.toNat < 65 ∨ 90 < c.toNat) ∧ c.toNat < 128 := by
  have h1 := (h.1.2 c hc).2.1
  refine ⟨?_, h1⟩
  have h2 : lowB c = c := by
    have e := h.2.1
    unfold lowL at e
    obtain ⟨j, hj⟩ := List.mem_iff_getElem?.1 hc
    have h3 : (d.cdn.map lowB)[j]? = some (lowB c) := by rw [List.getElem?_map, hj]; rfl
    rw [e, hj] at h3
    exact (Option.some.inj h3).symm
  have h4 := lowB_toNat c
  rw [h2] at h4
  unfold lowI at h4
  split at h4
  · omega
  · omega

theorem apart_at {ds : List DirM} (h : apartD ds) {i k : Nat} (hik : i < k) {d e : DirM} (hi : ds[i]? = some d) (hk : ds[k]? = some e) : d.cdn ≠ e.cdn := by
  unfold apartD at h
  rw [List.pairwise_iff_getElem] at h
  obtain ⟨h1, rfl⟩ := List.getElem?_eq_some_iff.1 hi
  obtain ⟨h2, rfl⟩ := List.getElem?_eq_some_iff.1 hk
  exact h i k h1 h2 hik

end Go.Proofs.Ytceajdpjablfiaa
