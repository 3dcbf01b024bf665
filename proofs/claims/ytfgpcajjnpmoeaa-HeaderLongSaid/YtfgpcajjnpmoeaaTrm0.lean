/- Trimming in plain words. -/
import Derived.Test.YtfgpcajjnpmoeaaKit
import Derived.Test.YtfgpcajjnpmoeaaAsc2
namespace Go.Proofs.Ytfgpcajjnpmoeaa
open Go.RowKit Go.Proofs

theorem trimF_head : ∀ {l : List UInt8} {c : UInt8} {r : List UInt8}, trimF l = c :: r → isSp c = false
  | [], _, _, h => by cases h
  | d :: l, c, r, h => by
    unfold trimF at h
    rw [List.dropWhile_cons] at h
    split at h
    · exact trimF_head (l := l) h
    · rename_i hd
      rw [← (List.cons.inj h).1]
      simpa using hd

theorem trimF_idem (l : List UInt8) : trimF (trimF l) = trimF l := by
  cases h : trimF l with
  | nil => rfl
  | cons c r =>
    unfold trimF
    rw [List.dropWhile_cons, if_neg (by simp [trimF_head h])]

theorem trimF_skip (p l : List UInt8) (h : ∀ c ∈ p, isSp c = true) : trimF (p ++ l) = trimF l := by
  induction p with
  | nil => rfl
  | cons c p ih =>
    rw [List.cons_append]
    have := ih (fun d hd => h d (by simp [hd]))
    unfold trimF at *
    rw [List.dropWhile_cons, if_pos (h c (by simp))]
    exact this

theorem trimR_skip (p l : List UInt8) (h : ∀ c ∈ p, isSp c = true) : trimR (l ++ p) = trimR l := by
  unfold trimR
  rw [List.reverse_append, trimF_skip p.reverse l.reverse (fun c hc => h c (List.mem_reverse.1 hc))]

theorem trimF_app (l p : List UInt8) (h : ∀ c ∈ p, isSp c = true) : trimR (trimF (l ++ p)) = trimR (trimF l) := by
  unfold trimF
  rw [List.dropWhile_append]
  split
  · rename_i he
    rw [List.isEmpty_iff.1 he]
    have : trimF p = [] := by
      have := trimF_skip p [] h
      rw [List.append_nil] at this
      rw [this]; rfl
    show trimR (trimF p) = trimR []
    rw [this]
  · exact trimR_skip p _ h

theorem trimL_eq (l : List UInt8) : trimL l = trimR (trimF l) := rfl

theorem trimL_pads (p l q : List UInt8) (hp : ∀ c ∈ p, isSp c = true) (hq : ∀ c ∈ q, isSp c = true) : trimL (p ++ l ++ q) = trimL l := by
  rw [trimL_eq, List.append_assoc, trimF_skip p _ hp, trimF_app l q hq, trimL_eq]

theorem trimR_pre (l : List UInt8) : ∃ t, l = trimR l ++ t := by
  obtain ⟨t, ht⟩ := List.dropWhile_suffix isSp (l := l.reverse)
  refine ⟨t.reverse, ?_⟩
  have := congrArg List.reverse ht
  rw [List.reverse_append, List.reverse_reverse] at this
  exact this.symm

theorem trimL_first {l : List UInt8} {c : UInt8} {r : List UInt8} (h : trimL l = c :: r) : isSp c = false := by
  rw [trimL_eq] at h
  obtain ⟨t, ht⟩ := trimR_pre (trimF l)
  rw [h, List.cons_append] at ht
  exact trimF_head ht

theorem trimL_last {l : List UInt8} {c : UInt8} {r : List UInt8} (h : trimL l = r ++ [c]) : isSp c = false := by
  unfold trimL at h
  have := congrArg List.reverse h
  rw [List.reverse_reverse, List.reverse_append] at this
  exact trimF_head this

theorem trimL_idem (l : List UInt8) : trimL (trimL l) = trimL l := by
  have h1 : trimF (trimL l) = trimL l := by
    cases h : trimL l with
    | nil => rfl
    | cons c r =>
      unfold trimF
      rw [List.dropWhile_cons, if_neg (by simp [trimL_first h])]
  rw [trimL_eq, h1]
  unfold trimL trimR
  rw [List.reverse_reverse, trimF_idem]

end Go.Proofs.Ytfgpcajjnpmoeaa
