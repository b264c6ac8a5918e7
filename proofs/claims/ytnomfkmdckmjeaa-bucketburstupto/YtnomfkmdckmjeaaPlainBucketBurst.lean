/-
  ONE SOURCE's turns, said plainly.
-/
import Derived.Test.YtnomfkmdckmjeaaPlainBucketFair
namespace Go.Proofs.Ytnomfkmdckmjeaa.bkt
open Go.Maps Go.WideShapes Go.RowKit

/-- A bucket at the time now, in which f has x left. -/
structure One (f : Nat) (S : St) (now x : Nat) : Prop where
  ok : S.Ok
  t : S.t = now
  x : left S.l f = x
  nb : ∀ p ∈ S.l, p.1 ∈ nb f
theorem One.start (f : Nat) : One f ⟨0, []⟩ 0 5 := ⟨St.Ok.start, rfl, rfl, fun _ h => absurd h List.not_mem_nil⟩
theorem One.le {f : Nat} {S : St} {now x : Nat} (h : One f S now x) : x ≤ 5 := by rw [← h.x]; exact left_le h.ok f
theorem One.turn {f : Nat} (hf : f < 4294967296) {S : St} {now x : Nat} (h : One f S now x) (r : Nat) (hr : now + r ≤ 1099511627776) :
    err S f ((now + r : Nat) : Int) = (if min 5 (x + r) = 0 then 15 else 0) ∧ One f (nxt S f ((now + r : Nat) : Int)) (now + r) (min 5 (x + r) - 1) := by
  have ht : S.t ≤ now + r := by rw [h.t]; omega
  have hp := h.ok.pass (m := now + r) hr
  have hro : look (pass S.l (now + r - S.t)) f = none → (pass S.l (now + r - S.t)).length ≠ 16 := fun e => room hp.keys (nb_pass h.nb) (nb_self hf) e
  have hl : left (pass S.l (now + r - S.t)) f = min 5 (x + r) := by
    rw [left_pass h.ok.keys, h.x, h.t]
    congr 2
    omega
  refine ⟨?_, h.ok.nxt hf _, ?_, ?_, ?_⟩
  · rw [(good ht hr f).1, err_room hro, hl]
  · rw [(good ht hr f).2]
  · rw [(good ht hr f).2]
    show left (nxt' _ f) f = _
    rw [left_nxt hro, if_pos rfl, hl]
  · rw [(good ht hr f).2]
    exact nb_nxt (nb_pass h.nb) (nb_self hf)
theorem One.back {f : Nat} {S : St} {now x : Nat} (h : One f S now x) : err S f ((now : Int) - 1) = 1 ∧ nxt S f ((now : Int) - 1) = S := bad_err (decide_eq_true (.inl (by rw [h.t]; omega))) f
end Go.Proofs.Ytnomfkmdckmjeaa.bkt
