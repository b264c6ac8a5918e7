/-
  A BUCKET that sixteen sources fill, said plainly.
-/
import Derived.Test.YtnomfkmdckmjeaaPlainBucket
namespace Go.Proofs.Ytnomfkmdckmjeaa.bkt
open Go.Maps Go.WideShapes Go.RowKit

theorem wrapU (n : Int) : IntKind.u32.wrap n = n % 4294967296 := by
  simp only [IntKind.wrap, IntKind.signed, IntKind.bits, Bool.false_and, Bool.false_eq_true, if_false]
  rfl
theorem put_new {L : List Ent} {x : Nat} (h : look L x = none) (v : Nat) : put L x v = L ++ [(x, v)] := by
  unfold put
  rw [h]
  rfl
theorem put_old {L : List Ent} {x u : Nat} (h : look L x = some u) (v : Nat) : put L x v = upd L x v := by
  unfold put
  rw [h]
  rfl
theorem look_of_not {L : List Ent} {x : Nat} (h : ∀ p ∈ L, p.1 ≠ x) : look L x = none := by
  cases hc : look L x with
  | none => rfl
  | some v => exact absurd rfl (h _ (look_mem hc))
theorem pass_zero {L : List Ent} (h : ∀ p ∈ L, p.2 < 5) : pass L 0 = L := by
  unfold pass
  have : (L.map fun p => (p.1, p.2 + 0)) = L := by
    conv => rhs; rw [← List.map_id L]
    exact List.map_congr_left fun p _ => rfl
  rw [this]
  exact List.filter_eq_self.2 fun p hp => by simpa using h p hp
/-- The first i sources behind f. -/
def fl (f i : Nat) : List Ent := (List.range i).map fun j => ((f + j) % 4294967296, 4)
theorem fl_zero (f : Nat) : fl f 0 = [] := rfl
theorem fl_succ (f i : Nat) : fl f (i + 1) = fl f i ++ [((f + i) % 4294967296, 4)] := by
  unfold fl
  rw [List.range_succ, List.map_append]
  rfl
theorem fl_len (f i : Nat) : (fl f i).length = i := by simp [fl]
theorem fl_mem {f i : Nat} {p : Ent} (h : p ∈ fl f i) : ∃ j, j < i ∧ p = ((f + j) % 4294967296, 4) := by
  unfold fl at h
  obtain ⟨j, hj, rfl⟩ := List.mem_map.1 h
  exact ⟨j, List.mem_range.1 hj, rfl⟩
theorem fl_none (f i k : Nat) (hi : i ≤ k) (hk : k ≤ 100) : look (fl f i) ((f + k) % 4294967296) = none := by
  refine look_of_not fun p hp => ?_
  obtain ⟨j, hj, rfl⟩ := fl_mem hp
  show (f + j) % 4294967296 ≠ (f + k) % 4294967296
  omega
theorem fl_pass (f i : Nat) : pass (fl f i) 0 = fl f i := pass_zero fun p hp => by obtain ⟨j, _, rfl⟩ := fl_mem hp; exact (by decide : 4 < 5)
theorem fl_ok (f i : Nat) (hi : i ≤ 16) : St.Ok ⟨0, fl f i⟩ := by
  refine ⟨Nat.zero_le _, ?_, fun p hp => ?_, by show (fl f i).length ≤ 16; rw [fl_len]; exact hi⟩
  · show ((fl f i).map (·.1)).Nodup
    induction i with
    | zero => exact List.nodup_nil
    | succ i ih =>
      rw [fl_succ, List.map_append, List.nodup_append]
      refine ⟨ih (by omega), by simp, fun a ha b hb => ?_⟩
      obtain ⟨p, hp, rfl⟩ := List.mem_map.1 ha
      have hb : b = (f + i) % 4294967296 := by simpa using hb
      rw [hb]
      exact look_none (fl_none f i i (Nat.le_refl _) (by omega)) p hp
  · obtain ⟨j, _, rfl⟩ := fl_mem hp
    exact ⟨Nat.mod_lt _ (by decide), (by decide : 4 < 5)⟩
theorem fl_take (f i : Nat) (hi : i < 16) : err ⟨0, fl f i⟩ ((f + i) % 4294967296) 0 = 0 ∧ nxt ⟨0, fl f i⟩ ((f + i) % 4294967296) 0 = ⟨0, fl f (i + 1)⟩ := by
  have hb : bad ⟨0, fl f i⟩ 0 = false := rfl
  have hl := fl_none f i i (Nat.le_refl _) (by omega)
  have he : err' (fl f i) ((f + i) % 4294967296) = 0 := by
    unfold err'
    rw [hl]
    show (if (fl f i).length = 16 then 9 else 0) = 0
    rw [fl_len, if_neg (by omega)]
  refine ⟨?_, ?_⟩
  · unfold err
    rw [hb]
    show err' (pass (fl f i) 0) _ = 0
    rw [fl_pass, he]
  · unfold nxt
    rw [hb]
    show St.mk 0 (nxt' (pass (fl f i) 0) _) = _
    rw [fl_pass]
    unfold nxt'
    rw [he, if_pos rfl, put_new hl]
    have : left (fl f i) ((f + i) % 4294967296) = 5 := by unfold left; rw [hl]; rfl
    rw [this, fl_succ]
theorem fl_full (f : Nat) : err ⟨0, fl f 16⟩ ((f + 16) % 4294967296) 0 = 9 ∧ nxt ⟨0, fl f 16⟩ ((f + 16) % 4294967296) 0 = ⟨0, fl f 16⟩ := by
  have hb : bad ⟨0, fl f 16⟩ 0 = false := rfl
  have hl := fl_none f 16 16 (Nat.le_refl _) (by omega)
  have he : err' (fl f 16) ((f + 16) % 4294967296) = 9 := by
    unfold err'
    rw [hl]
    show (if (fl f 16).length = 16 then 9 else 0) = 9
    rw [fl_len, if_pos rfl]
  refine ⟨?_, ?_⟩
  · unfold err
    rw [hb]
    show err' (pass (fl f 16) 0) _ = 9
    rw [fl_pass, he]
  · unfold nxt
    rw [hb]
    show St.mk 0 (nxt' (pass (fl f 16) 0) _) = _
    rw [fl_pass]
    unfold nxt'
    rw [he, if_neg (by decide)]
/-- The fifteen behind f. -/
def rs (f : Nat) : List Ent := (List.range 15).map fun j => ((f + (j + 1)) % 4294967296, 4)
theorem fl_cons (f : Nat) (hf : f < 4294967296) : fl f 16 = (f, 4) :: rs f := by
  unfold fl rs
  rw [List.range_succ_eq_map, List.map_cons, List.map_map]
  have e : ((f + 0) % 4294967296, 4) = (f, 4) := by rw [Nat.add_zero, Nat.mod_eq_of_lt hf]
  show ((f + 0) % 4294967296, 4) :: _ = _
  rw [e]
  rfl
theorem rs_mem {f : Nat} {p : Ent} (h : p ∈ rs f) : ∃ j, j < 15 ∧ p = ((f + (j + 1)) % 4294967296, 4) := by
  unfold rs at h
  obtain ⟨j, hj, rfl⟩ := List.mem_map.1 h
  exact ⟨j, List.mem_range.1 hj, rfl⟩
theorem rs_ne {f : Nat} (_hf : f < 4294967296) {p : Ent} (h : p ∈ rs f) : p.1 ≠ f := by
  obtain ⟨j, hj, rfl⟩ := rs_mem h
  show (f + (j + 1)) % 4294967296 ≠ f
  omega
theorem fl_one (f : Nat) (hf : f < 4294967296) : err ⟨0, fl f 16⟩ f 0 = 0 ∧ nxt ⟨0, fl f 16⟩ f 0 = ⟨0, (f, 3) :: rs f⟩ := by
  have hb : bad ⟨0, fl f 16⟩ 0 = false := rfl
  have hl : look (fl f 16) f = some 4 := by
    rw [fl_cons f hf]
    show (if f = f then some 4 else _) = _
    rw [if_pos rfl]
  have he : err' (fl f 16) f = 0 := by
    unfold err'
    rw [hl]
    rfl
  refine ⟨?_, ?_⟩
  · unfold err
    rw [hb]
    show err' (pass (fl f 16) 0) _ = 0
    rw [fl_pass, he]
  · unfold nxt
    rw [hb]
    show St.mk 0 (nxt' (pass (fl f 16) 0) _) = _
    rw [fl_pass]
    unfold nxt'
    rw [he, if_pos rfl, put_old hl]
    have : left (fl f 16) f = 4 := by unfold left; rw [hl]; rfl
    rw [this, fl_cons f hf]
    unfold upd
    rw [List.map_cons, if_pos rfl]
    refine congrArg (St.mk 0) (congrArg (List.cons (f, 3)) ?_)
    conv => rhs; rw [← List.map_id (rs f)]
    refine List.map_congr_left fun p hp => ?_
    rw [if_neg (rs_ne hf hp)]; rfl
theorem rs_pass (f : Nat) : pass ((f, 3) :: rs f) 1 = [(f, 4)] := by
  unfold pass
  rw [List.map_cons, List.filter_cons, if_pos (show decide (4 < 5) = true from rfl)]
  refine congrArg (List.cons (f, 4)) ?_
  rw [List.filter_eq_nil_iff]
  intro p hp
  obtain ⟨q, hq, rfl⟩ := List.mem_map.1 hp
  obtain ⟨j, hj, rfl⟩ := rs_mem hq
  exact (by decide : ¬ decide (4 + 1 < 5) = true)
theorem rs_ok (f : Nat) (hf : f < 4294967296) : St.Ok ⟨0, (f, 3) :: rs f⟩ := by
  have := (fl_ok f 16 (Nat.le_refl _)).nxt hf 0
  rwa [(fl_one f hf).2] at this
theorem rs_take (f : Nat) (_hf : f < 4294967296) : err ⟨0, (f, 3) :: rs f⟩ ((f + 16) % 4294967296) 1 = 0 ∧ nxt ⟨0, (f, 3) :: rs f⟩ ((f + 16) % 4294967296) 1 = ⟨1, [(f, 4), ((f + 16) % 4294967296, 4)]⟩ := by
  have hb : bad ⟨0, (f, 3) :: rs f⟩ 1 = false := rfl
  have hl : look [(f, 4)] ((f + 16) % 4294967296) = none := by
    refine look_of_not fun p hp => ?_
    obtain rfl : p = (f, 4) := by simpa using hp
    show f ≠ _
    omega
  have he : err' [(f, 4)] ((f + 16) % 4294967296) = 0 := by
    unfold err'
    rw [hl]
    rfl
  refine ⟨?_, ?_⟩
  · unfold err
    rw [hb]
    show err' (pass ((f, 3) :: rs f) 1) _ = 0
    rw [rs_pass, he]
  · unfold nxt
    rw [hb]
    show St.mk 1 (nxt' (pass ((f, 3) :: rs f) 1) _) = _
    rw [rs_pass]
    unfold nxt'
    rw [he, if_pos rfl, put_new hl]
    have : left [(f, 4)] ((f + 16) % 4294967296) = 5 := by unfold left; rw [hl]; rfl
    rw [this]
    rfl
theorem rs_ok2 (f : Nat) (hf : f < 4294967296) : St.Ok ⟨1, [(f, 4), ((f + 16) % 4294967296, 4)]⟩ := by
  have := (rs_ok f hf).nxt (x := (f + 16) % 4294967296) (Nat.mod_lt _ (by decide)) 1
  rwa [(rs_take f hf).2] at this
theorem rs_left (f : Nat) (_hf : f < 4294967296) : left [(f, 4), ((f + 16) % 4294967296, 4)] ((f + 16) % 4294967296) = 4 ∧ left [(f, 4), ((f + 16) % 4294967296, 4)] ((f + 17) % 4294967296) = 5 := by
  unfold left look look look
  refine ⟨?_, ?_⟩
  · rw [if_neg (by show f ≠ _; omega), if_pos rfl]; rfl
  · rw [if_neg (by show f ≠ _; omega), if_neg (by show (f + 16) % 4294967296 ≠ _; omega)]; rfl
end Go.Proofs.Ytnomfkmdckmjeaa.bkt
