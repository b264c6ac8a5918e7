/-
  TWO BUCKETS, said plainly: what one source has left in both, whoever else takes turns in one of them, as long as there are no more than sixteen.
-/
import Derived.Test.YtnomfkmdckmjeaaPlainBucketFull
namespace Go.Proofs.Ytnomfkmdckmjeaa.bkt
open Go.Maps Go.WideShapes Go.RowKit

theorem look_pass {L : List Ent} (hn : (L.map (·.1)).Nodup) (t x : Nat) : look (pass L t) x = (look L x).bind fun v => if v + t < 5 then some (v + t) else none := by
  induction L with
  | nil => rfl
  | cons p L ih =>
    rw [List.map_cons, List.nodup_cons] at hn
    have ih := ih hn.2
    unfold pass at ih ⊢
    rw [List.map_cons, List.filter_cons]
    by_cases c : p.1 = x
    · have h1 : look (p :: L) x = some p.2 := by unfold look; rw [if_pos c]
      have h2 : look L x = none := look_of_not fun q hq e => hn.1 (List.mem_map.2 ⟨q, hq, e.trans c.symm⟩)
      rw [h1]
      show _ = if p.2 + t < 5 then some (p.2 + t) else none
      by_cases d : p.2 + t < 5
      · rw [if_pos (by simpa using d), if_pos d]
        show (if p.1 = x then some (p.2 + t) else _) = _
        rw [if_pos c]
      · rw [if_neg (by simpa using d), if_neg d, ih, h2]
        rfl
    · have h1 : look (p :: L) x = look L x := by
        show (if p.1 = x then some p.2 else look L x) = look L x
        rw [if_neg c]
      rw [h1, ← ih]
      split
      · show (if p.1 = x then some (p.2 + t) else _) = _
        rw [if_neg c]
      · rfl
theorem left_pass {L : List Ent} (hn : (L.map (·.1)).Nodup) (t x : Nat) : left (pass L t) x = min 5 (left L x + t) := by
  unfold left
  rw [look_pass hn]
  cases look L x with
  | none => show 5 = _; rw [show (none : Option Nat).getD 5 = 5 from rfl]; omega
  | some v =>
    show (if v + t < 5 then some (v + t) else none).getD 5 = min 5 (v + t)
    split
    · show v + t = _; omega
    · show 5 = _; omega
theorem look_upd (L : List Ent) (x v y : Nat) : look (upd L x v) y = if y = x ∧ (look L x).isSome then some v else look L y := by
  induction L with
  | nil => simp [upd, look]
  | cons p L ih =>
    unfold upd at ih ⊢
    rw [List.map_cons]
    by_cases c : p.1 = x
    · rw [if_pos c]
      have h1 : look (p :: L) x = some p.2 := by unfold look; rw [if_pos c]
      rw [h1]
      by_cases d : y = x
      · subst d
        rw [if_pos ⟨rfl, rfl⟩]
        show (if y = y then some v else _) = _
        rw [if_pos rfl]
      · rw [if_neg (fun h => d h.1)]
        show (if x = y then some v else _) = (if p.1 = y then some p.2 else look L y)
        rw [if_neg (fun h => d h.symm), if_neg (fun h => d (h.symm.trans c)), ih, if_neg (fun h => d h.1)]
    · rw [if_neg c]
      have h1 : look (p :: L) x = look L x := by
        show (if p.1 = x then some p.2 else look L x) = look L x
        rw [if_neg c]
      rw [h1]
      show (if p.1 = y then some p.2 else _) = _
      by_cases d : p.1 = y
      · rw [if_pos d, if_neg (fun h => c (d.trans h.1))]
        show _ = (if p.1 = y then some p.2 else look L y)
        rw [if_pos d]
      · rw [if_neg d, ih]
        split
        · rfl
        · show _ = (if p.1 = y then some p.2 else look L y)
          rw [if_neg d]
theorem look_app (L : List Ent) (p : Ent) (y : Nat) : look (L ++ [p]) y = (look L y).or (if p.1 = y then some p.2 else none) := by
  induction L with
  | nil => simp [look]
  | cons q L ih =>
    show (if q.1 = y then some q.2 else look (L ++ [p]) y) = ((if q.1 = y then some q.2 else look L y).or _)
    split
    · rfl
    · exact ih
theorem look_put (L : List Ent) (x v y : Nat) : look (put L x v) y = if y = x then some v else look L y := by
  cases hc : look L x with
  | none =>
    rw [put_new hc, look_app]
    show (look L y).or (if x = y then some v else none) = _
    by_cases d : y = x
    · rw [if_pos d, d, hc, if_pos rfl]; rfl
    · rw [if_neg d, if_neg (fun h => d h.symm)]
      cases look L y <;> rfl
  | some u =>
    rw [put_old hc, look_upd, hc]
    by_cases d : y = x
    · rw [if_pos d, if_pos ⟨d, rfl⟩]
    · rw [if_neg d, if_neg (fun h => d h.1)]
theorem left_put (L : List Ent) (x v y : Nat) : left (put L x v) y = if y = x then v else left L y := by
  unfold left
  rw [look_put]
  split <;> rfl
theorem len_le_of_subset {l m : List Nat} (hn : l.Nodup) (hs : ∀ x ∈ l, x ∈ m) : l.length ≤ m.length := by
  induction l generalizing m with
  | nil => exact Nat.zero_le _
  | cons a l ih =>
    rw [List.nodup_cons] at hn
    have ha := hs a List.mem_cons_self
    have := ih (m := m.erase a) hn.2 (fun x hx => (List.mem_erase_of_ne (fun e : x = a => hn.1 (by rw [← e]; exact hx))).2 (hs x (List.mem_cons_of_mem _ hx)))
    rw [List.length_erase_of_mem ha] at this
    have hp : 0 < m.length := List.length_pos_of_mem ha
    rw [List.length_cons]
    omega
/-- f and the fifteen behind it. -/
def nb (f : Nat) : List Nat := (List.range 16).map fun j => (f + j) % 4294967296
theorem nb_of {f j : Nat} (hj : j < 16) : (f + j) % 4294967296 ∈ nb f := List.mem_map.2 ⟨j, List.mem_range.2 hj, rfl⟩
theorem nb_self {f : Nat} (hf : f < 4294967296) : f ∈ nb f := by
  have := nb_of (f := f) (j := 0) (by decide)
  rwa [Nat.add_zero, Nat.mod_eq_of_lt hf] at this
/-- Who is not there finds room. -/
theorem room {L : List Ent} {f x : Nat} (hn : (L.map (·.1)).Nodup) (hL : ∀ p ∈ L, p.1 ∈ nb f) (hx : x ∈ nb f) (h : look L x = none) : L.length ≠ 16 := by
  have h1 : (x :: L.map (·.1)).Nodup := List.nodup_cons.2 ⟨fun hm => by
    obtain ⟨p, hp, e⟩ := List.mem_map.1 hm
    exact look_none h p hp e, hn⟩
  have h2 := len_le_of_subset h1 (m := nb f) (fun y hy => by
    rcases List.mem_cons.1 hy with rfl | hy
    · exact hx
    · obtain ⟨p, hp, rfl⟩ := List.mem_map.1 hy
      exact hL p hp)
  rw [List.length_cons, List.length_map] at h2
  have : (nb f).length = 16 := by simp [nb]
  omega
theorem nb_pass {L : List Ent} {f t : Nat} (hL : ∀ p ∈ L, p.1 ∈ nb f) : ∀ p ∈ pass L t, p.1 ∈ nb f := by
  intro p hp
  have := (pass_keys L t).subset (List.mem_map.2 ⟨p, hp, rfl⟩)
  obtain ⟨q, hq, e⟩ := List.mem_map.1 this
  rw [← e]
  exact hL q hq
theorem nb_put {L : List Ent} {f x v : Nat} (hL : ∀ p ∈ L, p.1 ∈ nb f) (hx : x ∈ nb f) : ∀ p ∈ put L x v, p.1 ∈ nb f := by
  intro p hp
  unfold put at hp
  split at hp
  · have : p.1 ∈ (upd L x v).map (·.1) := List.mem_map.2 ⟨p, hp, rfl⟩
    rw [upd_keys] at this
    obtain ⟨q, hq, e⟩ := List.mem_map.1 this
    rw [← e]
    exact hL q hq
  · rcases List.mem_append.1 hp with hp | hp
    · exact hL p hp
    · obtain rfl : p = (x, v) := by simpa using hp
      exact hx
theorem err_room {L : List Ent} {x : Nat} (h : look L x = none → L.length ≠ 16) : err' L x = if left L x = 0 then 15 else 0 := by
  unfold err' left
  cases hc : look L x with
  | none =>
    show (if L.length = 16 then 9 else 0) = _
    rw [if_neg (h hc)]
    rfl
  | some v => cases v <;> rfl
theorem left_nxt {L : List Ent} {x : Nat} (h : look L x = none → L.length ≠ 16) (y : Nat) : left (nxt' L x) y = if y = x then left L x - 1 else left L y := by
  unfold nxt'
  rw [err_room h]
  by_cases c : left L x = 0
  · rw [if_pos c, if_neg (by decide)]
    split
    · rename_i e; rw [e, c]
    · rfl
  · rw [if_neg c, if_pos rfl, left_put]
theorem nb_nxt {L : List Ent} {f x : Nat} (hL : ∀ p ∈ L, p.1 ∈ nb f) (hx : x ∈ nb f) : ∀ p ∈ nxt' L x, p.1 ∈ nb f := by
  unfold nxt'
  split
  · exact nb_put hL hx
  · exact hL
theorem bad_err {S : St} {now : Int} (h : bad S now = true) (x : Nat) : err S x now = 1 ∧ nxt S x now = S := by
  unfold err nxt
  rw [h]
  exact ⟨rfl, rfl⟩
theorem bad_neg (S : St) : bad S (-1) = true := decide_eq_true (.inl (by omega))
/-- What x has left by the time T. -/
def lf (S : St) (x T : Nat) : Nat := min 5 (left S.l x + (T - S.t))
/-- Both buckets say the same of f, from now on. -/
structure Inv (f : Nat) (A B : St) (now : Nat) : Prop where
  a : A.Ok
  b : B.Ok
  ta : A.t ≤ now
  tb : B.t ≤ now
  na : ∀ p ∈ A.l, p.1 ∈ nb f
  nb : ∀ p ∈ B.l, p.1 ∈ nb f
  same : ∀ T, now ≤ T → lf A f T = lf B f T
theorem Inv.start (f : Nat) : Inv f ⟨0, []⟩ ⟨0, []⟩ 0 := ⟨St.Ok.start, St.Ok.start, Nat.le_refl _, Nat.le_refl _, (fun _ h => absurd h List.not_mem_nil), (fun _ h => absurd h List.not_mem_nil), fun _ _ => rfl⟩
theorem Inv.later {f : Nat} {A B : St} {now n : Nat} (h : Inv f A B now) (hn : now ≤ n) : Inv f A B n := ⟨h.a, h.b, Nat.le_trans h.ta hn, Nat.le_trans h.tb hn, h.na, h.nb, fun T hT => h.same T (Nat.le_trans hn hT)⟩
theorem good {S : St} {n : Nat} (h : S.t ≤ n) (hn : n ≤ 1099511627776) (x : Nat) : err S x (n : Int) = err' (pass S.l (n - S.t)) x ∧ nxt S x (n : Int) = ⟨n, nxt' (pass S.l (n - S.t)) x⟩ := by
  have hb : bad S (n : Int) = false := decide_eq_false (by omega)
  unfold err nxt
  rw [hb]
  exact ⟨rfl, rfl⟩
theorem late {S : St} {n : Nat} (hn : ¬ n ≤ 1099511627776) (x : Nat) : err S x (n : Int) = 1 ∧ nxt S x (n : Int) = S := bad_err (decide_eq_true (.inr (by omega))) x
theorem lf_nxt {S : St} (hS : S.Ok) {f x n : Nat} (hk : ∀ p ∈ S.l, p.1 ∈ nb f) (hx : x ∈ nb f) (h : S.t ≤ n) (hn : n ≤ 1099511627776) (y T : Nat) (hT : n ≤ T) :
    lf (nxt S x (n : Int)) y T = if y = x then min 5 (lf S x n - 1 + (T - n)) else lf S y T := by
  have hp := hS.pass (m := n) hn
  rw [(good h hn x).2]
  unfold lf
  show min 5 (left (nxt' _ x) y + (T - n)) = _
  rw [left_nxt (fun e => room hp.keys (nb_pass hk) hx e)]
  split
  · rw [left_pass hS.keys]
  · rw [left_pass hS.keys]
    omega
theorem Inv.both {f : Nat} (hf : f < 4294967296) {A B : St} {now n : Nat} (h : Inv f A B now) (hn : now ≤ n) : err A f (n : Int) = err B f (n : Int) ∧ Inv f (nxt A f (n : Int)) (nxt B f (n : Int)) n := by
  have h' := h.later hn
  by_cases c : n ≤ 1099511627776
  · have pa := h.a.pass (m := n) c
    have pb := h.b.pass (m := n) c
    have ra : look (pass A.l (n - A.t)) f = none → (pass A.l (n - A.t)).length ≠ 16 := fun e => room pa.keys (nb_pass h.na) (nb_self hf) e
    have rb : look (pass B.l (n - B.t)) f = none → (pass B.l (n - B.t)).length ≠ 16 := fun e => room pb.keys (nb_pass h.nb) (nb_self hf) e
    have hs := h.same n hn
    refine ⟨?_, ⟨h.a.nxt hf _, h.b.nxt hf _, ?_, ?_, ?_, ?_, fun T hT => ?_⟩⟩
    · rw [(good h'.ta c f).1, (good h'.tb c f).1, err_room ra, err_room rb, left_pass h.a.keys, left_pass h.b.keys]
      unfold lf at hs
      rw [hs]
    · rw [(good h'.ta c f).2]; exact Nat.le_refl _
    · rw [(good h'.tb c f).2]; exact Nat.le_refl _
    · rw [(good h'.ta c f).2]; exact nb_nxt (nb_pass h.na) (nb_self hf)
    · rw [(good h'.tb c f).2]; exact nb_nxt (nb_pass h.nb) (nb_self hf)
    · rw [lf_nxt h.a h.na (nb_self hf) h'.ta c f T hT, lf_nxt h.b h.nb (nb_self hf) h'.tb c f T hT, if_pos rfl, if_pos rfl, hs]
  · rw [(late c f).1, (late c f).1, (late c f).2, (late c f).2]
    exact ⟨rfl, h'⟩
theorem Inv.other {f x : Nat} (hx : x < 4294967296) (hxf : x ∈ bkt.nb f) (hne : f ≠ x) {A B : St} {now n : Nat} (h : Inv f A B now) (hn : now ≤ n) : Inv f A (nxt B x (n : Int)) n := by
  have h' := h.later hn
  by_cases c : n ≤ 1099511627776
  · refine ⟨h.a, h.b.nxt hx _, h'.ta, ?_, h.na, ?_, fun T hT => ?_⟩
    · rw [(good h'.tb c x).2]; exact Nat.le_refl _
    · rw [(good h'.tb c x).2]; exact nb_nxt (nb_pass h.nb) hxf
    · rw [lf_nxt h.b h.nb hxf h'.tb c f T hT, if_neg hne]
      exact h'.same T hT
  · rw [(late c x).2]
    exact h'
end Go.Proofs.Ytnomfkmdckmjeaa.bkt
