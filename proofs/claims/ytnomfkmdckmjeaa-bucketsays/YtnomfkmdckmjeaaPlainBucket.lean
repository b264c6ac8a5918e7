/-
  A BUCKET, said plainly: a time, and a list of those who have fewer than all turns.
-/
import Derived.Test.YtnomfkmdckmjeaaProg
import Derived.Maps.Views
import Derived.Lib.SlMapFilter
import Derived.WalkKit
namespace Go.Proofs.Ytnomfkmdckmjeaa.bkt
open Go.Maps Go.WideShapes Go.RowKit

abbrev Ent := Nat × Nat
/-- So many ticks go by. -/
def pass (L : List Ent) (t : Nat) : List Ent := (L.map fun p => (p.1, p.2 + t)).filter fun p => decide (p.2 < 5)
/-- What x has left, if it is there. -/
def look : List Ent → Nat → Option Nat
  | [], _ => none
  | p :: L, x => if p.1 = x then some p.2 else look L x
/-- x has v left from here on (if it is there). -/
def upd (L : List Ent) (x v : Nat) : List Ent := L.map fun p => if p.1 = x then (x, v) else p
def put (L : List Ent) (x v : Nat) : List Ent := if (look L x).isSome then upd L x v else L ++ [(x, v)]
def left (L : List Ent) (x : Nat) : Nat := (look L x).getD 5
structure St where
  t : Nat
  l : List Ent
structure St.Ok (S : St) : Prop where
  time : S.t ≤ 1099511627776
  keys : (S.l.map (·.1)).Nodup
  each : ∀ p ∈ S.l, p.1 < 4294967296 ∧ p.2 < 5
  few : S.l.length ≤ 16
/-- What a turn at a time 'm' (not below S's) is answered. -/
def err' (L : List Ent) (x : Nat) : Nat := match look L x with
  | some 0 => 15
  | some _ => 0
  | none => if L.length = 16 then 9 else 0
def nxt' (L : List Ent) (x : Nat) : List Ent := if err' L x = 0 then put L x (left L x - 1) else L
def bad (S : St) (now : Int) : Bool := decide (now < (S.t : Int) ∨ 1099511627776 < now)
def err (S : St) (x : Nat) (now : Int) : Nat := if bad S now then 1 else err' (pass S.l (now.toNat - S.t)) x
def nxt (S : St) (x : Nat) (now : Int) : St := if bad S now then S else ⟨now.toNat, nxt' (pass S.l (now.toNat - S.t)) x⟩

/-! ### lists -/
theorem look_mem {L : List Ent} {x v : Nat} (h : look L x = some v) : (x, v) ∈ L := by
  induction L with
  | nil => cases h
  | cons p L ih =>
    unfold look at h
    split at h
    · rename_i c
      cases h
      subst c
      exact List.mem_cons_self
    · exact List.mem_cons_of_mem _ (ih h)
theorem look_none {L : List Ent} {x : Nat} (h : look L x = none) : ∀ p ∈ L, p.1 ≠ x := by
  induction L with
  | nil => intro p hp; cases hp
  | cons p L ih =>
    unfold look at h
    split at h
    · cases h
    · rename_i c
      intro q hq
      rcases List.mem_cons.1 hq with rfl | hq
      · exact c
      · exact ih h q hq
theorem look_of_mem {L : List Ent} (hn : (L.map (·.1)).Nodup) {x v : Nat} (h : (x, v) ∈ L) : look L x = some v := by
  induction L with
  | nil => cases h
  | cons p L ih =>
    rw [List.map_cons, List.nodup_cons] at hn
    unfold look
    rcases List.mem_cons.1 h with rfl | h
    · rw [if_pos rfl]
    · rw [if_neg (fun e => hn.1 (List.mem_map.2 ⟨_, h, e.symm⟩))]
      exact ih hn.2 h
theorem upd_keys (L : List Ent) (x v : Nat) : (upd L x v).map (·.1) = L.map (·.1) := by
  unfold upd
  rw [List.map_map]
  refine List.map_congr_left fun p _ => ?_
  show (if p.1 = x then (x, v) else p).1 = p.1
  split
  · rename_i c; exact c.symm
  · rfl
theorem pass_keys (L : List Ent) (t : Nat) : ((pass L t).map (·.1)).Sublist (L.map (·.1)) := by
  unfold pass
  have : L.map (·.1) = (L.map fun p => (p.1, p.2 + t)).map (·.1) := by rw [List.map_map]; rfl
  rw [this]
  exact List.filter_sublist.map _
theorem pass_len (L : List Ent) (t : Nat) : (pass L t).length ≤ L.length := by
  unfold pass
  have := List.length_filter_le (fun p : Ent => decide (p.2 < 5)) (L.map fun p => (p.1, p.2 + t))
  rwa [List.length_map] at this
theorem put_keys {L : List Ent} (hn : (L.map (·.1)).Nodup) (x v : Nat) : ((put L x v).map (·.1)).Nodup := by
  unfold put
  split
  · rw [upd_keys]; exact hn
  · rename_i c
    have hc : look L x = none := by cases h : look L x with
      | none => rfl
      | some v => rw [h] at c; exact absurd rfl c
    rw [List.map_append, List.nodup_append]
    refine ⟨hn, by simp, fun a ha b hb => ?_⟩
    obtain ⟨p, hp, rfl⟩ := List.mem_map.1 ha
    have : b = x := by simpa using hb
    rw [this]
    exact look_none hc p hp
theorem put_len {L : List Ent} {x v : Nat} : (put L x v).length = if (look L x).isSome then L.length else L.length + 1 := by
  unfold put
  split
  · simp [upd]
  · simp
theorem put_each {L : List Ent} {x v : Nat} (h : ∀ p ∈ L, p.1 < 4294967296 ∧ p.2 < 5) (hx : x < 4294967296) (hv : v < 5) : ∀ p ∈ put L x v, p.1 < 4294967296 ∧ p.2 < 5 := by
  unfold put upd
  intro p hp
  split at hp
  · obtain ⟨q, hq, rfl⟩ := List.mem_map.1 hp
    split
    · exact ⟨hx, hv⟩
    · exact h q hq
  · rcases List.mem_append.1 hp with hp | hp
    · exact h p hp
    · obtain rfl : p = (x, v) := by simpa using hp
      exact ⟨hx, hv⟩
theorem pass_each {L : List Ent} {t : Nat} (h : ∀ p ∈ L, p.1 < 4294967296 ∧ p.2 < 5) : ∀ p ∈ pass L t, p.1 < 4294967296 ∧ p.2 < 5 := by
  intro p hp
  obtain ⟨hp1, hp2⟩ := List.mem_filter.1 hp
  obtain ⟨q, hq, rfl⟩ := List.mem_map.1 hp1
  exact ⟨(h q hq).1, by simpa using hp2⟩
theorem look_lt {S : St} (h : S.Ok) {x v : Nat} (hl : look S.l x = some v) : v < 5 := (h.each _ (look_mem hl)).2
theorem left_le {S : St} (h : S.Ok) (x : Nat) : left S.l x ≤ 5 := by
  unfold left
  cases hl : look S.l x with
  | none => exact Nat.le_refl _
  | some v => have := look_lt h hl; show v ≤ 5; omega
theorem St.Ok.start : St.Ok ⟨0, []⟩ := ⟨by decide, List.nodup_nil, (fun p h => absurd h (List.not_mem_nil)), by decide⟩
theorem St.Ok.pass {S : St} (h : S.Ok) {m : Nat} (hm : m ≤ 1099511627776) : St.Ok ⟨m, bkt.pass S.l (m - S.t)⟩ :=
  ⟨hm, (pass_keys _ _).nodup h.keys, pass_each h.each, Nat.le_trans (pass_len _ _) h.few⟩
theorem St.Ok.nxt' {m : Nat} {L : List Ent} (h : St.Ok ⟨m, L⟩) {x : Nat} (hx : x < 4294967296) : St.Ok ⟨m, bkt.nxt' L x⟩ := by
  unfold bkt.nxt'
  split
  · rename_i he
    have hl := left_le h x
    refine ⟨h.time, put_keys h.keys _ _, put_each h.each hx (by show left L x - 1 < 5; have : left L x ≤ 5 := hl; omega), ?_⟩
    show (put L x _).length ≤ 16
    rw [put_len]
    have h16 : L.length ≤ 16 := h.few
    unfold err' at he
    cases hk : look L x with
    | some v => exact h16
    | none =>
      rw [hk] at he
      simp only at he
      split at he
      · cases he
      · simp; omega
  · exact h
theorem bad_false {S : St} {now : Int} (h : bad S now = false) : (S.t : Int) ≤ now ∧ now ≤ 1099511627776 := by
  have := of_decide_eq_false h
  omega
theorem St.Ok.nxt {S : St} (h : S.Ok) {x : Nat} (hx : x < 4294967296) (now : Int) : (bkt.nxt S x now).Ok := by
  unfold bkt.nxt
  split
  · exact h
  · rename_i hb
    have hb' := bad_false (by simpa using hb)
    exact (h.pass (by omega)).nxt' hx

/-! ### a map that says so -/
def kU (x : Nat) : Lit := .int .u32 (x : Int)
def enc (p : Ent) : Lit × DataW Unit := (kU p.1, .lit (.int .i64 (p.2 : Int)))
theorem kU_key (x : Nat) : WideAt.IsKeyLit (kU x) := trivial
theorem kU_inj {x y : Nat} (h : kU x = kU y) : x = y := by
  unfold kU at h
  injection h with _ h
  omega
/-- The map that D reads says what L says. -/
def Says (D : DataW Unit) (L : List Ent) : Prop := ∃ es, D = .map es ∧ es.Perm (L.map enc)
theorem Says.nil : Says (.map []) [] := ⟨[], rfl, List.Perm.nil⟩
theorem enc_apart {L : List Ent} (hn : (L.map (·.1)).Nodup) : (L.map enc).Pairwise (fun p q => p.1 ≠ q.1) := by
  rw [List.pairwise_map]
  rw [List.Nodup, List.pairwise_map] at hn
  exact hn.imp fun h e => h (kU_inj e)
theorem Says.apart {es : List (Lit × DataW Unit)} {L : List Ent} (h : es.Perm (L.map enc)) (hn : (L.map (·.1)).Nodup) : es.Pairwise (fun p q => p.1 ≠ q.1) :=
  (h.symm.pairwise_iff (fun {a b} (h : a.1 ≠ b.1) => h.symm)).1 (enc_apart hn)
theorem Says.size {D : DataW Unit} {L : List Ent} (h : Says D L) : Maps.size D = L.length := by
  obtain ⟨es, rfl, hp⟩ := h
  show es.length = _
  rw [hp.length_eq, List.length_map]
theorem Says.none {D : DataW Unit} {L : List Ent} (h : Says D L) {x : Nat} (hx : look L x = none) : Maps.has D (kU x) = false := by
  obtain ⟨es, rfl, hp⟩ := h
  rw [Maps.has_eq, List.any_eq_false]
  intro p hp'
  obtain ⟨q, hq, rfl⟩ := List.mem_map.1 (hp.mem_iff.1 hp')
  intro e
  exact look_none hx q hq (kU_inj (WideAt.sameKey_eq e))
theorem Says.some {D : DataW Unit} {L : List Ent} (h : Says D L) (hn : (L.map (·.1)).Nodup) {x v : Nat} (hx : look L x = some v) : Maps.has D (kU x) = true ∧ ∀ z, D.atKey (kU x) z = .lit (.int .i64 (v : Int)) := by
  obtain ⟨es, rfl, hp⟩ := h
  have hm : enc (x, v) ∈ es := hp.mem_iff.2 (List.mem_map.2 ⟨_, look_mem hx, rfl⟩)
  exact ⟨List.any_eq_true.2 ⟨_, hm, WideAt.sameKey_self (kU_key x)⟩, fun z => WideAt.atKey_mem z (kU_key x) (Says.apart hp hn) hm⟩
theorem Says.has {D : DataW Unit} {L : List Ent} (h : Says D L) (hn : (L.map (·.1)).Nodup) (x : Nat) : Maps.has D (kU x) = (look L x).isSome := by
  cases hx : look L x with
  | none => exact h.none hx
  | some v => exact (h.some hn hx).1
theorem Says.at {D : DataW Unit} {L : List Ent} (h : Says D L) (hn : (L.map (·.1)).Nodup) (x : Nat) : D.atKey (kU x) (.lit (.int .i64 0)) = .lit (.int .i64 (((look L x).getD 0 : Nat) : Int)) := by
  cases hx : look L x with
  | none => exact Maps.atKey_of_not_has (h.none hx) _
  | some v => exact (h.some hn hx).2 _
theorem perm_put {L : List Ent} {es : List (Lit × DataW Unit)} (hp : es.Perm (L.map enc)) (x v : Nat) : (DataW.insert (kU x, (.lit (.int .i64 (v : Int)) : DataW Unit)) (es.filter fun p => !p.1.sameKey (kU x))).Perm (enc (x, v) :: (L.filter fun p => decide (p.1 ≠ x)).map enc) := by
  refine (insert_perm _ _).trans (List.Perm.cons _ ?_)
  refine (hp.filter _).trans ?_
  rw [List.filter_map]
  refine List.Perm.of_eq (congrArg (List.map enc) (List.filter_congr fun p _ => ?_))
  show (!(kU p.1).sameKey (kU x)) = _
  by_cases c : p.1 = x
  · rw [c, WideAt.sameKey_self (kU_key x)]; simp
  · rw [Maps.sameKey_ne (fun e => c (kU_inj e))]; simp [c]
theorem upd_perm {L : List Ent} (hn : (L.map (·.1)).Nodup) {x v u : Nat} (hx : look L x = some u) : ((x, v) :: L.filter fun p => decide (p.1 ≠ x)).Perm (upd L x v) := by
  induction L with
  | nil => cases hx
  | cons p L ih =>
    rw [List.map_cons, List.nodup_cons] at hn
    unfold look at hx
    unfold upd
    rw [List.map_cons]
    by_cases c : p.1 = x
    · rw [if_pos c, List.filter_cons, if_neg (by simp [c])]
      have hne : ∀ q ∈ L, q.1 ≠ x := fun q hq e => hn.1 (List.mem_map.2 ⟨q, hq, e.trans c.symm⟩)
      rw [List.filter_eq_self.2 (fun q hq => by simpa using hne q hq)]
      refine List.Perm.cons _ (List.Perm.of_eq ?_)
      conv => lhs; rw [← List.map_id L]
      refine List.map_congr_left fun q hq => ?_
      rw [if_neg (hne q hq)]; rfl
    · rw [if_neg c] at hx ⊢
      rw [List.filter_cons, if_pos (by simpa using c)]
      exact (List.Perm.swap _ _ _).trans (List.Perm.cons _ (ih hn.2 hx))
theorem Says.upd {D : DataW Unit} {L : List Ent} (h : Says D L) (hn : (L.map (·.1)).Nodup) {x v u : Nat} (hx : look L x = Option.some u) : Says (D.put (kU x) (.lit (.int .i64 (v : Int)))) (upd L x v) := by
  obtain ⟨es, rfl, hp⟩ := h
  exact ⟨_, rfl, (perm_put hp x v).trans ((upd_perm hn hx).map enc)⟩
theorem Says.put {D : DataW Unit} {L : List Ent} (h : Says D L) (hn : (L.map (·.1)).Nodup) (x v : Nat) : Says (D.put (kU x) (.lit (.int .i64 (v : Int)))) (put L x v) := by
  cases hx : look L x with
  | some u =>
    have := h.upd (v := v) hn hx
    unfold bkt.put
    rw [hx]
    exact this
  | none =>
    obtain ⟨es, rfl, hp⟩ := h
    refine ⟨_, rfl, (perm_put hp x v).trans ?_⟩
    unfold bkt.put
    rw [hx, List.filter_eq_self.2 (fun q hq => by simpa using look_none hx q hq)]
    rw [if_neg (by simp), List.map_append]
    exact (List.perm_append_singleton _ _).symm
/-- Whom the ticks bring to all turns. -/
def pdOf (t : Int) (_ : Lit) : DataW Unit → Bool
  | .lit (.int _ v) => decide (wrap64 (v + t) ≥ 5)
  | _ => false
theorem pd_lit (t : Int) (k : Lit) (q : IntKind) (v : Int) : pdOf t k (.lit (.int q v)) = decide (wrap64 (v + t) ≥ 5) := rfl
theorem pd_nat {v t : Nat} (hv : v < 5) (ht : t ≤ 1099511627776) : (!decide (wrap64 ((v : Int) + (t : Int)) ≥ 5)) = decide (v + t < 5) := by
  have e : wrap64 ((v : Int) + (t : Int)) = (v : Int) + (t : Int) := by unfold wrap64; omega
  rw [e]
  by_cases c : v + t < 5
  · rw [decide_eq_true c, decide_eq_false (by omega)]; rfl
  · rw [decide_eq_false c, decide_eq_true (by omega)]; rfl
/-- Those who stay, as they were. -/
def stay (L : List Ent) (t : Nat) : List Ent := L.filter fun p => decide (p.2 + t < 5)
theorem stay_enc {L : List Ent} {t : Nat} {T : Int} (hT : T = t) (ht : t ≤ 1099511627776) (hL : ∀ p ∈ L, p.1 < 4294967296 ∧ p.2 < 5) : (L.map enc).filter (fun p => !pdOf T p.1 p.2) = (stay L t).map enc := by
  induction L with
  | nil => rfl
  | cons p L ih =>
    have e : (!pdOf T (enc p).1 (enc p).2) = decide (p.2 + t < 5) := by
      rw [hT]
      exact (congrArg (! ·) (pd_lit (t : Int) (kU p.1) .i64 (p.2 : Int))).trans (pd_nat (hL p List.mem_cons_self).2 ht)
    unfold stay at ih ⊢
    rw [List.map_cons, List.filter_cons, List.filter_cons, e, ih (fun q hq => hL q (List.mem_cons_of_mem _ hq))]
    split <;> rfl
theorem Says.stay {D : DataW Unit} {L : List Ent} (h : Says D L) {t : Nat} {T : Int} (hT : T = t) (ht : t ≤ 1099511627776) (hL : ∀ p ∈ L, p.1 < 4294967296 ∧ p.2 < 5) : Says (Lib.deleteFuncD (pdOf T) D) (stay L t) := by
  obtain ⟨es, rfl, hp⟩ := h
  exact ⟨_, rfl, (hp.filter _).trans (List.Perm.of_eq (stay_enc hT ht hL))⟩
/-- Those who stay: some have had their ticks, some (w) have not. -/
def mid (L : List Ent) (t : Nat) (w : Lit → Bool) : List Ent := L.map fun p => if w (kU p.1) then p else (p.1, p.2 + t)
theorem mid_keys (L : List Ent) (t : Nat) (w : Lit → Bool) : (mid L t w).map (·.1) = L.map (·.1) := by
  unfold mid
  rw [List.map_map]
  refine List.map_congr_left fun p _ => ?_
  show (if w (kU p.1) then p else (p.1, p.2 + t)).1 = p.1
  split <;> rfl
theorem mid_start (L : List Ent) (t : Nat) (w : Lit → Bool) (h : ∀ p ∈ L, w (kU p.1) = true) : mid L t w = L := by
  unfold mid
  conv => rhs; rw [← List.map_id L]
  refine List.map_congr_left fun p hp => ?_
  rw [if_pos (h p hp)]; rfl
theorem mid_end (L : List Ent) (t : Nat) (w : Lit → Bool) (h : ∀ kl, w kl = false) : mid (stay L t) t w = pass L t := by
  unfold mid stay pass
  rw [List.filter_map]
  refine List.map_congr_left fun p hp => ?_
  rw [if_neg (by rw [h]; simp)]
theorem mid_step {L : List Ent} (hn : (L.map (·.1)).Nodup) (t : Nat) (w : Lit → Bool) {x v : Nat} (hx : look L x = some v) : upd (mid L t w) x (v + t) = mid L t (fun z => w z && !z.sameKey (kU x)) := by
  unfold upd mid
  rw [List.map_map]
  refine List.map_congr_left fun p hp => ?_
  show (if (if w (kU p.1) then p else (p.1, p.2 + t)).1 = x then (x, v + t) else (if w (kU p.1) then p else (p.1, p.2 + t))) = _
  have e : (if w (kU p.1) then p else (p.1, p.2 + t)).1 = p.1 := by split <;> rfl
  rw [e]
  show _ = if (w (kU p.1) && !(kU p.1).sameKey (kU x)) = true then p else (p.1, p.2 + t)
  by_cases c : p.1 = x
  · rw [if_pos c, c, WideAt.sameKey_self (kU_key x), if_neg (by simp)]
    have := look_of_mem hn (show (x, p.2) ∈ L by rw [← c]; exact hp)
    rw [hx] at this
    cases this
    rfl
  · rw [if_neg c, Maps.sameKey_ne (fun e => c (kU_inj e))]
    simp
theorem mid_look {L : List Ent} (t : Nat) (w : Lit → Bool) {x : Nat} (hw : w (kU x) = true) : look (mid L t w) x = look L x := by
  induction L with
  | nil => rfl
  | cons p L ih =>
    unfold mid
    rw [List.map_cons]
    unfold look
    have e : (if w (kU p.1) then p else (p.1, p.2 + t)).1 = p.1 := by split <;> rfl
    rw [e]
    by_cases c : p.1 = x
    · rw [if_pos c, if_pos c, c, hw]; simp
    · rw [if_neg c, if_neg c]
      exact ih
end Go.Proofs.Ytnomfkmdckmjeaa.bkt
