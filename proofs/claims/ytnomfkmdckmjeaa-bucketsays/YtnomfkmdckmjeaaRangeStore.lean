/-
  'for k := range m { m[k] = v }': A STORE AT A KEY THAT IS THERE, INTO THE MAP THAT IS RANGED OVER: the entry's stamp stays, so nobody else comes and nobody goes.
-/
import Derived.Test.YtnomfkmdckmjeaaProg
import Derived.WalkKit
import Derived.Maps.RangeWalk
namespace Go.Proofs.Ytnomfkmdckmjeaa
open Go.RowKit Go.Maps
open Go.ChangeMaps Go.MapKept Go.WideShapes
open Go.WideElems (Fit rd rg pl rd_key rd_val rg_of other_key rd_mk)

theorem left_len (es : List MapEntry) (seen : Array Nat) (j : Nat) (e0 e1 : MapEntry) (h : es[j]? = some e0) (hb : e1.born = e0.born) :
    ((es.set j e1).filter fun e => !seen.contains e.born).length = (es.filter fun e => !seen.contains e.born).length := by
  have e : ∀ l : List MapEntry, (l.filter fun e => !seen.contains e.born).length = ((l.map (·.born)).filter fun c => !seen.contains c).length := fun l => by
    rw [List.filter_map, List.length_map]; rfl
  rw [e, e, List.map_set, hb]
  congr 2
  obtain ⟨hj, he⟩ := List.getElem?_eq_some_iff.1 h
  apply List.ext_getElem?
  intro i
  rw [List.getElem?_set]
  by_cases c : j = i
  · subst c
    rw [if_pos rfl, if_pos (by simpa using hj)]
    simp [h]
  · rw [if_neg c]
theorem ranges_store {H : Type} {P : Program} {k t e : TypeId} {R : Value → Option (DataW H × List MemPlace)} {w : World} {b r n : Nat} {D : DataW H} {left : Lit → Bool} {cnt : Nat} (h : w.ranges P k R b r n D left cnt) (K : Keyed P k) (ht : P.underlying t = some (.map k e))
    {key val : Value} {kl : Lit} (hkey : keyOf P k key = some kl) (hhas : Maps.has D kl = true) {d : DataW H} {ps : List MemPlace} (hv : R val = some (d, ps)) :
    ∃ w', (Instr.mapUpdate t (.map (some b)) key val).run P w = .ok () w' ∧ w'.ranges P k R b r n (D.put kl d) left cnt ∧ w.mapTurned w' b := by
  have hne := h.ne
  obtain ⟨es, clock, since, seen, c0, hb, F, hs, rfl, hr, hold, rfl, hl1, hl2, hsc, hsk⟩ := h
  have rgk : ∀ x ∈ es.toList, x.key = key → (rg P k R x).1 = kl := fun x hx hxk => by
    obtain ⟨y, hy⟩ := F.reads x hx
    have m1 := rd_key hy
    rw [hxk, hkey] at m1
    rw [rg_of hy]
    exact (Option.some.inj m1).symm
  rcases K.find w hkey es.toList F.keys with ⟨h1, h2⟩ | ⟨j, e0, h1, h2, h3⟩
  · exfalso
    obtain ⟨p, hp, hpk⟩ := List.any_eq_true.1 hhas
    obtain ⟨x, hx, rfl⟩ := List.mem_map.1 (mem_sorted.1 hp)
    obtain ⟨y, hy⟩ := F.reads x hx
    refine h2 x hx (K.inj (rd_key hy) ?_)
    have := WideAt.sameKey_eq hpk
    rw [rg_of hy] at this
    rw [this]
    exact hkey
  · have hj : es[j]? = some e0 := by simpa using h2
    have hjl : j < es.toList.length := (List.getElem?_eq_some_iff.1 h2).1
    have hm0 : e0 ∈ es.toList := List.mem_of_getElem? h2
    have hkeyf : ∀ e', es[j]? = some e' → ({ e' with key := key, val := val } : MapEntry).key = e'.key := fun e' he' => by rw [hj] at he'; cases he'; exact h3.symm
    have hlist : (es.modify j (fun e' => { e' with key := key, val := val })).toList = es.toList.set j { e0 with key := key, val := val } := by rw [Array.toList_modify, modify_eq_set _ _ _ _ h2]
    have who : ∀ x ∈ es.toList.set j { e0 with key := key, val := val }, x = { e0 with key := key, val := val } ∨ (x ∈ es.toList ∧ x.key ≠ key) := by
      intro x hx
      obtain ⟨i, hi, ex⟩ := List.getElem_of_mem hx
      rw [List.getElem_set] at ex
      split at ex
      · exact Or.inl ex.symm
      · rename_i hne
        have hi' : i < es.toList.length := by simpa using hi
        refine Or.inr ⟨ex ▸ List.getElem_mem hi', ?_⟩
        rw [← h3]
        exact other_key F h2 (by rw [List.getElem?_eq_getElem hi', ex]) (fun e1 => hne e1.symm)
    have whoNew : ({ e0 with key := key, val := val } : MapEntry) ∈ es.toList.set j { e0 with key := key, val := val } := List.mem_iff_getElem.2 ⟨j, by simpa using hjl, by simp⟩
    have whoOld : ∀ x ∈ es.toList, x.key ≠ key → x ∈ es.toList.set j { e0 with key := key, val := val } := by
      intro x hx hxk
      obtain ⟨i, hi, ex⟩ := List.getElem_of_mem hx
      have hij : j ≠ i := fun e1 => by
        subst e1
        rw [List.getElem?_eq_getElem hi, ex] at h2
        cases h2
        exact hxk h3
      exact List.mem_iff_getElem.2 ⟨i, by simpa using hi, by rw [List.getElem_set_ne hij]; exact ex⟩
    have hrd : rd P k R { e0 with key := key, val := val } = _ := rd_mk hkey hv
    have rg0 : (rg P k R { e0 with key := key, val := val }).1 = kl := by rw [rg_of hrd]
    have Fnew : Fit P k R (es.modify j (fun e' => { e' with key := key, val := val })) clock := ⟨by simpa using F.size, stamped_modify F.stamped _ _ (fun _ _ => rfl) (fun e' _ he' => hkeyf e' he'), fun x hx => by
      rw [hlist] at hx
      rcases who x hx with rfl | ⟨hx', _⟩
      · exact ⟨_, hrd⟩
      · exact F.reads x hx'⟩
    refine ⟨setBlock w b (.map (es.modify j (fun e' => { e' with key := key, val := val })) clock), ?_, ⟨_, clock, since, seen, c0, heap_setBlock_same hb _, Fnew, by simpa using hs, ?_, (heap_setBlock_other hb _ hne).trans hr, ?_, ?_, ?_, ?_, hsc, hsk⟩, ⟨es, clock, _, clock, hb, rfl⟩⟩
    · simp [Instr.mapUpdate, run_underlying ht, MapKept.run_getObj_map hb, K.check w false hkey, h1, hj, h3, K.stays w hkey, MapKept.run_setObj_map _ hb, Result.andThen, setBlock]
    · rw [DataW.put_eq]
      refine congrArg DataW.map (Eq.symm (sorted_put K.one ⟨key, hkey⟩ (fit_keys F) (fit_apart K F) ?_))
      rw [filter_one K F hkey h2 h3, hlist, List.map_set, rg_of hrd]
      exact set_perm _ _ (by simpa using hjl) _
    · intro x hx
      rw [hlist] at hx
      rcases who x hx with rfl | ⟨hx', _⟩
      · exact hold e0 hm0
      · exact hold x hx'
    · unfold leftOf
      have e1 : ∀ a : Array MapEntry, (a.filter fun e => !seen.contains e.born).size = (a.toList.filter fun e => !seen.contains e.born).length := fun a => by
        rw [← Array.toList_filter, Array.length_toList]
      rw [e1, e1, hlist]
      exact left_len _ _ _ e0 _ h2 rfl
    · intro x hx
      rw [hlist] at hx
      rcases who x hx with rfl | ⟨hx', _⟩
      · rw [rg0, ← rgk e0 hm0 h3]
        exact hl1 e0 hm0
      · exact hl1 x hx'
    · intro kl' hkl'
      obtain ⟨x, hx, hxk⟩ := hl2 kl' hkl'
      rw [hlist]
      by_cases c : x.key = key
      · exact ⟨_, whoNew, by rw [rg0, ← hxk]; exact (rgk x hx c).symm⟩
      · exact ⟨x, whoOld x hx c, hxk⟩
/-- 'm[k] = v' IN THE ROUND, at a key that is there. -/
theorem wpList_store_ranges {H : Type} {P : Program} (w : World) {ops : Array Oper} {rest : List Oper} {o : Oper} {a : Act} {Q : Exit → Act → World → Prop} (hg : o.guard = none) (m x v : Operand) (t : TypeId) (hop : o.op = Op.mapUpdate t m x v)
    (k e : TypeId) (K : Keyed P k) (ht : P.underlying t = some (.map k e)) (R : Value → Option (DataW H × List MemPlace)) (b r n : Nat) (D : DataW H) (left : Lit → Bool) (cnt : Nat)
    (hm : a.eval m = .map (some b)) (h : w.ranges P k R b r n D left cnt) (key val : Value) (kl : Lit) (hx : a.eval x = key) (hv : a.eval v = val) (hkey : keyOf P k key = some kl) (hhas : Maps.has D kl = true) (d : DataW H) (ps : List MemPlace) (hval : R val = some (d, ps))
    (hK : ∀ w', w'.ranges P k R b r n (D.put kl d) left cnt → w.mapTurned w' b → wpList P ops Q rest (a.put o.dst undef) w') : wpList P ops Q (o :: rest) a w := by
  refine wpList_plain hg fun K' hK' => ?_
  obtain ⟨w', hrun, r1, r2⟩ := ranges_store h K ht hkey hhas hval
  unfold Oper.wp
  simp [execOp, hop, hm, hx, hv, hrun, Result.andThen]
  exact hK' _ _ (hK w' r1 r2)
end Go.Proofs.Ytnomfkmdckmjeaa
