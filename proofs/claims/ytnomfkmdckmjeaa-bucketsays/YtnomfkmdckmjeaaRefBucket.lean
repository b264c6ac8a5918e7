/-
  THE DOCUMENT's BUCKET: two lists, side by side: Of, Take.
-/
import Derived.Test.YtnomfkmdckmjeaaPlainBucketRef
import Derived.Test.YtnomfkmdckmjeaaChg
import Derived.Test.YtnomfkmdckmjeaaBut
import Derived.Deep.AppendLies
import Derived.Maps.AppendAt
import Derived.OwnWalk
namespace Go.Proofs.Ytnomfkmdckmjeaa.rbkt
open Go.RowKit
open bkt

theorem infoU : (Try.prog.info? 30).map (fun i => (i.zero, i.size, i.bytes)) = some (some (.int .u32 0), 1, 4) := by kernel_rfl
theorem infoI : (Try.prog.info? 3).map (fun i => (i.zero, i.size, i.bytes)) = some (some (.int .i64 0), 1, 8) := by kernel_rfl
theorem row_form {w : World} {base : Nat} {e : TypeId} {size n : Nat} {v : Value} {xs : List Value} (h : w.ownsRow base e size v n xs) : ∃ a c, v = .slice a n c := by
  rcases h.2 with ⟨rfl, rfl⟩ | ⟨g, cap, cur, rfl, _⟩
  · exact ⟨_, _, rfl⟩
  · exact ⟨_, _, rfl⟩
theorem row_chg {w w' : World} {base : Nat} {e : TypeId} {size n : Nat} {v : Value} {xs : List Value} {F : Nat → Prop} (h : w.ownsRow base e size v n xs) (hc : Chg F w w') (hF : ∀ k, v.ownBlock = some k → ¬ F k) : w'.ownsRow base e size v n xs := by
  refine ⟨h.1, ?_⟩
  rcases h.2 with hn | ⟨g, cap, cur, rfl, hb, hg, rest⟩
  · exact .inl hn
  · exact .inr ⟨g, cap, cur, rfl, hb, (hc.same g (Array.getElem?_eq_some_iff.1 hg).1 (hF g rfl)).trans hg, rest⟩
theorem row_low {w : World} {base base' : Nat} {e : TypeId} {size n : Nat} {v : Value} {xs : List Value} (h : w.ownsRow base e size v n xs) (hb : base' ≤ base) : w.ownsRow base' e size v n xs :=
  ⟨h.1, h.2.imp id fun ⟨g, cap, cur, h1, h2, h3⟩ => ⟨g, cap, cur, h1, Nat.le_trans hb h2, h3⟩⟩
/-- Where element k lies. -/
theorem at_keys {w : World} {base n m c k : Nat} {a : Option Addr} {xs : List Value} (h : w.ownsRow base 30 1 (.slice a n c) m xs) (hm : n = m) (hk : k < n) (v : Value) (hv : xs[k]? = some v) :
    ∃ g, a = some ⟨g, 0, none⟩ ∧ base ≤ g ∧ g < w.heap.size ∧ (∀ W : World, (Instr.indexAt 26 (.slice a n c) (.int .i64 (k : Int))).run Try.prog W = .ok (.pointer (some ⟨g, k, none⟩)) W) ∧ w.cell? ⟨g, k, none⟩ = some v := by
  subst hm
  obtain ⟨g, cap, he, hb, hg⟩ := h.form (by omega)
  injection he with e1 e2 e3
  subst e1
  refine ⟨g, rfl, hb, hg, fun W => ?_, ?_⟩
  · rw [run_indexAt_slice (h := Try.underlying26), if_pos ⟨by omega, by omega⟩]
    simp [Addr.add, show Try.prog.elem 26 = 30 from by kernel_rfl]
    exact Eq.symm
  · rw [h.cellAt k (by omega), hv]
theorem at_lefts {w : World} {base n m c k : Nat} {a : Option Addr} {xs : List Value} (h : w.ownsRow base 3 1 (.slice a n c) m xs) (hm : n = m) (hk : k < n) (v : Value) (hv : xs[k]? = some v) :
    ∃ g, a = some ⟨g, 0, none⟩ ∧ base ≤ g ∧ g < w.heap.size ∧ (∀ W : World, (Instr.indexAt 27 (.slice a n c) (.int .i64 (k : Int))).run Try.prog W = .ok (.pointer (some ⟨g, k, none⟩)) W) ∧ w.cell? ⟨g, k, none⟩ = some v := by
  subst hm
  obtain ⟨g, cap, he, hb, hg⟩ := h.form (by omega)
  injection he with e1 e2 e3
  subst e1
  refine ⟨g, rfl, hb, hg, fun W => ?_, ?_⟩
  · rw [run_indexAt_slice (h := Try.underlying27), if_pos ⟨by omega, by omega⟩]
    simp [Addr.add, show Try.prog.elem 27 = 3 from by kernel_rfl]
    exact Eq.symm
  · rw [h.cellAt k (by omega), hv]
/-- Two lists side by side, which share nothing, from block D on. -/
structure Two (w : World) (D : Nat) (v1 v2 : Value) (M : List Ent) : Prop where
  k : w.ownsRow D 30 1 v1 M.length (ks M)
  l : w.ownsRow D 3 1 v2 M.length (ls M)
  d : ∀ j, v1.ownBlock = some j → v2.ownBlock ≠ some j
theorem Two.nil (w : World) (D : Nat) : Two w D (.slice none 0 0) (.slice none 0 0) [] := ⟨World.ownsRow_nil _ _ _ _, World.ownsRow_nil _ _ _ _, fun _ h => by cases h⟩
theorem Two.chg {w w' : World} {D : Nat} {v1 v2 : Value} {M : List Ent} {F : Nat → Prop} (h : Two w D v1 v2 M) (hc : Chg F w w') (hF : ∀ k, D ≤ k → k < w.heap.size → ¬ F k) : Two w' D v1 v2 M :=
  ⟨row_chg h.k hc fun k hk => hF k (h.k.lt k hk).1 (h.k.lt k hk).2, row_chg h.l hc fun k hk => hF k (h.l.lt k hk).1 (h.l.lt k hk).2, h.d⟩
theorem Two.mono {w : World} {C D : Nat} {v1 v2 : Value} {M : List Ent} (h : Two w D v1 v2 M) (hC : C ≤ D) : Two w C v1 v2 M := ⟨row_low h.k hC, row_low h.l hC, h.d⟩
theorem Two.mid {w w4 : World} {D : Nat} {v1 v2 : Value} {M : List Ent} (h : Two w D v1 v2 M) (o1 : Obj) (g1 : (w.alloc o1).grownBy w4 v1.ownBlock) : w4.ownsRow D 3 1 v2 M.length (ls M) := by
  refine (h.l.alloc o1).kept g1 ?_
  cases e : v2.ownBlock with
  | none => exact .inl rfl
  | some j => exact .inr fun e2 => h.d j e2.symm e
theorem Two.push {w w4 w6 : World} {D : Nat} {v1 v2 v1' v2' : Value} {M : List Ent} (h : Two w D v1 v2 M) (p : Ent) (o1 o2 : Obj) (h1 : w4.ownsRow D 30 1 v1' (M.length + 1) (ks M ++ [.int .u32 (p.1 : Int)])) (_g1 : (w.alloc o1).grownBy w4 v1.ownBlock) (b1 : v1'.ownBlock = v1.ownBlock ∨ v1'.ownBlock = some (w.alloc o1).heap.size)
    (h2 : w6.ownsRow D 3 1 v2' (M.length + 1) (ls M ++ [.int .i64 (p.2 : Int)])) (g2 : (w4.alloc o2).grownBy w6 v2.ownBlock) (b2 : v2'.ownBlock = v2.ownBlock ∨ v2'.ownBlock = some (w4.alloc o2).heap.size) : Two w6 D v1' v2' (M ++ [p]) := by
  have hd : ∀ j, v1'.ownBlock = some j → v2.ownBlock ≠ some j := fun j hj e => by
    rcases b1 with b1 | b1
    · exact h.d j (b1 ▸ hj) e
    · have h3 := (h.l.lt j e).2
      rw [hj, World.size_alloc] at b1
      injection b1 with b1
      omega
  refine ⟨?_, ?_, fun j hj e => ?_⟩
  · rw [List.length_append, ks_app]
    refine (h1.alloc o2).kept g2 ?_
    cases e : v1'.ownBlock with
    | none => exact .inl rfl
    | some j => exact .inr fun e2 => hd j e e2.symm
  · rw [List.length_append, ls_app]
    exact h2
  · rcases b2 with b2 | b2
    · exact hd j hj (b2 ▸ e)
    · have h3 := (h1.lt j hj).2
      rw [e, World.size_alloc] at b2
      injection b2 with b2
      omega
/-- What an append of both turns. -/
theorem push_below {w w4 w6 : World} {D : Nat} {v1 v2 : Value} {M : List Ent} (h : Two w D v1 v2 M) (hD : D ≤ w.heap.size) (o1 o2 : Obj) (g1 : (w.alloc o1).grownBy w4 v1.ownBlock) (g2 : (w4.alloc o2).grownBy w6 v2.ownBlock) : Below D w w6 := by
  have h1 : Below D w w4 := ((Below.refl D w).alloc hD o1).grown g1 (by simp; omega) (fun j hj => (h.k.lt j hj).1)
  have h4 : D ≤ w4.heap.size := Nat.le_trans hD h1.size
  exact (h1.alloc h4 o2).grown g2 (by simp; omega) (fun j hj => (h.l.lt j hj).1)
/-- The document's bucket in block d. -/
structure RBk (w : World) (d : Nat) (S : St) (a1 : Option Addr) (c1 : Nat) (a2 : Option Addr) (c2 : Nat) : Prop where
  blk : Blk w d 29 [.int .i64 (S.t : Int), .slice a1 S.l.length c1, .slice a2 S.l.length c2]
  two : Two w (d + 1) (.slice a1 S.l.length c1) (.slice a2 S.l.length c2) S.l
def RBm (w : World) (d : Nat) (S : St) : Prop := ∃ a1 c1 a2 c2, RBk w d S a1 c1 a2 c2
theorem RBm.lt {w : World} {d : Nat} {S : St} (h : RBm w d S) : d < w.heap.size := by obtain ⟨_, _, _, _, h⟩ := h; exact h.blk.lt
theorem RBm.chg {w w' : World} {d : Nat} {S : St} {F : Nat → Prop} (h : RBm w d S) (hc : Chg F w w') (hF : ∀ k, d ≤ k → k < w.heap.size → ¬ F k) : RBm w' d S := by
  obtain ⟨a1, c1, a2, c2, h⟩ := h
  exact ⟨a1, c1, a2, c2, hc.blk h.blk (hF d (Nat.le_refl _) h.blk.lt), h.two.chg hc fun k hk => hF k (by omega)⟩
theorem RBm.below {w w' : World} {d : Nat} {S : St} (h : RBm w d S) (hb : Below w.heap.size w w') : RBm w' d S := h.chg (F := fun _ => False) (Chg.below hb) fun _ _ _ => id
set_option maxHeartbeats 1600000 in
theorem Of_any (d : Nat) (S : St) (hk : (S.l.map (·.1)).Nodup) (h16 : S.l.length ≤ 16) (x : Nat) (w : World) (hR : RBm w d S) :
    Calls Try.prog 11 #[.pointer (some ⟨d, 0, none⟩), .int .u32 (x : Int)] w fun e w' => e = .returned (.int .i64 (left S.l x : Int)) ∧ w' = w := by
  obtain ⟨a1, c1, a2, c2, hR⟩ := hR
  have q1 := hR.blk.cell 1 _ rfl
  have q2 := hR.blk.cell 2 _ rfl
  have HT : Hid (Two w (d + 1) (.slice a1 S.l.length c1) (.slice a2 S.l.length c2) S.l) := hR.two
  have HK : Hid ((S.l.map (·.1)).Nodup) := hk
  generalize S.l = L at *
  obtain ⟨n, hn⟩ : ∃ n, n = L.length := ⟨_, rfl⟩
  rw [← hn] at q1 q2 h16 HT
  have HN : Hid (n = L.length) := hn
  clear hR hk hn
  go_enter Try.func11, Try.ntmps11
  go_wp2
  go_loop [12] (fun i => ∃ k : Nat, k ≤ n ∧ i = .int .i64 k ∧ bkt.look (L.take k) x = none) (fun i => n - (intOf i).toNat)
  case atStart => exact ⟨0, Nat.zero_le _, rfl, rfl⟩
  case round =>
    obtain ⟨k, hk, rfl, hx⟩ := hrel
    have hn := HN.out
    have k0 : (0 : Int) ≤ (k : Int) := by omega
    have k1 : (k : Int) ≤ 16 := by omega
    by_cases hlt : k < n
    · have d0 : decide ((k : Int) < (n : Int)) = true := decide_eq_true (by omega)
      have hl : k < L.length := by omega
      obtain ⟨g1, _, _, _, i1, e1⟩ := at_keys HT.out.k hn hlt _ (ks_get hl)
      obtain ⟨g2, _, _, _, i2, e2⟩ := at_lefts HT.out.l hn hlt _ (ls_get hl)
      have htk : L.take (k + 1) = L.take k ++ [L[k]] := List.take_succ_eq_append_getElem hl
      by_cases e : L[k].1 = x
      · have HL : Hid (left L x = L[k].2) := by
          show _ = _
          unfold left
          rw [look_at HK.out hl e]
          rfl
        have t0 : (((L[k].1 : Nat) : Int) == (x : Int)) = true := by rw [beq_iff_eq]; omega
        generalize L[k] = p at *
        clear hx hn e htk
        go_wp2
        go_ret
        exact ⟨by rw [HL.out]; rfl, rfl⟩
      · have HX : Hid (bkt.look (L.take (k + 1)) x = none) := by
          show _ = _
          rw [htk, look_app, hx]
          show (if L[k].1 = x then some L[k].2 else none) = none
          rw [if_neg e]
        have t0 : (((L[k].1 : Nat) : Int) == (x : Int)) = false := by rw [beq_eq_false_iff_ne]; omega
        generalize L[k] = p at *
        clear hx hn e htk
        go_wp2
        go_round
        case rel => exact ⟨k + 1, by omega, by go_num, HX.out⟩
        case measure => simp [intOf]; omega
    · obtain rfl : k = n := by omega
      have d0 : decide ((k : Int) < (k : Int)) = false := decide_eq_false (by omega)
      rw [List.take_of_length_le (by omega)] at hx
      have HL : Hid (left L x = 5) := by
        show _ = _
        unfold left
        rw [hx]
        rfl
      clear hx hn
      go_wp2
      go_ret
      exact ⟨by rw [HL.out]; rfl, rfl⟩
end Go.Proofs.Ytnomfkmdckmjeaa.rbkt
