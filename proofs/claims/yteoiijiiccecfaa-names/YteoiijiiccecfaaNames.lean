/-
  Names: the closed call returns true: the numbers of errors, kinds and the limits are those of the document.
-/
import Derived.Test.YteoiijiiccecfaaRows
import Derived.Test.YteoiijiiccecfaaEq
import Derived.OpenShut
namespace Go.Proofs.Yteoiijiiccecfaa.names
open Go.ChangeShapes Go.WideShapes Go.ChangeAt Go.RowKit

theorem own : ownKnob Try.prog.godebug = none := by kernel_rfl

theorem cells_ints (u : World) (l : List Int) (t : TypeId) (j : Nat) (h : j < l.length) : (u.alloc (.cells (l.map (Value.int .i64)).toArray t)).cell? ⟨u.heap.size, j, none⟩ = some (.int .i64 (l.getD j 0)) := by
  rw [World.cell?_alloc_mark]
  simp [h]

def errs : List Int := [0, 1, 2, 3, 4, 5, 6, 7, 8, 9, 10, 11, 12, 13, 14, 15]
theorem errs_at : ∀ k, k < 16 → errs.getD k 0 = k := by decide

def limits : List Int := [2000, 1099511627776, 999999999, 64, 64, 8, 4, 1000, 5, 16, 120, 180, 5, 6, 10, 1000, 120, 60, 300, 60, 300]
def kinds : List Int := [1, 2, 1, 2, 3, 4, 0, 1, 2, 3, 1, 2, 3, 4, 5, 6, 1, 2, 3, 4, 5, 6, 7]
theorem past (u : World) (o : Obj) (b j : Nat) (h : b < u.heap.size) : (u.alloc o).cell? ⟨b, j, none⟩ = u.cell? ⟨b, j, none⟩ := by
  have := Below.heap_alloc u o b h
  simp [World.cell?, this]
theorem at1 (w : World) (o : Obj) (l : List Int) (p q : Obj) (t : TypeId) (j : Nat) (h : j < l.length) : ((((w.alloc o).alloc (.cells (l.map (Value.int .i64)).toArray t)).alloc p).alloc q).cell? ⟨w.heap.size + 1, j, none⟩ = some (.int .i64 (l.getD j 0)) := by
  rw [past _ _ _ _ (by simp), past _ _ _ _ (by simp)]
  have := cells_ints (w.alloc o) l t j h
  simpa using this
theorem at2 (w : World) (o p : Obj) (l : List Int) (q r : Obj) (t : TypeId) (j : Nat) (h : j < l.length) : (((((w.alloc o).alloc p).alloc (.cells (l.map (Value.int .i64)).toArray t)).alloc q).alloc r).cell? ⟨w.heap.size + 1 + 1, j, none⟩ = some (.int .i64 (l.getD j 0)) := by
  have := at1 (w.alloc o) p l q r t j h
  simpa using this
theorem at3 (w : World) (o p q : Obj) (l : List Int) (t : TypeId) (j : Nat) (h : j < l.length) : ((((w.alloc o).alloc p).alloc q).alloc (.cells (l.map (Value.int .i64)).toArray t)).cell? ⟨w.heap.size + 1 + 1 + 1, j, none⟩ = some (.int .i64 (l.getD j 0)) := by
  have := cells_ints (((w.alloc o).alloc p).alloc q) l t j h
  simpa using this
theorem at4 (w : World) (o p q r : Obj) (l : List Int) (t : TypeId) (j : Nat) (h : j < l.length) : (((((w.alloc o).alloc p).alloc q).alloc r).alloc (.cells (l.map (Value.int .i64)).toArray t)).cell? ⟨w.heap.size + 1 + 1 + 1 + 1, j, none⟩ = some (.int .i64 (l.getD j 0)) := by
  have := cells_ints ((((w.alloc o).alloc p).alloc q).alloc r) l t j h
  simpa using this

set_option maxHeartbeats 1000000 in
theorem walk (w : World) : Calls Try.prog 3 #[] w fun e w' => e = .returned (.bool true) ∧ Grown w w' := by
  go_enter Try.func3, Try.ntmps3
  go_wp2
  go_loop [9] (fun i => ∃ k : Nat, k ≤ 16 ∧ i = .int .i64 k) (fun i => 16 - (intOf i).toNat)
  case atStart => exact ⟨0, Nat.zero_le _, rfl⟩
  case round =>
    obtain ⟨k, hk, rfl⟩ := hrel
    by_cases hlt : k < 16
    · have hc : (w.alloc (.cells #[.int .i64 0, .int .i64 1, .int .i64 2, .int .i64 3, .int .i64 4, .int .i64 5, .int .i64 6, .int .i64 7, .int .i64 8, .int .i64 9, .int .i64 10, .int .i64 11, .int .i64 12, .int .i64 13, .int .i64 14, .int .i64 15] 22)).cell? ⟨w.heap.size, k, none⟩ = some (.int .i64 k) := by
        have := cells_ints w errs 22 k hlt
        rw [errs_at k hlt] at this
        exact this
      go_wp2
      go_round
      case rel => exact ⟨k + 1, by omega, by go_num⟩
      case measure => simp [intOf]; omega
    · go_wp2_with fail
      refine (eq_same (w.heap.size + 1) (w.heap.size + 1 + 1 + 1) 21 21 21 (fun j => limits.getD j 0) (by omega) _ (fun j hj => by exact at1 w _ limits _ _ 3 j hj) (fun j hj => by exact at3 w _ _ _ limits 3 j hj)).mono ?_
      rintro e w' ⟨rfl, rfl⟩
      go_wp2_with fail
      refine (eq_same (w.heap.size + 1 + 1) (w.heap.size + 1 + 1 + 1 + 1) 23 23 23 (fun j => kinds.getD j 0) (by omega) _ (fun j hj => by exact at2 w _ _ kinds _ _ 3 j hj) (fun j hj => by exact at4 w _ _ _ _ kinds 3 j hj)).mono ?_
      rintro e w' ⟨rfl, rfl⟩
      go_wp2
      go_ret
      exact ⟨rfl, (((((Grown.refl _).alloc _ _).alloc _ _).alloc _ _).alloc _ _).alloc _ _⟩

set_option maxRecDepth 100000 in
theorem lifted (os : Os) (started : os.Started) (H : Type) (enc : TypeId × Value → H) :
    ReturnsInHanded {} Try.checked os 3 .any (Rows.namesSpec.pre6 enc Try.prog Try.f3 Rows.namesRow.domain false) (Rows.namesSpec.post enc Try.prog Try.f3 false true false false) := by
  refine returnsInHanded_of_change (C := Try.checked) own started (by kernel_rfl) Try.func3
    (ChangeSpec.witness6 (enc := enc) (C := Try.checked) false ⟨#[], #[], []⟩ 8 (by kernel_rfl) (by kernel_rfl) (by kernel_rfl) (by kernel_rfl)) ?_
  intro W base args ds gs before _ hW _ _
  have hW' := hW
  obtain ⟨p, q, hA0, hV, rfl, hfz, hnd⟩ := hW
  have hA : DataW.TrodAll enc Try.prog W 0 (fun _ => true) true Try.f3.params.toList args.toList ds p := hA0
  rw [Try.params3] at hA
  obtain ⟨rfl, rfl, rfl⟩ := trodAll_none hA
  obtain ⟨rfl, rfl⟩ := trodVars_none hV
  clear hA0
  simp only [List.append_nil] at hW'
  refine (walk W).mono fun e W' ⟨he, hg⟩ => ?_
  subst he
  exact ⟨_, rfl, post_of_same (pa := []) (pv := []) hW' (fun _ _ _ => (trodAll_cons_mk (shut_bool Try.underlying4 _) trodAll_mk0)) (fun sp _ => rfl) (fun _ _ => rfl) rfl
    (hg.frame _) hg.2.1 (ok_one (by kernel_rfl) rfl (okWide_bool_mk Try.underlying4 _))⟩

/-- THE STATEMENT. -/
theorem proved : Rows.NamesSaid :=
  OpenClaim.holds_of_wide 3 Try.f3 rfl rfl rfl rfl rfl rfl rfl ⟨rfl, rfl, rfl, rfl, rfl⟩ rfl rfl rfl rfl rfl (by kernel_rfl) Try.func3 (by kernel_rfl)
    (of_decide_eq_true (by kernel_rfl)) (by unfold Func.isWrapper; first | (rw [if_pos (by decide +kernel)]; kernel_rfl) | (rw [if_neg (by decide +kernel)]; exact ⟨rfl, rfl⟩))
    (fun os started H enc _ => lifted os started H enc)
end Go.Proofs.Yteoiijiiccecfaa.names
