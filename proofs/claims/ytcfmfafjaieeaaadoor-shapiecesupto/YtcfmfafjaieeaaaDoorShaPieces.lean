/-
  ShaPieces: whatever texts are handed in as a list (of bulk at most 1048576), the call returns true: a Hash into which they come, one behind the other, has on the way and at the end the Sum of all that came. (The tied card of the second form: package sha's roots as start-up lays them.)
-/
import Derived.Test.YtcfmfafjaieeaaaDoorFrame
import Derived.Test.YtcfmfafjaieeaaaDoorShaFace
import Derived.Test.YtcfmfafjaieeaaaDoorShaDoor
import Derived.Test.YtcfmfafjaieeaaaDoorKeepCat
import Derived.Test.YtcfmfafjaieeaaaDoorCards
import Derived.Test.YtcfmfafjaieeaaaDoorTie
import Derived.SevenTiedAt
import Derived.Carry
import Derived.Deep.DeepHandedRow
namespace Go.Proofs.YtcfmfafjaieeaaaDoor.shaPieces
open Go.ChangeShapes Go.WideShapes Go.ChangeAt Go.RowKit
open sha

theorem bytes_self (x : ByteArray) : (x.data.toList == x.data.toList) = true := beq_self_eq_true _
set_option maxRecDepth 100000 in
set_option maxHeartbeats 1600000 in
theorem walk_some (b off cap : Nat) (ss : List ByteArray) (hcap : ss.length ≤ cap) (hn : ss.length ≤ 1048576) (hs : lens ss ≤ 1048576) (w : World) (hT : Tab w) (hb : b < w.heap.size)
    (hcell : ∀ (j : Nat) x, ss[j]? = some x → w.cell? ⟨b, off + j, none⟩ = some (.string x)) :
    Calls Tryd.prog 4 #[.slice (some ⟨b, off, none⟩) ss.length cap] w fun e w' => e = .returned (.bool true) ∧ Below w.heap.size w w' := by
  have hGl := hT.lt
  have HT : Hid (Tab w) := hT
  have HC : Hid (∀ (j : Nat) x, ss[j]? = some x → w.cell? ⟨b, off + j, none⟩ = some (.string x)) := hcell
  have HJ : Hid (∀ W, Below w.heap.size w W → Calls Tryd.prog 10 #[.slice (some ⟨b, off, none⟩) ss.length cap, .string ⟨#[]⟩] W fun e w' => e = .returned (.string (cat ss)) ∧ Below W.heap.size W w') := fun W hW =>
    join_in b off cap ss W (fun j x hx => (hW.cell (p := ⟨b, off + j, none⟩) hb).trans (hcell j x hx)) (Nat.lt_of_lt_of_le hb hW.size) (by omega) hcap (by omega)
  clear hT hcell
  obtain ⟨n, hnd⟩ : ∃ n, n = ss.length := ⟨_, rfl⟩
  rw [← hnd] at hcap hn HJ ⊢
  have HN : Hid (n = ss.length) := hnd
  clear hnd
  have f0 := New_any w
  go_enter Tryd.func4, Tryd.ntmps4
  go_wp2_with (go_at_call 7; (refine f0.mono ?_); rintro e w0 ⟨hp, rfl, hp0, hB0, hb0⟩)
  go_loopw [4, 12] (fun u i wr => ∃ k : Nat, k ≤ n ∧ i = .int .i64 k ∧ u = .string (cat (ss.take k)) ∧ Blk wr hp 42 (hc (cat (ss.take k))) ∧ Below w.heap.size w wr) (fun _ i _ => n - (intOf i).toNat)
  case atStart => exact ⟨0, Nat.zero_le _, rfl, rfl, hB0, hb0⟩
  case round =>
    clear hB0 hb0
    obtain ⟨k, hk, rfl, rfl, hB, hnx⟩ := hrel
    have hsz : ∀ j, (cat (ss.take j)).size ≤ 1048576 := fun j => by rw [cat_size]; exact Nat.le_trans (lens_take ss j) hs
    by_cases hlt : k < n
    · have hlt' : k < ss.length := by rw [← HN.out]; exact hlt
      have d0 : decide ((k : Int) < (n : Int)) = true := by simp; omega
      have c1 := (hnx.cell (p := ⟨b, off + k, none⟩) hb).trans (HC.out k ss[k] (List.getElem?_eq_getElem hlt'))
      have hY := cat_take hlt'
      have l1 := hsz k
      have l2 := hsz (k + 1)
      have l3 := Nat.le_trans (lens_get ss k hlt') hs
      obtain ⟨Y, HYd⟩ : ∃ Y, Hid (Y = cat (ss.take (k + 1))) := ⟨_, rfl⟩
      rw [← HYd.out] at hY l2
      generalize ss[k] = t at *
      generalize cat (ss.take k) = X at *
      have f1 := write_any hp X t (by omega) wr (HT.out.grown hnx) (by omega) hB
      rw [← hY] at f1
      have f2 := fun w hT hB => HSum_any hp Y (by omega) w hT hB
      have f3 := fun w hT => Sum_any Y (by omega) w hT
      have hY' : X ++ t = Y := hY.symm
      clear hY
      have hR := bytes_self (shaT Y)
      generalize shaT Y = R at *
      have k0 : (0 : Int) ≤ (k : Int) := by omega
      have kn : (k : Int) < (n : Int) := by omega
      go_wp2_with (first
        | (go_at_call 8; (with_reducible refine f1.mono ?_); rintro e w1 ⟨rfl, hB1, hG1⟩; have hX1 := hnx.grown hG1 hnx.size (fun j hj => by cases hj; exact hp0))
        | (go_at_call 9; (with_reducible refine (f2 _ (HT.out.grown hX1) hB1).mono ?_); rintro e w2 ⟨rfl, hb2⟩; have hX2 := hX1.trans (hb2.mono hX1.size))
        | (go_at_call 5; (with_reducible refine (f3 _ (HT.out.grown hX2)).mono ?_); rintro e w3 ⟨rfl, hb3⟩; have hX3 := hX2.trans (hb3.mono hX2.size)))
      go_roundw
      case rel => exact ⟨k + 1, by omega, by go_num, by rw [HYd.out], by rw [← HYd.out]; exact (hB1.below hb2 hB1.lt).below hb3 (Nat.lt_of_lt_of_le hB1.lt hb2.size), hX3⟩
      case measure => simp [intOf]; omega
    · obtain rfl : k = n := by omega
      have d0 : decide ((k : Int) < (k : Int)) = false := by simp
      have hall : ss.take k = ss := List.take_of_length_le (by rw [← HN.out]; exact Nat.le_refl _)
      rw [hall] at hB
      have l1 : (cat ss).size ≤ 1048576 := by rw [cat_size]; exact hs
      have f2 := fun w hT hB => HSum_any hp (cat ss) (by omega) w hT hB
      have f3 := fun w hT => Sum_any (cat ss) (by omega) w hT
      have hR := bytes_self (shaT (cat ss))
      have h32 : (shaT (cat ss)).size = 32 := shaT_size _
      clear hsz hall
      generalize shaT (cat ss) = R at *
      generalize cat ss = Z at *
      have hX := hnx
      go_wp2_with (first
        | (go_at_call 9; (with_reducible refine (f2 _ (HT.out.grown hX) hB).mono ?_); rintro e wq ⟨rfl, hq⟩; replace hB := hB.below hq hB.lt; replace hX := hX.trans (hq.mono hX.size); clear hq)
        | (go_at_call 10; (with_reducible refine (HJ.out _ hX).mono ?_); rintro e wq ⟨rfl, hq⟩; replace hB := hB.below hq hB.lt; replace hX := hX.trans (hq.mono hX.size); clear hq)
        | (go_at_call 5; (with_reducible refine (f3 _ (HT.out.grown hX)).mono ?_); rintro e wq ⟨rfl, hq⟩; replace hB := hB.below hq hB.lt; replace hX := hX.trans (hq.mono hX.size); clear hq))
      go_ret
      exact ⟨rfl, hX⟩

/-- Join of what has no element. -/
theorem join_empty (a : Option Addr) (c : Nat) (w : World) : Calls Tryd.prog 10 #[.slice a 0 c, .string ⟨#[]⟩] w fun e w' => e = .returned (.string ⟨#[]⟩) ∧ Below w.heap.size w w' := by
  go_enter Tryd.func10, Tryd.ntmps10
  go_wp2
  go_ret
  exact ⟨rfl, Below.refl _ _⟩
set_option maxRecDepth 100000 in
set_option maxHeartbeats 1600000 in
theorem walk_none (a : Option Addr) (cap : Nat) (w : World) (hT : Tab w) :
    Calls Tryd.prog 4 #[.slice a 0 cap] w fun e w' => e = .returned (.bool true) ∧ Below w.heap.size w w' := by
  have hGl := hT.lt
  have HT : Hid (Tab w) := hT
  clear hT
  have f0 := New_any w
  have fJ := fun W => join_empty a cap W
  go_enter Tryd.func4, Tryd.ntmps4
  go_wp2_with (go_at_call 7; (refine f0.mono ?_); rintro e w0 ⟨hp, rfl, hp0, hB0, hb0⟩)
  go_loopw [4, 12] (fun u i wr => i = .int .i64 0 ∧ u = .string ⟨#[]⟩ ∧ Blk wr hp 42 (hc ⟨#[]⟩) ∧ Below w.heap.size w wr) (fun _ i _ => 1 - (intOf i).toNat)
  case atStart => exact ⟨rfl, rfl, hB0, hb0⟩
  case round =>
    clear hB0 hb0
    obtain ⟨rfl, rfl, hB, hnx⟩ := hrel
    have f2 := fun w hT hB => HSum_any hp ⟨#[]⟩ (by decide) w hT hB
    have f3 := fun w hT => Sum_any ⟨#[]⟩ (by decide) w hT
    have hR := bytes_self (shaT ⟨#[]⟩)
    have h32 : (shaT ⟨#[]⟩).size = 32 := shaT_size _
    generalize shaT ⟨#[]⟩ = R at *
    have hX := hnx
    go_wp2_with (first
      | (go_at_call 9; (with_reducible refine (f2 _ (HT.out.grown hX) hB).mono ?_); rintro e wq ⟨rfl, hq⟩; replace hB := hB.below hq hB.lt; replace hX := hX.trans (hq.mono hX.size); clear hq)
      | (go_at_call 10; (with_reducible refine (fJ _).mono ?_); rintro e wq ⟨rfl, hq⟩; replace hB := hB.below hq hB.lt; replace hX := hX.trans (hq.mono hX.size); clear hq)
      | (go_at_call 5; (with_reducible refine (f3 _ (HT.out.grown hX)).mono ?_); rintro e wq ⟨rfl, hq⟩; replace hB := hB.below hq hB.lt; replace hX := hX.trans (hq.mono hX.size); clear hq))
    go_ret
    exact ⟨rfl, hX⟩

theorem laidOut : laidOutB Tryd.prog = true := by kernel_rfl
theorem cellsSTR : Tryd.prog.cellsOf 9 = 1 := by kernel_rfl
/-! ### The row's step -/
theorem contract (H : Type) (enc : TypeId × Value → H) (W : World) (base : Nat) (args : Array Value) (ds gs : List (DataW H)) (before : List MemPlace)
    (hval : ∀ (j : Nat) t v, Tryd.f4.params[j]? = some t → args[j]? = some v → Value.okWide Tryd.prog W .any base t v)
    (hW : DataW.Whole enc Tryd.prog Tryd.f4.params.toList Rows.shaPiecesSpec.vars false W args.toList ds gs before) (hk : Rows.uptoSmall H (ds ++ gs) = true) (hL : laidMetH Tryd.prog laidR W) :
    Calls Tryd.prog 4 args W fun e W' => ∃ v, e = .returned v ∧ Rows.shaPiecesSpec.post enc Tryd.prog Tryd.f4 false true false false W args v W' := by
  have hW' := hW
  obtain ⟨p, q, hA0, hV, rfl, hfz, hnd⟩ := hW
  have hA : DataW.TrodAll enc Tryd.prog W 0 (fun _ => true) true Tryd.f4.params.toList args.toList ds p := hA0
  rw [Tryd.params4] at hA hval
  obtain ⟨v0, vs0, d0, ds0, p0, q0, hargs, rfl, rfl, h0, r0⟩ := trodAll_cons hA
  obtain ⟨rfl, rfl, rfl⟩ := trodAll_nil r0
  obtain rfl : args = #[v0] := by cases args; simp_all
  obtain ⟨rfl, rfl⟩ := trodVars_none hV
  obtain ⟨a0, len, cap, rfl⟩ := okWide_slice Tryd.underlying24 (hval 0 24 v0 rfl rfl)
  have h0k := h0
  obtain ⟨fuel, hf⟩ := h0
  clear hA0
  simp only [List.append_nil] at hW' hk
  have hlt : ∀ x ∈ p0, x.block < W.heap.size := fun x hx => by simpa using hW'.lt x hx
  have hT := roots_tab hL
  have fin : ∀ (W' : World), Below W.heap.size W W' → Rows.shaPiecesSpec.post enc Tryd.prog Tryd.f4 false true false false W #[.slice a0 len cap] (.bool true) W' := fun W' hnx =>
    ⟨_, _, _, [], p0, [], hW', trodAll_mk1 (shut_bool Tryd.underlying4 _), trodAll_mk1 (Below.trod laidOut (by kernel_rfl) (of_decide_eq_true (by kernel_rfl)) h0k hnx hlt), rfl, hnx.frame _, fun h => by cases h⟩
  have none_end : len = 0 → Calls Tryd.prog 4 #[.slice a0 len cap] W fun e W' => ∃ v, e = Ending.returned v ∧ Rows.shaPiecesSpec.post enc Tryd.prog Tryd.f4 false true false false W #[.slice a0 len cap] v W' := by
    intro hl0
    subst hl0
    refine (walk_none a0 cap W hT).mono fun e W' ⟨he, hw⟩ => ?_
    exact ⟨_, he, fin W' hw⟩
  rcases open_strings Tryd.underlying24 Tryd.underlying9 cellsSTR hf with ⟨hcs, hx⟩ | ⟨a, len', cap', ss, hcs, _, hl, hm, hz, hx, hcell, hws⟩
  · simp [Value.cells] at hcs
    exact none_end hcs.2.1
  · simp [Value.cells] at hcs
    obtain ⟨rfl, rfl, rfl⟩ := hcs
    simp only [Prod.mk.injEq] at hx
    obtain ⟨rfl, rfl⟩ := hx
    simp only [if_true] at hz
    by_cases hl0 : len = 0
    · exact none_end hl0
    · have hbulk : Rows.uptoBulkAll [DataW.slice (H := H) (strs (ss.take len)) (strs (ss.drop len))] ≤ 1048576 := of_decide_eq_true hk
      simp only [Rows.uptoBulkAll, Rows.uptoBulk, bulk_strs] at hbulk
      have hlen : (ss.take len).length = len := by rw [List.length_take]; omega
      rw [hlen] at hbulk
      obtain ⟨b, off, spot⟩ := a
      have hspot : spot = none := by simpa [Addr.add] using World.cell?_spot (hcell 0 (by omega))
      subst hspot
      have hbW : b < W.heap.size := hlt (.cell b off) (MemPlace.mem_row.2 ⟨0, by omega, by simp⟩)
      have h := walk_some b off cap (ss.take len) (by omega) (by omega) (by omega) W hT hbW (fun j x hx => by
        have hj : j < len := by
          have := (List.getElem?_eq_some_iff.1 hx).1
          omega
        rw [List.getElem?_take, if_pos hj] at hx
        have := hcell j (by omega)
        rw [Addr.add_mid] at this
        rw [this, List.getD_eq_getElem?_getD, hx]
        rfl)
      rw [hlen] at h
      exact h.mono fun e W' ⟨he, hw⟩ => ⟨_, he, fin W' hw⟩

theorem reads (os : Os) {H : Type} (enc : TypeId × Value → H) : ∃ places, DataW.whole enc Tryd.prog ((World.doorLaid Tryd.prog 400 os).forCall (fun _ _ => 0) ⟨#[], #[.slice none 0 0], []⟩).memory Tryd.f4.params.toList Rows.shaPiecesSpec.vars false #[Value.slice none 0 0].toList 8 = some ([.nil], [], places) :=
  ⟨[], by kernel_rfl⟩
set_option maxRecDepth 100000 in
theorem liftedUpto (os : Os) (started : os.Started) (H : Type) (enc : TypeId × Value → H) (F : Stop.Interp) :
    ReturnsInHanded {} Tryd.checked os 4 .any ((Rows.OpenSpec.upto Rows.shaPiecesSpec).preRow enc Tryd.prog Tryd.f4 Rows.shaPiecesUptoRow.domain false Rows.shaPiecesUptoRow.laid) (((Rows.OpenSpec.upto Rows.shaPiecesSpec).at F).post enc Tryd.prog Tryd.f4 false true false false) := by
  obtain ⟨places, hx⟩ := reads os enc
  refine returnsInHanded_of_row (C := Tryd.checked) (s := Rows.OpenSpec.upto Rows.shaPiecesSpec) own started (by kernel_rfl) Tryd.func4
    (witness_row_at (enc := enc) (C := Tryd.checked) false (World.doorLaid Tryd.prog 400 os) #[.slice none 0 0] rfl (by kernel_rfl) (by kernel_rfl) (by kernel_rfl)
      (OpenSpec.preRow_of_cond 8 hx (by kernel_rfl) (fun k hk => by cases hk; kernel_rfl) (by kernel_rfl) (roots_met os _))) ?_
  intro W base args ds gs before hval hW _ hcond _ hL _ _
  exact contract H enc W base args ds gs before hval hW (hcond _ rfl) hL
/-- THE ROW. -/
theorem row : Rows.ShaPiecesUptoSaid :=
  OpenClaim.holds_of_cond 4 Tryd.f4 rfl rfl rfl rfl rfl rfl rfl ⟨rfl, rfl, rfl, rfl, rfl⟩ rfl rfl rfl rfl rfl (by kernel_rfl) Tryd.func4 (by kernel_rfl)
    (of_decide_eq_true (by kernel_rfl)) (by unfold Func.isWrapper; first | (rw [if_pos (by decide +kernel)]; kernel_rfl) | (rw [if_neg (by decide +kernel)]; exact ⟨rfl, rfl⟩))
    (fun os started H enc _ F => by rw [OpenClaim.pre_eq_preRow]; exact liftedUpto os started H enc F)
/-- No parameter wants a stand-in; the program's own looks are off. -/
theorem plain (f : FuncId) (fn : Func) (hf : Tryd.pinned.checked.prog.funcNamed "souterrain/souterrainkeep.ShaPieces" = some f) (hfn : Tryd.pinned.checked.prog.funcs[f]? = some fn) :
    false = Tryd.pinned.checked.prog.looks [] ∧ ∀ (j : Nat) t, fn.params[j]? = some t → Tryd.pinned.checked.prog.wantsStandIn t = false := by
  obtain rfl : f = 4 := Option.some.inj ((show Tryd.prog.funcNamed "souterrain/souterrainkeep.ShaPieces" = some 4 by kernel_rfl).symm.trans hf) |>.symm
  obtain rfl : fn = Tryd.f4 := (Option.some.inj (Tryd.func4.symm.trans hfn)).symm
  refine ⟨by kernel_rfl, fun j t ht => ?_⟩
  rw [Tryd.params4] at ht
  obtain rfl : t = 24 := by simpa using Array.mem_of_getElem? ht
  exact (show Tryd.prog.wantsStandIn 24 = false by kernel_rfl)
/-- THE STATEMENT: the tied card of the second form. -/
theorem proved : Rows.ShaPiecesUptoCardSaid :=
  Claim7.holds_tied_plain_at .later [] _ _ _ _ row (fun _ h => by cases h) (by kernel_rfl) (fun _ h => by cases h) shaPiecesUpto_row_tie rfl ⟨rfl, rfl⟩ (by kernel_rfl) rfl plain (by kernel_rfl)
end Go.Proofs.YtcfmfafjaieeaaaDoor.shaPieces
