/-
  THE WALKS OF package chacha's stirrer, stirred and block.
-/
import Derived.Test.YtmbckgfpkmnlnabDoorChaStir
namespace Go.Proofs.YtmbckgfpkmnlnabDoor.cha
open Go.RowKit
open Go.Proofs.YtmbckgfpkmnlnabDoor.soft

/-- A function with a body is entered. -/
theorem enter_of {f : FuncId} {fn : Func} {c : Code} (hf : Tryd.prog.funcs[f]? = some fn) (hn : (fn.name == "runtime.NumGoroutine") = false) (hb : fn.body = some c) (args : Array Value) (w : World) :
    (callFunc f args).run Tryd.prog w = .ok (.enter f args) w := by
  have h1 : fn.name ≠ "runtime.NumGoroutine" := by simpa using hn
  simp [callFunc, hf, h1, hb]
/-- A state, what is to be answered, and what the function keeps. -/
structure KS (w0 : World) (sp rp cp : Nat) (L : List Nat) (W : World) : Prop where
  len : L.length = 16
  ok : Ws L
  s : Blk W sp 80 (wd L)
  r : Blk W rp 80 (wd z16)
  c : W.cell? ⟨cp, 0, none⟩ = some (.pointer (some ⟨sp, 0, none⟩))
  x : Below w0.heap.size w0 W
theorem stir_keep (a b c d : Nat) (ha : a < 16) (hb : b < 16) (hc : c < 16) (hd : d < 16) (w0 : World) (sp rp cp : Nat) (h1 : cp ≠ sp) (h2 : rp ≠ sp) (h3 : w0.heap.size ≤ sp) (L : List Nat) (W : World) (h : KS w0 sp rp cp L W) :
    Calls Tryd.prog 74 #[.int .i64 a, .int .i64 b, .int .i64 c, .int .i64 d, .pointer (some ⟨cp, 0, none⟩)] W fun e w' => e = .returned (.tuple #[]) ∧ KS w0 sp rp cp (st L a b c d) w' := by
  refine (stir_any a b c d ha hb hc hd L h.len h.ok sp cp h1 W h.s h.c).mono ?_
  rintro e w' ⟨rfl, g1, g2, g3⟩
  refine ⟨rfl, by rw [st_length]; exact h.len, st_ok h.ok a b c d, g1, ?_, ?_, g3 _ _ h3 h.x⟩
  · have := h.r
    unfold Blk at this ⊢
    rw [g2 rp h2]
    exact this
  · exact (World.cell?_of_block (g2 cp h1)).trans h.c
set_option maxHeartbeats 400000 in
theorem stirrer_any (sp : Nat) (w : World) :
    Calls Tryd.prog 63 #[.pointer (some ⟨sp, 0, none⟩)] w fun e w' => e = .returned (.func (.func 74) #[] #[.pointer (some ⟨w.heap.size, 0, none⟩)]) ∧ w'.cell? ⟨w.heap.size, 0, none⟩ = some (.pointer (some ⟨sp, 0, none⟩)) ∧ Below w.heap.size w w' := by
  have hmf : ∀ (fn : Fn) (first cap : Array Value) (w : World), (Instr.makeFunc fn first cap).run Tryd.prog w = .ok (.func fn first cap) w := fun _ _ _ _ => rfl
  go_enter Tryd.func63, Tryd.ntmps63
  go_wp2
  go_ret
  refine ⟨rfl, ?_, (Below.refl _ _).alloc (Nat.le_refl _) _⟩
  exact (Blk.new w _ [.pointer (some ⟨sp, 0, none⟩)] _ rfl).cell 0 _ rfl

set_option maxRecDepth 100000 in
set_option maxHeartbeats 4000000 in
theorem stirred_any (l : List Nat) (hl : l.length = 16) (ok : Ws l) (w : World) :
    Calls Tryd.prog 53 #[.agg (wd l).toArray] w fun e w' => e = .returned (.agg (wd (stirred l)).toArray) ∧ Below w.heap.size w w' := by
  have hS : Blk ((w.alloc (.cells (wd l).toArray 80)).alloc (.cells (wd z16).toArray 80)) w.heap.size 80 (wd l) := (Blk.new w 80 (wd l) _ rfl).alloc _
  have hR : Blk ((w.alloc (.cells (wd l).toArray 80)).alloc (.cells (wd z16).toArray 80)) (w.heap.size + 1) 80 (wd z16) := by
    have h := Blk.new (w.alloc (.cells (wd l).toArray 80)) 80 (wd z16) _ rfl
    rw [World.size_alloc] at h
    exact h
  have hX : Below w.heap.size w ((w.alloc (.cells (wd l).toArray 80)).alloc (.cells (wd z16).toArray 80)) := ((Below.refl _ _).alloc (Nat.le_refl _) _).alloc (by simp) _
  have f0 := stirrer_any w.heap.size ((w.alloc (.cells (wd l).toArray 80)).alloc (.cells (wd z16).toArray 80))
  rw [World.size_alloc, World.size_alloc] at f0
  have he := fun args W => enter_of Tryd.func74 rfl rfl args W
  have hKK := fun a b c d ha hb hc hd => stir_keep a b c d ha hb hc hd w w.heap.size (w.heap.size + 1) (w.heap.size + 1 + 1) (by omega) (by omega) (Nat.le_refl _)
  have f1 : ∀ L W, KS w w.heap.size (w.heap.size + 1) (w.heap.size + 1 + 1) L W → Calls Tryd.prog 74 #[.int .i64 0, .int .i64 4, .int .i64 8, .int .i64 12, .pointer (some ⟨w.heap.size + 1 + 1, 0, none⟩)] W fun e w' => e = .returned (.tuple #[]) ∧ KS w w.heap.size (w.heap.size + 1) (w.heap.size + 1 + 1) (st L 0 4 8 12) w' := hKK 0 4 8 12 (by decide) (by decide) (by decide) (by decide)
  have f2 : ∀ L W, KS w w.heap.size (w.heap.size + 1) (w.heap.size + 1 + 1) L W → Calls Tryd.prog 74 #[.int .i64 1, .int .i64 5, .int .i64 9, .int .i64 13, .pointer (some ⟨w.heap.size + 1 + 1, 0, none⟩)] W fun e w' => e = .returned (.tuple #[]) ∧ KS w w.heap.size (w.heap.size + 1) (w.heap.size + 1 + 1) (st L 1 5 9 13) w' := hKK 1 5 9 13 (by decide) (by decide) (by decide) (by decide)
  have f3 : ∀ L W, KS w w.heap.size (w.heap.size + 1) (w.heap.size + 1 + 1) L W → Calls Tryd.prog 74 #[.int .i64 2, .int .i64 6, .int .i64 10, .int .i64 14, .pointer (some ⟨w.heap.size + 1 + 1, 0, none⟩)] W fun e w' => e = .returned (.tuple #[]) ∧ KS w w.heap.size (w.heap.size + 1) (w.heap.size + 1 + 1) (st L 2 6 10 14) w' := hKK 2 6 10 14 (by decide) (by decide) (by decide) (by decide)
  have f4 : ∀ L W, KS w w.heap.size (w.heap.size + 1) (w.heap.size + 1 + 1) L W → Calls Tryd.prog 74 #[.int .i64 3, .int .i64 7, .int .i64 11, .int .i64 15, .pointer (some ⟨w.heap.size + 1 + 1, 0, none⟩)] W fun e w' => e = .returned (.tuple #[]) ∧ KS w w.heap.size (w.heap.size + 1) (w.heap.size + 1 + 1) (st L 3 7 11 15) w' := hKK 3 7 11 15 (by decide) (by decide) (by decide) (by decide)
  have f5 : ∀ L W, KS w w.heap.size (w.heap.size + 1) (w.heap.size + 1 + 1) L W → Calls Tryd.prog 74 #[.int .i64 0, .int .i64 5, .int .i64 10, .int .i64 15, .pointer (some ⟨w.heap.size + 1 + 1, 0, none⟩)] W fun e w' => e = .returned (.tuple #[]) ∧ KS w w.heap.size (w.heap.size + 1) (w.heap.size + 1 + 1) (st L 0 5 10 15) w' := hKK 0 5 10 15 (by decide) (by decide) (by decide) (by decide)
  have f6 : ∀ L W, KS w w.heap.size (w.heap.size + 1) (w.heap.size + 1 + 1) L W → Calls Tryd.prog 74 #[.int .i64 1, .int .i64 6, .int .i64 11, .int .i64 12, .pointer (some ⟨w.heap.size + 1 + 1, 0, none⟩)] W fun e w' => e = .returned (.tuple #[]) ∧ KS w w.heap.size (w.heap.size + 1) (w.heap.size + 1 + 1) (st L 1 6 11 12) w' := hKK 1 6 11 12 (by decide) (by decide) (by decide) (by decide)
  have f7 : ∀ L W, KS w w.heap.size (w.heap.size + 1) (w.heap.size + 1 + 1) L W → Calls Tryd.prog 74 #[.int .i64 2, .int .i64 7, .int .i64 8, .int .i64 13, .pointer (some ⟨w.heap.size + 1 + 1, 0, none⟩)] W fun e w' => e = .returned (.tuple #[]) ∧ KS w w.heap.size (w.heap.size + 1) (w.heap.size + 1 + 1) (st L 2 7 8 13) w' := hKK 2 7 8 13 (by decide) (by decide) (by decide) (by decide)
  have f8 : ∀ L W, KS w w.heap.size (w.heap.size + 1) (w.heap.size + 1 + 1) L W → Calls Tryd.prog 74 #[.int .i64 3, .int .i64 4, .int .i64 9, .int .i64 14, .pointer (some ⟨w.heap.size + 1 + 1, 0, none⟩)] W fun e w' => e = .returned (.tuple #[]) ∧ KS w w.heap.size (w.heap.size + 1) (w.heap.size + 1 + 1) (st L 3 4 9 14) w' := hKK 3 4 9 14 (by decide) (by decide) (by decide) (by decide)
  clear hKK
  go_enter Tryd.func53, Tryd.ntmps53
  go_wp2_with (go_at_call 63; (refine f0.mono ?_); rintro e w1 ⟨rfl, hc1, hb1⟩)
  have hX1 := hX.trans (hb1.mono (by omega))
  have hK0 : KS w w.heap.size (w.heap.size + 1) (w.heap.size + 1 + 1) (rds l (8 * 0)) w1 := by
    have e2 : ((w.alloc (.cells (wd l).toArray 80)).alloc (.cells (wd z16).toArray 80)).heap.size = w.heap.size + 1 + 1 := by rw [World.size_alloc, World.size_alloc]
    exact ⟨hl, ok, hS.below (B := w.heap.size + 1 + 1) hb1 (by omega), hR.below (B := w.heap.size + 1 + 1) hb1 (by omega), hc1, hX1⟩
  clear hS hR hX hX1 hc1 hb1 f0
  go_loopw [5] (fun i wr => ∃ k : Nat, k ≤ 10 ∧ i = .int .i64 k ∧ KS w w.heap.size (w.heap.size + 1) (w.heap.size + 1 + 1) (rds l (8 * k)) wr) (fun i _ => 10 - (intOf i).toNat)
  case atStart => exact ⟨0, by omega, rfl, hK0⟩
  case round =>
    clear hK0
    obtain ⟨k, hk, rfl, hK⟩ := hrel
    by_cases hlt : k < 10
    · have d0 : decide ((k : Int) < 10) = true := by simp; omega
      have HU : Hid (rds l (8 * (k + 1)) = st (st (st (st (st (st (st (st (rds l (8 * k)) 0 4 8 12) 1 5 9 13) 2 6 10 14) 3 7 11 15) 0 5 10 15) 1 6 11 12) 2 7 8 13) 3 4 9 14) := rds_8 l k
      generalize rds l (8 * k) = L0 at *
      go_wp2_with (first
        | (go_at_call 74; (with_reducible refine (f1 _ _ hK).mono ?_); rintro e w1 ⟨rfl, hK1⟩)
        | (go_at_call 74; (with_reducible refine (f2 _ _ hK1).mono ?_); rintro e w2 ⟨rfl, hK2⟩)
        | (go_at_call 74; (with_reducible refine (f3 _ _ hK2).mono ?_); rintro e w3 ⟨rfl, hK3⟩)
        | (go_at_call 74; (with_reducible refine (f4 _ _ hK3).mono ?_); rintro e w4 ⟨rfl, hK4⟩)
        | (go_at_call 74; (with_reducible refine (f5 _ _ hK4).mono ?_); rintro e w5 ⟨rfl, hK5⟩)
        | (go_at_call 74; (with_reducible refine (f6 _ _ hK5).mono ?_); rintro e w6 ⟨rfl, hK6⟩)
        | (go_at_call 74; (with_reducible refine (f7 _ _ hK6).mono ?_); rintro e w7 ⟨rfl, hK7⟩)
        | (go_at_call 74; (with_reducible refine (f8 _ _ hK7).mono ?_); rintro e w8 ⟨rfl, hK8⟩))
      go_roundw
      case rel => exact ⟨k + 1, by omega, by go_num, by rw [HU.out]; exact hK8⟩
      case measure => simp [intOf]; omega
    · obtain rfl : k = 10 := by omega
      have d0 : decide (((10 : Nat) : Int) < 10) = false := by decide
      have hA := hK.s
      have hZ := hK.r
      have hX := hK.x
      rw [show rds l (8 * 10) = stirred l from rfl] at hA
      have lq : (wd (stirred l)).length = 16 := by rw [wd_length, stirred_length, hl]
      have l1 := wd_one (stirred l)
      obtain ⟨R, HR⟩ : ∃ R, Hid (R = wd (stirred l)) := ⟨_, rfl⟩
      rw [← HR.out] at hA lq l1
      clear hK
      go_wp2_with (first | (refine wpList_load_blk rfl 80 (.tmp 1) rfl w.heap.size 0 rfl hA R (by simp) _ Tryd.underlying80 rfl (by rw [lq]; exact infoST) ?_) | (refine wpList_store_blk rfl 80 (.tmp 2) (.tmp 24) rfl (w.heap.size + 1) R rfl rfl (wd z16) hZ (by rw [lq]; rfl) l1 infoST ?_; intro W hW))
      exact bodyPost_ret (results_blk1 Tryd.results53 _ rfl hW.blk _ Tryd.underlying80 rfl (by rw [lq]; exact infoST)) rfl ⟨by rw [HR.out], hW.below _ _ (by omega) hX⟩
end Go.Proofs.YtmbckgfpkmnlnabDoor.cha
