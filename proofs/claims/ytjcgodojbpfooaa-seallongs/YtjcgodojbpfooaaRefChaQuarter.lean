/-
  THE WALKS OF the document's quarter, Quarter and Unquarter (written by tools/mkcharef.py).
-/
import Derived.Test.YtjcgodojbpfooaaRefChaWord
namespace Go.Proofs.Ytjcgodojbpfooaa.cha
open Go.RowKit
open Go.Proofs.Ytjcgodojbpfooaa.soft

def qs (q : Q) : Nat → Q
  | 0 => q
  | 1 => ev 16 q
  | 2 => od 12 (ev 16 q)
  | 3 => ev 8 (od 12 (ev 16 q))
  | _ => qr q
theorem qs_ok {q : Q} (h : q.Ok) : ∀ k, (qs q k).Ok
  | 0 => h
  | 1 => ev_ok (.inr rfl) h
  | 2 => od_ok (.inr rfl) (ev_ok (.inr rfl) h)
  | 3 => ev_ok (.inl rfl) (od_ok (.inr rfl) (ev_ok (.inr rfl) h))
  | _ + 4 => qr_ok h
def us (q : Q) : Nat → Q
  | 0 => q
  | 1 => unod 7 q
  | 2 => unev 8 (unod 7 q)
  | 3 => unod 12 (unev 8 (unod 7 q))
  | _ => un q
theorem us_ok {q : Q} (h : q.Ok) : ∀ k, (us q k).Ok
  | 0 => h
  | 1 => unod_ok (.inl rfl) h
  | 2 => unev_ok (.inl rfl) (unod_ok (.inl rfl) h)
  | 3 => unod_ok (.inr rfl) (unev_ok (.inl rfl) (unod_ok (.inl rfl) h))
  | _ + 4 => un_ok h

set_option maxRecDepth 100000 in
set_option maxHeartbeats 4000000 in
theorem rquarter_any (q : Q) (h : q.Ok) (w : World) :
    Calls Try.prog 71 #[.agg (wd (q4 q)).toArray] w fun e w' => e = .returned (.agg (wd (q4 (qr q))).toArray) ∧ Below w.heap.size w w' := by
  have hA : Blk (((w.alloc (.cells (wd (q4 q)).toArray 82)).alloc (.cells z4.toArray 82)).alloc (.cells ns.toArray 3)) w.heap.size 82 (wd (q4 q)) := ((Blk.new w 82 (wd (q4 q)) _ rfl).alloc _).alloc _
  have hZ : Blk (((w.alloc (.cells (wd (q4 q)).toArray 82)).alloc (.cells z4.toArray 82)).alloc (.cells ns.toArray 3)) (w.heap.size + 1) 82 z4 := by
    have h := Blk.new (w.alloc (.cells (wd (q4 q)).toArray 82)) 82 z4 _ rfl
    rw [World.size_alloc] at h
    exact h.alloc _
  have hN : Blk (((w.alloc (.cells (wd (q4 q)).toArray 82)).alloc (.cells z4.toArray 82)).alloc (.cells ns.toArray 3)) (w.heap.size + 1 + 1) 3 ns := by
    have h := Blk.new ((w.alloc (.cells (wd (q4 q)).toArray 82)).alloc (.cells z4.toArray 82)) 3 ns _ rfl
    rw [World.size_alloc, World.size_alloc] at h
    exact h
  have hX : Below w.heap.size w (((w.alloc (.cells (wd (q4 q)).toArray 82)).alloc (.cells z4.toArray 82)).alloc (.cells ns.toArray 3)) := (((Below.refl _ _).alloc (Nat.le_refl _) _).alloc (by simp) _).alloc (by simp; omega) _
  have hok := qs_ok h
  clear h
  obtain ⟨F, HF⟩ : ∃ F, Hid (F = qs q) := ⟨_, rfl⟩
  have HE : Hid (qr q = F 4) := by rw [HF.out]; rfl
  rw [HE.out]
  have HS0 : Hid (F 1 = ev 16 (F 0)) := by rw [HF.out]; rfl
  have HS1 : Hid (F 2 = od 12 (F 1)) := by rw [HF.out]; rfl
  have HS2 : Hid (F 3 = ev 8 (F 2)) := by rw [HF.out]; rfl
  have HS3 : Hid (F 4 = od 7 (F 3)) := by rw [HF.out]; rfl
  rw [← HF.out] at hok
  have H0 : Hid (q = F 0) := by rw [HF.out]; rfl
  rw [H0.out] at hA hZ hN hX ⊢
  clear H0 HF HE
  go_enter Try.func71, Try.ntmps71
  go_wp2_with fail
  go_loopw [10] (fun i wr => ((i = .int .i64 0 ∧ Blk wr w.heap.size 82 (wd (q4 (F 0)))) ∨ (i = .int .i64 1 ∧ Blk wr w.heap.size 82 (wd (q4 (F 1)))) ∨ (i = .int .i64 2 ∧ Blk wr w.heap.size 82 (wd (q4 (F 2)))) ∨ (i = .int .i64 3 ∧ Blk wr w.heap.size 82 (wd (q4 (F 3)))) ∨ (i = .int .i64 4 ∧ Blk wr w.heap.size 82 (wd (q4 (F 4))))) ∧ Blk wr (w.heap.size + 1) 82 z4 ∧ Blk wr (w.heap.size + 1 + 1) 3 ns ∧ Below w.heap.size w wr) (fun i _ => 4 - (intOf i).toNat)
  case atStart => exact ⟨.inl ⟨rfl, hA⟩, hZ, hN, hX⟩
  case round =>
    clear hA hZ hN hX
    obtain ⟨hor, hZ, hN, hnx⟩ := hrel
    have n0 := hN.cell 0 _ rfl
    have n1 := hN.cell 1 _ rfl
    have n2 := hN.cell 2 _ rfl
    have n3 := hN.cell 3 _ rfl
    have lz := hZ.lt
    have ln := hN.lt
    rcases hor with ⟨rfl, hA⟩ | ⟨rfl, hA⟩ | ⟨rfl, hA⟩ | ⟨rfl, hA⟩ | ⟨rfl, hA⟩
    · have hok0 := hok 0
      have HU : Hid (F 1 = ev 16 (F 0)) := HS0.out
      generalize F 1 = p' at *
      generalize F 0 = p at *
      obtain ⟨a, b, c, d⟩ := p
      have ha : a < 4294967296 := hok0.a
      have hb : b < 4294967296 := hok0.b
      have hc : c < 4294967296 := hok0.c
      have hd : d < 4294967296 := hok0.d
      clear hok0
      obtain ⟨s, hs⟩ : ∃ s, s = ad a b := ⟨_, rfl⟩
      have e1 := add32 a b
      have ls : s < 4294967296 := by rw [hs]; exact ad_lt _ _
      obtain ⟨y, hy⟩ : ∃ y, y = d ^^^ s := ⟨_, rfl⟩
      have ly : y < 4294967296 := by rw [hy]; exact xor_lt hd ls
      have e2 := xor32 d s hd ls
      obtain ⟨t, ht⟩ : ∃ t, t = rl 16 y := ⟨_, rfl⟩
      have f1 := turn_16 y ly
      have HQ : Hid (wd (q4 p') = [.int .u32 s, .int .u32 b, .int .u32 c, .int .u32 t]) := by show _ = _; rw [HU.out, ht, hy, hs]; rfl
      rw [HQ.out]
      clear HU HS0 HS1 HS2 HS3
      rw [← hs] at e1; rw [← hy] at e2; rw [← ht] at f1
      clear hs hy ht ls ly ha hb hc hd hok
      have hA0 : Blk wr w.heap.size 82 [.int .u32 a, .int .u32 b, .int .u32 c, .int .u32 d] := hA
      have la := hA.lt
      clear hA
      have d0 : decide ((0 : Int) < 4) = true := by decide
      have q1 : ∀ y : Up wr, y.1.cell? ⟨w.heap.size, 0, none⟩ = some (.int .u32 a) := fun y => (hA0.below y.2 la).cell 0 _ rfl
      have q2 : ∀ y : Up wr, y.1.cell? ⟨w.heap.size, 1, none⟩ = some (.int .u32 b) := fun y => (hA0.below y.2 la).cell 1 _ rfl
      have hne := Up.some wr
      go_wp2_with fail
      refine wp_region_tail 8 (by kernel_rfl) (by kernel_rfl) ?_
      simp only [List.take_succ_cons, List.take_zero, List.drop_succ_cons, List.drop_zero]
      repeat (go_big_quiet_step (fail))
      refine wpQuiet_nil ?_
      rintro w1 ⟨y1, rfl⟩
      have hA1 := hA0.below y1.2 la
      have hZ1 := hZ.below y1.2 lz
      have hN1 := hN.below y1.2 ln
      have hX1 := hnx.trans (y1.2.mono hnx.size)
      have c1 := hA1.cell 0 _ rfl
      have z1 := hA1.frozen 0
      clear q1 q2 hne
      go_wp2_with fail
      have hA2 : Blk (y1.1.setCell ⟨w.heap.size, 0, none⟩ (.int .u32 s)) w.heap.size 82 [.int .u32 s, .int .u32 b, .int .u32 c, .int .u32 d] := hA1.set 0 _
      have hZ2 := hZ1.other (a := ⟨w.heap.size, 0, none⟩) (by simp) (.int .u32 s)
      have hN2 := hN1.other (a := ⟨w.heap.size, 0, none⟩) (by simp; omega) (.int .u32 s)
      have hX2 : Below w.heap.size w (y1.1.setCell ⟨w.heap.size, 0, none⟩ (.int .u32 s)) := hX1.setCell (by simp) _
      generalize y1.1.setCell ⟨w.heap.size, 0, none⟩ (.int .u32 s) = W2 at *
      clear hA0 hA1 hZ1 hN1 hX1 c1 z1
      have la := hA2.lt
      have q1 : ∀ y : Up W2, y.1.cell? ⟨w.heap.size, 0, none⟩ = some (.int .u32 s) := fun y => (hA2.below y.2 la).cell 0 _ rfl
      have q2 : ∀ y : Up W2, y.1.cell? ⟨w.heap.size, 3, none⟩ = some (.int .u32 d) := fun y => (hA2.below y.2 la).cell 3 _ rfl
      have F1 : Hid (∀ x : Up W2, Calls Try.prog 82 #[.int .u32 y, .int .i64 16] x.1 fun e w' => e = .returned (.int .u32 t) ∧ Below x.1.heap.size x.1 w') := fun x => f1 x.1
      have hne := Up.some W2
      refine wp_region_tail 12 (by kernel_rfl) (by kernel_rfl) ?_
      simp only [List.take_succ_cons, List.take_zero, List.drop_succ_cons, List.drop_zero]
      repeat (go_big_quiet_step (with_reducible exact calls_up (F1.out _)))
      refine wpQuiet_nil ?_
      rintro w3 ⟨y3, rfl⟩
      have hA3 := hA2.below y3.2 la
      have hZ3 := hZ2.below y3.2 hZ2.lt
      have hN3 := hN2.below y3.2 hN2.lt
      have hX3 := hX2.trans (y3.2.mono hX2.size)
      have c1 := hA3.cell 3 _ rfl
      have z1 := hA3.frozen 3
      clear q1 q2 hne F1
      go_wp2_with fail
      go_roundw
      case rel => exact ⟨.inr (.inl ⟨rfl, hA3.set 3 _⟩), hZ3.other (by simp) _, hN3.other (by simp; omega) _, hX3.setCell (by simp) _⟩
      case measure => simp [intOf]
    · have hok1 := hok 1
      have HU : Hid (F 2 = od 12 (F 1)) := HS1.out
      generalize F 2 = p' at *
      generalize F 1 = p at *
      obtain ⟨a, b, c, d⟩ := p
      have ha : a < 4294967296 := hok1.a
      have hb : b < 4294967296 := hok1.b
      have hc : c < 4294967296 := hok1.c
      have hd : d < 4294967296 := hok1.d
      clear hok1
      obtain ⟨s, hs⟩ : ∃ s, s = ad c d := ⟨_, rfl⟩
      have e1 := add32 c d
      have ls : s < 4294967296 := by rw [hs]; exact ad_lt _ _
      obtain ⟨y, hy⟩ : ∃ y, y = b ^^^ s := ⟨_, rfl⟩
      have ly : y < 4294967296 := by rw [hy]; exact xor_lt hb ls
      have e2 := xor32 b s hb ls
      obtain ⟨t, ht⟩ : ∃ t, t = rl 12 y := ⟨_, rfl⟩
      have f1 := turn_20 y ly
      have HQ : Hid (wd (q4 p') = [.int .u32 a, .int .u32 t, .int .u32 s, .int .u32 d]) := by show _ = _; rw [HU.out, ht, hy, hs]; rfl
      rw [HQ.out]
      clear HU HS0 HS1 HS2 HS3
      rw [← hs] at e1; rw [← hy] at e2; rw [← ht] at f1
      clear hs hy ht ls ly ha hb hc hd hok
      have hA0 : Blk wr w.heap.size 82 [.int .u32 a, .int .u32 b, .int .u32 c, .int .u32 d] := hA
      have la := hA.lt
      clear hA
      have d0 : decide ((1 : Int) < 4) = true := by decide
      have q1 : ∀ y : Up wr, y.1.cell? ⟨w.heap.size, 2, none⟩ = some (.int .u32 c) := fun y => (hA0.below y.2 la).cell 2 _ rfl
      have q2 : ∀ y : Up wr, y.1.cell? ⟨w.heap.size, 3, none⟩ = some (.int .u32 d) := fun y => (hA0.below y.2 la).cell 3 _ rfl
      have hne := Up.some wr
      go_wp2_with fail
      refine wp_region_tail 8 (by kernel_rfl) (by kernel_rfl) ?_
      simp only [List.take_succ_cons, List.take_zero, List.drop_succ_cons, List.drop_zero]
      repeat (go_big_quiet_step (fail))
      refine wpQuiet_nil ?_
      rintro w1 ⟨y1, rfl⟩
      have hA1 := hA0.below y1.2 la
      have hZ1 := hZ.below y1.2 lz
      have hN1 := hN.below y1.2 ln
      have hX1 := hnx.trans (y1.2.mono hnx.size)
      have c1 := hA1.cell 2 _ rfl
      have z1 := hA1.frozen 2
      clear q1 q2 hne
      go_wp2_with fail
      have hA2 : Blk (y1.1.setCell ⟨w.heap.size, 2, none⟩ (.int .u32 s)) w.heap.size 82 [.int .u32 a, .int .u32 b, .int .u32 s, .int .u32 d] := hA1.set 2 _
      have hZ2 := hZ1.other (a := ⟨w.heap.size, 2, none⟩) (by simp) (.int .u32 s)
      have hN2 := hN1.other (a := ⟨w.heap.size, 2, none⟩) (by simp; omega) (.int .u32 s)
      have hX2 : Below w.heap.size w (y1.1.setCell ⟨w.heap.size, 2, none⟩ (.int .u32 s)) := hX1.setCell (by simp) _
      generalize y1.1.setCell ⟨w.heap.size, 2, none⟩ (.int .u32 s) = W2 at *
      clear hA0 hA1 hZ1 hN1 hX1 c1 z1
      have la := hA2.lt
      have q1 : ∀ y : Up W2, y.1.cell? ⟨w.heap.size, 2, none⟩ = some (.int .u32 s) := fun y => (hA2.below y.2 la).cell 2 _ rfl
      have q2 : ∀ y : Up W2, y.1.cell? ⟨w.heap.size, 1, none⟩ = some (.int .u32 b) := fun y => (hA2.below y.2 la).cell 1 _ rfl
      have F1 : Hid (∀ x : Up W2, Calls Try.prog 82 #[.int .u32 y, .int .i64 20] x.1 fun e w' => e = .returned (.int .u32 t) ∧ Below x.1.heap.size x.1 w') := fun x => f1 x.1
      have hne := Up.some W2
      refine wp_region_tail 12 (by kernel_rfl) (by kernel_rfl) ?_
      simp only [List.take_succ_cons, List.take_zero, List.drop_succ_cons, List.drop_zero]
      repeat (go_big_quiet_step (with_reducible exact calls_up (F1.out _)))
      refine wpQuiet_nil ?_
      rintro w3 ⟨y3, rfl⟩
      have hA3 := hA2.below y3.2 la
      have hZ3 := hZ2.below y3.2 hZ2.lt
      have hN3 := hN2.below y3.2 hN2.lt
      have hX3 := hX2.trans (y3.2.mono hX2.size)
      have c1 := hA3.cell 1 _ rfl
      have z1 := hA3.frozen 1
      clear q1 q2 hne F1
      go_wp2_with fail
      go_roundw
      case rel => exact ⟨.inr (.inr (.inl ⟨rfl, hA3.set 1 _⟩)), hZ3.other (by simp) _, hN3.other (by simp; omega) _, hX3.setCell (by simp) _⟩
      case measure => simp [intOf]
    · have hok2 := hok 2
      have HU : Hid (F 3 = ev 8 (F 2)) := HS2.out
      generalize F 3 = p' at *
      generalize F 2 = p at *
      obtain ⟨a, b, c, d⟩ := p
      have ha : a < 4294967296 := hok2.a
      have hb : b < 4294967296 := hok2.b
      have hc : c < 4294967296 := hok2.c
      have hd : d < 4294967296 := hok2.d
      clear hok2
      obtain ⟨s, hs⟩ : ∃ s, s = ad a b := ⟨_, rfl⟩
      have e1 := add32 a b
      have ls : s < 4294967296 := by rw [hs]; exact ad_lt _ _
      obtain ⟨y, hy⟩ : ∃ y, y = d ^^^ s := ⟨_, rfl⟩
      have ly : y < 4294967296 := by rw [hy]; exact xor_lt hd ls
      have e2 := xor32 d s hd ls
      obtain ⟨t, ht⟩ : ∃ t, t = rl 8 y := ⟨_, rfl⟩
      have f1 := turn_24 y ly
      have HQ : Hid (wd (q4 p') = [.int .u32 s, .int .u32 b, .int .u32 c, .int .u32 t]) := by show _ = _; rw [HU.out, ht, hy, hs]; rfl
      rw [HQ.out]
      clear HU HS0 HS1 HS2 HS3
      rw [← hs] at e1; rw [← hy] at e2; rw [← ht] at f1
      clear hs hy ht ls ly ha hb hc hd hok
      have hA0 : Blk wr w.heap.size 82 [.int .u32 a, .int .u32 b, .int .u32 c, .int .u32 d] := hA
      have la := hA.lt
      clear hA
      have d0 : decide ((2 : Int) < 4) = true := by decide
      have q1 : ∀ y : Up wr, y.1.cell? ⟨w.heap.size, 0, none⟩ = some (.int .u32 a) := fun y => (hA0.below y.2 la).cell 0 _ rfl
      have q2 : ∀ y : Up wr, y.1.cell? ⟨w.heap.size, 1, none⟩ = some (.int .u32 b) := fun y => (hA0.below y.2 la).cell 1 _ rfl
      have hne := Up.some wr
      go_wp2_with fail
      refine wp_region_tail 8 (by kernel_rfl) (by kernel_rfl) ?_
      simp only [List.take_succ_cons, List.take_zero, List.drop_succ_cons, List.drop_zero]
      repeat (go_big_quiet_step (fail))
      refine wpQuiet_nil ?_
      rintro w1 ⟨y1, rfl⟩
      have hA1 := hA0.below y1.2 la
      have hZ1 := hZ.below y1.2 lz
      have hN1 := hN.below y1.2 ln
      have hX1 := hnx.trans (y1.2.mono hnx.size)
      have c1 := hA1.cell 0 _ rfl
      have z1 := hA1.frozen 0
      clear q1 q2 hne
      go_wp2_with fail
      have hA2 : Blk (y1.1.setCell ⟨w.heap.size, 0, none⟩ (.int .u32 s)) w.heap.size 82 [.int .u32 s, .int .u32 b, .int .u32 c, .int .u32 d] := hA1.set 0 _
      have hZ2 := hZ1.other (a := ⟨w.heap.size, 0, none⟩) (by simp) (.int .u32 s)
      have hN2 := hN1.other (a := ⟨w.heap.size, 0, none⟩) (by simp; omega) (.int .u32 s)
      have hX2 : Below w.heap.size w (y1.1.setCell ⟨w.heap.size, 0, none⟩ (.int .u32 s)) := hX1.setCell (by simp) _
      generalize y1.1.setCell ⟨w.heap.size, 0, none⟩ (.int .u32 s) = W2 at *
      clear hA0 hA1 hZ1 hN1 hX1 c1 z1
      have la := hA2.lt
      have q1 : ∀ y : Up W2, y.1.cell? ⟨w.heap.size, 0, none⟩ = some (.int .u32 s) := fun y => (hA2.below y.2 la).cell 0 _ rfl
      have q2 : ∀ y : Up W2, y.1.cell? ⟨w.heap.size, 3, none⟩ = some (.int .u32 d) := fun y => (hA2.below y.2 la).cell 3 _ rfl
      have F1 : Hid (∀ x : Up W2, Calls Try.prog 82 #[.int .u32 y, .int .i64 24] x.1 fun e w' => e = .returned (.int .u32 t) ∧ Below x.1.heap.size x.1 w') := fun x => f1 x.1
      have hne := Up.some W2
      refine wp_region_tail 12 (by kernel_rfl) (by kernel_rfl) ?_
      simp only [List.take_succ_cons, List.take_zero, List.drop_succ_cons, List.drop_zero]
      repeat (go_big_quiet_step (with_reducible exact calls_up (F1.out _)))
      refine wpQuiet_nil ?_
      rintro w3 ⟨y3, rfl⟩
      have hA3 := hA2.below y3.2 la
      have hZ3 := hZ2.below y3.2 hZ2.lt
      have hN3 := hN2.below y3.2 hN2.lt
      have hX3 := hX2.trans (y3.2.mono hX2.size)
      have c1 := hA3.cell 3 _ rfl
      have z1 := hA3.frozen 3
      clear q1 q2 hne F1
      go_wp2_with fail
      go_roundw
      case rel => exact ⟨.inr (.inr (.inr (.inl ⟨rfl, hA3.set 3 _⟩))), hZ3.other (by simp) _, hN3.other (by simp; omega) _, hX3.setCell (by simp) _⟩
      case measure => simp [intOf]
    · have hok3 := hok 3
      have HU : Hid (F 4 = od 7 (F 3)) := HS3.out
      generalize F 4 = p' at *
      generalize F 3 = p at *
      obtain ⟨a, b, c, d⟩ := p
      have ha : a < 4294967296 := hok3.a
      have hb : b < 4294967296 := hok3.b
      have hc : c < 4294967296 := hok3.c
      have hd : d < 4294967296 := hok3.d
      clear hok3
      obtain ⟨s, hs⟩ : ∃ s, s = ad c d := ⟨_, rfl⟩
      have e1 := add32 c d
      have ls : s < 4294967296 := by rw [hs]; exact ad_lt _ _
      obtain ⟨y, hy⟩ : ∃ y, y = b ^^^ s := ⟨_, rfl⟩
      have ly : y < 4294967296 := by rw [hy]; exact xor_lt hb ls
      have e2 := xor32 b s hb ls
      obtain ⟨t, ht⟩ : ∃ t, t = rl 7 y := ⟨_, rfl⟩
      have f1 := turn_25 y ly
      have HQ : Hid (wd (q4 p') = [.int .u32 a, .int .u32 t, .int .u32 s, .int .u32 d]) := by show _ = _; rw [HU.out, ht, hy, hs]; rfl
      rw [HQ.out]
      clear HU HS0 HS1 HS2 HS3
      rw [← hs] at e1; rw [← hy] at e2; rw [← ht] at f1
      clear hs hy ht ls ly ha hb hc hd hok
      have hA0 : Blk wr w.heap.size 82 [.int .u32 a, .int .u32 b, .int .u32 c, .int .u32 d] := hA
      have la := hA.lt
      clear hA
      have d0 : decide ((3 : Int) < 4) = true := by decide
      have q1 : ∀ y : Up wr, y.1.cell? ⟨w.heap.size, 2, none⟩ = some (.int .u32 c) := fun y => (hA0.below y.2 la).cell 2 _ rfl
      have q2 : ∀ y : Up wr, y.1.cell? ⟨w.heap.size, 3, none⟩ = some (.int .u32 d) := fun y => (hA0.below y.2 la).cell 3 _ rfl
      have hne := Up.some wr
      go_wp2_with fail
      refine wp_region_tail 8 (by kernel_rfl) (by kernel_rfl) ?_
      simp only [List.take_succ_cons, List.take_zero, List.drop_succ_cons, List.drop_zero]
      repeat (go_big_quiet_step (fail))
      refine wpQuiet_nil ?_
      rintro w1 ⟨y1, rfl⟩
      have hA1 := hA0.below y1.2 la
      have hZ1 := hZ.below y1.2 lz
      have hN1 := hN.below y1.2 ln
      have hX1 := hnx.trans (y1.2.mono hnx.size)
      have c1 := hA1.cell 2 _ rfl
      have z1 := hA1.frozen 2
      clear q1 q2 hne
      go_wp2_with fail
      have hA2 : Blk (y1.1.setCell ⟨w.heap.size, 2, none⟩ (.int .u32 s)) w.heap.size 82 [.int .u32 a, .int .u32 b, .int .u32 s, .int .u32 d] := hA1.set 2 _
      have hZ2 := hZ1.other (a := ⟨w.heap.size, 2, none⟩) (by simp) (.int .u32 s)
      have hN2 := hN1.other (a := ⟨w.heap.size, 2, none⟩) (by simp; omega) (.int .u32 s)
      have hX2 : Below w.heap.size w (y1.1.setCell ⟨w.heap.size, 2, none⟩ (.int .u32 s)) := hX1.setCell (by simp) _
      generalize y1.1.setCell ⟨w.heap.size, 2, none⟩ (.int .u32 s) = W2 at *
      clear hA0 hA1 hZ1 hN1 hX1 c1 z1
      have la := hA2.lt
      have q1 : ∀ y : Up W2, y.1.cell? ⟨w.heap.size, 2, none⟩ = some (.int .u32 s) := fun y => (hA2.below y.2 la).cell 2 _ rfl
      have q2 : ∀ y : Up W2, y.1.cell? ⟨w.heap.size, 1, none⟩ = some (.int .u32 b) := fun y => (hA2.below y.2 la).cell 1 _ rfl
      have F1 : Hid (∀ x : Up W2, Calls Try.prog 82 #[.int .u32 y, .int .i64 25] x.1 fun e w' => e = .returned (.int .u32 t) ∧ Below x.1.heap.size x.1 w') := fun x => f1 x.1
      have hne := Up.some W2
      refine wp_region_tail 12 (by kernel_rfl) (by kernel_rfl) ?_
      simp only [List.take_succ_cons, List.take_zero, List.drop_succ_cons, List.drop_zero]
      repeat (go_big_quiet_step (with_reducible exact calls_up (F1.out _)))
      refine wpQuiet_nil ?_
      rintro w3 ⟨y3, rfl⟩
      have hA3 := hA2.below y3.2 la
      have hZ3 := hZ2.below y3.2 hZ2.lt
      have hN3 := hN2.below y3.2 hN2.lt
      have hX3 := hX2.trans (y3.2.mono hX2.size)
      have c1 := hA3.cell 1 _ rfl
      have z1 := hA3.frozen 1
      clear q1 q2 hne F1
      go_wp2_with fail
      go_roundw
      case rel => exact ⟨.inr (.inr (.inr (.inr ⟨rfl, hA3.set 1 _⟩))), hZ3.other (by simp) _, hN3.other (by simp; omega) _, hX3.setCell (by simp) _⟩
      case measure => simp [intOf]
    · have d0 : decide ((4 : Int) < 4) = false := by decide
      have lq : (wd (q4 (F 4))).length = 4 := rfl
      have l1 := wd_one (q4 (F 4))
      obtain ⟨R, HR⟩ : ∃ R, Hid (R = wd (q4 (F 4))) := ⟨_, rfl⟩
      rw [← HR.out] at hA lq l1
      go_wp2_with (first | (refine wpList_load_blk rfl 82 (.tmp 1) rfl w.heap.size 0 rfl hA R (by simp) _ Try.underlying82 rfl (by rw [lq]; exact infoA4) ?_) | (refine wpList_store_blk rfl 82 (.tmp 2) (.tmp 48) rfl (w.heap.size + 1) R rfl rfl z4 hZ (by rw [lq]; rfl) l1 infoA4 ?_; intro W hW))
      exact bodyPost_ret (results_blk1 Try.results71 _ rfl hW.blk _ Try.underlying82 rfl (by rw [lq]; exact infoA4)) rfl ⟨by rw [HR.out], hW.below _ _ (by omega) hnx⟩
end Go.Proofs.Ytjcgodojbpfooaa.cha
