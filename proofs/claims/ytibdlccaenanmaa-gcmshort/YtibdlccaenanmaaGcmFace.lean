/-
  THE WALKS OF package gcm's tag, check, Seal and Open.
-/
import Derived.Test.YtibdlccaenanmaaGcmMasks
import Derived.Test.YtibdlccaenanmaaPlainBox
namespace Go.Proofs.Ytibdlccaenanmaa.gcm
open Go.RowKit
open Go.Proofs.Ytibdlccaenanmaa.aes (Ok enc zero16 kE kE_ok infoU8)
open Go.Proofs.Ytibdlccaenanmaa.ghs (bn bt bt_size sumN xo xo_size)
open Go.Proofs.Ytibdlccaenanmaa.box

set_option maxRecDepth 100000 in
set_option maxHeartbeats 800000 in
theorem tag_any (A1 A2 M more s : ByteArray) (h1 : A1.size = 16) (h2 : A2.size = 16) (hm : more.size ≤ 140737488355328) (hs : s.size ≤ 140737488355328) (w : World) :
    Calls Try.prog 19 #[.agg #[.string A1, .string A2, .string M], .string more, .string s] w fun e w' => e = .returned (.string (xo (bt (sumN (bn A1) more s)) A2)) ∧ Below w.heap.size w w' := by
  have f1 := ghs.sum_good A1 more s h1 hm hs
  have f2 := xored_any (bt (sumN (bn A1) more s)) A2 (by rw [bt_size, h2]; omega) (by rw [bt_size]; omega)
  generalize bt (sumN (bn A1) more s) = T at *
  have hA := Blk.new w 34 [.string A1, .string A2, .string M] _ rfl
  have hX : Below w.heap.size w (w.alloc (.cells #[.string A1, .string A2, .string M] 34)) := (Below.refl _ _).alloc (Nat.le_refl _) _
  go_enter Try.func19, Try.ntmps19
  go_wp2_with (first
    | (go_at_call 30; with_reducible refine (f1 _).mono ?_; rintro e w1 ⟨rfl, hb1⟩; have c1 := (hA.below hb1 hA.lt).cell 1 _ rfl)
    | (go_at_call 18; with_reducible refine (f2 _).mono ?_; rintro e w2 ⟨rfl, hb2⟩))
  go_ret
  have hX1 := hX.trans (hb1.mono hX.size)
  exact ⟨rfl, hX1.trans (hb2.mono hX1.size)⟩

theorem check_any (key nonce more text : ByteArray) (most : Nat) (w : World) :
    Calls Try.prog 16 #[.string key, .string nonce, .string more, .string text, .int .i64 most] w fun e w' => e = .returned (.int .i64 (chk key nonce more text most)) ∧ w' = w := by
  go_enter Try.func16, Try.ntmps16
  go_wp2
  all_goals
    go_ret
    refine ⟨?_, rfl⟩
    unfold chk
    simp only [bne_iff_ne, ne_eq, bne_eq_false_iff_eq] at *
    repeat' split
    all_goals first | rfl | (exfalso; omega)

set_option maxRecDepth 100000 in
set_option maxHeartbeats 800000 in
theorem seal_any (key nonce more text : ByteArray) (w : World) :
    Calls Try.prog 8 #[.string key, .string nonce, .string more, .string text] w fun e w' => e = .returned (.tuple #[.string (sealT (hide (kE key) nonce) (tagT (kE key) nonce more) (chk key nonce more text 2000) text), .int .i64 (chk key nonce more text 2000)]) ∧ Below w.heap.size w w' := by
  have f1 := check_any key nonce more text 2000
  rw [show ((2000 : Nat) : Int) = 2000 from rfl] at f1
  have hz := chk_zero (key := key) (nonce := nonce) (more := more) (text := text) (most := 2000)
  generalize chk key nonce more text 2000 = c at *
  by_cases h0 : c = 0
  · subst h0
    obtain ⟨hk, hn, hm, ht⟩ := hz rfl
    have f2 := newMasks_any key nonce hk hn text.size (by omega)
    have f3 := xored_any text (mask (kE key) nonce text.size) (mask_size _ _ _) (by omega)
    have e3 : xo text (mask (kE key) nonce text.size) = hide (kE key) nonce text := rfl
    rw [e3] at f3
    have hs := hide_size (kE key) nonce text
    have HT : Hid (sealT (hide (kE key) nonce) (tagT (kE key) nonce more) 0 text = hide (kE key) nonce text ++ tagT (kE key) nonce more (hide (kE key) nonce text)) := if_pos rfl
    rw [HT.out]
    clear HT e3
    generalize hide (kE key) nonce text = T at *
    have f4 := fun M => tag_any (tx (enc (kE key) 14 zero16)) (tx (enc (kE key) 14 (blk nonce 1))) M more T (by rw [tx_size, aes.enc_length]) (by rw [tx_size, aes.enc_length]) (by omega) (by omega)
    have e4 : xo (bt (sumN (bn (tx (enc (kE key) 14 zero16))) more T)) (tx (enc (kE key) 14 (blk nonce 1))) = tagT (kE key) nonce more T := rfl
    rw [e4] at f4
    have hts := tagT_size (kE key) nonce more T
    clear e4
    generalize tagT (kE key) nonce more T = G at *
    generalize tx (enc (kE key) 14 zero16) = A1 at *
    generalize tx (enc (kE key) 14 (blk nonce 1)) = A2 at *
    generalize mask (kE key) nonce text.size = M at *
    go_enter Try.func8, Try.ntmps8
    go_wp2_with (first
      | (go_at_call 16; with_reducible refine (f1 _).mono ?_; rintro e w0 ⟨rfl, rfl⟩)
      | (go_at_call 17; with_reducible refine (f2 _).mono ?_; rintro e w1 ⟨rfl, hb1⟩; have hA := Blk.new w1 34 [.string A1, .string A2, .string M] _ rfl)
      | (go_at_call 18; with_reducible refine (f3 _).mono ?_; rintro e w2 ⟨rfl, hb2⟩; have c0 := (hA.below hb2 hA.lt).cell 0 _ rfl; have c1 := (hA.below hb2 hA.lt).cell 1 _ rfl; have c2 := (hA.below hb2 hA.lt).cell 2 _ rfl)
      | (go_at_call 19; with_reducible refine (f4 _ _).mono ?_; rintro e w3 ⟨rfl, hb3⟩))
    go_ret2
    have hX1 := hb1.alloc hb1.size (.cells #[.string A1, .string A2, .string M] 34)
    have hX2 := hX1.trans (hb2.mono hX1.size)
    exact ⟨rfl, hX2.trans (hb3.mono hX2.size)⟩
  · have c0 : ((c : Int) != 0) = true := by simp; omega
    have HT : Hid (sealT (hide (kE key) nonce) (tagT (kE key) nonce more) c text = ⟨#[]⟩) := if_neg h0
    rw [HT.out]
    go_enter Try.func8, Try.ntmps8
    go_wp2_with (go_at_call 16; with_reducible refine (f1 _).mono ?_; rintro e w0 ⟨rfl, rfl⟩)
    go_ret2
    exact ⟨rfl, Below.refl _ _⟩

set_option maxRecDepth 100000 in
set_option maxHeartbeats 1600000 in
theorem open_any (key nonce more s : ByteArray) (w : World) :
    Calls Try.prog 10 #[.string key, .string nonce, .string more, .string s] w fun e w' => e = .returned (.tuple #[.string (openT (hide (kE key) nonce) (tagT (kE key) nonce more) (chk key nonce more s 2016) s), .int .i64 (openE (tagT (kE key) nonce more) (chk key nonce more s 2016) s)]) ∧ Below w.heap.size w w' := by
  have f1 := check_any key nonce more s 2016
  rw [show ((2016 : Nat) : Int) = 2016 from rfl] at f1
  have hz := chk_zero (key := key) (nonce := nonce) (more := more) (text := s) (most := 2016)
  generalize chk key nonce more s 2016 = c at *
  by_cases h0 : c = 0
  · subst h0
    obtain ⟨hk, hn, hm, ht⟩ := hz rfl
    by_cases hsh : s.size < 16
    · have d0 : decide ((s.size : Int) - 16 < 0) = true := by simp; omega
      have HE : openE (tagT (kE key) nonce more) 0 s = 4 := by rw [openE, if_pos rfl, if_pos hsh]
      have HT : openT (hide (kE key) nonce) (tagT (kE key) nonce more) 0 s = ⟨#[]⟩ := by rw [openT, HE, if_neg (by decide)]
      rw [HE, HT]
      clear HE HT
      go_enter Try.func10, Try.ntmps10
      go_wp2_with (go_at_call 16; with_reducible refine (f1 _).mono ?_; rintro e w0 ⟨rfl, rfl⟩)
      go_ret2
      exact ⟨rfl, Below.refl _ _⟩
    · obtain ⟨n, hn'⟩ : ∃ n, s.size = n + 16 := ⟨s.size - 16, by omega⟩
      have d0 : decide ((s.size : Int) - 16 < 0) = false := by simp; omega
      have i0 : (s.size : Int) - 16 = (n : Int) := by omega
      have s1 := sl_to s n (by omega)
      have s2 := sl_from s n (by omega)
      have e1 : s.extract 0 n = front s := by unfold front; rw [hn', Nat.add_sub_cancel]
      have e2 : s.extract n s.size = back s := by unfold back; rw [hn', Nat.add_sub_cancel]
      rw [e1] at s1
      rw [e2] at s2
      have hfs : (front s).size = n := by rw [front_size]; omega
      have f2 := newMasks_any key nonce hk hn n (by omega)
      have f3 := xored_any (front s) (mask (kE key) nonce n) (by rw [hfs]; exact mask_size _ _ _) (by omega)
      have e3 : xo (front s) (mask (kE key) nonce n) = hide (kE key) nonce (front s) := by rw [hide, hfs]
      rw [e3] at f3
      have HE : openE (tagT (kE key) nonce more) 0 s = if tagT (kE key) nonce more (front s) = back s then 0 else 6 := by rw [openE, if_pos rfl, if_neg hsh]
      have HT : openT (hide (kE key) nonce) (tagT (kE key) nonce more) 0 s = if tagT (kE key) nonce more (front s) = back s then hide (kE key) nonce (front s) else ⟨#[]⟩ := by
        rw [openT, HE]
        by_cases h : tagT (kE key) nonce more (front s) = back s
        · rw [if_pos h, if_pos rfl, if_pos h]
        · rw [if_neg h, if_neg (by decide), if_neg h]
      rw [HE, HT]
      clear HT HE e3 e1 e2 hz
      generalize hide (kE key) nonce (front s) = H at *
      generalize front s = T at *
      generalize back s = B at *
      have f4 := fun M => tag_any (tx (enc (kE key) 14 zero16)) (tx (enc (kE key) 14 (blk nonce 1))) M more T (by rw [tx_size, aes.enc_length]) (by rw [tx_size, aes.enc_length]) (by omega) (by omega)
      have e4 : xo (bt (sumN (bn (tx (enc (kE key) 14 zero16))) more T)) (tx (enc (kE key) 14 (blk nonce 1))) = tagT (kE key) nonce more T := rfl
      rw [e4] at f4
      clear e4
      generalize tagT (kE key) nonce more T = G at *
      generalize tx (enc (kE key) 14 zero16) = A1 at *
      generalize tx (enc (kE key) 14 (blk nonce 1)) = A2 at *
      generalize mask (kE key) nonce n = M at *
      go_enter Try.func10, Try.ntmps10
      go_wp2_with (first
        | (go_at_call 16; with_reducible refine (f1 _).mono ?_; rintro e w0 ⟨rfl, rfl⟩)
        | (go_at_call 17; with_reducible refine (f2 _).mono ?_; rintro e w1 ⟨rfl, hb1⟩; have hA := Blk.new w1 34 [.string A1, .string A2, .string M] _ rfl))
      have hX1 := hb1.alloc hb1.size (.cells #[.string A1, .string A2, .string M] 34)
      generalize w1.alloc (.cells #[.string A1, .string A2, .string M] 34) = W1 at *
      have hne := Up.some W1
      have q1 : ∀ y : Up W1, y.1.rangeAt w1.heap.size 0 [.string A1, .string A2, .string M] := fun y => (hA.below y.2 hA.lt).range 0 _ rfl
      have F1 : Hid (∀ y : Up W1, Calls Try.prog 19 #[.agg #[.string A1, .string A2, .string M], .string more, .string T] y.1 fun e w' => e = .returned (.string G) ∧ Below y.1.heap.size y.1 w') := fun y => f4 M y.1
      refine wp_region_up (by kernel_rfl) (by kernel_rfl) ?_
      repeat (first
        | (refine wpQuiet_load rfl 34 (.tmp 12) rfl w1.heap.size 0 rfl [.string A1, .string A2, .string M] _ q1 Try.underlying34 rfl infoMK ?_; simp only [Act.put, List.setIfInBounds_toArray, List.set_cons_succ, List.set_cons_zero])
        | (go_big_quiet_step (with_reducible exact calls_up (F1.out _))))
      refine wpQuiet_nil ?_
      rintro w2 ⟨y2, rfl⟩
      have hX2 := hX1.trans (y2.2.mono hX1.size)
      by_cases he : G = B
      · have t0 : (G.toList == B.toList) = true := by rw [beq_iff_eq, he]
        rw [t0, Bool.not_true]
        have hA2 := hA.below y2.2 hA.lt
        have hne2 := Up.some y2.1
        have q2 : ∀ y : Up y2.1, y.1.cell? ⟨w1.heap.size, 2, none⟩ = some (.string M) := fun y => (hA2.below y.2 hA2.lt).cell 2 _ rfl
        have F2 : Hid (∀ y : Up y2.1, Calls Try.prog 18 #[.string T, .string M] y.1 fun e w' => e = .returned (.string H) ∧ Below y.1.heap.size y.1 w') := fun y => f3 y.1
        clear q1 F1
        go_wp2_with fail
        refine wp_region_up (by kernel_rfl) (by kernel_rfl) ?_
        repeat (go_big_quiet_step (with_reducible exact calls_up (F2.out _)))
        refine wpQuiet_nil ?_
        rintro w3 ⟨y3, rfl⟩
        go_wp2_with fail
        go_ret2
        exact ⟨rfl, hX2.trans (y3.2.mono hX2.size)⟩
      · have t0 := ne_list he
        rw [t0, Bool.not_false]
        clear q1 F1
        go_wp2_with fail
        go_ret2
        exact ⟨rfl, hX2⟩
  · have c0 : ((c : Int) != 0) = true := by simp; omega
    have HE : openE (tagT (kE key) nonce more) c s = c := by rw [openE, if_neg h0]
    have HT : openT (hide (kE key) nonce) (tagT (kE key) nonce more) c s = ⟨#[]⟩ := by rw [openT, HE, if_neg h0]
    rw [HT, HE]
    go_enter Try.func10, Try.ntmps10
    go_wp2_with (go_at_call 16; with_reducible refine (f1 _).mono ?_; rintro e w0 ⟨rfl, rfl⟩)
    go_ret2
    exact ⟨rfl, Below.refl _ _⟩
end Go.Proofs.Ytibdlccaenanmaa.gcm
