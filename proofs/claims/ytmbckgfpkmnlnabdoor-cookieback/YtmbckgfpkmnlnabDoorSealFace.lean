/-
  THE WALKS OF package seal's check, Seal, Open, shortened, Long and Unlong.
-/
import Derived.Test.YtmbckgfpkmnlnabDoorSealTold
namespace Go.Proofs.YtmbckgfpkmnlnabDoor.sea
open Go.RowKit
open Go.Proofs.YtmbckgfpkmnlnabDoor.box

theorem check_any (key nonce more text : ByteArray) (most : Nat) (w : World) :
    Calls Tryd.prog 45 #[.string key, .string nonce, .string more, .string text, .int .i64 most] w fun e w' => e = .returned (.int .i64 (chk key nonce more text most)) ∧ w' = w := by
  go_enter Tryd.func45, Tryd.ntmps45
  go_wp2
  all_goals
    go_ret
    refine ⟨?_, rfl⟩
    unfold chk
    simp only [bne_iff_ne, ne_eq, bne_eq_false_iff_eq] at *
    repeat' split
    all_goals first | rfl | (exfalso; omega)

set_option maxRecDepth 100000 in
set_option maxHeartbeats 800000 in
theorem seal_any (key nonce more text : ByteArray) (w : World) :
    Calls Tryd.prog 34 #[.string key, .string nonce, .string more, .string text] w fun e w' => e = .returned (.tuple #[.string (sealT (hide key nonce) (tagT key nonce more) (chk key nonce more text 2000) text), .int .i64 (chk key nonce more text 2000)]) ∧ Below w.heap.size w w' := by
  have f1 := check_any key nonce more text 2000
  rw [show ((2000 : Nat) : Int) = 2000 from rfl] at f1
  have hz := chk_zero (key := key) (nonce := nonce) (more := more) (text := text) (most := 2000)
  generalize chk key nonce more text 2000 = c at *
  by_cases h0 : c = 0
  · subst h0
    obtain ⟨hk, hn, hm, ht⟩ := hz rfl
    have f3 := xored_any key nonce text hk hn ht
    have hs := hide_size key nonce text
    have HT : Hid (sealT (hide key nonce) (tagT key nonce more) 0 text = hide key nonce text ++ tagT key nonce more (hide key nonce text)) := if_pos rfl
    rw [HT.out]
    clear HT
    generalize hide key nonce text = T at *
    have f4 := tag_any key nonce more T hk hn (by omega) (by omega)
    have hts := tagT_size key nonce more T
    generalize tagT key nonce more T = G at *
    go_enter Tryd.func34, Tryd.ntmps34
    go_wp2_with (first
      | (go_at_call 45; with_reducible refine (f1 _).mono ?_; rintro e w0 ⟨rfl, rfl⟩)
      | (go_at_call 46; with_reducible refine (f3 _).mono ?_; rintro e w2 ⟨rfl, hb2⟩)
      | (go_at_call 47; with_reducible refine (f4 _).mono ?_; rintro e w3 ⟨rfl, hb3⟩))
    go_ret2
    exact ⟨rfl, hb2.trans (hb3.mono hb2.size)⟩
  · have c0 : ((c : Int) != 0) = true := by simp; omega
    have HT : Hid (sealT (hide key nonce) (tagT key nonce more) c text = ⟨#[]⟩) := if_neg h0
    rw [HT.out]
    go_enter Tryd.func34, Tryd.ntmps34
    go_wp2_with (go_at_call 45; with_reducible refine (f1 _).mono ?_; rintro e w0 ⟨rfl, rfl⟩)
    go_ret2
    exact ⟨rfl, Below.refl _ _⟩

set_option maxRecDepth 100000 in
set_option maxHeartbeats 1600000 in
theorem open_any (key nonce more s : ByteArray) (w : World) :
    Calls Tryd.prog 36 #[.string key, .string nonce, .string more, .string s] w fun e w' => e = .returned (.tuple #[.string (openT (hide key nonce) (tagT key nonce more) (chk key nonce more s 2016) s), .int .i64 (openE (tagT key nonce more) (chk key nonce more s 2016) s)]) ∧ Below w.heap.size w w' := by
  have f1 := check_any key nonce more s 2016
  rw [show ((2016 : Nat) : Int) = 2016 from rfl] at f1
  have hz := chk_zero (key := key) (nonce := nonce) (more := more) (text := s) (most := 2016)
  generalize chk key nonce more s 2016 = c at *
  by_cases h0 : c = 0
  · subst h0
    obtain ⟨hk, hn, hm, ht⟩ := hz rfl
    by_cases hsh : s.size < 16
    · have d0 : decide ((s.size : Int) - 16 < 0) = true := by simp; omega
      have HE : openE (tagT key nonce more) 0 s = 4 := by rw [openE, if_pos rfl, if_pos hsh]
      have HT : openT (hide key nonce) (tagT key nonce more) 0 s = ⟨#[]⟩ := by rw [openT, HE, if_neg (by decide)]
      rw [HE, HT]
      clear HE HT
      go_enter Tryd.func36, Tryd.ntmps36
      go_wp2_with (go_at_call 45; with_reducible refine (f1 _).mono ?_; rintro e w0 ⟨rfl, rfl⟩)
      go_ret2
      exact ⟨rfl, Below.refl _ _⟩
    · obtain ⟨n, hn'⟩ : ∃ n, s.size = n + 16 := ⟨s.size - 16, by omega⟩
      have d0 : decide ((s.size : Int) - 16 < 0) = false := by simp; omega
      have i0 : (s.size : Int) - 16 = (n : Int) := by omega
      have s1 := cv.sl_to s n (by omega)
      have s2 := cv.sl_from s n (by omega)
      have e1 : s.extract 0 n = front s := by unfold front; rw [hn', Nat.add_sub_cancel]
      have e2 : s.extract n s.size = back s := by unfold back; rw [hn', Nat.add_sub_cancel]
      rw [e1] at s1
      rw [e2] at s2
      have hfs : (front s).size = n := by rw [front_size]; omega
      have f3 := xored_any key nonce (front s) hk hn (by omega)
      have HE : openE (tagT key nonce more) 0 s = if tagT key nonce more (front s) = back s then 0 else 6 := by rw [openE, if_pos rfl, if_neg hsh]
      have HT : openT (hide key nonce) (tagT key nonce more) 0 s = if tagT key nonce more (front s) = back s then hide key nonce (front s) else ⟨#[]⟩ := by
        rw [openT, HE]
        by_cases h : tagT key nonce more (front s) = back s
        · rw [if_pos h, if_pos rfl, if_pos h]
        · rw [if_neg h, if_neg (by decide), if_neg h]
      rw [HE, HT]
      clear HT HE e1 e2 hz
      generalize hide key nonce (front s) = H at *
      generalize front s = T at *
      generalize back s = B at *
      have f4 := tag_any key nonce more T hk hn (by omega) (by omega)
      generalize tagT key nonce more T = G at *
      go_enter Tryd.func36, Tryd.ntmps36
      go_wp2_with (go_at_call 45; with_reducible refine (f1 _).mono ?_; rintro e w0 ⟨rfl, rfl⟩)
      have hne := Up.some w0
      have F1 : Hid (∀ y : Up w0, Calls Tryd.prog 47 #[.string key, .string nonce, .string more, .string T] y.1 fun e w' => e = .returned (.string G) ∧ Below y.1.heap.size y.1 w') := fun y => f4 y.1
      refine wp_region_up (by kernel_rfl) (by kernel_rfl) ?_
      repeat (go_big_quiet_step (with_reducible exact calls_up (F1.out _)))
      refine wpQuiet_nil ?_
      rintro w2 ⟨y2, rfl⟩
      clear F1
      by_cases he : G = B
      · have t0 : (G.toList == B.toList) = true := by rw [beq_iff_eq, he]
        rw [t0, Bool.not_true]
        go_wp2_with (go_at_call 46; with_reducible refine (f3 _).mono ?_; rintro e w3 ⟨rfl, hb3⟩)
        go_ret2
        exact ⟨rfl, y2.2.trans (hb3.mono y2.2.size)⟩
      · have t0 := ne_list he
        rw [t0, Bool.not_false]
        go_wp2_with fail
        go_ret2
        exact ⟨rfl, y2.2⟩
  · have c0 : ((c : Int) != 0) = true := by simp; omega
    have HE : openE (tagT key nonce more) c s = c := by rw [openE, if_neg h0]
    have HT : openT (hide key nonce) (tagT key nonce more) c s = ⟨#[]⟩ := by rw [openT, HE, if_neg h0]
    rw [HT, HE]
    go_enter Tryd.func36, Tryd.ntmps36
    go_wp2_with (go_at_call 45; with_reducible refine (f1 _).mono ?_; rintro e w0 ⟨rfl, rfl⟩)
    go_ret2
    exact ⟨rfl, Below.refl _ _⟩
end Go.Proofs.YtmbckgfpkmnlnabDoor.sea
