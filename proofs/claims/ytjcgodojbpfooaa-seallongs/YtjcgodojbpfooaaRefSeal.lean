/-
  THE WALKS OF the document's own filled, tagged, boxed, Seal and Open.
-/
import Derived.Test.YtjcgodojbpfooaaPlainSeal
import Derived.Test.YtjcgodojbpfooaaBundle2
import Derived.Test.YtjcgodojbpfooaaRefLow
import Derived.Test.YtjcgodojbpfooaaRefChaXor
import Derived.Test.YtjcgodojbpfooaaRefPolyTag
namespace Go.Proofs.Ytjcgodojbpfooaa.rsea
open Go.RowKit
open Go.Proofs.Ytjcgodojbpfooaa.box
open Go.Proofs.Ytjcgodojbpfooaa.sea
open Go.Proofs.Ytjcgodojbpfooaa.pol (T T_size dg)

theorem lows_dg (m n : Nat) : cha.lows n m = dg 256 m n := by
  induction m generalizing n with
  | zero => rfl
  | succ m ih => rw [cha.lows, dg, ih]
theorem low8 (n : Nat) (hn : n < 18446744073709551616) (w : World) :
    Calls Try.prog 43 #[.int .u64 n, .int .i64 8] w fun e w' => e = .returned (.string (T 8 n)) ∧ Below w.heap.size w w' := by
  have := cha.low_any 8 (by decide) n hn w
  rw [lows_dg] at this
  exact this

theorem zeros_any (n : Nat) (h : n ≤ 140737488355328) (w : World) :
    Calls Try.prog 29 #[.int .i64 n] w fun e w' => e = .returned (.string (noughts n)) ∧ Below w.heap.size w w' := by
  have f1 : ∀ W, Calls Try.prog 47 #[.int .i64 0] W fun e w' => e = .returned (.string ⟨#[0]⟩) ∧ Below W.heap.size W w' := fun W => cha.chr8 0 (by decide) W
  have f2 := fun W => Try.strings_Repeat ⟨#[0]⟩ n W (by omega) (by show 1 * n ≤ _; omega)
  have e : (⟨(Lib.repeatL (⟨#[0]⟩ : ByteArray).data.toList n).toArray⟩ : ByteArray) = noughts n := by
    show (⟨(Lib.repeatL [0] n).toArray⟩ : ByteArray) = _
    rw [repeat_zero]; rfl
  rw [e] at f2
  generalize noughts n = Z at *
  clear e
  go_enter Try.func29, Try.ntmps29
  go_wp2_with (first | (go_at_call 47; refine (f1 _).mono ?_; rintro e w1 ⟨rfl, hb1⟩) | (go_at_call 45; refine (f2 _).mono ?_; rintro e w2 ⟨rfl, hb2⟩))
  go_ret
  exact ⟨rfl, hb1.trans (hb2.mono hb1.size)⟩

theorem filled_any (s : ByteArray) (hs : s.size ≤ 140737488355328) (w : World) :
    Calls Try.prog 42 #[.string s] w fun e w' => e = .returned (.string (fl s)) ∧ Below w.heap.size w w' := by
  have f1 := rest_any (-(s.size : Int)) 16 (by omega) (by omega) ⟨by omega, by omega⟩
  rw [show ((16 : Nat) : Int) = 16 from rfl, show (-(s.size : Int) % 16).toNat = (16 - s.size % 16) % 16 from by omega] at f1
  have f2 := zeros_any ((16 - s.size % 16) % 16) (by omega)
  have hz := noughts_size ((16 - s.size % 16) % 16)
  unfold fl
  obtain ⟨r, hr⟩ : ∃ r, r = (16 - s.size % 16) % 16 := ⟨_, rfl⟩
  rw [← hr] at f1 f2 hz ⊢
  generalize noughts r = Z at *
  have hr16 : r < 16 := by omega
  have n1 : IntKind.i64.wrap (-(s.size : Int)) = -(s.size : Int) := by simp [IntKind.wrap, IntKind.bits, IntKind.signed]; omega
  have n2 : wrap64 (-(s.size : Int)) = -(s.size : Int) := by unfold wrap64; omega
  have n3 : s.size + Z.size ≤ 140737488355360 := by omega
  clear hr
  go_enter Try.func42, Try.ntmps42
  go_wp2_with (first | (go_at_call 64; refine (f1 _).mono ?_; rintro e w1 ⟨rfl, rfl⟩) | (go_at_call 29; refine (f2 _).mono ?_; rintro e w2 ⟨rfl, hb2⟩))
  go_ret
  exact ⟨rfl, hb2⟩

set_option maxRecDepth 100000 in
set_option maxHeartbeats 1600000 in
theorem tagged_any (key nonce more s : ByteArray) (h1 : key.size = 32) (h2 : nonce.size = 12) (hm : more.size ≤ 1000000) (hs : s.size ≤ 1000000) (w : World) :
    Calls Try.prog 26 #[.string key, .string nonce, .string more, .string s] w fun e w' => e = .returned (.string (s ++ tagT key nonce more s)) ∧ Below w.heap.size w w' := by
  have f1 := cha.rblock_good key nonce 0 (by omega) h1 h2
  rw [show ((0 : Nat) : Int) = 0 from rfl] at f1
  have f2 := filled_any more (by omega)
  have f3 := filled_any s (by omega)
  have f4 := low8 more.size (by omega)
  have f5 := low8 s.size (by omega)
  have f6 := lon.rTag_good (key0 key nonce) (made more s) (key0_size key nonce)
  have hts := tagT_size key nonce more s
  have p1 := cv.sl_to (cha.blk key nonce 0) 32 (by rw [cha.blk_size]; omega)
  rw [show ((32 : Nat) : Int) = 32 from rfl, show (cha.blk key nonce 0).extract 0 32 = key0 key nonce from rfl] at p1
  have HT : Hid (tagT key nonce more s = pol.tag (key0 key nonce) (made more s)) := rfl
  rw [HT.out] at hts ⊢
  have s1 := fl_size more
  have s2 := fl_size s
  have s3 := T_size 8 more.size
  have s4 := T_size 8 s.size
  have HM : Hid (made more s = fl more ++ fl s ++ T 8 more.size ++ T 8 s.size) := rfl
  clear HT
  generalize pol.tag (key0 key nonce) (made more s) = G at *
  rw [HM.out] at f6
  clear HM
  generalize key0 key nonce = K at *
  generalize fl more = A at *
  generalize fl s = B at *
  generalize T 8 more.size = C at *
  generalize T 8 s.size = D at *
  generalize cha.blk key nonce 0 = Z at *
  have w1 : IntKind.u64.wrap (more.size : Int) = (more.size : Int) := by simp [IntKind.wrap, IntKind.bits, IntKind.signed]; omega
  have w2 : IntKind.u64.wrap (s.size : Int) = (s.size : Int) := by simp [IntKind.wrap, IntKind.bits, IntKind.signed]; omega
  go_enter Try.func26, Try.ntmps26
  go_wp2_with (go_at_call 39; (with_reducible refine (f1 _).mono ?_); rintro e w1 ⟨rfl, hb1⟩)
  have hne := Up.some w1
  have F2 : Hid (∀ y : Up w1, Calls Try.prog 42 #[.string more] y.1 fun e w' => e = .returned (.string A) ∧ Below y.1.heap.size y.1 w') := fun y => f2 y.1
  have F3 : Hid (∀ y : Up w1, Calls Try.prog 42 #[.string s] y.1 fun e w' => e = .returned (.string B) ∧ Below y.1.heap.size y.1 w') := fun y => f3 y.1
  have F4 : Hid (∀ y : Up w1, Calls Try.prog 43 #[.int .u64 more.size, .int .i64 8] y.1 fun e w' => e = .returned (.string C) ∧ Below y.1.heap.size y.1 w') := fun y => f4 y.1
  have F5 : Hid (∀ y : Up w1, Calls Try.prog 43 #[.int .u64 s.size, .int .i64 8] y.1 fun e w' => e = .returned (.string D) ∧ Below y.1.heap.size y.1 w') := fun y => f5 y.1
  have F6 : Hid (∀ y : Up w1, Calls Try.prog 41 #[.string K, .string (A ++ B ++ C ++ D)] y.1 fun e w' => e = .returned (.tuple #[.string G, .int .i64 0]) ∧ Below y.1.heap.size y.1 w') := fun y => f6 y.1
  clear f1 f2 f3 f4 f5 f6
  refine wp_region_up (by kernel_rfl) (by kernel_rfl) ?_
  repeat (go_big_quiet_step (first | (with_reducible exact calls_up (F2.out _)) | (with_reducible exact calls_up (F3.out _)) | (with_reducible exact calls_up (F4.out _)) | (with_reducible exact calls_up (F5.out _)) | (with_reducible exact calls_up (F6.out _))))
  refine wpQuiet_nil ?_
  rintro w3 ⟨y3, rfl⟩
  go_wp2_with fail
  go_ret
  exact ⟨rfl, hb1.trans (y3.2.mono hb1.size)⟩

theorem boxed_any (key nonce more text : ByteArray) (most : Nat) (w : World) :
    Calls Try.prog 24 #[.string key, .string nonce, .string more, .string text, .int .i64 most] w fun e w' => e = .returned (.int .i64 (chk key nonce more text most)) ∧ w' = w := by
  go_enter Try.func24, Try.ntmps24
  go_wp2
  all_goals
    go_ret
    refine ⟨?_, rfl⟩
    unfold chk
    simp only [bne_iff_ne, ne_eq, bne_eq_false_iff_eq] at *
    repeat' split
    all_goals first | rfl | (exfalso; omega)

set_option maxRecDepth 100000 in
set_option maxHeartbeats 800000 in
theorem seal_any (key nonce more text : ByteArray) (w : World) :
    Calls Try.prog 10 #[.string key, .string nonce, .string more, .string text] w fun e w' => e = .returned (.tuple #[.string (sealT (hide key nonce) (tagT key nonce more) (chk key nonce more text 2000) text), .int .i64 (chk key nonce more text 2000)]) ∧ Below w.heap.size w w' := by
  have f1 := boxed_any key nonce more text 2000
  rw [show ((2000 : Nat) : Int) = 2000 from rfl] at f1
  have hz := chk_zero (key := key) (nonce := nonce) (more := more) (text := text) (most := 2000)
  generalize chk key nonce more text 2000 = c at *
  by_cases h0 : c = 0
  · subst h0
    obtain ⟨hk, hn, hm, ht⟩ := hz rfl
    have f2 := cha.rxor_good key nonce 1 text (by omega) hk hn ht
    rw [show ((1 : Nat) : Int) = 1 from rfl, show cha.hid key nonce 1 text = hide key nonce text from rfl] at f2
    have hs := hide_size key nonce text
    have HT : Hid (sealT (hide key nonce) (tagT key nonce more) 0 text = hide key nonce text ++ tagT key nonce more (hide key nonce text)) := if_pos rfl
    rw [HT.out]
    clear HT
    generalize hide key nonce text = T at *
    have f3 := tagged_any key nonce more T hk hn (by omega) (by omega)
    generalize T ++ tagT key nonce more T = Z at *
    go_enter Try.func10, Try.ntmps10
    go_wp2_with (first
      | (go_at_call 24; with_reducible refine (f1 _).mono ?_; rintro e w0 ⟨rfl, rfl⟩)
      | (go_at_call 25; with_reducible refine (f2 _).mono ?_; rintro e w2 ⟨rfl, hb2⟩)
      | (go_at_call 26; with_reducible refine (f3 _).mono ?_; rintro e w3 ⟨rfl, hb3⟩))
    go_ret2
    exact ⟨rfl, hb2.trans (hb3.mono hb2.size)⟩
  · have c0 : ((c : Int) != 0) = true := by simp; omega
    have HT : Hid (sealT (hide key nonce) (tagT key nonce more) c text = ⟨#[]⟩) := if_neg h0
    rw [HT.out]
    go_enter Try.func10, Try.ntmps10
    go_wp2_with (go_at_call 24; with_reducible refine (f1 _).mono ?_; rintro e w0 ⟨rfl, rfl⟩)
    go_ret2
    exact ⟨rfl, Below.refl _ _⟩

set_option maxRecDepth 100000 in
set_option maxHeartbeats 1600000 in
theorem open_any (key nonce more s : ByteArray) (w : World) :
    Calls Try.prog 12 #[.string key, .string nonce, .string more, .string s] w fun e w' => e = .returned (.tuple #[.string (openT (hide key nonce) (tagT key nonce more) (chk key nonce more s 2016) s), .int .i64 (openE (tagT key nonce more) (chk key nonce more s 2016) s)]) ∧ Below w.heap.size w w' := by
  have f1 := boxed_any key nonce more s 2016
  rw [show ((2016 : Nat) : Int) = 2016 from rfl] at f1
  have hz := chk_zero (key := key) (nonce := nonce) (more := more) (text := s) (most := 2016)
  generalize chk key nonce more s 2016 = c at *
  by_cases h0 : c = 0
  · subst h0
    obtain ⟨hk, hn, hm, ht⟩ := hz rfl
    by_cases hsh : s.size < 16
    · have d0 : decide ((s.size : Int) < 16) = true := by simp; omega
      have HE : openE (tagT key nonce more) 0 s = 4 := by rw [openE, if_pos rfl, if_pos hsh]
      have HT : openT (hide key nonce) (tagT key nonce more) 0 s = ⟨#[]⟩ := by rw [openT, HE, if_neg (by decide)]
      rw [HE, HT]
      clear HE HT
      go_enter Try.func12, Try.ntmps12
      go_wp2_with (go_at_call 24; with_reducible refine (f1 _).mono ?_; rintro e w0 ⟨rfl, rfl⟩)
      go_ret2
      exact ⟨rfl, Below.refl _ _⟩
    · obtain ⟨n, hn'⟩ : ∃ n, s.size = n + 16 := ⟨s.size - 16, by omega⟩
      have d0 : decide ((s.size : Int) < 16) = false := by simp; omega
      have i0 : (s.size : Int) - 16 = (n : Int) := by omega
      have s1 := cv.sl_to s n (by omega)
      have e1 : s.extract 0 n = front s := by unfold front; rw [hn', Nat.add_sub_cancel]
      rw [e1] at s1
      have hfs : (front s).size = n := by rw [front_size]; omega
      have f2 := cha.rxor_good key nonce 1 (front s) (by omega) hk hn (by omega)
      rw [show ((1 : Nat) : Int) = 1 from rfl, show cha.hid key nonce 1 (front s) = hide key nonce (front s) from rfl] at f2
      have f3 := tagged_any key nonce more (front s) hk hn (by omega) (by omega)
      have hsi : front s ++ tagT key nonce more (front s) = s ↔ tagT key nonce more (front s) = back s := by
        have h := sealed_is (hide key nonce) (tagT key nonce more) (hide_twice key nonce) s
        rw [hide_twice] at h
        exact h
      have HE : openE (tagT key nonce more) 0 s = if tagT key nonce more (front s) = back s then 0 else 6 := by rw [openE, if_pos rfl, if_neg hsh]
      have HT : openT (hide key nonce) (tagT key nonce more) 0 s = if tagT key nonce more (front s) = back s then hide key nonce (front s) else ⟨#[]⟩ := by
        rw [openT, HE]
        by_cases h : tagT key nonce more (front s) = back s
        · rw [if_pos h, if_pos rfl, if_pos h]
        · rw [if_neg h, if_neg (by decide), if_neg h]
      rw [HE, HT]
      clear HT HE e1 hz
      generalize front s ++ tagT key nonce more (front s) = Z at *
      generalize tagT key nonce more (front s) = G at *
      generalize hide key nonce (front s) = H at *
      generalize front s = T at *
      generalize back s = B at *
      by_cases he : G = B
      · have hz2 := hsi.2 he
        have t0 : (Z.toList == s.toList) = true := by rw [beq_iff_eq, hz2]
        rw [if_pos he, if_pos he]
        clear hsi hz2 he
        go_enter Try.func12, Try.ntmps12
        go_wp2_with (first
          | (go_at_call 24; with_reducible refine (f1 _).mono ?_; rintro e w0 ⟨rfl, rfl⟩)
          | (go_at_call 25; with_reducible refine (f2 _).mono ?_; rintro e w2 ⟨rfl, hb2⟩)
          | (go_at_call 26; with_reducible refine (f3 _).mono ?_; rintro e w3 ⟨rfl, hb3⟩))
        go_ret2
        exact ⟨rfl, hb3.trans (hb2.mono hb3.size)⟩
      · have t0 := ne_list (fun h => he (hsi.1 h))
        rw [if_neg he, if_neg he]
        clear hsi he
        go_enter Try.func12, Try.ntmps12
        go_wp2_with (first
          | (go_at_call 24; with_reducible refine (f1 _).mono ?_; rintro e w0 ⟨rfl, rfl⟩)
          | (go_at_call 26; with_reducible refine (f3 _).mono ?_; rintro e w3 ⟨rfl, hb3⟩))
        go_ret2
        exact ⟨rfl, hb3⟩
  · have c0 : ((c : Int) != 0) = true := by simp; omega
    have HE : openE (tagT key nonce more) c s = c := by rw [openE, if_neg h0]
    have HT : openT (hide key nonce) (tagT key nonce more) c s = ⟨#[]⟩ := by rw [openT, HE, if_neg h0]
    rw [HT, HE]
    go_enter Try.func12, Try.ntmps12
    go_wp2_with (go_at_call 24; with_reducible refine (f1 _).mono ?_; rintro e w0 ⟨rfl, rfl⟩)
    go_ret2
    exact ⟨rfl, Below.refl _ _⟩
end Go.Proofs.Ytjcgodojbpfooaa.rsea
