/-
  THE WALK OF 'boxed' of the verifier's own package: whatever seals and opens as a hiding and a tag say.
-/
import Derived.Test.YtjcgodojbpfooaaKeepXor
import Derived.Test.YtjcgodojbpfooaaSized
import Derived.Test.YtjcgodojbpfooaaPlainBox
import Derived.Test.YtjcgodojbpfooaaUp
namespace Go.Proofs.Ytjcgodojbpfooaa.box
open Go.RowKit
open Go.Proofs.Ytjcgodojbpfooaa.ghs (xo xo_size)

theorem enter_of {f : FuncId} {fn : Func} {c : Code} (hf : Try.prog.funcs[f]? = some fn) (hn : (fn.name == "runtime.NumGoroutine") = false) (hb : fn.body = some c) (args : Array Value) (w : World) :
    (callFunc f args).run Try.prog w = .ok (.enter f args) w := by
  have h1 : fn.name ≠ "runtime.NumGoroutine" := by simpa using hn
  simp [callFunc, hf, h1, hb]
theorem sl_to (s : ByteArray) (hi : Nat) (h1 : hi ≤ s.size) (u : World) : (Instr.slice 9 (.string s) none (some (.int .i64 (hi : Int))) none).run Try.prog u = .ok (.string (s.extract 0 hi)) u := by
  simp [Instr.slice, run_underlying Try.underlying9, Instr.sliceBounds, Instr.sliceBound, asIntOf, h1]
theorem app_front (a b : ByteArray) : (a ++ b).extract 0 a.size = a := by
  apply ByteArray.ext
  rw [ByteArray.data_extract, ByteArray.data_append]
  apply Array.toList_inj.1
  rw [Array.toList_extract, Array.toList_append, List.extract_eq_take_drop, List.drop_zero, Nat.sub_zero]
  exact List.take_left' rfl

set_option maxRecDepth 100000 in
set_option maxHeartbeats 3200000 in
theorem boxed_good (fs fo : FuncId) (hes : ∀ (args : Array Value) (W : World), (callFunc fs args).run Try.prog W = .ok (.enter fs args) W) (heo : ∀ (args : Array Value) (W : World), (callFunc fo args).run Try.prog W = .ok (.enter fo args) W)
    (hide tag : ByteArray → ByteArray) (key nonce kk nn more text other : ByteArray) (hk : kk.size = 32) (hn : nn.size = 12) (ho : other.size ≤ maxLen)
    (hh : ∀ s, hide (hide s) = s) (hsz : ∀ s, (hide s).size = s.size) (htg : ∀ s, (tag s).size = 16) (hx : ∀ a b, a.size = b.size → xo (hide a) (hide b) = xo a b)
    (Hs : ∀ t W, Calls Try.prog fs #[.string key, .string nonce, .string more, .string t] W fun e w' => e = .returned (.tuple #[.string (sealT hide tag (chk kk nn more t 2000) t), .int .i64 (chk kk nn more t 2000)]) ∧ Below W.heap.size W w')
    (Ho : ∀ s W, Calls Try.prog fo #[.string key, .string nonce, .string more, .string s] W fun e w' => e = .returned (.tuple #[.string (openT hide tag (chk kk nn more s 2016) s), .int .i64 (openE tag (chk kk nn more s 2016) s)]) ∧ Below W.heap.size W w') (w : World) :
    Calls Try.prog 16 #[.func (.func fs) #[] #[], .func (.func fo) #[] #[], .string key, .string nonce, .string more, .string text, .string other] w fun e w' => e = .returned (.bool true) ∧ Below w.heap.size w w' := by
  by_cases hc : more.size ≤ 2000 ∧ text.size ≤ 2000
  · obtain ⟨hm, ht⟩ := hc
    have ck : ∀ t : ByteArray, t.size ≤ 2000 → chk kk nn more t 2000 = 0 := fun t h => by rw [chk, if_pos ⟨hk, hn⟩, if_pos ⟨hm, h⟩]
    have g1 := sized_any other text.size ho (by omega)
    have s1 := sz_size other text.size
    generalize sz other text.size = O at *
    have Hs1 := Hs text
    have Hs2 := Hs O
    rw [ck text ht, sealT, if_pos rfl] at Hs1
    rw [ck O (by omega), sealT, if_pos rfl] at Hs2
    have Ho1 := Ho (hide text ++ tag (hide text))
    have sa : (hide text ++ tag (hide text)).size = text.size + 16 := by rw [ByteArray.size_append, hsz, htg]
    have sb : (hide O ++ tag (hide O)).size = text.size + 16 := by rw [ByteArray.size_append, hsz, htg, s1]
    have fb := front_app (hide text) (tag (hide text)) (htg _)
    have co : chk kk nn more (hide text ++ tag (hide text)) 2016 = 0 := by rw [chk, if_pos ⟨hk, hn⟩, if_pos ⟨hm, by omega⟩]
    have oe : openE tag 0 (hide text ++ tag (hide text)) = 0 := by rw [openE, if_pos rfl, if_neg (by omega), fb.1, fb.2, if_pos rfl]
    rw [co, openT, oe, if_pos rfl, fb.1, hh] at Ho1
    have x1 := kx.xored_any (hide text) (hide O) text.size (hsz _) (by rw [hsz]; exact s1) (by omega)
    have x2 := kx.xored_any text O text.size rfl s1 (by omega)
    rw [hx text O s1.symm] at x1
    have p1 := sl_to (hide text ++ tag (hide text)) text.size (by omega)
    have p2 := sl_to (hide O ++ tag (hide O)) text.size (by omega)
    rw [show (hide text ++ tag (hide text)).extract 0 text.size = hide text from by rw [← hsz text]; exact app_front _ _] at p1
    rw [show (hide O ++ tag (hide O)).extract 0 text.size = hide O from by rw [← s1, ← hsz O]; exact app_front _ _] at p2
    generalize hide text ++ tag (hide text) = A at *
    generalize hide O ++ tag (hide O) = C at *
    generalize hide text = P at *
    generalize hide O = Q at *
    generalize xo text O = X at *
    have sai : (A.size : Int) = (text.size : Int) + 16 := by omega
    have sbi : (C.size : Int) = (text.size : Int) + 16 := by omega
    clear Hs Ho hh hsz htg hx ck fb co oe
    go_enter Try.func16, Try.ntmps16
    go_wp2_with (first
      | (with_reducible refine (Hs1 _).mono ?_; rintro e w1 ⟨rfl, hb1⟩)
      | (with_reducible refine (Ho1 _).mono ?_; rintro e w2 ⟨rfl, hb2⟩)
      | (go_at_call 17; with_reducible refine (g1 _).mono ?_; rintro e w3 ⟨rfl, hb3⟩)
      | (with_reducible refine (Hs2 _).mono ?_; rintro e w4 ⟨rfl, hb4⟩))
    have hX2 := hb1.trans (hb2.mono hb1.size)
    have hX3 := hX2.trans (hb3.mono hX2.size)
    have hX4 := hX3.trans (hb4.mono hX3.size)
    have hne := Up.some w4
    have F1 : Hid (∀ y : Up w4, Calls Try.prog 30 #[.string P, .string Q] y.1 fun e w' => e = .returned (.string X) ∧ Below y.1.heap.size y.1 w') := fun y => x1 y.1
    have F2 : Hid (∀ y : Up w4, Calls Try.prog 30 #[.string text, .string O] y.1 fun e w' => e = .returned (.string X) ∧ Below y.1.heap.size y.1 w') := fun y => x2 y.1
    clear x1 x2 Hs1 Hs2 Ho1 g1 hb1 hb2 hb3 hb4 hX2 hX3
    refine wp_region_up (by kernel_rfl) (by kernel_rfl) ?_
    repeat (go_big_quiet_step (first | (with_reducible exact calls_up (F1.out _)) | (with_reducible exact calls_up (F2.out _))))
    refine wpQuiet_nil ?_
    rintro w5 ⟨y5, rfl⟩
    go_wp2_with fail
    go_ret
    exact ⟨by simp, hX4.trans (y5.2.mono hX4.size)⟩
  · have ck : chk kk nn more text 2000 = 2 := by rw [chk, if_pos ⟨hk, hn⟩, if_neg hc]
    have Hs1 := Hs text
    rw [ck, sealT, if_neg (by decide)] at Hs1
    clear Hs Ho
    go_enter Try.func16, Try.ntmps16
    go_wp2_with (with_reducible refine (Hs1 _).mono ?_; rintro e w1 ⟨rfl, hb1⟩)
    all_goals
      go_ret
      refine ⟨?_, hb1⟩
      first | rfl | (have hd : (decide (2000 < (text.size : Int)) || decide (2000 < (more.size : Int))) = true := by (simp; omega)
                     exact congrArg (fun b => Ending.returned (Value.bool b)) hd)
end Go.Proofs.Ytjcgodojbpfooaa.box
