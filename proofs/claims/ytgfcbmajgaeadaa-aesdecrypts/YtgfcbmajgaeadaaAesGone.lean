/-
  THE WALKS OF package aes's gone, Encrypt, Decrypt.
-/
import Derived.Test.YtgfcbmajgaeadaaAesHome
namespace Go.Proofs.Ytgfcbmajgaeadaa.aes
open Go.RowKit
open Go.Proofs.Ytgfcbmajgaeadaa.gal Go.Proofs.Ytgfcbmajgaeadaa.soft

/-- What each operation of gone's region yields. -/
def goneR (fn : FuncId) (key blk : ByteArray) (M : Nat) (E D : List Nat) (W0 : World) : Nat → Value → World → Prop
  | 0, v, _ => v = .func (.func fn) #[] #[]
  | 1, v, _ => v = .string key
  | 2, v, W => ∃ c, v = .pointer (some ⟨c, 0, none⟩) ∧ ∃ kg kcap, Held W c kg kcap M E
  | 3, v, _ => v = .string blk
  | 4, v, W => ∃ g cp, v = .slice (some ⟨g, 0, none⟩) 16 cp ∧ g < W.heap.size ∧ W.rangeAt g 0 (by8 (nb blk))
  | 5, v, W => ∃ g, v = .pointer (some ⟨g, 0, none⟩) ∧ g < W.heap.size ∧ W.rangeAt g 0 (by8 (nb blk))
  | 6, v, _ => v = .agg (by8 (nb blk)).toArray
  | 7, v, _ => v = .agg (by8 D).toArray
  | 8, v, W => ∃ b, v = .pointer (some ⟨b, 0, none⟩) ∧ W0.heap.size ≤ b ∧ Blk W b 62 (by8 zero16)
  | _, _, _ => True
theorem range_below {W W' : World} {g o : Nat} {cs : List Value} (h : W.rangeAt g o cs) (hb : Below W.heap.size W W') (hg : g < W.heap.size) : W'.rangeAt g o cs := fun j v hv => (hb.cell (p := ⟨g, o + j, none⟩) hg).trans (h j v hv)
theorem goneR_stable (fn : FuncId) (key blk : ByteArray) (M : Nat) (E D : List Nat) (W0 : World) : Stable (goneR fn key blk M E D W0) := by
  intro i v W W' h hb
  unfold goneR at h ⊢
  split at h
  · exact h
  · exact h
  · obtain ⟨c, e, kg, kcap, hH⟩ := h
    exact ⟨c, e, kg, kcap, hH.below hb⟩
  · exact h
  · obtain ⟨g, cp, e, h1, h2⟩ := h
    exact ⟨g, cp, e, Nat.lt_of_lt_of_le h1 hb.size, range_below h2 hb h1⟩
  · obtain ⟨g, e, h1, h2⟩ := h
    exact ⟨g, e, Nat.lt_of_lt_of_le h1 hb.size, range_below h2 hb h1⟩
  · exact h
  · exact h
  · obtain ⟨b, e, h1, h2⟩ := h
    exact ⟨b, e, h1, h2.below hb h2.lt⟩
  · trivial
theorem enter_fn {f : FuncId} {fn : Func} {c : Code} (hf : Try.prog.funcs[f]? = some fn) (hn : (fn.name == "runtime.NumGoroutine") = false) (hb : fn.body = some c) (args : Array Value) (w : World) :
    (callFunc f args).run Try.prog w = .ok (.enter f args) w := by
  have h1 : fn.name ≠ "runtime.NumGoroutine" := by simpa using hn
  simp [callFunc, hf, h1, hb]
theorem sl_whole (b : Nat) (w : World) : (Instr.sliceAt 62 (.pointer (some ⟨b, 0, none⟩)) none none none).run Try.prog w = .ok (.slice (some ⟨b, 0, none⟩) 16 16) w := by
  obtain ⟨j0, hj, _, hj1, _⟩ := info_parts infoU8
  simp [Instr.sliceAt, Instr.sureAddr, run_underlying Try.underlying62, Instr.sliceBounds, sizeOf, typeInfo, hj, Addr.add_mid]

theorem gone_bad (fv : Value) (key blk : ByteArray) (h : ¬ ((key.size = 16 ∨ key.size = 32) ∧ blk.size = 16)) (w : World) :
    Calls Try.prog 22 #[.string key, .string blk, fv] w fun e w' => e = .returned (.tuple #[.string ⟨#[]⟩, .int .i64 1]) ∧ Below w.heap.size w w' := by
  by_cases hk : key.size = 16 ∨ key.size = 32
  · have t1 : ((blk.size : Int) != 16) = true := by rw [bne_iff_ne]; intro h2; exact h ⟨hk, by omega⟩
    have f1 := isKey_yes key hk
    clear h hk
    go_enter Try.func22, Try.ntmps22
    go_wp2_with (go_at_call 18; refine (f1 _).mono ?_; rintro e w1 ⟨rfl, rfl⟩)
    go_ret2
    exact ⟨rfl, Below.refl _ _⟩
  · have f1 := isKey_no key (by omega) (by omega)
    clear h hk
    go_enter Try.func22, Try.ntmps22
    go_wp2_with (go_at_call 18; refine (f1 _).mono ?_; rintro e w1 ⟨rfl, rfl⟩)
    go_ret2
    exact ⟨rfl, Below.refl _ _⟩

set_option maxRecDepth 100000 in
set_option maxHeartbeats 1600000 in
theorem gone_good (fn : FuncId) (key blk : ByteArray) (hk : key.size = 16 ∨ key.size = 32) (hbk : blk.size = 16) (D : List Nat) (hDl : D.length = 16) (hDo : Ok D)
    (hen : ∀ (args : Array Value) (W : World), (callFunc fn args).run Try.prog W = .ok (.enter fn args) W)
    (hway : ∀ (c kg kcap : Nat) (W : World), Held W c kg kcap (key.size / 4 + 7) (kE key) → Calls Try.prog fn #[.pointer (some ⟨c, 0, none⟩), .agg (by8 (nb blk)).toArray] W fun e w' => e = .returned (.agg (by8 D).toArray) ∧ Below W.heap.size W w') (w : World) :
    Calls Try.prog 22 #[.string key, .string blk, .func (.func fn) #[] #[]] w fun e w' => e = .returned (.tuple #[.string (tx D), .int .i64 0]) ∧ Below w.heap.size w w' := by
  have f1 := isKey_yes key hk
  have f2 := newCipher_any key hk
  have t1 : ((blk.size : Int) != 16) = false := by rw [bne_eq_false_iff_eq]; omega
  have hBl : (nb blk).length = 16 := by rw [nb_length, hbk]
  go_enter Try.func22, Try.ntmps22
  go_wp2_with (go_at_call 18; refine (f1 _).mono ?_; rintro e w1 ⟨rfl, rfl⟩)
  generalize key.size / 4 + 7 = M at *
  generalize kE key = E at *
  have hSt := goneR_stable fn key blk M E D w1
  refine wp_region_told 9 (by kernel_rfl) (by kernel_rfl) (goneR fn key blk M E D w1) (fun i => i == 8) ?_ ?_
  · intro f W A hin hout hg i o hi ho hpre
    have hF : ∀ j v, (j == 8) = true → goneR fn key blk M E D w1 j v W → ∃ b, v = .pointer (some ⟨b, 0, none⟩) ∧ b < W.heap.size := by
      intro j v hj hr
      simp only [beq_iff_eq] at hj
      subst hj
      obtain ⟨b, e, _, hB⟩ := hr
      exact ⟨b, e, hB.lt⟩
    match i, hi with
    | 0, _ =>
      obtain rfl := Option.some.inj ho
      have e2 : A.eval (.tmp 2) = .func (.func fn) #[] #[] := hout 2 (by kernel_rfl)
      exact op_value (v := .func (.func fn) #[] #[]) (W' := W) rfl rfl (by generalize A.eval = ev at *; simp [go_sem, e2]) ⟨_, rfl, hg.value hSt rfl rfl⟩
    | 1, _ =>
      obtain rfl := Option.some.inj ho
      have e0 : A.eval (.tmp 0) = .string key := hout 0 (by kernel_rfl)
      exact op_value (v := .string key) (W' := W) rfl rfl (by generalize A.eval = ev at *; simp [go_sem, e0]) ⟨_, rfl, hg.value hSt rfl rfl⟩
    | 2, _ =>
      obtain rfl := Option.some.inj ho
      obtain ⟨v1, g1, r1⟩ := hg.get (hpre ⟨1, .data⟩ (by simp) rfl)
      have e18 := hin 1 18 v1 g1 (by kernel_rfl) (by simp)
      obtain rfl : v1 = .string key := r1
      refine op_call (g := 43) (args := #[.string key]) rfl rfl (by have ef : ∀ f, A.eval (.func f) = .func (.func f) #[] #[] := fun _ => rfl; generalize A.eval = ev at *; simp [go_sem, e18, ef]) ?_
      refine (f2 W).mono ?_
      rintro e W' ⟨c, rfl, hc, hC, hb⟩
      obtain ⟨kg, kcap, hH⟩ := hC.held
      exact ⟨_, rfl, _, rfl, hg.call hSt rfl hb ⟨c, rfl, kg, kcap, hH⟩⟩
    | 3, _ =>
      obtain rfl := Option.some.inj ho
      have e1 : A.eval (.tmp 1) = .string blk := hout 1 (by kernel_rfl)
      exact op_value (v := .string blk) (W' := W) rfl rfl (by generalize A.eval = ev at *; simp [go_sem, e1]) ⟨_, rfl, hg.value hSt rfl rfl⟩
    | 4, _ =>
      obtain rfl := Option.some.inj ho
      obtain ⟨v3, g3, r3⟩ := hg.get (hpre ⟨3, .data⟩ (by simp) rfl)
      have e20 := hin 3 20 v3 g3 (by kernel_rfl) (by simp)
      obtain rfl : v3 = .string blk := r3
      obtain ⟨W', cp, hcv, hRw, hb⟩ := bytes_row blk W
      rw [hbk] at hcv hRw
      refine op_value (v := .slice (some ⟨W.heap.size, 0, none⟩) 16 cp) (W' := W') rfl rfl ?_ ⟨_, rfl, hg.call hSt rfl hb ⟨W.heap.size, cp, rfl, hRw.lt, hRw.at0⟩⟩
      unfold execOp
      simp only [e20, Sem.run_bind, hcv, Result.andThen_ok, Sem.run_pure]
    | 5, _ =>
      obtain rfl := Option.some.inj ho
      obtain ⟨v4, g4, r4⟩ := hg.get (hpre ⟨4, .data⟩ (by simp) rfl)
      have e21 := hin 4 21 v4 g4 (by kernel_rfl) (by simp)
      obtain ⟨g, cp, rfl, h1, h2⟩ := r4
      refine op_value (v := .pointer (some ⟨g, 0, none⟩)) (W' := W) rfl rfl ?_ ⟨_, rfl, hg.value hSt rfl ⟨g, rfl, h1, h2⟩⟩
      unfold execOp
      simp only [e21, Sem.run_bind, at_sq (some ⟨g, 0, none⟩) 16 cp (Nat.le_refl _) W, Result.andThen_ok, Sem.run_pure]
    | 6, _ =>
      obtain rfl := Option.some.inj ho
      obtain ⟨v5, g5, r5⟩ := hg.get (hpre ⟨5, .data⟩ (by simp) rfl)
      have e22 := hin 5 22 v5 g5 (by kernel_rfl) (by simp)
      obtain ⟨g, rfl, h1, h2⟩ := r5
      exact op_load (v := .agg (by8 (nb blk)).toArray) rfl rfl rfl e22 (run_loadAt_mid (P := Try.prog) W g 0 62 (by8 (nb blk)) _ h2 Try.underlying62 rfl (by rw [by8_length, hBl]; exact infoSQ)) ⟨_, rfl, hg.value hSt rfl rfl⟩
    | 7, _ =>
      obtain rfl := Option.some.inj ho
      obtain ⟨v0, g0, r0⟩ := hg.get (hpre ⟨0, .data⟩ (by simp) rfl)
      have e17 := hin 0 17 v0 g0 (by kernel_rfl) (by simp)
      obtain ⟨v2, g2, r2⟩ := hg.get (hpre ⟨2, .data⟩ (by simp) rfl)
      have e19 := hin 2 19 v2 g2 (by kernel_rfl) (by simp)
      obtain ⟨v6, g6, r6⟩ := hg.get (hpre ⟨6, .data⟩ (by simp) rfl)
      have e23 := hin 6 23 v6 g6 (by kernel_rfl) (by simp)
      obtain rfl : v0 = .func (.func fn) #[] #[] := r0
      obtain rfl : v6 = .agg (by8 (nb blk)).toArray := r6
      obtain ⟨c, rfl, kg, kcap, hH⟩ := r2
      refine op_call (g := fn) (args := #[.pointer (some ⟨c, 0, none⟩), .agg (by8 (nb blk)).toArray]) rfl rfl (by generalize A.eval = ev at *; simp [go_sem, e17, e19, e23, hen]) ?_
      refine (hway c kg kcap W hH).mono ?_
      rintro e W' ⟨rfl, hb⟩
      exact ⟨_, rfl, _, rfl, hg.call hSt rfl hb rfl⟩
    | 8, _ =>
      obtain rfl := Option.some.inj ho
      exact op_value (v := .pointer (some ⟨W.heap.size, 0, none⟩)) (W' := W.alloc (.cells (by8 zero16).toArray 62)) rfl rfl (by simp [go_sem]; rfl) ⟨_, rfl, hg.alloc hSt hF ⟨_, rfl, hg.below.size, Blk.new W 62 (by8 zero16) _ rfl⟩⟩
    | (j + 9), h => exact absurd h (by omega)
  · intro f W hall hg
    obtain ⟨v0, g0, r0⟩ := hg.get (hall 0 (by decide))
    obtain ⟨v1, g1, r1⟩ := hg.get (hall 1 (by decide))
    obtain ⟨v2, g2, r2⟩ := hg.get (hall 2 (by decide))
    obtain ⟨v3, g3, r3⟩ := hg.get (hall 3 (by decide))
    obtain ⟨v4, g4, r4⟩ := hg.get (hall 4 (by decide))
    obtain ⟨v5, g5, r5⟩ := hg.get (hall 5 (by decide))
    obtain ⟨v6, g6, r6⟩ := hg.get (hall 6 (by decide))
    obtain ⟨v7, g7, r7⟩ := hg.get (hall 7 (by decide))
    obtain ⟨v8, g8, r8⟩ := hg.get (hall 8 (by decide))
    have hbW := hg.below
    simp only [List.drop_succ_cons, List.drop_zero, List.take_succ_cons, List.take_zero, fr, g0, g1, g2, g3, g4, g5, g6, g7, g8, Act.put, List.setIfInBounds_toArray, List.set_cons_zero, List.set_cons_succ]
    obtain rfl : v7 = .agg (by8 D).toArray := r7
    obtain ⟨b, rfl, hb0, hB⟩ := r8
    clear r0 r1 r2 r3 r4 r5 r6 g0 g1 g2 g3 g4 g5 g6 g7 g8 hall hg hSt hway hen f2
    have hsw := sl_whole b
    go_wp2_with (refine wpList_store_blk rfl 62 (.tmp 8) (.tmp 24) rfl b (by8 D) rfl rfl (by8 zero16) hB (by rw [by8_length, hDl]; rfl) (by8_one _) infoSQ ?_; intro W2 hW2; have hcv := conv_row (B := 0) (cap := 16) (n := 16) ⟨by rw [by8_length, hDl], Nat.zero_le _, hW2.blk.lt, Nat.le_refl _, hW2.blk.range 0 _ (by simp), by have := hW2.blk.there; rw [by8_length, hDl] at this; exact this⟩ hDo)
    go_ret2
    exact ⟨rfl, hW2.below _ _ hb0 hbW⟩

/-- What Encrypt, Decrypt make of a block. -/
def encB (key blk : ByteArray) : ByteArray := tx (enc (kE key) (key.size / 4 + 6) (nb blk))
def decB (key blk : ByteArray) : ByteArray := tx (dec (kE key) (key.size / 4 + 6) (nb blk))
theorem encrypt_good (key blk : ByteArray) (hk : key.size = 16 ∨ key.size = 32) (hbk : blk.size = 16) (w : World) :
    Calls Try.prog 11 #[.string key, .string blk] w fun e w' => e = .returned (.tuple #[.string (encB key blk), .int .i64 0]) ∧ Below w.heap.size w w' := by
  have hBl : (nb blk).length = 16 := by rw [nb_length, hbk]
  have f1 := gone_good 23 key blk hk hbk (enc (kE key) (key.size / 4 + 6) (nb blk)) (mk_length _ _) (enc_ok _ _ _ (kE_ok key)) (enter_fn Try.func23 (by kernel_rfl) rfl)
    (fun c kg kcap W hH => there_any (kE key) (nb blk) (key.size / 4 + 6) (by omega) (by omega) (kE_ok key) hBl (nb_lt blk) c kg kcap W hH)
  rw [show tx (enc (kE key) (key.size / 4 + 6) (nb blk)) = encB key blk from rfl] at f1
  generalize encB key blk = t at *
  go_enter Try.func11, Try.ntmps11
  go_wp2_with (go_at_call 22; refine (f1 _).mono ?_; rintro e w1 ⟨rfl, hb1⟩)
  go_ret2
  exact ⟨rfl, hb1⟩
theorem decrypt_good (key blk : ByteArray) (hk : key.size = 16 ∨ key.size = 32) (hbk : blk.size = 16) (w : World) :
    Calls Try.prog 13 #[.string key, .string blk] w fun e w' => e = .returned (.tuple #[.string (decB key blk), .int .i64 0]) ∧ Below w.heap.size w w' := by
  have hBl : (nb blk).length = 16 := by rw [nb_length, hbk]
  have f1 := gone_good 26 key blk hk hbk (dec (kE key) (key.size / 4 + 6) (nb blk)) (mk_length _ _) (dec_ok _ _ _ (kE_ok key)) (enter_fn Try.func26 (by kernel_rfl) rfl)
    (fun c kg kcap W hH => home_any (kE key) (nb blk) (key.size / 4 + 6) (by omega) (by omega) (kE_ok key) hBl (nb_lt blk) c kg kcap W hH)
  rw [show tx (dec (kE key) (key.size / 4 + 6) (nb blk)) = decB key blk from rfl] at f1
  generalize decB key blk = t at *
  go_enter Try.func13, Try.ntmps13
  go_wp2_with (go_at_call 22; refine (f1 _).mono ?_; rintro e w1 ⟨rfl, hb1⟩)
  go_ret2
  exact ⟨rfl, hb1⟩
theorem encrypt_bad (key blk : ByteArray) (h : ¬ ((key.size = 16 ∨ key.size = 32) ∧ blk.size = 16)) (w : World) :
    Calls Try.prog 11 #[.string key, .string blk] w fun e w' => e = .returned (.tuple #[.string ⟨#[]⟩, .int .i64 1]) ∧ Below w.heap.size w w' := by
  have f1 := gone_bad (.func (.func 23) #[] #[]) key blk h
  go_enter Try.func11, Try.ntmps11
  go_wp2_with (go_at_call 22; refine (f1 _).mono ?_; rintro e w1 ⟨rfl, hb1⟩)
  go_ret2
  exact ⟨rfl, hb1⟩
theorem decrypt_bad (key blk : ByteArray) (h : ¬ ((key.size = 16 ∨ key.size = 32) ∧ blk.size = 16)) (w : World) :
    Calls Try.prog 13 #[.string key, .string blk] w fun e w' => e = .returned (.tuple #[.string ⟨#[]⟩, .int .i64 1]) ∧ Below w.heap.size w w' := by
  have f1 := gone_bad (.func (.func 26) #[] #[]) key blk h
  go_enter Try.func13, Try.ntmps13
  go_wp2_with (go_at_call 22; refine (f1 _).mono ?_; rintro e w1 ⟨rfl, hb1⟩)
  go_ret2
  exact ⟨rfl, hb1⟩
end Go.Proofs.Ytgfcbmajgaeadaa.aes
