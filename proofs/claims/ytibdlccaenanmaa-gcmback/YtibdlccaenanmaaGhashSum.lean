/-
  THE WALKS OF package ghash's taker, what it makes, takeText, lengths and Sum.
-/
import Derived.Test.YtibdlccaenanmaaGhashText
import Derived.Test.YtibdlccaenanmaaPlainGhashSum
namespace Go.Proofs.Ytibdlccaenanmaa.ghs
open Go.RowKit

/-- A function with a body is entered. -/
theorem enter_of {f : FuncId} {fn : Func} {c : Code} (hf : Try.prog.funcs[f]? = some fn) (hn : (fn.name == "runtime.NumGoroutine") = false) (hb : fn.body = some c) (args : Array Value) (w : World) :
    (callFunc f args).run Try.prog w = .ok (.enter f args) w := by
  have h1 : fn.name ≠ "runtime.NumGoroutine" := by simpa using hn
  simp [callFunc, hf, h1, hb]
/-- The function that takes blocks in. -/
def clo (yp hp : Nat) : Value := .func (.func 72) #[] #[.pointer (some ⟨yp, 0, none⟩), .pointer (some ⟨hp, 0, none⟩)]
theorem taker_any (h : Nat) (w : World) :
    Calls Try.prog 50 #[.agg (blc h).toArray] w fun e w' => e = .returned (clo (w.heap.size + 1) w.heap.size) ∧ w' = (w.alloc (.cells (blc h).toArray 77)).alloc (.cells (blc 0).toArray 77) := by
  have hmf : ∀ (fn : Fn) (first cap : Array Value) (w : World), (Instr.makeFunc fn first cap).run Try.prog w = .ok (.func fn first cap) w := fun _ _ _ _ => rfl
  go_enter Try.func50, Try.ntmps50
  go_wp2
  go_ret
  exact ⟨rfl, rfl⟩
/-- What the function's two variables hold; what is made of the world. -/
structure Kept (w w' : World) (yp hp Y H : Nat) : Prop where
  y : Blk w' yp 77 (blc Y)
  h : Blk w' hp 77 (blc H)
  below : ∀ (B : Nat) (z : World), B ≤ yp → B ≤ hp → Below B z w → Below B z w'
theorem Kept.step {w w' w'' : World} {yp hp Y H : Nat} (k : Kept w w' yp hp Y H) (hb : Below w'.heap.size w' w'') : Kept w w'' yp hp Y H :=
  ⟨k.y.below hb k.y.lt, k.h.below hb k.h.lt, fun B z hB hC hz => (k.below B z hB hC hz).trans (hb.mono (by have := k.y.lt; omega))⟩
theorem Kept.trans {w w' w'' : World} {yp hp Y H Y' : Nat} (k : Kept w w' yp hp Y H) (k' : Kept w' w'' yp hp Y' H) : Kept w w'' yp hp Y' H :=
  ⟨k'.y, k'.h, fun B z hB hC hz => k'.below B z hB hC (k.below B z hB hC hz)⟩
set_option maxHeartbeats 800000 in
theorem take_any (yp hp Y H b : Nat) (lY : Y < 2 ^ 128) (lH : H < 2 ^ 128) (lb : b < 2 ^ 128) (hne : hp ≠ yp) (w : World) (hY : Blk w yp 77 (blc Y)) (hH : Blk w hp 77 (blc H)) :
    Calls Try.prog 72 #[.agg (blc b).toArray, .pointer (some ⟨yp, 0, none⟩), .pointer (some ⟨hp, 0, none⟩)] w fun e w' => e = .returned (.agg (blc (gm (Y ^^^ b) H)).toArray) ∧ Kept w w' yp hp (gm (Y ^^^ b) H) H := by
  have g1 := plus_any Y b lY lb
  have lX := xor_lt lY lb
  generalize Y ^^^ b = X at *
  have g2 := times_any X H lX lH
  generalize gm X H = G at *
  clear lY lH lb lX
  have yl := hY.lt
  have hl := hH.lt
  have hB : Blk ((w.alloc (.cells (blc b).toArray 77)).alloc (.cells zc.toArray 77)) w.heap.size 77 (blc b) := (Blk.new w 77 (blc b) _ rfl).alloc _
  have hZ : Blk ((w.alloc (.cells (blc b).toArray 77)).alloc (.cells zc.toArray 77)) (w.heap.size + 1) 77 zc := by
    have h := Blk.new (w.alloc (.cells (blc b).toArray 77)) 77 zc _ rfl
    rw [World.size_alloc] at h
    exact h
  have hY1 := (hY.alloc (.cells (blc b).toArray 77)).alloc (.cells zc.toArray 77)
  have hH1 := (hH.alloc (.cells (blc b).toArray 77)).alloc (.cells zc.toArray 77)
  have hX : Below w.heap.size w ((w.alloc (.cells (blc b).toArray 77)).alloc (.cells zc.toArray 77)) := ((Below.refl _ _).alloc (Nat.le_refl _) _).alloc (by simp) _
  go_enter Try.func72, Try.ntmps72
  go_wp2_with fail
  obtain ⟨W0, hW0⟩ : ∃ W0, W0 = (w.alloc (.cells (blc b).toArray 77)).alloc (.cells zc.toArray 77) := ⟨_, rfl⟩
  have e0 : (w.alloc (.cells (blc b).toArray 77)).alloc (.cells #[.int .u64 0, .int .u64 0] 77) = W0 := hW0.symm
  rw [e0]
  rw [← hW0] at hB hZ hY1 hH1 hX
  clear e0 hW0
  have hne' := Up.some W0
  have l1 := hB.lt
  have l2 := hY1.lt
  have l3 := hH1.lt
  have l4 := hZ.lt
  have q1 : ∀ y : Up W0, y.1.rangeAt yp 0 (blc Y) := fun y => (hY1.below y.2 l2).range 0 _ (by simp)
  have q2 : ∀ y : Up W0, y.1.rangeAt w.heap.size 0 (blc b) := fun y => (hB.below y.2 l1).range 0 _ (by simp)
  have q3 : ∀ y : Up W0, y.1.rangeAt hp 0 (blc H) := fun y => (hH1.below y.2 l3).range 0 _ (by simp)
  have F1 : Hid (∀ y : Up W0, Calls Try.prog 73 #[.agg (blc Y).toArray, .agg (blc b).toArray] y.1 fun e w' => e = .returned (.agg (blc X).toArray) ∧ Below y.1.heap.size y.1 w') := fun y => g1 y.1
  have F2 : Hid (∀ y : Up W0, Calls Try.prog 74 #[.agg (blc X).toArray, .agg (blc H).toArray] y.1 fun e w' => e = .returned (.agg (blc G).toArray) ∧ Below y.1.heap.size y.1 w') := fun y => g2 y.1
  clear g1 g2
  refine wp_region_tail 5 (by kernel_rfl) (by kernel_rfl) ?_
  simp only [List.take_succ_cons, List.take_zero, List.drop_succ_cons, List.drop_zero]
  repeat (first
    | (refine wpQuiet_load rfl 77 (.tmp 1) rfl yp 0 rfl (blc Y) _ q1 Try.underlying77 rfl infoBL ?_; simp only [Act.put, List.setIfInBounds_toArray, List.set_cons_succ, List.set_cons_zero])
    | (refine wpQuiet_load rfl 77 (.tmp 3) rfl w.heap.size 0 rfl (blc b) _ q2 Try.underlying77 rfl infoBL ?_; simp only [Act.put, List.setIfInBounds_toArray, List.set_cons_succ, List.set_cons_zero])
    | (refine wpQuiet_load rfl 77 (.tmp 2) rfl hp 0 rfl (blc H) _ q3 Try.underlying77 rfl infoBL ?_; simp only [Act.put, List.setIfInBounds_toArray, List.set_cons_succ, List.set_cons_zero])
    | (go_big_quiet_step (with_reducible (first | exact calls_up (F1.out _) | exact calls_up (F2.out _)))))
  refine wpQuiet_nil ?_
  rintro w1 ⟨y1, rfl⟩
  have hY2 := hY1.below y1.2 l2
  have hH2 := hH1.below y1.2 l3
  have hZ2 := hZ.below y1.2 l4
  have hX2 := hX.trans (y1.2.mono hX.size)
  clear q1 q2 q3 F1 F2 hne'
  refine wpList_store_blk rfl 77 (.tmp 1) (.tmp 9) rfl yp (blc G) rfl rfl (blc Y) hY2 rfl (blc_one _) infoBL ?_
  intro W3 hW3
  have hY3 := hW3.blk
  have hH3 := hW3.other _ _ _ hne hH2
  have hZ3 := hW3.other _ _ _ (by omega) hZ2
  go_wp2_with (first
    | (refine wpList_load_blk rfl 77 (.tmp 1) rfl yp 0 rfl hY3 (blc G) (by simp) _ Try.underlying77 rfl infoBL ?_)
    | (refine wpList_store_blk rfl 77 (.tmp 4) (.tmp 10) rfl (w.heap.size + 1) (blc G) rfl rfl zc hZ3 rfl (blc_one _) infoBL ?_; intro W4 hW4))
  refine bodyPost_ret (results_blk1 Try.results72 _ rfl hW4.blk _ Try.underlying77 rfl infoBL) rfl ⟨rfl, hW4.other _ _ _ (by omega) hY3, hW4.other _ _ _ (by omega) hH3, fun B z hB _ hz => ?_⟩
  exact hW4.below _ _ (by omega) (hW3.below _ _ hB (hz.trans (hX2.mono (by omega))))

def strLen : Value → Nat
  | .string s => s.size
  | _ => 0
set_option maxRecDepth 100000 in
set_option maxHeartbeats 800000 in
theorem takeText_any (yp hp Y H : Nat) (s : ByteArray) (lY : Y < 2 ^ 128) (lH : H < 2 ^ 128) (hs : s.size ≤ 9223372036854775807) (hne : hp ≠ yp) (w : World) (hY : Blk w yp 77 (blc Y)) (hH : Blk w hp 77 (blc H)) :
    Calls Try.prog 52 #[.string s, .func (.func 72) #[] #[.pointer (some ⟨yp, 0, none⟩), .pointer (some ⟨hp, 0, none⟩)]] w fun e w' => e = .returned (.tuple #[]) ∧ Kept w w' yp hp (sm H Y s (nbk s)) H := by
  have hK : Kept w w yp hp (sm H Y s 0) H := ⟨hY, hH, fun _ _ _ _ h => h⟩
  clear hY hH
  have he := fun args W => enter_of Try.func72 rfl rfl args W
  go_enter Try.func52, Try.ntmps52
  go_wp2_with fail
  go_loopw [0] (fun t wr => ∃ k : Nat, k ≤ nbk s ∧ t = .string (dr s (16 * k)) ∧ Kept w wr yp hp (sm H Y s k) H) (fun t _ => strLen t)
  case atStart => exact ⟨0, by omega, by rw [dr_0], hK⟩
  case round =>
    clear hK
    obtain ⟨k, hk, rfl, hK⟩ := hrel
    have hsz := dr_size s (16 * k)
    by_cases hlt : k < nbk s
    · have hpos : 0 < (dr s (16 * k)).size := by rw [hsz]; unfold nbk at hlt; omega
      have f1 := read_any (dr s (16 * k))
      have lS := sm_lt lH lY s k
      have HS : Hid (sm H Y s (k + 1) = gm (sm H Y s k ^^^ bn (dr s (16 * k))) H) := rfl
      obtain ⟨m, hm⟩ : ∃ m, m = min 16 (dr s (16 * k)).size := ⟨_, rfl⟩
      have HD : Hid (dr (dr s (16 * k)) m = dr s (16 * (k + 1))) := by
        show _ = _
        rw [dr_dr]
        by_cases c : 16 ≤ (dr s (16 * k)).size
        · rw [show 16 * k + m = 16 * (k + 1) from by omega]
        · exact dr_end _ _ _ (by omega) (by omega)
      have lb := bn_lt (dr s (16 * k))
      have hb63 : (dr s (16 * k)).size ≤ 9223372036854775807 := by omega
      generalize dr s (16 * k) = T at *
      generalize bn T = b at *
      generalize sm H Y s k = Sk at *
      have f2 := fun W (h1 : Blk W yp 77 (blc Sk)) (h2 : Blk W hp 77 (blc H)) => take_any yp hp Sk H b lS lH lb hne W h1 h2
      rw [← HS.out] at f2
      obtain ⟨S', HS'⟩ : ∃ S', Hid (S' = sm H Y s (k + 1)) := ⟨_, rfl⟩
      rw [← HS'.out] at f2
      have d0 : decide ((T.size : Int) > 0) = true := by simp; omega
      have HE : Hid (T.extract (if (T.size : Int) < 16 then (T.size : Int) else 16).toNat T.size = dr T m) := by
        show _ = _
        have e : (if (T.size : Int) < 16 then (T.size : Int) else 16).toNat = m := by split <;> omega
        rw [e]; rfl
      have HL : Hid ((dr T m).size < T.size) := by show (dr T m).size < T.size; rw [dr_size]; omega
      clear hm lS lb hsz
      go_wp2_with (first
        | (go_at_call 51; refine (f1 _).mono ?_; rintro e w1 ⟨rfl, hb1⟩; have hK1 := hK.step hb1)
        | (go_at_call 72; refine (f2 _ hK1.y hK1.h).mono ?_; rintro e w2 ⟨rfl, hK2⟩))
      rw [HE.out]
      refine ⟨⟨k + 1, by omega, by rw [HD.out], ?_⟩, HL.out⟩
      rw [← HS'.out]
      exact hK1.trans hK2
    · obtain rfl : k = nbk s := by omega
      have z0 : (dr s (16 * nbk s)).size = 0 := by
        rw [hsz]
        unfold nbk
        omega
      clear hsz
      generalize dr s (16 * nbk s) = T at *
      have z1 : (T.size : Int) = 0 := by omega
      clear z0
      have d0 : decide ((0 : Int) > 0) = false := by decide
      go_wp2_with fail
      refine ⟨rfl, .tuple #[], ?_, rfl, hK⟩
      simp [results, Try.results52]

/-- How many bits two texts have. -/
theorem lengths_any (l s : ByteArray) (hl : l.size ≤ 140737488355328) (hs : s.size ≤ 140737488355328) (w : World) :
    Calls Try.prog 53 #[.int .i64 l.size, .int .i64 s.size] w fun e w' => e = .returned (.agg (blc (lenN l s)).toArray) ∧ Below w.heap.size w w' := by
  have e1 : fr (lenN l s) = 8 * l.size := by unfold fr lenN; omega
  have e2 : bk (lenN l s) = 8 * s.size := by unfold bk lenN; omega
  unfold blc
  rw [e1, e2]
  obtain ⟨x, hx⟩ : ∃ x, x = 8 * l.size := ⟨_, rfl⟩
  obtain ⟨y, hy⟩ : ∃ y, y = 8 * s.size := ⟨_, rfl⟩
  rw [← hx, ← hy]
  generalize l.size = p at *
  generalize s.size = q at *
  have c1 : IntKind.u64.wrap (p : Int) = (p : Int) := wrapU _ (by omega)
  have c2 : IntKind.u64.wrap (q : Int) = (q : Int) := wrapU _ (by omega)
  have c3 : IntKind.u64.wrap (8 * (p : Int)) = (x : Int) := by rw [wrap_u]; omega
  have c4 : IntKind.u64.wrap (8 * (q : Int)) = (y : Int) := by rw [wrap_u]; omega
  clear hx hy e1 e2
  go_enter Try.func53, Try.ntmps53
  go_wp2
  have hW := Blk.new w 77 [.int .u64 x, .int .u64 y] _ rfl
  exact bodyPost_ret (results_blk1 Try.results53 _ rfl hW _ Try.underlying77 rfl infoBL) rfl ⟨rfl, (Below.refl _ _).alloc (Nat.le_refl _) _⟩

theorem kept_new (w w' : World) (H : Nat) (hw : w' = (w.alloc (.cells (blc H).toArray 77)).alloc (.cells (blc 0).toArray 77)) : Kept w w' (w.heap.size + 1) w.heap.size 0 H := by
  subst hw
  refine ⟨?_, (Blk.new w 77 (blc H) _ rfl).alloc _, fun B z _ hC hz => (hz.alloc hC _).alloc (by simp; omega) _⟩
  have h := Blk.new (w.alloc (.cells (blc H).toArray 77)) 77 (blc 0) _ rfl
  rw [World.size_alloc] at h
  exact h
theorem sum_bad (h l s : ByteArray) (hh : h.size ≠ 16) (w : World) :
    Calls Try.prog 30 #[.string h, .string l, .string s] w fun e w' => e = .returned (.tuple #[.string ⟨#[]⟩, .int .i64 1]) ∧ Below w.heap.size w w' := by
  have t1 : ((h.size : Int) != 16) = true := by rw [bne_iff_ne]; omega
  clear hh
  go_enter Try.func30, Try.ntmps30
  go_wp2
  go_ret2
  exact ⟨rfl, Below.refl _ _⟩
set_option maxHeartbeats 800000 in
theorem sum_good (h l s : ByteArray) (hh : h.size = 16) (hl : l.size ≤ 140737488355328) (hs : s.size ≤ 140737488355328) (w : World) :
    Calls Try.prog 30 #[.string h, .string l, .string s] w fun e w' => e = .returned (.tuple #[.string (bt (sumN (bn h) l s)), .int .i64 0]) ∧ Below w.heap.size w w' := by
  have z1 : (h.size : Int) = 16 := by omega
  have he := fun args W => enter_of Try.func72 rfl rfl args W
  have f1 := read_any h
  have lH := bn_lt h
  have f2 := taker_any (bn h)
  generalize bn h = H at *
  have l0 : (0 : Nat) < 2 ^ 128 := by decide
  have f3 := fun yp hp hne W (h1 : Blk W yp 77 (blc 0)) (h2 : Blk W hp 77 (blc H)) => takeText_any yp hp 0 H l l0 lH (by omega) hne W h1 h2
  have lY := sm_lt lH l0 l (nbk l)
  have HS : Hid (sumN H l s = gm (sm H (sm H 0 l (nbk l)) s (nbk s) ^^^ lenN l s) H) := rfl
  generalize sm H 0 l (nbk l) = Y at *
  have f4 := fun yp hp hne W (h1 : Blk W yp 77 (blc Y)) (h2 : Blk W hp 77 (blc H)) => takeText_any yp hp Y H s lY lH (by omega) hne W h1 h2
  have lZ := sm_lt lH lY s (nbk s)
  generalize sm H Y s (nbk s) = Z at *
  have f5 := lengths_any l s hl hs
  have lN := lenN_lt hl hs
  generalize lenN l s = N at *
  have f6 := fun yp hp hne W (h1 : Blk W yp 77 (blc Z)) (h2 : Blk W hp 77 (blc H)) => take_any yp hp Z H N lZ lH lN hne W h1 h2
  rw [← HS.out] at f6
  have f7 := text_any (sumN H l s)
  generalize bt (sumN H l s) = T at *
  generalize sumN H l s = G at *
  clear l0 lH lY lZ lN HS hh
  go_enter Try.func30, Try.ntmps30
  go_wp2_with (first
    | (go_at_call 51; with_reducible refine (f1 _).mono ?_; rintro e w1 ⟨rfl, hb1⟩)
    | (go_at_call 50; with_reducible refine (f2 _).mono ?_; rintro e w2 ⟨rfl, hw2⟩; have hK2 := kept_new w1 w2 H hw2; clear hw2; unfold clo)
    | (go_at_call 52; with_reducible refine (f3 (w1.heap.size + 1) w1.heap.size (by omega) _ hK2.y hK2.h).mono ?_; rintro e w3 ⟨rfl, hK3⟩)
    | (go_at_call 52; with_reducible refine (f4 (w1.heap.size + 1) w1.heap.size (by omega) _ hK3.y hK3.h).mono ?_; rintro e w4 ⟨rfl, hK4⟩)
    | (go_at_call 53; with_reducible refine (f5 _).mono ?_; rintro e w5 ⟨rfl, hb5⟩; have hK5 := hK4.step hb5)
    | (go_at_call 72; with_reducible refine (f6 (w1.heap.size + 1) w1.heap.size (by omega) _ hK5.y hK5.h).mono ?_; rintro e w6 ⟨rfl, hK6⟩)
    | (go_at_call 54; with_reducible refine (f7 _).mono ?_; rintro e w7 ⟨rfl, hb7⟩; have hK7 := hK6.step hb7))
  go_ret2
  have hz := hb1.size
  exact ⟨rfl, (((hK2.trans hK3).trans hK5).trans hK7).below _ _ (by omega) hz hb1⟩
end Go.Proofs.Ytibdlccaenanmaa.ghs
