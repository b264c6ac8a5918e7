/-
  THE WALK OF package stamp's Read.
-/
import Derived.Test.YtkkechklpijgkaaStampWrite
namespace Go.Proofs.Ytkkechklpijgkaa.stm
open Go.RowKit
open Go.Proofs.Ytkkechklpijgkaa.u64 (wrap_u wrap64u)

/-- What Read answers. -/
def rdA (s : ByteArray) : Int := if s.size = 12 ∧ 4611686018427387904 ≤ secOf s ∧ secOf s ≤ 4611687117939015680 ∧ nanoOf s ≤ 999999999 then (secOf s - 4611686018427387904 : Nat) else 0
def rdB (s : ByteArray) : Int := if s.size = 12 ∧ 4611686018427387904 ≤ secOf s ∧ secOf s ≤ 4611687117939015680 ∧ nanoOf s ≤ 999999999 then (nanoOf s : Nat) else 0
def rdE (s : ByteArray) : Int := if s.size < 12 then 4 else if s.size = 12 ∧ 4611686018427387904 ≤ secOf s ∧ secOf s ≤ 4611687117939015680 ∧ nanoOf s ≤ 999999999 then 0 else 5
theorem infoST : (Try.prog.info? 23).map (·.size) = some 2 := by kernel_rfl
theorem results_blk_tmpB {P : Program} {fn : Func} {p q : Tmp} {ty : TypeId} (hr : fn.results = #[.cell p ty, .tmp q]) (tmps : Array Value) (w : World) :
    (results fn tmps).run P w = ((asAddr (tmps.getD p undef)).run P w).andThen fun a w₁ => ((loadVar ty a).run P w₁).andThen fun v w₂ => .ok (.tuple #[v, tmps.getD q undef]) w₂ := by
  simp only [results, hr]
  simp [Sem.run_bind, Result.andThen]
/-- A block and a number, as results. -/
theorem results_blk_tmp {P : Program} {fn : Func} {p q : Tmp} {ty : TypeId} (hr : fn.results = #[.cell p ty, .tmp q]) (tmps : Array Value) {w : World} {b t : Nat} {l : List Value} {v : Value} (hp : tmps.getD p undef = .pointer (some ⟨b, 0, none⟩)) (hq : tmps.getD q undef = v) (hA : Blk w b t l)
    (d : TypeDesc) (hu : P.underlying ty = some d) (hd : d.isRow = true) (hi : (P.info? ty).map (·.size) = some l.length) :
    (results fn tmps).run P w = .ok (.tuple #[.agg l.toArray, v]) w := by
  have h := hA.loadVar (P := P) (ty := ty) d hu hd hi
  rw [results_blk_tmpB hr, hp, hq]
  show Result.andThen ((Go.loadVar ty ⟨b, 0, none⟩).run P w) _ = _
  rw [h]
  rfl
set_option maxRecDepth 100000 in
set_option maxHeartbeats 1600000 in
theorem read_short (s : ByteArray) (h : s.size < 12) (w : World) :
    Calls Try.prog 11 #[.string s] w fun e w' => e = .returned (.tuple #[st 0 0, .int .i64 4]) ∧ Below w.heap.size w w' := by
  have d0 : decide ((s.size : Int) < 12) = true := by simp; omega
  have hR0 : Blk (w.alloc (.cells #[.int .i64 0, .int .i64 0] 23)) w.heap.size 23 [.int .i64 0, .int .i64 0] := Blk.new w 23 _ _ rfl
  have hX0 : Below w.heap.size w (w.alloc (.cells #[.int .i64 0, .int .i64 0] 23)) := (Below.refl _ _).alloc (Nat.le_refl _) _
  go_enter Try.func11, Try.ntmps11
  go_wp2_with fail
  exact bodyPost_ret (results_blk_tmp Try.results11 _ rfl rfl hR0 _ Try.underlying23 rfl infoST) rfl ⟨rfl, hX0⟩
set_option maxRecDepth 100000 in
set_option maxHeartbeats 1600000 in
theorem read_long (s : ByteArray) (h : 12 < s.size) (w : World) :
    Calls Try.prog 11 #[.string s] w fun e w' => e = .returned (.tuple #[st 0 0, .int .i64 5]) ∧ Below w.heap.size w w' := by
  have d0 : decide ((s.size : Int) < 12) = false := by simp; omega
  have d1 : decide ((s.size : Int) > 12) = true := by simp; omega
  have hR0 : Blk (w.alloc (.cells #[.int .i64 0, .int .i64 0] 23)) w.heap.size 23 [.int .i64 0, .int .i64 0] := Blk.new w 23 _ _ rfl
  have hX0 : Below w.heap.size w (w.alloc (.cells #[.int .i64 0, .int .i64 0] 23)) := (Below.refl _ _).alloc (Nat.le_refl _) _
  go_enter Try.func11, Try.ntmps11
  go_wp2_with fail
  exact bodyPost_ret (results_blk_tmp Try.results11 _ rfl rfl hR0 _ Try.underlying23 rfl infoST) rfl ⟨rfl, hX0⟩
theorem sec_extract (s : ByteArray) : nb (s.extract 0 8) = (nb s).take 8 := by
  unfold nb
  rw [ByteArray.data_extract, ← List.map_take]
  simp
theorem nano_extract (s : ByteArray) : nb (s.extract 8 s.size) = (nb s).drop 8 := by
  have e : s.size = s.data.size := rfl
  unfold nb
  rw [ByteArray.data_extract, e]
  simp
  rw [List.take_of_length_le (by simp)]
set_option maxRecDepth 100000 in
set_option maxHeartbeats 1600000 in
theorem read_twelve (s : ByteArray) (h : s.size = 12) (w : World) :
    Calls Try.prog 11 #[.string s] w fun e w' => e = .returned (.tuple #[st (rdA s) (rdB s), .int .i64 (rdE s)]) ∧ Below w.heap.size w w' := by
  have hz : (s.size : Int) = 12 := by omega
  have f1 := number_any (s.extract 0 8) (by rw [ByteArray.size_extract]; omega)
  have f2 := number_any (s.extract 8 s.size) (by rw [ByteArray.size_extract]; omega)
  rw [sec_extract] at f1
  rw [nano_extract] at f2
  replace f1 : ∀ W : World, Calls Try.prog 17 #[.string (s.extract 0 8)] W fun e w' => e = .returned (.int .u64 (secOf s : Nat)) ∧ w' = W := f1
  replace f2 : ∀ W : World, Calls Try.prog 17 #[.string (s.extract 8 s.size)] W fun e w' => e = .returned (.int .u64 (nanoOf s : Nat)) ∧ w' = W := f2
  have bp := secOf_lt s h
  have bq := nanoOf_lt s h
  have HA : Hid (∀ v, v = rdA s ↔ v = if 4611686018427387904 ≤ secOf s ∧ secOf s ≤ 4611687117939015680 ∧ nanoOf s ≤ 999999999 then ((secOf s - 4611686018427387904 : Nat) : Int) else 0) := by
    show _
    intro v; unfold rdA; simp [h]
  have HB : Hid (∀ v, v = rdB s ↔ v = if 4611686018427387904 ≤ secOf s ∧ secOf s ≤ 4611687117939015680 ∧ nanoOf s ≤ 999999999 then ((nanoOf s : Nat) : Int) else 0) := by
    show _
    intro v; unfold rdB; simp [h]
  have HE : Hid (∀ v, v = rdE s ↔ v = if 4611686018427387904 ≤ secOf s ∧ secOf s ≤ 4611687117939015680 ∧ nanoOf s ≤ 999999999 then (0 : Int) else 5) := by
    show _
    intro v; unfold rdE; simp [h]
  generalize rdA s = rA at *
  generalize rdB s = rB at *
  generalize rdE s = rE at *
  generalize secOf s = p at *
  generalize nanoOf s = q at *
  obtain ⟨d, hd⟩ : ∃ d : Nat, (d : Int) = ((p : Int) - 4611686018427387904) % 18446744073709551616 := ⟨(((p : Int) - 4611686018427387904) % 18446744073709551616).toNat, by omega⟩
  obtain ⟨x, hx⟩ : ∃ x : Int, x = if d < 9223372036854775808 then (d : Int) else (d : Int) - 18446744073709551616 := ⟨_, rfl⟩
  have d64 : d < 18446744073709551616 := by omega
  have v1 : IntKind.u64.wrap ((p : Int) - 4611686018427387904) = (d : Int) := by rw [wrap_u]; omega
  have v2 : IntKind.i64.wrap (d : Int) = x := by simp [IntKind.wrap, IntKind.bits, IntKind.signed]; rw [hx]; split <;> omega
  have v3 : IntKind.i64.wrap (q : Int) = (q : Int) := IntWalk.i64_in _ ⟨by omega, by omega⟩
  have f3 := isTime_any x q
  have hok : ok x q = decide (4611686018427387904 ≤ p ∧ p ≤ 4611687117939015680 ∧ q ≤ 999999999) := decide_eq_decide.2 (by rw [hx]; split <;> omega)
  rw [hok] at f3
  have hxp : 4611686018427387904 ≤ p → p ≤ 4611687117939015680 → x = ((p - 4611686018427387904 : Nat) : Int) := fun _ _ => by rw [hx]; split <;> omega
  have hR0 : Blk (w.alloc (.cells #[.int .i64 0, .int .i64 0] 23)) w.heap.size 23 [.int .i64 0, .int .i64 0] := Blk.new w 23 _ _ rfl
  have hX0 : Below w.heap.size w (w.alloc (.cells #[.int .i64 0, .int .i64 0] 23)) := (Below.refl _ _).alloc (Nat.le_refl _) _
  by_cases c : 4611686018427387904 ≤ p ∧ p ≤ 4611687117939015680 ∧ q ≤ 999999999
  · have hA : rA = x := by rw [hxp c.1 c.2.1]; have := (HA.out rA).1 rfl; rw [if_pos c] at this; exact this
    have hB : rB = (q : Int) := by have := (HB.out rB).1 rfl; rw [if_pos c] at this; exact this
    have hE : rE = 0 := by have := (HE.out rE).1 rfl; rw [if_pos c] at this; exact this
    subst hA hB hE
    rw [decide_eq_true c] at f3
    clear HA HB HE hxp hx hd hok c h d64
    go_enter Try.func11, Try.ntmps11
    go_wp2_with fail
    go_region_with (go_at_call 17; (first | (with_reducible refine (f1 _).mono ?_) | (with_reducible refine (f2 _).mono ?_)); rintro e w1 ⟨rfl, rfl⟩)
    all_goals
      have hR1 : Blk ((w.alloc (.cells #[.int .i64 0, .int .i64 0] 23)).alloc (.cells #[.int .i64 rA, .int .i64 q] 23)).drew w.heap.size 23 [.int .i64 0, .int .i64 0] := hR0.alloc _
      have hV1 : Blk ((w.alloc (.cells #[.int .i64 0, .int .i64 0] 23)).alloc (.cells #[.int .i64 rA, .int .i64 q] 23)).drew (w.heap.size + 1) 23 [.int .i64 rA, .int .i64 q] := by
        have h := Blk.new (w.alloc (.cells #[.int .i64 0, .int .i64 0] 23)) 23 [.int .i64 rA, .int .i64 q] _ rfl
        rw [World.size_alloc] at h
        exact h
      have hX1 : Below w.heap.size w ((w.alloc (.cells #[.int .i64 0, .int .i64 0] 23)).alloc (.cells #[.int .i64 rA, .int .i64 q] 23)).drew := (hX0.alloc (by simp) _).drew
      go_wp2_with (first
        | (go_at_call 13; (with_reducible refine (f3 _).mono ?_); rintro e w4 ⟨rfl, hb4⟩; have hR4 := hR1.below hb4 hR1.lt; have hV4 := hV1.below hb4 hV1.lt; have hX4 := hX1.trans (hb4.mono hX1.size); clear hR1 hV1 hX1 hb4)
        | (refine wpList_load_blk rfl 23 (.tmp 4) rfl (w.heap.size + 1) 0 rfl hV1 [.int .i64 rA, .int .i64 q] (by simp) _ Try.underlying23 rfl infoST ?_)
        | (refine wpList_load_blk rfl 23 (.tmp 4) rfl (w.heap.size + 1) 0 rfl hV4 [.int .i64 rA, .int .i64 q] (by simp) _ Try.underlying23 rfl infoST ?_)
        | (refine wpList_store_blk rfl 23 (.tmp 2) (.tmp 27) rfl w.heap.size [.int .i64 rA, .int .i64 q] rfl rfl [.int .i64 0, .int .i64 0] hR4 rfl (by simp [Value.oneCell']) infoST ?_; intro W5 hW5))
      exact bodyPost_ret (results_blk_tmp Try.results11 _ rfl rfl hW5.blk _ Try.underlying23 rfl infoST) rfl ⟨rfl, hW5.below _ _ (Nat.le_refl _) hX4⟩
  · have hA : rA = 0 := by have := (HA.out rA).1 rfl; rw [if_neg c] at this; exact this
    have hB : rB = 0 := by have := (HB.out rB).1 rfl; rw [if_neg c] at this; exact this
    have hE : rE = 5 := by have := (HE.out rE).1 rfl; rw [if_neg c] at this; exact this
    subst hA hB hE
    rw [decide_eq_false c] at f3
    clear HA HB HE hxp hx hd hok c h d64
    go_enter Try.func11, Try.ntmps11
    go_wp2_with fail
    go_region_with (go_at_call 17; (first | (with_reducible refine (f1 _).mono ?_) | (with_reducible refine (f2 _).mono ?_)); rintro e w1 ⟨rfl, rfl⟩)
    all_goals
      have hR1 : Blk ((w.alloc (.cells #[.int .i64 0, .int .i64 0] 23)).alloc (.cells #[.int .i64 x, .int .i64 q] 23)).drew w.heap.size 23 [.int .i64 0, .int .i64 0] := hR0.alloc _
      have hV1 : Blk ((w.alloc (.cells #[.int .i64 0, .int .i64 0] 23)).alloc (.cells #[.int .i64 x, .int .i64 q] 23)).drew (w.heap.size + 1) 23 [.int .i64 x, .int .i64 q] := by
        have h := Blk.new (w.alloc (.cells #[.int .i64 0, .int .i64 0] 23)) 23 [.int .i64 x, .int .i64 q] _ rfl
        rw [World.size_alloc] at h
        exact h
      have hX1 : Below w.heap.size w ((w.alloc (.cells #[.int .i64 0, .int .i64 0] 23)).alloc (.cells #[.int .i64 x, .int .i64 q] 23)).drew := (hX0.alloc (by simp) _).drew
      go_wp2_with (first
        | (go_at_call 13; (with_reducible refine (f3 _).mono ?_); rintro e w4 ⟨rfl, hb4⟩; have hR4 := hR1.below hb4 hR1.lt; have hV4 := hV1.below hb4 hV1.lt; have hX4 := hX1.trans (hb4.mono hX1.size); clear hR1 hV1 hX1 hb4)
        | (refine wpList_load_blk rfl 23 (.tmp 4) rfl (w.heap.size + 1) 0 rfl hV1 [.int .i64 x, .int .i64 q] (by simp) _ Try.underlying23 rfl infoST ?_)
        | (refine wpList_load_blk rfl 23 (.tmp 4) rfl (w.heap.size + 1) 0 rfl hV4 [.int .i64 x, .int .i64 q] (by simp) _ Try.underlying23 rfl infoST ?_)
        | (refine wpList_store_blk rfl 23 (.tmp 2) (.tmp 26) rfl w.heap.size [.int .i64 0, .int .i64 0] rfl rfl [.int .i64 0, .int .i64 0] hR4 rfl (by simp [Value.oneCell']) infoST ?_; intro W5 hW5))
      exact bodyPost_ret (results_blk_tmp Try.results11 _ rfl rfl hW5.blk _ Try.underlying23 rfl infoST) rfl ⟨rfl, hW5.below _ _ (Nat.le_refl _) hX4⟩
theorem read_any (s : ByteArray) (hs : s.size ≤ 9223372036854775807) (w : World) :
    Calls Try.prog 11 #[.string s] w fun e w' => e = .returned (.tuple #[st (rdA s) (rdB s), .int .i64 (rdE s)]) ∧ Below w.heap.size w w' := by
  rcases Nat.lt_trichotomy s.size 12 with h | h | h
  · have h1 : ¬ s.size = 12 := by omega
    have := read_short s h w
    rw [show rdA s = 0 by unfold rdA; rw [if_neg (fun c => h1 c.1)], show rdB s = 0 by unfold rdB; rw [if_neg (fun c => h1 c.1)], show rdE s = 4 by unfold rdE; rw [if_pos h]]
    exact this
  · exact read_twelve s h w
  · have h1 : ¬ s.size = 12 := by omega
    have := read_long s h w
    rw [show rdA s = 0 by unfold rdA; rw [if_neg (fun c => h1 c.1)], show rdB s = 0 by unfold rdB; rw [if_neg (fun c => h1 c.1)], show rdE s = 5 by unfold rdE; rw [if_neg (by omega), if_neg (fun c => h1 c.1)]]
    exact this
end Go.Proofs.Ytkkechklpijgkaa.stm
