/-
  THE WALK OF the document's own StampRead.
-/
import Derived.Test.YtkkechklpijgkaaRefStamp
namespace Go.Proofs.Ytkkechklpijgkaa.rstm
open Go.RowKit
open stm
open Go.Proofs.Ytkkechklpijgkaa.u64 (wrap_u wrap64u)

set_option maxRecDepth 100000 in
set_option maxHeartbeats 4000000 in
theorem rread_short (s : ByteArray) (h : s.size < 12) (w : World) :
    Calls Try.prog 12 #[.string s] w fun e w' => e = .returned (.tuple #[st 0 0, .int .i64 4]) ∧ Below w.heap.size w w' := by
  have d0 : decide ((s.size : Int) < 12) = true := by simp; omega
  have hR0 : Blk (w.alloc (.cells #[.int .i64 0, .int .i64 0] 23)) w.heap.size 23 [.int .i64 0, .int .i64 0] := Blk.new w 23 _ _ rfl
  have hX0 : Below w.heap.size w (w.alloc (.cells #[.int .i64 0, .int .i64 0] 23)) := (Below.refl _ _).alloc (Nat.le_refl _) _
  go_enter Try.func12, Try.ntmps12
  go_wp2_with fail
  exact bodyPost_ret (results_blk_tmp Try.results12 _ rfl rfl hR0 _ Try.underlying23 rfl infoST) rfl ⟨rfl, hX0⟩
theorem nano_in (s : ByteArray) (h : 12 ≤ s.size) : (s.extract 8 12).size = 4 := by rw [ByteArray.size_extract]; omega
set_option maxRecDepth 100000 in
set_option maxHeartbeats 4000000 in
theorem rread_more (s : ByteArray) (h : 12 ≤ s.size) (hs : s.size ≤ 9223372036854775807) (x q : Nat) (hx : x = hv (nb (s.extract 0 8)) % 4611686018427387904) (hq : q = hv (nb (s.extract 8 12))) (A B E : Int)
    (h0 : wrE x q = 0 → wrT x q = s → A = x ∧ B = q ∧ E = 0) (h1 : ¬ (wrE x q = 0 ∧ wrT x q = s) → A = 0 ∧ B = 0 ∧ E = 5) (w : World) :
    Calls Try.prog 12 #[.string s] w fun e w' => e = .returned (.tuple #[st A B, .int .i64 E]) ∧ Below w.heap.size w w' := by
  have d0 : decide ((s.size : Int) < 12) = false := by simp; omega
  have f1 := back_any (s.extract 0 8) (by rw [ByteArray.size_extract]; omega)
  have f2 := back_any (s.extract 8 12) (by rw [ByteArray.size_extract]; omega)
  have f3 := of_any (rev (s.extract 0 8)) (by rw [rev_size, ByteArray.size_extract]; omega)
  have f4 := of_any (rev (s.extract 8 12)) (by rw [rev_size, ByteArray.size_extract]; omega)
  rw [rev_nb, List.reverse_reverse] at f3 f4
  have bq : q < 4294967296 := by
    have := hv_lt (nb (s.extract 8 12)) (nb_lt _)
    rw [nb_length, nano_in s h] at this
    rw [hq]
    exact this
  rw [← hq] at f4
  clear hq
  generalize hv (nb (s.extract 0 8)) = p at *
  generalize rev (s.extract 0 8) = X at *
  generalize rev (s.extract 8 12) = Y at *
  have x1 : (p : Int) % 4611686018427387904 = (x : Int) := by omega
  have x2 : (p : Int).tmod 4611686018427387904 = (x : Int) := by rw [Int.tmod_eq_emod_of_nonneg (by omega)]; exact x1
  have xb : x < 4611686018427387904 := by rw [hx]; exact Nat.mod_lt _ (by decide)
  have v0 : IntKind.u64.wrap (x : Int) = (x : Int) := wrap64u x (by omega)
  have v1 : IntKind.i64.wrap (x : Int) = (x : Int) := IntWalk.i64_in _ ⟨by omega, by omega⟩
  have v2 : IntKind.i64.wrap (q : Int) = (q : Int) := IntWalk.i64_in _ ⟨by omega, by omega⟩
  have f5 := rwrite_any (x : Int) (q : Int)
  have k1 : (8 : Int) ≤ (s.size : Int) := by omega
  have k2 : (12 : Int) ≤ (s.size : Int) := by omega
  have k3 : 8 ≤ s.size := by omega
  have hR0 : Blk (w.alloc (.cells #[.int .i64 0, .int .i64 0] 23)) w.heap.size 23 [.int .i64 0, .int .i64 0] := Blk.new w 23 _ _ rfl
  have hX0 : Below w.heap.size w (w.alloc (.cells #[.int .i64 0, .int .i64 0] 23)) := (Below.refl _ _).alloc (Nat.le_refl _) _
  clear hx
  by_cases c1 : wrE x q = 0
  · by_cases c2 : wrT x q = s
    · obtain ⟨rfl, rfl, rfl⟩ := h0 c1 c2
      have t1 : (s.toList == s.toList) = true := by simp
      rw [c1, c2] at f5
      clear h0 h1 c1 c2 xb bq
      go_enter Try.func12, Try.ntmps12
      go_wp2_with fail
      go_region_with (first
        | (go_at_call 19; (first | (with_reducible refine (f1 _).mono ?_) | (with_reducible refine (f2 _).mono ?_)); rintro e w1 ⟨rfl, rfl⟩)
        | (go_at_call 18; (first | (with_reducible refine (f3 _).mono ?_) | (with_reducible refine (f4 _).mono ?_)); rintro e w1 ⟨rfl, rfl⟩))
      all_goals
        have hR1 : Blk ((w.alloc (.cells #[.int .i64 0, .int .i64 0] 23)).alloc (.cells #[.int .i64 x, .int .i64 q] 23)).drew w.heap.size 23 [.int .i64 0, .int .i64 0] := hR0.alloc _
        have hV1 : Blk ((w.alloc (.cells #[.int .i64 0, .int .i64 0] 23)).alloc (.cells #[.int .i64 x, .int .i64 q] 23)).drew (w.heap.size + 1) 23 [.int .i64 x, .int .i64 q] := by
          have h := Blk.new (w.alloc (.cells #[.int .i64 0, .int .i64 0] 23)) 23 [.int .i64 x, .int .i64 q] _ rfl
          rw [World.size_alloc] at h
          exact h
        have hX1 : Below w.heap.size w ((w.alloc (.cells #[.int .i64 0, .int .i64 0] 23)).alloc (.cells #[.int .i64 x, .int .i64 q] 23)).drew := (hX0.alloc (by simp) _).drew
        go_wp2_with (first
          | (go_at_call 8; (with_reducible refine (f5 _).mono ?_); rintro e w4 ⟨rfl, hb4⟩; have hR4 := hR1.below hb4 hR1.lt; have hV4 := hV1.below hb4 hV1.lt; have hX4 := hX1.trans (hb4.mono hX1.size); clear hR1 hV1 hX1 hb4)
          | (refine wpList_load_blk rfl 23 (.tmp 4) rfl (w.heap.size + 1) 0 rfl hV1 [.int .i64 x, .int .i64 q] (by simp) _ Try.underlying23 rfl infoST ?_)
          | (refine wpList_load_blk rfl 23 (.tmp 4) rfl (w.heap.size + 1) 0 rfl hV4 [.int .i64 x, .int .i64 q] (by simp) _ Try.underlying23 rfl infoST ?_)
          | (refine wpList_store_blk rfl 23 (.tmp 2) (.tmp 36) rfl w.heap.size [.int .i64 x, .int .i64 q] rfl rfl [.int .i64 0, .int .i64 0] hR4 rfl (by simp [Value.oneCell']) infoST ?_; intro W5 hW5))
        exact bodyPost_ret (results_blk_tmp Try.results12 _ rfl rfl hW5.blk _ Try.underlying23 rfl infoST) rfl ⟨rfl, hW5.below _ _ (Nat.le_refl _) hX4⟩
    · obtain ⟨rfl, rfl, rfl⟩ := h1 (fun h => c2 h.2)
      have t1 : ((wrT x q).toList == s.toList) = false := by
        rw [beq_eq_false_iff_ne]
        intro e
        rw [ByteArray.toList_eq, ByteArray.toList_eq] at e
        exact c2 (ByteArray.ext (Array.ext' e))
      rw [c1] at f5
      generalize wrT x q = U at *
      clear h0 h1 c1 c2 xb bq
      go_enter Try.func12, Try.ntmps12
      go_wp2_with fail
      go_region_with (first
        | (go_at_call 19; (first | (with_reducible refine (f1 _).mono ?_) | (with_reducible refine (f2 _).mono ?_)); rintro e w1 ⟨rfl, rfl⟩)
        | (go_at_call 18; (first | (with_reducible refine (f3 _).mono ?_) | (with_reducible refine (f4 _).mono ?_)); rintro e w1 ⟨rfl, rfl⟩))
      all_goals
        have hR1 : Blk ((w.alloc (.cells #[.int .i64 0, .int .i64 0] 23)).alloc (.cells #[.int .i64 x, .int .i64 q] 23)).drew w.heap.size 23 [.int .i64 0, .int .i64 0] := hR0.alloc _
        have hV1 : Blk ((w.alloc (.cells #[.int .i64 0, .int .i64 0] 23)).alloc (.cells #[.int .i64 x, .int .i64 q] 23)).drew (w.heap.size + 1) 23 [.int .i64 x, .int .i64 q] := by
          have h := Blk.new (w.alloc (.cells #[.int .i64 0, .int .i64 0] 23)) 23 [.int .i64 x, .int .i64 q] _ rfl
          rw [World.size_alloc] at h
          exact h
        have hX1 : Below w.heap.size w ((w.alloc (.cells #[.int .i64 0, .int .i64 0] 23)).alloc (.cells #[.int .i64 x, .int .i64 q] 23)).drew := (hX0.alloc (by simp) _).drew
        go_wp2_with (first
          | (go_at_call 8; (with_reducible refine (f5 _).mono ?_); rintro e w4 ⟨rfl, hb4⟩; have hR4 := hR1.below hb4 hR1.lt; have hV4 := hV1.below hb4 hV1.lt; have hX4 := hX1.trans (hb4.mono hX1.size); clear hR1 hV1 hX1 hb4)
          | (refine wpList_load_blk rfl 23 (.tmp 4) rfl (w.heap.size + 1) 0 rfl hV1 [.int .i64 x, .int .i64 q] (by simp) _ Try.underlying23 rfl infoST ?_)
          | (refine wpList_load_blk rfl 23 (.tmp 4) rfl (w.heap.size + 1) 0 rfl hV4 [.int .i64 x, .int .i64 q] (by simp) _ Try.underlying23 rfl infoST ?_)
          | (refine wpList_store_blk rfl 23 (.tmp 2) (.tmp 35) rfl w.heap.size [.int .i64 0, .int .i64 0] rfl rfl [.int .i64 0, .int .i64 0] hR4 rfl (by simp [Value.oneCell']) infoST ?_; intro W5 hW5))
        exact bodyPost_ret (results_blk_tmp Try.results12 _ rfl rfl hW5.blk _ Try.underlying23 rfl infoST) rfl ⟨rfl, hW5.below _ _ (Nat.le_refl _) hX4⟩
  · obtain ⟨rfl, rfl, rfl⟩ := h1 (fun h => c1 h.1)
    have e1 : wrE x q = 1 := by
      unfold wrE at c1 ⊢
      split
      · rename_i h2; rw [if_pos h2] at c1; exact absurd rfl c1
      · rfl
    rw [e1] at f5
    generalize wrT x q = U at *
    clear h0 h1 c1 e1 xb bq
    go_enter Try.func12, Try.ntmps12
    go_wp2_with fail
    go_region_with (first
      | (go_at_call 19; (first | (with_reducible refine (f1 _).mono ?_) | (with_reducible refine (f2 _).mono ?_)); rintro e w1 ⟨rfl, rfl⟩)
      | (go_at_call 18; (first | (with_reducible refine (f3 _).mono ?_) | (with_reducible refine (f4 _).mono ?_)); rintro e w1 ⟨rfl, rfl⟩))
    all_goals
      have hR1 : Blk ((w.alloc (.cells #[.int .i64 0, .int .i64 0] 23)).alloc (.cells #[.int .i64 x, .int .i64 q] 23)).drew w.heap.size 23 [.int .i64 0, .int .i64 0] := hR0.alloc _
      have hV1 : Blk ((w.alloc (.cells #[.int .i64 0, .int .i64 0] 23)).alloc (.cells #[.int .i64 x, .int .i64 q] 23)).drew (w.heap.size + 1) 23 [.int .i64 x, .int .i64 q] := by
        have h := Blk.new (w.alloc (.cells #[.int .i64 0, .int .i64 0] 23)) 23 [.int .i64 x, .int .i64 q] _ rfl
        rw [World.size_alloc] at h
        exact h
      have hX1 : Below w.heap.size w ((w.alloc (.cells #[.int .i64 0, .int .i64 0] 23)).alloc (.cells #[.int .i64 x, .int .i64 q] 23)).drew := (hX0.alloc (by simp) _).drew
      go_wp2_with (first
        | (go_at_call 8; (with_reducible refine (f5 _).mono ?_); rintro e w4 ⟨rfl, hb4⟩; have hR4 := hR1.below hb4 hR1.lt; have hV4 := hV1.below hb4 hV1.lt; have hX4 := hX1.trans (hb4.mono hX1.size); clear hR1 hV1 hX1 hb4)
        | (refine wpList_load_blk rfl 23 (.tmp 4) rfl (w.heap.size + 1) 0 rfl hV1 [.int .i64 x, .int .i64 q] (by simp) _ Try.underlying23 rfl infoST ?_)
        | (refine wpList_load_blk rfl 23 (.tmp 4) rfl (w.heap.size + 1) 0 rfl hV4 [.int .i64 x, .int .i64 q] (by simp) _ Try.underlying23 rfl infoST ?_)
        | (refine wpList_store_blk rfl 23 (.tmp 2) (.tmp 35) rfl w.heap.size [.int .i64 0, .int .i64 0] rfl rfl [.int .i64 0, .int .i64 0] hR4 rfl (by simp [Value.oneCell']) infoST ?_; intro W5 hW5))
      exact bodyPost_ret (results_blk_tmp Try.results12 _ rfl rfl hW5.blk _ Try.underlying23 rfl infoST) rfl ⟨rfl, hW5.below _ _ (Nat.le_refl _) hX4⟩

theorem ok_iff (x q : Nat) : ok x q = decide (x ≤ 1099511627776 ∧ q ≤ 999999999) := decide_eq_decide.2 (by omega)
theorem nb_in (s : ByteArray) (h : s.size = 12) : nb (s.extract 8 12) = (nb s).drop 8 := by
  rw [show (12 : Nat) = s.size from h.symm]
  exact nano_extract s
theorem rread_any (s : ByteArray) (hs : s.size ≤ 9223372036854775807) (w : World) :
    Calls Try.prog 12 #[.string s] w fun e w' => e = .returned (.tuple #[st (rdA s) (rdB s), .int .i64 (rdE s)]) ∧ Below w.heap.size w w' := by
  by_cases h : s.size < 12
  · have h1 : ¬ s.size = 12 := by omega
    have := rread_short s h w
    rw [show rdA s = 0 by unfold rdA; rw [if_neg (fun c => h1 c.1)], show rdB s = 0 by unfold rdB; rw [if_neg (fun c => h1 c.1)], show rdE s = 4 by unfold rdE; rw [if_pos h]]
    exact this
  · refine rread_more s (by omega) hs _ _ rfl rfl _ _ _ (fun c1 c2 => ?_) (fun c => ?_) w
    · have hk : ok ((hv (nb (s.extract 0 8)) % 4611686018427387904 : Nat) : Int) ((hv (nb (s.extract 8 12)) : Nat) : Int) = true := by
        unfold wrE at c1
        by_cases hh : ok ((hv (nb (s.extract 0 8)) % 4611686018427387904 : Nat) : Int) ((hv (nb (s.extract 8 12)) : Nat) : Int) = true
        · exact hh
        · rw [if_neg hh] at c1; exact absurd c1 (by decide)
      unfold wrT at c2
      rw [if_pos hk, Int.toNat_natCast, Int.toNat_natCast] at c2
      have hz : s.size = 12 := by rw [← c2]; exact told_size _ _
      rw [ok_iff] at hk
      obtain ⟨hk1, hk2⟩ := of_decide_eq_true hk
      have e1 : secOf s = 4611686018427387904 + hv (nb (s.extract 0 8)) % 4611686018427387904 := by
        conv => lhs; rw [← c2]
        exact secOf_told _ _ hk1
      have e2 : nanoOf s = hv (nb (s.extract 8 12)) := by
        conv => lhs; rw [← c2]
        exact nanoOf_told _ _ hk2
      have hc : s.size = 12 ∧ 4611686018427387904 ≤ secOf s ∧ secOf s ≤ 4611687117939015680 ∧ nanoOf s ≤ 999999999 := ⟨hz, by omega, by omega, by omega⟩
      unfold rdA rdB rdE
      rw [if_pos hc, if_pos hc, if_neg h, if_pos hc, e1, e2]
      exact ⟨by omega, rfl, rfl⟩
    · have hc : ¬ (s.size = 12 ∧ 4611686018427387904 ≤ secOf s ∧ secOf s ≤ 4611687117939015680 ∧ nanoOf s ≤ 999999999) := by
        rintro ⟨hz, h1, h2, h3⟩
        have e1 : hv (nb (s.extract 0 8)) = secOf s := by rw [sec_extract]; rfl
        have e2 : hv (nb (s.extract 8 12)) = nanoOf s := by rw [nb_in s hz]; rfl
        rw [e1, e2] at c
        have hk : ok ((secOf s % 4611686018427387904 : Nat) : Int) ((nanoOf s : Nat) : Int) = true := by rw [ok_iff]; exact decide_eq_true ⟨by omega, h3⟩
        refine c ⟨by unfold wrE; rw [if_pos hk], ?_⟩
        unfold wrT
        rw [if_pos hk, Int.toNat_natCast, Int.toNat_natCast]
        exact told_of s hz _ (by omega)
      unfold rdA rdB rdE
      rw [if_neg hc, if_neg hc, if_neg h, if_neg hc]
      exact ⟨rfl, rfl, rfl⟩
end Go.Proofs.Ytkkechklpijgkaa.rstm
