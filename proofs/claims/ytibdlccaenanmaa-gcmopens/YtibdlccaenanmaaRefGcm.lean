/-
  THE WALKS OF the document's own gcm: what it keeps, its blocks, what is xored, tags.
-/
import Derived.Test.YtibdlccaenanmaaRefAesOf8
import Derived.Test.YtibdlccaenanmaaRefAesForth
import Derived.Test.YtibdlccaenanmaaRefGhashSum
import Derived.Test.YtibdlccaenanmaaPlainGcm
import Derived.Test.YtibdlccaenanmaaPlainBox
import Derived.Test.YtibdlccaenanmaaGcmMasks
import Derived.Laws.EntriesVeiled
namespace Go.Proofs.Ytibdlccaenanmaa.rgcm
open Go.RowKit
open Go.Proofs.Ytibdlccaenanmaa.aes (Ok enc enc_length zero16 kE kE_ok Tab Words)
open Go.Proofs.Ytibdlccaenanmaa.gal (gsub)
open Go.Proofs.Ytibdlccaenanmaa.ghs (bn bt bt_size sumN xo xo_size hbl)
open Go.Proofs.Ytibdlccaenanmaa.gcm
open Go.Proofs.Ytibdlccaenanmaa.box

/-- What the document's gcm keeps. -/
structure Kp (W : World) (key nonce more : ByteArray) (bn bm ba bf : Nat) : Prop where
  aes : ∃ sg wg wcap, 60 ≤ wcap ∧ Tab W sg gsub ∧ Words W wg 60 (kE key) ∧ W.cell? ⟨ba, 0, none⟩ = some (.slice (some ⟨sg, 0, none⟩) 256 256) ∧ W.cell? ⟨ba, 1, none⟩ = some (.slice (some ⟨wg, 0, none⟩) 60 wcap)
  nonce : W.cell? ⟨bn, 0, none⟩ = some (.string nonce)
  more : W.cell? ⟨bm, 0, none⟩ = some (.string more)
  blk : W.cell? ⟨bf, 0, none⟩ = some (.func (.func 32) #[] #[.pointer (some ⟨ba, 0, none⟩), .pointer (some ⟨bn, 0, none⟩)])
  l1 : bn < W.heap.size
  l2 : bm < W.heap.size
  l3 : ba < W.heap.size
  l4 : bf < W.heap.size
theorem Kp.below {W W' : World} {key nonce more : ByteArray} {bn bm ba bf : Nat} (h : Kp W key nonce more bn bm ba bf) (hb : Below W.heap.size W W') : Kp W' key nonce more bn bm ba bf := by
  obtain ⟨⟨sg, wg, wcap, a1, a2, a3, a4, a5⟩, h1, h2, h3, l1, l2, l3, l4⟩ := h
  exact ⟨⟨sg, wg, wcap, a1, a2.below hb a2.1, a3.below hb a3.1, (hb.cell (p := ⟨ba, 0, none⟩) l3).trans a4, (hb.cell (p := ⟨ba, 1, none⟩) l3).trans a5⟩, (hb.cell (p := ⟨bn, 0, none⟩) l1).trans h1, (hb.cell (p := ⟨bm, 0, none⟩) l2).trans h2, (hb.cell (p := ⟨bf, 0, none⟩) l4).trans h3, Nat.lt_of_lt_of_le l1 hb.size, Nat.lt_of_lt_of_le l2 hb.size, Nat.lt_of_lt_of_le l3 hb.size, Nat.lt_of_lt_of_le l4 hb.size⟩
theorem hbl_be4 (n : Nat) : hbl n 4 = be4 n := by
  simp only [hbl, be4, List.nil_append, List.cons_append, Nat.div_div_eq_div_mul]
theorem nb_blk (nonce : ByteArray) (n : Nat) : nb (nonce ++ tx (hbl n 4)) = blk nonce n := by
  rw [hbl_be4, ← nb_tx (blk nonce n) (blk_ok nonce n), blk, tx_app, tx_nb]

set_option maxRecDepth 100000 in
set_option maxHeartbeats 1600000 in
theorem block_any (key nonce more : ByteArray) (hn : nonce.size = 12) (n : Nat) (hnn : n < 4294967296) (p1 p2 p3 p4 : Nat) (w : World) (hK : Kp w key nonce more p1 p2 p3 p4) :
    Calls Try.prog 32 #[.int .i64 n, .pointer (some ⟨p3, 0, none⟩), .pointer (some ⟨p1, 0, none⟩)] w fun e w' => e = .returned (.string (tx (enc (kE key) 14 (blk nonce n)))) ∧ Below w.heap.size w w' := by
  obtain ⟨sg, wg, wcap, a1, a2, a3, a4, a5⟩ := hK.aes
  have f1 := ghs.high_any 4 n (by omega) (by omega)
  rw [show ((4 : Nat) : Int) = 4 from rfl] at f1
  have hs4 : (tx (hbl n 4)).size = 4 := by rw [tx_size, ghs.hbl_length]
  have f2 := fun W h1 h2 => aes.forth_any (kE key) 14 (by omega) (by omega) (kE_ok key) (nonce ++ tx (hbl n 4)) (by rw [ByteArray.size_append, hn, hs4]) sg wg wcap a1 W h1 h2
  rw [nb_blk, show 4 * (14 + 1) = 60 from rfl] at f2
  generalize tx (enc (kE key) 14 (blk nonce n)) = X at *
  generalize tx (hbl n 4) = T at *
  have hne := Up.some w
  have q0 : ∀ y : Up w, y.1.rangeAt p3 0 [.slice (some ⟨sg, 0, none⟩) 256 256, .slice (some ⟨wg, 0, none⟩) 60 wcap] := fun y => by
    intro j v hj
    rw [Nat.zero_add]
    rcases j with _ | _ | j
    · obtain rfl := Option.some.inj hj
      exact (y.2.cell (p := ⟨p3, 0, none⟩) hK.l3).trans a4
    · obtain rfl := Option.some.inj hj
      exact (y.2.cell (p := ⟨p3, 1, none⟩) hK.l3).trans a5
    · cases hj
  have q1 : ∀ y : Up w, y.1.cell? ⟨p1, 0, none⟩ = some (.string nonce) := fun y => (y.2.cell (p := ⟨p1, 0, none⟩) hK.l1).trans hK.nonce
  have F1 : Hid (∀ y : Up w, Calls Try.prog 34 #[.int .u64 (n : Int), .int .i64 4] y.1 fun e w' => e = .returned (.string T) ∧ Below y.1.heap.size y.1 w') := fun y => f1 y.1
  have F2 : Hid (∀ y : Up w, Calls Try.prog 33 #[.agg #[.slice (some ⟨sg, 0, none⟩) 256 256, .slice (some ⟨wg, 0, none⟩) 60 wcap], .string (nonce ++ T)] y.1 fun e w' => e = .returned (.string X) ∧ Below y.1.heap.size y.1 w') := fun y => f2 y.1 (a2.below y.2 a2.1) (a3.below y.2 a3.1)
  clear f1 f2 a2 a3 a4 a5 hK
  go_enter Try.func32, Try.ntmps32
  go_wp2_with fail
  refine wp_region_up (by kernel_rfl) (by kernel_rfl) ?_
  repeat (first
    | (refine wpQuiet_load rfl 56 (.tmp 1) rfl p3 0 rfl [.slice (some ⟨sg, 0, none⟩) 256 256, .slice (some ⟨wg, 0, none⟩) 60 wcap] _ q0 Try.underlying56 rfl aes.infoAES ?_; simp only [Act.put, List.setIfInBounds_toArray, List.set_cons_succ, List.set_cons_zero])
    | (go_big_quiet_step (first | (with_reducible exact calls_up (F1.out _)) | (with_reducible exact calls_up (F2.out _)))))
  refine wpQuiet_nil ?_
  rintro w1 ⟨y1, rfl⟩
  go_wp2_with fail
  go_ret
  exact ⟨rfl, y1.2⟩

set_option maxRecDepth 100000 in
set_option maxHeartbeats 1600000 in
theorem xored_any (key nonce more s : ByteArray) (hn : nonce.size = 12) (hs : s.size ≤ 10000) (p1 p2 p3 p4 : Nat) (w : World) (hK : Kp w key nonce more p1 p2 p3 p4) :
    Calls Try.prog 35 #[.string s, .pointer (some ⟨p4, 0, none⟩)] w fun e w' => e = .returned (.string (hide (kE key) nonce s)) ∧ Below w.heap.size w w' := by
  have he := fun args W => ghs.enter_of Try.func32 rfl rfl args W
  have f1 := fun n hnn W hW => block_any key nonce more hn n hnn p1 p2 p3 p4 W hW
  have HX : Hid (hide (kE key) nonce s = xo s (tx (stm (kE key) nonce (K s.size)))) := rfl
  have hKs : K s.size = (s.size + 15) / 16 := rfl
  have f2 := fun b hb W => aes.xor_any s b s.size rfl hb (by omega) W
  have e2 : ∀ b : ByteArray, tx (aes.xorN s.size (nb s) (nb b)) = xo s b := fun _ => rfl
  simp only [e2] at f2
  generalize K s.size = k0 at *
  clear e2
  go_enter Try.func35, Try.ntmps35
  go_wp2_with fail
  go_loopw [4, 5] (fun t i wr => ∃ k : Nat, k ≤ k0 ∧ t = .string (tx (stm (kE key) nonce k)) ∧ i = .int .i64 ((k + 2 : Nat) : Int) ∧ Kp wr key nonce more p1 p2 p3 p4 ∧ Below w.heap.size w wr) (fun _ i _ => k0 + 2 - (intOf i).toNat)
  case atStart => exact ⟨0, by omega, rfl, rfl, hK, Below.refl _ _⟩
  case round =>
    clear hK
    obtain ⟨k, hk, rfl, rfl, hK, hnx⟩ := hrel
    have hsz : (tx (stm (kE key) nonce k)).size = 16 * k := by rw [tx_size, stm_length]
    by_cases hlt : k < k0
    · have d0 : decide (((16 * k : Nat) : Int) < (s.size : Int)) = true := by simp; omega
      have g1 := f1 (k + 2) (by omega) wr hK
      rw [show ((k + 2 : Nat) : Int) = (k : Int) + 2 from by omega] at g1
      have hc := hK.blk
      have HU : Hid (tx (stm (kE key) nonce k) ++ tx (enc (kE key) 14 (blk nonce (k + 2))) = tx (stm (kE key) nonce (k + 1))) := by show _ = _; rw [stm, tx_app]
      have hs2 : (tx (enc (kE key) 14 (blk nonce (k + 2)))).size = 16 := by rw [tx_size, enc_length]
      generalize tx (enc (kE key) 14 (blk nonce (k + 2))) = Z at *
      generalize tx (stm (kE key) nonce k) = T at *
      go_wp2_with (go_at_call 32; with_reducible refine g1.mono ?_; rintro e w1 ⟨rfl, hb1⟩)
      go_roundw
      case rel => exact ⟨k + 1, by omega, by rw [HU.out], by go_num, hK.below hb1, hnx.trans (hb1.mono hnx.size)⟩
      case measure => simp [intOf]; omega
    · obtain rfl : k = k0 := by omega
      have d0 : decide (((16 * k : Nat) : Int) < (s.size : Int)) = false := by simp; omega
      have g2 := f2 (tx (stm (kE key) nonce k)) (by omega) wr
      rw [← HX.out] at g2
      generalize tx (stm (kE key) nonce k) = T at *
      go_wp2_with (go_at_call 36; with_reducible refine g2.mono ?_; rintro e w1 ⟨rfl, hb1⟩)
      go_ret
      exact ⟨rfl, hnx.trans (hb1.mono hnx.size)⟩

theorem zero16_is : tx zero16 = noughts 16 := by decide +kernel
set_option maxRecDepth 100000 in
set_option maxHeartbeats 1600000 in
theorem tag_any (key nonce more s : ByteArray) (hn : nonce.size = 12) (hm : more.size ≤ 10000) (hs : s.size ≤ 10000) (p1 p2 p3 p4 : Nat) (w : World) (hK : Kp w key nonce more p1 p2 p3 p4) :
    Calls Try.prog 37 #[.string s, .pointer (some ⟨p3, 0, none⟩), .pointer (some ⟨p2, 0, none⟩), .pointer (some ⟨p4, 0, none⟩)] w fun e w' => e = .returned (.string (tagT (kE key) nonce more s)) ∧ Below w.heap.size w w' := by
  have he := fun args W => ghs.enter_of Try.func32 rfl rfl args W
  have f1 := fun W hW => block_any key nonce more hn 1 (by omega) p1 p2 p3 p4 W hW
  rw [show ((1 : Nat) : Int) = 1 from rfl] at f1
  obtain ⟨sg, wg, wcap, a1, a2, a3, a4, a5⟩ := hK.aes
  have f3 := ghs.rzeros_any 16 (by omega)
  rw [← zero16_is, show ((16 : Nat) : Int) = 16 from rfl] at f3
  have f2 := fun W h1 h2 => aes.forth_any (kE key) 14 (by omega) (by omega) (kE_ok key) (tx zero16) (by rw [tx_size]; rfl) sg wg wcap a1 W h1 h2
  rw [nb_tx zero16 zero16_ok, show 4 * (14 + 1) = 60 from rfl] at f2
  have f4 := ghs.ghashSum_good (tx (enc (kE key) 14 zero16)) more s (by rw [tx_size, enc_length]) (by omega) (by omega)
  have f5 := fun W => aes.xor_any (bt (sumN (bn (tx (enc (kE key) 14 zero16))) more s)) (tx (enc (kE key) 14 (blk nonce 1))) 16 (by rw [bt_size]) (by rw [tx_size, enc_length]; omega) (by omega) W
  have e5 : tx (aes.xorN 16 (nb (bt (sumN (bn (tx (enc (kE key) 14 zero16))) more s))) (nb (tx (enc (kE key) 14 (blk nonce 1))))) = tagT (kE key) nonce more s := by
    have e6 : (bt (sumN (bn (tx (enc (kE key) 14 zero16))) more s)).size = 16 := bt_size _
    show _ = tx (ghs.mkl (bt (sumN (bn (tx (enc (kE key) 14 zero16))) more s)).size _)
    rw [e6]
    rfl
  rw [e5] at f5
  clear e5
  generalize tagT (kE key) nonce more s = G at *
  generalize bt (sumN (bn (tx (enc (kE key) 14 zero16))) more s) = Y at *
  generalize tx (enc (kE key) 14 zero16) = H at *
  generalize tx (enc (kE key) 14 (blk nonce 1)) = X at *
  generalize tx zero16 = Z at *
  have hne := Up.some w
  have q0 : ∀ y : Up w, y.1.rangeAt p3 0 [.slice (some ⟨sg, 0, none⟩) 256 256, .slice (some ⟨wg, 0, none⟩) 60 wcap] := fun y => by
    intro j v hj
    rw [Nat.zero_add]
    rcases j with _ | _ | j
    · obtain rfl := Option.some.inj hj
      exact (y.2.cell (p := ⟨p3, 0, none⟩) hK.l3).trans a4
    · obtain rfl := Option.some.inj hj
      exact (y.2.cell (p := ⟨p3, 1, none⟩) hK.l3).trans a5
    · cases hj
  have q1 : ∀ y : Up w, y.1.cell? ⟨p2, 0, none⟩ = some (.string more) := fun y => (y.2.cell (p := ⟨p2, 0, none⟩) hK.l2).trans hK.more
  have F1 : Hid (∀ y : Up w, Calls Try.prog 39 #[.int .i64 16] y.1 fun e w' => e = .returned (.string Z) ∧ Below y.1.heap.size y.1 w') := fun y => f3 y.1
  have F2 : Hid (∀ y : Up w, Calls Try.prog 33 #[.agg #[.slice (some ⟨sg, 0, none⟩) 256 256, .slice (some ⟨wg, 0, none⟩) 60 wcap], .string Z] y.1 fun e w' => e = .returned (.string H) ∧ Below y.1.heap.size y.1 w') := fun y => f2 y.1 (a2.below y.2 a2.1) (a3.below y.2 a3.1)
  have F3 : Hid (∀ y : Up w, Calls Try.prog 38 #[.string H, .string more, .string s] y.1 fun e w' => e = .returned (.tuple #[.string Y, .int .i64 0]) ∧ Below y.1.heap.size y.1 w') := fun y => f4 y.1
  clear f2 f3 f4 a2 a3 a4 a5
  go_enter Try.func37, Try.ntmps37
  go_wp2_with fail
  refine wp_region_up (by kernel_rfl) (by kernel_rfl) ?_
  repeat (first
    | (refine wpQuiet_load rfl 56 (.tmp 1) rfl p3 0 rfl [.slice (some ⟨sg, 0, none⟩) 256 256, .slice (some ⟨wg, 0, none⟩) 60 wcap] _ q0 Try.underlying56 rfl aes.infoAES ?_; simp only [Act.put, List.setIfInBounds_toArray, List.set_cons_succ, List.set_cons_zero])
    | (go_big_quiet_step (first | (with_reducible exact calls_up (F1.out _)) | (with_reducible exact calls_up (F2.out _)) | (with_reducible exact calls_up (F3.out _)))))
  refine wpQuiet_nil ?_
  rintro w1 ⟨y1, rfl⟩
  have hK1 := hK.below y1.2
  have hc := hK1.blk
  clear q0 q1 F1 F2 F3 hne
  go_wp2_with (first
    | (go_at_call 32; with_reducible refine (f1 _ hK1).mono ?_; rintro e w2 ⟨rfl, hb2⟩)
    | (go_at_call 36; with_reducible refine (f5 _).mono ?_; rintro e w3 ⟨rfl, hb3⟩))
  go_ret
  have hX2 := y1.2.trans (hb2.mono y1.2.size)
  exact ⟨rfl, hX2.trans (hb3.mono hX2.size)⟩

set_option maxRecDepth 100000 in
set_option maxHeartbeats 1600000 in
theorem gcm_any (key nonce more : ByteArray) (hk : key.size = 32) (w : World) :
    Calls Try.prog 21 #[.string key, .string nonce, .string more] w fun e w' => ∃ p1 p2 p3 p4, e = .returned (.tuple #[.func (.func 35) #[] #[.pointer (some ⟨p4, 0, none⟩)], .func (.func 37) #[] #[.pointer (some ⟨p3, 0, none⟩), .pointer (some ⟨p2, 0, none⟩), .pointer (some ⟨p4, 0, none⟩)]]) ∧ Kp w' key nonce more p1 p2 p3 p4 ∧ Below w.heap.size w w' := by
  have hmf : ∀ (fn : Fn) (first cap : Array Value) (w : World), (Instr.makeFunc fn first cap).run Try.prog w = .ok (.func fn first cap) w := fun _ _ _ _ => rfl
  have f1 := aes.aesOf_8 key (by omega)
  go_enter Try.func21, Try.ntmps21
  go_wp2_with (go_at_call 31; with_reducible refine (f1 _).mono ?_; rintro e w1 ⟨sg, wg, wcap, rfl, hwc, hT, hW, hb1⟩)
  go_ret2
  have hA := (Blk.new w 9 [.string nonce] _ rfl).alloc (.cells #[.string more] 9)
  have hB : Blk ((w.alloc (.cells #[.string nonce] 9)).alloc (.cells #[.string more] 9)) (w.heap.size + 1) 9 [.string more] := by
    have := Blk.new (w.alloc (.cells #[.string nonce] 9)) 9 [.string more] _ rfl
    rwa [World.size_alloc] at this
  have hX : Below w.heap.size w ((w.alloc (.cells #[.string nonce] 9)).alloc (.cells #[.string more] 9)) := ((Below.refl _ _).alloc (Nat.le_refl _) _).alloc (by simp) _
  have hX1 := hX.trans (hb1.mono hX.size)
  have hA1 := hA.below hb1 hA.lt
  have hB1 := hB.below hb1 hB.lt
  have hC := (Blk.new w1 56 [.slice (some ⟨sg, 0, none⟩) 256 256, .slice (some ⟨wg, 0, none⟩) 60 wcap] _ rfl).alloc (.cells #[.func (.func 32) #[] #[.pointer (some ⟨w1.heap.size, 0, none⟩), .pointer (some ⟨w.heap.size, 0, none⟩)]] 29)
  have hD := Blk.new (w1.alloc (.cells #[.slice (some ⟨sg, 0, none⟩) 256 256, .slice (some ⟨wg, 0, none⟩) 60 wcap] 56)) 29 [.func (.func 32) #[] #[.pointer (some ⟨w1.heap.size, 0, none⟩), .pointer (some ⟨w.heap.size, 0, none⟩)]] _ rfl
  rw [World.size_alloc] at hD
  have hE : Below w1.heap.size w1 ((w1.alloc (.cells #[.slice (some ⟨sg, 0, none⟩) 256 256, .slice (some ⟨wg, 0, none⟩) 60 wcap] 56)).alloc (.cells #[.func (.func 32) #[] #[.pointer (some ⟨w1.heap.size, 0, none⟩), .pointer (some ⟨w.heap.size, 0, none⟩)]] 29)) := ((Below.refl _ _).alloc (Nat.le_refl _) _).alloc (by simp) _
  have hA2 := hA1.below hE hA1.lt
  have hB2 := hB1.below hE hB1.lt
  exact ⟨w.heap.size, w.heap.size + 1, w1.heap.size, w1.heap.size + 1, rfl, ⟨⟨sg, wg, wcap, hwc, hT.below hE hT.1, hW.below hE hW.1, hC.cell 0 _ rfl, hC.cell 1 _ rfl⟩, hA2.cell 0 _ rfl, hB2.cell 0 _ rfl, hD.cell 0 _ rfl, hA2.lt, hB2.lt, hC.lt, hD.lt⟩, hX1.trans (hE.mono hX1.size)⟩

theorem boxed_any (key nonce more text : ByteArray) (most : Nat) (w : World) :
    Calls Try.prog 20 #[.string key, .string nonce, .string more, .string text, .int .i64 most] w fun e w' => e = .returned (.int .i64 (chk key nonce more text most)) ∧ w' = w := by
  go_enter Try.func20, Try.ntmps20
  go_wp2
  all_goals
    go_ret
    refine ⟨?_, rfl⟩
    unfold chk
    simp only [bne_iff_ne, ne_eq, bne_eq_false_iff_eq] at *
    repeat' split
    all_goals first | rfl | (exfalso; omega)

set_option maxRecDepth 100000 in
set_option maxHeartbeats 800000 in
theorem seal_any (key nonce more text : ByteArray) (w : World) :
    Calls Try.prog 9 #[.string key, .string nonce, .string more, .string text] w fun e w' => e = .returned (.tuple #[.string (sealT (hide (kE key) nonce) (tagT (kE key) nonce more) (chk key nonce more text 2000) text), .int .i64 (chk key nonce more text 2000)]) ∧ Below w.heap.size w w' := by
  have f1 := boxed_any key nonce more text 2000
  rw [show ((2000 : Nat) : Int) = 2000 from rfl] at f1
  have hz := chk_zero (key := key) (nonce := nonce) (more := more) (text := text) (most := 2000)
  generalize chk key nonce more text 2000 = c at *
  by_cases h0 : c = 0
  · subst h0
    obtain ⟨hk, hn, hm, ht⟩ := hz rfl
    have he1 := fun args W => ghs.enter_of Try.func35 rfl rfl args W
    have he2 := fun args W => ghs.enter_of Try.func37 rfl rfl args W
    have f2 := gcm_any key nonce more hk
    have f3 := fun p1 p2 p3 p4 W hW => xored_any key nonce more text hn (by omega) p1 p2 p3 p4 W hW
    have hs := hide_size (kE key) nonce text
    have HT : Hid (sealT (hide (kE key) nonce) (tagT (kE key) nonce more) 0 text = hide (kE key) nonce text ++ tagT (kE key) nonce more (hide (kE key) nonce text)) := if_pos rfl
    rw [HT.out]
    clear HT
    generalize hide (kE key) nonce text = T at *
    have f4 := fun p1 p2 p3 p4 W hW => tag_any key nonce more T hn (by omega) (by omega) p1 p2 p3 p4 W hW
    have hts := tagT_size (kE key) nonce more T
    generalize tagT (kE key) nonce more T = G at *
    go_enter Try.func9, Try.ntmps9
    go_wp2_with (first
      | (go_at_call 20; with_reducible refine (f1 _).mono ?_; rintro e w0 ⟨rfl, rfl⟩)
      | (go_at_call 21; with_reducible refine (f2 _).mono ?_; rintro e w1 ⟨p1, p2, p3, p4, rfl, hK, hb1⟩)
      | (go_at_call 35; with_reducible refine (f3 _ _ _ _ _ hK).mono ?_; rintro e w2 ⟨rfl, hb2⟩; have hK2 := hK.below hb2)
      | (go_at_call 37; with_reducible refine (f4 _ _ _ _ _ hK2).mono ?_; rintro e w3 ⟨rfl, hb3⟩))
    go_ret2
    have hX2 := hb1.trans (hb2.mono hb1.size)
    exact ⟨rfl, hX2.trans (hb3.mono hX2.size)⟩
  · have c0 : ((c : Int) != 0) = true := by simp; omega
    have HT : Hid (sealT (hide (kE key) nonce) (tagT (kE key) nonce more) c text = ⟨#[]⟩) := if_neg h0
    rw [HT.out]
    go_enter Try.func9, Try.ntmps9
    go_wp2_with (go_at_call 20; with_reducible refine (f1 _).mono ?_; rintro e w0 ⟨rfl, rfl⟩)
    go_ret2
    exact ⟨rfl, Below.refl _ _⟩

set_option maxRecDepth 100000 in
set_option maxHeartbeats 1600000 in
theorem open_any (key nonce more s : ByteArray) (w : World) :
    Calls Try.prog 11 #[.string key, .string nonce, .string more, .string s] w fun e w' => e = .returned (.tuple #[.string (openT (hide (kE key) nonce) (tagT (kE key) nonce more) (chk key nonce more s 2016) s), .int .i64 (openE (tagT (kE key) nonce more) (chk key nonce more s 2016) s)]) ∧ Below w.heap.size w w' := by
  have f1 := boxed_any key nonce more s 2016
  rw [show ((2016 : Nat) : Int) = 2016 from rfl] at f1
  have hz := chk_zero (key := key) (nonce := nonce) (more := more) (text := s) (most := 2016)
  generalize chk key nonce more s 2016 = c at *
  by_cases h0 : c = 0
  · subst h0
    obtain ⟨hk, hn, hm, ht⟩ := hz rfl
    by_cases hsh : s.size < 16
    · have d0 : decide ((s.size : Int) < 16) = true := by simp; omega
      have HE : openE (tagT (kE key) nonce more) 0 s = 4 := by rw [openE, if_pos rfl, if_pos hsh]
      have HT : openT (hide (kE key) nonce) (tagT (kE key) nonce more) 0 s = ⟨#[]⟩ := by rw [openT, HE, if_neg (by decide)]
      rw [HE, HT]
      clear HE HT
      go_enter Try.func11, Try.ntmps11
      go_wp2_with (go_at_call 20; with_reducible refine (f1 _).mono ?_; rintro e w0 ⟨rfl, rfl⟩)
      go_ret2
      exact ⟨rfl, Below.refl _ _⟩
    · obtain ⟨n, hn'⟩ : ∃ n, s.size = n + 16 := ⟨s.size - 16, by omega⟩
      have d0 : decide ((s.size : Int) < 16) = false := by simp; omega
      have i0 : (s.size : Int) - 16 = (n : Int) := by omega
      have s1 := sl_to s n (by omega)
      have e1 : s.extract 0 n = front s := by unfold front; rw [hn', Nat.add_sub_cancel]
      rw [e1] at s1
      have hfs : (front s).size = n := by rw [front_size]; omega
      have he1 := fun args W => ghs.enter_of Try.func35 rfl rfl args W
      have f2 := gcm_any key nonce more hk
      have f3 := fun p1 p2 p3 p4 W hW => xored_any key nonce more (front s) hn (by omega) p1 p2 p3 p4 W hW
      have hsi := sealed_is (hide (kE key) nonce) (tagT (kE key) nonce more) (hide_twice (kE key) nonce) s
      have hhs := hide_size (kE key) nonce (front s)
      have f4 := seal_any key nonce more (hide (kE key) nonce (front s))
      have c4 : chk key nonce more (hide (kE key) nonce (front s)) 2000 = 0 := by rw [chk, if_pos ⟨hk, hn⟩, if_pos ⟨by omega, by omega⟩]
      rw [c4, sealT, if_pos rfl] at f4
      have HE : openE (tagT (kE key) nonce more) 0 s = if tagT (kE key) nonce more (front s) = back s then 0 else 6 := by rw [openE, if_pos rfl, if_neg hsh]
      have HT : openT (hide (kE key) nonce) (tagT (kE key) nonce more) 0 s = if tagT (kE key) nonce more (front s) = back s then hide (kE key) nonce (front s) else ⟨#[]⟩ := by
        rw [openT, HE]
        by_cases h : tagT (kE key) nonce more (front s) = back s
        · rw [if_pos h, if_pos rfl, if_pos h]
        · rw [if_neg h, if_neg (by decide), if_neg h]
      rw [HE, HT]
      clear HT HE e1 hz c4
      generalize tagT (kE key) nonce more (front s) = G at *
      generalize hide (kE key) nonce (hide (kE key) nonce (front s)) ++ tagT (kE key) nonce more (hide (kE key) nonce (hide (kE key) nonce (front s))) = Z at *
      generalize hide (kE key) nonce (front s) = H at *
      generalize front s = T at *
      generalize back s = B at *
      by_cases he : G = B
      · have hz2 := hsi.2 he
        have t0 : (Z.toList == s.toList) = true := by rw [beq_iff_eq, hz2]
        rw [if_pos he, if_pos he]
        clear hsi hz2 he
        go_enter Try.func11, Try.ntmps11
        go_wp2_with (first
          | (go_at_call 20; with_reducible refine (f1 _).mono ?_; rintro e w0 ⟨rfl, rfl⟩)
          | (go_at_call 21; with_reducible refine (f2 _).mono ?_; rintro e w1 ⟨p1, p2, p3, p4, rfl, hK, hb1⟩)
          | (go_at_call 35; with_reducible refine (f3 _ _ _ _ _ hK).mono ?_; rintro e w2 ⟨rfl, hb2⟩)
          | (go_at_call 9; with_reducible refine (f4 _).mono ?_; rintro e w3 ⟨rfl, hb3⟩))
        go_ret2
        have hX2 := hb1.trans (hb2.mono hb1.size)
        exact ⟨rfl, hX2.trans (hb3.mono hX2.size)⟩
      · have t0 := ne_list (fun h => he (hsi.1 h))
        rw [if_neg he, if_neg he]
        clear hsi he
        go_enter Try.func11, Try.ntmps11
        go_wp2_with (first
          | (go_at_call 20; with_reducible refine (f1 _).mono ?_; rintro e w0 ⟨rfl, rfl⟩)
          | (go_at_call 21; with_reducible refine (f2 _).mono ?_; rintro e w1 ⟨p1, p2, p3, p4, rfl, hK, hb1⟩)
          | (go_at_call 35; with_reducible refine (f3 _ _ _ _ _ hK).mono ?_; rintro e w2 ⟨rfl, hb2⟩)
          | (go_at_call 9; with_reducible refine (f4 _).mono ?_; rintro e w3 ⟨rfl, hb3⟩))
        go_ret2
        have hX2 := hb1.trans (hb2.mono hb1.size)
        exact ⟨rfl, hX2.trans (hb3.mono hX2.size)⟩
  · have c0 : ((c : Int) != 0) = true := by simp; omega
    have HE : openE (tagT (kE key) nonce more) c s = c := by rw [openE, if_neg h0]
    have HT : openT (hide (kE key) nonce) (tagT (kE key) nonce more) c s = ⟨#[]⟩ := by rw [openT, HE, if_neg h0]
    rw [HT, HE]
    go_enter Try.func11, Try.ntmps11
    go_wp2_with (go_at_call 20; with_reducible refine (f1 _).mono ?_; rintro e w0 ⟨rfl, rfl⟩)
    go_ret2
    exact ⟨rfl, Below.refl _ _⟩
end Go.Proofs.Ytibdlccaenanmaa.rgcm
