/-
  THE WALK OF the document's own AesOf: a key of 32 bytes.
-/
import Derived.Test.YtibdlccaenanmaaRefAesOf
namespace Go.Proofs.Ytibdlccaenanmaa.aes
open Go.RowKit
open Go.Proofs.Ytibdlccaenanmaa.gal


set_option maxRecDepth 100000 in
set_option maxHeartbeats 3200000 in
theorem aesOf_8 (key : ByteArray) (hk : key.size = 4 * 8) (w : World) :
    Calls Try.prog 31 #[.string key] w fun e w' => ∃ sg wg wcap, e = .returned (.tuple #[.agg #[.slice (some ⟨sg, 0, none⟩) 256 256, .slice (some ⟨wg, 0, none⟩) 60 wcap], .bool true]) ∧ 60 ≤ wcap ∧ Tab w' sg gsub ∧ Words w' wg 60 (kE key) ∧ Below w.heap.size w w' := by
  obtain ⟨i0, hi, hz0, hz1, hz2⟩ := info_parts infoST3
  have t1 : ((key.size : Int) != 16) = true := by rw [bne_iff_ne]; omega
  have t2 : ((key.size : Int) != 32) = false := by rw [bne_eq_false_iff_eq]; omega
  have hq : (key.size : Int) = 32 := by omega
  have fs := subs_any
  have hEo := kE_ok key
  have hfirst := kE_first key 8 hk
  go_enter Try.func31, Try.ntmps31
  go_wp2_with (first
    | (go_at_call 55; refine (fs _).mono ?_; rintro e w1 ⟨sg, rfl, hsg, hT1, hb1⟩))
  have hz := hb1.size
  rw [World.size_alloc] at hz hsg hb1
  have hsl1 := hT1.1
  have hZ1 := ((Blk.new w 56 [.slice none 0 0, .slice none 0 0] _ rfl).below hb1 (Nat.lt_succ_self _)).alloc (.cells #[.slice (some ⟨sg, 0, none⟩) 256 256, .slice none 0 0] 56)
  have hB1 := Blk.new w1 56 [.slice (some ⟨sg, 0, none⟩) 256 256, .slice none 0 0] _ rfl
  have hX1 : Below w.heap.size w (w1.alloc (.cells #[.slice (some ⟨sg, 0, none⟩) 256 256, .slice none 0 0] 56)) := ((((Below.refl _ _).alloc (Nat.le_refl _) _)).trans (hb1.mono (Nat.le_succ _))).alloc (by omega) _
  have hT2 : Tab (w1.alloc (.cells #[.slice (some ⟨sg, 0, none⟩) 256 256, .slice none 0 0] 56)) sg gsub := hT1.below ((Below.refl _ _).alloc (Nat.le_refl _) _) hT1.1
  obtain ⟨ab, hab⟩ : ∃ ab, ab = w1.heap.size := ⟨_, rfl⟩
  rw [← hab] at hB1 hsl1 ⊢
  have hab2 : w.heap.size + 1 ≤ ab := by omega
  clear hz fs hT1 hb1
  obtain ⟨sv, hsv⟩ : ∃ sv : Value, sv = .slice (some ⟨sg, 0, none⟩) 256 256 := ⟨_, rfl⟩
  rw [← hsv] at hB1 hZ1 hX1 hT2 ⊢
  generalize w1.alloc (.cells #[sv, .slice none 0 0] 56) = w2 at *
  have HSV : Hid (sv = .slice (some ⟨sg, 0, none⟩) 256 256) := hsv
  clear hsv hab
  obtain ⟨E, hE⟩ : ∃ E, E = kE key := ⟨_, rfl⟩
  rw [← hE] at hEo hfirst
  have HE : Hid (E = kE key) := hE
  clear hE
  go_loopw [26] (fun i wr => ∃ (I : Nat) (wv : Value), I ≤ 60 ∧ i = .int .i64 I ∧ Blk wr ab 56 [sv, wv] ∧ wr.ownsRow (ab + 1) 9 1 wv I (wcells E I) ∧ Tab wr sg gsub ∧ Blk wr w.heap.size 56 [.slice none 0 0, .slice none 0 0] ∧ Below w.heap.size w wr) (fun i _ => 60 - (intOf i).toNat)
  case atStart => exact ⟨0, _, by omega, rfl, hB1, World.ownsRow_nil _ _ _ _, hT2, hZ1, hX1⟩
  case round =>
    clear hB1 hT2 hZ1 hX1
    obtain ⟨I, wv, hI, rfl, hB, hown, hT, hZ, hnx⟩ := hrel
    have hbl := hB.lt
    have hzl := hZ.lt
    have hsl := hT.1
    have hlo := hown.lt
    have hsz := hnx.size
    by_cases hlt : I < 60
    · have d0 : decide ((I : Int) < 60) = true := by simp; omega
      by_cases hIn : I < 8
      · have d1 : decide ((I : Int) < 8) = true := by simp; omega
        have hT0 := hfirst I hIn
        obtain ⟨lo, hlo4⟩ : ∃ lo, lo = 4 * I := ⟨_, rfl⟩
        obtain ⟨hh, hhi4⟩ : ∃ hh, hh = 4 * I + 4 := ⟨_, rfl⟩
        have e1 : 4 * (I : Int) = (lo : Int) := by omega
        have e2 : (lo : Int) + 4 = (hh : Int) := by omega
        have hslt := sl_text key lo hh (by omega) (by omega)
        rw [← hlo4] at hT0
        rw [show lo + 4 = hh from by omega] at hT0
        have HTW : Hid ((Value.string (tx (word E I))) = .string (key.extract lo hh)) := by rw [hT0]; rfl
        obtain ⟨T, hTe⟩ : ∃ T, key.extract lo hh = T := ⟨_, rfl⟩
        rw [hTe] at HTW hslt
        have w1' : IntKind.i64.wrap (lo : Int) = (lo : Int) := by simp [IntKind.wrap, IntKind.bits, IntKind.signed]; omega
        have w2' : IntKind.i64.wrap (hh : Int) = (hh : Int) := by simp [IntKind.wrap, IntKind.bits, IntKind.signed]; omega
        have c1 : (hh : Int) ≤ 32 := by omega
        have c2 : (lo : Int) ≤ (hh : Int) := by omega
        have c3 : (0 : Int) ≤ (hh : Int) := by omega
        have c4 : (0 : Int) ≤ (lo : Int) := by omega
        have c5 : lo ≤ hh := by omega
        have c6 : hh ≤ 32 := by omega
        clear hlo4 hhi4 hT0 hfirst
        have hk0 := hB.cell 1 wv rfl
        have hf0 := hB.frozen 1
        have HB : Hid (Blk wr ab 56 [sv, wv]) := hB
        have hka := fun o => (HB.out.alloc o).cell 1 wv rfl
        clear hB
        go_wp2_with fail
        go_region_law ((refine step_append_lies _ (by rfl) _ _ _ (by rfl) (ab + 1) 9 i0 _ 1 16 Try.underlying54 hi hz0 hz1 hz2 rfl (by omega) _ I _ (by rfl) ((hown.alloc _).drew) ⟨wr.heap.size, 0, none⟩ 1 1 [.string T] (by rfl) (by rfl) (World.news_of_block (cs := #[.string T]) (t := 9) (fr := (0, 0)) (heap_alloc_new wr _)) (by simp [Value.oneCell']) (by omega) (by unfold maxLen; omega) (by omega) (by simp; omega) (wr.heap.size + 1) (by simp) ?_; intro gg cap1 w8 hown8 hgr8 hat8 hlt8; have HB8 : Hid (Blk w8 ab 56 [sv, wv]) := (hgr8.block ab (by simp; omega) (by intro h; have := hlo _ h.symm; omega)).trans (HB.out.alloc (.cells #[.string T] 9)); have hk8 := HB8.out.cell 1 wv rfl; have hf8 := HB8.out.frozen 1))
        all_goals
          have hge8 := (hown8.lt gg rfl).1
          have hB9 : Blk (w8.setCell ⟨ab, 1, none⟩ (.slice (some ⟨gg, 0, none⟩) (I + 1) cap1)) ab 56 [sv, .slice (some ⟨gg, 0, none⟩) (I + 1) cap1] := HB8.out.set 1 _
          have HB9 : Hid _ := hB9
          have hown9 : (w8.setCell ⟨ab, 1, none⟩ (.slice (some ⟨gg, 0, none⟩) (I + 1) cap1)).ownsRow (ab + 1) 9 1 (.slice (some ⟨gg, 0, none⟩) (I + 1) cap1) (I + 1) (wcells E (I + 1)) := by
            rw [wcells_succ, HTW.out]
            exact own_other hown8 (Nat.lt_succ_self _) _
          have hX9 : Below w.heap.size w (w8.setCell ⟨ab, 1, none⟩ (.slice (some ⟨gg, 0, none⟩) (I + 1) cap1)) :=
            (((hnx.alloc (by omega) _).drew).grown hgr8 (by simp; omega) (fun b hb => by have := (hlo b hb).1; omega)).setCell (by show w.heap.size ≤ ab; omega) _
          have hT9 : Tab (w8.setCell ⟨ab, 1, none⟩ (.slice (some ⟨gg, 0, none⟩) (I + 1) cap1)) sg gsub := ⟨by simp; have := hgr8.size; simp at this; omega, fun x hx => by
            rw [World.cell?_setCell_other _ _ _ _ (by intro h2; injection h2; omega), World.cell?_of_block (hgr8.block sg (by simp; omega) (by intro h; have := hlo _ h.symm; omega))]
            exact (Tab.below hT ((Below.refl _ _).alloc (Nat.le_refl _) (.cells #[.string T] 9)) hT.1).2 x hx⟩
          have hZ9 : Blk (w8.setCell ⟨ab, 1, none⟩ (.slice (some ⟨gg, 0, none⟩) (I + 1) cap1)) w.heap.size 56 [.slice none 0 0, .slice none 0 0] := Blk.other (show Blk w8 w.heap.size 56 [.slice none 0 0, .slice none 0 0] from (hgr8.block w.heap.size (by simp; omega) (by intro h; have := hlo _ h.symm; omega)).trans (hZ.alloc (.cells #[.string T] 9))) (by show w.heap.size ≠ ab; omega) _
          clear HB8 hk8 hf8 hgr8 hat8 hown8
          generalize w8.setCell ⟨ab, 1, none⟩ (.slice (some ⟨gg, 0, none⟩) (I + 1) cap1) = w9 at *
          go_wp2_with fail
          go_roundw
          case rel => exact ⟨I + 1, _, by omega, by go_num, HB9.out, hown9, hT9, hZ9, hX9⟩
          case measure => simp [intOf]; omega
      · have d1 : decide ((I : Int) < 8) = false := by simp; omega
        obtain ⟨wo, hwo⟩ : ∃ x, x = wr := ⟨_, rfl⟩
        subst hwo
        obtain ⟨wg, wc, rfl, hwc, hwb, hwl, hcells⟩ := own_cell hown (by omega)
        obtain ⟨p, hp⟩ : ∃ p, p = I - 1 := ⟨_, rfl⟩
        have hcp := hcells p _ (wcells_get E I p (by omega))
        have ep : (I : Int) - 1 = (p : Int) := by omega
        have p0 : (0 : Int) ≤ (p : Int) := by omega
        have pz : (p : Int) < (I : Int) := by omega
        have hk0 := hB.cell 1 _ rfl
        have hAl := word_length E p
        have hAo := word_ok E p hEo
        have s0 : (tx (word E p)).size = 4 := by rw [tx_size, hAl]
        have HP : Hid (p = I - 1) := hp
        clear hfirst hcells hp
        by_cases hz : I % 8 = 0
        · have HL : Hid (lastW 8 I E = (subN 4 (turn (word E p))).set 0 ((subN 4 (turn (word E p))).getD 0 0 ^^^ rc ((I - 1) / 8))) := by
            show lastW 8 I E = _
            unfold lastW
            rw [if_pos hz, ← HP.out]
          generalize word E p = A at *
          obtain ⟨c, hc⟩ : ∃ c, c = (I - 1) / 8 := ⟨_, rfl⟩
          rw [← hc] at HL
          have td : (I : Int).tdiv 8 = ((c + 1 : Nat) : Int) := by rw [Int.tdiv_eq_ediv_of_nonneg (by omega)]; omega
          have td2 : ((c + 1 : Nat) : Int) - 1 = (c : Int) := by omega
          have tm : (I : Int).tmod 8 = 0 := by rw [Int.tmod_eq_emod_of_nonneg (by omega)]; omega
          have cb : c ≤ 100 := by omega
          obtain ⟨cc, hcc⟩ : ∃ cc, cc = c + 1 := ⟨_, rfl⟩
          rw [← hcc] at td td2
          have HC : Hid (c = (I - 1) / 8) := hc
          have ccb : cc ≤ 200 := by omega
          clear hc hcc
          obtain ⟨TA, hTA⟩ : ∃ TA, TA = tx A := ⟨_, rfl⟩
          have hturn := turn_text A hAl
          rw [← hTA] at hcp s0 hturn
          have HTA : Hid (TA = tx A) := hTA
          clear hTA
          go_wp2_with fail
          go_loopw [8, 58] (fun x q wq => ∃ k : Nat, k ≤ c ∧ q = .int .i64 k ∧ x = .int .u8 (rc k) ∧ ∃ d, wq = wo.drewN d) (fun _ q _ => c - (intOf q).toNat)
          case atStart => exact ⟨0, by omega, rfl, rfl, 0, rfl⟩
          case round =>
            obtain ⟨k, hkc, rfl, rfl, d, rfl⟩ := hrel
            by_cases hkl : k < c
            · have d2 : decide ((k : Int) < (c : Int)) = true := by simp; omega
              have f1 : ∀ W, Calls Try.prog 56 #[.int .u8 (rc k), .int .u8 2] W fun e w' => e = .returned (.int .u8 (gm (rc k) 2)) ∧ ∃ n, w' = W.drewN n := mul_any (rc k) 2 (rc_lt k) (by decide)
              have HR : Hid (gm (rc k) 2 = rc (k + 1)) := rfl
              generalize gm (rc k) 2 = x' at *
              generalize rc k = x at *
              go_wp2_with (go_at_call 56; refine (f1 _).mono ?_; rintro e w3 ⟨rfl, n3, rfl⟩)
              go_roundw
              case rel => exact ⟨k + 1, by omega, by go_num, by rw [HR.out], d + n3, rfl⟩
              case measure => simp [intOf]; omega
            · obtain rfl : k = c := by omega
              have d2 : decide ((k : Int) < (k : Int)) = false := by simp
              obtain ⟨wq, hwq⟩ : ∃ x, x = wo.drewN d := ⟨_, rfl⟩
              have hB4 : Blk wq ab 56 [sv, .slice (some ⟨wg, 0, none⟩) I wc] := by rw [hwq]; exact hB
              have hown4 : wq.ownsRow (ab + 1) 9 1 (.slice (some ⟨wg, 0, none⟩) I wc) I (wcells E I) := by rw [hwq]; exact hown
              have hT4 : Tab wq sg gsub := by rw [hwq]; exact hT
              have hZ4 : Blk wq w.heap.size 56 [.slice none 0 0, .slice none 0 0] := by rw [hwq]; exact hZ
              have hX4 : Below w.heap.size w wq := by rw [hwq]; exact drew_any hnx d
              rw [← hwq]
              clear hwq hB hown hT hZ hnx
              have hl4 := hB4.lt
              have hD : (subN 4 (turn A)).length = 4 := mk_length _ _
              have g1 := fun (y : Up wq) => rsub_any sg 256 (.slice (some ⟨wg, 0, none⟩) I wc) (tx (turn A)) 4 (by rw [tx_size]; rfl) (by decide) y.1 (hT4.below y.2 hT4.1)
              rw [nb_tx _ (turn_ok A hAo), ← HSV.out] at g1
              have g2 := fun (y : Up wq) => chr8 (rc k) (rc_lt k) y.1
              have g3 := fun (y : Up wq) => zeros_3 y.1
              have hDo := subN_ok 4 (turn A)
              have z4 : (tx ([rc k] ++ [0, 0, 0])).size = 4 := tx_size _
              have g4 := fun (y : Up wq) => xor_any (tx (subN 4 (turn A))) (tx ([rc k] ++ [0, 0, 0])) 4 (by rw [tx_size, hD]) (Nat.le_of_eq z4.symm) (by decide) y.1
              rw [nb_tx _ hDo, nb_tx _ (Ok.append (fun x hx => by rw [List.mem_singleton.1 hx]; exact rc_lt k) (fun x hx => by have : x = 0 := (by simpa using hx); omega)), last_0 _ hD] at g4
              have hcat : tx [rc k] ++ tx [0, 0, 0] = tx ([rc k] ++ [0, 0, 0]) := tx_append _ _
              have hLn : (lastW 8 I E).length = 4 := lastW_length _ _ _
              have hLo := lastW_ok 8 I E hEo
              rw [← HL.out] at g4
              have z1 : (tx [rc k]).size = 1 := tx_size _
              have z2 : (tx [0, 0, 0]).size = 3 := tx_size _
              have z5 : (tx (turn A)).size = 4 := tx_size _
              have z6 : (TA.extract 1 4).size = 3 := by rw [ByteArray.size_extract]; omega
              have z7 : (TA.extract 0 1).size = 1 := by rw [ByteArray.size_extract]; omega
              obtain ⟨L, HL2⟩ : ∃ L, Hid (lastW 8 I E = L) := ⟨_, rfl⟩
              rw [HL2.out] at g4 hLn hLo
              clear HL
              have HL : Hid (lastW 8 I E = L) := HL2
              clear HL2
              generalize tx (subN 4 (turn A)) = TD at *
              generalize tx ([rc k] ++ [0, 0, 0]) = TC at *
              generalize tx [rc k] = T1 at *
              generalize tx [0, 0, 0] = T0 at *
              generalize tx (turn A) = TT at *
              obtain ⟨X1, hX1⟩ : ∃ X, TA.extract 1 4 = X := ⟨_, rfl⟩
              obtain ⟨X0, hX0⟩ : ∃ X, TA.extract 0 1 = X := ⟨_, rfl⟩
              rw [hX1] at hturn z6
              rw [hX0] at hturn z7
              have hrl := rc_lt k
              generalize rc k = x at *
              have q1 : ∀ y : Up wq, y.1.rangeAt ab 0 [sv, .slice (some ⟨wg, 0, none⟩) I wc] := fun y => (hB4.below y.2 hl4).range 0 _ rfl
              have F1 : Hid (∀ y : Up wq, Calls Try.prog 57 #[.agg #[sv, .slice (some ⟨wg, 0, none⟩) I wc], .string TT] y.1 fun e w' => e = .returned (.string TD) ∧ Below y.1.heap.size y.1 w') := g1
              have F2 : Hid (∀ y : Up wq, Calls Try.prog 45 #[.int .i64 (x : Int)] y.1 fun e w' => e = .returned (.string T1) ∧ Below y.1.heap.size y.1 w') := g2
              have F3 : Hid (∀ y : Up wq, Calls Try.prog 39 #[.int .i64 3] y.1 fun e w' => e = .returned (.string T0) ∧ Below y.1.heap.size y.1 w') := g3
              have F4 : Hid (∀ y : Up wq, Calls Try.prog 36 #[.string TD, .string TC] y.1 fun e w' => e = .returned (.string (tx L)) ∧ Below y.1.heap.size y.1 w') := g4
              clear g1 g2 g3 g4
              have hne := Up.some wq
              go_wp2_with fail
              refine wp_region_up (by kernel_rfl) (by kernel_rfl) ?_
              repeat (first
                | (refine wpQuiet_load rfl 56 (.tmp 4) rfl ab 0 rfl [sv, .slice (some ⟨wg, 0, none⟩) I wc] _ q1 Try.underlying56 rfl infoAES ?_; simp only [Act.put, List.setIfInBounds_toArray, List.set_cons_succ, List.set_cons_zero])
                | (go_big_quiet_step (first | (with_reducible exact calls_up (F1.out _)) | (with_reducible exact calls_up (F2.out _)) | (with_reducible exact calls_up (F3.out _)) | (with_reducible exact calls_up (F4.out _)))))
              refine wpQuiet_nil ?_
              rintro w5' ⟨y5, rfl⟩
              have hB5 := hB4.below y5.2 hl4
              have hown5 := own_below hown4 y5.2 (fun b hb => (hown4.lt b hb).2)
              have hT5 := hT4.below y5.2 hT4.1
              have hZ5 := hZ4.below y5.2 hZ4.lt
              have hX5 := hX4.trans (y5.2.mono hX4.size)
              clear hB4 hown4 hT4 hZ4 hX4 q1 F1 F2 F3 F4 hne hX1 hX0 hturn hcat z1 z2 z4 z5 z6 z7 hl4 hD hDo hcp s0 HTA hrl
              generalize y5.1 = w5 at *
              go_wp2_with fail
              obtain ⟨r, hr⟩ : ∃ r, r = I - 8 := ⟨_, rfl⟩
              have hNE := kE_word key 8 hk (by decide) r (by omega)
              rw [show 8 + r = I from by omega, ← HE.out, HL.out] at hNE
              have eI : (I : Int) - 8 = (r : Int) := by omega
              have hrI : r < I := by omega
              have fx := fun W => xor_any (tx (word E r)) (tx L) 4 (by rw [tx_size, word_length]) (by rw [tx_size, hLn]; exact Nat.le_refl _) (by decide) W
              rw [nb_tx _ (word_ok E r hEo), nb_tx _ hLo, ← hNE] at fx
              have s1 : (tx (word E r)).size = 4 := by rw [tx_size, word_length]
              have s2 : (tx L).size = 4 := by rw [tx_size, hLn]
              have hcr : w5.cell? ⟨wg, r, none⟩ = some (.string (tx (word E r))) := by rw [hown5.cellAt r (by omega)]; exact wcells_get E I r hrI
              obtain ⟨T, hT0⟩ : ∃ T, T = tx (word E I) := ⟨_, rfl⟩
              rw [← hT0] at fx
              have HTW : Hid ((Value.string (tx (word E I))) = .string T) := by rw [hT0]; rfl
              clear hT0 hNE
              have hk5 := hB5.cell 1 _ rfl
              have hf5 := hB5.frozen 1
              generalize tx (word E r) = A' at *
              generalize tx L = B' at *
              have r0 : (0 : Int) ≤ (r : Int) := by omega
              have rz : (r : Int) < (I : Int) := by omega
              have HRr : Hid (r = I - 8) := hr
              clear hr
              have ab5 := hB5.lt
              have sb5 := hT5.1
              have zb5 := hZ5.lt
              have xs5 := hX5.size
              have hlo := hown5.lt
              obtain ⟨wv, hwv⟩ : ∃ wv : Value, wv = .slice (some ⟨wg, 0, none⟩) I wc := ⟨_, rfl⟩
              have wrI : IntKind.i64.wrap (r : Int) = (r : Int) := by simp [IntKind.wrap, IntKind.bits, IntKind.signed]; omega
              have HB5 : Hid (Blk w5 ab 56 [sv, .slice (some ⟨wg, 0, none⟩) I wc]) := hB5
              have HW5 : Hid (w5.ownsRow (ab + 1) 9 1 (.slice (some ⟨wg, 0, none⟩) I wc) I (wcells E I)) := hown5
              clear hB5 hown5
              go_region_law (first
                | (refine step_call (by rfl) (g := 36) (args := #[.string A', .string B']) (by simp [go_sem]) ?_; refine (fx _).mono ?_; rintro e w6 ⟨rfl, hb6'⟩; refine ⟨_, rfl, ?_⟩; have hb6 : Below w5.heap.size w5 w6 := ⟨hb6'.os, hb6'.tape, hb6'.output, hb6'.size, hb6'.block⟩; have HB6 : Hid (Blk w6 ab 56 [sv, .slice (some ⟨wg, 0, none⟩) I wc]) := HB5.out.below hb6 ab5; have hk6 := HB6.out.cell 1 _ rfl; have hka := fun o => (HB6.out.alloc o).cell 1 _ rfl; have hs6 := hb6.size; have HW6 : Hid (w6.ownsRow (ab + 1) 9 1 (.slice (some ⟨wg, 0, none⟩) I wc) I (wcells E I)) := own_below HW5.out hb6 (fun b hb => (hlo b hb).2))
                | (refine step_append_lies _ (by rfl) _ _ _ (by rfl) (ab + 1) 9 i0 _ 1 16 Try.underlying54 hi hz0 hz1 hz2 rfl (by omega) _ I _ (by rfl) (HW6.out.alloc _) ⟨w6.heap.size, 0, none⟩ 1 1 [.string T] (by rfl) (by rfl) (World.news_of_block (cs := #[.string T]) (t := 9) (fr := (0, 0)) (heap_alloc_new w6 _)) (by simp [Value.oneCell']) (by omega) (by unfold maxLen; omega) (by omega) (by simp; omega) (w6.heap.size + 1) (by simp) ?_; intro gg cap1 w8 hown8 hgr8 hat8 hlt8; have HB8 : Hid (Blk w8 ab 56 [sv, .slice (some ⟨wg, 0, none⟩) I wc]) := (hgr8.block ab (by simp; omega) (by intro h; have := hlo _ h.symm; omega)).trans (HB6.out.alloc (.cells #[.string T] 9)); have hk8 := HB8.out.cell 1 _ rfl; have hf8 := HB8.out.frozen 1))
              all_goals
                have hT6 := hT5.below hb6 sb5
                have hZ6 := hZ5.below hb6 zb5
                have hX6 := hX5.trans (hb6.mono xs5)
                have hge8 := (hown8.lt gg rfl).1
                have hB9 : Blk (w8.setCell ⟨ab, 1, none⟩ (.slice (some ⟨gg, 0, none⟩) (I + 1) cap1)) ab 56 [sv, .slice (some ⟨gg, 0, none⟩) (I + 1) cap1] := HB8.out.set 1 _
                have HB9 : Hid _ := hB9
                have hown9 : (w8.setCell ⟨ab, 1, none⟩ (.slice (some ⟨gg, 0, none⟩) (I + 1) cap1)).ownsRow (ab + 1) 9 1 (.slice (some ⟨gg, 0, none⟩) (I + 1) cap1) (I + 1) (wcells E (I + 1)) := by
                  rw [wcells_succ, HTW.out]
                  exact own_other hown8 (Nat.lt_succ_self _) _
                have hX9 : Below w.heap.size w (w8.setCell ⟨ab, 1, none⟩ (.slice (some ⟨gg, 0, none⟩) (I + 1) cap1)) :=
                  (((hX6.alloc (by omega) _)).grown hgr8 (by simp; omega) (fun b hb => by have := (hlo b hb).1; omega)).setCell (by show w.heap.size ≤ ab; omega) _
                have hT9 : Tab (w8.setCell ⟨ab, 1, none⟩ (.slice (some ⟨gg, 0, none⟩) (I + 1) cap1)) sg gsub := ⟨by simp; have := hgr8.size; simp at this; omega, fun x hx => by
                  rw [World.cell?_setCell_other _ _ _ _ (by intro h2; injection h2; omega), World.cell?_of_block (hgr8.block sg (by simp; omega) (by intro h; have := hlo _ h.symm; omega))]
                  exact (Tab.below hT6 ((Below.refl _ _).alloc (Nat.le_refl _) (.cells #[.string T] 9)) hT6.1).2 x hx⟩
                have hZ9 : Blk (w8.setCell ⟨ab, 1, none⟩ (.slice (some ⟨gg, 0, none⟩) (I + 1) cap1)) w.heap.size 56 [.slice none 0 0, .slice none 0 0] := Blk.other (show Blk w8 w.heap.size 56 [.slice none 0 0, .slice none 0 0] from (hgr8.block w.heap.size (by simp; omega) (by intro h; have := hlo _ h.symm; omega)).trans (hZ6.alloc (.cells #[.string T] 9))) (by show w.heap.size ≠ ab; omega) _
                clear HB8 hk8 hf8 hgr8 hat8 hown8
                generalize w8.setCell ⟨ab, 1, none⟩ (.slice (some ⟨gg, 0, none⟩) (I + 1) cap1) = w9 at *
                go_wp2_with fail
                go_roundw
                case rel => exact ⟨I + 1, _, by omega, by go_num, HB9.out, hown9, hT9, hZ9, hX9⟩
                case measure => simp [intOf]; omega
        · have tm : (I : Int).tmod 8 = ((I % 8 : Nat) : Int) := by rw [Int.tmod_eq_emod_of_nonneg (by omega)]; omega
          have tm2 : (((I % 8 : Nat) : Int) == 0) = false := by rw [beq_eq_false_iff_ne]; omega
          by_cases hz4 : I % 8 = 4
          · have tb : (((I % 8 : Nat) : Int) == 4) = true := by rw [beq_iff_eq]; omega
            have HL : Hid (lastW 8 I E = subN 4 (word E p)) := by
              show lastW 8 I E = _
              unfold lastW
              rw [if_neg hz, if_pos ⟨rfl, hz4⟩, ← HP.out]
            generalize word E p = A at *
            have g1 := rsub_any sg 256 (.slice (some ⟨wg, 0, none⟩) I wc) (tx A) 4 (by rw [tx_size, hAl]) (by decide) wo hT
            rw [nb_tx _ hAo, ← HSV.out] at g1
            have hLn : (subN 4 A).length = 4 := mk_length _ _
            have hLo := subN_ok 4 A
            generalize subN 4 A = L at *
            have hq1 := hB
            go_wp2_with (first
              | (refine wpList_load_blk rfl 56 (.tmp 4) rfl ab 0 rfl hB [sv, .slice (some ⟨wg, 0, none⟩) I wc] rfl _ Try.underlying56 rfl infoAES ?_)
              | (go_at_call 57; refine g1.mono ?_; rintro e w5 ⟨rfl, hb5⟩))
            have hB5 := hB.below hb5 hbl
            have hown5 := own_below hown hb5 (fun b hb => (hown.lt b hb).2)
            have hT5 := hT.below hb5 hT.1
            have hZ5 := hZ.below hb5 hzl
            have hX5 := hnx.trans (hb5.mono hsz)
            clear hB hown hT hZ hnx hq1 g1 hb5
            obtain ⟨r, hr⟩ : ∃ r, r = I - 8 := ⟨_, rfl⟩
            have hNE := kE_word key 8 hk (by decide) r (by omega)
            rw [show 8 + r = I from by omega, ← HE.out, HL.out] at hNE
            have eI : (I : Int) - 8 = (r : Int) := by omega
            have hrI : r < I := by omega
            have fx := fun W => xor_any (tx (word E r)) (tx L) 4 (by rw [tx_size, word_length]) (by rw [tx_size, hLn]; exact Nat.le_refl _) (by decide) W
            rw [nb_tx _ (word_ok E r hEo), nb_tx _ hLo, ← hNE] at fx
            have s1 : (tx (word E r)).size = 4 := by rw [tx_size, word_length]
            have s2 : (tx L).size = 4 := by rw [tx_size, hLn]
            have hcr : w5.cell? ⟨wg, r, none⟩ = some (.string (tx (word E r))) := by rw [hown5.cellAt r (by omega)]; exact wcells_get E I r hrI
            obtain ⟨T, hT0⟩ : ∃ T, T = tx (word E I) := ⟨_, rfl⟩
            rw [← hT0] at fx
            have HTW : Hid ((Value.string (tx (word E I))) = .string T) := by rw [hT0]; rfl
            clear hT0 hNE
            have hk5 := hB5.cell 1 _ rfl
            have hf5 := hB5.frozen 1
            generalize tx (word E r) = A' at *
            generalize tx L = B' at *
            have r0 : (0 : Int) ≤ (r : Int) := by omega
            have rz : (r : Int) < (I : Int) := by omega
            have HRr : Hid (r = I - 8) := hr
            clear hr
            have ab5 := hB5.lt
            have sb5 := hT5.1
            have zb5 := hZ5.lt
            have xs5 := hX5.size
            have hlo := hown5.lt
            obtain ⟨wv, hwv⟩ : ∃ wv : Value, wv = .slice (some ⟨wg, 0, none⟩) I wc := ⟨_, rfl⟩
            have wrI : IntKind.i64.wrap (r : Int) = (r : Int) := by simp [IntKind.wrap, IntKind.bits, IntKind.signed]; omega
            have HB5 : Hid (Blk w5 ab 56 [sv, .slice (some ⟨wg, 0, none⟩) I wc]) := hB5
            have HW5 : Hid (w5.ownsRow (ab + 1) 9 1 (.slice (some ⟨wg, 0, none⟩) I wc) I (wcells E I)) := hown5
            clear hB5 hown5
            go_region_law (first
              | (refine step_call (by rfl) (g := 36) (args := #[.string A', .string B']) (by simp [go_sem]) ?_; refine (fx _).mono ?_; rintro e w6 ⟨rfl, hb6'⟩; refine ⟨_, rfl, ?_⟩; have hb6 : Below w5.heap.size w5 w6 := ⟨hb6'.os, hb6'.tape, hb6'.output, hb6'.size, hb6'.block⟩; have HB6 : Hid (Blk w6 ab 56 [sv, .slice (some ⟨wg, 0, none⟩) I wc]) := HB5.out.below hb6 ab5; have hk6 := HB6.out.cell 1 _ rfl; have hka := fun o => (HB6.out.alloc o).cell 1 _ rfl; have hs6 := hb6.size; have HW6 : Hid (w6.ownsRow (ab + 1) 9 1 (.slice (some ⟨wg, 0, none⟩) I wc) I (wcells E I)) := own_below HW5.out hb6 (fun b hb => (hlo b hb).2))
              | (refine step_append_lies _ (by rfl) _ _ _ (by rfl) (ab + 1) 9 i0 _ 1 16 Try.underlying54 hi hz0 hz1 hz2 rfl (by omega) _ I _ (by rfl) (HW6.out.alloc _) ⟨w6.heap.size, 0, none⟩ 1 1 [.string T] (by rfl) (by rfl) (World.news_of_block (cs := #[.string T]) (t := 9) (fr := (0, 0)) (heap_alloc_new w6 _)) (by simp [Value.oneCell']) (by omega) (by unfold maxLen; omega) (by omega) (by simp; omega) (w6.heap.size + 1) (by simp) ?_; intro gg cap1 w8 hown8 hgr8 hat8 hlt8; have HB8 : Hid (Blk w8 ab 56 [sv, .slice (some ⟨wg, 0, none⟩) I wc]) := (hgr8.block ab (by simp; omega) (by intro h; have := hlo _ h.symm; omega)).trans (HB6.out.alloc (.cells #[.string T] 9)); have hk8 := HB8.out.cell 1 _ rfl; have hf8 := HB8.out.frozen 1))
            all_goals
              have hT6 := hT5.below hb6 sb5
              have hZ6 := hZ5.below hb6 zb5
              have hX6 := hX5.trans (hb6.mono xs5)
              have hge8 := (hown8.lt gg rfl).1
              have hB9 : Blk (w8.setCell ⟨ab, 1, none⟩ (.slice (some ⟨gg, 0, none⟩) (I + 1) cap1)) ab 56 [sv, .slice (some ⟨gg, 0, none⟩) (I + 1) cap1] := HB8.out.set 1 _
              have HB9 : Hid _ := hB9
              have hown9 : (w8.setCell ⟨ab, 1, none⟩ (.slice (some ⟨gg, 0, none⟩) (I + 1) cap1)).ownsRow (ab + 1) 9 1 (.slice (some ⟨gg, 0, none⟩) (I + 1) cap1) (I + 1) (wcells E (I + 1)) := by
                rw [wcells_succ, HTW.out]
                exact own_other hown8 (Nat.lt_succ_self _) _
              have hX9 : Below w.heap.size w (w8.setCell ⟨ab, 1, none⟩ (.slice (some ⟨gg, 0, none⟩) (I + 1) cap1)) :=
                (((hX6.alloc (by omega) _)).grown hgr8 (by simp; omega) (fun b hb => by have := (hlo b hb).1; omega)).setCell (by show w.heap.size ≤ ab; omega) _
              have hT9 : Tab (w8.setCell ⟨ab, 1, none⟩ (.slice (some ⟨gg, 0, none⟩) (I + 1) cap1)) sg gsub := ⟨by simp; have := hgr8.size; simp at this; omega, fun x hx => by
                rw [World.cell?_setCell_other _ _ _ _ (by intro h2; injection h2; omega), World.cell?_of_block (hgr8.block sg (by simp; omega) (by intro h; have := hlo _ h.symm; omega))]
                exact (Tab.below hT6 ((Below.refl _ _).alloc (Nat.le_refl _) (.cells #[.string T] 9)) hT6.1).2 x hx⟩
              have hZ9 : Blk (w8.setCell ⟨ab, 1, none⟩ (.slice (some ⟨gg, 0, none⟩) (I + 1) cap1)) w.heap.size 56 [.slice none 0 0, .slice none 0 0] := Blk.other (show Blk w8 w.heap.size 56 [.slice none 0 0, .slice none 0 0] from (hgr8.block w.heap.size (by simp; omega) (by intro h; have := hlo _ h.symm; omega)).trans (hZ6.alloc (.cells #[.string T] 9))) (by show w.heap.size ≠ ab; omega) _
              clear HB8 hk8 hf8 hgr8 hat8 hown8
              generalize w8.setCell ⟨ab, 1, none⟩ (.slice (some ⟨gg, 0, none⟩) (I + 1) cap1) = w9 at *
              go_wp2_with fail
              go_roundw
              case rel => exact ⟨I + 1, _, by omega, by go_num, HB9.out, hown9, hT9, hZ9, hX9⟩
              case measure => simp [intOf]; omega
          · have tb : (((I % 8 : Nat) : Int) == 4) = false := by rw [beq_eq_false_iff_ne]; omega
            have HL : Hid (lastW 8 I E = word E p) := by
              show lastW 8 I E = _
              unfold lastW
              rw [if_neg hz, if_neg (by omega), ← HP.out]
            generalize word E p = A at *
            obtain ⟨w5, hw5⟩ : ∃ x, x = wo := ⟨_, rfl⟩
            subst hw5
            obtain ⟨L, hL0⟩ : ∃ L, L = A := ⟨_, rfl⟩
            rw [← hL0] at HL hcp s0
            have hLn : L.length = 4 := by rw [hL0]; exact hAl
            have hLo : Ok L := by rw [hL0]; exact hAo
            clear hL0
            have hB5 := hB
            have hown5 := hown
            have hT5 := hT
            have hZ5 := hZ
            have hX5 := hnx
            clear hB hown hT hZ hnx
            go_wp2_with fail
            obtain ⟨r, hr⟩ : ∃ r, r = I - 8 := ⟨_, rfl⟩
            have hNE := kE_word key 8 hk (by decide) r (by omega)
            rw [show 8 + r = I from by omega, ← HE.out, HL.out] at hNE
            have eI : (I : Int) - 8 = (r : Int) := by omega
            have hrI : r < I := by omega
            have fx := fun W => xor_any (tx (word E r)) (tx L) 4 (by rw [tx_size, word_length]) (by rw [tx_size, hLn]; exact Nat.le_refl _) (by decide) W
            rw [nb_tx _ (word_ok E r hEo), nb_tx _ hLo, ← hNE] at fx
            have s1 : (tx (word E r)).size = 4 := by rw [tx_size, word_length]
            have s2 : (tx L).size = 4 := by rw [tx_size, hLn]
            have hcr : w5.cell? ⟨wg, r, none⟩ = some (.string (tx (word E r))) := by rw [hown5.cellAt r (by omega)]; exact wcells_get E I r hrI
            obtain ⟨T, hT0⟩ : ∃ T, T = tx (word E I) := ⟨_, rfl⟩
            rw [← hT0] at fx
            have HTW : Hid ((Value.string (tx (word E I))) = .string T) := by rw [hT0]; rfl
            clear hT0 hNE
            have hk5 := hB5.cell 1 _ rfl
            have hf5 := hB5.frozen 1
            generalize tx (word E r) = A' at *
            generalize tx L = B' at *
            have r0 : (0 : Int) ≤ (r : Int) := by omega
            have rz : (r : Int) < (I : Int) := by omega
            have HRr : Hid (r = I - 8) := hr
            clear hr
            have ab5 := hB5.lt
            have sb5 := hT5.1
            have zb5 := hZ5.lt
            have xs5 := hX5.size
            have hlo := hown5.lt
            obtain ⟨wv, hwv⟩ : ∃ wv : Value, wv = .slice (some ⟨wg, 0, none⟩) I wc := ⟨_, rfl⟩
            have wrI : IntKind.i64.wrap (r : Int) = (r : Int) := by simp [IntKind.wrap, IntKind.bits, IntKind.signed]; omega
            have HB5 : Hid (Blk w5 ab 56 [sv, .slice (some ⟨wg, 0, none⟩) I wc]) := hB5
            have HW5 : Hid (w5.ownsRow (ab + 1) 9 1 (.slice (some ⟨wg, 0, none⟩) I wc) I (wcells E I)) := hown5
            clear hB5 hown5
            go_region_law (first
              | (refine step_call (by rfl) (g := 36) (args := #[.string A', .string B']) (by simp [go_sem]) ?_; refine (fx _).mono ?_; rintro e w6 ⟨rfl, hb6'⟩; refine ⟨_, rfl, ?_⟩; have hb6 : Below w5.heap.size w5 w6 := ⟨hb6'.os, hb6'.tape, hb6'.output, hb6'.size, hb6'.block⟩; have HB6 : Hid (Blk w6 ab 56 [sv, .slice (some ⟨wg, 0, none⟩) I wc]) := HB5.out.below hb6 ab5; have hk6 := HB6.out.cell 1 _ rfl; have hka := fun o => (HB6.out.alloc o).cell 1 _ rfl; have hs6 := hb6.size; have HW6 : Hid (w6.ownsRow (ab + 1) 9 1 (.slice (some ⟨wg, 0, none⟩) I wc) I (wcells E I)) := own_below HW5.out hb6 (fun b hb => (hlo b hb).2))
              | (refine step_append_lies _ (by rfl) _ _ _ (by rfl) (ab + 1) 9 i0 _ 1 16 Try.underlying54 hi hz0 hz1 hz2 rfl (by omega) _ I _ (by rfl) (HW6.out.alloc _) ⟨w6.heap.size, 0, none⟩ 1 1 [.string T] (by rfl) (by rfl) (World.news_of_block (cs := #[.string T]) (t := 9) (fr := (0, 0)) (heap_alloc_new w6 _)) (by simp [Value.oneCell']) (by omega) (by unfold maxLen; omega) (by omega) (by simp; omega) (w6.heap.size + 1) (by simp) ?_; intro gg cap1 w8 hown8 hgr8 hat8 hlt8; have HB8 : Hid (Blk w8 ab 56 [sv, .slice (some ⟨wg, 0, none⟩) I wc]) := (hgr8.block ab (by simp; omega) (by intro h; have := hlo _ h.symm; omega)).trans (HB6.out.alloc (.cells #[.string T] 9)); have hk8 := HB8.out.cell 1 _ rfl; have hf8 := HB8.out.frozen 1))
            all_goals
              have hT6 := hT5.below hb6 sb5
              have hZ6 := hZ5.below hb6 zb5
              have hX6 := hX5.trans (hb6.mono xs5)
              have hge8 := (hown8.lt gg rfl).1
              have hB9 : Blk (w8.setCell ⟨ab, 1, none⟩ (.slice (some ⟨gg, 0, none⟩) (I + 1) cap1)) ab 56 [sv, .slice (some ⟨gg, 0, none⟩) (I + 1) cap1] := HB8.out.set 1 _
              have HB9 : Hid _ := hB9
              have hown9 : (w8.setCell ⟨ab, 1, none⟩ (.slice (some ⟨gg, 0, none⟩) (I + 1) cap1)).ownsRow (ab + 1) 9 1 (.slice (some ⟨gg, 0, none⟩) (I + 1) cap1) (I + 1) (wcells E (I + 1)) := by
                rw [wcells_succ, HTW.out]
                exact own_other hown8 (Nat.lt_succ_self _) _
              have hX9 : Below w.heap.size w (w8.setCell ⟨ab, 1, none⟩ (.slice (some ⟨gg, 0, none⟩) (I + 1) cap1)) :=
                (((hX6.alloc (by omega) _)).grown hgr8 (by simp; omega) (fun b hb => by have := (hlo b hb).1; omega)).setCell (by show w.heap.size ≤ ab; omega) _
              have hT9 : Tab (w8.setCell ⟨ab, 1, none⟩ (.slice (some ⟨gg, 0, none⟩) (I + 1) cap1)) sg gsub := ⟨by simp; have := hgr8.size; simp at this; omega, fun x hx => by
                rw [World.cell?_setCell_other _ _ _ _ (by intro h2; injection h2; omega), World.cell?_of_block (hgr8.block sg (by simp; omega) (by intro h; have := hlo _ h.symm; omega))]
                exact (Tab.below hT6 ((Below.refl _ _).alloc (Nat.le_refl _) (.cells #[.string T] 9)) hT6.1).2 x hx⟩
              have hZ9 : Blk (w8.setCell ⟨ab, 1, none⟩ (.slice (some ⟨gg, 0, none⟩) (I + 1) cap1)) w.heap.size 56 [.slice none 0 0, .slice none 0 0] := Blk.other (show Blk w8 w.heap.size 56 [.slice none 0 0, .slice none 0 0] from (hgr8.block w.heap.size (by simp; omega) (by intro h; have := hlo _ h.symm; omega)).trans (hZ6.alloc (.cells #[.string T] 9))) (by show w.heap.size ≠ ab; omega) _
              clear HB8 hk8 hf8 hgr8 hat8 hown8
              generalize w8.setCell ⟨ab, 1, none⟩ (.slice (some ⟨gg, 0, none⟩) (I + 1) cap1) = w9 at *
              go_wp2_with fail
              go_roundw
              case rel => exact ⟨I + 1, _, by omega, by go_num, HB9.out, hown9, hT9, hZ9, hX9⟩
              case measure => simp [intOf]; omega
    · obtain rfl : I = 60 := by omega
      have d0 : decide (((60 : Nat) : Int) < 60) = false := by decide
      obtain ⟨wg, wc, rfl, hwc, hwb, hwl, hcells⟩ := own_cell hown (by decide)
      have HWo : Hid (Words wr wg 60 E) := ⟨hwl, fun j hj => hcells j _ (wcells_get E 60 j hj)⟩
      have HTb : Hid (Tab wr sg gsub) := hT
      clear hcells hown hfirst hT
      go_wp2_with (first
        | (refine wpList_load_blk rfl 56 (.tmp 4) rfl ab 0 rfl hB [sv, .slice (some ⟨wg, 0, none⟩) 60 wc] rfl _ Try.underlying56 rfl infoAES ?_)
        | (refine wpList_store_blk rfl 56 (.tmp 2) (.tmp 101) rfl w.heap.size [sv, .slice (some ⟨wg, 0, none⟩) 60 wc] rfl rfl [.slice none 0 0, .slice none 0 0] hZ rfl (by simp [HSV.out, Value.oneCell']) infoAES ?_; intro W hW))
      refine bodyPost_ret (results_blk_tmp Try.results31 _ rfl rfl hW.blk _ Try.underlying56 rfl infoAES) rfl ?_
      have hWo : Words W wg 60 E := ⟨by rw [hW.size]; exact HWo.out.1, fun j hj => by rw [World.cell?_of_block (hW.block wg (by omega))]; exact HWo.out.2 j hj⟩
      have hTb : Tab W sg gsub := ⟨by rw [hW.size]; exact HTb.out.1, fun x hx => by rw [World.cell?_of_block (hW.block sg (by omega))]; exact HTb.out.2 x hx⟩
      rw [HE.out] at hWo
      exact ⟨sg, wg, wc, by rw [HSV.out]; rfl, hwc, hTb, hWo, hW.below _ _ (Nat.le_refl _) hnx⟩
end Go.Proofs.Ytibdlccaenanmaa.aes
