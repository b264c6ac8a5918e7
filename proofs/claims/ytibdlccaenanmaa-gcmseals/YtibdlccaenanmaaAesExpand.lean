/-
  THE WALK OF package aes's expanded.
-/
import Derived.Test.YtibdlccaenanmaaAesWord
namespace Go.Proofs.Ytibdlccaenanmaa.aes
open Go.RowKit
open Go.Proofs.Ytibdlccaenanmaa.gal

/-- A row of bytes, from lo on. -/
theorem sl_from (g o n cap lo : Nat) (hn : lo < cap) (h : lo ≤ n) (w : World) : (Instr.sliceAt 41 (.slice (some ⟨g, o, none⟩) n cap) (some (.int .i64 (lo : Int))) none none).run Try.prog w = .ok (.slice (some ⟨g, o + lo, none⟩) (n - lo) (cap - lo)) w := by
  obtain ⟨j0, hj, _, hj1, _⟩ := info_parts infoU8
  have hne : ¬ cap = lo := by omega
  simp [Instr.sliceAt, Instr.slice, run_underlying Try.underlying41, Instr.sliceBounds, Instr.sliceBound, asIntOf, sizeOf, typeInfo, hj, hj1, h, hne, Addr.add_mid]
theorem at_arr (arr e : TypeId) (n : Nat) (a : Option Addr) (len cap : Nat) (h : Try.prog.underlying arr = some (.array n e)) (hn : n ≤ len) (w : World) : (Instr.arrayAt arr (.slice a len cap)).run Try.prog w = .ok (.pointer a) w := by
  have hlt : ¬ len < n := by omega
  simp [Instr.arrayAt, run_underlying h, hlt]
theorem bytes_row (k : ByteArray) (w : World) : ∃ (W : World) (cp : Nat), (convert 9 41 (.string k)).run Try.prog w = .ok (.slice (some ⟨w.heap.size, 0, none⟩) k.size cp) W ∧ Row W w.heap.size 1 w.heap.size k.size cp (by8 (nb k)) ∧ Below w.heap.size w W := by
  refine ⟨_, _, run_bytes_of_string (P := Try.prog) w 9 41 5 k Try.underlying9 Try.underlying41 Try.underlying5, ?_, ((Below.refl _ _).drew).alloc (Nat.le_refl _) _⟩
  rw [by8_nb]
  exact Row.bytes w.drew 5 _ k w.heap.size (Nat.le_refl _) (grownCap_ge w k.size 0 5)
theorem getD_append_left (E X : List Nat) (r : Nat) (h : r < E.length) : (E ++ X).getD r 0 = E.getD r 0 := by
  rw [List.getD_eq_getElem?_getD, List.getElem?_append_left h, ← List.getD_eq_getElem?_getD]
theorem take_more (X : List Nat) (j : Nat) (h : j < X.length) : X.take (j + 1) = X.take j ++ [X.getD j 0] := by
  rw [List.take_succ_eq_append_getElem h, List.getD_eq_getElem?_getD, List.getElem?_eq_getElem h]
  rfl
theorem more_bytes (E X : List Nat) (j y : Nat) (h : j < X.length) (hy : X.getD j 0 = y) : by8 (E ++ X.take j) ++ [.int .u8 (y : Int)] = by8 (E ++ X.take (j + 1)) := by
  rw [take_more X j h, ← List.append_assoc, by8_append (E ++ X.take j), hy]
  rfl

set_option maxRecDepth 100000 in
set_option maxHeartbeats 3200000 in
theorem expanded_4 (key : ByteArray) (hk : key.size = 16) (w : World) :
    Calls Try.prog 67 #[.string key] w fun e w' => ∃ g cap, e = .returned (.slice (some ⟨g, 0, none⟩) 176 cap) ∧ Row w' w.heap.size 1 g 176 cap (by8 (expand 4 (nb key))) ∧ Below w.heap.size w w' := by
  obtain ⟨i0, hi, hz0, hz1, hz2⟩ := info_parts infoU8
  obtain ⟨W, cp, hcv, hR, hX⟩ := bytes_row key w
  rw [hk] at hcv hR
  have hq : (key.size : Int) = 16 := by omega
  have ok := nb_lt key
  have hnl : (nb key).length = 4 * 4 := by rw [nb_length, hk]
  go_enter Try.func67, Try.ntmps67
  go_wp2_with fail
  go_loopw [4, 5, 6] (fun v p i wr => ∃ (m g cap : Nat), m ≤ 40 ∧ i = .int .i64 ((4 + m : Nat) : Int) ∧ p = .int .u8 (rc ((4 + m - 1) / 4)) ∧ v = .slice (some ⟨g, 0, none⟩) (4 * (4 + m)) cap ∧ Row wr w.heap.size 1 g (4 * (4 + m)) cap (by8 (expd 4 (nb key) m)) ∧ Below w.heap.size w wr) (fun _ _ i _ => 44 - (intOf i).toNat)
  case atStart => exact ⟨0, _, _, by omega, rfl, rfl, rfl, hR, hX⟩
  case round =>
    clear hR hX
    obtain ⟨m, g, cap, hm, rfl, rfl, rfl, hR, hnx⟩ := hrel
    have hEl := expd_length 4 (nb key) hnl m
    have hEo := expd_ok 4 (nb key) ok m
    by_cases hlt : m < 40
    · have HN : Hid (expd 4 (nb key) (m + 1) = expd 4 (nb key) m ++ xorN 4 (word (expd 4 (nb key) m) m) (lastW 4 (4 + m) (expd 4 (nb key) m))) := rfl
      generalize expd 4 (nb key) m = E at *
      obtain ⟨I, hI⟩ : ∃ I, I = 4 + m := ⟨_, rfl⟩
      rw [← hI] at hR hEl HN ⊢
      obtain ⟨q, hq4⟩ : ∃ q, q = 4 * (I - 1) := ⟨_, rfl⟩
      have e1 : 4 * ((I : Int) - 1) = (q : Int) := by omega
      have hle := hR.le
      have hsl := sl_from g 0 (4 * I) cap q (by omega) (by omega)
      rw [Nat.zero_add] at hsl
      have hat : ∀ w, (Instr.arrayAt 110 (.slice (some ⟨g, q, none⟩) (4 * I - q) (cap - q))).run Try.prog w = .ok (.pointer (some ⟨g, q, none⟩)) w := at_arr 110 5 4 _ _ _ Try.underlying110 (by omega)
      have hwl : word E (I - 1) = (E.drop q).take 4 := by
        refine ext_get (by rw [word_length, List.length_take, List.length_drop]; omega) fun k hk => ?_
        rw [word_length] at hk
        rw [word, mk_get _ _ _ hk, List.getD_eq_getElem?_getD, List.getD_eq_getElem?_getD, List.getElem?_take, if_pos hk, List.getElem?_drop, hq4]
      have hwn := word_length E (I - 1)
      have hwo := word_ok E (I - 1) hEo
      have hpt := hR.part q (by8 (word E (I - 1))) (by rw [by8_length, hwn, hwl, by8_take, by8_drop])
      clear hwl
      have d0 : decide ((I : Int) < 44) = true := by simp; omega
      have hsz := hnx.size
      have hgl := hR.lt
      have HI : Hid (I = 4 + m) := hI
      have i0' : 4 ≤ I := by omega
      have i1 : I < 44 := by omega
      have HQ : Hid (q = 4 * (I - 1)) := hq4
      clear hI hq4
      have hZ := Blk.new wr 110 (by8 zero4) _ rfl
      by_cases hz : I % 4 = 0
      · have t1 : (I : Int).tmod 4 = 0 := by rw [Int.tmod_eq_emod_of_nonneg (by omega)]; omega
        have HL : Hid (lastW 4 I E = (subN 4 (turn (word E (I - 1)))).set 0 ((subN 4 (turn (word E (I - 1)))).getD 0 0 ^^^ rc ((I - 1) / 4))) := by
          show lastW 4 I E = _
          unfold lastW
          rw [if_pos hz]
        generalize word E (I - 1) = A at *
        have f1 := turned_list A hwn
        have f2 := subbed_any (turn A) rfl (turn_ok A hwo)
        have hDn : (subN 4 (turn A)).length = 4 := mk_length _ _
        have hDo := subN_ok 4 (turn A)
        have f3 : ∀ w, Calls Try.prog 82 #[.int .u8 (rc ((I - 1) / 4)), .int .u8 2] w fun e w' => e = .returned (.int .u8 (gm (rc ((I - 1) / 4)) 2)) ∧ w' = w := mul_good (rc ((I - 1) / 4)) 2 (rc_lt _) (by decide)
        have hx8 := xor8 _ _ (hDo.get 0) (rc_lt ((I - 1) / 4))
        have hxl := xor_lt (hDo.get 0) (rc_lt ((I - 1) / 4))
        have HP : Hid (gm (rc ((I - 1) / 4)) 2 = rc ((I + 1 - 1) / 4)) := by
          show gm (rc ((I - 1) / 4)) 2 = _
          rw [show (I + 1 - 1) / 4 = (I - 1) / 4 + 1 from by omega]
          rfl
        generalize subN 4 (turn A) = D at *
        generalize turn A = TA at *
        generalize gm (rc ((I - 1) / 4)) 2 = p' at *
        generalize rc ((I - 1) / 4) = p at *
        have hc0 : ∀ (W : World), Blk W wr.heap.size 110 (by8 D) → W.cell? ⟨wr.heap.size, 0, none⟩ = some (.int .u8 ((D.getD 0 0 : Nat) : Int)) := fun W h => h.cell 0 _ (by8_get _ 0 (by omega))
        generalize D.getD 0 0 = d0' at *
        generalize d0' ^^^ p = x0 at *
        have hLn : (D.set 0 x0).length = 4 := by rw [List.length_set]; exact hDn
        have hLo := set_ok D 0 x0 hDo hxl
        go_wp2_with (first
          | (refine wpList_load_mid rfl 110 (.tmp 28) rfl g q rfl (by8 A) _ hpt Try.underlying110 rfl (by rw [by8_length, hwn]; exact infoWD) ?_)
          | (refine wpList_store_blk rfl 110 (.tmp 7) (.tmp 29) rfl wr.heap.size (by8 A) rfl rfl (by8 zero4) hZ (by rw [by8_length, hwn]; rfl) (by8_one _) infoWD ?_; intro W1 hW1)
          | (refine wpList_load_blk rfl 110 (.tmp 7) rfl wr.heap.size 0 rfl hW1.blk (by8 A) (by simp) _ Try.underlying110 rfl (by rw [by8_length, hwn]; exact infoWD) ?_)
          | (go_at_call 84; refine (f1 _).mono ?_; rintro e w2 ⟨rfl, hb2⟩)
          | (go_at_call 83; refine (f2 _).mono ?_; rintro e w3 ⟨rfl, hb3⟩)
          | (go_at_call 82; refine (f3 _).mono ?_; rintro e w4 ⟨rfl, rfl⟩)
          | (refine wpList_store_blk rfl 110 (.tmp 7) (.tmp 36) rfl wr.heap.size (by8 D) rfl rfl (by8 A) ((hW1.blk.below hb2 hW1.blk.lt).below hb3 (Nat.lt_of_lt_of_le hW1.blk.lt hb2.size)) (by rw [by8_length, by8_length, hwn, hDn]) (by8_one _) (by rw [by8_length, hwn]; exact infoWD) ?_; intro W4 hW4; have hcc := hc0 _ hW4.blk; have hff := hW4.blk.frozen 0; have hB5 := hW4.blk.set 0 (.int .u8 (x0 : Int)); rw [by8_set] at hB5)
          | (refine wpList_load_blk rfl 110 (.tmp 7) rfl wr.heap.size 0 rfl hB5 (by8 (D.set 0 x0)) (by simp) _ Try.underlying110 rfl (by rw [by8_length, hLn]; exact infoWD) ?_))
        have hs1 := hW1.size
        rw [World.size_alloc] at hs1
        have hR' : Row (W4.setCell ⟨wr.heap.size, 0, none⟩ (.int .u8 (x0 : Int))) w.heap.size 1 g (4 * I) cap (by8 E) := by
          have h1 := hR.alloc (.cells (by8 zero4).toArray 110)
          have h2 := h1.keep (w' := W1) (by rw [hW1.size]; exact Nat.le_refl _) (hW1.block g (by omega))
          have h3 := (h2.below hb2 h2.lt).below hb3 (Nat.lt_of_lt_of_le h2.lt hb2.size)
          have h4 := h3.keep (w' := W4) (by rw [hW4.size]; exact Nat.le_refl _) (hW4.block g (by omega))
          exact h4.other (by simp; omega) _
        have hX' : Below w.heap.size w (W4.setCell ⟨wr.heap.size, 0, none⟩ (.int .u8 (x0 : Int))) := by
          have h1 := hW1.below w.heap.size w hsz (hnx.alloc hsz _)
          have h3 := (h1.trans (hb2.mono h1.size)).trans (hb3.mono (Nat.le_trans h1.size hb2.size))
          exact (hW4.below _ _ hsz h3).setCell (by simpa using hsz) _
        clear hcc hff hB5 hc0 hW4 hb2 hb3 hW1 hs1 f1 f2 f3 hx8 hZ
        generalize D.set 0 x0 = L at *
        generalize W4.setCell ⟨wr.heap.size, 0, none⟩ (.int .u8 (x0 : Int)) = W5 at *
        go_loopw [54, 4] (fun jv v wq => ∃ (j g' cap' : Nat), j ≤ 4 ∧ jv = .int .i64 j ∧ v = .slice (some ⟨g', 0, none⟩) (4 * I + j) cap' ∧ Row wq w.heap.size 1 g' (4 * I + j) cap' (by8 (E ++ (xorN 4 (word E (I - 4)) L).take j)) ∧ Below w.heap.size w wq) (fun jv _ _ => 4 - (intOf jv).toNat)
        case atStart => exact ⟨0, g, cap, by omega, rfl, rfl, by rw [List.take_zero, List.append_nil]; exact hR', hX'⟩
        case round =>
          clear hR hR' hX' hpt hsl hat
          obtain ⟨j, g', cap', hj, rfl, rfl, hR', hX'⟩ := hrel
          have hgl' := hR'.lt
          have hsz' := hX'.size
          by_cases hjl : j < 4
          · have hix := idx4 L hLn j hjl
            obtain ⟨r, hr⟩ : ∃ r, r = 4 * (I - 4) + j := ⟨_, rfl⟩
            have e2 : 4 * ((I : Int) - 4) + (j : Int) = (r : Int) := by omega
            have r1 : (r : Int) < 4 * (I : Int) + (j : Int) := by omega
            have r0 : (0 : Int) ≤ (r : Int) := by omega
            have hc := hR'.get r _ (by8_get _ r (by rw [List.length_append, hEl]; omega))
            rw [getD_append_left _ _ _ (by omega)] at hc
            have hx := xor8 _ _ (hEo.get r) (hLo.get j)
            have HX : Hid ((xorN 4 (word E (I - 4)) L).getD j 0 = E.getD r 0 ^^^ L.getD j 0) := by
              show _ = _
              rw [xorN, mk_get _ _ _ hjl, word, mk_get _ _ _ hjl, ← hr]
            have hXl : (xorN 4 (word E (I - 4)) L).length = 4 := mk_length _ _
            generalize xorN 4 (word E (I - 4)) L = X at *
            generalize E.getD r 0 ^^^ L.getD j 0 = y at *
            generalize E.getD r 0 = ex at *
            generalize L.getD j 0 = lx at *
            have HR : Hid (r = 4 * (I - 4) + j) := hr
            have jz : (j : Int) < 4 := by omega
            have j0 : (0 : Int) ≤ (j : Int) := by omega
            clear hr
            go_wp2_with (at_builtin; refine wpList_append_row rfl _ _ 41 rfl (hR'.alloc _) 5 i0 _ 1 Try.underlying41 hi hz0 hz1 hz2 rfl (by omega) ⟨wr.heap.size, 0, none⟩ 1 1 [.int .u8 (y : Int)] rfl rfl rfl (World.news_of_block (cs := #[.int .u8 (y : Int)]) (t := 5) (fr := (0, 0)) (heap_alloc_new wr _)) (by simp [Value.oneCell']) (by unfold maxLen; omega) (by omega) (by omega) (by simp; omega) ?_; intro g2 cap2 w2 hR2 hgr2 hat2)
            go_roundw
            case rel => exact ⟨j + 1, g2, cap2, by omega, by go_num, rfl, by rw [← more_bytes E X j y (by omega) HX.out]; exact hR2, (hX'.alloc hsz' _).grown hgr2 (by simp; omega) (fun k hk => by cases hk; exact hR'.ge)⟩
            case measure => simp [intOf]; omega
          · obtain rfl : j = 4 := by omega
            rw [List.take_of_length_le (by rw [xorN, mk_length]; omega), show 4 * I + 4 = 4 * (I + 1) from by omega] at hR'
            rw [show 4 * I + 4 = 4 * (I + 1) from by omega, show ((4 : Nat) : Int) = 4 from rfl]
            have HE : Hid (E ++ xorN 4 (word E (I - 4)) L = expd 4 (nb key) (m + 1)) := by
              show _ = _
              rw [HN.out, ← HL.out, show m = I - 4 from by have := HI.out; omega]
            rw [HE.out] at hR'
            go_wp2_with fail
            go_roundw
            case rel =>
              have hI2 : I + 1 = 4 + (m + 1) := by have := HI.out; omega
              exact ⟨m + 1, g', cap', by omega, by rw [← hI2]; go_num, by rw [← hI2, HP.out], by rw [← hI2], by rw [← hI2]; exact hR', hX'⟩
            case measure => simp [intOf]; omega
      · have t1 : (I : Int).tmod 4 = ((I % 4 : Nat) : Int) := by rw [Int.tmod_eq_emod_of_nonneg (by omega)]; omega
        have t2 : (((I % 4 : Nat) : Int) == 0) = false := by rw [beq_eq_false_iff_ne]; omega
        have HP : Hid (rc ((I - 1) / 4) = rc ((I + 1 - 1) / 4)) := by
          show _ = _
          congr 1
          omega
        generalize rc ((I - 1) / 4) = p' at *
        have HL : Hid (lastW 4 I E = word E (I - 1)) := by
          show lastW 4 I E = _
          unfold lastW
          rw [if_neg hz, if_neg (by omega)]
        generalize word E (I - 1) = A at *
        have t3 : ((4 : Int) == 8) = false := by decide
        go_wp2_with (first
          | (refine wpList_load_mid rfl 110 (.tmp 28) rfl g q rfl (by8 A) _ hpt Try.underlying110 rfl (by rw [by8_length, hwn]; exact infoWD) ?_)
          | (refine wpList_store_blk rfl 110 (.tmp 7) (.tmp 29) rfl wr.heap.size (by8 A) rfl rfl (by8 zero4) hZ (by rw [by8_length, hwn]; rfl) (by8_one _) infoWD ?_; intro W1 hW1)
          | (refine wpList_load_blk rfl 110 (.tmp 7) rfl wr.heap.size 0 rfl hW1.blk (by8 A) (by simp) _ Try.underlying110 rfl (by rw [by8_length, hwn]; exact infoWD) ?_))
        have hs1 := hW1.size
        rw [World.size_alloc] at hs1
        have hR' : Row W1 w.heap.size 1 g (4 * I) cap (by8 E) := (hR.alloc (.cells (by8 zero4).toArray 110)).keep (w' := W1) (by rw [hW1.size]; exact Nat.le_refl _) (hW1.block g (by omega))
        have hX' := hW1.below w.heap.size w hsz (hnx.alloc hsz _)
        have hLn := hwn
        have hLo := hwo
        clear hwn hwo hW1 hs1 hZ
        rename List Nat => L
        go_loopw [54, 4] (fun jv v wq => ∃ (j g' cap' : Nat), j ≤ 4 ∧ jv = .int .i64 j ∧ v = .slice (some ⟨g', 0, none⟩) (4 * I + j) cap' ∧ Row wq w.heap.size 1 g' (4 * I + j) cap' (by8 (E ++ (xorN 4 (word E (I - 4)) L).take j)) ∧ Below w.heap.size w wq) (fun jv _ _ => 4 - (intOf jv).toNat)
        case atStart => exact ⟨0, g, cap, by omega, rfl, rfl, by rw [List.take_zero, List.append_nil]; exact hR', hX'⟩
        case round =>
          clear hR hR' hX' hpt hsl hat
          obtain ⟨j, g', cap', hj, rfl, rfl, hR', hX'⟩ := hrel
          have hgl' := hR'.lt
          have hsz' := hX'.size
          by_cases hjl : j < 4
          · have hix := idx4 L hLn j hjl
            obtain ⟨r, hr⟩ : ∃ r, r = 4 * (I - 4) + j := ⟨_, rfl⟩
            have e2 : 4 * ((I : Int) - 4) + (j : Int) = (r : Int) := by omega
            have r1 : (r : Int) < 4 * (I : Int) + (j : Int) := by omega
            have r0 : (0 : Int) ≤ (r : Int) := by omega
            have hc := hR'.get r _ (by8_get _ r (by rw [List.length_append, hEl]; omega))
            rw [getD_append_left _ _ _ (by omega)] at hc
            have hx := xor8 _ _ (hEo.get r) (hLo.get j)
            have HX : Hid ((xorN 4 (word E (I - 4)) L).getD j 0 = E.getD r 0 ^^^ L.getD j 0) := by
              show _ = _
              rw [xorN, mk_get _ _ _ hjl, word, mk_get _ _ _ hjl, ← hr]
            have hXl : (xorN 4 (word E (I - 4)) L).length = 4 := mk_length _ _
            generalize xorN 4 (word E (I - 4)) L = X at *
            generalize E.getD r 0 ^^^ L.getD j 0 = y at *
            generalize E.getD r 0 = ex at *
            generalize L.getD j 0 = lx at *
            have HR : Hid (r = 4 * (I - 4) + j) := hr
            have jz : (j : Int) < 4 := by omega
            have j0 : (0 : Int) ≤ (j : Int) := by omega
            clear hr
            go_wp2_with (at_builtin; refine wpList_append_row rfl _ _ 41 rfl (hR'.alloc _) 5 i0 _ 1 Try.underlying41 hi hz0 hz1 hz2 rfl (by omega) ⟨wr.heap.size, 0, none⟩ 1 1 [.int .u8 (y : Int)] rfl rfl rfl (World.news_of_block (cs := #[.int .u8 (y : Int)]) (t := 5) (fr := (0, 0)) (heap_alloc_new wr _)) (by simp [Value.oneCell']) (by unfold maxLen; omega) (by omega) (by omega) (by simp; omega) ?_; intro g2 cap2 w2 hR2 hgr2 hat2)
            go_roundw
            case rel => exact ⟨j + 1, g2, cap2, by omega, by go_num, rfl, by rw [← more_bytes E X j y (by omega) HX.out]; exact hR2, (hX'.alloc hsz' _).grown hgr2 (by simp; omega) (fun k hk => by cases hk; exact hR'.ge)⟩
            case measure => simp [intOf]; omega
          · obtain rfl : j = 4 := by omega
            rw [List.take_of_length_le (by rw [xorN, mk_length]; omega), show 4 * I + 4 = 4 * (I + 1) from by omega] at hR'
            rw [show 4 * I + 4 = 4 * (I + 1) from by omega, show ((4 : Nat) : Int) = 4 from rfl]
            have HE : Hid (E ++ xorN 4 (word E (I - 4)) L = expd 4 (nb key) (m + 1)) := by
              show _ = _
              rw [HN.out, ← HL.out, show m = I - 4 from by have := HI.out; omega]
            rw [HE.out] at hR'
            go_wp2_with fail
            go_roundw
            case rel =>
              have hI2 : I + 1 = 4 + (m + 1) := by have := HI.out; omega
              exact ⟨m + 1, g', cap', by omega, by rw [← hI2]; go_num, by rw [← hI2, HP.out], by rw [← hI2], by rw [← hI2]; exact hR', hX'⟩
            case measure => simp [intOf]; omega
    · obtain rfl : m = 40 := by omega
      have HE : Hid (expd 4 (nb key) 40 = expand 4 (nb key)) := rfl
      rw [HE.out] at hR
      have d0 : decide ((((4 + 40 : Nat) : Int)) < 44) = false := by decide
      generalize rc ((4 + 40 - 1) / 4) = p at *
      go_wp2_with fail
      go_ret
      exact ⟨g, cap, rfl, hR, hnx⟩

set_option maxRecDepth 100000 in
set_option maxHeartbeats 3200000 in
theorem expanded_8 (key : ByteArray) (hk : key.size = 32) (w : World) :
    Calls Try.prog 67 #[.string key] w fun e w' => ∃ g cap, e = .returned (.slice (some ⟨g, 0, none⟩) 240 cap) ∧ Row w' w.heap.size 1 g 240 cap (by8 (expand 8 (nb key))) ∧ Below w.heap.size w w' := by
  obtain ⟨i0, hi, hz0, hz1, hz2⟩ := info_parts infoU8
  obtain ⟨W, cp, hcv, hR, hX⟩ := bytes_row key w
  rw [hk] at hcv hR
  have hq : (key.size : Int) = 32 := by omega
  have ok := nb_lt key
  have hnl : (nb key).length = 4 * 8 := by rw [nb_length, hk]
  go_enter Try.func67, Try.ntmps67
  go_wp2_with fail
  go_loopw [4, 5, 6] (fun v p i wr => ∃ (m g cap : Nat), m ≤ 52 ∧ i = .int .i64 ((8 + m : Nat) : Int) ∧ p = .int .u8 (rc ((8 + m - 1) / 8)) ∧ v = .slice (some ⟨g, 0, none⟩) (4 * (8 + m)) cap ∧ Row wr w.heap.size 1 g (4 * (8 + m)) cap (by8 (expd 8 (nb key) m)) ∧ Below w.heap.size w wr) (fun _ _ i _ => 60 - (intOf i).toNat)
  case atStart => exact ⟨0, _, _, by omega, rfl, rfl, rfl, hR, hX⟩
  case round =>
    clear hR hX
    obtain ⟨m, g, cap, hm, rfl, rfl, rfl, hR, hnx⟩ := hrel
    have hEl := expd_length 8 (nb key) hnl m
    have hEo := expd_ok 8 (nb key) ok m
    by_cases hlt : m < 52
    · have HN : Hid (expd 8 (nb key) (m + 1) = expd 8 (nb key) m ++ xorN 4 (word (expd 8 (nb key) m) m) (lastW 8 (8 + m) (expd 8 (nb key) m))) := rfl
      generalize expd 8 (nb key) m = E at *
      obtain ⟨I, hI⟩ : ∃ I, I = 8 + m := ⟨_, rfl⟩
      rw [← hI] at hR hEl HN ⊢
      obtain ⟨q, hq4⟩ : ∃ q, q = 4 * (I - 1) := ⟨_, rfl⟩
      have e1 : 4 * ((I : Int) - 1) = (q : Int) := by omega
      have hle := hR.le
      have hsl := sl_from g 0 (4 * I) cap q (by omega) (by omega)
      rw [Nat.zero_add] at hsl
      have hat : ∀ w, (Instr.arrayAt 110 (.slice (some ⟨g, q, none⟩) (4 * I - q) (cap - q))).run Try.prog w = .ok (.pointer (some ⟨g, q, none⟩)) w := at_arr 110 5 4 _ _ _ Try.underlying110 (by omega)
      have hwl : word E (I - 1) = (E.drop q).take 4 := by
        refine ext_get (by rw [word_length, List.length_take, List.length_drop]; omega) fun k hk => ?_
        rw [word_length] at hk
        rw [word, mk_get _ _ _ hk, List.getD_eq_getElem?_getD, List.getD_eq_getElem?_getD, List.getElem?_take, if_pos hk, List.getElem?_drop, hq4]
      have hwn := word_length E (I - 1)
      have hwo := word_ok E (I - 1) hEo
      have hpt := hR.part q (by8 (word E (I - 1))) (by rw [by8_length, hwn, hwl, by8_take, by8_drop])
      clear hwl
      have d0 : decide ((I : Int) < 60) = true := by simp; omega
      have hsz := hnx.size
      have hgl := hR.lt
      have HI : Hid (I = 8 + m) := hI
      have i0' : 8 ≤ I := by omega
      have i1 : I < 60 := by omega
      have HQ : Hid (q = 4 * (I - 1)) := hq4
      clear hI hq4
      have hZ := Blk.new wr 110 (by8 zero4) _ rfl
      by_cases hz : I % 8 = 0
      · have t1 : (I : Int).tmod 8 = 0 := by rw [Int.tmod_eq_emod_of_nonneg (by omega)]; omega
        have HL : Hid (lastW 8 I E = (subN 4 (turn (word E (I - 1)))).set 0 ((subN 4 (turn (word E (I - 1)))).getD 0 0 ^^^ rc ((I - 1) / 8))) := by
          show lastW 8 I E = _
          unfold lastW
          rw [if_pos hz]
        generalize word E (I - 1) = A at *
        have f1 := turned_list A hwn
        have f2 := subbed_any (turn A) rfl (turn_ok A hwo)
        have hDn : (subN 4 (turn A)).length = 4 := mk_length _ _
        have hDo := subN_ok 4 (turn A)
        have f3 : ∀ w, Calls Try.prog 82 #[.int .u8 (rc ((I - 1) / 8)), .int .u8 2] w fun e w' => e = .returned (.int .u8 (gm (rc ((I - 1) / 8)) 2)) ∧ w' = w := mul_good (rc ((I - 1) / 8)) 2 (rc_lt _) (by decide)
        have hx8 := xor8 _ _ (hDo.get 0) (rc_lt ((I - 1) / 8))
        have hxl := xor_lt (hDo.get 0) (rc_lt ((I - 1) / 8))
        have HP : Hid (gm (rc ((I - 1) / 8)) 2 = rc ((I + 1 - 1) / 8)) := by
          show gm (rc ((I - 1) / 8)) 2 = _
          rw [show (I + 1 - 1) / 8 = (I - 1) / 8 + 1 from by omega]
          rfl
        generalize subN 4 (turn A) = D at *
        generalize turn A = TA at *
        generalize gm (rc ((I - 1) / 8)) 2 = p' at *
        generalize rc ((I - 1) / 8) = p at *
        have hc0 : ∀ (W : World), Blk W wr.heap.size 110 (by8 D) → W.cell? ⟨wr.heap.size, 0, none⟩ = some (.int .u8 ((D.getD 0 0 : Nat) : Int)) := fun W h => h.cell 0 _ (by8_get _ 0 (by omega))
        generalize D.getD 0 0 = d0' at *
        generalize d0' ^^^ p = x0 at *
        have hLn : (D.set 0 x0).length = 4 := by rw [List.length_set]; exact hDn
        have hLo := set_ok D 0 x0 hDo hxl
        go_wp2_with (first
          | (refine wpList_load_mid rfl 110 (.tmp 28) rfl g q rfl (by8 A) _ hpt Try.underlying110 rfl (by rw [by8_length, hwn]; exact infoWD) ?_)
          | (refine wpList_store_blk rfl 110 (.tmp 7) (.tmp 29) rfl wr.heap.size (by8 A) rfl rfl (by8 zero4) hZ (by rw [by8_length, hwn]; rfl) (by8_one _) infoWD ?_; intro W1 hW1)
          | (refine wpList_load_blk rfl 110 (.tmp 7) rfl wr.heap.size 0 rfl hW1.blk (by8 A) (by simp) _ Try.underlying110 rfl (by rw [by8_length, hwn]; exact infoWD) ?_)
          | (go_at_call 84; refine (f1 _).mono ?_; rintro e w2 ⟨rfl, hb2⟩)
          | (go_at_call 83; refine (f2 _).mono ?_; rintro e w3 ⟨rfl, hb3⟩)
          | (go_at_call 82; refine (f3 _).mono ?_; rintro e w4 ⟨rfl, rfl⟩)
          | (refine wpList_store_blk rfl 110 (.tmp 7) (.tmp 36) rfl wr.heap.size (by8 D) rfl rfl (by8 A) ((hW1.blk.below hb2 hW1.blk.lt).below hb3 (Nat.lt_of_lt_of_le hW1.blk.lt hb2.size)) (by rw [by8_length, by8_length, hwn, hDn]) (by8_one _) (by rw [by8_length, hwn]; exact infoWD) ?_; intro W4 hW4; have hcc := hc0 _ hW4.blk; have hff := hW4.blk.frozen 0; have hB5 := hW4.blk.set 0 (.int .u8 (x0 : Int)); rw [by8_set] at hB5)
          | (refine wpList_load_blk rfl 110 (.tmp 7) rfl wr.heap.size 0 rfl hB5 (by8 (D.set 0 x0)) (by simp) _ Try.underlying110 rfl (by rw [by8_length, hLn]; exact infoWD) ?_))
        have hs1 := hW1.size
        rw [World.size_alloc] at hs1
        have hR' : Row (W4.setCell ⟨wr.heap.size, 0, none⟩ (.int .u8 (x0 : Int))) w.heap.size 1 g (4 * I) cap (by8 E) := by
          have h1 := hR.alloc (.cells (by8 zero4).toArray 110)
          have h2 := h1.keep (w' := W1) (by rw [hW1.size]; exact Nat.le_refl _) (hW1.block g (by omega))
          have h3 := (h2.below hb2 h2.lt).below hb3 (Nat.lt_of_lt_of_le h2.lt hb2.size)
          have h4 := h3.keep (w' := W4) (by rw [hW4.size]; exact Nat.le_refl _) (hW4.block g (by omega))
          exact h4.other (by simp; omega) _
        have hX' : Below w.heap.size w (W4.setCell ⟨wr.heap.size, 0, none⟩ (.int .u8 (x0 : Int))) := by
          have h1 := hW1.below w.heap.size w hsz (hnx.alloc hsz _)
          have h3 := (h1.trans (hb2.mono h1.size)).trans (hb3.mono (Nat.le_trans h1.size hb2.size))
          exact (hW4.below _ _ hsz h3).setCell (by simpa using hsz) _
        clear hcc hff hB5 hc0 hW4 hb2 hb3 hW1 hs1 f1 f2 f3 hx8 hZ
        generalize D.set 0 x0 = L at *
        generalize W4.setCell ⟨wr.heap.size, 0, none⟩ (.int .u8 (x0 : Int)) = W5 at *
        go_loopw [54, 4] (fun jv v wq => ∃ (j g' cap' : Nat), j ≤ 4 ∧ jv = .int .i64 j ∧ v = .slice (some ⟨g', 0, none⟩) (4 * I + j) cap' ∧ Row wq w.heap.size 1 g' (4 * I + j) cap' (by8 (E ++ (xorN 4 (word E (I - 8)) L).take j)) ∧ Below w.heap.size w wq) (fun jv _ _ => 4 - (intOf jv).toNat)
        case atStart => exact ⟨0, g, cap, by omega, rfl, rfl, by rw [List.take_zero, List.append_nil]; exact hR', hX'⟩
        case round =>
          clear hR hR' hX' hpt hsl hat
          obtain ⟨j, g', cap', hj, rfl, rfl, hR', hX'⟩ := hrel
          have hgl' := hR'.lt
          have hsz' := hX'.size
          by_cases hjl : j < 4
          · have hix := idx4 L hLn j hjl
            obtain ⟨r, hr⟩ : ∃ r, r = 4 * (I - 8) + j := ⟨_, rfl⟩
            have e2 : 4 * ((I : Int) - 8) + (j : Int) = (r : Int) := by omega
            have r1 : (r : Int) < 4 * (I : Int) + (j : Int) := by omega
            have r0 : (0 : Int) ≤ (r : Int) := by omega
            have hc := hR'.get r _ (by8_get _ r (by rw [List.length_append, hEl]; omega))
            rw [getD_append_left _ _ _ (by omega)] at hc
            have hx := xor8 _ _ (hEo.get r) (hLo.get j)
            have HX : Hid ((xorN 4 (word E (I - 8)) L).getD j 0 = E.getD r 0 ^^^ L.getD j 0) := by
              show _ = _
              rw [xorN, mk_get _ _ _ hjl, word, mk_get _ _ _ hjl, ← hr]
            have hXl : (xorN 4 (word E (I - 8)) L).length = 4 := mk_length _ _
            generalize xorN 4 (word E (I - 8)) L = X at *
            generalize E.getD r 0 ^^^ L.getD j 0 = y at *
            generalize E.getD r 0 = ex at *
            generalize L.getD j 0 = lx at *
            have HR : Hid (r = 4 * (I - 8) + j) := hr
            have jz : (j : Int) < 4 := by omega
            have j0 : (0 : Int) ≤ (j : Int) := by omega
            clear hr
            go_wp2_with (at_builtin; refine wpList_append_row rfl _ _ 41 rfl (hR'.alloc _) 5 i0 _ 1 Try.underlying41 hi hz0 hz1 hz2 rfl (by omega) ⟨wr.heap.size, 0, none⟩ 1 1 [.int .u8 (y : Int)] rfl rfl rfl (World.news_of_block (cs := #[.int .u8 (y : Int)]) (t := 5) (fr := (0, 0)) (heap_alloc_new wr _)) (by simp [Value.oneCell']) (by unfold maxLen; omega) (by omega) (by omega) (by simp; omega) ?_; intro g2 cap2 w2 hR2 hgr2 hat2)
            go_roundw
            case rel => exact ⟨j + 1, g2, cap2, by omega, by go_num, rfl, by rw [← more_bytes E X j y (by omega) HX.out]; exact hR2, (hX'.alloc hsz' _).grown hgr2 (by simp; omega) (fun k hk => by cases hk; exact hR'.ge)⟩
            case measure => simp [intOf]; omega
          · obtain rfl : j = 4 := by omega
            rw [List.take_of_length_le (by rw [xorN, mk_length]; omega), show 4 * I + 4 = 4 * (I + 1) from by omega] at hR'
            rw [show 4 * I + 4 = 4 * (I + 1) from by omega, show ((4 : Nat) : Int) = 4 from rfl]
            have HE : Hid (E ++ xorN 4 (word E (I - 8)) L = expd 8 (nb key) (m + 1)) := by
              show _ = _
              rw [HN.out, ← HL.out, show m = I - 8 from by have := HI.out; omega]
            rw [HE.out] at hR'
            go_wp2_with fail
            go_roundw
            case rel =>
              have hI2 : I + 1 = 8 + (m + 1) := by have := HI.out; omega
              exact ⟨m + 1, g', cap', by omega, by rw [← hI2]; go_num, by rw [← hI2, HP.out], by rw [← hI2], by rw [← hI2]; exact hR', hX'⟩
            case measure => simp [intOf]; omega
      · have t1 : (I : Int).tmod 8 = ((I % 8 : Nat) : Int) := by rw [Int.tmod_eq_emod_of_nonneg (by omega)]; omega
        have t2 : (((I % 8 : Nat) : Int) == 0) = false := by rw [beq_eq_false_iff_ne]; omega
        have HP : Hid (rc ((I - 1) / 8) = rc ((I + 1 - 1) / 8)) := by
          show _ = _
          congr 1
          omega
        generalize rc ((I - 1) / 8) = p' at *
        by_cases hz4 : I % 8 = 4
        · have HL : Hid (lastW 8 I E = subN 4 (word E (I - 1))) := by
            show lastW 8 I E = _
            unfold lastW
            rw [if_neg hz, if_pos ⟨rfl, hz4⟩]
          generalize word E (I - 1) = A at *
          have f2 := subbed_any A hwn hwo
          have hDn : (subN 4 A).length = 4 := mk_length _ _
          have hDo := subN_ok 4 A
          generalize subN 4 A = D at *
          have t4 : (((I % 8 : Nat) : Int) == 4) = true := by rw [beq_iff_eq]; omega
          go_wp2_with (first
            | (refine wpList_load_mid rfl 110 (.tmp 28) rfl g q rfl (by8 A) _ hpt Try.underlying110 rfl (by rw [by8_length, hwn]; exact infoWD) ?_)
            | (refine wpList_store_blk rfl 110 (.tmp 7) (.tmp 29) rfl wr.heap.size (by8 A) rfl rfl (by8 zero4) hZ (by rw [by8_length, hwn]; rfl) (by8_one _) infoWD ?_; intro W1 hW1)
            | (refine wpList_load_blk rfl 110 (.tmp 7) rfl wr.heap.size 0 rfl hW1.blk (by8 A) (by simp) _ Try.underlying110 rfl (by rw [by8_length, hwn]; exact infoWD) ?_)
            | (go_at_call 83; refine (f2 _).mono ?_; rintro e w3 ⟨rfl, hb3⟩)
            | (refine wpList_store_blk rfl 110 (.tmp 7) (.tmp 52) rfl wr.heap.size (by8 D) rfl rfl (by8 A) (hW1.blk.below hb3 hW1.blk.lt) (by rw [by8_length, by8_length, hwn, hDn]) (by8_one _) (by rw [by8_length, hwn]; exact infoWD) ?_; intro W4 hW4)
            | (refine wpList_load_blk rfl 110 (.tmp 7) rfl wr.heap.size 0 rfl hW4.blk (by8 D) (by simp) _ Try.underlying110 rfl (by rw [by8_length, hDn]; exact infoWD) ?_))
          have hs1 := hW1.size
          rw [World.size_alloc] at hs1
          have hR' : Row W4 w.heap.size 1 g (4 * I) cap (by8 E) := by
            have h1 := hR.alloc (.cells (by8 zero4).toArray 110)
            have h2 := h1.keep (w' := W1) (by rw [hW1.size]; exact Nat.le_refl _) (hW1.block g (by omega))
            exact (h2.below hb3 h2.lt).keep (w' := W4) (by rw [hW4.size]; exact Nat.le_refl _) (hW4.block g (by omega))
          have hX' : Below w.heap.size w W4 := by
            have h1 := hW1.below w.heap.size w hsz (hnx.alloc hsz _)
            exact hW4.below _ _ hsz (h1.trans (hb3.mono h1.size))
          have hLn := hDn
          have hLo := hDo
          clear hDn hDo hW4 hb3 hW1 hs1 f2 hZ
          rename List Nat => L
          go_loopw [54, 4] (fun jv v wq => ∃ (j g' cap' : Nat), j ≤ 4 ∧ jv = .int .i64 j ∧ v = .slice (some ⟨g', 0, none⟩) (4 * I + j) cap' ∧ Row wq w.heap.size 1 g' (4 * I + j) cap' (by8 (E ++ (xorN 4 (word E (I - 8)) L).take j)) ∧ Below w.heap.size w wq) (fun jv _ _ => 4 - (intOf jv).toNat)
          case atStart => exact ⟨0, g, cap, by omega, rfl, rfl, by rw [List.take_zero, List.append_nil]; exact hR', hX'⟩
          case round =>
            clear hR hR' hX' hpt hsl hat
            obtain ⟨j, g', cap', hj, rfl, rfl, hR', hX'⟩ := hrel
            have hgl' := hR'.lt
            have hsz' := hX'.size
            by_cases hjl : j < 4
            · have hix := idx4 L hLn j hjl
              obtain ⟨r, hr⟩ : ∃ r, r = 4 * (I - 8) + j := ⟨_, rfl⟩
              have e2 : 4 * ((I : Int) - 8) + (j : Int) = (r : Int) := by omega
              have r1 : (r : Int) < 4 * (I : Int) + (j : Int) := by omega
              have r0 : (0 : Int) ≤ (r : Int) := by omega
              have hc := hR'.get r _ (by8_get _ r (by rw [List.length_append, hEl]; omega))
              rw [getD_append_left _ _ _ (by omega)] at hc
              have hx := xor8 _ _ (hEo.get r) (hLo.get j)
              have HX : Hid ((xorN 4 (word E (I - 8)) L).getD j 0 = E.getD r 0 ^^^ L.getD j 0) := by
                show _ = _
                rw [xorN, mk_get _ _ _ hjl, word, mk_get _ _ _ hjl, ← hr]
              have hXl : (xorN 4 (word E (I - 8)) L).length = 4 := mk_length _ _
              generalize xorN 4 (word E (I - 8)) L = X at *
              generalize E.getD r 0 ^^^ L.getD j 0 = y at *
              generalize E.getD r 0 = ex at *
              generalize L.getD j 0 = lx at *
              have HR : Hid (r = 4 * (I - 8) + j) := hr
              have jz : (j : Int) < 4 := by omega
              have j0 : (0 : Int) ≤ (j : Int) := by omega
              clear hr
              go_wp2_with (at_builtin; refine wpList_append_row rfl _ _ 41 rfl (hR'.alloc _) 5 i0 _ 1 Try.underlying41 hi hz0 hz1 hz2 rfl (by omega) ⟨wr.heap.size, 0, none⟩ 1 1 [.int .u8 (y : Int)] rfl rfl rfl (World.news_of_block (cs := #[.int .u8 (y : Int)]) (t := 5) (fr := (0, 0)) (heap_alloc_new wr _)) (by simp [Value.oneCell']) (by unfold maxLen; omega) (by omega) (by omega) (by simp; omega) ?_; intro g2 cap2 w2 hR2 hgr2 hat2)
              go_roundw
              case rel => exact ⟨j + 1, g2, cap2, by omega, by go_num, rfl, by rw [← more_bytes E X j y (by omega) HX.out]; exact hR2, (hX'.alloc hsz' _).grown hgr2 (by simp; omega) (fun k hk => by cases hk; exact hR'.ge)⟩
              case measure => simp [intOf]; omega
            · obtain rfl : j = 4 := by omega
              rw [List.take_of_length_le (by rw [xorN, mk_length]; omega), show 4 * I + 4 = 4 * (I + 1) from by omega] at hR'
              rw [show 4 * I + 4 = 4 * (I + 1) from by omega, show ((4 : Nat) : Int) = 4 from rfl]
              have HE : Hid (E ++ xorN 4 (word E (I - 8)) L = expd 8 (nb key) (m + 1)) := by
                show _ = _
                rw [HN.out, ← HL.out, show m = I - 8 from by have := HI.out; omega]
              rw [HE.out] at hR'
              go_wp2_with fail
              go_roundw
              case rel =>
                have hI2 : I + 1 = 8 + (m + 1) := by have := HI.out; omega
                exact ⟨m + 1, g', cap', by omega, by rw [← hI2]; go_num, by rw [← hI2, HP.out], by rw [← hI2], by rw [← hI2]; exact hR', hX'⟩
              case measure => simp [intOf]; omega
        · have t4 : (((I % 8 : Nat) : Int) == 4) = false := by rw [beq_eq_false_iff_ne]; omega
          have HL : Hid (lastW 8 I E = word E (I - 1)) := by
            show lastW 8 I E = _
            unfold lastW
            rw [if_neg hz, if_neg (by omega)]
          generalize word E (I - 1) = A at *
          go_wp2_with (first
            | (refine wpList_load_mid rfl 110 (.tmp 28) rfl g q rfl (by8 A) _ hpt Try.underlying110 rfl (by rw [by8_length, hwn]; exact infoWD) ?_)
            | (refine wpList_store_blk rfl 110 (.tmp 7) (.tmp 29) rfl wr.heap.size (by8 A) rfl rfl (by8 zero4) hZ (by rw [by8_length, hwn]; rfl) (by8_one _) infoWD ?_; intro W1 hW1)
            | (refine wpList_load_blk rfl 110 (.tmp 7) rfl wr.heap.size 0 rfl hW1.blk (by8 A) (by simp) _ Try.underlying110 rfl (by rw [by8_length, hwn]; exact infoWD) ?_))
          have hs1 := hW1.size
          rw [World.size_alloc] at hs1
          have hR' : Row W1 w.heap.size 1 g (4 * I) cap (by8 E) := (hR.alloc (.cells (by8 zero4).toArray 110)).keep (w' := W1) (by rw [hW1.size]; exact Nat.le_refl _) (hW1.block g (by omega))
          have hX' := hW1.below w.heap.size w hsz (hnx.alloc hsz _)
          have hLn := hwn
          have hLo := hwo
          clear hwn hwo hW1 hs1 hZ
          rename List Nat => L
          go_loopw [54, 4] (fun jv v wq => ∃ (j g' cap' : Nat), j ≤ 4 ∧ jv = .int .i64 j ∧ v = .slice (some ⟨g', 0, none⟩) (4 * I + j) cap' ∧ Row wq w.heap.size 1 g' (4 * I + j) cap' (by8 (E ++ (xorN 4 (word E (I - 8)) L).take j)) ∧ Below w.heap.size w wq) (fun jv _ _ => 4 - (intOf jv).toNat)
          case atStart => exact ⟨0, g, cap, by omega, rfl, rfl, by rw [List.take_zero, List.append_nil]; exact hR', hX'⟩
          case round =>
            clear hR hR' hX' hpt hsl hat
            obtain ⟨j, g', cap', hj, rfl, rfl, hR', hX'⟩ := hrel
            have hgl' := hR'.lt
            have hsz' := hX'.size
            by_cases hjl : j < 4
            · have hix := idx4 L hLn j hjl
              obtain ⟨r, hr⟩ : ∃ r, r = 4 * (I - 8) + j := ⟨_, rfl⟩
              have e2 : 4 * ((I : Int) - 8) + (j : Int) = (r : Int) := by omega
              have r1 : (r : Int) < 4 * (I : Int) + (j : Int) := by omega
              have r0 : (0 : Int) ≤ (r : Int) := by omega
              have hc := hR'.get r _ (by8_get _ r (by rw [List.length_append, hEl]; omega))
              rw [getD_append_left _ _ _ (by omega)] at hc
              have hx := xor8 _ _ (hEo.get r) (hLo.get j)
              have HX : Hid ((xorN 4 (word E (I - 8)) L).getD j 0 = E.getD r 0 ^^^ L.getD j 0) := by
                show _ = _
                rw [xorN, mk_get _ _ _ hjl, word, mk_get _ _ _ hjl, ← hr]
              have hXl : (xorN 4 (word E (I - 8)) L).length = 4 := mk_length _ _
              generalize xorN 4 (word E (I - 8)) L = X at *
              generalize E.getD r 0 ^^^ L.getD j 0 = y at *
              generalize E.getD r 0 = ex at *
              generalize L.getD j 0 = lx at *
              have HR : Hid (r = 4 * (I - 8) + j) := hr
              have jz : (j : Int) < 4 := by omega
              have j0 : (0 : Int) ≤ (j : Int) := by omega
              clear hr
              go_wp2_with (at_builtin; refine wpList_append_row rfl _ _ 41 rfl (hR'.alloc _) 5 i0 _ 1 Try.underlying41 hi hz0 hz1 hz2 rfl (by omega) ⟨wr.heap.size, 0, none⟩ 1 1 [.int .u8 (y : Int)] rfl rfl rfl (World.news_of_block (cs := #[.int .u8 (y : Int)]) (t := 5) (fr := (0, 0)) (heap_alloc_new wr _)) (by simp [Value.oneCell']) (by unfold maxLen; omega) (by omega) (by omega) (by simp; omega) ?_; intro g2 cap2 w2 hR2 hgr2 hat2)
              go_roundw
              case rel => exact ⟨j + 1, g2, cap2, by omega, by go_num, rfl, by rw [← more_bytes E X j y (by omega) HX.out]; exact hR2, (hX'.alloc hsz' _).grown hgr2 (by simp; omega) (fun k hk => by cases hk; exact hR'.ge)⟩
              case measure => simp [intOf]; omega
            · obtain rfl : j = 4 := by omega
              rw [List.take_of_length_le (by rw [xorN, mk_length]; omega), show 4 * I + 4 = 4 * (I + 1) from by omega] at hR'
              rw [show 4 * I + 4 = 4 * (I + 1) from by omega, show ((4 : Nat) : Int) = 4 from rfl]
              have HE : Hid (E ++ xorN 4 (word E (I - 8)) L = expd 8 (nb key) (m + 1)) := by
                show _ = _
                rw [HN.out, ← HL.out, show m = I - 8 from by have := HI.out; omega]
              rw [HE.out] at hR'
              go_wp2_with fail
              go_roundw
              case rel =>
                have hI2 : I + 1 = 8 + (m + 1) := by have := HI.out; omega
                exact ⟨m + 1, g', cap', by omega, by rw [← hI2]; go_num, by rw [← hI2, HP.out], by rw [← hI2], by rw [← hI2]; exact hR', hX'⟩
              case measure => simp [intOf]; omega
    · obtain rfl : m = 52 := by omega
      have HE : Hid (expd 8 (nb key) 52 = expand 8 (nb key)) := rfl
      rw [HE.out] at hR
      have d0 : decide ((((8 + 52 : Nat) : Int)) < 60) = false := by decide
      generalize rc ((8 + 52 - 1) / 8) = p at *
      go_wp2_with fail
      go_ret
      exact ⟨g, cap, rfl, hR, hnx⟩
end Go.Proofs.Ytibdlccaenanmaa.aes
