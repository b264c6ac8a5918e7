/-
  THE WALK OF package gcm's newMasks.
-/
import Derived.Test.YtibdlccaenanmaaGcmXor
namespace Go.Proofs.Ytibdlccaenanmaa.gcm
open Go.RowKit
open Go.Proofs.Ytibdlccaenanmaa.aes (Ok enc zero16 kE kE_ok infoU8)

theorem sl_to (s : ByteArray) (hi : Nat) (h1 : hi ≤ s.size) (u : World) : (Instr.slice 9 (.string s) none (some (.int .i64 (hi : Int))) none).run Try.prog u = .ok (.string (s.extract 0 hi)) u := by
  simp [Instr.slice, run_underlying Try.underlying9, Instr.sliceBounds, Instr.sliceBound, asIntOf, h1]
theorem sl_in (s : ByteArray) (lo hi : Nat) (h0 : lo ≤ hi) (h1 : hi ≤ s.size) (u : World) : (Instr.slice 9 (.string s) (some (.int .i64 (lo : Int))) (some (.int .i64 (hi : Int))) none).run Try.prog u = .ok (.string (s.extract lo hi)) u := by
  simp [Instr.slice, run_underlying Try.underlying9, Instr.sliceBounds, Instr.sliceBound, asIntOf, h0, h1]
theorem sl_from (s : ByteArray) (lo : Nat) (h1 : lo ≤ s.size) (u : World) : (Instr.slice 9 (.string s) (some (.int .i64 (lo : Int))) none none).run Try.prog u = .ok (.string (s.extract lo s.size)) u := by
  simp [Instr.slice, run_underlying Try.underlying9, Instr.sliceBounds, Instr.sliceBound, asIntOf, h1]
theorem own_below {w w' : World} {B base e s n : Nat} {v : Value} {xs : List Value} (h : w.ownsRow base e s v n xs) (hb : Below B w w') (hv : ∀ b, v.ownBlock = some b → b < B) : w'.ownsRow base e s v n xs := by
  refine ⟨h.1, ?_⟩
  rcases h.2 with hn | ⟨g, c, cur, rfl, h2, h3, h4⟩
  · exact .inl hn
  · exact .inr ⟨g, c, cur, rfl, h2, by rw [hb.block g (hv g rfl)]; exact h3, h4⟩
theorem bld_below {T e B b : Nat} {p : Value} {bs : List Value} {w w' : World} (h : Lib.BuilderAt T e B b p bs w) (hb : Below w.heap.size w w') : Lib.BuilderAt T e B b p bs w' := by
  have hlt := h.lt
  obtain ⟨h1, v, hv, ho, hne⟩ := h
  exact ⟨h1, v, by rw [hb.block b hlt]; exact hv, own_below ho hb (fun k hk => (ho.lt k hk).2), hne⟩
theorem infoMK : (Try.prog.info? 34).map (·.size) = some 3 := by kernel_rfl
theorem own_blk {w : World} {B e g n : Nat} {xs : List Value} (h : w.ownsRow B e 1 (.slice (some ⟨g, 0, none⟩) n n) n xs) : ∀ j u, xs[j]? = some u → w.cell? ⟨g, j, none⟩ = some u := by
  have := Row.own h
  exact fun j u hj => this.get j u hj
theorem made_by8 (n : Nat) : (madeCells (Value.int .u8 0).cells (n * 1)).toList = by8 (List.replicate n 0) := by
  have : (Value.int .u8 0).cells = #[Value.int .u8 0] := rfl
  rw [this, Nat.mul_one, toList_madeCells_one, by8, List.map_replicate]
  rfl
theorem encAll (key nonce : ByteArray) (hk : key.size = 32) (hn : nonce.size = 12) (J : Nat) (hJ : J ≤ 1000) (w : World) :
    Calls Try.prog 28 #[.string key, .string (tx (pl nonce J))] w fun e w' => e = .returned (.tuple #[.string (tx (es (kE key) nonce J)), .int .i64 0]) ∧ Below w.heap.size w w' := by
  refine (aes.encryptAll_good key (tx (pl nonce J)) (Or.inr hk) (J + 1) (by rw [tx_size, pl_length hn]) (by omega) w).mono ?_
  rintro e w' ⟨rfl, hb⟩
  refine ⟨?_, hb⟩
  rw [hk, nb_tx _ (pl_ok nonce J), show 32 / 4 + 6 = 14 from rfl, blks_pl _ hn J J (Nat.le_refl _)]

set_option maxRecDepth 100000 in
set_option maxHeartbeats 1600000 in
theorem newMasks_any (key nonce : ByteArray) (hk : key.size = 32) (hn : nonce.size = 12) (len : Nat) (hlen : len ≤ 5000) (w : World) :
    Calls Try.prog 17 #[.string key, .string nonce, .int .i64 len] w fun e w' => e = .returned (.agg #[.string (tx (enc (kE key) 14 zero16)), .string (tx (enc (kE key) 14 (blk nonce 1))), .string (mask (kE key) nonce len)]) ∧ Below w.heap.size w w' := by
  obtain ⟨i0, hi, hz0, hz1, hz2⟩ := info_parts infoU8
  have f1 := numbered_any nonce hn
  have f2 := encAll key nonce hk hn
  have e1 := es_first (kE key) nonce (K len)
  have e2 := es_second (kE key) nonce (K len)
  have e3 := es_third (kE key) nonce (K len)
  have eS : (tx (es (kE key) nonce (K len + 1))).size = 16 * (K len + 2) := by rw [tx_size, es_length]
  have hKl : K len = (len + 15) / 16 := rfl
  have q1 : ((len : Int) + 16 - 1) / 16 = ((K len : Nat) : Int) := by rw [hKl]; omega
  have q2 : ((len : Int) + 16 - 1).tdiv 16 = ((K len : Nat) : Int) := by rw [hKl, Int.tdiv_eq_ediv_of_nonneg (by omega)]; omega
  have q3 : ((len : Int) + 15) / 16 = ((K len : Nat) : Int) := by rw [hKl]; omega
  have q4 : K len ≤ 400 := by rw [hKl]; omega
  have HM : Hid (mask (kE key) nonce len = tx (stm (kE key) nonce (K len))) := rfl
  generalize mask (kE key) nonce len = M at *
  generalize K len = k0 at *
  clear hKl
  have HP0 : Hid (by8 (List.replicate 16 0) = by8 (pl nonce 0)) := rfl
  have hpl := pl_length hn
  have hpo := pl_ok nonce
  have HPS : Hid (∀ k, by8 (pl nonce k) ++ Lib.strCells (tx (blk nonce (k + 1))) = by8 (pl nonce (k + 1))) := fun k => by rw [bld.strCells_by8, nb_tx _ (blk_ok nonce _), ← by8_append]; rfl
  have hbs : ∀ k, (tx (blk nonce k)).size = 16 := fun k => by rw [tx_size, blk_length hn]
  go_enter Try.func17, Try.ntmps17
  go_wp2_with (first
    | (at_make; refine wpList_make_full _ rfl _ _ 41 rfl (w.heap.size + 2) 5 i0 (.int .u8 0) 1 Try.underlying41 hi hz0 hz1 _ _ _ _ 16 rfl rfl rfl rfl (by rw [hz2]; omega) (by unfold maxLen; omega) (by simp) ?_; intro w1 hown0 hgr0))
  simp only [World.size_alloc] at hown0
  rw [made_by8, HP0.out] at hown0
  have hnw := own_blk hown0
  obtain ⟨W0, hW0⟩ : ∃ W0, W0 = (w.alloc (.cells #[.string ⟨#[]⟩, .string ⟨#[]⟩, .string ⟨#[]⟩] 34)).alloc (.cells #[.pointer none, .slice none 0 0] 43) := ⟨_, rfl⟩
  rw [← hW0] at hgr0
  have hs0 : W0.heap.size = w.heap.size + 1 + 1 := by rw [hW0, World.size_alloc, World.size_alloc]
  have hbx0 : W0.heap[w.heap.size + 1]? = some (.cells #[.pointer none, .slice none 0 0] 43 (0, 0)) := by
    have := heap_alloc_new (w.alloc (.cells #[.string ⟨#[]⟩, .string ⟨#[]⟩, .string ⟨#[]⟩] 34)) (.cells #[.pointer none, .slice none 0 0] 43)
    rw [World.size_alloc] at this
    rw [hW0]; exact this
  have hbox0 : Blk W0 w.heap.size 34 [.string ⟨#[]⟩, .string ⟨#[]⟩, .string ⟨#[]⟩] := by rw [hW0]; exact (Blk.new w 34 [.string ⟨#[]⟩, .string ⟨#[]⟩, .string ⟨#[]⟩] _ rfl).alloc _
  have hX0 : Below w.heap.size w W0 := by rw [hW0]; exact ((Below.refl _ _).alloc (Nat.le_refl _) _).alloc (by simp) _
  have hg1 : Below (w.heap.size + 1) W0 w1 := (Below.refl _ _).grown hgr0 (by omega) (fun k hk => by cases hk)
  have hbx1 : w1.heap[w.heap.size + 1]? = some (.cells #[.pointer none, .slice none 0 0] 43 (0, 0)) := by
    rw [hgr0.block (w.heap.size + 1) (by omega) (fun e => by cases e)]; exact hbx0
  have hbd : Lib.BuilderAt 43 5 (w.heap.size + 1) (w.heap.size + 1) (.pointer none) [] w1 := ⟨Nat.le_refl _, .slice none 0 0, hbx1, World.ownsRow_nil _ _ _ _, by simp [Value.ownBlock]⟩
  have hs1 := hg1.size
  have f0 := bld.write_fresh (w.heap.size + 1) (w.heap.size + 1) (w.heap.size + 1 + 1) 16 16 (by8 (pl nonce 0)) w1 hbd (by omega) rfl hnw (by8_ones _) (by omega) (by omega)
  clear hown0 hgr0 hnw hbd hbx1 hbx0 hW0
  refine f0.mono ?_
  rintro e w2 ⟨rfl, hB2, hb2⟩
  have hb2' : Below (w.heap.size + 1) W0 w2 := hg1.trans hb2
  clear f0 hg1 hb2
  go_wp2_with fail
  go_loopw [18] (fun i wr => ∃ k : Nat, k ≤ k0 + 1 ∧ i = .int .i64 k ∧ Lib.BuilderAt 43 5 (w.heap.size + 1) (w.heap.size + 1) (.pointer (some ⟨w.heap.size + 1, 0, none⟩)) (by8 (pl nonce k)) wr ∧ Below (w.heap.size + 1) W0 wr) (fun i _ => k0 + 1 - (intOf i).toNat)
  case atStart => exact ⟨0, by omega, rfl, hB2, hb2'⟩
  case round =>
    clear hB2 hb2'
    obtain ⟨k, hk, rfl, hB, hnx⟩ := hrel
    have hsr := hnx.size
    by_cases hlt : k < k0 + 1
    · have d0 : decide ((k : Int) < 1 + (k0 : Int)) = true := by simp; omega
      have g1 := f1 (k + 1) (by omega) wr
      have g2 := fun W h1 h2 => bld.writeString (w.heap.size + 1) (w.heap.size + 1) (by8 (pl nonce k)) (tx (blk nonce (k + 1))) W (Or.inr h1) (by rw [by8_length, hpl, hbs]; omega) h2
      have HS : Hid (by8 (pl nonce k) ++ Lib.strCells (tx (blk nonce (k + 1))) = by8 (pl nonce (k + 1))) := HPS.out k
      rw [show ((k + 1 : Nat) : Int) = (k : Int) + 1 from by omega] at g1
      generalize tx (blk nonce (k + 1)) = T at *
      go_wp2_with (first
        | (go_at_call 27; refine g1.mono ?_; rintro e w3 ⟨rfl, hb3⟩)
        | (go_at_call 26; refine (g2 w3 (bld_below hB hb3) (by have := hb3.size; omega)).mono ?_; rintro e w4 ⟨rfl, hB4, hb4⟩))
      rw [HS.out] at hB4
      go_roundw
      case rel => exact ⟨k + 1, by omega, by go_num, hB4, (hnx.trans (hb3.mono (by omega))).trans hb4⟩
      case measure => simp [intOf]; omega
    · obtain rfl : k = k0 + 1 := by omega
      have d0 : decide (((k0 + 1 : Nat) : Int) < 1 + (k0 : Int)) = false := by simp; omega
      have g3 := bld.string_by8 (w.heap.size + 1) (w.heap.size + 1) (pl nonce (k0 + 1)) (hpo _) wr (Or.inr hB) (by omega)
      have g4 := f2 (k0 + 1) (by omega)
      generalize tx (pl nonce (k0 + 1)) = P at *
      generalize tx (es (kE key) nonce (k0 + 1)) = T at *
      have s1 := sl_to T 16 (by omega)
      have s2 := sl_in T 16 32 (by omega) (by omega)
      have s3 := sl_from T 32 (by omega)
      rw [eS] at s3
      rw [e1] at s1
      rw [e2] at s2
      rw [e3] at s3
      rw [show ((16 : Nat) : Int) = 16 from rfl] at s1 s2
      rw [show ((32 : Nat) : Int) = 32 from rfl] at s2 s3
      rw [← HM.out] at s3
      clear e1 e2 e3 eS
      obtain ⟨A1, HA1⟩ : ∃ A, Hid (A = tx (enc (kE key) 14 zero16)) := ⟨_, rfl⟩
      obtain ⟨A2, HA2⟩ : ∃ A, Hid (A = tx (enc (kE key) 14 (blk nonce 1))) := ⟨_, rfl⟩
      rw [← HA1.out] at s1
      rw [← HA2.out] at s2
      go_wp2_with (first
        | (go_at_call 29; refine g3.mono ?_; rintro e w4 ⟨rfl, hb4⟩)
        | (go_at_call 28; refine (g4 _).mono ?_; rintro e w5 ⟨rfl, hb5⟩))
      have hb45 : Below (w.heap.size + 1) W0 w5 := (hnx.trans hb4).trans (hb5.mono (by have := hb4.size; omega))
      have hbox5 := hbox0.below hb45 (by omega)
      have hX5 : Below w.heap.size w w5 := hX0.trans (hb45.mono (by omega))
      have hne := Up.some w5
      refine wp_region_tail 7 (by kernel_rfl) (by kernel_rfl) ?_
      simp only [List.take_succ_cons, List.take_zero, List.drop_succ_cons, List.drop_zero]
      repeat (go_big_quiet_step (fail))
      refine wpQuiet_nil ?_
      rintro w6 ⟨y6, rfl⟩
      have hZ6 := hbox5.below y6.2 hbox5.lt
      have hX6 := hX5.trans (y6.2.mono hX5.size)
      refine wpList_store_blk rfl 34 (.tmp 6) (.tmp 40) rfl w.heap.size [.string A1, .string A2, .string M] rfl rfl _ hZ6 rfl (by simp [Value.oneCell']) infoMK ?_
      intro W7 hW7
      go_wp2
      exact bodyPost_ret (results_blk1 Try.results17 _ rfl hW7.blk _ Try.underlying34 rfl infoMK) rfl ⟨by rw [HA1.out, HA2.out], hW7.below _ _ (by omega) hX6⟩
end Go.Proofs.Ytibdlccaenanmaa.gcm
