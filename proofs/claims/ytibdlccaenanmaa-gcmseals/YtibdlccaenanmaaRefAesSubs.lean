/-
  THE WALK OF the document's own table of Subs, by powers of 3.
-/
import Derived.Test.YtibdlccaenanmaaRefAesText
import Derived.Test.YtibdlccaenanmaaRefGalois
import Derived.Deep.AppendLies
import Derived.OwnWalk
namespace Go.Proofs.Ytibdlccaenanmaa.aes
open Go.RowKit
open Go.Proofs.Ytibdlccaenanmaa.gal

/-- Powers of 3. -/
def pw : Nat → Nat
  | 0 => 1
  | k + 1 => gm (pw k) 3
theorem pw_lt : ∀ k, pw k < 256
  | 0 => by show 1 < 256; decide
  | _ + 1 => gm_lt _ _
def PWT : Nat := 121466575815500734415996836054882879791832871126464106601702187317037704638720699736399773789881350966450612456712855012027411276600174289287471020404625812305602624065235109912861702064162581238381248958448422203687095403783548669481020115429473714815130546491650907227391014769411226625179674495964331439187933946584331397333639979447433688574122779091165484305754955373075414835846686739481168846087332879005575464100018941681806164995707250399423063311368515928344698269234575261926727907427524598329539937222090466892085999338983806607642276495436692919915470849325341672618663070658392065151738926641076044545
def LGT : Nat := 939374623831894136699086600277250597547650664638770418422125146541797353646788332867483593573384618611044815625336497665827114626705134492515730415652478061620339993830966980270842846318821775850471098591710629241171812800746666233448222972174585295916389942636813666312872914849454985560152530477328703759683306625234997237483834721220409437442253146756845415190424543171129629468776480674528486868811725071010351012234056630775688111116293610821126543142160426617079940511630006820862697466582575257349116925728488930366609138264019883664906661504235885380294353134295748489096855100647154935187045898006656778240
theorem pw_step : (List.range 254).all (fun j => gmU (at8 PWT j) 3 == at8 PWT (j + 1)) = true := by decide +kernel
theorem pw_at : ∀ j, j < 255 → pw j = at8 PWT j
  | 0, _ => by decide +kernel
  | j + 1, h => by rw [pw, pw_at j (by omega), gm_u]; exact eq_of_beq (all1 pw_step j (by omega))
theorem lg_base : (List.range 256).all (fun x => x == 0 || (decide (at8 LGT x < 255) && at8 PWT (at8 LGT x) == x)) = true := by decide +kernel
theorem pw_all (x : Nat) (h : x < 256) (h0 : x ≠ 0) : ∃ j, j < 255 ∧ pw j = x := by
  have := all1 lg_base x h
  simp only [Bool.or_eq_true, Bool.and_eq_true, beq_iff_eq, decide_eq_true_eq] at this
  rcases this with e | ⟨h1, h2⟩
  · exact absurd e h0
  · exact ⟨_, h1, by rw [pw_at _ h1, h2]⟩
theorem sub_pw_base : (List.range 255).all (fun j => affU (at8 PWT ((255 - j) % 255)) == at8 SB (at8 PWT j)) = true := by decide +kernel
theorem sub_pw (j : Nat) (h : j < 255) : gaff (pw ((255 - j) % 255)) = gsub (pw j) := by
  rw [gsub_eq _ (pw_lt j), pw_at j h, pw_at _ (Nat.mod_lt _ (by decide)), gaff_u]
  exact eq_of_beq (all1 sub_pw_base j h)
theorem sub_zero : gaff 0 = gsub 0 := by rw [gsub, ginv_zero]
/-- What is right in the table. -/
def Right (T : List Nat) (k : Nat) : Prop := T.length = 256 ∧ T.getD 0 0 = gsub 0 ∧ ∀ j, j < k → T.getD (pw j) 0 = gsub (pw j)
theorem set_get (l : List Nat) (i v j : Nat) (hi : i < l.length) : (l.set i v).getD j 0 = if i = j then v else l.getD j 0 := by
  rw [List.getD_eq_getElem?_getD, List.getD_eq_getElem?_getD]
  by_cases e : i = j
  · subst e; rw [List.getElem?_set_self hi, if_pos rfl]; rfl
  · rw [List.getElem?_set_ne e, if_neg e]
theorem Right.step {T : List Nat} {k : Nat} (h : Right T k) : Right (T.set (pw k) (gsub (pw k))) (k + 1) := by
  obtain ⟨hl, h0, h1⟩ := h
  have hp := pw_lt k
  refine ⟨by rw [List.length_set, hl], ?_, fun j hj => ?_⟩
  · rw [set_get _ _ _ _ (by omega)]
    split
    · rename_i e; rw [e]
    · exact h0
  · rw [set_get _ _ _ _ (by omega)]
    split
    · rename_i e; rw [e]
    · rename_i e
      exact h1 j (by
        rcases Nat.lt_or_ge j k with h | h
        · exact h
        · obtain rfl : j = k := by omega
          exact absurd rfl e)
theorem Right.all {T : List Nat} (h : Right T 255) (x : Nat) (hx : x < 256) : T.getD x 0 = gsub x := by
  by_cases e : x = 0
  · rw [e]; exact h.2.1
  · obtain ⟨j, hj, rfl⟩ := pw_all x hx e
    exact h.2.2 j hj
theorem infoY : (Try.prog.info? 5).map (fun i => (i.zero, i.size, i.bytes)) = some (some (.int .u8 0), 1, 1) := by kernel_rfl
theorem own_blk {w : World} {B e g n : Nat} {xs : List Value} (h : w.ownsRow B e 1 (.slice (some ⟨g, 0, none⟩) n n) n xs) : Blk w g e xs := by
  obtain ⟨hl, ⟨h0, _⟩ | ⟨g', cap', cur, hv, hB, hg, hn, hm, hc, ht⟩⟩ := h
  · cases h0
  · injection hv with e1 e2 e3
    injection e1 with e1
    injection e1 with e1
    subst e1 e3
    rw [List.take_of_length_le (by simp; omega)] at ht
    unfold Blk
    rw [hg, ← ht]
theorem made_by8 : (madeCells (Value.int .u8 0).cells (256 * 1)).toList = by8 (List.replicate 256 0) := by
  have : (Value.int .u8 0).cells = #[Value.int .u8 0] := rfl
  rw [this, toList_madeCells_one, by8, List.map_replicate]
  rfl
theorem drew_any {w w' : World} {B : Nat} (h : Below B w w') (n : Nat) : Below B w (w'.drewN n) := below_drewN h n

set_option maxRecDepth 100000 in
set_option maxHeartbeats 1600000 in
theorem subs_any (w : World) :
    Calls Try.prog 55 #[] w fun e w' => ∃ g, e = .returned (.slice (some ⟨g, 0, none⟩) 256 256) ∧ w.heap.size ≤ g ∧ Tab w' g gsub ∧ Below w.heap.size w w' := by
  obtain ⟨i0, hi, hz0, hz1, hz2⟩ := info_parts infoY
  go_enter Try.func55, Try.ntmps55
  go_wp2_with (at_make; refine wpList_make_full _ rfl _ _ 41 rfl w.heap.size 5 i0 (.int .u8 0) 1 Try.underlying41 hi hz0 hz1 _ _ _ _ 256 rfl rfl rfl rfl (by rw [hz2]; decide) (by unfold maxLen; decide) (Nat.le_refl _) ?_; intro w1 hown0 hgr0)
  rw [made_by8] at hown0
  have hB0 := own_blk hown0
  have hX0 : Below w.heap.size w w1 := (Below.refl _ _).grown hgr0 (Nat.le_refl _) (fun k hk => by cases hk)
  have hZl : (List.replicate 256 0).length = 256 := List.length_replicate
  generalize (List.replicate 256 0 : List Nat) = Z at *
  clear hown0 hgr0
  go_loopw [2, 3, 7] (fun v p i wr => ∃ k : Nat, k ≤ 255 ∧ i = .int .i64 k ∧ p = .int .u8 (pw k) ∧ wr.ownsRow (w.heap.size + 1) 5 1 v k (by8 (mk k pw)) ∧ Blk wr w.heap.size 5 (by8 Z) ∧ Below w.heap.size w wr) (fun _ _ i _ => 255 - (intOf i).toNat)
  case atStart => exact ⟨0, by omega, rfl, rfl, World.ownsRow_nil _ _ _ _, hB0, hX0⟩
  case round =>
    clear hB0 hX0
    obtain ⟨k, hk, rfl, rfl, hown, hB, hnx⟩ := hrel
    have hbl := hB.lt
    have hsz := hnx.size
    have hlo := hown.lt
    by_cases hlt : k < 255
    · have d0 : decide ((k : Int) < 255) = true := by simp; omega
      have f1 : ∀ W, Calls Try.prog 56 #[.int .u8 (pw k), .int .u8 3] W fun e w' => e = .returned (.int .u8 (gm (pw k) 3)) ∧ ∃ n, w' = W.drewN n := mul_any (pw k) 3 (pw_lt k) (by decide)
      have HP : Hid (gm (pw k) 3 = pw (k + 1)) := rfl
      have HM : Hid (by8 (mk k pw) ++ [.int .u8 ((pw k : Nat) : Int)] = by8 (mk (k + 1) pw)) := by
        show _ = _
        rw [mk_succ, by8_append]
        rfl
      have hpl := pw_lt k
      generalize gm (pw k) 3 = p' at *
      generalize pw k = p at *
      go_wp2_with (first
        | (at_builtin; refine wpList_append_lies _ rfl _ _ 41 rfl (w.heap.size + 1) 5 i0 _ 1 1 Try.underlying41 hi hz0 hz1 hz2 rfl (by omega) _ k _ rfl (hown.alloc _) ⟨wr.heap.size, 0, none⟩ 1 1 [.int .u8 (p : Int)] rfl rfl (World.news_of_block (cs := #[.int .u8 (p : Int)]) (t := 5) (fr := (0, 0)) (heap_alloc_new wr _)) (by simp [Value.oneCell']) (by omega) (by unfold maxLen; omega) (by omega) (by simp; omega) (wr.heap.size + 1) (by simp) ?_; intro gg cap1 w2 hown2 hgr2 hat2 hlt2)
        | (go_at_call 56; refine (f1 _).mono ?_; rintro e w3 ⟨rfl, n3, rfl⟩))
      have hB2 : Blk w2 w.heap.size 5 (by8 Z) := (hgr2.block w.heap.size (by simp; omega) (by intro h; have := hlo _ h.symm; omega)).trans (hB.alloc (.cells #[.int .u8 (p : Int)] 5))
      have hX2 : Below w.heap.size w w2 := (hnx.alloc hsz _).grown hgr2 (by simp; omega) (fun b hb => by have := (hlo b hb).1; omega)
      go_roundw
      case rel => exact ⟨k + 1, by omega, by go_num, by rw [HP.out], by rw [← HM.out]; exact hown2, hB2, drew_any hX2 n3⟩
      case measure => simp [intOf]; omega
    · obtain rfl : k = 255 := by omega
      have d0 : decide (((255 : Nat) : Int) < 255) = false := by decide
      obtain ⟨pg, pcap, rfl, hpb, hpl⟩ := hown.form (by decide)
      have hP : ∀ j, j < 255 → wr.cell? ⟨pg, j, none⟩ = some (.int .u8 ((pw j : Nat) : Int)) := fun j hj => by
        rw [hown.cellAt j (by omega), by8_get _ j (by rw [mk_length]; exact hj), mk_get _ _ _ hj]
      have f0 : ∀ W, Calls Try.prog 76 #[.int .u8 0] W fun e w' => e = .returned (.int .u8 (gaff 0)) ∧ Below W.heap.size W w' := affine_any 0 (by decide)
      rw [sub_zero] at f0
      have hc0 := fun (W : World) (h : Blk W w.heap.size 5 (by8 Z)) => h.cell 0 _ (by8_get Z 0 (by omega))
      have hR0 : Right (Z.set 0 (gsub 0)) 0 := ⟨by rw [List.length_set, hZl], by rw [set_get _ _ _ _ (by omega), if_pos rfl], fun j hj => by omega⟩
      obtain ⟨s0, HS0⟩ : ∃ s, Hid (s = gsub 0) := ⟨_, rfl⟩
      rw [← HS0.out] at f0 hR0
      generalize Z.getD 0 0 = z0 at *
      generalize pw 255 = pe at *
      clear hown
      go_wp2_with (go_at_call 76; refine (f0 _).mono ?_; rintro e w2 ⟨rfl, hb2⟩; have hB2 := hB.below hb2 hbl; have hcc := hc0 _ hB2; have hff := hB2.frozen 0; have hB3 := hB2.set 0 (.int .u8 (s0 : Int)); rw [by8_set] at hB3)
      have hX3 : Below w.heap.size w (w2.setCell ⟨w.heap.size, 0, none⟩ (.int .u8 (s0 : Int))) := (hnx.trans (hb2.mono hsz)).setCell (Nat.le_refl _) _
      have hP3 : ∀ j, j < 255 → (w2.setCell ⟨w.heap.size, 0, none⟩ (.int .u8 (s0 : Int))).cell? ⟨pg, j, none⟩ = some (.int .u8 ((pw j : Nat) : Int)) := fun j hj => by
        rw [World.cell?_setCell_other _ _ _ _ (by intro h2; injection h2; omega), hb2.cell (p := ⟨pg, j, none⟩) hpl]
        exact hP j hj
      have hpl3 : pg < (w2.setCell ⟨w.heap.size, 0, none⟩ (.int .u8 (s0 : Int))).heap.size := by simp; have := hb2.size; omega
      clear hcc hff hB2 hb2 hP hc0 hB f0
      generalize w2.setCell ⟨w.heap.size, 0, none⟩ (.int .u8 (s0 : Int)) = w3 at *
      go_loopw [21] (fun i wq => ∃ (k : Nat) (T : List Nat), k ≤ 255 ∧ i = .int .i64 k ∧ Right T k ∧ Blk wq w.heap.size 5 (by8 T) ∧ pg < wq.heap.size ∧ (∀ j, j < 255 → wq.cell? ⟨pg, j, none⟩ = some (.int .u8 ((pw j : Nat) : Int))) ∧ Below w.heap.size w wq) (fun i _ => 255 - (intOf i).toNat)
      case atStart => exact ⟨0, _, by omega, rfl, hR0, hB3, hpl3, hP3, hX3⟩
      case round =>
        clear hB3 hX3 hP3 hpl3 hR0 hnx hbl hsz
        obtain ⟨k, T, hk, rfl, hT, hB, hpl', hP, hnx⟩ := hrel
        have hTl := hT.1
        have hsz := hnx.size
        have hbl := hB.lt
        by_cases hk2 : k < 255
        · have d1 : decide ((k : Int) < 255) = true := by simp; omega
          obtain ⟨r, hr⟩ : ∃ r, r = (255 - k) % 255 := ⟨_, rfl⟩
          have e1 : (255 - (k : Int)).tmod 255 = (r : Int) := by rw [Int.tmod_eq_emod_of_nonneg (by omega), hr]; omega
          have hr1 : r < 255 := by omega
          have c1 := hP k hk2
          have c2 := hP r hr1
          have f1 := affine_any (pw r) (pw_lt r)
          rw [hr, sub_pw k hk2, ← hr] at f1
          have HST := hT.step
          have hpk := pw_lt k
          have hc0 := fun (W : World) (h : Blk W w.heap.size 5 (by8 T)) => h.cell (pw k) _ (by8_get T (pw k) (by omega))
          have HS : Hid _ := HST
          clear HST hr hT
          have hgl := gsub_lt (pw k)
          generalize gsub (pw k) = s at *
          generalize T.getD (pw k) 0 = t0 at *
          generalize pw k = p at *
          generalize pw r = pr at *
          have k0 : (0 : Int) ≤ (k : Int) := by omega
          have kz : (k : Int) < 255 := by omega
          have r0 : (0 : Int) ≤ (r : Int) := by omega
          have rz : (r : Int) < 255 := by omega
          have p0 : (0 : Int) ≤ (p : Int) := by omega
          have pz : (p : Int) < 256 := by omega
          have HPP : Hid (∀ j, j < 255 → wr.cell? ⟨pg, j, none⟩ = some (.int .u8 ((pw j : Nat) : Int))) := hP
          clear hP
          go_wp2_with (go_at_call 76; refine (f1 _).mono ?_; rintro e w4 ⟨rfl, hb4⟩; have hB4 := hB.below hb4 hbl; have hcc := hc0 _ hB4; have hff := hB4.frozen p; have hB5 := hB4.set p (.int .u8 (s : Int)); rw [by8_set] at hB5)
          go_roundw
          case rel =>
            refine ⟨k + 1, _, by omega, by go_num, HS.out, hB5, by simp; have := hb4.size; omega, fun j hj => ?_, (hnx.trans (hb4.mono hsz)).setCell (Nat.le_refl _) _⟩
            rw [World.cell?_setCell_other _ _ _ _ (by intro h2; injection h2; omega), hb4.cell (p := ⟨pg, j, none⟩) hpl']
            exact HPP.out j hj
          case measure => simp [intOf]; omega
        · obtain rfl : k = 255 := by omega
          have d1 : decide (((255 : Nat) : Int) < 255) = false := by decide
          have HTab : Hid (Tab wr w.heap.size gsub) := ⟨hbl, fun x hx => by rw [hB.cell x _ (by8_get T x (by omega)), hT.all x hx]⟩
          clear hP
          go_wp2_with fail
          go_ret
          exact ⟨w.heap.size, rfl, Nat.le_refl _, HTab.out, hnx⟩
end Go.Proofs.Ytibdlccaenanmaa.aes
