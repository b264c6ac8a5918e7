/-
  PLAIN MATHEMATICS OF digests of another kind (BLAKE2s): mixed numbers, blocks, texts. No program is named here.
-/
import Derived.Test.YtmbckgfpkmnlnabDoorPlainSha
namespace Go.Proofs.YtmbckgfpkmnlnabDoor.bla
open Go.RowKit
open Go.Proofs.YtmbckgfpkmnlnabDoor.ghs (tb tb_lt tb_out tb_tx mkl mkl_length mkl_get mkl_congr tx_ext text_ext)
open Go.Proofs.YtmbckgfpkmnlnabDoor.cha (ad ad_lt rl Ws xor_lt Q at4 at4_ok put4 told told_size bs4_ok)
open Go.Proofs.YtmbckgfpkmnlnabDoor.sha (rr rr_lt h0 h0_ok)

/-! ### Four numbers mixed -/
/-- Half of it. -/
def hf (n m : Nat) (q : Q) (x : Nat) : Q :=
  ⟨ad q.a (ad q.b x), rr m (q.b ^^^ ad q.c (rr n (q.d ^^^ ad q.a (ad q.b x)))), ad q.c (rr n (q.d ^^^ ad q.a (ad q.b x))), rr n (q.d ^^^ ad q.a (ad q.b x))⟩
theorem hf_ok {n m : Nat} (hn : 0 < n ∧ n < 32) (hm : 0 < m ∧ m < 32) {q : Q} (h : q.Ok) (x : Nat) : (hf n m q x).Ok :=
  ⟨ad_lt _ _, rr_lt hm.1 hm.2 (xor_lt h.b (ad_lt _ _)), ad_lt _ _, rr_lt hn.1 hn.2 (xor_lt h.d (ad_lt _ _))⟩
def mx (q : Q) (x y : Nat) : Q := hf 8 7 (hf 16 12 q x) y
theorem mx_ok {q : Q} (h : q.Ok) (x y : Nat) : (mx q x y).Ok := hf_ok (by decide) (by decide) (hf_ok (by decide) (by decide) h x) y

/-! ### The tables -/
def linesL : List Nat := [0, 1, 2, 3, 4, 5, 6, 7, 8, 9, 10, 11, 12, 13, 14, 15, 14, 10, 4, 8, 9, 15, 13, 6, 1, 12, 0, 2, 11, 7, 5, 3, 11, 8, 12, 0, 5, 2, 15, 13, 10, 14, 3, 6, 7, 1, 9, 4, 7, 9, 3, 1, 13, 12, 11, 14, 2, 6, 5, 10, 4, 0, 15, 8, 9, 0, 5, 7, 2, 4, 10, 15, 14, 1, 11, 12, 6, 8, 3, 13, 2, 12, 6, 10, 0, 11, 8, 3, 4, 13, 7, 5, 15, 14, 1, 9, 12, 5, 1, 15, 14, 13, 4, 10, 0, 7, 6, 3, 9, 2, 8, 11, 13, 11, 7, 14, 12, 1, 3, 9, 5, 0, 15, 4, 8, 6, 2, 10, 6, 15, 14, 9, 11, 3, 0, 8, 12, 2, 13, 7, 1, 4, 10, 5, 10, 2, 8, 4, 7, 6, 1, 5, 15, 11, 9, 14, 3, 12, 13, 0]
def placesL : List Nat := [0, 4, 8, 12, 1, 5, 9, 13, 2, 6, 10, 14, 3, 7, 11, 15, 0, 5, 10, 15, 1, 6, 11, 12, 2, 7, 8, 13, 3, 4, 9, 14]
theorem linesL_length : linesL.length = 160 := by decide +kernel
theorem placesL_length : placesL.length = 32 := rfl
theorem lines_all : ∀ x ∈ linesL, x < 16 := fun x hx => by
  have h : (linesL.all fun x => decide (x < 16)) = true := by decide +kernel
  simpa using List.all_eq_true.1 h x hx
theorem places_all : ∀ x ∈ placesL, x < 16 := fun x hx => by
  have h : (placesL.all fun x => decide (x < 16)) = true := by decide +kernel
  simpa using List.all_eq_true.1 h x hx
theorem getD_lt {l : List Nat} {b : Nat} (hb : 0 < b) (h : ∀ x ∈ l, x < b) (k : Nat) : l.getD k 0 < b := by
  by_cases hk : k < l.length
  · rw [List.getD_eq_getElem?_getD, List.getElem?_eq_getElem hk]; exact h _ (List.getElem_mem hk)
  · rw [List.getD_eq_getElem?_getD, List.getElem?_eq_none (by omega)]; exact hb
/-- Place k of the i-th four, number j of line r. -/
def pl (i k : Nat) : Nat := placesL.getD (i * 4 + k) 0
def ln (r j : Nat) : Nat := linesL.getD (r * 16 + j) 0
theorem pl_lt (i k : Nat) : pl i k < 16 := getD_lt (by decide) places_all _
theorem ln_lt (r j : Nat) : ln r j < 16 := getD_lt (by decide) lines_all _

/-! ### Rounds -/
def stp (m : List Nat) (r i : Nat) (l : List Nat) : List Nat :=
  put4 l (pl i 0) (pl i 1) (pl i 2) (pl i 3) (mx (at4 l (pl i 0) (pl i 1) (pl i 2) (pl i 3)) (m.getD (ln r (2 * i)) 0) (m.getD (ln r (2 * i + 1)) 0))
theorem stp_length (m : List Nat) (r i : Nat) (l : List Nat) : (stp m r i l).length = l.length := by simp [stp, put4]
theorem stp_ok {m : List Nat} (r i : Nat) {l : List Nat} (h : Ws l) : Ws (stp m r i l) := by
  have hq := mx_ok (at4_ok h (pl i 0) (pl i 1) (pl i 2) (pl i 3)) (m.getD (ln r (2 * i)) 0) (m.getD (ln r (2 * i + 1)) 0)
  exact (((h.set _ _ hq.a).set _ _ hq.b).set _ _ hq.c).set _ _ hq.d
def row8 (m : List Nat) (r : Nat) (l : List Nat) : Nat → List Nat
  | 0 => l
  | i + 1 => stp m r i (row8 m r l i)
theorem row8_length (m : List Nat) (r : Nat) (l : List Nat) : ∀ i, (row8 m r l i).length = l.length
  | 0 => rfl
  | i + 1 => by rw [row8, stp_length, row8_length m r l i]
theorem row8_ok {m : List Nat} (r : Nat) {l : List Nat} (h : Ws l) : ∀ i, Ws (row8 m r l i)
  | 0 => h
  | i + 1 => stp_ok r i (row8_ok r h i)
def rws (m l : List Nat) : Nat → List Nat
  | 0 => l
  | r + 1 => row8 m r (rws m l r) 8
theorem rws_length (m l : List Nat) : ∀ r, (rws m l r).length = l.length
  | 0 => rfl
  | r + 1 => by rw [rws, row8_length, rws_length m l r]
theorem rws_ok {m l : List Nat} (h : Ws l) : ∀ r, Ws (rws m l r)
  | 0 => h
  | r + 1 => row8_ok r (rws_ok h r) 8

/-! ### Blocks -/
/-- A block's numbers, k of its bytes read. -/
def nms (f : Nat → Nat) : Nat → List Nat
  | 0 => List.replicate 16 0
  | k + 1 => (nms f k).set (k / 4) ((nms f k).getD (k / 4) 0 ||| f k * 2 ^ (8 * (k % 4)))
theorem nms_length (f : Nat → Nat) : ∀ k, (nms f k).length = 16
  | 0 => rfl
  | k + 1 => by rw [nms, List.length_set, nms_length f k]
theorem sh_lt {x k : Nat} (h : x < 256) : x * 2 ^ (8 * (k % 4)) < 4294967296 := by
  rcases (by omega : k % 4 = 0 ∨ k % 4 = 1 ∨ k % 4 = 2 ∨ k % 4 = 3) with e | e | e | e <;> rw [e] <;> simp only [Nat.reduceMul, Nat.reducePow] <;> omega
theorem nms_ok {f : Nat → Nat} (h : ∀ j, f j < 256) : ∀ k, Ws (nms f k)
  | 0 => fun x hx => by rw [(List.mem_replicate.1 hx).2]; decide
  | k + 1 => (nms_ok h k).set _ _ (sha.or_lt ((nms_ok h k).get _) (sh_lt (h k)))
theorem nms_congr {f g : Nat → Nat} : ∀ k, (∀ j, j < k → f j = g j) → nms f k = nms g k
  | 0, _ => rfl
  | k + 1, h => by rw [nms, nms, nms_congr k (fun j hj => h j (by omega)), h k (by omega)]
/-- v ahead of the first of the rounds. -/
def spr (h : List Nat) (c : Nat) (last : Bool) : List Nat :=
  h ++ [1779033703, 3144134277, 1013904242, 2773480762, 1359893119 ^^^ c % 4294967296, 2600822924 ^^^ c / 4294967296 % 4294967296, bif last then 4294967295 ^^^ 528734635 else 528734635, 1541459225]
theorem spr_length {h : List Nat} (hl : h.length = 8) (c : Nat) (last : Bool) : (spr h c last).length = 16 := by unfold spr; rw [List.length_append, hl]; rfl
theorem spr_ok {h : List Nat} (hw : Ws h) (c : Nat) (last : Bool) : Ws (spr h c last) := by
  unfold spr
  refine hw.append fun x hx => ?_
  simp only [List.mem_cons, List.not_mem_nil, or_false] at hx
  rcases hx with rfl | rfl | rfl | rfl | rfl | rfl | rfl | rfl
  · decide
  · decide
  · decide
  · decide
  · exact xor_lt (by decide) (Nat.mod_lt _ (by decide))
  · exact xor_lt (by decide) (Nat.mod_lt _ (by decide))
  · cases last <;> decide
  · decide
/-- h behind a block. -/
def vv (h : List Nat) (f : Nat → Nat) (c : Nat) (last : Bool) : List Nat := rws (nms f 64) (spr h c last) 10
theorem vv_length {h : List Nat} (hl : h.length = 8) (f : Nat → Nat) (c : Nat) (last : Bool) : (vv h f c last).length = 16 := by unfold vv; rw [rws_length, spr_length hl]
theorem vv_ok {h : List Nat} (hw : Ws h) (f : Nat → Nat) (c : Nat) (last : Bool) : Ws (vv h f c last) := rws_ok (spr_ok hw c last) 10
def beh (h : List Nat) (f : Nat → Nat) (c : Nat) (last : Bool) : List Nat := mkl 8 fun i => h.getD i 0 ^^^ ((vv h f c last).getD i 0 ^^^ (vv h f c last).getD (8 + i) 0)
theorem beh_length (h : List Nat) (f : Nat → Nat) (c : Nat) (last : Bool) : (beh h f c last).length = 8 := mkl_length _ _
theorem beh_ok {h : List Nat} (hw : Ws h) (f : Nat → Nat) (c : Nat) (last : Bool) : Ws (beh h f c last) :=
  Ws.mkl _ _ fun _ _ => xor_lt (hw.get _) (xor_lt ((vv_ok hw f c last).get _) ((vv_ok hw f c last).get _))
theorem beh_congr {h : List Nat} {f g : Nat → Nat} (e : ∀ j, j < 64 → f j = g j) (c : Nat) (last : Bool) : beh h f c last = beh h g c last := by
  have : vv h f c last = vv h g c last := by unfold vv; rw [nms_congr 64 e]
  unfold beh
  rw [this]

/-! ### Texts -/
/-- h ahead of the first block. -/
def bg (ks sz : Nat) : List Nat := (1779033703 ^^^ (16842752 ^^^ 256 * ks ^^^ sz)) :: [3144134277, 1013904242, 2773480762, 1359893119, 2600822924, 528734635, 1541459225]
theorem bg_length (ks sz : Nat) : (bg ks sz).length = 8 := rfl
theorem bg_ok {ks sz : Nat} (h1 : ks ≤ 32) (h2 : sz ≤ 32) : Ws (bg ks sz) := by
  intro x hx
  simp only [bg, List.mem_cons, List.not_mem_nil, or_false] at hx
  rcases hx with rfl | rfl | rfl | rfl | rfl | rfl | rfl | rfl
  · exact xor_lt (by decide) (xor_lt (xor_lt (by decide) (by omega)) (by omega))
  · decide
  · decide
  · decide
  · decide
  · decide
  · decide
  · decide
/-- The first block's bytes of a text; what is behind it. -/
def cutB (s : ByteArray) : List Nat := mkl 64 (tb s)
theorem cutB_length (s : ByteArray) : (cutB s).length = 64 := mkl_length _ _
theorem cutB_lt (s : ByteArray) (j : Nat) : (cutB s).getD j 0 < 256 := getD_lt (by decide) (fun x hx => by obtain ⟨k, _, rfl⟩ := List.mem_map.1 hx; exact tb_lt _ _) j
def cutR (s : ByteArray) : ByteArray := s.extract (min 64 s.size) s.size
theorem cutR_size (s : ByteArray) : (cutR s).size = s.size - min 64 s.size := by unfold cutR; rw [ByteArray.size_extract]; omega
/-- Behind all of b's block and r: c of them in all, no more than m blocks. -/
def tkn (c : Nat) : Nat → List Nat → List Nat → ByteArray → List Nat
  | 0, h, b, _ => beh h (fun j => b.getD j 0) c true
  | m + 1, h, b, r => bif r.size == 0 then beh h (fun j => b.getD j 0) c true else tkn c m (beh h (fun j => b.getD j 0) (c - r.size) false) (cutB r) (cutR r)
theorem tkn_none (c : Nat) {m : Nat} (h b : List Nat) {r : ByteArray} (hr : r.size = 0) : tkn c m h b r = beh h (fun j => b.getD j 0) c true := by
  cases m with
  | zero => rfl
  | succ m => rw [tkn, hr]; rfl
theorem tkn_some (c : Nat) {m : Nat} (h b : List Nat) {r : ByteArray} (hr : r.size ≠ 0) : tkn c (m + 1) h b r = tkn c m (beh h (fun j => b.getD j 0) (c - r.size) false) (cutB r) (cutR r) := by
  have : (r.size == 0) = false := by rw [beq_eq_false_iff_ne]; exact hr
  rw [tkn, this]; rfl
theorem tkn_length (c : Nat) : ∀ (m : Nat) (h b : List Nat) (r : ByteArray), (tkn c m h b r).length = 8
  | 0, _, _, _ => beh_length _ _ _ _
  | m + 1, h, b, r => by
    by_cases hr : r.size = 0
    · rw [tkn_none c h b hr]; exact beh_length _ _ _ _
    · rw [tkn_some c h b hr]; exact tkn_length c m _ _ _
theorem tkn_ok (c : Nat) : ∀ (m : Nat) {h : List Nat} (_ : Ws h) (b : List Nat) (r : ByteArray), Ws (tkn c m h b r)
  | 0, _, hw, _, _ => beh_ok hw _ _ _
  | m + 1, h, hw, b, r => by
    by_cases hr : r.size = 0
    · rw [tkn_none c h b hr]; exact beh_ok hw _ _ _
    · rw [tkn_some c h b hr]; exact tkn_ok c m (beh_ok hw _ _ _) _ _
/-- h behind all blocks of a key and a text. -/
def tk (key s : ByteArray) (h : List Nat) : List Nat :=
  bif key.size == 0 then tkn s.size (s.size + 1) h (cutB s) (cutR s) else tkn (s.size + 64) (s.size + 1) h (cutB key) s
theorem tk_length (key s : ByteArray) (h : List Nat) : (tk key s h).length = 8 := by unfold tk; cases key.size == 0 <;> exact tkn_length _ _ _ _ _
theorem tk_ok (key s : ByteArray) {h : List Nat} (hw : Ws h) : Ws (tk key s h) := by unfold tk; cases key.size == 0 <;> exact tkn_ok _ _ hw _ _
/-- The digest of size bytes. -/
def blaT (key s : ByteArray) (size : Nat) : ByteArray := (told (tk key s (bg key.size size))).extract 0 size
theorem blaT_size (key s : ByteArray) {size : Nat} (h : size ≤ 32) : (blaT key s size).size = size := by
  unfold blaT
  rw [ByteArray.size_extract, told_size, tk_length]
  omega
end Go.Proofs.YtmbckgfpkmnlnabDoor.bla
