/- The walk of the law NamingKnown. -/
import Derived.Test.YtdicdmajobjppaaNamV
import Derived.StillTailTactics
namespace Go.Proofs.Ytdicdmajobjppaa
open Go.RowKit Go.BigFrame

theorem block_lt {w : World} {g : Nat} {o : Obj} (h : w.heap[g]? = some o) : g < w.heap.size := (Array.getElem?_eq_some_iff.1 h).1
theorem rowsK (w : World) (A B : Obj) : ∃ w1, w1 = (w.alloc A).alloc B ∧ w1.heap[w.heap.size]? = some A ∧ w1.heap[w.heap.size + 1]? = some B ∧ Below w.heap.size w w1 ∧ w1.heap.size = w.heap.size + 2 :=
  ⟨_, rfl, (rows2 w A B).1, (rows2 w A B).2, ((Below.refl _ _).alloc (Nat.le_refl _) _).alloc (by simp) _, by simp⟩
def oneAt (a v j : Nat) : Nat := if j = a then v else 0
theorem oneAt_lt (a v : Nat) (hv : v < 256) (j : Nat) : oneAt a v j < 256 := by unfold oneAt; split <;> omega
theorem oneAt_set (a v : Nat) : (digA (fun _ => 0) 32).setIfInBounds a (.int .u8 (v : Int)) = digA (oneAt a v) 32 := by
  apply Array.ext
  · simp [digA_size]
  · intro i h2 h3
    have hi : i < 32 := by simpa [digA_size] using h3
    apply Option.some.inj
    rw [← Array.getElem?_eq_getElem, ← Array.getElem?_eq_getElem, Array.getElem?_setIfInBounds, digA_get _ _ _ hi, digA_get _ _ _ hi]
    by_cases h : a = i
    · subst h; simp [digA_size, hi, oneAt]
    · rw [if_neg h, oneAt, if_neg (fun e => h e.symm)]

theorem heap_alloc_old3 (w : World) (o : Obj) (i : Nat) (h : i < w.heap.size) : (w.alloc o).heap[i]? = w.heap[i]? := by
  show (w.heap.push o)[i]? = w.heap[i]?
  rw [Array.getElem?_push, if_neg (Nat.ne_of_lt h)]
theorem slice_byte {P : Program} (w : World) (E src dst : TypeId) (k : Nat) (hk : k < 256) (hs : P.underlying src = some (.slice E)) (he : P.underlying E = some (.int .u8)) (ht : P.underlying dst = some .string) :
    (convert src dst (.slice (some ⟨w.heap.size, 0, none⟩) 1 1)).run P (w.alloc (.cells #[.int .u8 (k : Int)] E)) = .ok (.string ⟨#[UInt8.ofNat k]⟩) (w.alloc (.cells #[.int .u8 (k : Int)] E)) := by
  have h : (w.alloc (.cells #[.int .u8 (k : Int)] E)).ownsRow w.heap.size E 1 (.slice (some ⟨w.heap.size, 0, none⟩) 1 1) 1 [.int .u8 (k : Int)] := World.ownsRow_lit w #[.int .u8 (k : Int)] 1 (Nat.le_refl _) (by decide) rfl
  have hc : [Value.int .u8 (k : Int)] = [UInt8.ofNat k].map fun c => Value.int .u8 (c.toNat : Int) := by
    simp [UInt8.toNat_ofNat', Nat.mod_eq_of_lt hk]
  refine convert_own (base := w.heap.size) (l := [UInt8.ofNat k]) ?_ hs he ht
  rw [← hc]
  exact h
/-- Two digests that lie in memory. -/
def SK (gD gX : Nat) (d x : Nat → Nat) (w : World) : Prop := (w.rangeAt gD 0 (cells d 32) ∧ gD < w.heap.size) ∧ (w.rangeAt gX 0 (cells x 32) ∧ gX < w.heap.size)
theorem SK.below {gD gX : Nat} {d x : Nat → Nat} {w w' : World} (s : SK gD gX d x w) (hb : Below w.heap.size w w') : SK gD gX d x w' :=
  ⟨⟨range_below hb s.1.2 s.1.1, Nat.lt_of_lt_of_le s.1.2 hb.size⟩, ⟨range_below hb s.2.2 s.2.1, Nat.lt_of_lt_of_le s.2.2 hb.size⟩⟩

def rowN (l : ByteArray) : Array Value := #[Value.string ⟨#[]⟩, .string ⟨#[45]⟩, .string l, .string (l ++ ⟨#[45]⟩), .string (l ++ ⟨#[45, 46, 97]⟩), .string (l ++ ⟨#[97]⟩), .string (l.extract 0 31 ++ ⟨#[45, 97]⟩), .string (l ++ ⟨#[48, 45, 97]⟩), .string (l ++ ⟨#[45, 45]⟩), .string (l ++ ⟨#[45, 97, 45, 98]⟩), .string (l ++ ⟨#[45, 97, 32, 98]⟩), .string (⟨#[101]⟩ ++ l.extract 1 32 ++ ⟨#[45, 97]⟩), .string (⟨#[90]⟩ ++ l.extract 1 32 ++ ⟨#[45, 97]⟩), .string (l ++ ⟨#[95, 97]⟩)]
theorem rowN_all (l : ByteArray) (h : l.size = 32) : ∀ k, k < 14 → ∃ s, (rowN l)[k]? = some (.string s) ∧ s.size ≤ 100 := by
  intro k hk
  match k, hk with
  | 0, _ => exact ⟨_, rfl, by decide⟩
  | 1, _ => exact ⟨_, rfl, by decide⟩
  | 2, _ => exact ⟨_, rfl, by omega⟩
  | 3, _ => exact ⟨_, rfl, by rw [ByteArray.size_append, h]; decide⟩
  | 4, _ => exact ⟨_, rfl, by rw [ByteArray.size_append, h]; decide⟩
  | 5, _ => exact ⟨_, rfl, by rw [ByteArray.size_append, h]; decide⟩
  | 6, _ => exact ⟨_, rfl, by rw [ByteArray.size_append, ByteArray.size_extract, h]; decide⟩
  | 7, _ => exact ⟨_, rfl, by rw [ByteArray.size_append, h]; decide⟩
  | 8, _ => exact ⟨_, rfl, by rw [ByteArray.size_append, h]; decide⟩
  | 9, _ => exact ⟨_, rfl, by rw [ByteArray.size_append, h]; decide⟩
  | 10, _ => exact ⟨_, rfl, by rw [ByteArray.size_append, h]; decide⟩
  | 11, _ => exact ⟨_, rfl, by rw [ByteArray.size_append, ByteArray.size_append, ByteArray.size_extract, h]; decide⟩
  | 12, _ => exact ⟨_, rfl, by rw [ByteArray.size_append, ByteArray.size_append, ByteArray.size_extract, h]; decide⟩
  | 13, _ => exact ⟨_, rfl, by rw [ByteArray.size_append, h]; decide⟩

set_option maxRecDepth 100000 in
set_option maxHeartbeats 4000000 in
theorem namingKnown_walk (w : World) :
    Calls Try.prog 8 #[] w fun e w' => e = .returned (.bool true) ∧ Below w.heap.size w w' := by
  go_enter Try.func8, Try.ntmps8
  go_wp2_with fail
  go_loopw [1] (fun i wr => ∃ k : Nat, k ≤ 256 ∧ i = .int .i64 k ∧ Below w.heap.size w wr) (fun i _ => 256 - (intOf i).toNat)
  case atStart => exact ⟨0, by omega, rfl, Below.refl _ _⟩
  case round =>
    obtain ⟨k, hk, rfl, hB⟩ := hrel
    by_cases hlt : k < 256
    · have hp32 : k / 8 < 32 := by omega
      have hq32 : k * 7 % 32 < 32 := by omega
      have hm8 : k % 8 < 8 := by omega
      have e4 : (k : Int) % 256 = (k : Int) := by omega
      go_upto_region 5 with (fail)
      rw [zeros32]
      obtain ⟨w1, hw1, hgD, hgX, hb1, hz1⟩ := rowsK wr (.cells (digA (fun _ => 0) 32) 23) (.cells (digA (fun _ => 0) 32) 23)
      rw [← hw1]
      have hB1 := below_step hB hb1 hB.size
      obtain ⟨gD, GD⟩ : ∃ g, Hid (g = wr.heap.size) := ⟨_, Lib.hid rfl⟩
      obtain ⟨gX, GX⟩ : ∃ g, Hid (g = wr.heap.size + 1) := ⟨_, Lib.hid rfl⟩
      rw [← GX.out] at hgX ⊢
      rw [← GD.out] at hgD ⊢
      have HG := Lib.hid (show w.heap.size ≤ gD ∧ gD ≠ gX ∧ w.heap.size ≤ gX by have := hB.size; have := GD.out; have := GX.out; omega)
      clear hw1 hB hb1 hz1 GD GX
      have hcD : w1.cell? ⟨gD, k / 8, none⟩ = some (.int .u8 0) := by rw [cell_of_row _ _ _ _ _ _ hgD, digA_get _ _ _ hp32]; rfl
      have hfD : w1.frozen? ⟨gD, k / 8, none⟩ = false := frozen_of_row _ _ _ _ _ hgD
      obtain ⟨v, V⟩ : ∃ v : Nat, Hid (v = 2 ^ (k % 8)) := ⟨_, Lib.hid rfl⟩
      have hv : v < 256 := by rw [V.out]; exact Nat.lt_of_lt_of_le (Nat.pow_lt_pow_right (by decide) hm8) (by decide)
      have ev : ((2 : Int) ^ (k % 8)) = (v : Int) := by rw [V.out]; simp
      have hgD2 := heap_setCell_same w1 gD (k / 8) _ _ (.int .u8 (v : Int)) hgD
      rw [oneAt_set] at hgD2
      have hgX2 := (heap_setCell_other w1 ⟨gD, k / 8, none⟩ gX (.int .u8 (v : Int)) (by show gX ≠ gD; exact fun e => HG.out.2.1 e.symm)).trans hgX
      have hB2 := hB1.setCell (p := ⟨gD, k / 8, none⟩) HG.out.1 (.int .u8 (v : Int))
      go_upto_region 6 with (fail)
      generalize w1.setCell ⟨gD, k / 8, none⟩ (.int .u8 (v : Int)) = w2 at *
      have HDl := Lib.hid (oneAt_lt (k / 8) v hv)
      generalize oneAt (k / 8) v = d at *
      clear hcD hfD hgD hgX hB1 ev hv V
      have hcX : w2.cell? ⟨gX, k * 7 % 32, none⟩ = some (.int .u8 0) := by rw [cell_of_row _ _ _ _ _ _ hgX2, digA_get _ _ _ hq32]; rfl
      have hfX : w2.frozen? ⟨gX, k * 7 % 32, none⟩ = false := frozen_of_row _ _ _ _ _ hgX2
      have hgX3 := heap_setCell_same w2 gX (k * 7 % 32) _ _ (.int .u8 (k : Int)) hgX2
      rw [oneAt_set] at hgX3
      have hgD3 := (heap_setCell_other w2 ⟨gX, k * 7 % 32, none⟩ gD (.int .u8 (k : Int)) (by show gD ≠ gX; exact HG.out.2.1)).trans hgD2
      have hB3 := hB2.setCell (p := ⟨gX, k * 7 % 32, none⟩) HG.out.2.2 (.int .u8 (k : Int))
      go_upto_region 7 with (fail)
      generalize w2.setCell ⟨gX, k * 7 % 32, none⟩ (.int .u8 (k : Int)) = w3 at *
      have HXl := Lib.hid (oneAt_lt (k * 7 % 32) k hlt)
      generalize oneAt (k * 7 % 32) k = x at *
      clear hcX hfX hgD2 hgX2 hB2
      have hsb := slice_byte (P := Try.prog) w3 5 39 9 k hlt Try.underlying39 Try.underlying5 Try.underlying9
      go_upto_region 8 with (fail)
      clear hsb
      obtain ⟨wA, hwA, hgDA, hgXA, hBA⟩ : ∃ wA, wA = w3.alloc (.cells #[.int .u8 (k : Int)] 5) ∧ wA.heap[gD]? = some (.cells (digA d 32) 23) ∧ wA.heap[gX]? = some (.cells (digA x 32) 23) ∧ Below w.heap.size w wA := ⟨_, rfl, (heap_alloc_old3 w3 _ gD (block_lt hgD3)).trans hgD3, (heap_alloc_old3 w3 _ gX (block_lt hgX3)).trans hgX3, hB3.alloc hB3.size _⟩
      rw [← hwA]
      have hS : SK gD gX d x wA := ⟨⟨range_digA _ _ _ _ _ _ hgDA, block_lt hgDA⟩, ⟨range_digA _ _ _ _ _ _ hgXA, block_lt hgXA⟩⟩
      clear hwA hgD3 hgX3 hB3 hgDA hgXA
      obtain ⟨s, S0⟩ : ∃ s, Hid (s = (⟨#[UInt8.ofNat k]⟩ : ByteArray)) := ⟨_, Lib.hid rfl⟩
      rw [← S0.out]
      have hz : s.size = 1 := by rw [S0.out]; rfl
      obtain ⟨l, L⟩ : ∃ l, Hid (l = letS x) := ⟨_, Lib.hid rfl⟩
      have HLet := Lib.hid (letters_is x HXl.out)
      rw [← L.out] at HLet
      have hlz : l.size = 32 := by rw [L.out]; exact letS_size x
      have HZ1 : Hid (s.size ≤ maxLen) := Lib.hid (by rw [hz]; decide)
      obtain ⟨s2, S2⟩ : ∃ t, Hid (t = ⟨#[97]⟩ ++ s) := ⟨_, Lib.hid rfl⟩
      obtain ⟨s4, S4⟩ : ∃ t, Hid (t = l.extract 0 31 ++ s) := ⟨_, Lib.hid rfl⟩
      obtain ⟨s5, S5⟩ : ∃ t, Hid (t = s4 ++ ⟨#[45, 110]⟩) := ⟨_, Lib.hid rfl⟩
      have hz3 : (l.extract 0 31).size = 31 := by rw [ByteArray.size_extract, hlz]; rfl
      have hz4 : s4.size = 32 := by rw [S4.out, ByteArray.size_append, hz3, hz]
      have HZ2 : Hid (s2.size ≤ maxLen) := Lib.hid (by rw [S2.out, ByteArray.size_append, hz]; decide)
      have HZ3 : Hid (s4.size ≤ maxLen) := Lib.hid (by rw [hz4]; decide)
      have HZ4 : Hid (s5.size ≤ maxLen) := Lib.hid (by rw [S5.out, ByteArray.size_append, hz4]; decide)
      clear S0 L
      have hu := Try.underlying23
      have hiD := info32c d
      have hiX := info32c x
      refine wp_region_held (S := SK gD gX d x) (by kernel_rfl) ?_
      refine wpAnyH_take (i := 0) rfl (by kernel_rfl) (by kernel_rfl) (by kernel_rfl) (fun _ _ _ h => h) (yieldsIf_load_mid (by rfl) 23 _ rfl gD 0 rfl (cells d 32) _ (fun w' h => h.1.1) hu rfl hiD) hS ?_
      simp only [Act.put]
      try simp only [List.setIfInBounds_toArray]
      refine wpAnyH_ready (rs := [1]) (by kernel_rfl) (by simp) ?_
      refine AllReadyH.cons rfl (fun K hK => ?_) AllReadyH.nil
      go_simp
      refine (namingLetters_walk d _ HDl.out).mono ?_
      rintro e w11 ⟨rfl, hb11⟩
      have hB11 := below_step hBA.drew hb11 hBA.size
      refine hK.out _ _ (SK.below (w := wA.drew) hS hb11) (fun hH11 => ?_)
      clear hK K hb11
      refine wpAnyH_ready (rs := [2]) (by kernel_rfl) (by simp) ?_
      refine AllReadyH.cons rfl (fun K hK => ?_) AllReadyH.nil
      go_simp
      refine hK.out _ _ hH11 (fun _ => ?_)
      clear hK K
      refine wpAnyH_ready (rs := [3]) (by kernel_rfl) (by simp) ?_
      refine AllReadyH.cons rfl (fun K hK => ?_) AllReadyH.nil
      go_simp
      refine hK.out _ _ hH11 (fun _ => ?_)
      clear hK K
      refine wpAnyH_take (i := 4) rfl (by kernel_rfl) (by kernel_rfl) (by kernel_rfl) (fun _ _ _ h => h) (yieldsIf_load_mid (by rfl) 23 _ rfl gD 0 rfl (cells d 32) _ (fun w' h => h.1.1) hu rfl hiD) hH11 ?_
      simp only [Act.put]
      try simp only [List.setIfInBounds_toArray]
      refine wpAnyH_take (i := 5) rfl (by kernel_rfl) (by kernel_rfl) (by kernel_rfl) (fun _ _ _ h => h) (yieldsIf_load_mid (by rfl) 23 _ rfl gX 0 rfl (cells x 32) _ (fun w' h => h.2.1) hu rfl hiX) hH11 ?_
      simp only [Act.put]
      try simp only [List.setIfInBounds_toArray]
      refine wpAnyH_take (i := 6) rfl (by kernel_rfl) (by kernel_rfl) (by kernel_rfl) (fun _ _ _ h => h) (Or.inl ⟨by rfl, fun wx _ => run_move _ rfl wx⟩) hH11 ?_
      simp only [Act.put]
      try simp only [List.setIfInBounds_toArray]
      refine wpAnyH_ready (rs := [7]) (by kernel_rfl) (by simp) ?_
      refine AllReadyH.cons rfl (fun K hK => ?_) AllReadyH.nil
      go_simp
      refine (namingBack_walk d x s _ HDl.out HXl.out HZ1.out).mono ?_
      rintro e w12 ⟨rfl, hb12⟩
      have hB12 := below_step hB11 hb12 hB11.size
      refine hK.out _ _ (SK.below (w := w11) hH11 hb12) (fun hH12 => ?_)
      clear hK K hb12
      refine wpAnyH_ready (rs := [8]) (by kernel_rfl) (by simp) ?_
      refine AllReadyH.cons rfl (fun K hK => ?_) AllReadyH.nil
      go_simp
      refine hK.out _ _ hH12 (fun _ => ?_)
      clear hK K
      refine wpAnyH_ready (rs := [9]) (by kernel_rfl) (by simp) ?_
      refine AllReadyH.cons rfl (fun K hK => ?_) AllReadyH.nil
      go_simp
      refine hK.out _ _ hH12 (fun _ => ?_)
      clear hK K
      refine wpAnyH_ready (rs := [10]) (by kernel_rfl) (by simp) ?_
      refine AllReadyH.cons rfl (fun K hK => ?_) AllReadyH.nil
      go_simp
      refine hK.out _ _ hH12 (fun _ => ?_)
      clear hK K
      refine wpAnyH_take (i := 11) rfl (by kernel_rfl) (by kernel_rfl) (by kernel_rfl) (fun _ _ _ h => h) (yieldsIf_load_mid (by rfl) 23 _ rfl gX 0 rfl (cells x 32) _ (fun w' h => h.2.1) hu rfl hiX) hH12 ?_
      simp only [Act.put]
      try simp only [List.setIfInBounds_toArray]
      refine wpAnyH_take (i := 12) rfl (by kernel_rfl) (by kernel_rfl) (by kernel_rfl) (fun _ _ _ h => h) (yieldsIf_load_mid (by rfl) 23 _ rfl gX 0 rfl (cells x 32) _ (fun w' h => h.2.1) hu rfl hiX) hH12 ?_
      simp only [Act.put]
      try simp only [List.setIfInBounds_toArray]
      refine wpAnyH_take (i := 13) rfl (by kernel_rfl) (by kernel_rfl) (by kernel_rfl) (fun _ _ _ h => h) (Or.inl ⟨by rfl, fun wx _ => run_move _ rfl wx⟩) hH12 ?_
      simp only [Act.put]
      try simp only [List.setIfInBounds_toArray]
      refine wpAnyH_ready (rs := [14]) (by kernel_rfl) (by simp) ?_
      refine AllReadyH.cons rfl (fun K hK => ?_) AllReadyH.nil
      go_simp
      refine hK.out _ _ hH12 (fun _ => ?_)
      clear hK K
      rw [← S2.out]
      refine wpAnyH_ready (rs := [15]) (by kernel_rfl) (by simp) ?_
      refine AllReadyH.cons rfl (fun K hK => ?_) AllReadyH.nil
      go_simp
      refine (namingBack_walk x x s2 _ HXl.out HXl.out HZ2.out).mono ?_
      rintro e w13 ⟨rfl, hb13⟩
      have hB13 := below_step hB12 hb13 hB12.size
      refine hK.out _ _ (SK.below (w := w12) hH12 hb13) (fun hH13 => ?_)
      clear hK K hb13
      refine wpAnyH_ready (rs := [16]) (by kernel_rfl) (by simp) ?_
      refine AllReadyH.cons rfl (fun K hK => ?_) AllReadyH.nil
      go_simp
      refine hK.out _ _ hH13 (fun _ => ?_)
      clear hK K
      refine wpAnyH_ready (rs := [17]) (by kernel_rfl) (by simp) ?_
      refine AllReadyH.cons rfl (fun K hK => ?_) AllReadyH.nil
      go_simp
      refine hK.out _ _ hH13 (fun _ => ?_)
      clear hK K
      refine wpAnyH_ready (rs := [18]) (by kernel_rfl) (by simp) ?_
      refine AllReadyH.cons rfl (fun K hK => ?_) AllReadyH.nil
      go_simp
      refine hK.out _ _ hH13 (fun _ => ?_)
      clear hK K
      refine wpAnyH_take (i := 19) rfl (by kernel_rfl) (by kernel_rfl) (by kernel_rfl) (fun _ _ _ h => h) (yieldsIf_load_mid (by rfl) 23 _ rfl gD 0 rfl (cells d 32) _ (fun w' h => h.1.1) hu rfl hiD) hH13 ?_
      simp only [Act.put]
      try simp only [List.setIfInBounds_toArray]
      refine wpAnyH_take (i := 20) rfl (by kernel_rfl) (by kernel_rfl) (by kernel_rfl) (fun _ _ _ h => h) (Or.inl ⟨by rfl, fun wx _ => run_move _ rfl wx⟩) hH13 ?_
      simp only [Act.put]
      try simp only [List.setIfInBounds_toArray]
      refine wpAnyH_ready (rs := [21]) (by kernel_rfl) (by simp) ?_
      refine AllReadyH.cons rfl (fun K hK => ?_) AllReadyH.nil
      go_simp
      refine (namingName_walk d s _ HDl.out HZ1.out).mono ?_
      rintro e w14 ⟨rfl, hb14⟩
      have hB14 := below_step hB13 hb14 hB13.size
      refine hK.out _ _ (SK.below (w := w13) hH13 hb14) (fun hH14 => ?_)
      clear hK K hb14
      refine wpAnyH_ready (rs := [22]) (by kernel_rfl) (by simp) ?_
      refine AllReadyH.cons rfl (fun K hK => ?_) AllReadyH.nil
      go_simp
      refine hK.out _ _ hH14 (fun _ => ?_)
      clear hK K
      refine wpAnyH_ready (rs := [23]) (by kernel_rfl) (by simp) ?_
      refine AllReadyH.cons rfl (fun K hK => ?_) AllReadyH.nil
      go_simp
      refine hK.out _ _ hH14 (fun _ => ?_)
      clear hK K
      refine wpAnyH_ready (rs := [24]) (by kernel_rfl) (by simp) ?_
      refine AllReadyH.cons rfl (fun K hK => ?_) AllReadyH.nil
      go_simp
      refine hK.out _ _ hH14 (fun _ => ?_)
      clear hK K
      refine wpAnyH_take (i := 25) rfl (by kernel_rfl) (by kernel_rfl) (by kernel_rfl) (fun _ _ _ h => h) (yieldsIf_load_mid (by rfl) 23 _ rfl gD 0 rfl (cells d 32) _ (fun w' h => h.1.1) hu rfl hiD) hH14 ?_
      simp only [Act.put]
      try simp only [List.setIfInBounds_toArray]
      refine wpAnyH_take (i := 26) rfl (by kernel_rfl) (by kernel_rfl) (by kernel_rfl) (fun _ _ _ h => h) (Or.inl ⟨by rfl, fun wx _ => run_move _ rfl wx⟩) hH14 ?_
      simp only [Act.put]
      try simp only [List.setIfInBounds_toArray]
      refine wpAnyH_ready (rs := [27]) (by kernel_rfl) (by simp) ?_
      refine AllReadyH.cons rfl (fun K hK => ?_) AllReadyH.nil
      go_simp
      refine hK.out _ _ hH14 (fun _ => ?_)
      clear hK K
      rw [← S2.out]
      refine wpAnyH_ready (rs := [28]) (by kernel_rfl) (by simp) ?_
      refine AllReadyH.cons rfl (fun K hK => ?_) AllReadyH.nil
      go_simp
      refine (namingName_walk d s2 _ HDl.out HZ2.out).mono ?_
      rintro e w15 ⟨rfl, hb15⟩
      have hB15 := below_step hB14 hb15 hB14.size
      refine hK.out _ _ (SK.below (w := w14) hH14 hb15) (fun hH15 => ?_)
      clear hK K hb15
      refine wpAnyH_ready (rs := [29]) (by kernel_rfl) (by simp) ?_
      refine AllReadyH.cons rfl (fun K hK => ?_) AllReadyH.nil
      go_simp
      refine hK.out _ _ hH15 (fun _ => ?_)
      clear hK K
      refine wpAnyH_ready (rs := [30]) (by kernel_rfl) (by simp) ?_
      refine AllReadyH.cons rfl (fun K hK => ?_) AllReadyH.nil
      go_simp
      refine hK.out _ _ hH15 (fun _ => ?_)
      clear hK K
      refine wpAnyH_ready (rs := [31]) (by kernel_rfl) (by simp) ?_
      refine AllReadyH.cons rfl (fun K hK => ?_) AllReadyH.nil
      go_simp
      refine hK.out _ _ hH15 (fun _ => ?_)
      clear hK K
      refine wpAnyH_take (i := 32) rfl (by kernel_rfl) (by kernel_rfl) (by kernel_rfl) (fun _ _ _ h => h) (yieldsIf_load_mid (by rfl) 23 _ rfl gX 0 rfl (cells x 32) _ (fun w' h => h.2.1) hu rfl hiX) hH15 ?_
      simp only [Act.put]
      try simp only [List.setIfInBounds_toArray]
      refine wpAnyH_take (i := 35) rfl (by kernel_rfl) (by kernel_rfl) (by kernel_rfl) (fun _ _ _ h => h) (Or.inl ⟨by rfl, fun wx _ => run_move _ rfl wx⟩) hH15 ?_
      simp only [Act.put]
      try simp only [List.setIfInBounds_toArray]
      refine wpAnyH_ready (rs := [33]) (by kernel_rfl) (by simp) ?_
      refine AllReadyH.cons rfl (fun K hK => ?_) AllReadyH.nil
      go_simp
      refine (HLet.out _).mono ?_
      rintro e w16 ⟨rfl, hb16⟩
      have hB16 := below_step hB15 hb16 hB15.size
      refine hK.out _ _ (SK.below (w := w15) hH15 hb16) (fun hH16 => ?_)
      clear hK K hb16
      refine wpAnyH_ready (rs := [34]) (by kernel_rfl) (by simp) ?_
      refine AllReadyH.cons rfl (fun K hK => ?_) AllReadyH.nil
      go_simp
      refine hK.out _ _ hH16 (fun _ => ?_)
      clear hK K
      refine wpAnyH_ready (rs := [36]) (by kernel_rfl) (by simp) ?_
      refine AllReadyH.cons rfl (fun K hK => ?_) AllReadyH.nil
      go_simp
      refine hK.out _ _ hH16 (fun _ => ?_)
      clear hK K
      rw [← S4.out]
      refine wpAnyH_ready (rs := [37]) (by kernel_rfl) (by simp) ?_
      refine AllReadyH.cons rfl (fun K hK => ?_) AllReadyH.nil
      go_simp
      refine (namingBytes_walk s4 _ HZ3.out).mono ?_
      rintro e w17 ⟨rfl, hb17⟩
      have hB17 := below_step hB16 hb17 hB16.size
      refine hK.out _ _ (SK.below (w := w16) hH16 hb17) (fun hH17 => ?_)
      clear hK K hb17
      refine wpAnyH_ready (rs := [38]) (by kernel_rfl) (by simp) ?_
      refine AllReadyH.cons rfl (fun K hK => ?_) AllReadyH.nil
      go_simp
      refine hK.out _ _ hH17 (fun _ => ?_)
      clear hK K
      refine wpAnyH_ready (rs := [39]) (by kernel_rfl) (by simp) ?_
      refine AllReadyH.cons rfl (fun K hK => ?_) AllReadyH.nil
      go_simp
      refine hK.out _ _ hH17 (fun _ => ?_)
      clear hK K
      refine wpAnyH_ready (rs := [40]) (by kernel_rfl) (by simp) ?_
      refine AllReadyH.cons rfl (fun K hK => ?_) AllReadyH.nil
      go_simp
      refine hK.out _ _ hH17 (fun _ => ?_)
      clear hK K
      refine wpAnyH_take (i := 41) rfl (by kernel_rfl) (by kernel_rfl) (by kernel_rfl) (fun _ _ _ h => h) (yieldsIf_load_mid (by rfl) 23 _ rfl gX 0 rfl (cells x 32) _ (fun w' h => h.2.1) hu rfl hiX) hH17 ?_
      simp only [Act.put]
      try simp only [List.setIfInBounds_toArray]
      refine wpAnyH_take (i := 44) rfl (by kernel_rfl) (by kernel_rfl) (by kernel_rfl) (fun _ _ _ h => h) (Or.inl ⟨by rfl, fun wx _ => run_move _ rfl wx⟩) hH17 ?_
      simp only [Act.put]
      try simp only [List.setIfInBounds_toArray]
      refine wpAnyH_take (i := 47) rfl (by kernel_rfl) (by kernel_rfl) (by kernel_rfl) (fun _ _ _ h => h) (yieldsIf_load_mid (by rfl) 23 _ rfl gX 0 rfl (cells x 32) _ (fun w' h => h.2.1) hu rfl hiX) hH17 ?_
      simp only [Act.put]
      try simp only [List.setIfInBounds_toArray]
      refine wpAnyH_ready (rs := [42]) (by kernel_rfl) (by simp) ?_
      refine AllReadyH.cons rfl (fun K hK => ?_) AllReadyH.nil
      go_simp
      refine (HLet.out _).mono ?_
      rintro e w18 ⟨rfl, hb18⟩
      have hB18 := below_step hB17 hb18 hB17.size
      refine hK.out _ _ (SK.below (w := w17) hH17 hb18) (fun hH18 => ?_)
      clear hK K hb18
      refine wpAnyH_ready (rs := [43]) (by kernel_rfl) (by simp) ?_
      refine AllReadyH.cons rfl (fun K hK => ?_) AllReadyH.nil
      go_simp
      refine hK.out _ _ hH18 (fun _ => ?_)
      clear hK K
      refine wpAnyH_ready (rs := [45]) (by kernel_rfl) (by simp) ?_
      refine AllReadyH.cons rfl (fun K hK => ?_) AllReadyH.nil
      go_simp
      refine hK.out _ _ hH18 (fun _ => ?_)
      clear hK K
      rw [← S4.out]
      refine wpAnyH_ready (rs := [46]) (by kernel_rfl) (by simp) ?_
      refine AllReadyH.cons rfl (fun K hK => ?_) AllReadyH.nil
      go_simp
      refine hK.out _ _ hH18 (fun _ => ?_)
      clear hK K
      rw [← S5.out]
      refine wpAnyH_ready (rs := [48]) (by kernel_rfl) (by simp) ?_
      refine AllReadyH.cons rfl (fun K hK => ?_) AllReadyH.nil
      go_simp
      refine (namingParse_walk s5 x _ HZ4.out HXl.out).mono ?_
      rintro e w19 ⟨rfl, hb19⟩
      have hB19 := below_step hB18 hb19 hB18.size
      refine hK.out _ _ (SK.below (w := w18) hH18 hb19) (fun hH19 => ?_)
      clear hK K hb19
      refine wpAnyH_ready (rs := [49]) (by kernel_rfl) (by simp) ?_
      refine AllReadyH.cons rfl (fun K hK => ?_) AllReadyH.nil
      go_simp
      refine hK.out _ _ hH19 (fun _ => ?_)
      clear hK K
      refine wpAnyH_ready (rs := [50]) (by kernel_rfl) (by simp) ?_
      refine AllReadyH.cons rfl (fun K hK => ?_) AllReadyH.nil
      go_simp
      refine hK.out _ _ hH19 (fun _ => ?_)
      clear hK K
      refine wpAnyH_done (by kernel_rfl) ?_ _
      go_wp2_with fail
      go_roundw
      case rel => exact ⟨k + 1, by omega, by go_num, hB19⟩
      case measure => simp [intOf]; omega
    · obtain rfl : k = 256 := by omega
      clear hlt hk
      go_wp2_with fail
      go_loopw [5, 6] (fun v i wr => ∃ (k : Nat) (s : ByteArray), k ≤ 65 ∧ i = .int .i64 k ∧ v = .string s ∧ s.size = k ∧ Below w.heap.size w wr) (fun _ i _ => 65 - (intOf i).toNat)
      case atStart => exact ⟨0, _, by omega, rfl, rfl, rfl, hB⟩
      case round =>
        clear hB
        obtain ⟨k, s, hk, rfl, rfl, hz, hB⟩ := hrel
        have HZL := Lib.hid (fun i => zD_lt i)
        obtain ⟨l, L⟩ : ∃ l, Hid (l = letS zD) := ⟨_, Lib.hid rfl⟩
        have HLet := Lib.hid (letters_is zD zD_lt)
        rw [← L.out] at HLet
        have hlz : l.size = 32 := by rw [L.out]; exact letS_size zD
        clear L
        by_cases hlt : k < 65
        · obtain ⟨s1, S1⟩ : ∃ t, Hid (t = s ++ ⟨#[110]⟩) := ⟨_, Lib.hid rfl⟩
          obtain ⟨s2, S2⟩ : ∃ t, Hid (t = l ++ ⟨#[45]⟩) := ⟨_, Lib.hid rfl⟩
          obtain ⟨s3, S3⟩ : ∃ t, Hid (t = s2 ++ s1) := ⟨_, Lib.hid rfl⟩
          have h1 : s1.size = k + 1 := by rw [S1.out, ByteArray.size_append, hz]; rfl
          have h2 : s2.size = 33 := by rw [S2.out, ByteArray.size_append, hlz]; rfl
          have h3 : s3.size = 33 + (k + 1) := by rw [S3.out, ByteArray.size_append, h2, h1]
          have HM1 : Hid (s1.size ≤ maxLen) := Lib.hid (by rw [h1]; unfold maxLen; omega)
          have HM3 : Hid (s3.size ≤ maxLen) := Lib.hid (by rw [h3]; unfold maxLen; omega)
          have n1 : ¬ 9223372036854775807 < s.size + 1 := by omega
          have n3 : ¬ 9223372036854775807 < 33 + (k + 1) := by omega
          have n1' : ¬ 9223372036854775807 < k + 1 := by omega
          go_upto_region 15 with (fail)
          rw [← S1.out]
          go_wp2_with fail
          refine (namingName_walk zD s1 wr zD_lt HM1.out).mono ?_
          rintro e w2 ⟨rfl, hb2⟩
          have hB2 := below_step hB hb2 hB.size
          clear hB hb2
          go_wp2_with fail
          refine (HLet.out w2).mono ?_
          rintro e w3 ⟨rfl, hb3⟩
          have hB3 := below_step hB2 hb3 hB2.size
          clear hB2 hb3
          go_wp2_with fail
          rw [← S2.out, ← S3.out]
          refine (namingParse_walk s3 zD w3 HM3.out zD_lt).mono ?_
          rintro e w4 ⟨rfl, hb4⟩
          have hB4 := below_step hB3 hb4 hB3.size
          clear hB3 hb4
          go_wp2_with fail
          go_roundw
          case rel =>
            (repeat apply Exists.intro)
            refine ⟨⟨k + 1, s1, by omega, by go_num, rfl, h1, hB4⟩, rfl⟩
          case measure => simp [intOf]; omega
        · obtain rfl : k = 65 := by omega
          clear hlt hk hz
          go_wp2_with fail
          refine (HLet.out _).mono ?_
          rintro e w3 ⟨rfl, hb3⟩
          have hB3 := below_step hB hb3 hB.size
          clear hB hb3 HLet
          go_wp2_with fail
          have hx31 : (l.extract 0 31).size = 31 := by rw [ByteArray.size_extract, hlz]; rfl
          have hx32 : (l.extract 1 32).size = 31 := by rw [ByteArray.size_extract, hlz]; rfl
          refine wp_region_held (S := fun _ => True) (by kernel_rfl) ?_
          refine wpAnyH_take (i := 0) rfl (by kernel_rfl) (by kernel_rfl) (by kernel_rfl) (fun _ _ _ h => h) (Or.inl ⟨by rfl, fun wx _ => run_move _ rfl wx⟩) trivial ?_
          simp only [Act.put]
          try simp only [List.setIfInBounds_toArray]
          refine wpAnyH_take (i := 1) rfl (by kernel_rfl) (by kernel_rfl) (by kernel_rfl) (fun _ _ _ h => h) (Or.inl ⟨by rfl, fun wx _ => run_move _ rfl wx⟩) trivial ?_
          simp only [Act.put]
          try simp only [List.setIfInBounds_toArray]
          refine wpAnyH_take (i := 2) (v := .string (l ++ ⟨#[45]⟩)) rfl (by kernel_rfl) (by kernel_rfl) (by kernel_rfl) (fun _ _ _ h => h) (Or.inl ⟨by rfl, fun wx _ => by simp [go_sem, execOp, Act.eval, hlz]⟩) trivial ?_
          simp only [Act.put]
          try simp only [List.setIfInBounds_toArray]
          refine wpAnyH_take (i := 3) rfl (by kernel_rfl) (by kernel_rfl) (by kernel_rfl) (fun _ _ _ h => h) (Or.inl ⟨by rfl, fun wx _ => run_move _ rfl wx⟩) trivial ?_
          simp only [Act.put]
          try simp only [List.setIfInBounds_toArray]
          refine wpAnyH_take (i := 4) (v := .string (l ++ ⟨#[45, 46, 97]⟩)) rfl (by kernel_rfl) (by kernel_rfl) (by kernel_rfl) (fun _ _ _ h => h) (Or.inl ⟨by rfl, fun wx _ => by simp [go_sem, execOp, Act.eval, hlz]⟩) trivial ?_
          simp only [Act.put]
          try simp only [List.setIfInBounds_toArray]
          refine wpAnyH_take (i := 5) rfl (by kernel_rfl) (by kernel_rfl) (by kernel_rfl) (fun _ _ _ h => h) (Or.inl ⟨by rfl, fun wx _ => run_move _ rfl wx⟩) trivial ?_
          simp only [Act.put]
          try simp only [List.setIfInBounds_toArray]
          refine wpAnyH_take (i := 6) (v := .string (l ++ ⟨#[97]⟩)) rfl (by kernel_rfl) (by kernel_rfl) (by kernel_rfl) (fun _ _ _ h => h) (Or.inl ⟨by rfl, fun wx _ => by simp [go_sem, execOp, Act.eval, hlz]⟩) trivial ?_
          simp only [Act.put]
          try simp only [List.setIfInBounds_toArray]
          refine wpAnyH_take (i := 7) rfl (by kernel_rfl) (by kernel_rfl) (by kernel_rfl) (fun _ _ _ h => h) (Or.inl ⟨by rfl, fun wx _ => run_move _ rfl wx⟩) trivial ?_
          simp only [Act.put]
          try simp only [List.setIfInBounds_toArray]
          refine wpAnyH_take (i := 8) (v := .string (l.extract 0 31)) rfl (by kernel_rfl) (by kernel_rfl) (by kernel_rfl) (fun _ _ _ h => h) (Or.inl ⟨by rfl, fun wx _ => by simp [go_sem, execOp, Act.eval, hlz]⟩) trivial ?_
          simp only [Act.put]
          try simp only [List.setIfInBounds_toArray]
          refine wpAnyH_take (i := 9) (v := .string (l.extract 0 31 ++ ⟨#[45, 97]⟩)) rfl (by kernel_rfl) (by kernel_rfl) (by kernel_rfl) (fun _ _ _ h => h) (Or.inl ⟨by rfl, fun wx _ => by simp [go_sem, execOp, Act.eval, hx31]⟩) trivial ?_
          simp only [Act.put]
          try simp only [List.setIfInBounds_toArray]
          refine wpAnyH_take (i := 10) rfl (by kernel_rfl) (by kernel_rfl) (by kernel_rfl) (fun _ _ _ h => h) (Or.inl ⟨by rfl, fun wx _ => run_move _ rfl wx⟩) trivial ?_
          simp only [Act.put]
          try simp only [List.setIfInBounds_toArray]
          refine wpAnyH_take (i := 11) (v := .string (l ++ ⟨#[48, 45, 97]⟩)) rfl (by kernel_rfl) (by kernel_rfl) (by kernel_rfl) (fun _ _ _ h => h) (Or.inl ⟨by rfl, fun wx _ => by simp [go_sem, execOp, Act.eval, hlz]⟩) trivial ?_
          simp only [Act.put]
          try simp only [List.setIfInBounds_toArray]
          refine wpAnyH_take (i := 12) rfl (by kernel_rfl) (by kernel_rfl) (by kernel_rfl) (fun _ _ _ h => h) (Or.inl ⟨by rfl, fun wx _ => run_move _ rfl wx⟩) trivial ?_
          simp only [Act.put]
          try simp only [List.setIfInBounds_toArray]
          refine wpAnyH_take (i := 13) (v := .string (l ++ ⟨#[45, 45]⟩)) rfl (by kernel_rfl) (by kernel_rfl) (by kernel_rfl) (fun _ _ _ h => h) (Or.inl ⟨by rfl, fun wx _ => by simp [go_sem, execOp, Act.eval, hlz]⟩) trivial ?_
          simp only [Act.put]
          try simp only [List.setIfInBounds_toArray]
          refine wpAnyH_take (i := 14) rfl (by kernel_rfl) (by kernel_rfl) (by kernel_rfl) (fun _ _ _ h => h) (Or.inl ⟨by rfl, fun wx _ => run_move _ rfl wx⟩) trivial ?_
          simp only [Act.put]
          try simp only [List.setIfInBounds_toArray]
          refine wpAnyH_take (i := 15) (v := .string (l ++ ⟨#[45, 97, 45, 98]⟩)) rfl (by kernel_rfl) (by kernel_rfl) (by kernel_rfl) (fun _ _ _ h => h) (Or.inl ⟨by rfl, fun wx _ => by simp [go_sem, execOp, Act.eval, hlz]⟩) trivial ?_
          simp only [Act.put]
          try simp only [List.setIfInBounds_toArray]
          refine wpAnyH_take (i := 16) rfl (by kernel_rfl) (by kernel_rfl) (by kernel_rfl) (fun _ _ _ h => h) (Or.inl ⟨by rfl, fun wx _ => run_move _ rfl wx⟩) trivial ?_
          simp only [Act.put]
          try simp only [List.setIfInBounds_toArray]
          refine wpAnyH_take (i := 17) (v := .string (l ++ ⟨#[45, 97, 32, 98]⟩)) rfl (by kernel_rfl) (by kernel_rfl) (by kernel_rfl) (fun _ _ _ h => h) (Or.inl ⟨by rfl, fun wx _ => by simp [go_sem, execOp, Act.eval, hlz]⟩) trivial ?_
          simp only [Act.put]
          try simp only [List.setIfInBounds_toArray]
          refine wpAnyH_take (i := 18) rfl (by kernel_rfl) (by kernel_rfl) (by kernel_rfl) (fun _ _ _ h => h) (Or.inl ⟨by rfl, fun wx _ => run_move _ rfl wx⟩) trivial ?_
          simp only [Act.put]
          try simp only [List.setIfInBounds_toArray]
          refine wpAnyH_take (i := 19) (v := .string (l.extract 1 32)) rfl (by kernel_rfl) (by kernel_rfl) (by kernel_rfl) (fun _ _ _ h => h) (Or.inl ⟨by rfl, fun wx _ => by simp [go_sem, execOp, Act.eval, hlz]⟩) trivial ?_
          simp only [Act.put]
          try simp only [List.setIfInBounds_toArray]
          refine wpAnyH_take (i := 20) (v := .string (⟨#[101]⟩ ++ l.extract 1 32)) rfl (by kernel_rfl) (by kernel_rfl) (by kernel_rfl) (fun _ _ _ h => h) (Or.inl ⟨by rfl, fun wx _ => by simp [go_sem, execOp, Act.eval, hx32]⟩) trivial ?_
          simp only [Act.put]
          try simp only [List.setIfInBounds_toArray]
          refine wpAnyH_take (i := 21) (v := .string (⟨#[101]⟩ ++ l.extract 1 32 ++ ⟨#[45, 97]⟩)) rfl (by kernel_rfl) (by kernel_rfl) (by kernel_rfl) (fun _ _ _ h => h) (Or.inl ⟨by rfl, fun wx _ => by simp [go_sem, execOp, Act.eval, hx32]⟩) trivial ?_
          simp only [Act.put]
          try simp only [List.setIfInBounds_toArray]
          refine wpAnyH_take (i := 22) rfl (by kernel_rfl) (by kernel_rfl) (by kernel_rfl) (fun _ _ _ h => h) (Or.inl ⟨by rfl, fun wx _ => run_move _ rfl wx⟩) trivial ?_
          simp only [Act.put]
          try simp only [List.setIfInBounds_toArray]
          refine wpAnyH_take (i := 23) (v := .string (l.extract 1 32)) rfl (by kernel_rfl) (by kernel_rfl) (by kernel_rfl) (fun _ _ _ h => h) (Or.inl ⟨by rfl, fun wx _ => by simp [go_sem, execOp, Act.eval, hlz]⟩) trivial ?_
          simp only [Act.put]
          try simp only [List.setIfInBounds_toArray]
          refine wpAnyH_take (i := 24) (v := .string (⟨#[90]⟩ ++ l.extract 1 32)) rfl (by kernel_rfl) (by kernel_rfl) (by kernel_rfl) (fun _ _ _ h => h) (Or.inl ⟨by rfl, fun wx _ => by simp [go_sem, execOp, Act.eval, hx32]⟩) trivial ?_
          simp only [Act.put]
          try simp only [List.setIfInBounds_toArray]
          refine wpAnyH_take (i := 25) (v := .string (⟨#[90]⟩ ++ l.extract 1 32 ++ ⟨#[45, 97]⟩)) rfl (by kernel_rfl) (by kernel_rfl) (by kernel_rfl) (fun _ _ _ h => h) (Or.inl ⟨by rfl, fun wx _ => by simp [go_sem, execOp, Act.eval, hx32]⟩) trivial ?_
          simp only [Act.put]
          try simp only [List.setIfInBounds_toArray]
          refine wpAnyH_take (i := 26) rfl (by kernel_rfl) (by kernel_rfl) (by kernel_rfl) (fun _ _ _ h => h) (Or.inl ⟨by rfl, fun wx _ => run_move _ rfl wx⟩) trivial ?_
          simp only [Act.put]
          try simp only [List.setIfInBounds_toArray]
          refine wpAnyH_take (i := 27) (v := .string (l ++ ⟨#[95, 97]⟩)) rfl (by kernel_rfl) (by kernel_rfl) (by kernel_rfl) (fun _ _ _ h => h) (Or.inl ⟨by rfl, fun wx _ => by simp [go_sem, execOp, Act.eval, hlz]⟩) trivial ?_
          simp only [Act.put]
          try simp only [List.setIfInBounds_toArray]
          refine wpAnyH_take (i := 30) rfl (by kernel_rfl) (by kernel_rfl) (by kernel_rfl) (fun _ _ _ h => h) (Or.inl ⟨by rfl, fun wx _ => run_move _ rfl wx⟩) trivial ?_
          simp only [Act.put]
          refine wpAnyH_ready (rs := [28]) (by kernel_rfl) (by simp) ?_
          refine AllReadyH.cons rfl (fun K hK => ?_) AllReadyH.nil
          go_simp
          refine hK.out _ _ trivial (fun _ => ?_)
          clear hK K
          refine wpAnyH_ready (rs := [29]) (by kernel_rfl) (by simp) ?_
          refine AllReadyH.cons rfl (fun K hK => ?_) AllReadyH.nil
          go_simp
          refine hK.out _ _ trivial (fun _ => ?_)
          clear hK K
          refine wpAnyH_done (by kernel_rfl) ?_ _
          go_wp2_with fail
          obtain ⟨w4, hw4, hgS, hB4⟩ : ∃ w4, w4 = (w3.alloc (.cells #[Value.string ⟨#[]⟩, .string ⟨#[45]⟩, .string l, .string (l ++ ⟨#[45]⟩), .string (l ++ ⟨#[45, 46, 97]⟩), .string (l ++ ⟨#[97]⟩), .string (l.extract 0 31 ++ ⟨#[45, 97]⟩), .string (l ++ ⟨#[48, 45, 97]⟩), .string (l ++ ⟨#[45, 45]⟩), .string (l ++ ⟨#[45, 97, 45, 98]⟩), .string (l ++ ⟨#[45, 97, 32, 98]⟩), .string (⟨#[101]⟩ ++ l.extract 1 32 ++ ⟨#[45, 97]⟩), .string (⟨#[90]⟩ ++ l.extract 1 32 ++ ⟨#[45, 97]⟩), .string (l ++ ⟨#[95, 97]⟩)] 9)).drew ∧ w4.heap[w3.heap.size]? = some (.cells (rowN l) 9) ∧ Below w.heap.size w w4 := ⟨_, rfl, heap_alloc_new w3 _, (hB3.alloc hB3.size _).drew⟩
          rw [← hw4]
          obtain ⟨gS, GS⟩ : ∃ g, Hid (g = w3.heap.size) := ⟨_, Lib.hid rfl⟩
          rw [← GS.out] at hgS ⊢
          have HALL := Lib.hid (rowN_all l hlz)
          clear hw4 hB3 GS hx31 hx32 hlz HZL
          go_loopw [133] (fun i wr => ∃ k : Nat, k ≤ 14 ∧ i = .int .i64 k ∧ wr.heap[gS]? = some (.cells (rowN l) 9) ∧ Below w.heap.size w wr) (fun i _ => 14 - (intOf i).toNat)
          case atStart => exact ⟨0, by omega, rfl, hgS, hB4⟩
          case round =>
            clear hgS hB4
            obtain ⟨k, hk, rfl, hgS, hB⟩ := hrel
            by_cases hlt : k < 14
            · obtain ⟨s0, hs, hsz⟩ := HALL.out k hlt
              have hc0 : wr.cell? ⟨gS, k, none⟩ = some (.string s0) := by rw [cell_of_row _ _ _ _ _ _ hgS]; exact hs
              have i14 : (k : Int) < 14 := by omega
              clear hs
              go_wp2_with fail
              refine (namingParse_walk s0 zD wr (by unfold maxLen; omega) zD_lt).mono ?_
              rintro e w5 ⟨rfl, hb5⟩
              have hgS5 := (hb5.block gS (block_lt hgS)).trans hgS
              have hB5 := below_step hB hb5 hB.size
              clear hgS hB hb5 hc0
              go_wp2_with fail
              refine (namingBytes_walk s0 w5 (by unfold maxLen; omega)).mono ?_
              rintro e w6 ⟨rfl, hb6⟩
              have hgS6 := (hb6.block gS (block_lt hgS5)).trans hgS5
              have hB6 := below_step hB5 hb6 hB5.size
              clear hgS5 hB5 hb6
              go_wp2_with fail
              go_roundw
              case rel => exact ⟨k + 1, by omega, by go_num, hgS6, hB6⟩
              case measure => simp [intOf]; omega
            · obtain rfl : k = 14 := by omega
              go_wp2_with fail
              refine (works_any wr).mono ?_
              rintro e w5 ⟨rfl, hb5⟩
              go_wp2_with fail
              go_ret
              exact ⟨rfl, below_step hB hb5 hB.size⟩
end Go.Proofs.Ytdicdmajobjppaa
