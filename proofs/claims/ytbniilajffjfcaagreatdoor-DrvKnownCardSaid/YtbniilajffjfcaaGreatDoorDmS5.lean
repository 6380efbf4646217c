/- Contracts of the reference's Hex, digit and Read. -/
import Derived.Test.YtbniilajffjfcaaGreatDoorDmS4
import Derived.Deep.RegionHeld3
set_option linter.unusedVariables false
set_option linter.unusedSimpArgs false
namespace Go.Proofs.YtbniilajffjfcaaGreatDoor.Sha
open Go.RowKit Go.BigFrame

def digI (c : Nat) : Int := if hexOk c then (hexV c : Int) else -1
end Go.Proofs.YtbniilajffjfcaaGreatDoor.Sha

/- The contract of the reference's Read. -/
namespace Go.Proofs.YtbniilajffjfcaaGreatDoor.Sha
open Go.RowKit Go.BigFrame

theorem run_index_chr (w : World) (s : ByteArray) (m : Int) (i : Nat) (hm : m = (i : Int)) (h : i < s.size) : (Instr.index 9 (.string s) (.int .i64 m)).run Tryz.prog w = .ok (.int .u8 ((chr s i).toNat : Int)) w := by
  subst hm
  have h0 : s[i]? = some (chr s i) := by
    rw [← chr_at s i h]
    exact getElem?_pos s i h
  simp [Instr.index, asIntOf, run_underlying Tryz.underlying9, h0]
theorem digI_yes (c : Nat) (h : hexOk c = true) : digI c = (hexV c : Int) := by simp [digI, h]
theorem digI_no (c : Nat) (h : hexOk c = false) : digI c = -1 := by simp [digI, h]

end Go.Proofs.YtbniilajffjfcaaGreatDoor.Sha

/- The walk of the law ShaTexts. -/
namespace Go.Proofs.YtbniilajffjfcaaGreatDoor.Sha
open Go.RowKit Go.BigFrame

theorem range_below {g : Nat} {a b : World} {cs : List Value} (k : Below a.heap.size a b) (hg : g < a.heap.size) (h : a.rangeAt g 0 cs) : b.rangeAt g 0 cs := fun j v hv => by
  rw [k.cell (p := ⟨g, 0 + j, none⟩) hg]
  exact h j v hv
theorem range_dig (w : World) (g : Nat) (d : Nat → Nat) (n : Nat) (t : TypeId) (hg : w.heap[g]? = some (.cells (digA d n) t (0, 0))) : w.rangeAt g 0 (cells d n) := fun j v hv => by
  have hj : j < n := by
    have := (List.getElem?_eq_some_iff.1 hv).1
    rwa [cells_len] at this
  rw [cells_get _ _ _ hj] at hv
  rw [Nat.zero_add, cell_of_row _ _ _ _ _ _ hg, digA_get _ _ _ hj, hv]
theorem info32c (d : Nat → Nat) : (Tryz.prog.info? 24).map (·.size) = some (cells d 32).length := by rw [cells_len]; exact info32
/-- Three digests that lie in memory. -/
def S3 (gD gE gF : Nat) (d f h : Nat → Nat) (w : World) : Prop := (w.rangeAt gD 0 (cells d 32) ∧ gD < w.heap.size) ∧ (w.rangeAt gE 0 (cells f 32) ∧ gE < w.heap.size) ∧ (w.rangeAt gF 0 (cells h 32) ∧ gF < w.heap.size)
theorem S3.below {gD gE gF : Nat} {d f h : Nat → Nat} {w w' : World} (s : S3 gD gE gF d f h w) (hb : Below w.heap.size w w') : S3 gD gE gF d f h w' :=
  ⟨⟨range_below hb s.1.2 s.1.1, Nat.lt_of_lt_of_le s.1.2 hb.size⟩, ⟨range_below hb s.2.1.2 s.2.1.1, Nat.lt_of_lt_of_le s.2.1.2 hb.size⟩, ⟨range_below hb s.2.2.2 s.2.2.1, Nat.lt_of_lt_of_le s.2.2.2 hb.size⟩⟩

end Go.Proofs.YtbniilajffjfcaaGreatDoor.Sha

/- Contracts of the reference's First and Digest; a row of blocks, and the digest of bytes with what is put behind them. -/
namespace Go.Proofs.YtbniilajffjfcaaGreatDoor.Sha
open Go.RowKit Go.BigFrame

set_option maxRecDepth 100000 in
theorem first_any (w : World) :
    Calls Tryz.prog 65 #[] w fun e w' => e = .returned (.agg (wrow hW 8)) ∧ Below w.heap.size w w' := by
  have e8 : #[Value.int .u32 1779033703, .int .u32 3144134277, .int .u32 1013904242, .int .u32 2773480762, .int .u32 1359893119, .int .u32 2600822924, .int .u32 528734635, .int .u32 1541459225] = wrow hW 8 := rfl
  go_enter Tryz.func65, Tryz.ntmps65
  go_upto_region 1 with (fail)
  rw [zeros8]
  obtain ⟨w1, hw1, hg, hb, hsz⟩ := row_new w (.cells (wrow (fun _ => 0) 8) 98)
  rw [← hw1]
  clear hw1 hsz
  go_wp2_with (refine wpList_store_row rfl 98 _ _ rfl w.heap.size (wrow hW 8) rfl rfl 98 _ hg (by rw [wrow_size]; exact info8w) (by rw [wrow_size, wrow_size]) (wrow_ok _ _) ?_)
  refine bodyPost_ret (v := .agg (wrow hW 8)) (results_cell_row Tryz.results65 _ _ w.heap.size 98 _ (0, 0) _ rfl (setRow_heap _ _ _ _ _ _ hg) Tryz.underlying98 rfl (by rw [wrow_size]; exact info8w)) rfl ?_
  exact ⟨rfl, below_setRow hb (Nat.le_refl _) _⟩

set_option maxRecDepth 100000 in
set_option maxHeartbeats 400000 in
theorem digest_any (c : Nat → UInt32) (w : World) :
    Calls Tryz.prog 67 #[.agg (wrow c 8)] w fun e w' => e = .returned (.agg (digA (dig c) 32)) ∧ Below w.heap.size w w' := by
  go_enter Tryz.func67, Tryz.ntmps67
  go_upto_region 2 with (fail)
  rw [zeros32]
  obtain ⟨w1, hw1, hgC, hgR, hgD, hb, hsz⟩ := rows3 w (.cells (wrow c 8) 98) (.cells (digA (fun _ => 0) 32) 24) (.cells (digA (fun _ => 0) 32) 24)
  rw [← hw1]
  rw [dig_zero c] at hgD
  clear hw1 hsz
  go_wp2_with fail
  go_loopw [4] (fun i wr => ∃ k : Nat, k ≤ 32 ∧ i = .int .i64 k ∧ wr.heap[w.heap.size]? = some (.cells (wrow c 8) 98) ∧ wr.heap[w.heap.size + 2]? = some (.cells (digA (digTo c k) 32) 24) ∧ wr.heap[w.heap.size + 1]? = some (.cells (digA (fun _ => 0) 32) 24) ∧ Below w.heap.size w wr) (fun i _ => 32 - (intOf i).toNat)
  case atStart => exact ⟨0, by omega, rfl, hgC, hgD, hgR, hb⟩
  case round =>
    clear hgC hgD hgR hb
    obtain ⟨k, hk, rfl, hgC, hgD, hgR, hB⟩ := hrel
    by_cases hlt : k < 32
    · have h8 : k / 4 < 8 := by omega
      obtain ⟨x, X⟩ : ∃ x, Hid (x = c (k / 4)) := ⟨_, Lib.hid rfl⟩
      have hcc : wr.cell? ⟨w.heap.size, k / 4, none⟩ = some (.int .u32 (x.toNat : Int)) := by rw [cell_of_row _ _ _ _ _ _ hgC, wrow_get _ _ _ h8, X.out]
      have hcd : wr.cell? ⟨w.heap.size + 2, k, none⟩ = some (.int .u8 (digTo c k k : Int)) := by rw [cell_of_row _ _ _ _ _ _ hgD, digA_get _ _ _ hlt]
      have hfd : wr.frozen? ⟨w.heap.size + 2, k, none⟩ = false := frozen_of_row _ _ _ _ _ hgD
      obtain ⟨v, V⟩ : ∃ v, Hid (v = dig c k) := ⟨_, Lib.hid rfl⟩
      obtain ⟨wz, hwz, hgCz, hgDz, hgRz, hBz⟩ : ∃ wz, wz = wr.setCell ⟨w.heap.size + 2, k, none⟩ (.int .u8 (v : Int)) ∧ wz.heap[w.heap.size]? = some (.cells (wrow c 8) 98) ∧ wz.heap[w.heap.size + 2]? = some (.cells (digA (digTo c (k + 1)) 32) 24) ∧ wz.heap[w.heap.size + 1]? = some (.cells (digA (fun _ => 0) 32) 24) ∧ Below w.heap.size w wz := by
        refine ⟨_, rfl, (heap_setCell_other wr _ _ _ (by show w.heap.size ≠ w.heap.size + 2; omega)).trans hgC, ?_, (heap_setCell_other wr _ _ _ (by show w.heap.size + 1 ≠ w.heap.size + 2; omega)).trans hgR, hB.setCell (by show w.heap.size ≤ w.heap.size + 2; omega) _⟩
        rw [heap_setCell_same wr (w.heap.size + 2) k _ _ _ hgD, V.out, dig_set]
      clear hgC hgD hgR hB
      have ev : (x.toNat : Int) / 2 ^ (24 - 8 * (k % 4)) % 256 = (v : Int) := by rw [V.out, dig, ← X.out, Int.natCast_emod, Int.natCast_ediv, Int.natCast_pow]; rfl
      go_wp2_with fail
      rw [← hwz]
      go_roundw
      case rel => exact ⟨k + 1, by omega, by go_num, hgCz, hgDz, hgRz, hBz⟩
      case measure => simp [intOf]; omega
    · obtain rfl : k = 32 := by omega
      rw [dig_all] at hgD
      go_wp2_with (first | (refine wpList_load_row rfl 24 _ rfl (w.heap.size + 2) rfl 24 _ (0, 0) _ hgD Tryz.underlying24 rfl (by rw [digA_size]; exact info32) ?_) | (refine wpList_store_row rfl 24 _ _ rfl (w.heap.size + 1) (digA (dig c) 32) rfl rfl 24 _ hgR (by rw [digA_size]; exact info32) (by rw [digA_size, digA_size]) (digA_ok _ _) ?_))
      refine bodyPost_ret (v := .agg (digA (dig c) 32)) (results_cell_row Tryz.results67 _ _ (w.heap.size + 1) 24 _ (0, 0) _ rfl (setRow_heap _ _ _ _ _ _ hgR) Tryz.underlying24 rfl (by rw [digA_size]; exact info32)) rfl ?_
      exact ⟨rfl, below_setRow hB (by omega) _⟩

/-! The blocks of bytes, and of what is put behind them. -/
theorem pwn_congr (B B' : Nat → Nat) (j m : Nat) (h : ∀ i, i < 4 * j + m → B i = B' i) : pwn B j m = pwn B' j m := by
  induction m with
  | zero => rfl
  | succ m ih => rw [pwn, pwn, ih fun i hi => h i (by omega), h (4 * j + m) (by omega)]
theorem sched_congr (B B' : Nat → Nat) (h : ∀ i, i < 64 → B i = B' i) (k : Nat) : sched B k = sched B' k := by
  induction k with
  | zero =>
    simp only [sched]
    refine List.map_congr_left fun j hj => ?_
    have hj' : j < 16 := by simpa using hj
    rw [word, word, pwn_congr B B' j 4 fun i hi => h i (by omega)]
  | succ k ih => rw [sched, sched, ih]
theorem block_congr (c : Nat → UInt32) (B B' : Nat → Nat) (h : ∀ i, i < 64 → B i = B' i) : block c B = block c B' := by
  have e : wAt B = wAt B' := by funext t; rw [wAt, wAt, sched_congr B B' h]
  funext i
  rw [block, block, e]
theorem chainN_congr (L L' : Nat → Nat) (c : Nat → UInt32) (k : Nat) (h : ∀ i, i < 64 * k → L i = L' i) : chainN L c k = chainN L' c k := by
  induction k with
  | zero => rfl
  | succ k ih =>
    rw [chainN, chainN, ih fun i hi => h i (by omega)]
    exact block_congr _ _ _ fun i hi => h _ (by omega)
theorem chainN_add (L : Nat → Nat) (c : Nat → UInt32) (a b : Nat) : chainN L c (a + b) = chainN (fun i => L (64 * a + i)) (chainN L c a) b := by
  induction b with
  | zero => rfl
  | succ b ih =>
    rw [← Nat.add_assoc, chainN, chainN, ih]
    exact block_congr _ _ _ fun i _ => by rw [show 64 * (a + b) + i = 64 * a + (64 * b + i) from by omega]
def msgB (d : Nat → Nat) (n i : Nat) : Nat := if i < n then d i else padB n (i - n)
def msgLen (n : Nat) : Nat := n + padLen n
theorem msg_mod (n : Nat) : msgLen n % 64 = 0 := by unfold msgLen padLen noughts; omega
theorem sumC_msg (d : Nat → Nat) (n : Nat) : chainN (msgB d n) hW (msgLen n / 64) = sumC d n := by
  have e : msgLen n / 64 = n / 64 + endLen n / 64 := by unfold msgLen endLen padLen noughts; omega
  rw [e, chainN_add, sumC, chainN_congr (msgB d n) d hW (n / 64) fun i hi => by rw [msgB, if_pos (by omega)]]
  refine chainN_congr _ _ _ _ fun i _ => ?_
  unfold msgB endB
  by_cases h : i < n % 64
  · rw [if_pos h, if_pos (by omega)]
  · rw [if_neg h, if_neg (by omega)]
    congr 1
    omega
theorem msg_cells (d : Nat → Nat) (n : Nat) : cells d n ++ cells (padB n) (padLen n) = cells (msgB d n) (msgLen n) :=
  cells_append _ _ _ _ _ (fun i hi => by rw [msgB, if_pos hi]) fun i _ => by rw [msgB, if_neg (by omega)]; congr 1; omega
theorem msgB_lt (d : Nat → Nat) (hd : ∀ i, d i < 256) (n i : Nat) : msgB d n i < 256 := by unfold msgB; split; exact hd _; exact padB_lt _ _
end Go.Proofs.YtbniilajffjfcaaGreatDoor.Sha

/- The walk of the law ShaChains. -/
namespace Go.Proofs.YtbniilajffjfcaaGreatDoor.Sha
open Go.RowKit Go.BigFrame

/-- What is known of bytes of the call's own, in a block that is known whole. -/
def Row (cur : Array Value) (T : Nat) (m : Nat → Nat) : Prop := ∀ i, i < T → cur[i]? = some (.int .u8 (m i : Int))
theorem own_block {w : World} {base n : Nat} {e : TypeId} {v : Value} {d : Nat → Nat} (h : w.ownsRow base e 1 v n (cells d n)) (hn : 0 < n) :
    ∃ g cap cur, v = .slice (some ⟨g, 0, none⟩) n cap ∧ base ≤ g ∧ w.heap[g]? = some (.cells cur e (0, 0)) ∧ Row cur n d ∧ n ≤ cap ∧ cap ≤ maxLen := by
  obtain ⟨hl, ⟨rfl, h0⟩ | ⟨g, cap, cur, rfl, hg, hgg, h1, h2, h3, h4⟩⟩ := h
  · omega
  · refine ⟨g, cap, cur, rfl, hg, hgg, fun j hj => ?_, h1, h2⟩
    have := cells_get d n j hj
    rw [← h4, List.getElem?_take_of_lt (by omega)] at this
    simpa using this
def cpTo (m : Nat → Nat) (a j i : Nat) : Nat := if i < j then m (a + i) else 0
theorem cp_zero (m : Nat → Nat) (a : Nat) : digA (fun _ => 0) 64 = digA (cpTo m a 0) 64 := digA_congr _ _ _ fun i _ => by simp [cpTo]
theorem cp_all (m : Nat → Nat) (a : Nat) : digA (cpTo m a 64) 64 = digA (fun i => m (a + i)) 64 := digA_congr _ _ _ fun i hi => by simp [cpTo, hi]
theorem cp_set (m : Nat → Nat) (a j : Nat) : (digA (cpTo m a j) 64).setIfInBounds j (.int .u8 (m (a + j) : Int)) = digA (cpTo m a (j + 1)) 64 := by
  have e : m (a + j) = cpTo m a (j + 1) j := by simp [cpTo]
  rw [e]
  exact digA_set _ _ _ _ fun i _ hne => by unfold cpTo; split <;> split <;> first | rfl | omega
theorem zeros64 : #[Value.int IntKind.u8 0, Value.int IntKind.u8 0, Value.int IntKind.u8 0, Value.int IntKind.u8 0, Value.int IntKind.u8 0, Value.int IntKind.u8 0, Value.int IntKind.u8 0, Value.int IntKind.u8 0, Value.int IntKind.u8 0, Value.int IntKind.u8 0, Value.int IntKind.u8 0, Value.int IntKind.u8 0, Value.int IntKind.u8 0, Value.int IntKind.u8 0, Value.int IntKind.u8 0, Value.int IntKind.u8 0, Value.int IntKind.u8 0, Value.int IntKind.u8 0, Value.int IntKind.u8 0, Value.int IntKind.u8 0, Value.int IntKind.u8 0, Value.int IntKind.u8 0, Value.int IntKind.u8 0, Value.int IntKind.u8 0, Value.int IntKind.u8 0, Value.int IntKind.u8 0, Value.int IntKind.u8 0, Value.int IntKind.u8 0, Value.int IntKind.u8 0, Value.int IntKind.u8 0, Value.int IntKind.u8 0, Value.int IntKind.u8 0, Value.int IntKind.u8 0, Value.int IntKind.u8 0, Value.int IntKind.u8 0, Value.int IntKind.u8 0, Value.int IntKind.u8 0, Value.int IntKind.u8 0, Value.int IntKind.u8 0, Value.int IntKind.u8 0, Value.int IntKind.u8 0, Value.int IntKind.u8 0, Value.int IntKind.u8 0, Value.int IntKind.u8 0, Value.int IntKind.u8 0, Value.int IntKind.u8 0, Value.int IntKind.u8 0, Value.int IntKind.u8 0, Value.int IntKind.u8 0, Value.int IntKind.u8 0, Value.int IntKind.u8 0, Value.int IntKind.u8 0, Value.int IntKind.u8 0, Value.int IntKind.u8 0, Value.int IntKind.u8 0, Value.int IntKind.u8 0, Value.int IntKind.u8 0, Value.int IntKind.u8 0, Value.int IntKind.u8 0, Value.int IntKind.u8 0, Value.int IntKind.u8 0, Value.int IntKind.u8 0, Value.int IntKind.u8 0, Value.int IntKind.u8 0] = digA (fun _ => 0) 64 := rfl
def SC (gC : Nat) (c : Nat → UInt32) (w : World) : Prop := w.rangeAt gC 0 (wcells c 8) ∧ gC < w.heap.size
theorem SC.below {gC : Nat} {c : Nat → UInt32} {w w' : World} (s : SC gC c w) (hb : Below w.heap.size w w') : SC gC c w' := ⟨range_below hb s.2 s.1, Nat.lt_of_lt_of_le s.2 hb.size⟩
theorem range_words (w : World) (g : Nat) (c : Nat → UInt32) (n : Nat) (t : TypeId) (hg : w.heap[g]? = some (.cells (wrow c n) t (0, 0))) : w.rangeAt g 0 (wcells c n) := fun j v hv => by
  have hj : j < n := by
    have := (List.getElem?_eq_some_iff.1 hv).1
    rwa [wcells_len] at this
  rw [wcells_get _ _ _ hj] at hv
  rw [Nat.zero_add, cell_of_row _ _ _ _ _ _ hg, wrow_get _ _ _ hj, hv]
theorem info8c (c : Nat → UInt32) : (Tryz.prog.info? 98).map (·.size) = some (wcells c 8).length := by rw [wcells_len]; exact info8w

end Go.Proofs.YtbniilajffjfcaaGreatDoor.Sha
