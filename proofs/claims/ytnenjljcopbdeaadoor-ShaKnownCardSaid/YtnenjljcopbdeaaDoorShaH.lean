/- The contract of Hex. -/
import Derived.Test.YtnenjljcopbdeaaDoorShaG
import Derived.Laws.IdiomStrings
import Derived.Deep.RegionHeld3
namespace Go.Proofs.YtnenjljcopbdeaaDoor
open Go.RowKit

def hexD (x : Nat) : Nat := if x < 10 then x + 48 else x + 87
/-- A digest's digits. -/
def hexB (d : Nat → Nat) (i : Nat) : Nat := hexD (if i % 2 = 0 then d (i / 2) / 16 else d (i / 2) % 16)
theorem hexD_lt (x : Nat) (h : x < 16) : hexD x < 256 := by unfold hexD; split <;> omega
theorem hexB_lt (d : Nat → Nat) (hd : ∀ i, d i < 256) (i : Nat) : hexB d i < 256 := by
  have := hd (i / 2)
  unfold hexB
  split <;> exact hexD_lt _ (by omega)
def txt (d : Nat → Nat) (n : Nat) : List UInt8 := (List.range n).map fun i => UInt8.ofNat (d i)
theorem txt_len (d : Nat → Nat) (n : Nat) : (txt d n).length = n := by simp [txt]
theorem txt_cells (d : Nat → Nat) (n : Nat) (hd : ∀ i, d i < 256) : cells d n = (txt d n).map fun c => Value.int .u8 (c.toNat : Int) := by
  simp only [cells, txt, List.map_map]
  refine List.map_congr_left fun i _ => ?_
  have := hd i
  simp only [Function.comp, UInt8.toNat_ofNat']
  congr 2
  omega
def strOf (l : List UInt8) : ByteArray := ⟨l.toArray⟩
theorem strOf_size (l : List UInt8) : (strOf l).size = l.length := by simp [strOf, ByteArray.size]
def hexS (d : Nat → Nat) : ByteArray := strOf (txt (hexB d) 64)
theorem hex_two (d : Nat → Nat) (k : Nat) : cells (hexB d) (2 * k) ++ [Value.int .u8 (hexD (d k / 16) : Int), Value.int .u8 (hexD (d k % 16) : Int)] = cells (hexB d) (2 * k + 2) := by
  rw [show 2 * k + 2 = (2 * k + 1) + 1 from rfl, cells_succ, cells_succ, List.append_assoc]
  have e1 : hexB d (2 * k) = hexD (d k / 16) := by unfold hexB; rw [if_pos (by omega), show 2 * k / 2 = k from by omega]
  have e2 : hexB d (2 * k + 1) = hexD (d k % 16) := by unfold hexB; rw [if_neg (by omega), show (2 * k + 1) / 2 = k from by omega]
  rw [e1, e2]
  rfl
theorem and15 (c : Nat) (h : c < 256) : bits BinOp.and IntKind.u8 (c : Int) 15 = ((c % 16 : Nat) : Int) := by
  have e : ∀ c : Fin 256, bits BinOp.and IntKind.u8 (c.val : Int) 15 = ((c.val % 16 : Nat) : Int) := by decide +kernel
  exact e ⟨c, h⟩
theorem digit_idx (x : Nat) (h : x < (ByteArray.mk #[48, 49, 50, 51, 52, 53, 54, 55, 56, 57, 97, 98, 99, 100, 101, 102]).size) : ((ByteArray.mk #[48, 49, 50, 51, 52, 53, 54, 55, 56, 57, 97, 98, 99, 100, 101, 102])[x]).toNat = hexD x := by
  have e : ∀ v : Fin 16, ((ByteArray.mk #[48, 49, 50, 51, 52, 53, 54, 55, 56, 57, 97, 98, 99, 100, 101, 102])[v.val]'(v.isLt)).toNat = hexD v.val := by decide +kernel
  exact e ⟨x, h⟩
theorem convert_own {P : Program} {wr : World} {base : Nat} {E src dst : TypeId} {v : Value} {l : List UInt8} (hown : wr.ownsRow base E 1 v l.length (l.map fun c => Value.int .u8 (c.toNat : Int)))
    (hs : P.underlying src = some (.slice E)) (he : P.underlying E = some (.int .u8)) (hd : P.underlying dst = some .string) :
    (convert src dst v).run P wr = .ok (.string (strOf l)) wr := by
  obtain ⟨hl, ⟨rfl, h0⟩ | ⟨g, cap, cur, rfl, hg, hgg, hn, hcm, hcs, htk⟩⟩ := hown
  · have : l = [] := List.eq_nil_of_length_eq_zero h0
    subst this
    rw [run_convert_bytes_string wr src dst E none 0 0 hs he hd]
    simp [Conv.bytesToString, strOf]
    rfl
  · refine run_convert_bytes_back wr src dst E ⟨g, 0, none⟩ cap l hs he hd fun j hj => ?_
    have h1 : wr.cell? ((⟨g, 0, none⟩ : Addr).add j) = cur[j]? := by
      unfold Addr.add
      split
      · rename_i h; subst h; simp [World.cell?, hgg]
      · simp [World.cell?, hgg]
    have : (l.map fun c => Value.int .u8 (c.toNat : Int))[j]? = some (.int .u8 (l[j].toNat : Int)) := by simp [List.getElem?_eq_getElem hj]
    rw [← htk, List.getElem?_take_of_lt (by omega)] at this
    rw [h1]
    simpa using this

set_option maxRecDepth 100000 in
set_option maxHeartbeats 400000 in
theorem hex_any (d : Nat → Nat) (hd : ∀ i, d i < 256) (w : World) :
    Calls Tryd.prog 19 #[.agg (digA d 32)] w fun e w' => e = .returned (.string (hexS d)) ∧ Below w.heap.size w w' := by
  have HD := Lib.hid hd
  clear hd
  obtain ⟨i0, hi, hz0, hz1, hz2⟩ := info_parts infoU8
  go_enter Tryd.func19, Tryd.ntmps19
  go_upto_region 1 with (fail)
  obtain ⟨w1, hw1, hgD, hb, hsz⟩ : ∃ w1, w1 = w.alloc (.cells (digA d 32) 33) ∧ w1.heap[w.heap.size]? = some (.cells (digA d 32) 33) ∧ Below w.heap.size w w1 ∧ w1.heap.size = w.heap.size + 1 :=
    ⟨_, rfl, heap_alloc_new w _, (Below.refl _ _).alloc (Nat.le_refl _) _, by simp⟩
  rw [← hw1]
  clear hw1
  go_wp2_with (at_make; refine wpList_make_own _ rfl _ _ 23 rfl (w.heap.size + 1) 5 i0 (.int .u8 0) 1 Tryd.underlying23 hi hz0 hz1 .i64 .i64 _ 64 rfl rfl rfl ?m1 ?m2 ?m3 ?_)
  case m1 => omega
  case m2 => unfold maxLen; omega
  case m3 => omega
  intro w2 hown hg2
  have hgD2 := kept hgD hg2 (fun h => by cases h)
  have hb2 := hb.grown hg2 (by omega) (fun _ h => by cases h)
  have hlt2 : w.heap.size < w2.heap.size := block_lt hgD2
  clear hg2 hgD hb hsz
  go_wp2_with (refine wpList_load_row rfl 33 _ rfl w.heap.size rfl 33 _ (0, 0) _ hgD2 Tryd.underlying33 rfl (by rw [digA_size]; exact info32) ?_)
  clear hgD2
  go_loopw [3, 8] (fun v i wr => ∃ k : Nat, k ≤ 32 ∧ i = .int .i64 k ∧ wr.ownsRow (w.heap.size + 1) 5 1 v (2 * k) (cells (hexB d) (2 * k)) ∧ Below w.heap.size w wr ∧ w.heap.size < wr.heap.size) (fun _ i _ => 32 - (intOf i).toNat)
  case atStart => exact ⟨0, by omega, rfl, hown, hb2, hlt2⟩
  case round =>
    clear hown hb2
    obtain ⟨k, hk, rfl, hown, hb, hsz⟩ := hrel
    by_cases hlt : k < 32
    · have hix := fun w => run_index_row w _ _ _ _ Tryd.underlying33 Tryd.underlying5 cellsU8 (digA d 32) k _ hlt (digA_get d 32 k hlt)
      have hdk := HD.out k
      have hxd : d k / 16 < 16 := by omega
      have hyd : d k % 16 < 16 := by omega
      have e1 : (d k : Int) / 16 = ((d k / 16 : Nat) : Int) := by omega
      have e2 := and15 (d k) hdk
      have HH := Lib.hid (hex_two d k)
      generalize d k / 16 = x at *
      generalize d k % 16 = y at *
      have hxi : (x : Int) < 16 := by omega
      have hyi : (y : Int) < 16 := by omega
      have hsx : x < (ByteArray.mk #[48, 49, 50, 51, 52, 53, 54, 55, 56, 57, 97, 98, 99, 100, 101, 102]).size := hxd
      have hsy : y < (ByteArray.mk #[48, 49, 50, 51, 52, 53, 54, 55, 56, 57, 97, 98, 99, 100, 101, 102]).size := hyd
      have gx := digit_idx x hsx
      have gy := digit_idx y hsy
      go_wp2_with fail
      go_region_held3 (fun w' => True) (trivial) ((refine step_append_lies _ (by rfl) _ _ _ (by rfl) (w.heap.size + 1) 5 i0 _ 1 1 Tryd.underlying23 hi hz0 hz1 hz2 rfl (by omega) _ (2 * k) _ (by rfl) ((hown.alloc _).drew) ⟨wr.heap.size, 0, none⟩ 2 2 [.int .u8 (hexD x : Int), .int .u8 (hexD y : Int)] (by rfl) (by rfl) (World.news_of_block (cs := #[.int .u8 (hexD x : Int), .int .u8 (hexD y : Int)]) (t := 5) (fr := (0, 0)) (heap_alloc_new wr _)) (by simp [Value.oneCell']) (by omega) (by unfold maxLen; omega) (by omega) (by simp; omega) (wr.heap.size + 1) (by simp) ?_; intro gg cap w1 hown1 hgrow hat hlt1))
      all_goals
        rw [HH.out] at hown1
        have hb1 := ((hb.alloc (by omega) (.cells #[.int .u8 (hexD x : Int), .int .u8 (hexD y : Int)] 5)).drew).grown hgrow (by simp; omega) (fun g hg => by have := (hown.lt g hg).1; omega)
        have hz1 : w.heap.size < w1.heap.size := Nat.lt_of_lt_of_le hsz (by have := hgrow.size; simp at this; omega)
        clear hown hgrow hat hlt1 hb
        go_wp2
        go_roundw
        case rel => exact ⟨k + 1, by omega, by go_num, hown1, hb1, hz1⟩
        case measure => simp [intOf]; omega
    · obtain rfl : k = 32 := by omega
      have hcv := convert_own (P := Tryd.prog) (src := 23) (dst := 9) (l := txt (hexB d) 64) (by rw [txt_len, ← txt_cells _ _ (hexB_lt d HD.out)]; exact hown) Tryd.underlying23 Tryd.underlying5 Tryd.underlying9
      go_wp2
      go_ret
      exact ⟨rfl, hb⟩
end Go.Proofs.YtnenjljcopbdeaaDoor
