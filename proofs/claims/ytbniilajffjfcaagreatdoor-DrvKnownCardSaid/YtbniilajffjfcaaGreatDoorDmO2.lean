/- drv's reference: get, parts, Get. -/
import Derived.Test.YtbniilajffjfcaaGreatDoorDmO1
set_option linter.unusedVariables false
set_option linter.unusedSimpArgs false
namespace Go.Proofs.YtbniilajffjfcaaGreatDoor
open Go.RowKit Go.BigFrame

theorem natOf_four (l : List UInt8) (h : 4 ≤ l.length) : natOf (l.take 4) = ((l.getD 0 0).toNat * 16777216 + (l.getD 1 0).toNat * 65536 + (l.getD 2 0).toNat * 256 + (l.getD 3 0).toNat) := by
  rw [natOf_take l 3 (by omega), natOf_take l 2 (by omega), natOf_take l 1 (by omega), natOf_take l 0 (by omega)]
  simp [natOf]
  omega
theorem dOf_drop (b : List UInt8) (a k : Nat) : dOf b (a + k) = ((b.drop a).getD k 0).toNat := by
  simp [dOf, List.getD, List.getElem?_drop]
def GetAtP (b : List UInt8) (a : Nat) (w : World) (e : Ending) (w' : World) : Prop :=
  (∃ nq, w' = w.drewN nq) ∧ (match rdText (b.drop a) with
    | some (t, _) => e = .returned (.tuple #[.string (strOf t), .int .i64 ((a + 4 + t.length : Nat) : Int), .bool true])
    | none => e = .returned (.tuple #[.string ⟨#[]⟩, .int .i64 0, .bool false]))
theorem GetAtP.no {b : List UInt8} {a : Nat} {w w' : World} (h : rdText (b.drop a) = none) (hw : ∃ nq, w' = w.drewN nq) : GetAtP b a w (.returned (.tuple #[.string ⟨#[]⟩, .int .i64 0, .bool false])) w' := by
  refine ⟨hw, ?_⟩; rw [h]
theorem GetAtP.yes {b t r : List UInt8} {a : Nat} {w w' : World} (h : rdText (b.drop a) = some (t, r)) (hw : ∃ nq, w' = w.drewN nq) : GetAtP b a w (.returned (.tuple #[.string (strOf t), .int .i64 ((a + 4 + t.length : Nat) : Int), .bool true])) w' := by
  refine ⟨hw, ?_⟩; rw [h]
theorem Byt.drewN {w : World} {u : Value} {l : List UInt8} (h : Byt w u l) (q : Nat) : Byt (w.drewN q) u l := by
  obtain ⟨A, cap, e, h1, h2, h3, h4⟩ := h
  refine ⟨A, cap, e, h1, h2, ?_, h4⟩
  have hb := below_drewN (Below.refl w.heap.size w) q
  rw [heap_drewN]
  exact h3.below hb
theorem sub_conv {w : World} {ad : Addr} {cap a4 n : Nat} {b : List UInt8} (hl : a4 + n ≤ b.length) (hn : b.length ≤ cap) (hc : ∀ j, j < b.length → w.cell? (ad.add j) = some (.int .u8 (dOf b j : Int))) :
    (convert 26 9 (.slice (some (ad.add a4)) n (cap - a4))).run Tryz.prog w = .ok (.string (strOf ((b.drop a4).take n))) w := by
  have hlen : ((b.drop a4).take n).length = n := by rw [List.length_take, List.length_drop]; omega
  have hd : ∀ j, j < n → dOf ((b.drop a4).take n) j = dOf b (a4 + j) := fun j hj => by
    rw [dOf_drop]; simp [dOf, List.getD, List.getElem?_take, hj]
  have h := run_convert_bytes_back (P := Tryz.prog) w 26 9 5 (ad.add a4) (cap - a4) ((b.drop a4).take n) Tryz.underlying26 Tryz.underlying5 Tryz.underlying9 (fun j hj => by
    rw [hlen] at hj
    rw [add_add, hc (a4 + j) (by omega), ← hd j hj]
    have hjl : a4 + j < b.length := by omega
    simp [dOf, List.getD, List.getElem?_take, List.getElem?_drop, hj, hjl])
  rw [hlen] at h
  exact h
theorem empty_conv (w : World) (ad : Addr) :
    (convert 26 9 (.slice (some ad) 0 0)).run Tryz.prog w = .ok (.string ⟨#[]⟩) w :=
  run_convert_bytes_back (P := Tryz.prog) w 26 9 5 ad 0 [] Tryz.underlying26 Tryz.underlying5 Tryz.underlying9 (fun j hj => absurd hj (Nat.not_lt_zero j))
set_option maxRecDepth 100000 in
set_option maxHeartbeats 2000000 in
theorem refGet_any (u : Value) (b : List UInt8) (a : Nat) (w : World) (hu : Byt w u b) (hl : b.length ≤ 1000000) (ha : a ≤ 2000000) :
    Calls Tryz.prog 71 #[u, .int .i64 (a : Int)] w (GetAtP b a w) := by
  obtain ⟨A, cap, rfl, hnc, hcm, hh, hz⟩ := hu
  have HNO := Lib.hid (fun (w' : World) (h : rdText (b.drop a) = none) (hw : ∃ nq, w' = w.drewN nq) => GetAtP.no h hw)
  have HYES := Lib.hid (fun (t r : List UInt8) (w' : World) (h : rdText (b.drop a) = some (t, r)) (hw : ∃ nq, w' = w.drewN nq) => GetAtP.yes h hw)
  generalize GetAtP b a w = post at *
  unfold maxLen at hcm
  by_cases h4 : a + 4 ≤ b.length
  · obtain ⟨a4, ha4⟩ : ∃ a4, a4 = a + 4 := ⟨_, rfl⟩
    have ea4 : (a : Int) + 4 = (a4 : Int) := by omega
    have HA4 := Lib.hid ha4
    have hn4 : ¬ (b.length : Int) < (a4 : Int) := by omega
    clear ha4
    obtain ⟨ad, rfl, hbl, hc⟩ := hh (by omega)
    have h0 := hc (a + 0) (by omega)
    have h1 := hc (a + 1) (by omega)
    have h2 := hc (a + 2) (by omega)
    have h3 := hc (a + 3) (by omega)
    rw [dOf_drop] at h0 h1 h2 h3
    have HN4 := Lib.hid (natOf_four (b.drop a) (by rw [List.length_drop]; omega))
    have hb0 := ((b.drop a).getD 0 0).toNat_lt
    have hb1 := ((b.drop a).getD 1 0).toNat_lt
    have hb2 := ((b.drop a).getD 2 0).toNat_lt
    have hb3 := ((b.drop a).getD 3 0).toNat_lt
    have HHC := Lib.hid hc
    clear hc hh hz
    generalize ((b.drop a).getD 0 0).toNat = c0 at *
    generalize ((b.drop a).getD 1 0).toNat = c1 at *
    generalize ((b.drop a).getD 2 0).toNat = c2 at *
    generalize ((b.drop a).getD 3 0).toNat = c3 at *
    rw [Nat.add_zero] at h0
    obtain ⟨a1, ha1⟩ : ∃ a1, a1 = a + 1 := ⟨_, rfl⟩
    obtain ⟨a2, ha2⟩ : ∃ a2, a2 = a + 2 := ⟨_, rfl⟩
    obtain ⟨a3, ha3⟩ : ∃ a3, a3 = a + 3 := ⟨_, rfl⟩
    rw [← ha1] at h1
    rw [← ha2] at h2
    rw [← ha3] at h3
    have ea1 : IntKind.i64.wrap ((a : Int) + 1) = (a1 : Int) := (IntWalk.i64_in _ (by omega)).trans (by omega)
    have ea2 : IntKind.i64.wrap ((a : Int) + 2) = (a2 : Int) := (IntWalk.i64_in _ (by omega)).trans (by omega)
    have ea3 : IntKind.i64.wrap ((a : Int) + 3) = (a3 : Int) := (IntWalk.i64_in _ (by omega)).trans (by omega)
    have hi0 : (a : Int) < (b.length : Int) := by omega
    have hi1 : (a1 : Int) < (b.length : Int) := by omega
    have hi2 : (a2 : Int) < (b.length : Int) := by omega
    have hi3 : (a3 : Int) < (b.length : Int) := by omega
    clear ha1 ha2 ha3
    have w0 : IntKind.i64.wrap (c0 : Int) = (c0 : Int) := IntWalk.i64_in _ (by omega)
    have w1 : IntKind.i64.wrap (c1 : Int) = (c1 : Int) := IntWalk.i64_in _ (by omega)
    have w2 : IntKind.i64.wrap (c2 : Int) = (c2 : Int) := IntWalk.i64_in _ (by omega)
    have w3 : IntKind.i64.wrap (c3 : Int) = (c3 : Int) := IntWalk.i64_in _ (by omega)
    have s0 : IntKind.i64.wrap ((c0 : Int) * 16777216) = (c0 : Int) * 16777216 := IntWalk.i64_in _ (by omega)
    have s1 : IntKind.i64.wrap ((c1 : Int) * 65536) = (c1 : Int) * 65536 := IntWalk.i64_in _ (by omega)
    have s2 : IntKind.i64.wrap ((c2 : Int) * 256) = (c2 : Int) * 256 := IntWalk.i64_in _ (by omega)
    have t1 : IntKind.i64.wrap ((c0 : Int) * 16777216 + (c1 : Int) * 65536) = (c0 : Int) * 16777216 + (c1 : Int) * 65536 := IntWalk.i64_in _ (by omega)
    have t2 : IntKind.i64.wrap ((c0 : Int) * 16777216 + (c1 : Int) * 65536 + (c2 : Int) * 256) = (c0 : Int) * 16777216 + (c1 : Int) * 65536 + (c2 : Int) * 256 := IntWalk.i64_in _ (by omega)
    have HTX := Lib.hid (show natOf ((b.drop a).take 4) + a + 4 ≤ b.length → rdText (b.drop a) = some ((b.drop (a + 4)).take (natOf ((b.drop a).take 4)), (b.drop (a + 4)).drop (natOf ((b.drop a).take 4))) from fun h => by
      unfold rdText
      rw [if_pos ⟨by rw [List.length_drop]; omega, by rw [List.drop_drop, List.length_drop]; omega⟩, List.drop_drop])
    have HTN := Lib.hid (show ¬ natOf ((b.drop a).take 4) + a + 4 ≤ b.length → rdText (b.drop a) = none from fun h => by
      unfold rdText
      rw [if_neg (fun e => by have := e.2; rw [List.drop_drop, List.length_drop] at this; omega)])
    have HN4' := HN4.out
    have hnb := natOf_le ((b.drop a).take 4) (by rw [List.length_take]; omega)
    generalize natOf ((b.drop a).take 4) = n at *
    have t3 : IntKind.i64.wrap ((c0 : Int) * 16777216 + (c1 : Int) * 65536 + (c2 : Int) * 256 + (c3 : Int)) = (n : Int) := (IntWalk.i64_in _ (by omega)).trans (by omega)
    clear HN4' HN4
    go_enter Tryz.func71, Tryz.ntmps71
    go_wp2
    go_quiet (fail)
    clear ea1 ea2 ea3 hi1 hi2 hi3 w0 w1 w2 w3 s0 s1 s2 t1 t2 t3 h0 h1 h2 h3
    clear hb0 hb1 hb2 hb3
    by_cases hfit : n + a + 4 ≤ b.length
    · have hf : ¬ ((b.length : Int) - (a : Int) - 4 < (n : Int)) := by omega
      have HR := Lib.hid (HTX.out hfit)
      obtain ⟨a5, ha5⟩ : ∃ a5, a5 = a4 + n := ⟨_, rfl⟩
      have ea5 : (a4 : Int) + (n : Int) = (a5 : Int) := by omega
      have h45 : (a4 : Int) ≤ (a5 : Int) := by omega
      have h5c : (a5 : Int) ≤ (cap : Int) := by have := HA4.out; omega
      have h5l : (a5 : Int) ≤ (b.length : Int) := by have := HA4.out; omega
      have HA5 := Lib.hid ha5
      clear ha5
      have hcell : ∀ j, j < b.length → (w.drewN nq).cell? (ad.add j) = some (.int .u8 (dOf b j : Int)) := fun j hj => (cell_drew rfl _).trans (HHC.out j hj)
      have hcv := sub_conv (w := w.drewN nq) (ad := ad) (cap := cap) (a4 := a4) (n := n) (b := b) (by have := HA4.out; omega) hnc hcell
      have hce := empty_conv (w.drewN nq) ad
      have h54 : a5 - a4 = n := by have := HA5.out; omega
      rw [← HA4.out] at HR
      have HTL := Lib.hid (show ((b.drop a4).take n).length = n by rw [List.length_take, List.length_drop]; have := HA4.out; omega)
      have HFIN := Lib.hid (HYES.out _ _ (w.drewN nq) HR.out ⟨nq, rfl⟩)
      rw [HTL.out, show a + 4 + n = a5 by have := HA4.out; have := HA5.out; omega] at HFIN
      clear hcell
      by_cases hcap : cap = a4
      · have hn0 : n = 0 := by have := HA4.out; omega
        have HZ := Lib.hid (show strOf ((b.drop a4).take n) = ⟨#[]⟩ by rw [hn0]; rfl)
        rw [HZ.out] at HFIN
        have h54' : a5 - a4 = 0 := by omega
        clear hcv hn0 h54
        go_wp2_with fail
        go_ret3
        exact HFIN.out
      · generalize strOf ((b.drop a4).take n) = r at *
        go_wp2_with fail
        go_ret3
        exact HFIN.out
    · have hf : (b.length : Int) - (a : Int) - 4 < (n : Int) := by omega
      have HR := Lib.hid (HTN.out hfit)
      clear hfit
      go_wp2_with fail
      go_ret3
      exact HNO.out _ HR.out ⟨_, rfl⟩
  · have hn4 : (b.length : Int) < (a : Int) + 4 := by omega
    have HR := Lib.hid (show rdText (b.drop a) = none by unfold rdText; rw [if_neg (fun e => by have := e.1; rw [List.length_drop] at this; omega)])
    clear hh hz
    go_enter Tryz.func71, Tryz.ntmps71
    go_wp2
    go_ret3
    exact HNO.out _ HR.out ⟨0, rfl⟩
end Go.Proofs.YtbniilajffjfcaaGreatDoor

/- drv's reference: parts. -/
namespace Go.Proofs.YtbniilajffjfcaaGreatDoor
open Go.RowKit Go.BigFrame

theorem rdText_rest {l t r : List UInt8} (h : rdText l = some (t, r)) : r = l.drop (4 + t.length) ∧ 4 + t.length ≤ l.length := by
  unfold rdText at h
  split at h
  · rename_i hc
    obtain ⟨rfl, rfl⟩ := Prod.mk.inj (Option.some.inj h)
    obtain ⟨h1, h2⟩ := hc
    have hl : ((l.drop 4).take (natOf (l.take 4))).length = natOf (l.take 4) := by rw [List.length_take]; omega
    rw [hl]
    rw [List.length_drop] at h2
    exact ⟨by rw [List.drop_drop], by omega⟩
  · cases h
def PartsP (b : List UInt8) (w : World) (e : Ending) (w' : World) : Prop :=
  Below w.heap.size w w' ∧ (match getS b with
    | some (nm, ins, rc) => ∃ v, e = .returned (.tuple #[.agg #[.string nm, v, .string rc], .bool true]) ∧ w'.ownsRow w.heap.size 9 1 v ins.length (strs ins)
    | none => ∃ s A n cap t, e = .returned (.tuple #[.agg #[.string s, .slice A n cap, .string t], .bool false]))
theorem PartsP.no {b : List UInt8} {w w' : World} (h : getS b = none) (hb : Below w.heap.size w w') (s : ByteArray) (A : Option Addr) (n cap : Nat) (t : ByteArray) : PartsP b w (.returned (.tuple #[.agg #[.string s, .slice A n cap, .string t], .bool false])) w' := by
  refine ⟨hb, ?_⟩; rw [h]; exact ⟨s, A, n, cap, t, rfl⟩
theorem PartsP.yes {b : List UInt8} {nm : ByteArray} {ins : List ByteArray} {rc : ByteArray} {w w' : World} {v : Value} (h : getS b = some (nm, ins, rc)) (hb : Below w.heap.size w w') (ho : w'.ownsRow w.heap.size 9 1 v ins.length (strs ins)) :
    PartsP b w (.returned (.tuple #[.agg #[.string nm, v, .string rc], .bool true])) w' := by
  refine ⟨hb, ?_⟩; rw [h]; exact ⟨v, rfl, ho⟩
theorem own_drewNq {w : World} {base : Nat} {e : TypeId} {size : Nat} {v : Value} {n : Nat} {xs : List Value} (h : w.ownsRow base e size v n xs) (q : Nat) : (w.drewN q).ownsRow base e size v n xs := by
  induction q with
  | zero => exact h
  | succ q ih => exact ih.drew
/-- The inputs that are read so far: the place, the texts. -/
structure PSt (w : World) (b t1 : List UInt8) (a0 gd B1 j a : Nat) (iv : Value) (rs : List ByteArray) (wr : World) : Prop where
  res : wr.heap[w.heap.size]? = some (.cells #[.string ⟨#[]⟩, .slice none 0 0, .string ⟨#[]⟩] 28 (0, 0))
  drv : wr.heap[gd]? = some (.cells #[.string (strOf t1), iv, .string ⟨#[]⟩] 28 (0, 0))
  own : wr.ownsRow B1 9 1 iv rs.length (strs rs)
  len : rs.length = j
  below : Below w.heap.size w wr
  texts : ∃ ts, rdTexts j (b.drop a0) = some (ts, b.drop a) ∧ rs = ts.map strOf
  le : a ≤ b.length
  small : ∀ s ∈ rs, s.size ≤ 1000000
  bl : b.length ≤ 1000000
  ord : w.heap.size < gd ∧ gd < B1 ∧ B1 ≤ wr.heap.size
theorem PSt.drewN {w : World} {b t1 : List UInt8} {a0 gd B1 j a : Nat} {iv : Value} {rs : List ByteArray} {wr : World} (H : PSt w b t1 a0 gd B1 j a iv rs wr) (q : Nat) : PSt w b t1 a0 gd B1 j a iv rs (wr.drewN q) :=
  ⟨by rw [heap_drewN]; exact H.res, by rw [heap_drewN]; exact H.drv, own_drewNq H.own q, H.len, below_drewN H.below q, H.texts, H.le, H.small, H.bl, by rw [heap_drewN]; exact H.ord⟩
theorem PSt.step {w : World} {b t1 : List UInt8} {a0 gd B1 j a : Nat} {iv : Value} {rs : List ByteArray} {wr : World} (H : PSt w b t1 a0 gd B1 j a iv rs wr) {t r : List UInt8} (hr : rdText (b.drop a) = some (t, r)) {w5 : World} {v' : Value}
    (ho : w5.ownsRow B1 9 1 v' (rs.length + 1) (strs rs ++ [.string (strOf t)])) (hg : (wr.alloc (.cells #[.string (strOf t)] 9)).grownBy w5 iv.ownBlock) :
    PSt w b t1 a0 gd B1 (j + 1) (a + 4 + t.length) v' (rs ++ [strOf t]) (w5.setCell ⟨gd, 1, none⟩ v') := by
  obtain ⟨o1, o2, o3⟩ := H.ord
  obtain ⟨hr1, hr2⟩ := rdText_rest hr
  have hB : ∀ k, iv.ownBlock = some k → B1 ≤ k := fun k e => (H.own.lt k e).1
  have keep : ∀ {k : Nat} {o : Obj}, wr.heap[k]? = some o → k < B1 → w5.heap[k]? = some o := fun {k o} h h2 =>
    (hg.block k (by simp; omega) (fun e => by have := hB k e.symm; omega)).trans ((old_block wr _ k (block_lt h)).trans h)
  have hres := keep H.res (by omega)
  have hdrv := keep H.drv (by omega)
  have hown : (w5.setCell ⟨gd, 1, none⟩ v').ownsRow B1 9 1 v' (rs.length + 1) (strs rs ++ [.string (strOf t)]) :=
    ownsRow_setCell_other ho (a := ⟨gd, 1, none⟩) (fun e => by have := (ho.lt gd e).1; omega) v'
  have hal : a ≤ b.length := H.le
  rw [List.length_drop] at hr2
  refine ⟨(Below.heap_setCell _ _ _ _ (show w.heap.size ≠ gd by omega)).trans hres, blk_set hdrv 1 v', ?_, by rw [List.length_append, H.len]; rfl, ?_, ?_, by omega, ?_, H.bl, ⟨o1, o2, ?_⟩⟩
  · rw [strs_snoc, List.length_append]; exact hown
  · exact ((H.below.alloc H.below.size _).grown hg (by have := H.below.size; simp; omega) (fun k e => by have := hB k e; omega)).setCell (by show w.heap.size ≤ gd; omega) _
  · obtain ⟨ts, h1, rfl⟩ := H.texts
    refine ⟨ts ++ [t], ?_, by simp⟩
    rw [rdTexts, h1, Option.bind_some, hr, Option.map_some, hr1, List.drop_drop]
    rw [show a + (4 + t.length) = a + 4 + t.length by omega]
  · intro s hs'
    rcases List.mem_append.1 hs' with h | h
    · exact H.small s h
    · rw [List.mem_singleton.1 h, strOf_size]
      have := H.bl
      omega
  · have := hg.size
    simp at this ⊢
    omega
theorem head_conv {w : World} {u : Value} {b : List UInt8} (hu : Byt w u b) (h : 4 ≤ b.length) : ∃ ad cap, u = .slice (some ad) b.length cap ∧ b.length ≤ cap ∧
    (convert 26 9 (.slice (some ad) 4 cap)).run Tryz.prog w = .ok (.string (strOf (b.take 4))) w := by
  obtain ⟨A, cap, rfl, h1, h2, h3, h4⟩ := hu
  obtain ⟨ad, rfl, hbl, hc⟩ := h3 (by omega)
  have := sub_conv (w := w) (ad := ad) (cap := cap) (a4 := 0) (n := 4) (b := b) (by omega) h1 hc
  rw [add_zero, Nat.sub_zero, List.drop_zero] at this
  exact ⟨ad, cap, rfl, h1, this⟩
theorem magic_of {b : List UInt8} (h : 4 ≤ b.length) : magic.isPrefixOf b = decide (b.take 4 = magic) := by
  match b, h with
  | a :: c :: d :: e :: l, _ => 
    rw [Bool.eq_iff_iff, List.isPrefixOf_iff_prefix, decide_eq_true_iff]
    constructor
    · rintro ⟨t, ht⟩
      rw [← ht]; rfl
    · intro h
      exact ⟨l, by rw [← h]; rfl⟩
end Go.Proofs.YtbniilajffjfcaaGreatDoor
