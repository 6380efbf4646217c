/- The walk of the law FieldsPuts. -/
import Derived.Test.YtohojfgceaajfaaFldL
namespace Go.Proofs.Ytohojfgceaajfaa
open Go.RowKit

/-- The bytes of a text that came back from a slice, in a block of their own. -/
theorem bytes_block {P : Program} (w : World) (E src dst : TypeId) (d : Nat → Nat) (n : Nat) (hd : ∀ i, d i < 256) (hn : n ≤ maxLen) (hs : P.underlying src = some .string) (ht : P.underlying dst = some (.slice E)) (he : P.underlying E = some (.int .u8)) :
    ∃ cap cur w2 c0, n ≤ cap ∧ cap ≤ maxLen ∧ n ≤ c0 ∧ (convert src dst (.string (strOf (txt d n)))).run P w = .ok (.slice (some ⟨w.heap.size, 0, none⟩) n cap) w2 ∧ Below w.heap.size w w2 ∧ w2.heap[w.heap.size]? = some (.cells cur E (c0, c0 + 1)) ∧ (∀ j, j < n → cur[j]? = some (.int .u8 (d j : Int))) := by
  have h := run_bytes_of_string (P := P) w src dst E (strOf (txt d n)) hs ht he
  have hz : (strOf (txt d n)).size = n := by rw [strOf_size, txt_len]
  rw [hz] at h
  have h1 : (strOf (txt d n)).data = (txt d n).toArray := rfl
  refine ⟨_, _, _, _, grownCap_ge w n 0 E, grownCap_le_maxLen w n 0 E hn, ?_, h, ((Below.refl _ _).drew).alloc (Nat.le_refl _) _, heap_alloc_new w.drew _, fun j hj => ?_⟩
  · unfold bytesRow
    rw [h1, Array.size_append]
    simp [txt_len]
  unfold bytesRow
  rw [h1, Array.getElem?_append_left (by simp [txt_len]; exact hj)]
  simp [txt, hj, Nat.mod_eq_of_lt (hd j)]
theorem frozen_mark {w : World} {g i c : Nat} {cs : Array Value} {t : TypeId} (h : w.heap[g]? = some (.cells cs t (c, c + 1))) (hi : i < c) : w.frozen? ⟨g, i, none⟩ = false := by
  simp [World.frozen?, h]
  omega
/-- A block of bytes, whatever they are. -/
def AnyB (w : World) (g n : Nat) : Prop := ∃ cu fr, w.heap[g]? = some (.cells cu 5 fr) ∧ (∀ j, j < n → ¬ (fr.1 ≤ j ∧ j < fr.2)) ∧ ∀ j, j < n → ∃ b : Nat, b < 256 ∧ cu[j]? = some (.int .u8 (b : Int))
theorem AnyB.lt {w : World} {g n : Nat} (h : AnyB w g n) : g < w.heap.size := by
  obtain ⟨cu, fr, hg, _⟩ := h
  exact block_lt hg
theorem AnyB.at {w : World} {g n j : Nat} (h : AnyB w g n) (hj : j < n) : ∃ b : Nat, b < 256 ∧ w.cell? ⟨g, j, none⟩ = some (.int .u8 (b : Int)) ∧ w.frozen? ⟨g, j, none⟩ = false := by
  obtain ⟨cu, fr, hg, hn, hc⟩ := h
  obtain ⟨b, hb, hcj⟩ := hc j hj
  have := hn j hj
  exact ⟨b, hb, by rw [cell_of_row _ _ _ _ _ _ hg, hcj], by simp [World.frozen?, hg]; omega⟩
theorem AnyB.set {w : World} {g n j b : Nat} (h : AnyB w g n) (hb : b < 256) : AnyB (w.setCell ⟨g, j, none⟩ (.int .u8 (b : Int))) g n := by
  obtain ⟨cu, fr, hg, hn, hc⟩ := h
  refine ⟨_, fr, Go.Joins.block_setCell hg _, hn, fun i hi => ?_⟩
  rw [Array.getElem?_setIfInBounds]
  by_cases e : j = i
  · subst e
    obtain ⟨b', hb', hcj⟩ := hc j hi
    have := (Array.getElem?_eq_some_iff.1 hcj).1
    exact ⟨b, hb, by rw [if_pos rfl, if_pos (by simpa using this)]⟩
  · rw [if_neg e]; exact hc i hi
theorem AnyB.kept {w w' : World} {g n : Nat} (h : AnyB w g n) (hk : w'.heap[g]? = w.heap[g]?) : AnyB w' g n := by
  obtain ⟨cu, fr, hg, hr⟩ := h
  exact ⟨cu, fr, hk.trans hg, hr⟩
def SliceAny (Ao : Option Addr) (g n : Nat) (w : World) : Prop := 0 < n → Ao = some ⟨g, 0, none⟩ ∧ AnyB w g n
theorem own_any {w : World} {base n : Nat} {v : Value} {d : Nat → Nat} (hd : ∀ i, d i < 256) (h : w.ownsRow base 5 1 v n (cells d n)) (hb : base ≤ w.heap.size) :
    ∃ A cap g, v = .slice A n cap ∧ n ≤ cap ∧ cap ≤ maxLen ∧ base ≤ g ∧ SliceAny A g n w := by
  obtain ⟨hl, ⟨rfl, rfl⟩ | ⟨g, cap, cur, rfl, hg, hgg, h1, h2, h3, h4⟩⟩ := h
  · exact ⟨none, 0, base, rfl, Nat.le_refl _, by decide, Nat.le_refl _, fun h => absurd h (by omega)⟩
  · refine ⟨_, cap, g, rfl, h1, h2, hg, fun _ => ⟨rfl, cur, (0, 0), hgg, fun j _ => by simp, fun j hj => ⟨d j, hd j, ?_⟩⟩⟩
    have := cells_get d n j hj
    rw [← h4, List.getElem?_take_of_lt (by omega)] at this
    simpa using this

theorem fieldsPuts_large (x : Nat → It) (LA : Option Addr) (ln lcap : Nat) (w : World) (hlc : lcap ≤ maxLen) (hl : ln ≤ lcap) (hI : Items w w.heap.size LA ln x) (hL : largeB x ln = true) :
    Calls Try.prog 3 #[.slice LA ln lcap] w fun e w' => e = .returned (.bool true) ∧ Below w.heap.size w w' := by
  have HC := Lib.hid (large_any x LA ln lcap hlc hl w w.heap.size hI)
  rw [hL] at HC
  clear hI hL
  go_enter Try.func3, Try.ntmps3
  go_wp2_with fail
  refine HC.out.mono ?_
  rintro e w1 ⟨rfl, rfl⟩
  go_wp2_with fail
  refine (works_any _).mono ?_
  rintro e w4 ⟨rfl, hb4⟩
  go_wp2_with fail
  go_ret
  exact ⟨rfl, hb4⟩

set_option maxRecDepth 100000 in
set_option maxHeartbeats 2000000 in
theorem fieldsPuts_few (x : Nat → It) (LA : Option Addr) (ln lcap : Nat) (w : World) (hlc : lcap ≤ maxLen) (hl : ln ≤ lcap) (hI : Items w w.heap.size LA ln x) (hL : largeB x ln = false) :
    Calls Try.prog 3 #[.slice LA ln lcap] w fun e w' => e = .returned (.bool true) ∧ Below w.heap.size w w' := by
  obtain ⟨i0, hi, hz0, hz1, hz2⟩ := info_parts infoU8
  have HC := Lib.hid (large_any x LA ln lcap hlc hl w w.heap.size hI)
  rw [hL] at HC
  have hsm : ln ≤ 100 ∧ sumN x ln ≤ 3000 := by simp [largeB] at hL; omega
  obtain ⟨h100, hs3⟩ := hsm
  have HS3 := Lib.hid hs3
  have HI := Lib.hid hI
  have HL := Lib.hid hl
  clear hI hL hs3 hlc hl
  go_enter Try.func3, Try.ntmps3
  go_wp2_with fail
  refine HC.out.mono ?_
  rintro e w1 ⟨rfl, rfl⟩
  go_wp2_with fail
  have hT0 : Two (w.alloc (.cells #[.slice none 0 0] 27)) w.heap.size (w.heap.size + 1) (.slice none 0 0) (.slice none 0 0) (totL x 0) (totD x 0) :=
    ⟨wr_new w, World.ownsRow_nil _ _ _ _, fun b h => by simp [Value.ownBlock] at h, by simp [Value.ownBlock]⟩
  have hb0 := below_alloc1 w (.cells #[.slice none 0 0] 27)
  have HT0 := Lib.hid hT0
  generalize (w.alloc (.cells #[.slice none 0 0] 27)) = w0 at *
  clear hT0
  go_loopw [4, 5] (fun vw i wr => ∃ k : Nat, k ≤ ln ∧ i = .int .i64 k ∧ (∃ v, Hid (Two wr w.heap.size (w.heap.size + 1) v vw (totL x k) (totD x k))) ∧ Below w.heap.size w wr) (fun _ i _ => ln - (intOf i).toNat)
  case atStart => exact ⟨0, by omega, rfl, ⟨_, HT0⟩, hb0⟩
  case round =>
    clear hb0 HT0
    obtain ⟨k, hk, rfl, ⟨v, HT⟩, hb⟩ := hrel
    by_cases hlt : k < ln
    · obtain ⟨ad, rfl, hadb, hok, hcs⟩ := items_cells (HI.out.below hb) hlt
      have HOK := Lib.hid hok
      have HCS := Lib.hid hcs
      clear hok hcs
      obtain ⟨kd, KD⟩ : ∃ q, Hid (q = (x k).kind) := ⟨_, Lib.hid rfl⟩
      obtain ⟨nu, NU⟩ : ∃ q, Hid (q = (x k).num) := ⟨_, Lib.hid rfl⟩
      obtain ⟨xa, XA⟩ : ∃ q, Hid (q = (x k).A) := ⟨_, Lib.hid rfl⟩
      obtain ⟨xn, XN⟩ : ∃ q, Hid (q = (x k).n) := ⟨_, Lib.hid rfl⟩
      obtain ⟨xc, XC⟩ : ∃ q, Hid (q = (x k).cap) := ⟨_, Lib.hid rfl⟩
      rw [← KD.out, ← NU.out, ← XA.out, ← XN.out, ← XC.out] at HCS
      go_upto_region 9 with (first | (refine wpList_load_cells rfl 30 _ rfl (ad.add (k * 3)) rfl #[.int .u8 (kd : Int), .int .u64 (nu : Int), .slice xa xn xc] _ HCS.out Try.underlying30 rfl infoI ?_) | (refine wpList_store_row rfl 30 _ _ rfl wr.heap.size #[.int .u8 (kd : Int), .int .u64 (nu : Int), .slice xa xn xc] rfl rfl 30 _ (heap_alloc_new _ _) infoI rfl rfl ?_))
      have hb3 := hb.alloc hb.size (.cells #[.int .u8 (kd : Int), .int .u64 (nu : Int), .slice xa xn xc] 30)
      have hT3 := HT.out.below (below_alloc1 wr (.cells #[.int .u8 (kd : Int), .int .u64 (nu : Int), .slice xa xn xc] 30))
      have hgx := heap_alloc_new wr (.cells #[.int .u8 (kd : Int), .int .u64 (nu : Int), .slice xa xn xc] 30)
      have hz3 : (wr.alloc (.cells #[.int .u8 (kd : Int), .int .u64 (nu : Int), .slice xa xn xc] 30)).heap.size = wr.heap.size + 1 := by simp
      have hok3 := HOK.out.below ((Below.refl w.heap.size wr).alloc hb.size (.cells #[.int .u8 (kd : Int), .int .u64 (nu : Int), .slice xa xn xc] 30))
      generalize (wr.alloc (.cells #[.int .u8 (kd : Int), .int .u64 (nu : Int), .slice xa xn xc] 30)) = w3 at *
      obtain ⟨gx, GX⟩ : ∃ q, Hid (q = wr.heap.size) := ⟨_, Lib.hid rfl⟩
      rw [← GX.out] at hgx hz3 ⊢
      obtain ⟨ok1, ok2, ok3, ok4, ok5, ok6, ok7⟩ := hok3
      rw [← XN.out, ← XA.out] at ok6
      rw [← XN.out, ← XC.out] at ok4
      rw [← XA.out, ← XC.out] at ok7
      rw [← XC.out] at ok5
      have hxn : xn ≤ 3000 := by
        have h1 := sumN_mono x (k + 1) ln hlt
        have h2 := HS3.out
        have h3 := XN.out
        rw [sumN] at h1
        omega
      have hcv := convert_holds (P := Try.prog) (src := 25) (dst := 9) ok3 ok6 ok7 ok4 Try.underlying25 Try.underlying5 Try.underlying9
      obtain ⟨cap2, cur, w4, c0, hn2, hc2, hc0, hcb, hb4, hg4, hcur⟩ := bytes_block (P := Try.prog) w3 5 9 25 (x k).d xn ok3 (by unfold maxLen; omega) Try.underlying9 Try.underlying25 Try.underlying5
      obtain ⟨gb, GB⟩ : ∃ q, Hid (q = w3.heap.size) := ⟨_, Lib.hid rfl⟩
      rw [← GB.out] at hcb hg4
      have hcx := cell_of_row w3 gx 2 _ _ _ hgx
      have hfx := frozen_of_row w3 gx 2 _ _ hgx
      simp at hcx
      have hgx4 := (hb4.block gx (block_lt hgx)).trans hgx
      have hcx4 := cell_of_row w4 gx 2 _ _ _ hgx4
      have hfx4 := frozen_of_row w4 gx 2 _ _ hgx4
      simp at hcx4
      obtain ⟨w5, hw5, hgx5, hk5⟩ : ∃ w5, w5 = w4.setCell ⟨gx, 2, none⟩ (.slice (some ⟨gb, 0, none⟩) xn cap2) ∧ w5.heap[gx]? = some (.cells #[.int .u8 (kd : Int), .int .u64 (nu : Int), .slice (some ⟨gb, 0, none⟩) xn cap2] 30 (0, 0)) ∧ KeptBut w4 w5 gx none :=
        ⟨_, rfl, (Go.Joins.block_setCell hgx4 _).trans (by simp), (KeptBut.refl w4 gx none).setCell (p := ⟨gx, 2, none⟩) rfl _⟩
      have hwl : w.heap.size ≤ gx := by rw [GX.out]; exact hb.size
      have hgxb : gx < gb := by have := GB.out; omega
      have hgr : w.heap.size < wr.heap.size := HT.out.wr.lt
      have hwl' : w.heap.size < gx := by rw [GX.out]; exact hgr
      have hvx : ∀ q, v.ownBlock = some q → q < gx := fun q h => by rw [GX.out]; exact (HT.out.wr.2.1.lt q h).2
      have hux : ∀ q, u4.ownBlock = some q → q < gx := fun q h => by rw [GX.out]; exact (HT.out.own.lt q h).2
      have HVX := Lib.hid hvx
      have HUX := Lib.hid hux
      have hB4 := below_step hb3 hb4 hb3.size
      have hB5 := kept_rd_below hB4 hk5 hwl hB4.size
      have hT5 := (hT3.below hb4).kept hk5 (by rw [GX.out]; omega) (fun e => by have := hvx gx e; omega) (fun e => by have := hux gx e; omega)
      have hA5 : AnyB w5 gb xn := ⟨cur, (c0, c0 + 1), (hk5.block gb (block_lt hg4) (by omega) (fun e => by cases e)).trans hg4, fun j hj => by simp; omega, fun j hj => ⟨(x k).d j, ok3 j, hcur j hj⟩⟩
      have hH5 : Holds w5 w5.heap.size (some ⟨gb, 0, none⟩) xn (x k).d := fun h0 => ⟨_, rfl, hA5.lt, fun j hj => by
        have hadd : (⟨gb, 0, none⟩ : Addr).add j = ⟨gb, j, none⟩ := by unfold Addr.add; split <;> simp_all
        rw [hadd, cell_of_row _ _ _ _ _ _ ((hk5.block gb (block_lt hg4) (by omega) (fun e => by cases e)).trans hg4)]
        exact hcur j hj⟩
      have HP := Lib.hid (putIt_any ⟨kd, nu, some ⟨gb, 0, none⟩, xn, cap2, (x k).d⟩ w5 w.heap.size (w.heap.size + 1) v (totL x k) (totD x k) hT5.wr (by have h1 := totL_le x k; have h2 := sumN_mono x k ln hk; have h3 := HS3.out; omega) (by have := hT5.wr.lt; omega) w5.heap.size (Nat.le_refl _) ⟨by rw [KD.out]; exact ok1, by rw [NU.out]; exact ok2, ok3, hn2, hc2, hH5, fun h => by cases h⟩ (by show xn ≤ 10000; omega))
      rw [itLen_of ⟨kd, nu, some ⟨gb, 0, none⟩, xn, cap2, (x k).d⟩ (x k) KD.out XN.out, itB_of ⟨kd, nu, some ⟨gb, 0, none⟩, xn, cap2, (x k).d⟩ (x k) KD.out NU.out rfl] at HP
      have HT5 := Lib.hid hT5
      have HA5 := Lib.hid hA5
      have HGX5 := Lib.hid hgx5
      have hz5 : gb < w5.heap.size := hA5.lt
      go_upto_region 10 with (fail)
      rw [← hw5]
      clear hw5 hk5 hT5 hA5 hH5 hgx5 hcur hg4 hgx4 hcx4 hfx4 hcx hfx hcb hcv hb4 hB4 hgx hb3 hT3 ok1 ok2 ok3 ok4 ok5 ok6 ok7 hvx hux hc0 hn2
      go_wp2_with (refine wpList_load_row rfl 30 _ rfl gx rfl 30 #[.int .u8 (kd : Int), .int .u64 (nu : Int), .slice (some ⟨gb, 0, none⟩) xn cap2] (0, 0) _ HGX5.out Try.underlying30 rfl infoI ?_)
      refine HP.out.mono ?_
      rintro e w6 ⟨rfl, hp⟩
      obtain ⟨v', hW6, hO6, hap6, hm6, hk6⟩ := HT5.out.put hp
      have hB6 := hk6.below hB5 (Nat.le_refl _) (fun q hq => Nat.le_trans (Nat.le_succ _) (HT5.out.wr.2.1.lt q hq).1) hB5.size
      have hgx6 := (hk6.block gx (by omega) (by omega) (fun e => by have := HVX.out gx e.symm; omega)).trans HGX5.out
      have hA6 : AnyB w6 gb xn := HA5.out.kept (hk6.block gb hz5 (by omega) (fun e => by have := HVX.out gb e.symm; omega))
      have HV6 := Lib.hid (hm6.ne hz5 (fun e => by have := HVX.out gb e; omega))
      have hz6 : gb < w6.heap.size := Nat.lt_of_lt_of_le hz5 hk6.size
      obtain ⟨ad6, e6, _, hok6, hcs6⟩ := items_cells (HI.out.below hB6) hlt
      cases e6
      rw [← KD.out, ← NU.out, ← XA.out, ← XN.out, ← XC.out] at hcs6
      have HB6 := Lib.hid (bytesIt_any (x k) w6 w.heap.size hB6.size hok6)
      rw [← KD.out, ← NU.out, ← XA.out, ← XN.out, ← XC.out] at HB6
      have HCS6 := Lib.hid hcs6
      have HW6 := Lib.hid hW6
      have HO6 := Lib.hid hO6
      have HAP6 := Lib.hid hap6
      have HU6 := Lib.hid HT5.out.ne
      have HGX6 := Lib.hid hgx6
      have HA6 := Lib.hid hA6
      clear hp hW6 hO6 hap6 hm6 hk6 hgx6 hA6 hok6 hcs6 HP HT5 HGX5 HA5 hB5 HCS HOK
      go_wp2_with (refine wpList_load_cells rfl 30 _ rfl (ad.add (k * 3)) rfl #[.int .u8 (kd : Int), .int .u64 (nu : Int), .slice xa xn xc] _ HCS6.out Try.underlying30 rfl infoI ?_)
      refine HB6.out.mono ?_
      rintro e w7 ⟨Ab, cb, rfl, hh7, hlc7, hcm7, hA7, hb7⟩
      have HH7 := Lib.hid hh7
      have HA7 := Lib.hid hA7
      have hB7 := below_step hB6 hb7 hB6.size
      have HO7 := Lib.hid (own_below HO6.out hb7 (Nat.le_refl _))
      have HW7 := Lib.hid (HW6.out.below hb7)
      have HGX7 := Lib.hid ((hb7.block gx (by omega)).trans HGX6.out)
      have hA7' : AnyB w7 gb xn := HA6.out.kept (hb7.block gb hz6)
      have HAB7 := Lib.hid hA7'
      have hz7 : gb < w7.heap.size := Nat.lt_of_lt_of_le hz6 hb7.size
      have htl := totL_le x (k + 1)
      have hsl := sumN_mono x (k + 1) ln hlt
      have HTL := Lib.hid (show totL x k + itLen (x k) ≤ 4000 by have := HS3.out; rw [totL] at htl; omega)
      have htl' := HTL.out
      clear hh7 hA7 hA7' hb7 HB6 HCS6 HW6 HO6 HGX6 HA6 hB6 htl hsl
      go_wp2_with (at_builtin; refine wpList_app_holds rfl _ _ 25 rfl (w.heap.size + 1) 5 i0 Try.underlying25 hi hz0 hz1 hz2 u4 (totL x k) _ rfl HO7.out w7.heap.size Ab (itLen (x k)) cb (itB (x k)) rfl HH7.out HA7.out hlc7 ?b5 ?b6 ?b7 ?_)
      case b5 => unfold maxLen; omega
      case b6 => omega
      case b7 => omega
      intro vw8 w8 hown8 hgr8 hmv8
      rw [join_cells] at hown8
      have hT8 : Two w8 w.heap.size (w.heap.size + 1) v' vw8 (totL x (k + 1)) (totD x (k + 1)) := Two.app (L := 0) (d := fun _ => 0) HW7.out HAP6.out HU6.out hown8 hgr8 hmv8 (Nat.zero_le _) (fun _ => rfl)
      have hB8 := hB7.grown hgr8 hB7.size (fun q hq => Nat.le_trans (Nat.le_succ _) (HO7.out.lt q hq).1)
      have hgx8 := kept HGX7.out hgr8 (fun e => by have := HUX.out gx e.symm; omega)
      have hA8 : AnyB w8 gb xn := HAB7.out.kept (hgr8.block gb hz7 (fun e => by have := HUX.out gb e.symm; omega))
      have HV8 := Lib.hid (hmv8.ne hz7 (fun e => by have := HUX.out gb e; omega))
      have HT8 := Lib.hid hT8
      have HGX8 := Lib.hid hgx8
      have HA8 := Lib.hid hA8
      have hz8 : gb < w8.heap.size := Nat.lt_of_lt_of_le hz7 hgr8.size
      clear HO7 HW7 HGX7 HAB7 HH7 HA7 hown8 hgr8 hmv8 hgx8 hA8 hT8 hB7 HAP6 HU6 hlc7 hcm7
      go_wp2_with fail
      go_loopw [7] (fun i wr2 => ∃ j : Nat, j ≤ xn ∧ i = .int .i64 j ∧ Hid (KeptBut w8 wr2 gb none) ∧ Hid (AnyB wr2 gb xn)) (fun i _ => xn - (intOf i).toNat)
      case atStart => exact ⟨0, by omega, rfl, Lib.hid (KeptBut.refl _ _ _), HA8⟩
      case round =>
        clear HA8
        obtain ⟨j, hj, rfl, HK2, HA2⟩ := hrel
        have hgx9 := (HK2.out.block gx (by omega) (by omega) (fun e => by cases e)).trans HGX8.out
        have hcx := cell_of_row wr gx 2 _ _ _ hgx9
        simp at hcx
        by_cases hlj : j < xn
        · obtain ⟨b, hb256, hcb, hfb⟩ := HA2.out.at hlj
          obtain ⟨b1, B1⟩ : ∃ b1, Hid (b1 = (b + 1) % 256) := ⟨_, Lib.hid rfl⟩
          have hb1 : b1 < 256 := by have := B1.out; omega
          have eb1 : IntKind.u8.wrap ((b : Int) + 1) = (b1 : Int) := by rw [IntKind.wrap_u8, B1.out]; omega
          have HK3 := Lib.hid ((HK2.out.setCell (p := ⟨gb, j, none⟩) rfl (.int .u8 (b1 : Int))).drew)
          have HA3 : Hid (AnyB ((wr.setCell ⟨gb, j, none⟩ (.int .u8 (b1 : Int))).drew) gb xn) := Lib.hid (HA2.out.set hb1)
          have t5 : (j : Int) < (xn : Int) := by omega
          clear HK2 HA2 hgx9
          go_wp2_with fail
          go_still_tail 10, (by kernel_rfl)
          change wpList _ _ _ _ _ wr.drew
          go_wp2_with fail
          go_roundw
          case rel => exact ⟨j + 1, by omega, by go_num, HK3, HA3⟩
          case measure => simp [intOf]; omega
        · have hT9 := HT8.out.kept HK2.out (by omega) HV6.out HV8.out
          have hB9 := kept_rd_below hB8 HK2.out (by omega) hB8.size
          have HT9 := Lib.hid hT9
          have htd := totD_lt x ln (fun q hq i => by
            obtain ⟨_, _, _, hokq, _⟩ := items_cells (HI.out.below hB9) hq
            exact hokq.2.2.1 i) (k + 1) (by omega)
          have HTD := Lib.hid htd
          have htl9 : totL x (k + 1) ≤ 4000 := by rw [totL]; exact htl'
          have HO := Lib.hid (out_any wr w.heap.size (w.heap.size + 1) v' (totL x (k + 1)) (totD x (k + 1)) hT9.wr (by omega))
          have HTK : Hid (totL x k + itLen (x k) = totL x (k + 1)) := Lib.hid rfl
          clear HK2 HA2 HT8 HGX8 HV6 HV8 hB8 hT9 htd htl' hgx9
          go_wp2_with fail
          refine HO.out.mono ?_
          rintro e w10 ⟨⟨vo, rfl, hown10⟩, hb10⟩
          have hB10 := below_step hB9 hb10 hB9.size
          have hT10 := HT9.out.below hb10
          have hc1 := convert_own (P := Try.prog) (src := 25) (dst := 9) (l := txt (totD x (k + 1)) (totL x (k + 1))) (by rw [txt_len, ← txt_cells _ _ HTD.out]; exact hown10) Try.underlying25 Try.underlying5 Try.underlying9
          have hc2 := convert_own (P := Try.prog) (src := 25) (dst := 9) (l := txt (totD x (k + 1)) (totL x (k + 1))) (by rw [txt_len, ← txt_cells _ _ HTD.out]; exact hT10.own) Try.underlying25 Try.underlying5 Try.underlying9
          obtain ⟨st, ST⟩ : ∃ s, Hid (s = strOf (txt (totD x (k + 1)) (totL x (k + 1)))) := ⟨_, Lib.hid rfl⟩
          rw [← ST.out] at hc1 hc2
          obtain ⟨Ao, capo, g3, rfl, hLo, hco, hg3, hany⟩ := own_any HTD.out hown10 hb10.size
          have HANY := Lib.hid hany
          have HT10 := Lib.hid hT10
          have HG3 : Hid (w.heap.size < g3 ∧ v'.ownBlock ≠ some g3 ∧ vw8.ownBlock ≠ some g3) := Lib.hid ⟨Nat.lt_of_lt_of_le HT9.out.wr.lt hg3, fun e => by have := (HT9.out.wr.2.1.lt g3 e).2; omega, fun e => by have := (HT9.out.own.lt g3 e).2; omega⟩
          unfold maxLen at hco
          clear hb10 hown10 hT10 hany HT9 HO hB9 hg3
          go_wp2_with fail
          obtain ⟨T, TT⟩ : ∃ T, Hid (T = totL x (k + 1)) := ⟨_, Lib.hid rfl⟩
          rw [← TT.out] at HANY hLo htl9 ⊢
          clear hc1 hc2
          go_loopw [9] (fun i wr3 => ∃ j : Nat, j ≤ T ∧ i = .int .i64 j ∧ Hid (KeptBut w10 wr3 g3 none) ∧ Hid (SliceAny Ao g3 T wr3)) (fun i _ => T - (intOf i).toNat)
          case atStart => exact ⟨0, by omega, rfl, Lib.hid (KeptBut.refl _ _ _), HANY⟩
          case round =>
            clear HANY
            obtain ⟨j, hj, rfl, HK2, HA2⟩ := hrel
            by_cases hlj : j < T
            · obtain ⟨rfl, hA⟩ := HA2.out (by omega)
              obtain ⟨b, hb256, hcb, hfb⟩ := hA.at hlj
              obtain ⟨b1, B1⟩ : ∃ b1, Hid (b1 = (b + 1) % 256) := ⟨_, Lib.hid rfl⟩
              have hb1 : b1 < 256 := by have := B1.out; omega
              have eb1 : ((b : Int) + 1) % 256 = (b1 : Int) := by rw [B1.out]; omega
              have HK3 := Lib.hid ((HK2.out.setCell (p := ⟨g3, j, none⟩) rfl (.int .u8 (b1 : Int))))
              have HA3 : Hid (SliceAny (some ⟨g3, 0, none⟩) g3 T (wr.setCell ⟨g3, j, none⟩ (.int .u8 (b1 : Int)))) := Lib.hid fun _ => ⟨rfl, hA.set hb1⟩
              clear HK2 HA2 hA
              go_wp2_with fail
              go_roundw
              case rel => exact ⟨j + 1, by omega, by go_num, HK3, HA3⟩
              case measure => simp [intOf]; omega
            · have hT11 := Lib.hid (HT10.out.kept HK2.out (by have := HG3.out; omega) HG3.out.2.1 HG3.out.2.2)
              have hB11 := kept_rd_below hB10 HK2.out (by have := HG3.out; omega) hB10.size
              clear HK2 HA2 HT10 hB10
              go_wp2_with fail
              go_roundw
              case rel => exact ⟨k + 1, by omega, by go_num, ⟨v', hT11⟩, hB11⟩
              case measure => simp [intOf]; omega
    · have htd := totD_lt x ln (fun q hq i => by
        obtain ⟨_, _, _, hokq, _⟩ := items_cells (HI.out.below hb) hq
        exact hokq.2.2.1 i) k (by omega)
      have HTD := Lib.hid htd
      have HO := Lib.hid (out_any wr.drew w.heap.size (w.heap.size + 1) v (totL x k) (totD x k) (HT.out.wr.below (Below.refl _ _).drew) (by have h1 := totL_le x k; have h2 := sumN_mono x k ln hk; have h3 := HS3.out; omega))
      have hc0 := convert_own (P := Try.prog) (src := 25) (dst := 9) (l := txt (totD x k) (totL x k)) (by rw [txt_len, ← txt_cells _ _ HTD.out]; exact HT.out.own.drew) Try.underlying25 Try.underlying5 Try.underlying9
      obtain ⟨st, ST⟩ : ∃ s, Hid (s = strOf (txt (totD x k) (totL x k))) := ⟨_, Lib.hid rfl⟩
      rw [← ST.out] at hc0
      clear htd
      go_wp2_with fail
      go_region_with (first | (go_at_call 12; refine HO.out.mono ?_; rintro e w10 ⟨⟨vo, rfl, hown10⟩, hb10⟩; have hB10 := below_step hb.drew hb10 hb.size; have hc1 := convert_own (P := Try.prog) (src := 25) (dst := 9) (l := txt (totD x k) (totL x k)) (by rw [txt_len, ← txt_cells _ _ HTD.out]; exact hown10) Try.underlying25 Try.underlying5 Try.underlying9; have hc2 := convert_own (P := Try.prog) (src := 25) (dst := 9) (l := txt (totD x k) (totL x k)) (by rw [txt_len, ← txt_cells _ _ HTD.out]; exact (HT.out.below ((Below.refl _ _).drew.trans hb10)).own) Try.underlying25 Try.underlying5 Try.underlying9; rw [← ST.out] at hc1 hc2; clear hown10 hb10) | (go_at_call 9; refine (works_any _).mono ?_; rintro e w11 ⟨rfl, hb11⟩))
      all_goals
        have hB11 := below_step hB10 hb11 hB10.size
        clear hB10 hb11 hc0
        go_wp2_with fail
        go_ret
        exact ⟨rfl, hB11⟩
theorem fieldsPuts_walk (x : Nat → It) (LA : Option Addr) (ln lcap : Nat) (w : World) (hl : ln ≤ lcap) (hlc : lcap ≤ maxLen) (hI : Items w w.heap.size LA ln x) :
    Calls Try.prog 3 #[.slice LA ln lcap] w fun e w' => e = .returned (.bool true) ∧ Below w.heap.size w w' := by
  cases hL : largeB x ln with
  | true => exact fieldsPuts_large x LA ln lcap w hlc hl hI hL
  | false => exact fieldsPuts_few x LA ln lcap w hlc hl hI hL
end Go.Proofs.Ytohojfgceaajfaa
