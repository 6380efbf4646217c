/- files: works. -/
import Derived.Test.YtmcafiihicanfaaDoorFmQ
import Derived.Deep.DeepCutAuto
set_option linter.unusedVariables false
set_option linter.unusedSimpArgs false
namespace Go.Proofs.YtmcafiihicanfaaDoor
open Go Go.RowKit Go.BigFrame
open Fil (Es Nd Sp)

/-- A node in a box. -/
def BoxNd (W : World) (b : Nat) (p : Value) (n : Nd) : Prop :=
  ∃ g, p = .pointer (some ⟨g, 0, none⟩) ∧ b ≤ g ∧ ∃ A c, W.heap[g]? = some (.cells #[.int .u8 (n.k : Int), .string n.d, .slice A n.es.len c] 26 (0, 0)) ∧ EsAt W W.heap.size (.slice A n.es.len c) n.es ∧ n.d.size ≤ maxLen ∧ n.k < 256
theorem nil_at (W : World) (B : Nat) {A : Option Addr} {c : Nat} (h : A = none → c = 0) (hc : c ≤ maxLen) : EsAt W B (.slice A Es.nil.len c) .nil := ⟨A, c, rfl, Nat.zero_le _, hc, h, fun h => absurd h (Nat.lt_irrefl 0)⟩
theorem entRow_at {W : World} {g n : Nat} {es : Es} {xs : List Value} (hg : W.heap[g]? = some (.cells xs.toArray 48 (0, 0))) (hn : es.len = n) (hm : n ≤ maxLen) (hl : EntL W W.heap.size es xs) : EsAt W W.heap.size (.slice (some ⟨g, 0, none⟩) n n) es := by
  subst hn
  refine ⟨_, _, rfl, Nat.le_refl _, hm, (fun h => by cases h), fun _ => ⟨_, rfl, block_lt hg, ents_cells hl fun j u hu => ?_⟩⟩
  rw [Nat.zero_add, cell_of_row _ _ _ _ _ _ hg]
  simpa using hu
theorem made_nN {W : World} {b r g sb : Nat} {A : Option Addr} {c : Nat} (hA : A = none → c = 0) (hc : c ≤ maxLen) (hs : W.heap[sb]? = some (.cells #[.string ⟨#[120]⟩, .int .u8 3, .string ⟨#[46, 46, 47, 97]⟩, .slice none 0 0] 48 (0, 0)))
    (hr : W.heap[r]? = some (.cells #[.string ⟨#[97]⟩, .int .u8 1, .string ⟨#[104, 105]⟩, .slice A Es.nil.len c, .string ⟨#[100]⟩, .int .u8 4, .string ⟨#[]⟩, .slice (some ⟨sb, 0, none⟩) 1 1] 48 (0, 0)))
    (hg : W.heap[g]? = some (.cells #[.int .u8 4, .string ⟨#[]⟩, .slice (some ⟨r, 0, none⟩) 2 2] 26 (0, 0))) (hb : b ≤ g) : BoxNd W b (.pointer (some ⟨g, 0, none⟩)) nN := by
  have hd : EsAt W W.heap.size (.slice (some ⟨sb, 0, none⟩) 1 1) dN   := entRow_at (xs := [.string ⟨#[120]⟩, .int .u8 3, .string ⟨#[46, 46, 47, 97]⟩, .slice none 0 0]) hs rfl (by decide) ⟨_, [], rfl, by decide, by decide, by decide, EsAt.nil _ _, rfl⟩
  refine ⟨g, rfl, hb, some ⟨r, 0, none⟩, 2, hg, ?_, by decide, by decide⟩
  exact entRow_at (es := nN.es) (n := 2) (xs := [.string ⟨#[97]⟩, .int .u8 1, .string ⟨#[104, 105]⟩, .slice A Es.nil.len c, .string ⟨#[100]⟩, .int .u8 4, .string ⟨#[]⟩, .slice (some ⟨sb, 0, none⟩) 1 1]) hr rfl (by decide)
    ⟨_, _, rfl, by decide, by decide, by decide, nil_at _ _ hA hc, ⟨_, [], rfl, by decide, by decide, by decide, hd, rfl⟩⟩
theorem EsAt.cap {w : World} {B n c : Nat} {A : Option Addr} {e : Es} (h : EsAt w B (.slice A n c) e) : A = none → c = 0 := by
  obtain ⟨A', c', e1, _, _, h4, _⟩ := h
  injection e1 with e1 _ e3
  rw [e1, e3]; exact h4
theorem BoxNd.keep {W W' : World} {b : Nat} {p : Value} {n : Nd} (h : BoxNd W b p n) (hb : Below W.heap.size W W') : BoxNd W' b p n := by
  obtain ⟨g, rfl, h1, A, c, h2, h3, h4, h5⟩ := h
  exact ⟨g, rfl, h1, A, c, (hb.block g (block_lt h2)).trans h2, (h3.keep hb).more hb.size, h4, h5⟩
/-- At of the examples' tree. -/
theorem ex_atW (s : ByteArray) (hs : s.size < 4294967281) (k : Nat) (d : ByteArray) (r : Nat) (h : atR nN s = (r, ⟨k, d, .nil⟩)) {w' : World} {A : Option Addr} {c : Nat} (hv : NdV w' w'.heap.size (.agg #[.int .u8 4, .string ⟨#[]⟩, .slice A 2 c]) nN) :
    Calls Tryd.prog 24 #[.agg #[.int .u8 4, .string ⟨#[]⟩, .slice A 2 c], .string s] w' fun e W => Below w'.heap.size w' W ∧ ∃ A' c', e = .returned (.tuple #[.agg #[.int .u8 (k : Int), .string d, .slice A' 0 c'], .int .i64 (r : Int)]) :=
  (at_any w' _ (Nat.le_refl _) _ nN hv s hs).mono fun e W hq => by
    obtain ⟨hb, v, he, ev, rfl, hes, _⟩ := hq
    rw [h] at he hes
    obtain ⟨A', c', rfl, _⟩ := hes.form
    exact ⟨hb, A', c', he⟩
theorem KeepW.drewN {W1 w' : World} {B : Nat} (h : KeepW W1 B w') (q : Nat) : KeepW W1 B (w'.drewN q) := ⟨below_drewN h.1 q, by rw [heap_drewN]; exact h.2⟩
theorem same_lit {W0 Wd : World} {vd : Value} (l : List ByteArray) (hl : l.length ≤ 1000) (hr : RdT.Reads Wd Wd.heap.size vd (RdT.strs l)) (h : KeepW W0 W0.heap.size Wd) (T : TypeId) :
    Calls Tryd.prog 29 #[vd, .slice (some ⟨Wd.heap.size, 0, none⟩) l.length l.length] (Wd.alloc (.cells (RdT.strs l).toArray T)) fun e W => e = .returned (.bool true) ∧ KeepW W0 W0.heap.size W := by
  have h2 := RdT.reads_new Wd (RdT.strs l).toArray T (RdT.strs l) rfl (by rw [RdT.strs_len]; exact hl)
  rw [RdT.strs_len] at h2
  refine (RdT.sameTexts_any _ _ l l _ _ ((hr.below ((Below.refl _ Wd).alloc (Nat.le_refl _) _)).more (by simp)) h2).mono ?_
  rintro e W ⟨rfl, nq, rfl⟩
  exact ⟨by simp, (h.alloc _).drewN nq⟩
set_option maxRecDepth 1000000 in
set_option maxRecDepth 100000 in
set_option maxHeartbeats 4000000 in
theorem works_any (w : World) : Calls Tryd.prog 12 #[] w fun e W => e = .returned (.bool true) ∧ Below w.heap.size w W := by
  go_enter Tryd.func12, Tryd.ntmps12
  go_upto_region 2 with (fail)
  obtain ⟨w2, e2, hb0, hb1, hbw, hsz⟩ := rows2 w (.cells #[.string ⟨#[120]⟩, .int .u8 3, .string ⟨#[46, 46, 47, 97]⟩, .slice none 0 0] 48) (.cells #[.int .u8 4, .string ⟨#[]⟩, .slice (some ⟨w.heap.size, 0, none⟩) 1 1] 26)
  rw [← e2]
  clear e2
  have H2 := Lib.hid (And.intro hb0 (And.intro hb1 (And.intro hbw hsz)))
  have HK0 := Lib.hid (KeepW.start (Nat.le_refl w2.heap.size))
  have HCL := Lib.hid (fun (w' : World) (h : KeepW w2 w2.heap.size w') => show w'.cell? ⟨w.heap.size + 1, 0, none⟩ = some (.int .u8 4) ∧ w'.cell? ⟨w.heap.size + 1, 1, none⟩ = some (.string ⟨#[]⟩) ∧ w'.cell? ⟨w.heap.size + 1, 2, none⟩ = some (.slice (some ⟨w.heap.size, 0, none⟩) 1 1) from by
    have := nd_box (W := w') (k := 4) (d := ⟨#[]⟩) (v := .slice (some ⟨w.heap.size, 0, none⟩) 1 1) ((h.1.block (w.heap.size + 1) (by omega)).trans hb1)
    exact ⟨this.1, this.2.1, this.2.2.1⟩)
  have HF := Lib.hid (fun (w' : World) (h : KeepW w2 w2.heap.size w') => (file_any ⟨#[104, 105]⟩ (by decide) w').mono (fun e W hq => (show KeepW w2 w2.heap.size W ∧ Below w'.heap.size w' W ∧ ∃ v, e = .returned v ∧ NdV W W.heap.size v ⟨1, ⟨#[104, 105]⟩, .nil⟩ from ⟨h.step hq.1, hq.1, hq.2⟩)))
  clear hb0 hb1 hbw hsz
  go_cut [2] (fun s2 wx => Hid (BoxNd wx w.heap.size s2 nN ∧ Below w.heap.size w wx))
  case first =>
    go_region_held3 (fun w' => w'.cell? ⟨w.heap.size + 1, 0, none⟩ = some (.int .u8 4) ∧ w'.cell? ⟨w.heap.size + 1, 1, none⟩ = some (.string ⟨#[]⟩) ∧ w'.cell? ⟨w.heap.size + 1, 2, none⟩ = some (.slice (some ⟨w.heap.size, 0, none⟩) 1 1)) (first | exact HCL.out _ (by first | assumption | exact KeepW.drew HK0.out | exact KeepW.drew (by assumption) | exact KeepW.alloc (by assumption) _ | exact KeepW.alloc (KeepW.drew HK0.out) _ | exact KeepW.alloc (KeepW.alloc (by assumption) _) _) | exact HCL.out _ (KeepW.set3 (by assumption) (Nat.le_refl _) _ _ _) | exact HCL.out _ (KeepW.set3 (KeepW.alloc (by assumption) _) (Nat.le_refl _) _ _ _) | go_keep) (first | (go_at_call 35; refine (HF.out _ (by first | assumption | exact KeepW.drew HK0.out | exact KeepW.alloc (by assumption) _ | exact KeepW.alloc (KeepW.drew HK0.out) _ | exact KeepW.alloc (KeepW.alloc (by assumption) _) _)).mono ?_; rintro e W4 ⟨hk4, hb4, v4, rfl, hv4⟩; obtain ⟨ev4, rfl, hes4, hd4, hkk4⟩ := hv4; obtain ⟨A4, c4, rfl, hlc4, hcm4⟩ := hes4.form; (first | (have hnw : W4.heap[w2.heap.size]? = some (.cells #[.int .u8 0, .string ⟨#[]⟩, .slice none 0 0] 26 (0, 0)) := (hb4.block w2.heap.size (by simp)).trans (heap_alloc_new w2.drew _); have hyo := fun o => nd_box (W := W4.alloc o) (k := 0) (d := ⟨#[]⟩) (v := .slice none 0 0) ((old_block W4 o _ (block_lt hnw)).trans hnw); have hy0 := fun o => (hyo o).1; have hy1 := fun o => (hyo o).2.1; have hy2 := fun o => (hyo o).2.2.1; have hy3 := fun o => (hyo o).2.2.2.1; have hy4 := fun o => (hyo o).2.2.2.2.1; have hy5 := fun o => (hyo o).2.2.2.2.2; clear hyo) | (have hyo := fun o => nd_box (W := (W4.alloc (.cells #[.int .u8 0, .string ⟨#[]⟩, .slice none 0 0] 26)).alloc o) (k := 0) (d := ⟨#[]⟩) (v := .slice none 0 0) ((old_block _ o W4.heap.size (by simp)).trans (heap_alloc_new W4 _)); have hy0 := fun o => (hyo o).1; have hy1 := fun o => (hyo o).2.1; have hy2 := fun o => (hyo o).2.2.1; have hy3 := fun o => (hyo o).2.2.2.1; have hy4 := fun o => (hyo o).2.2.2.2.1; have hy5 := fun o => (hyo o).2.2.2.2.2; clear hyo))))
    · have hcap := hes4.cap
      have hz2 := H2.out.2.2.2
      have hz4 := hk4.2
      have hs4 : W4.heap[w.heap.size]? = some (.cells #[.string ⟨#[120]⟩, .int .u8 3, .string ⟨#[46, 46, 47, 97]⟩, .slice none 0 0] 48 (0, 0)) := (hk4.1.block _ (by omega)).trans H2.out.1
      have hb4' : Below w.heap.size w W4 := below_step H2.out.2.2.1 hk4.1 (by omega)
      have H4 := Lib.hid (And.intro hcap (And.intro hz2 (And.intro hz4 (And.intro hs4 hb4'))))
      clear hcap hz2 hz4 hs4 hb4'
      go_wp2_with fail
      go_meet
      obtain ⟨hcap, hz2, hz4, hs4, hb4'⟩ := H4.out
      exact ⟨made_nN hcap hcm4 ((old_block _ _ _ (by simp <;> omega)).trans ((old_block _ _ _ (by omega)).trans hs4)) (heap_alloc2_old _ _ _) (heap_alloc2_new _ _ _) (by omega), (hb4'.alloc (by omega) _).alloc (by simp <;> omega) _⟩
    · have hcap := hes4.cap
      have hz2 := H2.out.2.2.2
      have hz4 := hk4.2
      have hs4 : W4.heap[w.heap.size]? = some (.cells #[.string ⟨#[120]⟩, .int .u8 3, .string ⟨#[46, 46, 47, 97]⟩, .slice none 0 0] 48 (0, 0)) := (hk4.1.block _ (by omega)).trans H2.out.1
      have hb4' : Below w.heap.size w W4 := below_step H2.out.2.2.1 hk4.1 (by omega)
      have H4 := Lib.hid (And.intro hcap (And.intro hz2 (And.intro hz4 (And.intro hs4 hb4'))))
      clear hcap hz2 hz4 hs4 hb4'
      go_wp2_with fail
      go_meet
      obtain ⟨hcap, hz2, hz4, hs4, hb4'⟩ := H4.out
      exact ⟨made_nN hcap hcm4 ((old_block _ _ _ (by simp <;> omega)).trans ((old_block _ _ _ (by omega)).trans hs4)) (heap_alloc2_new _ _ _) (heap_alloc2_old _ _ _) (by omega), (hb4'.alloc (by omega) _).alloc (by simp <;> omega) _⟩
    · have hlw := block_lt hnw
      have hcap := hes4.cap
      have hz2 := H2.out.2.2.2
      have hz4 := hk4.2
      have hs4 : W4.heap[w.heap.size]? = some (.cells #[.string ⟨#[120]⟩, .int .u8 3, .string ⟨#[46, 46, 47, 97]⟩, .slice none 0 0] 48 (0, 0)) := (hk4.1.block _ (by omega)).trans H2.out.1
      have hb4' : Below w.heap.size w W4 := below_step H2.out.2.2.1 hk4.1 (by omega)
      have H4 := Lib.hid (And.intro hcap (And.intro hz2 (And.intro hz4 (And.intro hs4 hb4'))))
      clear hcap hz2 hz4 hs4 hb4'
      go_wp2_with fail
      go_meet
      obtain ⟨hcap, hz2, hz4, hs4, hb4'⟩ := H4.out
      exact ⟨made_nN hcap hcm4 ((set3_block (W4.alloc _) w2.heap.size _ _ _ (show w.heap.size ≠ w2.heap.size by omega)).trans ((old_block _ _ _ (by omega)).trans hs4)) ((set3_block (W4.alloc _) w2.heap.size _ _ _ (show W4.heap.size ≠ w2.heap.size by omega)).trans (heap_alloc_new _ _)) (set3_row _ _ _ ((old_block _ _ _ hlw).trans hnw)) (by omega), set3_below (hb4'.alloc (by omega) _) (show w.heap.size ≤ w2.heap.size by omega) _ _ _⟩
  case rest =>
    have HN := Lib.hid hcut.out
    clear hcut HCL HF HK0 H2
    obtain ⟨g2, rfl, hg2, An, cn, hbn0, hen, _, _⟩ := HN.out.1
    have hbn : wc.heap[g2]? = some (.cells #[.int .u8 4, .string ⟨#[]⟩, .slice An 2 cn] 26 (0, 0)) := hbn0
    have hnv : NdV wc wc.heap.size (.agg #[.int .u8 4, .string ⟨#[]⟩, .slice An 2 cn]) nN := ⟨_, rfl, hen, by decide, by decide⟩
    have HB0 := Lib.hid HN.out.2
    obtain ⟨hc0, hc1, hc2, _⟩ := nd_box (W := wc) (k := 4) (d := ⟨#[]⟩) (v := .slice An 2 cn) hbn
    have HA := Lib.hid (ex_atW ⟨#[100, 47, 120]⟩ (by decide) 3 ⟨#[46, 46, 47, 97]⟩ 0 ex_at1 hnv)
    have H0 := Lib.hid (And.intro hbn hnv)
    clear HN hbn hbn0 hen hnv
    go_upto_region 4 with (go_at_call 24; refine HA.out.mono ?_; rintro e W6 ⟨hb6, A6, c6, rfl⟩)
    obtain ⟨w6, e6, hbx, hgx⟩ : ∃ wz, wz = W6.alloc (.cells #[.int .u8 3, .string ⟨#[46, 46, 47, 97]⟩, .slice A6 0 c6] 26) ∧ Below wc.heap.size wc wz ∧ wz.heap[W6.heap.size]? = some (.cells #[.int .u8 3, .string ⟨#[46, 46, 47, 97]⟩, .slice A6 0 c6] 26 (0, 0)) := ⟨_, rfl, hb6.alloc hb6.size _, heap_alloc_new _ _⟩
    rw [← e6]
    have hge6 : wc.heap.size ≤ W6.heap.size := hb6.size
    clear e6 hb6 hc0 hc1 hc2
    generalize W6.heap.size = g6 at *
    have hbn6 := (hbx.block g2 (block_lt H0.out.1)).trans H0.out.1
    have hnv6 := H0.out.2.below hbx
    have HB6 := Lib.hid (below_step HB0.out hbx HB0.out.size)
    have H6 := Lib.hid (And.intro hbn6 (And.intro hnv6 hgx))
    have HA2 := Lib.hid (ex_atW ⟨#[100, 47, 121]⟩ (by decide) 0 ⟨#[]⟩ 5 ex_at2 hnv6)
    obtain ⟨hc0, hc1, hc2, _⟩ := nd_box (W := w6) (k := 4) (d := ⟨#[]⟩) (v := .slice An 2 cn) hbn6
    clear hbx hgx hbn6 hnv6
    go_upto_region 5 with (go_at_call 24; refine HA2.out.mono ?_; rintro e W7 ⟨hb7, A7, c7, rfl⟩)
    obtain ⟨w7, e7, hbx, hgx⟩ : ∃ wz, wz = W7.alloc (.cells #[.int .u8 0, .string ⟨#[]⟩, .slice A7 0 c7] 26) ∧ Below w6.heap.size w6 wz ∧ wz.heap[W7.heap.size]? = some (.cells #[.int .u8 0, .string ⟨#[]⟩, .slice A7 0 c7] 26 (0, 0)) := ⟨_, rfl, hb7.alloc hb7.size _, heap_alloc_new _ _⟩
    rw [← e7]
    have hge7 : w6.heap.size ≤ W7.heap.size := hb7.size
    clear e7 hb7 hc0 hc1 hc2
    generalize W7.heap.size = g7 at *
    have hbn7 := (hbx.block g2 (block_lt H6.out.1)).trans H6.out.1
    have hnv7 := H6.out.2.1.below hbx
    have ht7 := (hbx.block g6 (block_lt H6.out.2.2)).trans H6.out.2.2
    have HB7 := Lib.hid (below_step HB6.out hbx HB6.out.size)
    have H7 := Lib.hid (And.intro hbn7 (And.intro hnv7 ht7))
    have HA3 := Lib.hid (ex_atW ⟨#[47, 100]⟩ (by decide) 0 ⟨#[]⟩ 2 ex_at3 hnv7)
    obtain ⟨hc0, hc1, hc2, _⟩ := nd_box (W := w7) (k := 4) (d := ⟨#[]⟩) (v := .slice An 2 cn) hbn7
    clear hbx hgx hbn7 hnv7 ht7
    go_upto_region 6 with (go_at_call 24; refine HA3.out.mono ?_; rintro e W8 ⟨hb8, A8, c8, rfl⟩)
    obtain ⟨w8, e8, hbx, hgx⟩ : ∃ wz, wz = W8.alloc (.cells #[.int .u8 0, .string ⟨#[]⟩, .slice A8 0 c8] 26) ∧ Below w7.heap.size w7 wz ∧ wz.heap[W8.heap.size]? = some (.cells #[.int .u8 0, .string ⟨#[]⟩, .slice A8 0 c8] 26 (0, 0)) := ⟨_, rfl, hb8.alloc hb8.size _, heap_alloc_new _ _⟩
    rw [← e8]
    have hge8 : w7.heap.size ≤ W8.heap.size := hb8.size
    clear e8 hb8 hc0 hc1 hc2
    generalize W8.heap.size = g8 at *
    have hbn8 := (hbx.block g2 (block_lt H7.out.1)).trans H7.out.1
    have hnv8 := H7.out.2.1.below hbx
    have ht8 := (hbx.block g6 (block_lt H7.out.2.2)).trans H7.out.2.2
    have HB8 := Lib.hid (below_step HB7.out hbx HB7.out.size)
    have H8 := Lib.hid (And.intro hbn8 (And.intro hnv8 ht8))
    clear hbx hgx hge6 hge7 hge8
    have HK8 := Lib.hid (KeepW.start (Nat.le_refl w8.heap.size))
    have HC8 := Lib.hid (fun (w' : World) (h : KeepW w8 w8.heap.size w') => show w'.cell? ⟨g2, 0, none⟩ = some (.int .u8 4) ∧ w'.cell? ⟨g2, 1, none⟩ = some (.string ⟨#[]⟩) ∧ w'.cell? ⟨g2, 2, none⟩ = some (.slice An 2 cn) from by
      have := nd_box (W := w') (k := 4) (d := ⟨#[]⟩) (v := .slice An 2 cn) ((h.1.block g2 (block_lt hbn8)).trans hbn8)
      exact ⟨this.1, this.2.1, this.2.2.1⟩)
    have HF8 := Lib.hid (fun (w' : World) (h : KeepW w8 w8.heap.size w') => (file_any ⟨#[]⟩ (by decide) w').mono (fun e W hq => (show KeepW w8 w8.heap.size W ∧ Below w'.heap.size w' W ∧ ∃ A c, e = .returned (.agg #[.int .u8 1, .string ⟨#[]⟩, .slice A 0 c]) ∧ NdV W W.heap.size (.agg #[.int .u8 1, .string ⟨#[]⟩, .slice A 0 c]) ⟨1, ⟨#[]⟩, .nil⟩ from by
      obtain ⟨hb, v, rfl, hv⟩ := hq
      obtain ⟨ev, rfl, hes, h2, h3⟩ := hv
      obtain ⟨A, c, rfl, _⟩ := hes.form
      exact ⟨h.step hb, hb, A, c, rfl, _, rfl, hes, h2, h3⟩)))
    have HP8 := Lib.hid (fun (w' : World) (h : KeepW w8 w8.heap.size w') (vx : Value) (hx : NdV w' w'.heap.size vx ⟨1, ⟨#[]⟩, .nil⟩) => (put_any w' _ (Nat.le_refl _) _ vx nN _ (hnv8.below (h.1) |>.more (Nat.le_refl _)) hx ⟨#[100, 47, 121]⟩ (by decide) (by decide) (by decide)).mono (fun e W hq => (show KeepW w8 w8.heap.size W ∧ Below w'.heap.size w' W ∧ ∃ A c, e = .returned (.tuple #[.agg #[.int .u8 4, .string ⟨#[]⟩, .slice A 2 c], .int .i64 0]) ∧ EsAt W W.heap.size (.slice A 2 c) mN.es from by
      obtain ⟨hb, v, he, hv⟩ := hq
      rw [ex_put] at he hv
      obtain ⟨ev, rfl, hes, h2, h3⟩ := hv
      obtain ⟨A, c, rfl, _⟩ := hes.form
      exact ⟨h.step hb, hb, A, c, he, hes⟩)))
    clear hbn8 hnv8 ht8
    go_cut [9, 10] (fun s9 s10 wx => s10 = .int .i64 0 ∧ Hid (BoxNd wx w.heap.size s9 mN ∧ Below w8.heap.size w8 wx))
    case first =>
      go_region_held3 (fun w' => w'.cell? ⟨g2, 0, none⟩ = some (.int .u8 4) ∧ w'.cell? ⟨g2, 1, none⟩ = some (.string ⟨#[]⟩) ∧ w'.cell? ⟨g2, 2, none⟩ = some (.slice An 2 cn)) (first | exact HC8.out _ (by first | assumption | exact KeepW.drew HK8.out | exact KeepW.drew (by assumption) | exact KeepW.alloc (by assumption) _ | exact KeepW.alloc (KeepW.drew HK8.out) _) | exact HC8.out _ (KeepW.set3 (by assumption) (Nat.le_refl _) _ _ _) | exact HC8.out _ (KeepW.set3 (by assumption) hk9.2 _ _ _) | go_keep) (first
        | (go_at_call 35; refine (HF8.out _ (by first | assumption | exact KeepW.drew HK8.out | exact KeepW.alloc (by assumption) _ | exact KeepW.alloc (KeepW.drew HK8.out) _)).mono ?_; rintro e W9 ⟨hk9, hb9, A9, c9, rfl, hv9⟩)
        | (go_at_call 27; refine (HP8.out _ (by first | assumption | exact KeepW.alloc (by assumption) _) _ (by first | exact hv9 | exact hv9.below ((Below.refl _ _).alloc (Nat.le_refl _) _))).mono ?_; rintro e W10 ⟨hk10, hb10, A10, c10, rfl, hes10⟩; (first | (have hnw : W10.heap[W9.heap.size]? = some (.cells #[.int .u8 0, .string ⟨#[]⟩, .slice none 0 0] 26 (0, 0)) := (hb10.block W9.heap.size (by simp)).trans (heap_alloc_new W9 _); obtain ⟨hy0, hy1, hy2, hy3, hy4, hy5⟩ := nd_box (W := W10) (k := 0) (d := ⟨#[]⟩) (v := .slice none 0 0) hnw) | (have hnw : W10.heap[w8.heap.size]? = some (.cells #[.int .u8 0, .string ⟨#[]⟩, .slice none 0 0] 26 (0, 0)) := (hb10.block w8.heap.size (by have := hb9.size; simp at this; omega)).trans ((hb9.block w8.heap.size (by simp)).trans (heap_alloc_new w8.drew _)); obtain ⟨hy0, hy1, hy2, hy3, hy4, hy5⟩ := nd_box (W := W10) (k := 0) (d := ⟨#[]⟩) (v := .slice none 0 0) hnw) | skip)))
      · have HK := Lib.hid (And.intro hk10 (And.intro hb10 hes10))
        clear hk10 hb10 hes10 hk9 hb9 hv9
        go_wp2_with fail
        go_meet
        obtain ⟨hk10, hb10, hes10⟩ := HK.out
        exact ⟨rfl, ⟨_, rfl, Nat.le_trans HB8.out.size hk10.2, A10, c10, heap_alloc_new _ _, (hes10.keep ((Below.refl _ _).alloc (Nat.le_refl _) _)).more (by simp), by decide, by decide⟩, hk10.1.alloc hk10.2 _⟩
      · have HK := Lib.hid (And.intro hk10 (And.intro hk9 (And.intro hes10 hnw)))
        clear hk10 hb10 hes10 hk9 hb9 hv9 hnw
        go_wp2_with fail
        go_meet
        obtain ⟨hk10, hk9, hes10, hnw⟩ := HK.out
        exact ⟨rfl, ⟨_, rfl, Nat.le_trans HB8.out.size hk9.2, A10, c10, set3_row _ _ _ hnw, (hes10.box hnw (fun k hk => set3_block W10 W9.heap.size _ _ _ hk)).more (by simp), by decide, by decide⟩, set3_below hk10.1 hk9.2 _ _ _⟩
      · have HK := Lib.hid (And.intro hk10 (And.intro hk9 (And.intro hes10 hnw)))
        clear hk10 hb10 hes10 hk9 hb9 hv9 hnw
        go_wp2_with fail
        go_meet
        obtain ⟨hk10, hk9, hes10, hnw⟩ := HK.out
        exact ⟨rfl, ⟨_, rfl, HB8.out.size, A10, c10, set3_row _ _ _ hnw, (hes10.box hnw (fun k hk => set3_block W10 w8.heap.size _ _ _ hk)).more (by simp), by decide, by decide⟩, set3_below hk10.1 (Nat.le_refl _) _ _ _⟩
    case rest =>
      obtain ⟨rfl, HR⟩ := hcut
      obtain ⟨⟨g9, rfl, hg9, A10, c10, hbm0, hem, _, _⟩, hb9⟩ := HR.out
      have hbm : wc.heap[g9]? = some (.cells #[.int .u8 4, .string ⟨#[]⟩, .slice A10 2 c10] 26 (0, 0)) := hbm0
      have hbn := (hb9.block g2 (block_lt H8.out.1)).trans H8.out.1
      have ht := (hb9.block g6 (block_lt H8.out.2.2)).trans H8.out.2.2
      have hvn := H8.out.2.1.below hb9
      have hvm : NdV wc wc.heap.size (.agg #[.int .u8 4, .string ⟨#[]⟩, .slice A10 2 c10]) mN := ⟨_, rfl, hem, by decide, by decide⟩
      have HBF := Lib.hid (below_step HB8.out hb9 HB8.out.size)
      have HK := Lib.hid (KeepW.start (Nat.le_refl wc.heap.size))
      have HC := Lib.hid (fun (w' : World) (h : KeepW wc wc.heap.size w') => show (w'.cell? ⟨g2, 0, none⟩ = some (.int .u8 4) ∧ w'.cell? ⟨g2, 1, none⟩ = some (.string ⟨#[]⟩) ∧ w'.cell? ⟨g2, 2, none⟩ = some (.slice An 2 cn)) ∧ (w'.cell? ⟨g9, 0, none⟩ = some (.int .u8 4) ∧ w'.cell? ⟨g9, 1, none⟩ = some (.string ⟨#[]⟩) ∧ w'.cell? ⟨g9, 2, none⟩ = some (.slice A10 2 c10)) ∧ w'.cell? ⟨g6, 0, none⟩ = some (.int .u8 3) from by
        have h1 := nd_box (W := w') (k := 4) (d := ⟨#[]⟩) (v := .slice An 2 cn) ((h.1.block g2 (block_lt hbn)).trans hbn)
        have h2 := nd_box (W := w') (k := 4) (d := ⟨#[]⟩) (v := .slice A10 2 c10) ((h.1.block g9 (block_lt hbm)).trans hbm)
        have h3 := nd_box (W := w') (k := 3) (d := ⟨#[46, 46, 47, 97]⟩) (v := .slice A6 0 c6) ((h.1.block g6 (block_lt ht)).trans ht)
        exact ⟨⟨h1.1, h1.2.1, h1.2.2.1⟩, ⟨h2.1, h2.2.1, h2.2.2.1⟩, h3.1⟩)
      have HVN := Lib.hid (fun (w' : World) (h : KeepW wc wc.heap.size w') => hvn.below h.1)
      have HVM := Lib.hid (fun (w' : World) (h : KeepW wc wc.heap.size w') => hvm.below h.1)
      clear hbm hbm0 hem hbn ht hvn hvm hb9 HR H8 HK8 HC8 HF8 HP8 hg9
      have HCO := Lib.hid (fun (w' : World) (h : KeepW wc wc.heap.size w') => h.calls (show Calls Tryd.prog 16 #[.agg #[.int .u8 4, .string ⟨#[]⟩, .slice An 2 cn]] w' fun e W => e = .returned (.int .i64 4) ∧ Below w'.heap.size w' W from by
        have := callsIn_wide.1 (count_any 3 (Nat.le_refl _) _ nN w' (HVN.out w' h) (by rw [Fil.Nd.flat_len]; decide))
        rw [ex_count] at this; exact this))
      have HDE := Lib.hid (fun (w' : World) (h : KeepW wc wc.heap.size w') => h.calls (show Calls Tryd.prog 18 #[.agg #[.int .u8 4, .string ⟨#[]⟩, .slice An 2 cn]] w' fun e W => e = .returned (.int .i64 2) ∧ Below w'.heap.size w' W from by
        have := callsIn_wide.1 (depth_any 3 (Nat.le_refl _) _ nN w' (HVN.out w' h) (by rw [Fil.Nd.flat_len]; decide))
        rw [ex_depth] at this; exact this))
      have HSI := Lib.hid (fun (w' : World) (h : KeepW wc wc.heap.size w') => h.calls (show Calls Tryd.prog 20 #[.agg #[.int .u8 4, .string ⟨#[]⟩, .slice An 2 cn]] w' fun e W => e = .returned (.int .i64 6) ∧ Below w'.heap.size w' W from by
        have := callsIn_wide.1 (size_any 3 (Nat.le_refl _) _ nN w' (HVN.out w' h) (by rw [Fil.Nd.flat_len]; decide) (by decide))
        rw [ex_size] at this; exact this))
      have HRI := Lib.hid (fun (w' : World) (h : KeepW wc wc.heap.size w') => h.calls (show Calls Tryd.prog 14 #[.agg #[.int .u8 4, .string ⟨#[]⟩, .slice An 2 cn]] w' fun e W => e = .returned (.bool true) ∧ Below w'.heap.size w' W from by
        have := right_calls _ nN w' (HVN.out w' h) (by decide)
        rw [ex_right] at this; exact this))
      have HNA := Lib.hid (fun (w' : World) (h : KeepW wc wc.heap.size w') => h.calls (show Calls Tryd.prog 10 #[.string ⟨#[97]⟩] w' fun e W => e = .returned (.bool true) ∧ Below w'.heap.size w' W from by
        have := name_any ⟨#[97]⟩ w'
        rw [ex_name] at this; exact this))
      have HPN := Lib.hid (fun (w' : World) (h : KeepW wc wc.heap.size w') => (callsIn_wide.1 (paths_any 6 (Nat.le_refl _) _ nN w' (HVN.out w' h) (by rw [Fil.Nd.flat_len]; decide))).mono (fun e W hq => show KeepW wc wc.heap.size W ∧ ∃ v, e = .returned v ∧ RdT.Reads W W.heap.size v (RdT.strs [⟨#[]⟩, ⟨#[97]⟩, ⟨#[100]⟩, ⟨#[100, 47, 120]⟩]) from by
        obtain ⟨hb, v, rfl, hown⟩ := hq
        rw [ex_paths] at hown
        exact ⟨h.step hb, v, rfl, RdT.Reads.own hown⟩))
      have HPM := Lib.hid (fun (w' : World) (h : KeepW wc wc.heap.size w') => (callsIn_wide.1 (paths_any 6 (Nat.le_refl _) _ mN w' (HVM.out w' h) (by rw [Fil.Nd.flat_len]; decide))).mono (fun e W hq => show KeepW wc wc.heap.size W ∧ ∃ v, e = .returned v ∧ RdT.Reads W W.heap.size v (RdT.strs [⟨#[]⟩, ⟨#[97]⟩, ⟨#[100]⟩, ⟨#[100, 47, 120]⟩, ⟨#[100, 47, 121]⟩]) from by
        obtain ⟨hb, v, rfl, hown⟩ := hq
        rw [ex_paths2] at hown
        exact ⟨h.step hb, v, rfl, RdT.Reads.own hown⟩))
      clear HVN HVM
      obtain ⟨⟨hc0, hc1, hc2⟩, _, _⟩ := HC.out wc HK.out
      go_wp2_with fail
      refine (HCO.out wc HK.out).mono ?_
      rintro e Wa ⟨rfl, hka⟩
      have HKa := Lib.hid hka
      clear hka hc0 hc1 hc2
      obtain ⟨⟨hc0, hc1, hc2⟩, _, _⟩ := HC.out Wa HKa.out
      go_wp2_with fail
      refine (HDE.out Wa HKa.out).mono ?_
      rintro e Wb ⟨rfl, hkb⟩
      have HKb := Lib.hid hkb
      clear hkb hc0 hc1 hc2
      obtain ⟨⟨hc0, hc1, hc2⟩, _, _⟩ := HC.out Wb HKb.out
      go_wp2_with fail
      refine (HSI.out Wb HKb.out).mono ?_
      rintro e Wc ⟨rfl, hkc⟩
      have HKc := Lib.hid hkc
      clear hkc hc0 hc1 hc2
      obtain ⟨⟨hc0, hc1, hc2⟩, _, _⟩ := HC.out Wc HKc.out
      go_wp2_with fail
      refine (HPN.out Wc HKc.out).mono ?_
      rintro e Wd ⟨hkd, vd, rfl, hrd⟩
      have HKd := Lib.hid hkd
      have HRD := Lib.hid hrd
      clear hkd hrd hc0 hc1 hc2
      go_wp2_with fail
      refine (same_lit [⟨#[]⟩, ⟨#[97]⟩, ⟨#[100]⟩, ⟨#[100, 47, 120]⟩] (by decide) HRD.out HKd.out _).mono ?_
      rintro e We ⟨rfl, hke⟩
      have HKe := Lib.hid hke
      clear hke HRD
      obtain ⟨_, ⟨hc0, hc1, hc2⟩, hc3⟩ := HC.out We HKe.out
      go_wp2_with fail
      refine (HPM.out We HKe.out).mono ?_
      rintro e Wf ⟨hkf, vf, rfl, hrf⟩
      have HKf := Lib.hid hkf
      have HRF := Lib.hid hrf
      clear hkf hrf hc0 hc1 hc2 hc3
      go_wp2_with fail
      refine (same_lit [⟨#[]⟩, ⟨#[97]⟩, ⟨#[100]⟩, ⟨#[100, 47, 120]⟩, ⟨#[100, 47, 121]⟩] (by decide) HRF.out HKf.out _).mono ?_
      rintro e Wg ⟨rfl, hkg⟩
      have HKg := Lib.hid hkg
      clear hkg HRF
      go_wp2_with fail
      refine (HNA.out Wg HKg.out).mono ?_
      rintro e Wh ⟨rfl, hkh⟩
      have HKh := Lib.hid hkh
      clear hkh
      obtain ⟨⟨hc0, hc1, hc2⟩, _, _⟩ := HC.out Wh HKh.out
      go_wp2_with fail
      refine (HRI.out Wh HKh.out).mono ?_
      rintro e Wi ⟨rfl, hki⟩
      have HKi := Lib.hid hki
      clear hki hc0 hc1 hc2
      go_wp2_with fail
      go_ret
      exact ⟨rfl, below_step HBF.out HKi.out.1 HBF.out.size⟩
end Go.Proofs.YtmcafiihicanfaaDoor
