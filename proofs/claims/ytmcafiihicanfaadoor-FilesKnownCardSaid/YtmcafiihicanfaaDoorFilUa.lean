/- files: FilesKnown: the kit's Chain; plain facts. -/
import Derived.Test.YtmcafiihicanfaaDoorFilQf
set_option linter.unusedVariables false
set_option linter.unusedSimpArgs false
namespace Go.Proofs.YtmcafiihicanfaaDoor
open Go Go.RowKit Go.BigFrame
open Fil (Es Nd Sp)

/-- A node in its box. -/
def BoxP (W : World) (g : Nat) (nd : Nd) : Prop := ∃ A c, W.heap[g]? = some (ndCells nd.k nd.d (.slice A nd.es.len c)) ∧ EsAt W W.heap.size (.slice A nd.es.len c) nd.es ∧ nd.d.size ≤ maxLen ∧ nd.k < 256
theorem BoxP.keep {W W' : World} {g : Nat} {nd : Nd} (h : BoxP W g nd) (hb : Below W.heap.size W W') : BoxP W' g nd := by
  obtain ⟨A, c, h1, h2, h3⟩ := h
  exact ⟨A, c, (hb.block g (block_lt h1)).trans h1, (h2.keep hb).more hb.size, h3⟩
theorem BoxP.cells {W : World} {g : Nat} {nd : Nd} (h : BoxP W g nd) : ∃ A c, W.cell? ⟨g, 0, none⟩ = some (.int .u8 (nd.k : Int)) ∧ W.cell? ⟨g, 1, none⟩ = some (.string nd.d) ∧ W.cell? ⟨g, 2, none⟩ = some (.slice A nd.es.len c) ∧ NdV W W.heap.size (.agg #[.int .u8 (nd.k : Int), .string nd.d, .slice A nd.es.len c]) nd ∧ W.heap[g]? = some (ndCells nd.k nd.d (.slice A nd.es.len c)) := by
  obtain ⟨A, c, h1, h2, h3, h4⟩ := h
  obtain ⟨x0, x1, x2, _⟩ := nd_box h1
  exact ⟨A, c, x0, x1, x2, ⟨_, rfl, h2, h3, h4⟩, h1⟩
/-- A directory with one entry. -/
def oneN (nm : ByteArray) (n : Nd) : Nd := ⟨4, ⟨#[]⟩, .cons nm n.k n.d n.es .nil⟩
theorem one_es {W : World} {r : Nat} {nm : ByteArray} {n : Nd} {ev : Value} (hr : W.heap[r]? = some (.cells #[.string nm, .int .u8 (n.k : Int), .string n.d, ev] 48 (0, 0))) (hn : nm.size ≤ maxLen) (hd : n.d.size ≤ maxLen) (hk : n.k < 256) (he : EsAt W W.heap.size ev n.es) :
    EsAt W W.heap.size (.slice (some ⟨r, 0, none⟩) 1 1) (oneN nm n).es :=
  entRow_at (es := (oneN nm n).es) (xs := [.string nm, .int .u8 (n.k : Int), .string n.d, ev]) hr rfl (by decide) ⟨ev, [], rfl, hn, hd, hk, he, rfl⟩
def chainN : Nat → Nd → Nd
  | 0, e => e
  | k + 1, e => oneN ⟨#[99]⟩ (chainN k e)
theorem chain_set {W : World} {g : Nat} {n : Nd} {A : Option Addr} {c : Nat} (hb : W.heap[g]? = some (ndCells n.k n.d (.slice A n.es.len c))) (he : EsAt W W.heap.size (.slice A n.es.len c) n.es) (hd : n.d.size ≤ maxLen) (hk : n.k < 256) :
    BoxP (set3 (W.alloc (.cells #[.string ⟨#[99]⟩, .int .u8 (n.k : Int), .string n.d, .slice A n.es.len c] 48)) g (.int .u8 4) (.string ⟨#[]⟩) (.slice (some ⟨W.heap.size, 0, none⟩) 1 1)) g (oneN ⟨#[99]⟩ n) := by
  have hlt := block_lt hb
  have hb1 : Below W.heap.size W (W.alloc (.cells #[.string ⟨#[99]⟩, .int .u8 (n.k : Int), .string n.d, .slice A n.es.len c] 48)) := (Below.refl _ _).alloc (Nat.le_refl _) _
  have hr := heap_alloc_new W (.cells #[.string ⟨#[99]⟩, .int .u8 (n.k : Int), .string n.d, .slice A n.es.len c] 48)
  have hg := (hb1.block g hlt).trans hb
  have he1 := one_es (nm := ⟨#[99]⟩) hr (by decide) hd hk (he.below hb1)
  generalize W.alloc (.cells #[.string ⟨#[99]⟩, .int .u8 (n.k : Int), .string n.d, .slice A n.es.len c] 48) = W1 at *
  refine ⟨_, _, set3_row _ _ _ hg, ?_, (by decide : (ByteArray.mk #[]).size ≤ maxLen), (by decide : (4 : Nat) < 256)⟩
  have hs : (set3 W1 g (.int .u8 4) (.string ⟨#[]⟩) (.slice (some ⟨W.heap.size, 0, none⟩) 1 1)).heap.size = W1.heap.size := by simp [set3]
  rw [hs]
  exact he1.box hg (fun k hk' => set3_block W1 g _ _ _ hk')
set_option maxRecDepth 1000000 in
set_option maxRecDepth 100000 in
set_option maxHeartbeats 4000000 in
theorem chain_c (n : Nat) (hn : n ≤ 100) (v : Value) (e : Nd) (w : World) (hv : NdV w w.heap.size v e) :
    Calls Tryd.prog 36 #[.int .i64 (n : Int), v] w fun x W => Below w.heap.size w W ∧ ∃ v', x = .returned v' ∧ NdV W W.heap.size v' (chainN n e) := by
  obtain ⟨ev, rfl, hes, hd, hk⟩ := hv
  obtain ⟨A, c, rfl, hlc, hcm⟩ := hes.form
  go_enter Tryd.func36, Tryd.ntmps36
  obtain ⟨w1, e1, hx1, hr1, hb1⟩ : ∃ w1, w1 = (w.alloc (ndCells e.k e.d (.slice A e.es.len c))).alloc (ndCells 0 ⟨#[]⟩ (.slice none 0 0)) ∧ BoxP w1 w.heap.size e ∧ w1.heap[w.heap.size + 1]? = some (ndCells 0 ⟨#[]⟩ (.slice none 0 0)) ∧ Below w.heap.size w w1 := by
    have hb := ((Below.refl w.heap.size w).alloc (Nat.le_refl _) (ndCells e.k e.d (.slice A e.es.len c))).alloc (show w.heap.size ≤ (w.alloc (ndCells e.k e.d (.slice A e.es.len c))).heap.size by simp) (ndCells 0 ⟨#[]⟩ (.slice none 0 0))
    exact ⟨_, rfl, ⟨A, c, heap_alloc2_old _ _ _, hes.below hb, hd, hk⟩, heap_alloc2_new _ _ _, hb⟩
  have HX := Lib.hid (And.intro hx1 (And.intro hr1 hb1))
  clear hx1 hr1 hb1 hes
  go_upto_region 1 with (fail)
  change Code.wp _ _ _ _ ((w.alloc (ndCells e.k e.d (.slice A e.es.len c))).alloc (ndCells 0 ⟨#[]⟩ (.slice none 0 0)))
  rw [← e1]
  clear e1
  generalize hgg : w.heap.size = g at *
  go_upto_region 2 with (fail)
  go_loopw [5] (fun u wx => ∃ k : Nat, k ≤ n ∧ u = .int .i64 (k : Int) ∧ Hid (BoxP wx g (chainN k e) ∧ wx.heap[g + 1]? = some (ndCells 0 ⟨#[]⟩ (.slice none 0 0)) ∧ Below g w wx)) (fun u _ => n - (intOf u).toNat)
  case atStart => exact ⟨0, by omega, rfl, HX⟩
  case round =>
    obtain ⟨k, hkn, rfl, HK⟩ := hrel
    by_cases hlk : k < n
    · have hk1 : (k : Int) < (n : Int) := by omega
      have hw2 : IntKind.i64.wrap ((k : Int) + 1) = (k : Int) + 1 := IntWalk.i64_in _ (by omega)
      obtain ⟨Ak, ck, hbx, hek, hdk, hkk⟩ := HK.out.1
      obtain ⟨x0, x1, x2, _⟩ := nd_box hbx
      obtain ⟨q0, q1, q2, z0, z1, z2⟩ := nd_box (((((Below.refl _ _).alloc (Nat.le_refl _) (.cells #[.string ⟨#[99]⟩, .int .u8 ((chainN k e).k : Int), .string (chainN k e).d, .slice Ak (chainN k e).es.len ck] 48) : Below wr.heap.size wr _)).block g (block_lt hbx)).trans hbx)
      have HV := Lib.hid (And.intro hbx (And.intro hek (And.intro hdk hkk)))
      clear hbx hek hdk hkk
      go_wp2_with fail
      go_roundw
      case rel =>
        obtain ⟨hbx, hek, hdk, hkk⟩ := HV.out
        obtain ⟨_, hr, hB⟩ := HK.out
        exact ⟨k + 1, by omega, by go_num, Lib.hid ⟨chain_set hbx hek hdk hkk, (set3_block _ g _ _ _ (show g + 1 ≠ g by omega)).trans ((old_block _ _ _ (block_lt hr)).trans hr), set3_below (hB.alloc (Nat.le_of_lt (block_lt hbx)) _) (Nat.le_refl g) _ _ _⟩⟩
      case measure => simp [intOf]; omega
    · have hk1 : ¬ (k : Int) < (n : Int) := by omega
      have hkn' : k = n := by omega
      subst hkn'
      obtain ⟨Ak, ck, hbx, hek, hdk, hkk⟩ := HK.out.1
      obtain ⟨x0, x1, x2, _⟩ := nd_box hbx
      obtain ⟨q0, q1, q2, z0, z1, z2⟩ := nd_box HK.out.2.1
      have HV := Lib.hid (And.intro hbx (And.intro hek (And.intro hdk hkk)))
      clear hbx hek hdk hkk
      have hi : (Tryd.prog.info? 26).map (·.size) = some 3 := by kernel_rfl
      go_wp2_with fail
      obtain ⟨hbx, hek, hdk, hkk⟩ := HV.out
      obtain ⟨_, hr, hB⟩ := HK.out
      refine bodyPost_ret (results_cell_row rfl _ _ _ _ _ _ _ rfl (set3_row (W := wr) (g := g + 1) (.int .u8 ((chainN k e).k : Int)) (.string (chainN k e).d) (.slice Ak (chainN k e).es.len ck) hr) Tryd.underlying26 (by rfl) hi) rfl ⟨set3_below hB (Nat.le_succ g) _ _ _, _, rfl, _, rfl, ?_, hdk, hkk⟩
      have hs : (set3 wr (g + 1) (.int .u8 ((chainN k e).k : Int)) (.string (chainN k e).d) (.slice Ak (chainN k e).es.len ck)).heap.size = wr.heap.size := by simp [set3]
      show EsAt (set3 wr (g + 1) (.int .u8 ((chainN k e).k : Int)) (.string (chainN k e).d) (.slice Ak (chainN k e).es.len ck)) (set3 wr (g + 1) (.int .u8 ((chainN k e).k : Int)) (.string (chainN k e).d) (.slice Ak (chainN k e).es.len ck)).heap.size _ _
      rw [hs]
      exact hek.box hr (fun j hj => set3_block wr (g + 1) _ _ _ hj)
end Go.Proofs.YtmcafiihicanfaaDoor
