/- files: FilesKnown walked. -/
import Derived.Test.YtmcafiihicanfaaDoorFilSp
import Derived.Test.YtmcafiihicanfaaDoorFilTb
import Derived.Test.YtmcafiihicanfaaDoorFilUf
namespace Go.Proofs.YtmcafiihicanfaaDoor
open Go Go.RowKit Go.BigFrame
open Fil (Es Nd Sp)

def kinds11 : List Kf := [.tx 256, .boo true, .boo false, .boo false, .nd, .tx 256, .boo true, .boo false, .boo false, .boo false, .nd, .tx 256, .tx 258, .boo true, .boo false, .boo false, .boo false, .nd, .tx 256, .nd, .boo true, .boo false, .boo false, .boo false, .nd, .tx 256, .tx 258, .nd, .boo true, .boo false, .boo false, .boo false, .nd, .tx 256, .tx 258, .nd, .boo true, .boo false, .boo false, .boo false, .tx 256, .nd, .ent, .es, .nd, .boo true, .boo false, .boo false, .boo false, .tx 256, .nd, .boo true, .boo false, .boo false]
def kinds18 (tz tn : ByteArray) : List Kf := [.nd, .nd, .nd, .nd, .ent, .es, .nd, .nd, .ent, .es, .nd, .val (.string tz), .nd, .val (.string tn), .nd, .val (.string tn), .tx 255, .nd, .nd, .nd, .ent, .nd, .ent, .es, .nd, .nd, .ent, .nd, .ent, .es, .nd, .row 12, .num 12, .num 0]
def kinds21 (ad : Addr) (pl : List ByteArray) (pc i : Nat) : List Kf := [.nd, .val (.slice (some ad) pl.length pc), .num (i : Int), .val (.pointer (some (ad.add i))), .tx 100, .nd, .boo true, .boo false, .boo false, .nd, .val (.slice (some ad) pl.length pc), .num (i : Int), .val (.pointer (some (ad.add i))), .tx 100, .tx 102, .boo true, .boo false, .boo false, .boo false, .nd, .num (i : Int), .nd, .boo true, .boo false, .boo false, .boo false, .nd, .boo true, .boo false, .boo false, .boo false, .nd, .nd, .boo true, .boo false, .boo false, .boo false, .nd, .boo true, .boo false, .boo false]
def kindsW (n g12 : Nat) (A : Option Addr) (c : Nat) : List Kw := [.val (.pointer (some ⟨g12, 2, none⟩)), .val (.slice A n c), .val (.int .i64 (n : Int)), .val (.int .i64 ((n / 256 : Nat) : Int)), .val (.int .i64 ((65 + n / 256 : Nat) : Int)), .val (.int .u8 ((65 + n / 256 : Nat) : Int)), .val (.int .i64 (n : Int)), .val (.int .i64 ((n / 16 : Nat) : Int)), .val (.int .i64 ((n / 16 % 16 : Nat) : Int)), .val (.int .i64 ((97 + n / 16 % 16 : Nat) : Int)), .val (.int .u8 ((97 + n / 16 % 16 : Nat) : Int)), .val (.int .i64 (n : Int)), .val (.int .i64 ((n % 16 : Nat) : Int)), .val (.int .i64 ((97 + n % 16 : Nat) : Int)), .val (.int .u8 ((97 + n % 16 : Nat) : Int)), .byt, .val (.string (nmW n)), .val (.agg #[.int .u8 1, .string ⟨#[]⟩, .slice none 0 0]), .val (.agg #[.string (nmW n), .int .u8 1, .string ⟨#[]⟩, .slice none 0 0]), .one, .app, .val (.pointer (some ⟨g12, 2, none⟩)), .non]
theorem kW_app (n g12 : Nat) (A : Option Addr) (c : Nat) : ∀ j, j ≠ 20 → (kindsW n g12 A c).getD j .non ≠ .app := fun j hj h => by
  match j, hj, h with
  | 0, _, h => have h2 : Kw.val _ = Kw.app := h; cases h2
  | 1, _, h => have h2 : Kw.val _ = Kw.app := h; cases h2
  | 2, _, h => have h2 : Kw.val _ = Kw.app := h; cases h2
  | 3, _, h => have h2 : Kw.val _ = Kw.app := h; cases h2
  | 4, _, h => have h2 : Kw.val _ = Kw.app := h; cases h2
  | 5, _, h => have h2 : Kw.val _ = Kw.app := h; cases h2
  | 6, _, h => have h2 : Kw.val _ = Kw.app := h; cases h2
  | 7, _, h => have h2 : Kw.val _ = Kw.app := h; cases h2
  | 8, _, h => have h2 : Kw.val _ = Kw.app := h; cases h2
  | 9, _, h => have h2 : Kw.val _ = Kw.app := h; cases h2
  | 10, _, h => have h2 : Kw.val _ = Kw.app := h; cases h2
  | 11, _, h => have h2 : Kw.val _ = Kw.app := h; cases h2
  | 12, _, h => have h2 : Kw.val _ = Kw.app := h; cases h2
  | 13, _, h => have h2 : Kw.val _ = Kw.app := h; cases h2
  | 14, _, h => have h2 : Kw.val _ = Kw.app := h; cases h2
  | 15, _, h => have h2 : Kw.byt = Kw.app := h; cases h2
  | 16, _, h => have h2 : Kw.val _ = Kw.app := h; cases h2
  | 17, _, h => have h2 : Kw.val _ = Kw.app := h; cases h2
  | 18, _, h => have h2 : Kw.val _ = Kw.app := h; cases h2
  | 19, _, h => have h2 : Kw.one = Kw.app := h; cases h2
  | 20, hj, _ => exact hj rfl
  | 21, _, h => have h2 : Kw.val _ = Kw.app := h; cases h2
  | 22, _, h => have h2 : Kw.non = Kw.app := h; cases h2
  | k + 23, _, h => have h2 : Kw.non = Kw.app := h; cases h2
def kindsZ (n32 : Nd) (A32 : Option Addr) (c32 : Nat) : List Kz := [.val (.agg #[.int .u8 (n32.k : Int), .string n32.d, .slice A32 n32.es.len c32]), .val (.agg #[.int .u8 1, .string ⟨#[]⟩, .slice none 0 0]), .chn, .tup, .tup, .nod, .val (.int .i64 70), .box, .non, .val (.int .i64 70)]
theorem barn_paths : 0 < (pathsQ barnN).length ∧ (pathsQ barnN).length ≤ 20 ∧ ∀ s ∈ pathsQ barnN, s.size ≤ 100 := by decide +kernel
theorem barn_wei : weiE barnN.es ≤ 1000000 := by decide +kernel
theorem i64_wf (i : Nat) (h : i < 1000000) : (Lit.int .i64 (i : Int)).wf = true := by
  have h3 : IntKind.i64.min ≤ (i : Int) ∧ (i : Int) ≤ IntKind.i64.max := by
    rw [show IntKind.i64.min = -9223372036854775808 from rfl, show IntKind.i64.max = 9223372036854775807 from rfl]
    omega
  simpa [Lit.wf] using h3
/-- A row of zeros, and its text. -/
theorem zero_row (n : Nat) (hn : n ≤ 1000000) : ∃ (R : Array Value) (s : ByteArray), s.size = n ∧
    (∀ wx : World, (Instr.makeSlice 45 (.int .i64 (n : Int)) (.int .i64 (n : Int))).run Tryd.prog wx = .ok (.slice (some ⟨wx.heap.size, 0, none⟩) n n) (wx.alloc (.cells R 5))) ∧
    ∀ wx : World, (convert 45 9 (.slice (some ⟨wx.heap.size, 0, none⟩) n n)).run Tryd.prog (wx.alloc (.cells R 5)) = .ok (.string s) (wx.alloc (.cells R 5)) := by
  refine ⟨madeCells #[.int .u8 0] n, strOf (txt (fun _ => 0) n), by rw [strOf_size, txt_len], fun wx => ?_, fun wx => ?_⟩
  · exact run_make_row' (P := Tryd.prog) 45 5 (.int .u8 0) 1 Tryd.underlying45 (by kernel_rfl) rfl .i64 .i64 n (by omega) (by omega) wx
  · rw [made_zero]
    exact convert_holds (P := Tryd.prog) (src := 45) (dst := 9) (d := fun _ => 0) (fun _ => by decide) (holds_new wx _ _ n (0, 0)) (fun e => by cases e) (Nat.le_refl _) Tryd.underlying45 Tryd.underlying5 Tryd.underlying9
theorem texts_at {W : World} {gr : Nat} {tn st : ByteArray} (h : W.heap[gr]? = some (.cells #[.string ⟨#[]⟩, .string ⟨#[46]⟩, .string ⟨#[46, 46]⟩, .string ⟨#[46, 46, 46]⟩, .string ⟨#[97, 47, 98]⟩, .string ⟨#[97, 0]⟩, .string ⟨#[97]⟩, .string ⟨#[255]⟩, .string ⟨#[32]⟩, .string tn, .string st, .string ⟨#[47]⟩] 9 (0, 0))) (hn : tn.size = 256) (hs : st.size ≤ 256) :
    ∀ k, k < 12 → ∃ s, s.size ≤ 256 ∧ W.cell? ⟨gr, k, none⟩ = some (.string s) := fun k hk => by
  match k, hk with
  | 0, _ => exact ⟨_, by decide, (cell_of_row _ _ _ _ _ _ h).trans rfl⟩
  | 1, _ => exact ⟨_, by decide, (cell_of_row _ _ _ _ _ _ h).trans rfl⟩
  | 2, _ => exact ⟨_, by decide, (cell_of_row _ _ _ _ _ _ h).trans rfl⟩
  | 3, _ => exact ⟨_, by decide, (cell_of_row _ _ _ _ _ _ h).trans rfl⟩
  | 4, _ => exact ⟨_, by decide, (cell_of_row _ _ _ _ _ _ h).trans rfl⟩
  | 5, _ => exact ⟨_, by decide, (cell_of_row _ _ _ _ _ _ h).trans rfl⟩
  | 6, _ => exact ⟨_, by decide, (cell_of_row _ _ _ _ _ _ h).trans rfl⟩
  | 7, _ => exact ⟨_, by decide, (cell_of_row _ _ _ _ _ _ h).trans rfl⟩
  | 8, _ => exact ⟨_, by decide, (cell_of_row _ _ _ _ _ _ h).trans rfl⟩
  | 9, _ => exact ⟨tn, by omega, (cell_of_row _ _ _ _ _ _ h).trans rfl⟩
  | 10, _ => exact ⟨st, hs, (cell_of_row _ _ _ _ _ _ h).trans rfl⟩
  | 11, _ => exact ⟨_, by decide, (cell_of_row _ _ _ _ _ _ h).trans rfl⟩
  | i + 12, hi => exact absurd hi (by omega)
set_option maxRecDepth 1000000 in
set_option maxRecDepth 100000 in
set_option maxHeartbeats 8000000 in
theorem filesKnown_walk (w : World) (_ : True) : Calls Tryd.prog 9 #[] w fun e W => e = .returned (.bool true) ∧ Below w.heap.size w W := by
  obtain ⟨nb, hnb⟩ : ∃ n, n = barnN := ⟨_, rfl⟩
  have HBN := Lib.hid (barn_c w)
  have HPB := Lib.hid (And.intro barn_paths barn_wei)
  rw [← hnb] at HBN HPB
  clear hnb
  go_enter Tryd.func9, Tryd.ntmps9
  go_upto_region 2 with (go_at_call 34; refine HBN.out.mono ?_; rintro e w0 ⟨hb0, vb, rfl, evb, rfl, heb, hdb, hkb⟩; obtain ⟨Ab, cb, rfl, hlb, hcb⟩ := heb.form)
  change Code.wp _ _ _ _ (w0.alloc (ndCells nb.k nb.d (.slice Ab nb.es.len cb)))
  obtain ⟨gb, hgb⟩ : ∃ g, g = w0.heap.size := ⟨_, rfl⟩
  obtain ⟨w1, e1, hx1, hb1, hv1⟩ : ∃ w1, w1 = w0.alloc (ndCells nb.k nb.d (.slice Ab nb.es.len cb)) ∧ w1.heap[gb]? = some (ndCells nb.k nb.d (.slice Ab nb.es.len cb)) ∧ Below w.heap.size w w1 ∧ NdV w1 w1.heap.size (.agg #[.int .u8 (nb.k : Int), .string nb.d, .slice Ab nb.es.len cb]) nb := by
    have hbz := (Below.refl w0.heap.size w0).alloc (Nat.le_refl _) (ndCells nb.k nb.d (.slice Ab nb.es.len cb))
    exact ⟨_, rfl, by rw [hgb]; exact heap_alloc_new _ _, below_step hb0 hbz hb0.size, _, rfl, heb.below hbz, hdb, hkb⟩
  rw [← e1, ← hgb]
  clear e1 heb hb0 hdb hkb hgb
  have HB1 := Lib.hid (And.intro hx1 (And.intro hb1 hv1))
  clear hx1 hb1 hv1
  obtain ⟨R2, tz, htz, hm2, hc2⟩ := zero_row 256 (by decide)
  have hm2' : ∀ wx : World, (Instr.makeSlice 45 (.int .i64 256) (.int .i64 256)).run Tryd.prog wx = .ok (.slice (some ⟨wx.heap.size, 0, none⟩) 256 256) (wx.alloc (.cells R2 5)) := hm2
  have HTZ := Lib.hid htz
  clear hm2 htz
  go_upto_region 3 with (fail)
  have hbz := (Below.refl w1.heap.size w1).alloc (Nat.le_refl _) (.cells R2 5)
  have HZ := Lib.hid hbz
  clear hbz
  generalize hwz : w1.alloc (.cells R2 5) = wz at *
  clear hm2' hc2 hwz
  have HB2 := Lib.hid (show wz.heap[gb]? = some (ndCells nb.k nb.d (.slice Ab nb.es.len cb)) ∧ Below w.heap.size w wz ∧ NdV wz wz.heap.size (.agg #[.int .u8 (nb.k : Int), .string nb.d, .slice Ab nb.es.len cb]) nb from ⟨(HZ.out.block gb (block_lt HB1.out.1)).trans HB1.out.1, below_step HB1.out.2.1 HZ.out HB1.out.2.1.size, HB1.out.2.2.below HZ.out⟩)
  clear HB1 HZ
  go_upto_region 5 with (fail)
  go_loopw [3, 4] (fun s3 u wx => ∃ (k : Nat) (s : ByteArray), k ≤ 256 ∧ s3 = .string s ∧ u = .int .i64 (k : Int) ∧ Hid (s.size = k) ∧ wx = wz) (fun _ u _ => 256 - (intOf u).toNat)
  case atStart => exact ⟨0, ⟨#[]⟩, by omega, rfl, rfl, Lib.hid rfl, rfl⟩
  case round =>
    obtain ⟨k, s, hk, rfl, rfl, HS, rfl⟩ := hrel
    by_cases hlk : k < 256
    · have hk1 : (k : Int) < 256 := by omega
      have hw2 : IntKind.i64.wrap ((k : Int) + 1) = (k : Int) + 1 := IntWalk.i64_in _ (by omega)
      have hn2 : ¬ 9223372036854775807 < s.size + 1 := by have := HS.out; omega
      go_wp2_with fail
      go_roundw
      case rel => exact ⟨k + 1, s ++ ⟨#[110]⟩, by omega, rfl, by go_num, Lib.hid (by rw [ByteArray.size_append, HS.out]; rfl), trivial⟩
      case measure => simp [intOf]; omega
    · have hk1 : ¬ (k : Int) < 256 := by omega
      have hke : k = 256 := by omega
      subst hke
      generalize s = tn at *
      have HTN := HS
      clear HS
      have hn1 : tn.size = 256 := HTN.out
      go_upto_region 9 with (fail)
      obtain ⟨st, hst⟩ : ∃ st, st = tn.extract 0 255 := ⟨_, rfl⟩
      have hsz : st.size = 255 := by rw [hst, ByteArray.size_extract]; omega
      rw [← hst]
      have HSE := Lib.hid hst
      clear hst
      have hba := (Below.refl wr.heap.size wr).alloc (Nat.le_refl _) (.cells #[.string ⟨#[]⟩, .string ⟨#[46]⟩, .string ⟨#[46, 46]⟩, .string ⟨#[46, 46, 46]⟩, .string ⟨#[97, 47, 98]⟩, .string ⟨#[97, 0]⟩, .string ⟨#[97]⟩, .string ⟨#[255]⟩, .string ⟨#[32]⟩, .string tn, .string st, .string ⟨#[47]⟩] 9)
      have hgr := heap_alloc_new wr (.cells #[.string ⟨#[]⟩, .string ⟨#[46]⟩, .string ⟨#[46, 46]⟩, .string ⟨#[46, 46, 46]⟩, .string ⟨#[97, 47, 98]⟩, .string ⟨#[97, 0]⟩, .string ⟨#[97]⟩, .string ⟨#[255]⟩, .string ⟨#[32]⟩, .string tn, .string st, .string ⟨#[47]⟩] 9)
      have HTX := Lib.hid (And.intro (block_lt hgr) (texts_at hgr hn1 (by omega)))
      have HST := Lib.hid hsz
      have HB3 := Lib.hid (And.intro ((hba.block gb (block_lt HB2.out.1)).trans HB2.out.1) (And.intro (below_step HB2.out.2.1 hba HB2.out.2.1.size) (HB2.out.2.2.below hba)))
      obtain ⟨VB, hVB⟩ : ∃ V, V = Value.agg #[.int .u8 (nb.k : Int), .string nb.d, .slice Ab nb.es.len cb] := ⟨_, rfl⟩
      have HVB := Lib.hid hVB
      generalize wr.alloc (.cells #[.string ⟨#[]⟩, .string ⟨#[46]⟩, .string ⟨#[46, 46]⟩, .string ⟨#[46, 46, 46]⟩, .string ⟨#[97, 47, 98]⟩, .string ⟨#[97, 0]⟩, .string ⟨#[97]⟩, .string ⟨#[255]⟩, .string ⟨#[32]⟩, .string tn, .string st, .string ⟨#[47]⟩] 9) = w3 at *
      generalize wr.heap.size = gr at *
      clear hba hgr HB2 hsz hVB hk1
      go_loopw [32] (fun u wx => ∃ k : Nat, k ≤ 12 ∧ u = .int .i64 (k : Int) ∧ Hid (Below w3.heap.size w3 wx)) (fun u _ => 12 - (intOf u).toNat)
      case atStart => exact ⟨0, by omega, rfl, Lib.hid (Below.refl _ _)⟩
      case round =>
        obtain ⟨k, hk, rfl, HBk⟩ := hrel
        by_cases hlk : k < 12
        · have hk1 : (k : Int) < 12 := by omega
          have hk0 : (0 : Int) ≤ (k : Int) := by omega
          have hw2 : IntKind.i64.wrap ((k : Int) + 1) = (k : Int) + 1 := IntWalk.i64_in _ (by omega)
          obtain ⟨sx, hsx, hc⟩ := HTX.out.2 k hlk
          have hcx := (HBk.out.cell (p := ⟨gr, k, none⟩) HTX.out.1).trans hc
          have HSX := Lib.hid hsx
          clear hsx hc
          go_upto_region 11 with (fail)
          have HBR := Lib.hid (fun (w' : World) (hC : KeepW wr wr.heap.size w') => show Below w3.heap.size w3 w' from below_step HBk.out hC.1 HBk.out.size)
          have HLB := Lib.hid (fun (w' : World) (hC : KeepW wr wr.heap.size w') => show (loadVar 26 ⟨gb, 0, none⟩).run Tryd.prog w' = .ok VB w' from by rw [HVB.out]; exact load_node (((HBR.out w' hC).block gb (block_lt HB3.out.1)).trans HB3.out.1))
          have HNB := Lib.hid (fun (w' : World) (hC : KeepW wr wr.heap.size w') => show NdV w' w'.heap.size VB nb from by rw [HVB.out]; exact HB3.out.2.2.below (HBR.out w' hC))
          clear hcx
          refine Inv.wp_region_invW (by kernel_rfl) (fun w' => KeepW wr wr.heap.size w') (fun k v w' => RN (kinds11.getD k (.num 99)) v w') (Inv.formW_spec (by kernel_rfl)) (KeepW.start (Nat.le_refl _)).drew (Inv.Each.steps ?_ rfl) (fun f w5 hC hR => ?_)
          · refine ⟨?_, ?_, ?_, ?_, ?_, ?_, ?_, ?_, ?_, ?_, ?_, ?_, ?_, ?_, ?_, ?_, ?_, ?_, ?_, ?_, ?_, ?_, ?_, ?_, ?_, ?_, ?_, ?_, ?_, ?_, ?_, ?_, ?_, ?_, ?_, ?_, ?_, ?_, ?_, ?_, ?_, ?_, ?_, ?_, ?_, ?_, ?_, ?_, ?_, ?_, ?_, ?_, ?_, ?_, trivial⟩
            · refine Inv.StepW.of_run rfl (fun _ _ _ => rfl) ⟨fun a w' hC hdep hfix => ?_⟩
              obtain ⟨s0, e0, z0⟩ : ∃ s, a.eval (.tmp 6) = .string s ∧ s.size ≤ 256 := ⟨_, (hfix 6 (by decide)).trans rfl, HSX.out⟩
              refine ⟨a.eval (.tmp 6), w', rfl, hC, ⟨s0, e0, z0⟩, fun _ _ h => h⟩
            · refine Inv.StepW.of_call (f := 3) rfl (fun _ _ _ => rfl) (fun a w' hC hdep hfix => ?_)
              obtain ⟨s0, e0, z0⟩ : ∃ s, a.eval (.tmp 36) = .string s ∧ s.size ≤ 256 := hdep 0 _ 36 rfl rfl (by kernel_rfl)
              refine ⟨#[a.eval (.tmp 36)], w', (by simp only [execOp, resolve, List.map_toArray, List.map_cons, List.map_nil]; kernel_rfl), ?_⟩
              rw [e0]
              refine (filesName_walk _ w' trivial (by unfold maxLen; omega)).mono ?_
              rintro e w2 ⟨rfl, hb2⟩
              exact ⟨_, rfl, hC.step hb2, rfl, fun _ _ h => RN.below h hb2⟩
            · refine Inv.StepW.of_run rfl (fun _ _ _ => rfl) ⟨fun a w' hC hdep hfix => ?_⟩
              have e0 : a.eval (.tmp 37) = .bool true := hdep 1 _ 37 rfl rfl (by kernel_rfl)
              refine ⟨.bool false, w', ?_, hC, rfl, fun _ _ h => h⟩
              simp only [execOp, e0]
              kernel_rfl
            · refine Inv.StepW.of_run rfl (fun _ _ _ => rfl) ⟨fun a w' hC hdep hfix => ?_⟩
              refine ⟨a.eval (.tmp 38), w', rfl, hC, (hdep 2 _ 38 rfl rfl (by kernel_rfl) : RN (.boo false) (a.eval (.tmp 38)) w'), fun _ _ h => h⟩
            · refine Inv.StepW.of_run rfl (fun a w' hdep => wanted_of (j := 3) (b := false) (d := 39) rfl rfl rfl (hdep 3 _ 39 rfl rfl (by kernel_rfl))) ⟨fun a w' hC hdep hfix => ?_⟩
              refine ⟨VB, w', ?_, hC, ⟨_, HNB.out w' hC⟩, fun _ _ h => h⟩
              have e2 : a.eval (.tmp 1) = .pointer (some ⟨gb, 0, none⟩) := (hfix 1 (by decide)).trans rfl
              simp only [execOp, e2, Instr.loadAt, Instr.sureAddr, Sem.run_bind, Sem.run_pure, Result.andThen_ok, HLB.out w' hC]
            · refine Inv.StepW.of_run rfl (fun a w' hdep => wanted_of (j := 3) (b := false) (d := 39) rfl rfl rfl (hdep 3 _ 39 rfl rfl (by kernel_rfl))) ⟨fun a w' hC hdep hfix => ?_⟩
              obtain ⟨s0, e0, z0⟩ : ∃ s, a.eval (.tmp 6) = .string s ∧ s.size ≤ 256 := ⟨_, (hfix 6 (by decide)).trans rfl, HSX.out⟩
              refine ⟨a.eval (.tmp 6), w', rfl, hC, ⟨s0, e0, z0⟩, fun _ _ h => h⟩
            · refine Inv.StepW.of_call (f := 6) rfl (fun a w' hdep => wanted_of (j := 3) (b := false) (d := 39) rfl rfl rfl (hdep 3 _ 39 rfl rfl (by kernel_rfl))) (fun a w' hC hdep hfix => ?_)
              obtain ⟨n0, v0, e0, es0, d0, k0⟩ : NdK w' w'.heap.size (a.eval (.tmp 40)) := hdep 4 _ 40 rfl rfl (by kernel_rfl)
              obtain ⟨s1, e1, z1⟩ : ∃ s, a.eval (.tmp 41) = .string s ∧ s.size ≤ 256 := hdep 5 _ 41 rfl rfl (by kernel_rfl)
              refine ⟨#[a.eval (.tmp 40), a.eval (.tmp 41)], w', (by simp only [execOp, resolve, List.map_toArray, List.map_cons, List.map_nil]; kernel_rfl), ?_⟩
              rw [e0, e1]
              refine (filesAt_walk _ _ _ w' trivial ⟨_, rfl, es0, d0, k0⟩ (by unfold maxLen; omega)).mono ?_
              rintro e w2 ⟨rfl, hb2⟩
              exact ⟨_, rfl, hC.step hb2, rfl, fun _ _ h => RN.below h hb2⟩
            · refine Inv.StepW.of_run rfl (fun a w' hdep => wanted_of (j := 3) (b := false) (d := 39) rfl rfl rfl (hdep 3 _ 39 rfl rfl (by kernel_rfl))) ⟨fun a w' hC hdep hfix => ?_⟩
              have e0 : a.eval (.tmp 42) = .bool true := hdep 6 _ 42 rfl rfl (by kernel_rfl)
              refine ⟨.bool false, w', ?_, hC, rfl, fun _ _ h => h⟩
              simp only [execOp, e0]
              kernel_rfl
            · refine Inv.StepW.of_run rfl (fun _ _ _ => rfl) ⟨fun a w' hC hdep hfix => ?_⟩
              have e0 : a.eval (.tmp 39) = .bool false := hdep 3 _ 39 rfl rfl (by kernel_rfl)
              have e1 : a.eval (.tmp 43) = .bool false := hdep 7 _ 43 rfl rfl (by kernel_rfl)
              refine ⟨.bool false, w', ?_, hC, rfl, fun _ _ h => h⟩
              simp only [execOp, e0, e1]
              kernel_rfl
            · refine Inv.StepW.of_run rfl (fun _ _ _ => rfl) ⟨fun a w' hC hdep hfix => ?_⟩
              refine ⟨a.eval (.tmp 44), w', rfl, hC, (hdep 8 _ 44 rfl rfl (by kernel_rfl) : RN (.boo false) (a.eval (.tmp 44)) w'), fun _ _ h => h⟩
            · refine Inv.StepW.of_run rfl (fun a w' hdep => wanted_of (j := 9) (b := false) (d := 45) rfl rfl rfl (hdep 9 _ 45 rfl rfl (by kernel_rfl))) ⟨fun a w' hC hdep hfix => ?_⟩
              refine ⟨VB, w', ?_, hC, ⟨_, HNB.out w' hC⟩, fun _ _ h => h⟩
              have e2 : a.eval (.tmp 1) = .pointer (some ⟨gb, 0, none⟩) := (hfix 1 (by decide)).trans rfl
              simp only [execOp, e2, Instr.loadAt, Instr.sureAddr, Sem.run_bind, Sem.run_pure, Result.andThen_ok, HLB.out w' hC]
            · refine Inv.StepW.of_run rfl (fun a w' hdep => wanted_of (j := 9) (b := false) (d := 45) rfl rfl rfl (hdep 9 _ 45 rfl rfl (by kernel_rfl))) ⟨fun a w' hC hdep hfix => ?_⟩
              obtain ⟨s0, e0, z0⟩ : ∃ s, a.eval (.tmp 6) = .string s ∧ s.size ≤ 256 := ⟨_, (hfix 6 (by decide)).trans rfl, HSX.out⟩
              refine ⟨a.eval (.tmp 6), w', rfl, hC, ⟨s0, e0, z0⟩, fun _ _ h => h⟩
            · refine Inv.StepW.of_run rfl (fun a w' hdep => wanted_of (j := 9) (b := false) (d := 45) rfl rfl rfl (hdep 9 _ 45 rfl rfl (by kernel_rfl))) ⟨fun a w' hC hdep hfix => ?_⟩
              obtain ⟨s0, e0, z0⟩ : ∃ s, a.eval (.tmp 47) = .string s ∧ s.size ≤ 256 := hdep 11 _ 47 rfl rfl (by kernel_rfl)
              have hl0 : (⟨#[100, 47]⟩ : ByteArray).size = 2 := rfl
              refine ⟨.string ((⟨#[100, 47]⟩ : ByteArray) ++ s0), w', ?_, hC, ⟨_, rfl, by rw [ByteArray.size_append]; omega⟩, fun _ _ h => h⟩
              simp only [execOp, e0]
              exact add_text (⟨#[100, 47]⟩ : ByteArray) s0 w' (by omega)
            · refine Inv.StepW.of_call (f := 6) rfl (fun a w' hdep => wanted_of (j := 9) (b := false) (d := 45) rfl rfl rfl (hdep 9 _ 45 rfl rfl (by kernel_rfl))) (fun a w' hC hdep hfix => ?_)
              obtain ⟨n0, v0, e0, es0, d0, k0⟩ : NdK w' w'.heap.size (a.eval (.tmp 46)) := hdep 10 _ 46 rfl rfl (by kernel_rfl)
              obtain ⟨s1, e1, z1⟩ : ∃ s, a.eval (.tmp 48) = .string s ∧ s.size ≤ 258 := hdep 12 _ 48 rfl rfl (by kernel_rfl)
              refine ⟨#[a.eval (.tmp 46), a.eval (.tmp 48)], w', (by simp only [execOp, resolve, List.map_toArray, List.map_cons, List.map_nil]; kernel_rfl), ?_⟩
              rw [e0, e1]
              refine (filesAt_walk _ _ _ w' trivial ⟨_, rfl, es0, d0, k0⟩ (by unfold maxLen; omega)).mono ?_
              rintro e w2 ⟨rfl, hb2⟩
              exact ⟨_, rfl, hC.step hb2, rfl, fun _ _ h => RN.below h hb2⟩
            · refine Inv.StepW.of_run rfl (fun a w' hdep => wanted_of (j := 9) (b := false) (d := 45) rfl rfl rfl (hdep 9 _ 45 rfl rfl (by kernel_rfl))) ⟨fun a w' hC hdep hfix => ?_⟩
              have e0 : a.eval (.tmp 49) = .bool true := hdep 13 _ 49 rfl rfl (by kernel_rfl)
              refine ⟨.bool false, w', ?_, hC, rfl, fun _ _ h => h⟩
              simp only [execOp, e0]
              kernel_rfl
            · refine Inv.StepW.of_run rfl (fun _ _ _ => rfl) ⟨fun a w' hC hdep hfix => ?_⟩
              have e0 : a.eval (.tmp 45) = .bool false := hdep 9 _ 45 rfl rfl (by kernel_rfl)
              have e1 : a.eval (.tmp 50) = .bool false := hdep 14 _ 50 rfl rfl (by kernel_rfl)
              refine ⟨.bool false, w', ?_, hC, rfl, fun _ _ h => h⟩
              simp only [execOp, e0, e1]
              kernel_rfl
            · refine Inv.StepW.of_run rfl (fun _ _ _ => rfl) ⟨fun a w' hC hdep hfix => ?_⟩
              refine ⟨a.eval (.tmp 51), w', rfl, hC, (hdep 15 _ 51 rfl rfl (by kernel_rfl) : RN (.boo false) (a.eval (.tmp 51)) w'), fun _ _ h => h⟩
            · refine Inv.StepW.of_run rfl (fun a w' hdep => wanted_of (j := 16) (b := false) (d := 52) rfl rfl rfl (hdep 16 _ 52 rfl rfl (by kernel_rfl))) ⟨fun a w' hC hdep hfix => ?_⟩
              refine ⟨VB, w', ?_, hC, ⟨_, HNB.out w' hC⟩, fun _ _ h => h⟩
              have e2 : a.eval (.tmp 1) = .pointer (some ⟨gb, 0, none⟩) := (hfix 1 (by decide)).trans rfl
              simp only [execOp, e2, Instr.loadAt, Instr.sureAddr, Sem.run_bind, Sem.run_pure, Result.andThen_ok, HLB.out w' hC]
            · refine Inv.StepW.of_run rfl (fun a w' hdep => wanted_of (j := 16) (b := false) (d := 52) rfl rfl rfl (hdep 16 _ 52 rfl rfl (by kernel_rfl))) ⟨fun a w' hC hdep hfix => ?_⟩
              obtain ⟨s0, e0, z0⟩ : ∃ s, a.eval (.tmp 6) = .string s ∧ s.size ≤ 256 := ⟨_, (hfix 6 (by decide)).trans rfl, HSX.out⟩
              refine ⟨a.eval (.tmp 6), w', rfl, hC, ⟨s0, e0, z0⟩, fun _ _ h => h⟩
            · refine Inv.StepW.of_call (f := 35) rfl (fun a w' hdep => wanted_of (j := 16) (b := false) (d := 52) rfl rfl rfl (hdep 16 _ 52 rfl rfl (by kernel_rfl))) (fun a w' hC hdep hfix => ?_)
              refine ⟨#[.string ⟨#[110]⟩], w', (by simp only [execOp, resolve, List.map_toArray, List.map_cons, List.map_nil]; kernel_rfl), (file_any ⟨#[110]⟩ (by decide) w').mono ?_⟩
              rintro e w2 ⟨hb2, v2, rfl, hv2⟩
              exact ⟨_, rfl, hC.step hb2, ⟨_, hv2⟩, fun _ _ h => RN.below h hb2⟩
            · refine Inv.StepW.of_call (f := 7) rfl (fun a w' hdep => wanted_of (j := 16) (b := false) (d := 52) rfl rfl rfl (hdep 16 _ 52 rfl rfl (by kernel_rfl))) (fun a w' hC hdep hfix => ?_)
              obtain ⟨n0, v0, e0, es0, d0, k0⟩ : NdK w' w'.heap.size (a.eval (.tmp 53)) := hdep 17 _ 53 rfl rfl (by kernel_rfl)
              obtain ⟨s1, e1, z1⟩ : ∃ s, a.eval (.tmp 54) = .string s ∧ s.size ≤ 256 := hdep 18 _ 54 rfl rfl (by kernel_rfl)
              obtain ⟨n2, v2, e2, es2, d2, k2⟩ : NdK w' w'.heap.size (a.eval (.tmp 55)) := hdep 19 _ 55 rfl rfl (by kernel_rfl)
              refine ⟨#[a.eval (.tmp 53), a.eval (.tmp 54), a.eval (.tmp 55)], w', (by simp only [execOp, resolve, List.map_toArray, List.map_cons, List.map_nil]; kernel_rfl), ?_⟩
              rw [e0, e1, e2]
              refine (filesPut_walk _ _ _ _ _ w' trivial ⟨_, rfl, es0, d0, k0⟩ (by unfold maxLen; omega) ⟨_, rfl, es2, d2, k2⟩).mono ?_
              rintro e w2 ⟨rfl, hb2⟩
              exact ⟨_, rfl, hC.step hb2, rfl, fun _ _ h => RN.below h hb2⟩
            · refine Inv.StepW.of_run rfl (fun a w' hdep => wanted_of (j := 16) (b := false) (d := 52) rfl rfl rfl (hdep 16 _ 52 rfl rfl (by kernel_rfl))) ⟨fun a w' hC hdep hfix => ?_⟩
              have e0 : a.eval (.tmp 56) = .bool true := hdep 20 _ 56 rfl rfl (by kernel_rfl)
              refine ⟨.bool false, w', ?_, hC, rfl, fun _ _ h => h⟩
              simp only [execOp, e0]
              kernel_rfl
            · refine Inv.StepW.of_run rfl (fun _ _ _ => rfl) ⟨fun a w' hC hdep hfix => ?_⟩
              have e0 : a.eval (.tmp 52) = .bool false := hdep 16 _ 52 rfl rfl (by kernel_rfl)
              have e1 : a.eval (.tmp 57) = .bool false := hdep 21 _ 57 rfl rfl (by kernel_rfl)
              refine ⟨.bool false, w', ?_, hC, rfl, fun _ _ h => h⟩
              simp only [execOp, e0, e1]
              kernel_rfl
            · refine Inv.StepW.of_run rfl (fun _ _ _ => rfl) ⟨fun a w' hC hdep hfix => ?_⟩
              refine ⟨a.eval (.tmp 58), w', rfl, hC, (hdep 22 _ 58 rfl rfl (by kernel_rfl) : RN (.boo false) (a.eval (.tmp 58)) w'), fun _ _ h => h⟩
            · refine Inv.StepW.of_run rfl (fun a w' hdep => wanted_of (j := 23) (b := false) (d := 59) rfl rfl rfl (hdep 23 _ 59 rfl rfl (by kernel_rfl))) ⟨fun a w' hC hdep hfix => ?_⟩
              refine ⟨VB, w', ?_, hC, ⟨_, HNB.out w' hC⟩, fun _ _ h => h⟩
              have e2 : a.eval (.tmp 1) = .pointer (some ⟨gb, 0, none⟩) := (hfix 1 (by decide)).trans rfl
              simp only [execOp, e2, Instr.loadAt, Instr.sureAddr, Sem.run_bind, Sem.run_pure, Result.andThen_ok, HLB.out w' hC]
            · refine Inv.StepW.of_run rfl (fun a w' hdep => wanted_of (j := 23) (b := false) (d := 59) rfl rfl rfl (hdep 23 _ 59 rfl rfl (by kernel_rfl))) ⟨fun a w' hC hdep hfix => ?_⟩
              obtain ⟨s0, e0, z0⟩ : ∃ s, a.eval (.tmp 6) = .string s ∧ s.size ≤ 256 := ⟨_, (hfix 6 (by decide)).trans rfl, HSX.out⟩
              refine ⟨a.eval (.tmp 6), w', rfl, hC, ⟨s0, e0, z0⟩, fun _ _ h => h⟩
            · refine Inv.StepW.of_run rfl (fun a w' hdep => wanted_of (j := 23) (b := false) (d := 59) rfl rfl rfl (hdep 23 _ 59 rfl rfl (by kernel_rfl))) ⟨fun a w' hC hdep hfix => ?_⟩
              obtain ⟨s0, e0, z0⟩ : ∃ s, a.eval (.tmp 61) = .string s ∧ s.size ≤ 256 := hdep 25 _ 61 rfl rfl (by kernel_rfl)
              have hl0 : (⟨#[100, 47]⟩ : ByteArray).size = 2 := rfl
              refine ⟨.string ((⟨#[100, 47]⟩ : ByteArray) ++ s0), w', ?_, hC, ⟨_, rfl, by rw [ByteArray.size_append]; omega⟩, fun _ _ h => h⟩
              simp only [execOp, e0]
              exact add_text (⟨#[100, 47]⟩ : ByteArray) s0 w' (by omega)
            · refine Inv.StepW.of_run rfl (fun a w' hdep => wanted_of (j := 23) (b := false) (d := 59) rfl rfl rfl (hdep 23 _ 59 rfl rfl (by kernel_rfl))) ⟨fun a w' hC hdep hfix => ?_⟩
              refine ⟨VB, w', ?_, hC, ⟨_, HNB.out w' hC⟩, fun _ _ h => h⟩
              have e2 : a.eval (.tmp 1) = .pointer (some ⟨gb, 0, none⟩) := (hfix 1 (by decide)).trans rfl
              simp only [execOp, e2, Instr.loadAt, Instr.sureAddr, Sem.run_bind, Sem.run_pure, Result.andThen_ok, HLB.out w' hC]
            · refine Inv.StepW.of_call (f := 7) rfl (fun a w' hdep => wanted_of (j := 23) (b := false) (d := 59) rfl rfl rfl (hdep 23 _ 59 rfl rfl (by kernel_rfl))) (fun a w' hC hdep hfix => ?_)
              obtain ⟨n0, v0, e0, es0, d0, k0⟩ : NdK w' w'.heap.size (a.eval (.tmp 60)) := hdep 24 _ 60 rfl rfl (by kernel_rfl)
              obtain ⟨s1, e1, z1⟩ : ∃ s, a.eval (.tmp 62) = .string s ∧ s.size ≤ 258 := hdep 26 _ 62 rfl rfl (by kernel_rfl)
              obtain ⟨n2, v2, e2, es2, d2, k2⟩ : NdK w' w'.heap.size (a.eval (.tmp 63)) := hdep 27 _ 63 rfl rfl (by kernel_rfl)
              refine ⟨#[a.eval (.tmp 60), a.eval (.tmp 62), a.eval (.tmp 63)], w', (by simp only [execOp, resolve, List.map_toArray, List.map_cons, List.map_nil]; kernel_rfl), ?_⟩
              rw [e0, e1, e2]
              refine (filesPut_walk _ _ _ _ _ w' trivial ⟨_, rfl, es0, d0, k0⟩ (by unfold maxLen; omega) ⟨_, rfl, es2, d2, k2⟩).mono ?_
              rintro e w2 ⟨rfl, hb2⟩
              exact ⟨_, rfl, hC.step hb2, rfl, fun _ _ h => RN.below h hb2⟩
            · refine Inv.StepW.of_run rfl (fun a w' hdep => wanted_of (j := 23) (b := false) (d := 59) rfl rfl rfl (hdep 23 _ 59 rfl rfl (by kernel_rfl))) ⟨fun a w' hC hdep hfix => ?_⟩
              have e0 : a.eval (.tmp 64) = .bool true := hdep 28 _ 64 rfl rfl (by kernel_rfl)
              refine ⟨.bool false, w', ?_, hC, rfl, fun _ _ h => h⟩
              simp only [execOp, e0]
              kernel_rfl
            · refine Inv.StepW.of_run rfl (fun _ _ _ => rfl) ⟨fun a w' hC hdep hfix => ?_⟩
              have e0 : a.eval (.tmp 59) = .bool false := hdep 23 _ 59 rfl rfl (by kernel_rfl)
              have e1 : a.eval (.tmp 65) = .bool false := hdep 29 _ 65 rfl rfl (by kernel_rfl)
              refine ⟨.bool false, w', ?_, hC, rfl, fun _ _ h => h⟩
              simp only [execOp, e0, e1]
              kernel_rfl
            · refine Inv.StepW.of_run rfl (fun _ _ _ => rfl) ⟨fun a w' hC hdep hfix => ?_⟩
              refine ⟨a.eval (.tmp 66), w', rfl, hC, (hdep 30 _ 66 rfl rfl (by kernel_rfl) : RN (.boo false) (a.eval (.tmp 66)) w'), fun _ _ h => h⟩
            · refine Inv.StepW.of_run rfl (fun a w' hdep => wanted_of (j := 31) (b := false) (d := 67) rfl rfl rfl (hdep 31 _ 67 rfl rfl (by kernel_rfl))) ⟨fun a w' hC hdep hfix => ?_⟩
              refine ⟨VB, w', ?_, hC, ⟨_, HNB.out w' hC⟩, fun _ _ h => h⟩
              have e2 : a.eval (.tmp 1) = .pointer (some ⟨gb, 0, none⟩) := (hfix 1 (by decide)).trans rfl
              simp only [execOp, e2, Instr.loadAt, Instr.sureAddr, Sem.run_bind, Sem.run_pure, Result.andThen_ok, HLB.out w' hC]
            · refine Inv.StepW.of_run rfl (fun a w' hdep => wanted_of (j := 31) (b := false) (d := 67) rfl rfl rfl (hdep 31 _ 67 rfl rfl (by kernel_rfl))) ⟨fun a w' hC hdep hfix => ?_⟩
              obtain ⟨s0, e0, z0⟩ : ∃ s, a.eval (.tmp 6) = .string s ∧ s.size ≤ 256 := ⟨_, (hfix 6 (by decide)).trans rfl, HSX.out⟩
              refine ⟨a.eval (.tmp 6), w', rfl, hC, ⟨s0, e0, z0⟩, fun _ _ h => h⟩
            · refine Inv.StepW.of_run rfl (fun a w' hdep => wanted_of (j := 31) (b := false) (d := 67) rfl rfl rfl (hdep 31 _ 67 rfl rfl (by kernel_rfl))) ⟨fun a w' hC hdep hfix => ?_⟩
              obtain ⟨s0, e0, z0⟩ : ∃ s, a.eval (.tmp 69) = .string s ∧ s.size ≤ 256 := hdep 33 _ 69 rfl rfl (by kernel_rfl)
              have hl0 : (⟨#[47, 113]⟩ : ByteArray).size = 2 := rfl
              refine ⟨.string (s0 ++ (⟨#[47, 113]⟩ : ByteArray)), w', ?_, hC, ⟨_, rfl, by rw [ByteArray.size_append]; omega⟩, fun _ _ h => h⟩
              simp only [execOp, e0]
              exact add_text s0 (⟨#[47, 113]⟩ : ByteArray) w' (by omega)
            · refine Inv.StepW.of_run rfl (fun a w' hdep => wanted_of (j := 31) (b := false) (d := 67) rfl rfl rfl (hdep 31 _ 67 rfl rfl (by kernel_rfl))) ⟨fun a w' hC hdep hfix => ?_⟩
              refine ⟨VB, w', ?_, hC, ⟨_, HNB.out w' hC⟩, fun _ _ h => h⟩
              have e2 : a.eval (.tmp 1) = .pointer (some ⟨gb, 0, none⟩) := (hfix 1 (by decide)).trans rfl
              simp only [execOp, e2, Instr.loadAt, Instr.sureAddr, Sem.run_bind, Sem.run_pure, Result.andThen_ok, HLB.out w' hC]
            · refine Inv.StepW.of_call (f := 7) rfl (fun a w' hdep => wanted_of (j := 31) (b := false) (d := 67) rfl rfl rfl (hdep 31 _ 67 rfl rfl (by kernel_rfl))) (fun a w' hC hdep hfix => ?_)
              obtain ⟨n0, v0, e0, es0, d0, k0⟩ : NdK w' w'.heap.size (a.eval (.tmp 68)) := hdep 32 _ 68 rfl rfl (by kernel_rfl)
              obtain ⟨s1, e1, z1⟩ : ∃ s, a.eval (.tmp 70) = .string s ∧ s.size ≤ 258 := hdep 34 _ 70 rfl rfl (by kernel_rfl)
              obtain ⟨n2, v2, e2, es2, d2, k2⟩ : NdK w' w'.heap.size (a.eval (.tmp 71)) := hdep 35 _ 71 rfl rfl (by kernel_rfl)
              refine ⟨#[a.eval (.tmp 68), a.eval (.tmp 70), a.eval (.tmp 71)], w', (by simp only [execOp, resolve, List.map_toArray, List.map_cons, List.map_nil]; kernel_rfl), ?_⟩
              rw [e0, e1, e2]
              refine (filesPut_walk _ _ _ _ _ w' trivial ⟨_, rfl, es0, d0, k0⟩ (by unfold maxLen; omega) ⟨_, rfl, es2, d2, k2⟩).mono ?_
              rintro e w2 ⟨rfl, hb2⟩
              exact ⟨_, rfl, hC.step hb2, rfl, fun _ _ h => RN.below h hb2⟩
            · refine Inv.StepW.of_run rfl (fun a w' hdep => wanted_of (j := 31) (b := false) (d := 67) rfl rfl rfl (hdep 31 _ 67 rfl rfl (by kernel_rfl))) ⟨fun a w' hC hdep hfix => ?_⟩
              have e0 : a.eval (.tmp 72) = .bool true := hdep 36 _ 72 rfl rfl (by kernel_rfl)
              refine ⟨.bool false, w', ?_, hC, rfl, fun _ _ h => h⟩
              simp only [execOp, e0]
              kernel_rfl
            · refine Inv.StepW.of_run rfl (fun _ _ _ => rfl) ⟨fun a w' hC hdep hfix => ?_⟩
              have e0 : a.eval (.tmp 67) = .bool false := hdep 31 _ 67 rfl rfl (by kernel_rfl)
              have e1 : a.eval (.tmp 73) = .bool false := hdep 37 _ 73 rfl rfl (by kernel_rfl)
              refine ⟨.bool false, w', ?_, hC, rfl, fun _ _ h => h⟩
              simp only [execOp, e0, e1]
              kernel_rfl
            · refine Inv.StepW.of_run rfl (fun _ _ _ => rfl) ⟨fun a w' hC hdep hfix => ?_⟩
              refine ⟨a.eval (.tmp 74), w', rfl, hC, (hdep 38 _ 74 rfl rfl (by kernel_rfl) : RN (.boo false) (a.eval (.tmp 74)) w'), fun _ _ h => h⟩
            · refine Inv.StepW.of_run rfl (fun a w' hdep => wanted_of (j := 39) (b := false) (d := 75) rfl rfl rfl (hdep 39 _ 75 rfl rfl (by kernel_rfl))) ⟨fun a w' hC hdep hfix => ?_⟩
              obtain ⟨s0, e0, z0⟩ : ∃ s, a.eval (.tmp 6) = .string s ∧ s.size ≤ 256 := ⟨_, (hfix 6 (by decide)).trans rfl, HSX.out⟩
              refine ⟨a.eval (.tmp 6), w', rfl, hC, ⟨s0, e0, z0⟩, fun _ _ h => h⟩
            · refine Inv.StepW.of_call (f := 35) rfl (fun a w' hdep => wanted_of (j := 39) (b := false) (d := 75) rfl rfl rfl (hdep 39 _ 75 rfl rfl (by kernel_rfl))) (fun a w' hC hdep hfix => ?_)
              refine ⟨#[.string ⟨#[]⟩], w', (by simp only [execOp, resolve, List.map_toArray, List.map_cons, List.map_nil]; kernel_rfl), (file_any ⟨#[]⟩ (by decide) w').mono ?_⟩
              rintro e w2 ⟨hb2, v2, rfl, hv2⟩
              exact ⟨_, rfl, hC.step hb2, ⟨_, hv2⟩, fun _ _ h => RN.below h hb2⟩
            · refine Inv.StepW.of_run rfl (fun a w' hdep => wanted_of (j := 39) (b := false) (d := 75) rfl rfl rfl (hdep 39 _ 75 rfl rfl (by kernel_rfl))) ⟨fun a w' hC hdep hfix => ?_⟩
              obtain ⟨s0, e0, z0⟩ : ∃ s, a.eval (.tmp 76) = .string s ∧ s.size ≤ 256 := hdep 40 _ 76 rfl rfl (by kernel_rfl)
              obtain ⟨n1, v1, e1, es1, d1, k1⟩ : NdK w' w'.heap.size (a.eval (.tmp 77)) := hdep 41 _ 77 rfl rfl (by kernel_rfl)
              refine ⟨.agg #[.string s0, .int .u8 (n1.k : Int), .string n1.d, v1], w', ?_, hC, ⟨s0, n1.k, n1.d, v1, n1.es, rfl, es1, by unfold maxLen; omega, d1, k1⟩, fun _ _ h => h⟩
              simp only [execOp, List.map_toArray, List.map_cons, List.map_nil, e0, e1]
              kernel_rfl
            · refine Inv.StepW.of_run rfl (fun a w' hdep => wanted_of (j := 39) (b := false) (d := 75) rfl rfl rfl (hdep 39 _ 75 rfl rfl (by kernel_rfl))) ⟨fun a w' hC hdep hfix => ?_⟩
              obtain ⟨nm0, k0, d0, v0, u0, e0, es0, zn0, zd0, zk0⟩ : EntV w' w'.heap.size (a.eval (.tmp 78)) := hdep 42 _ 78 rfl rfl (by kernel_rfl)
              have hba : Below w'.heap.size w' (w'.alloc (.cells #[.string nm0, .int .u8 (k0 : Int), .string d0, v0] 48)) := (Below.refl _ _).alloc (Nat.le_refl _) _
              have hes : EsAt (w'.alloc (.cells #[.string nm0, .int .u8 (k0 : Int), .string d0, v0] 48)) (w'.alloc (.cells #[.string nm0, .int .u8 (k0 : Int), .string d0, v0] 48)).heap.size (.slice (some ⟨w'.heap.size, 0, none⟩) 1 1) (.cons nm0 k0 d0 u0 .nil) := entRow_at (xs := [.string nm0, .int .u8 (k0 : Int), .string d0, v0]) (heap_alloc_new w' _) rfl (by decide) ⟨_, _, rfl, zn0, zd0, zk0, es0.below hba, rfl⟩
              refine ⟨.slice (some ⟨w'.heap.size, 0, none⟩) 1 1, (w'.alloc (.cells #[.string nm0, .int .u8 (k0 : Int), .string d0, v0] 48)), ?_, hC.alloc _, ⟨(.cons nm0 k0 d0 u0 .nil), some ⟨w'.heap.size, 0, none⟩, 1, rfl, hes⟩, fun _ _ h => RN.below h hba⟩
              unfold execOp
              simp only [List.map_toArray, List.map_cons, List.map_nil, e0]
              kernel_rfl
            · refine Inv.StepW.of_run rfl (fun a w' hdep => wanted_of (j := 39) (b := false) (d := 75) rfl rfl rfl (hdep 39 _ 75 rfl rfl (by kernel_rfl))) ⟨fun a w' hC hdep hfix => ?_⟩
              obtain ⟨u0, A0, c0, e0, es0⟩ : EsF w' w'.heap.size (a.eval (.tmp 79)) := hdep 43 _ 79 rfl rfl (by kernel_rfl)
              refine ⟨.agg #[.int .u8 4, .string ⟨#[]⟩, .slice A0 u0.len c0], w', ?_, hC, ⟨⟨4, ⟨#[]⟩, u0⟩, _, rfl, es0, (show (ByteArray.mk #[]).size ≤ maxLen by decide), (by decide : 4 < 256)⟩, fun _ _ h => h⟩
              simp only [execOp, List.map_toArray, List.map_cons, List.map_nil, e0]
              kernel_rfl
            · refine Inv.StepW.of_call (f := 4) rfl (fun a w' hdep => wanted_of (j := 39) (b := false) (d := 75) rfl rfl rfl (hdep 39 _ 75 rfl rfl (by kernel_rfl))) (fun a w' hC hdep hfix => ?_)
              obtain ⟨n0, v0, e0, es0, d0, k0⟩ : NdK w' w'.heap.size (a.eval (.tmp 80)) := hdep 44 _ 80 rfl rfl (by kernel_rfl)
              refine ⟨#[a.eval (.tmp 80)], w', (by simp only [execOp, resolve, List.map_toArray, List.map_cons, List.map_nil]; kernel_rfl), ?_⟩
              rw [e0]
              refine (filesRight_walk _ _ w' trivial ⟨_, rfl, es0, d0, k0⟩).mono ?_
              rintro e w2 ⟨rfl, hb2⟩
              exact ⟨_, rfl, hC.step hb2, rfl, fun _ _ h => RN.below h hb2⟩
            · refine Inv.StepW.of_run rfl (fun a w' hdep => wanted_of (j := 39) (b := false) (d := 75) rfl rfl rfl (hdep 39 _ 75 rfl rfl (by kernel_rfl))) ⟨fun a w' hC hdep hfix => ?_⟩
              have e0 : a.eval (.tmp 81) = .bool true := hdep 45 _ 81 rfl rfl (by kernel_rfl)
              refine ⟨.bool false, w', ?_, hC, rfl, fun _ _ h => h⟩
              simp only [execOp, e0]
              kernel_rfl
            · refine Inv.StepW.of_run rfl (fun _ _ _ => rfl) ⟨fun a w' hC hdep hfix => ?_⟩
              have e0 : a.eval (.tmp 75) = .bool false := hdep 39 _ 75 rfl rfl (by kernel_rfl)
              have e1 : a.eval (.tmp 82) = .bool false := hdep 46 _ 82 rfl rfl (by kernel_rfl)
              refine ⟨.bool false, w', ?_, hC, rfl, fun _ _ h => h⟩
              simp only [execOp, e0, e1]
              kernel_rfl
            · refine Inv.StepW.of_run rfl (fun _ _ _ => rfl) ⟨fun a w' hC hdep hfix => ?_⟩
              refine ⟨a.eval (.tmp 83), w', rfl, hC, (hdep 47 _ 83 rfl rfl (by kernel_rfl) : RN (.boo false) (a.eval (.tmp 83)) w'), fun _ _ h => h⟩
            · refine Inv.StepW.of_run rfl (fun a w' hdep => wanted_of (j := 48) (b := false) (d := 84) rfl rfl rfl (hdep 48 _ 84 rfl rfl (by kernel_rfl))) ⟨fun a w' hC hdep hfix => ?_⟩
              obtain ⟨s0, e0, z0⟩ : ∃ s, a.eval (.tmp 6) = .string s ∧ s.size ≤ 256 := ⟨_, (hfix 6 (by decide)).trans rfl, HSX.out⟩
              refine ⟨a.eval (.tmp 6), w', rfl, hC, ⟨s0, e0, z0⟩, fun _ _ h => h⟩
            · refine Inv.StepW.of_run rfl (fun a w' hdep => wanted_of (j := 48) (b := false) (d := 84) rfl rfl rfl (hdep 48 _ 84 rfl rfl (by kernel_rfl))) ⟨fun a w' hC hdep hfix => ?_⟩
              obtain ⟨s0, e0, z0⟩ : ∃ s, a.eval (.tmp 85) = .string s ∧ s.size ≤ 256 := hdep 49 _ 85 rfl rfl (by kernel_rfl)
              refine ⟨.agg #[.int .u8 3, .string s0, .slice none 0 0], w', ?_, hC, ⟨⟨3, s0, .nil⟩, _, rfl, (EsAt.nil _ _), (by show s0.size ≤ maxLen; unfold maxLen; omega), (by decide : 3 < 256)⟩, fun _ _ h => h⟩
              simp only [execOp, List.map_toArray, List.map_cons, List.map_nil, e0]
              kernel_rfl
            · refine Inv.StepW.of_call (f := 4) rfl (fun a w' hdep => wanted_of (j := 48) (b := false) (d := 84) rfl rfl rfl (hdep 48 _ 84 rfl rfl (by kernel_rfl))) (fun a w' hC hdep hfix => ?_)
              obtain ⟨n0, v0, e0, es0, d0, k0⟩ : NdK w' w'.heap.size (a.eval (.tmp 86)) := hdep 50 _ 86 rfl rfl (by kernel_rfl)
              refine ⟨#[a.eval (.tmp 86)], w', (by simp only [execOp, resolve, List.map_toArray, List.map_cons, List.map_nil]; kernel_rfl), ?_⟩
              rw [e0]
              refine (filesRight_walk _ _ w' trivial ⟨_, rfl, es0, d0, k0⟩).mono ?_
              rintro e w2 ⟨rfl, hb2⟩
              exact ⟨_, rfl, hC.step hb2, rfl, fun _ _ h => RN.below h hb2⟩
            · refine Inv.StepW.of_run rfl (fun a w' hdep => wanted_of (j := 48) (b := false) (d := 84) rfl rfl rfl (hdep 48 _ 84 rfl rfl (by kernel_rfl))) ⟨fun a w' hC hdep hfix => ?_⟩
              have e0 : a.eval (.tmp 87) = .bool true := hdep 51 _ 87 rfl rfl (by kernel_rfl)
              refine ⟨.bool false, w', ?_, hC, rfl, fun _ _ h => h⟩
              simp only [execOp, e0]
              kernel_rfl
            · refine Inv.StepW.of_run rfl (fun _ _ _ => rfl) ⟨fun a w' hC hdep hfix => ?_⟩
              have e0 : a.eval (.tmp 84) = .bool false := hdep 48 _ 84 rfl rfl (by kernel_rfl)
              have e1 : a.eval (.tmp 88) = .bool false := hdep 52 _ 88 rfl rfl (by kernel_rfl)
              refine ⟨.bool false, w', ?_, hC, rfl, fun _ _ h => h⟩
              simp only [execOp, e0, e1]
              kernel_rfl
          have hv89 : f 89 = .bool false := hR 53 _ 89 rfl rfl
          simp only [Inv.dsts, List.filterMap_cons, List.filterMap_nil, List.foldl_cons, List.foldl_nil, Act.put, List.setIfInBounds_toArray, List.set_cons_succ, List.set_cons_zero]
          rw [hv89]
          have HBo := Lib.hid (HBR.out _ hC)
          clear hC hR hv89 HLB HNB HBR
          go_wp2
          go_roundw
          case rel => exact ⟨k + 1, by omega, by go_num, HBo⟩
          case measure => simp [intOf]; omega
        · have hk1 : ¬ (k : Int) < 12 := by omega
          have HB4 := Lib.hid (show wr.heap[gb]? = some (ndCells nb.k nb.d (.slice Ab nb.es.len cb)) ∧ Below w.heap.size w wr ∧ NdV wr wr.heap.size (.agg #[.int .u8 (nb.k : Int), .string nb.d, .slice Ab nb.es.len cb]) nb from ⟨(HBk.out.block gb (block_lt HB3.out.1)).trans HB3.out.1, below_step HB3.out.2.1 HBk.out HB3.out.2.1.size, HB3.out.2.2.below HBk.out⟩)
          obtain ⟨c0, c1, c2, _⟩ := nd_box HB4.out.1
          have HPT := Lib.hid (refPaths_any wr wr.heap.size (Nat.le_refl _) _ nb HB4.out.2.2 HPB.out.2)
          generalize pathsQ nb = pl at HPT HPB
          clear HB3 HBk
          go_upto_region 15 with (go_at_call 26; refine HPT.out.mono ?_; rintro e w5 ⟨hb5, vp, rfl, hown⟩)
          obtain ⟨pA, pc, hvp, hp2, hp3, hp4, hp5⟩ := RdT.Reads.own hown
          rw [List.length_map] at hvp hp2 hp5
          obtain ⟨ad, rfl, hbl, hpc⟩ := hp5 HPB.out.1.1
          subst hvp
          have HPR := Lib.hid (And.intro hbl hpc)
          have HB5 := Lib.hid (show w5.heap[gb]? = some (ndCells nb.k nb.d (.slice Ab nb.es.len cb)) ∧ Below w.heap.size w w5 ∧ NdV w5 w5.heap.size (.agg #[.int .u8 (nb.k : Int), .string nb.d, .slice Ab nb.es.len cb]) nb from ⟨(hb5.block gb (block_lt HB4.out.1)).trans HB4.out.1, below_step HB4.out.2.1 hb5 HB4.out.2.1.size, HB4.out.2.2.below hb5⟩)
          have HZS := Lib.hid (show tz.size ≤ maxLen by rw [HTZ.out]; decide)
          have HNS := Lib.hid (show tn.size ≤ maxLen by rw [HTN.out]; decide)
          have HSTL := Lib.hid (show st.size ≤ 255 by have := HST.out; omega)
          have hp2' := Lib.hid hp2
          clear hb5 hown hp2 hp3 hp4 hp5 hbl hpc c0 c1 c2 HB4 HPT
          go_upto_region 16 with (fail)
          go_loopw [8] (fun u wx => ∃ i : Nat, i ≤ pl.length ∧ u = .int .i64 (i : Int) ∧ Hid (Below w5.heap.size w5 wx)) (fun u _ => pl.length - (intOf u).toNat)
          case atStart => exact ⟨0, by omega, rfl, Lib.hid (Below.refl _ _)⟩
          case round =>
            obtain ⟨i, hi, rfl, HBi⟩ := hrel
            by_cases hli : i < pl.length
            · have hi1 : (i : Int) < (pl.length : Int) := by omega
              have hi0 : (0 : Int) ≤ (i : Int) := by omega
              have HPI := Lib.hid hli
              go_upto_region 18 with (fail)
              have HBR := Lib.hid (fun (w' : World) (hC : KeepW wr wr.heap.size w') => show Below w5.heap.size w5 w' from below_step HBi.out hC.1 HBi.out.size)
              have HLB := Lib.hid (fun (w' : World) (hC : KeepW wr wr.heap.size w') => show (loadVar 26 ⟨gb, 0, none⟩).run Tryd.prog w' = .ok VB w' from by rw [HVB.out]; exact load_node (((HBR.out w' hC).block gb (block_lt HB5.out.1)).trans HB5.out.1))
              have HNB := Lib.hid (fun (w' : World) (hC : KeepW wr wr.heap.size w') => show NdV w' w'.heap.size VB nb from by rw [HVB.out]; exact HB5.out.2.2.below (HBR.out w' hC))
              refine Inv.wp_region_invW (by kernel_rfl) (fun w' => KeepW wr wr.heap.size w') (fun k v w' => RN ((kinds18 tz tn).getD k (.num 99)) v w') (Inv.formW_spec (by kernel_rfl)) (KeepW.start (Nat.le_refl _)).drew (Inv.Each.steps ?_ rfl) (fun f w6 hC hR => ?_)
              · refine ⟨?_, ?_, ?_, ?_, ?_, ?_, ?_, ?_, ?_, ?_, ?_, ?_, ?_, ?_, ?_, ?_, ?_, ?_, ?_, ?_, ?_, ?_, ?_, ?_, ?_, ?_, ?_, ?_, ?_, ?_, ?_, ?_, ?_, ?_, trivial⟩
                · refine Inv.StepW.of_run rfl (fun _ _ _ => rfl) ⟨fun a w' hC hdep hfix => ?_⟩
                  refine ⟨.agg #[.int .u8 0, .string ⟨#[]⟩, .slice none 0 0], w', ?_, hC, ⟨⟨0, ⟨#[]⟩, .nil⟩, _, rfl, (EsAt.nil _ _), (show (ByteArray.mk #[]).size ≤ maxLen by decide), (by decide : 0 < 256)⟩, fun _ _ h => h⟩
                  simp only [execOp, List.map_toArray, List.map_cons, List.map_nil]
                  kernel_rfl
                · refine Inv.StepW.of_run rfl (fun _ _ _ => rfl) ⟨fun a w' hC hdep hfix => ?_⟩
                  refine ⟨.agg #[.int .u8 5, .string ⟨#[]⟩, .slice none 0 0], w', ?_, hC, ⟨⟨5, ⟨#[]⟩, .nil⟩, _, rfl, (EsAt.nil _ _), (show (ByteArray.mk #[]).size ≤ maxLen by decide), (by decide : 5 < 256)⟩, fun _ _ h => h⟩
                  simp only [execOp, List.map_toArray, List.map_cons, List.map_nil]
                  kernel_rfl
                · refine Inv.StepW.of_run rfl (fun _ _ _ => rfl) ⟨fun a w' hC hdep hfix => ?_⟩
                  refine ⟨.agg #[.int .u8 1, .string ⟨#[120]⟩, .slice none 0 0], w', ?_, hC, ⟨⟨1, ⟨#[120]⟩, .nil⟩, _, rfl, (EsAt.nil _ _), (show (ByteArray.mk #[120]).size ≤ maxLen by decide), (by decide : 1 < 256)⟩, fun _ _ h => h⟩
                  simp only [execOp, List.map_toArray, List.map_cons, List.map_nil]
                  kernel_rfl
                · refine Inv.StepW.of_run rfl (fun _ _ _ => rfl) ⟨fun a w' hC hdep hfix => ?_⟩
                  refine ⟨VB, w', ?_, hC, ⟨_, HNB.out w' hC⟩, fun _ _ h => h⟩
                  have e2 : a.eval (.tmp 1) = .pointer (some ⟨gb, 0, none⟩) := (hfix 1 (by decide)).trans rfl
                  simp only [execOp, e2, Instr.loadAt, Instr.sureAddr, Sem.run_bind, Sem.run_pure, Result.andThen_ok, HLB.out w' hC]
                · refine Inv.StepW.of_run rfl (fun _ _ _ => rfl) ⟨fun a w' hC hdep hfix => ?_⟩
                  obtain ⟨n0, v0, e0, es0, d0, k0⟩ : NdK w' w'.heap.size (a.eval (.tmp 102)) := hdep 3 _ 102 rfl rfl (by kernel_rfl)
                  refine ⟨.agg #[.string ⟨#[97]⟩, .int .u8 (n0.k : Int), .string n0.d, v0], w', ?_, hC, ⟨⟨#[97]⟩, n0.k, n0.d, v0, n0.es, rfl, es0, by decide, d0, k0⟩, fun _ _ h => h⟩
                  simp only [execOp, List.map_toArray, List.map_cons, List.map_nil, e0]
                  kernel_rfl
                · refine Inv.StepW.of_run rfl (fun _ _ _ => rfl) ⟨fun a w' hC hdep hfix => ?_⟩
                  obtain ⟨nm0, k0, d0, v0, u0, e0, es0, zn0, zd0, zk0⟩ : EntV w' w'.heap.size (a.eval (.tmp 103)) := hdep 4 _ 103 rfl rfl (by kernel_rfl)
                  have hba : Below w'.heap.size w' (w'.alloc (.cells #[.string nm0, .int .u8 (k0 : Int), .string d0, v0] 48)) := (Below.refl _ _).alloc (Nat.le_refl _) _
                  have hes : EsAt (w'.alloc (.cells #[.string nm0, .int .u8 (k0 : Int), .string d0, v0] 48)) (w'.alloc (.cells #[.string nm0, .int .u8 (k0 : Int), .string d0, v0] 48)).heap.size (.slice (some ⟨w'.heap.size, 0, none⟩) 1 1) (.cons nm0 k0 d0 u0 .nil) := entRow_at (xs := [.string nm0, .int .u8 (k0 : Int), .string d0, v0]) (heap_alloc_new w' _) rfl (by decide) ⟨_, _, rfl, zn0, zd0, zk0, es0.below hba, rfl⟩
                  refine ⟨.slice (some ⟨w'.heap.size, 0, none⟩) 1 1, (w'.alloc (.cells #[.string nm0, .int .u8 (k0 : Int), .string d0, v0] 48)), ?_, hC.alloc _, ⟨(.cons nm0 k0 d0 u0 .nil), some ⟨w'.heap.size, 0, none⟩, 1, rfl, hes⟩, fun _ _ h => RN.below h hba⟩
                  unfold execOp
                  simp only [List.map_toArray, List.map_cons, List.map_nil, e0]
                  kernel_rfl
                · refine Inv.StepW.of_run rfl (fun _ _ _ => rfl) ⟨fun a w' hC hdep hfix => ?_⟩
                  obtain ⟨u0, A0, c0, e0, es0⟩ : EsF w' w'.heap.size (a.eval (.tmp 104)) := hdep 5 _ 104 rfl rfl (by kernel_rfl)
                  refine ⟨.agg #[.int .u8 1, .string ⟨#[]⟩, .slice A0 u0.len c0], w', ?_, hC, ⟨⟨1, ⟨#[]⟩, u0⟩, _, rfl, es0, (show (ByteArray.mk #[]).size ≤ maxLen by decide), (by decide : 1 < 256)⟩, fun _ _ h => h⟩
                  simp only [execOp, List.map_toArray, List.map_cons, List.map_nil, e0]
                  kernel_rfl
                · refine Inv.StepW.of_run rfl (fun _ _ _ => rfl) ⟨fun a w' hC hdep hfix => ?_⟩
                  refine ⟨.agg #[.int .u8 3, .string ⟨#[]⟩, .slice none 0 0], w', ?_, hC, ⟨⟨3, ⟨#[]⟩, .nil⟩, _, rfl, (EsAt.nil _ _), (show (ByteArray.mk #[]).size ≤ maxLen by decide), (by decide : 3 < 256)⟩, fun _ _ h => h⟩
                  simp only [execOp, List.map_toArray, List.map_cons, List.map_nil]
                  kernel_rfl
                · refine Inv.StepW.of_run rfl (fun _ _ _ => rfl) ⟨fun a w' hC hdep hfix => ?_⟩
                  refine ⟨.agg #[.string ⟨#[]⟩, .int .u8 0, .string ⟨#[]⟩, .slice none 0 0], w', ?_, hC, ⟨⟨#[]⟩, 0, ⟨#[]⟩, _, .nil, rfl, EsAt.nil _ _, by decide, by decide, by decide⟩, fun _ _ h => h⟩
                  simp only [execOp, List.map_toArray, List.map_cons, List.map_nil]
                  kernel_rfl
                · refine Inv.StepW.of_run rfl (fun _ _ _ => rfl) ⟨fun a w' hC hdep hfix => ?_⟩
                  obtain ⟨nm0, k0, d0, v0, u0, e0, es0, zn0, zd0, zk0⟩ : EntV w' w'.heap.size (a.eval (.tmp 107)) := hdep 8 _ 107 rfl rfl (by kernel_rfl)
                  have hba : Below w'.heap.size w' (w'.alloc (.cells #[.string nm0, .int .u8 (k0 : Int), .string d0, v0] 48)) := (Below.refl _ _).alloc (Nat.le_refl _) _
                  have hes : EsAt (w'.alloc (.cells #[.string nm0, .int .u8 (k0 : Int), .string d0, v0] 48)) (w'.alloc (.cells #[.string nm0, .int .u8 (k0 : Int), .string d0, v0] 48)).heap.size (.slice (some ⟨w'.heap.size, 0, none⟩) 1 1) (.cons nm0 k0 d0 u0 .nil) := entRow_at (xs := [.string nm0, .int .u8 (k0 : Int), .string d0, v0]) (heap_alloc_new w' _) rfl (by decide) ⟨_, _, rfl, zn0, zd0, zk0, es0.below hba, rfl⟩
                  refine ⟨.slice (some ⟨w'.heap.size, 0, none⟩) 1 1, (w'.alloc (.cells #[.string nm0, .int .u8 (k0 : Int), .string d0, v0] 48)), ?_, hC.alloc _, ⟨(.cons nm0 k0 d0 u0 .nil), some ⟨w'.heap.size, 0, none⟩, 1, rfl, hes⟩, fun _ _ h => RN.below h hba⟩
                  unfold execOp
                  simp only [List.map_toArray, List.map_cons, List.map_nil, e0]
                  kernel_rfl
                · refine Inv.StepW.of_run rfl (fun _ _ _ => rfl) ⟨fun a w' hC hdep hfix => ?_⟩
                  obtain ⟨u0, A0, c0, e0, es0⟩ : EsF w' w'.heap.size (a.eval (.tmp 108)) := hdep 9 _ 108 rfl rfl (by kernel_rfl)
                  refine ⟨.agg #[.int .u8 3, .string ⟨#[116]⟩, .slice A0 u0.len c0], w', ?_, hC, ⟨⟨3, ⟨#[116]⟩, u0⟩, _, rfl, es0, (show (ByteArray.mk #[116]).size ≤ maxLen by decide), (by decide : 3 < 256)⟩, fun _ _ h => h⟩
                  simp only [execOp, List.map_toArray, List.map_cons, List.map_nil, e0]
                  kernel_rfl
                · refine Inv.StepW.of_run rfl (fun _ _ _ => rfl) ⟨fun a w' hC hdep hfix => ?_⟩
                  refine ⟨a.eval (.tmp 2), w', rfl, hC, ((hfix 2 (by decide)).trans rfl : RN (.val (.string tz)) (a.eval (.tmp 2)) w'), fun _ _ h => h⟩
                · refine Inv.StepW.of_run rfl (fun _ _ _ => rfl) ⟨fun a w' hC hdep hfix => ?_⟩
                  have e0 : a.eval (.tmp 110) = .string tz := hdep 11 _ 110 rfl rfl (by kernel_rfl)
                  refine ⟨.agg #[.int .u8 3, .string tz, .slice none 0 0], w', ?_, hC, ⟨⟨3, tz, .nil⟩, _, rfl, (EsAt.nil _ _), HZS.out, (by decide : 3 < 256)⟩, fun _ _ h => h⟩
                  simp only [execOp, List.map_toArray, List.map_cons, List.map_nil, e0]
                  kernel_rfl
                · refine Inv.StepW.of_run rfl (fun _ _ _ => rfl) ⟨fun a w' hC hdep hfix => ?_⟩
                  refine ⟨a.eval (.tmp 3), w', rfl, hC, ((hfix 3 (by decide)).trans rfl : RN (.val (.string tn)) (a.eval (.tmp 3)) w'), fun _ _ h => h⟩
                · refine Inv.StepW.of_run rfl (fun _ _ _ => rfl) ⟨fun a w' hC hdep hfix => ?_⟩
                  have e0 : a.eval (.tmp 112) = .string tn := hdep 13 _ 112 rfl rfl (by kernel_rfl)
                  refine ⟨.agg #[.int .u8 3, .string tn, .slice none 0 0], w', ?_, hC, ⟨⟨3, tn, .nil⟩, _, rfl, (EsAt.nil _ _), HNS.out, (by decide : 3 < 256)⟩, fun _ _ h => h⟩
                  simp only [execOp, List.map_toArray, List.map_cons, List.map_nil, e0]
                  kernel_rfl
                · refine Inv.StepW.of_run rfl (fun _ _ _ => rfl) ⟨fun a w' hC hdep hfix => ?_⟩
                  refine ⟨a.eval (.tmp 3), w', rfl, hC, ((hfix 3 (by decide)).trans rfl : RN (.val (.string tn)) (a.eval (.tmp 3)) w'), fun _ _ h => h⟩
                · refine Inv.StepW.of_run rfl (fun _ _ _ => rfl) ⟨fun a w' hC hdep hfix => ?_⟩
                  have e0 : a.eval (.tmp 114) = .string tn := hdep 15 _ 114 rfl rfl (by kernel_rfl)
                  refine ⟨.string st, w', ?_, hC, ⟨_, rfl, HSTL.out⟩, fun _ _ h => h⟩
                  have hn1 : tn.size = 256 := HTN.out
                  rw [HSE.out]
                  simp only [execOp, e0]
                  simp [go_sem, hn1]
                · refine Inv.StepW.of_run rfl (fun _ _ _ => rfl) ⟨fun a w' hC hdep hfix => ?_⟩
                  obtain ⟨s0, e0, z0⟩ : ∃ s, a.eval (.tmp 115) = .string s ∧ s.size ≤ 255 := hdep 16 _ 115 rfl rfl (by kernel_rfl)
                  refine ⟨.agg #[.int .u8 3, .string s0, .slice none 0 0], w', ?_, hC, ⟨⟨3, s0, .nil⟩, _, rfl, (EsAt.nil _ _), (by show s0.size ≤ maxLen; unfold maxLen; omega), (by decide : 3 < 256)⟩, fun _ _ h => h⟩
                  simp only [execOp, List.map_toArray, List.map_cons, List.map_nil, e0]
                  kernel_rfl
                · refine Inv.StepW.of_run rfl (fun _ _ _ => rfl) ⟨fun a w' hC hdep hfix => ?_⟩
                  refine ⟨.agg #[.int .u8 4, .string ⟨#[120]⟩, .slice none 0 0], w', ?_, hC, ⟨⟨4, ⟨#[120]⟩, .nil⟩, _, rfl, (EsAt.nil _ _), (show (ByteArray.mk #[120]).size ≤ maxLen by decide), (by decide : 4 < 256)⟩, fun _ _ h => h⟩
                  simp only [execOp, List.map_toArray, List.map_cons, List.map_nil]
                  kernel_rfl
                · refine Inv.StepW.of_call (f := 35) rfl (fun _ _ _ => rfl) (fun a w' hC hdep hfix => ?_)
                  refine ⟨#[.string ⟨#[]⟩], w', (by simp only [execOp, resolve, List.map_toArray, List.map_cons, List.map_nil]; kernel_rfl), (file_any ⟨#[]⟩ (by decide) w').mono ?_⟩
                  rintro e w2 ⟨hb2, v2, rfl, hv2⟩
                  exact ⟨_, rfl, hC.step hb2, ⟨_, hv2⟩, fun _ _ h => RN.below h hb2⟩
                · refine Inv.StepW.of_run rfl (fun _ _ _ => rfl) ⟨fun a w' hC hdep hfix => ?_⟩
                  obtain ⟨n0, v0, e0, es0, d0, k0⟩ : NdK w' w'.heap.size (a.eval (.tmp 118)) := hdep 19 _ 118 rfl rfl (by kernel_rfl)
                  refine ⟨.agg #[.string ⟨#[98]⟩, .int .u8 (n0.k : Int), .string n0.d, v0], w', ?_, hC, ⟨⟨#[98]⟩, n0.k, n0.d, v0, n0.es, rfl, es0, by decide, d0, k0⟩, fun _ _ h => h⟩
                  simp only [execOp, List.map_toArray, List.map_cons, List.map_nil, e0]
                  kernel_rfl
                · refine Inv.StepW.of_call (f := 35) rfl (fun _ _ _ => rfl) (fun a w' hC hdep hfix => ?_)
                  refine ⟨#[.string ⟨#[]⟩], w', (by simp only [execOp, resolve, List.map_toArray, List.map_cons, List.map_nil]; kernel_rfl), (file_any ⟨#[]⟩ (by decide) w').mono ?_⟩
                  rintro e w2 ⟨hb2, v2, rfl, hv2⟩
                  exact ⟨_, rfl, hC.step hb2, ⟨_, hv2⟩, fun _ _ h => RN.below h hb2⟩
                · refine Inv.StepW.of_run rfl (fun _ _ _ => rfl) ⟨fun a w' hC hdep hfix => ?_⟩
                  obtain ⟨n0, v0, e0, es0, d0, k0⟩ : NdK w' w'.heap.size (a.eval (.tmp 120)) := hdep 21 _ 120 rfl rfl (by kernel_rfl)
                  refine ⟨.agg #[.string ⟨#[97]⟩, .int .u8 (n0.k : Int), .string n0.d, v0], w', ?_, hC, ⟨⟨#[97]⟩, n0.k, n0.d, v0, n0.es, rfl, es0, by decide, d0, k0⟩, fun _ _ h => h⟩
                  simp only [execOp, List.map_toArray, List.map_cons, List.map_nil, e0]
                  kernel_rfl
                · refine Inv.StepW.of_run rfl (fun _ _ _ => rfl) ⟨fun a w' hC hdep hfix => ?_⟩
                  obtain ⟨nm0, k0, d0, v0, u0, e0, es0, zn0, zd0, zk0⟩ : EntV w' w'.heap.size (a.eval (.tmp 119)) := hdep 20 _ 119 rfl rfl (by kernel_rfl)
                  obtain ⟨nm1, k1, d1, v1, u1, e1, es1, zn1, zd1, zk1⟩ : EntV w' w'.heap.size (a.eval (.tmp 121)) := hdep 22 _ 121 rfl rfl (by kernel_rfl)
                  have hba : Below w'.heap.size w' (w'.alloc (.cells #[.string nm0, .int .u8 (k0 : Int), .string d0, v0, .string nm1, .int .u8 (k1 : Int), .string d1, v1] 48)) := (Below.refl _ _).alloc (Nat.le_refl _) _
                  have hes : EsAt (w'.alloc (.cells #[.string nm0, .int .u8 (k0 : Int), .string d0, v0, .string nm1, .int .u8 (k1 : Int), .string d1, v1] 48)) (w'.alloc (.cells #[.string nm0, .int .u8 (k0 : Int), .string d0, v0, .string nm1, .int .u8 (k1 : Int), .string d1, v1] 48)).heap.size (.slice (some ⟨w'.heap.size, 0, none⟩) 2 2) (.cons nm0 k0 d0 u0 (.cons nm1 k1 d1 u1 .nil)) := entRow_at (xs := [.string nm0, .int .u8 (k0 : Int), .string d0, v0, .string nm1, .int .u8 (k1 : Int), .string d1, v1]) (heap_alloc_new w' _) rfl (by decide) ⟨_, _, rfl, zn0, zd0, zk0, es0.below hba, ⟨_, _, rfl, zn1, zd1, zk1, es1.below hba, rfl⟩⟩
                  refine ⟨.slice (some ⟨w'.heap.size, 0, none⟩) 2 2, (w'.alloc (.cells #[.string nm0, .int .u8 (k0 : Int), .string d0, v0, .string nm1, .int .u8 (k1 : Int), .string d1, v1] 48)), ?_, hC.alloc _, ⟨(.cons nm0 k0 d0 u0 (.cons nm1 k1 d1 u1 .nil)), some ⟨w'.heap.size, 0, none⟩, 2, rfl, hes⟩, fun _ _ h => RN.below h hba⟩
                  unfold execOp
                  simp only [List.map_toArray, List.map_cons, List.map_nil, e0, e1]
                  kernel_rfl
                · refine Inv.StepW.of_run rfl (fun _ _ _ => rfl) ⟨fun a w' hC hdep hfix => ?_⟩
                  obtain ⟨u0, A0, c0, e0, es0⟩ : EsF w' w'.heap.size (a.eval (.tmp 122)) := hdep 23 _ 122 rfl rfl (by kernel_rfl)
                  refine ⟨.agg #[.int .u8 4, .string ⟨#[]⟩, .slice A0 u0.len c0], w', ?_, hC, ⟨⟨4, ⟨#[]⟩, u0⟩, _, rfl, es0, (show (ByteArray.mk #[]).size ≤ maxLen by decide), (by decide : 4 < 256)⟩, fun _ _ h => h⟩
                  simp only [execOp, List.map_toArray, List.map_cons, List.map_nil, e0]
                  kernel_rfl
                · refine Inv.StepW.of_call (f := 35) rfl (fun _ _ _ => rfl) (fun a w' hC hdep hfix => ?_)
                  refine ⟨#[.string ⟨#[]⟩], w', (by simp only [execOp, resolve, List.map_toArray, List.map_cons, List.map_nil]; kernel_rfl), (file_any ⟨#[]⟩ (by decide) w').mono ?_⟩
                  rintro e w2 ⟨hb2, v2, rfl, hv2⟩
                  exact ⟨_, rfl, hC.step hb2, ⟨_, hv2⟩, fun _ _ h => RN.below h hb2⟩
                · refine Inv.StepW.of_run rfl (fun _ _ _ => rfl) ⟨fun a w' hC hdep hfix => ?_⟩
                  obtain ⟨n0, v0, e0, es0, d0, k0⟩ : NdK w' w'.heap.size (a.eval (.tmp 124)) := hdep 25 _ 124 rfl rfl (by kernel_rfl)
                  refine ⟨.agg #[.string ⟨#[97]⟩, .int .u8 (n0.k : Int), .string n0.d, v0], w', ?_, hC, ⟨⟨#[97]⟩, n0.k, n0.d, v0, n0.es, rfl, es0, by decide, d0, k0⟩, fun _ _ h => h⟩
                  simp only [execOp, List.map_toArray, List.map_cons, List.map_nil, e0]
                  kernel_rfl
                · refine Inv.StepW.of_run rfl (fun _ _ _ => rfl) ⟨fun a w' hC hdep hfix => ?_⟩
                  refine ⟨VB, w', ?_, hC, ⟨_, HNB.out w' hC⟩, fun _ _ h => h⟩
                  have e2 : a.eval (.tmp 1) = .pointer (some ⟨gb, 0, none⟩) := (hfix 1 (by decide)).trans rfl
                  simp only [execOp, e2, Instr.loadAt, Instr.sureAddr, Sem.run_bind, Sem.run_pure, Result.andThen_ok, HLB.out w' hC]
                · refine Inv.StepW.of_run rfl (fun _ _ _ => rfl) ⟨fun a w' hC hdep hfix => ?_⟩
                  obtain ⟨n0, v0, e0, es0, d0, k0⟩ : NdK w' w'.heap.size (a.eval (.tmp 126)) := hdep 27 _ 126 rfl rfl (by kernel_rfl)
                  refine ⟨.agg #[.string ⟨#[97]⟩, .int .u8 (n0.k : Int), .string n0.d, v0], w', ?_, hC, ⟨⟨#[97]⟩, n0.k, n0.d, v0, n0.es, rfl, es0, by decide, d0, k0⟩, fun _ _ h => h⟩
                  simp only [execOp, List.map_toArray, List.map_cons, List.map_nil, e0]
                  kernel_rfl
                · refine Inv.StepW.of_run rfl (fun _ _ _ => rfl) ⟨fun a w' hC hdep hfix => ?_⟩
                  obtain ⟨nm0, k0, d0, v0, u0, e0, es0, zn0, zd0, zk0⟩ : EntV w' w'.heap.size (a.eval (.tmp 125)) := hdep 26 _ 125 rfl rfl (by kernel_rfl)
                  obtain ⟨nm1, k1, d1, v1, u1, e1, es1, zn1, zd1, zk1⟩ : EntV w' w'.heap.size (a.eval (.tmp 127)) := hdep 28 _ 127 rfl rfl (by kernel_rfl)
                  have hba : Below w'.heap.size w' (w'.alloc (.cells #[.string nm0, .int .u8 (k0 : Int), .string d0, v0, .string nm1, .int .u8 (k1 : Int), .string d1, v1] 48)) := (Below.refl _ _).alloc (Nat.le_refl _) _
                  have hes : EsAt (w'.alloc (.cells #[.string nm0, .int .u8 (k0 : Int), .string d0, v0, .string nm1, .int .u8 (k1 : Int), .string d1, v1] 48)) (w'.alloc (.cells #[.string nm0, .int .u8 (k0 : Int), .string d0, v0, .string nm1, .int .u8 (k1 : Int), .string d1, v1] 48)).heap.size (.slice (some ⟨w'.heap.size, 0, none⟩) 2 2) (.cons nm0 k0 d0 u0 (.cons nm1 k1 d1 u1 .nil)) := entRow_at (xs := [.string nm0, .int .u8 (k0 : Int), .string d0, v0, .string nm1, .int .u8 (k1 : Int), .string d1, v1]) (heap_alloc_new w' _) rfl (by decide) ⟨_, _, rfl, zn0, zd0, zk0, es0.below hba, ⟨_, _, rfl, zn1, zd1, zk1, es1.below hba, rfl⟩⟩
                  refine ⟨.slice (some ⟨w'.heap.size, 0, none⟩) 2 2, (w'.alloc (.cells #[.string nm0, .int .u8 (k0 : Int), .string d0, v0, .string nm1, .int .u8 (k1 : Int), .string d1, v1] 48)), ?_, hC.alloc _, ⟨(.cons nm0 k0 d0 u0 (.cons nm1 k1 d1 u1 .nil)), some ⟨w'.heap.size, 0, none⟩, 2, rfl, hes⟩, fun _ _ h => RN.below h hba⟩
                  unfold execOp
                  simp only [List.map_toArray, List.map_cons, List.map_nil, e0, e1]
                  kernel_rfl
                · refine Inv.StepW.of_run rfl (fun _ _ _ => rfl) ⟨fun a w' hC hdep hfix => ?_⟩
                  obtain ⟨u0, A0, c0, e0, es0⟩ : EsF w' w'.heap.size (a.eval (.tmp 128)) := hdep 29 _ 128 rfl rfl (by kernel_rfl)
                  refine ⟨.agg #[.int .u8 4, .string ⟨#[]⟩, .slice A0 u0.len c0], w', ?_, hC, ⟨⟨4, ⟨#[]⟩, u0⟩, _, rfl, es0, (show (ByteArray.mk #[]).size ≤ maxLen by decide), (by decide : 4 < 256)⟩, fun _ _ h => h⟩
                  simp only [execOp, List.map_toArray, List.map_cons, List.map_nil, e0]
                  kernel_rfl
                · refine Inv.StepW.of_run rfl (fun _ _ _ => rfl) ⟨fun a w' hC hdep hfix => ?_⟩
                  obtain ⟨n0, v0, e0, es0, d0, k0⟩ : NdK w' w'.heap.size (a.eval (.tmp 99)) := hdep 0 _ 99 rfl rfl (by kernel_rfl)
                  obtain ⟨n1, v1, e1, es1, d1, k1⟩ : NdK w' w'.heap.size (a.eval (.tmp 100)) := hdep 1 _ 100 rfl rfl (by kernel_rfl)
                  obtain ⟨n2, v2, e2, es2, d2, k2⟩ : NdK w' w'.heap.size (a.eval (.tmp 101)) := hdep 2 _ 101 rfl rfl (by kernel_rfl)
                  obtain ⟨n3, v3, e3, es3, d3, k3⟩ : NdK w' w'.heap.size (a.eval (.tmp 105)) := hdep 6 _ 105 rfl rfl (by kernel_rfl)
                  obtain ⟨n4, v4, e4, es4, d4, k4⟩ : NdK w' w'.heap.size (a.eval (.tmp 106)) := hdep 7 _ 106 rfl rfl (by kernel_rfl)
                  obtain ⟨n5, v5, e5, es5, d5, k5⟩ : NdK w' w'.heap.size (a.eval (.tmp 109)) := hdep 10 _ 109 rfl rfl (by kernel_rfl)
                  obtain ⟨n6, v6, e6, es6, d6, k6⟩ : NdK w' w'.heap.size (a.eval (.tmp 111)) := hdep 12 _ 111 rfl rfl (by kernel_rfl)
                  obtain ⟨n7, v7, e7, es7, d7, k7⟩ : NdK w' w'.heap.size (a.eval (.tmp 113)) := hdep 14 _ 113 rfl rfl (by kernel_rfl)
                  obtain ⟨n8, v8, e8, es8, d8, k8⟩ : NdK w' w'.heap.size (a.eval (.tmp 116)) := hdep 17 _ 116 rfl rfl (by kernel_rfl)
                  obtain ⟨n9, v9, e9, es9, d9, k9⟩ : NdK w' w'.heap.size (a.eval (.tmp 117)) := hdep 18 _ 117 rfl rfl (by kernel_rfl)
                  obtain ⟨n10, v10, e10, es10, d10, k10⟩ : NdK w' w'.heap.size (a.eval (.tmp 123)) := hdep 24 _ 123 rfl rfl (by kernel_rfl)
                  obtain ⟨n11, v11, e11, es11, d11, k11⟩ : NdK w' w'.heap.size (a.eval (.tmp 129)) := hdep 30 _ 129 rfl rfl (by kernel_rfl)
                  have hba : Below w'.heap.size w' (w'.alloc (.cells #[.int .u8 (n0.k : Int), .string n0.d, v0, .int .u8 (n1.k : Int), .string n1.d, v1, .int .u8 (n2.k : Int), .string n2.d, v2, .int .u8 (n3.k : Int), .string n3.d, v3, .int .u8 (n4.k : Int), .string n4.d, v4, .int .u8 (n5.k : Int), .string n5.d, v5, .int .u8 (n6.k : Int), .string n6.d, v6, .int .u8 (n7.k : Int), .string n7.d, v7, .int .u8 (n8.k : Int), .string n8.d, v8, .int .u8 (n9.k : Int), .string n9.d, v9, .int .u8 (n10.k : Int), .string n10.d, v10, .int .u8 (n11.k : Int), .string n11.d, v11] 26)) := (Below.refl _ _).alloc (Nat.le_refl _) _
                  refine ⟨.slice (some ⟨w'.heap.size, 0, none⟩) 12 12, (w'.alloc (.cells #[.int .u8 (n0.k : Int), .string n0.d, v0, .int .u8 (n1.k : Int), .string n1.d, v1, .int .u8 (n2.k : Int), .string n2.d, v2, .int .u8 (n3.k : Int), .string n3.d, v3, .int .u8 (n4.k : Int), .string n4.d, v4, .int .u8 (n5.k : Int), .string n5.d, v5, .int .u8 (n6.k : Int), .string n6.d, v6, .int .u8 (n7.k : Int), .string n7.d, v7, .int .u8 (n8.k : Int), .string n8.d, v8, .int .u8 (n9.k : Int), .string n9.d, v9, .int .u8 (n10.k : Int), .string n10.d, v10, .int .u8 (n11.k : Int), .string n11.d, v11] 26)), ?_, hC.alloc _, ⟨_, _, rfl, heap_alloc_new w' _, fun i hi => ?_⟩, fun _ _ h => RN.below h hba⟩
                  · unfold execOp
                    simp only [List.map_toArray, List.map_cons, List.map_nil, e0, e1, e2, e3, e4, e5, e6, e7, e8, e9, e10, e11]
                    kernel_rfl
                  · match i, hi with
                    | 0, _ => exact ⟨_, _, _, rfl, rfl, rfl, n0, v0, rfl, es0.below hba, d0, k0⟩
                    | 1, _ => exact ⟨_, _, _, rfl, rfl, rfl, n1, v1, rfl, es1.below hba, d1, k1⟩
                    | 2, _ => exact ⟨_, _, _, rfl, rfl, rfl, n2, v2, rfl, es2.below hba, d2, k2⟩
                    | 3, _ => exact ⟨_, _, _, rfl, rfl, rfl, n3, v3, rfl, es3.below hba, d3, k3⟩
                    | 4, _ => exact ⟨_, _, _, rfl, rfl, rfl, n4, v4, rfl, es4.below hba, d4, k4⟩
                    | 5, _ => exact ⟨_, _, _, rfl, rfl, rfl, n5, v5, rfl, es5.below hba, d5, k5⟩
                    | 6, _ => exact ⟨_, _, _, rfl, rfl, rfl, n6, v6, rfl, es6.below hba, d6, k6⟩
                    | 7, _ => exact ⟨_, _, _, rfl, rfl, rfl, n7, v7, rfl, es7.below hba, d7, k7⟩
                    | 8, _ => exact ⟨_, _, _, rfl, rfl, rfl, n8, v8, rfl, es8.below hba, d8, k8⟩
                    | 9, _ => exact ⟨_, _, _, rfl, rfl, rfl, n9, v9, rfl, es9.below hba, d9, k9⟩
                    | 10, _ => exact ⟨_, _, _, rfl, rfl, rfl, n10, v10, rfl, es10.below hba, d10, k10⟩
                    | 11, _ => exact ⟨_, _, _, rfl, rfl, rfl, n11, v11, rfl, es11.below hba, d11, k11⟩
                    | i + 12, hi => exact absurd hi (by omega)
                · refine Inv.StepW.of_run rfl (fun _ _ _ => rfl) ⟨fun a w' hC hdep hfix => ?_⟩
                  obtain ⟨g0, cs0, e0, hg0, hr0⟩ : RowX w' 12 (a.eval (.tmp 130)) := hdep 31 _ 130 rfl rfl (by kernel_rfl)
                  refine ⟨.int .i64 12, w', ?_, hC, rfl, fun _ _ h => h⟩
                  simp only [execOp, resolve, List.map_toArray, List.map_cons, List.map_nil, e0]
                  kernel_rfl
                · refine Inv.StepW.of_run rfl (fun _ _ _ => rfl) ⟨fun a w' hC hdep hfix => ?_⟩
                  exact ⟨.int .i64 0, w', rfl, hC, rfl, fun _ _ h => h⟩
              obtain ⟨gr2, cs2, e130, hg2, hr2⟩ : RowX w6 12 (f 130) := hR 31 _ 130 rfl rfl
              have hv131 : f 131 = .int .i64 12 := hR 32 _ 131 rfl rfl
              have hv132 : f 132 = .int .i64 0 := hR 33 _ 132 rfl rfl
              simp only [Inv.dsts, List.filterMap_cons, List.filterMap_nil, List.foldl_cons, List.foldl_nil, Act.put, List.setIfInBounds_toArray, List.set_cons_succ, List.set_cons_zero]
              rw [hv131, hv132, e130]
              have HRW := Lib.hid (And.intro hg2 hr2)
              have HB6 := Lib.hid (HBR.out _ hC)
              clear hC hR hv131 hv132 e130 HLB HNB HBR hg2 hr2 HBi
              go_wp2
              go_loopw [132] (fun u wx => ∃ k : Nat, k ≤ 12 ∧ u = .int .i64 (k : Int) ∧ Hid (Below w6.heap.size w6 wx)) (fun u _ => 12 - (intOf u).toNat)
              case atStart => exact ⟨0, by omega, rfl, Lib.hid (Below.refl _ _)⟩
              case round =>
                obtain ⟨k, hk, rfl, HBk⟩ := hrel
                by_cases hlk : k < 12
                · have hk1 : (k : Int) < 12 := by omega
                  have hk0 : (0 : Int) ≤ (k : Int) := by omega
                  have hw2 : IntKind.i64.wrap ((k : Int) + 1) = (k : Int) + 1 := IntWalk.i64_in _ (by omega)
                  obtain ⟨x, y, z, hx, hy, hz, nx, ex, e3, hes, hdx, hkx⟩ := HRW.out.2 k hlk
                  obtain ⟨Ax, cx, rfl, hlx, hcx⟩ := hes.form
                  simp only [Value.agg.injEq, Array.mk.injEq, List.cons.injEq, and_true] at e3
                  obtain ⟨rfl, rfl, rfl⟩ := e3
                  have q0 := (HBk.out.cell (p := ⟨gr2, k * 3, none⟩) (block_lt HRW.out.1)).trans ((cell_of_row _ _ _ _ _ _ HRW.out.1).trans hx)
                  have q1 := (HBk.out.cell (p := ⟨gr2, k * 3 + 1, none⟩) (block_lt HRW.out.1)).trans ((cell_of_row _ _ _ _ _ _ HRW.out.1).trans hy)
                  have q2 := (HBk.out.cell (p := ⟨gr2, k * 3 + 2, none⟩) (block_lt HRW.out.1)).trans ((cell_of_row _ _ _ _ _ _ HRW.out.1).trans hz)
                  have HNX0 := Lib.hid (show NdV w6 w6.heap.size (.agg #[.int .u8 (nx.k : Int), .string nx.d, .slice Ax nx.es.len cx]) nx from ⟨_, rfl, hes, hdx, hkx⟩)
                  clear hx hy hz hes hdx hkx hlx hcx
                  go_upto_region 21 with (fail)
                  change Code.wp _ _ _ _ (wr.alloc (ndCells nx.k nx.d (.slice Ax nx.es.len cx)))
                  have hga : (wr.alloc (ndCells nx.k nx.d (.slice Ax nx.es.len cx))).heap[wr.heap.size]? = some (ndCells nx.k nx.d (.slice Ax nx.es.len cx)) := heap_alloc_new _ _
                  have hba : Below wr.heap.size wr (wr.alloc (ndCells nx.k nx.d (.slice Ax nx.es.len cx))) := (Below.refl _ _).alloc (Nat.le_refl _) _
                  have HGA := Lib.hid hga
                  have HBA := Lib.hid (below_step HBk.out hba HBk.out.size)
                  clear hga hba q0 q1 q2
                  generalize wr.alloc (ndCells nx.k nx.d (.slice Ax nx.es.len cx)) = wa at *
                  generalize wr.heap.size = gx at *
                  obtain ⟨VX, hVX⟩ : ∃ V, V = Value.agg #[.int .u8 (nx.k : Int), .string nx.d, .slice Ax nx.es.len cx] := ⟨_, rfl⟩
                  have HVX := Lib.hid hVX
                  clear hVX
                  obtain ⟨sp, hsp⟩ : ∃ s, s = pl.getD i ⟨#[]⟩ := ⟨_, rfl⟩
                  have HSP := Lib.hid (show sp.size ≤ 100 from HPB.out.1.2.2 sp (by rw [hsp]; simp [List.getD, HPI.out]))
                  have HB6R := Lib.hid (fun (w' : World) (hC : KeepW wa wa.heap.size w') => show Below w6.heap.size w6 w' from below_step HBA.out hC.1 HBA.out.size)
                  have HBR := Lib.hid (fun (w' : World) (hC : KeepW wa wa.heap.size w') => show Below w5.heap.size w5 w' from below_step HB6.out (HB6R.out w' hC) HB6.out.size)
                  have HLB := Lib.hid (fun (w' : World) (hC : KeepW wa wa.heap.size w') => show (loadVar 26 ⟨gb, 0, none⟩).run Tryd.prog w' = .ok VB w' from by rw [HVB.out]; exact load_node (((HBR.out w' hC).block gb (block_lt HB5.out.1)).trans HB5.out.1))
                  have HNB := Lib.hid (fun (w' : World) (hC : KeepW wa wa.heap.size w') => show NdV w' w'.heap.size VB nb from by rw [HVB.out]; exact HB5.out.2.2.below (HBR.out w' hC))
                  have HLX := Lib.hid (fun (w' : World) (hC : KeepW wa wa.heap.size w') => show (loadVar 26 ⟨gx, 0, none⟩).run Tryd.prog w' = .ok VX w' from by rw [HVX.out]; exact load_node ((hC.1.block gx (block_lt HGA.out)).trans HGA.out))
                  have HNX := Lib.hid (fun (w' : World) (hC : KeepW wa wa.heap.size w') => show NdV w' w'.heap.size VX nx from by rw [HVX.out]; exact HNX0.out.below (HB6R.out w' hC))
                  have HCL := Lib.hid (fun (w' : World) (hC : KeepW wa wa.heap.size w') => show w'.cell? (ad.add i) = some (.string sp) from ((HBR.out w' hC).cell (by rw [add_block]; exact HPR.out.1)).trans (HPR.out.2 i _ (by rw [hsp]; exact RdT.strs_get pl i HPI.out)))
                  have HKI := Lib.hid (i64_wf i (by have h1 := HPI.out; have h2 := HPB.out.1.2.1; omega))
                  clear hsp
                  refine Inv.wp_region_invW (by kernel_rfl) (fun w' => KeepW wa wa.heap.size w') (fun k v w' => RN ((kinds21 ad pl pc i).getD k (.num 99)) v w') (Inv.formW_spec (by kernel_rfl)) (KeepW.start (Nat.le_refl _)).drew (Inv.Each.steps ?_ rfl) (fun f w7 hC hR => ?_)
                  · refine ⟨?_, ?_, ?_, ?_, ?_, ?_, ?_, ?_, ?_, ?_, ?_, ?_, ?_, ?_, ?_, ?_, ?_, ?_, ?_, ?_, ?_, ?_, ?_, ?_, ?_, ?_, ?_, ?_, ?_, ?_, ?_, ?_, ?_, ?_, ?_, ?_, ?_, ?_, ?_, ?_, ?_, trivial⟩
                    · refine Inv.StepW.of_run rfl (fun _ _ _ => rfl) ⟨fun a w' hC hdep hfix => ?_⟩
                      refine ⟨VB, w', ?_, hC, ⟨_, HNB.out w' hC⟩, fun _ _ h => h⟩
                      have e2 : a.eval (.tmp 1) = .pointer (some ⟨gb, 0, none⟩) := (hfix 1 (by decide)).trans rfl
                      simp only [execOp, e2, Instr.loadAt, Instr.sureAddr, Sem.run_bind, Sem.run_pure, Result.andThen_ok, HLB.out w' hC]
                    · refine Inv.StepW.of_run rfl (fun _ _ _ => rfl) ⟨fun a w' hC hdep hfix => ?_⟩
                      refine ⟨a.eval (.tmp 7), w', rfl, hC, ((hfix 7 (by decide)).trans rfl : RN (.val (.slice (some ad) pl.length pc)) (a.eval (.tmp 7)) w'), fun _ _ h => h⟩
                    · refine Inv.StepW.of_run rfl (fun _ _ _ => rfl) ⟨fun a w' hC hdep hfix => ?_⟩
                      refine ⟨a.eval (.tmp 8), w', rfl, hC, ((hfix 8 (by decide)).trans rfl : RN (.num (i : Int)) (a.eval (.tmp 8)) w'), fun _ _ h => h⟩
                    · refine Inv.StepW.of_run rfl (fun _ _ _ => rfl) ⟨fun a w' hC hdep hfix => ?_⟩
                      have e0 : a.eval (.tmp 137) = .slice (some ad) pl.length pc := hdep 1 _ 137 rfl rfl (by kernel_rfl)
                      have e1 : a.eval (.tmp 138) = .int .i64 (i : Int) := hdep 2 _ 138 rfl rfl (by kernel_rfl)
                      have hi1 : (i : Int) < (pl.length : Int) := by have := HPI.out; omega
                      have hi0 : (0 : Int) ≤ (i : Int) := by omega
                      refine ⟨.pointer (some (ad.add i)), w', ?_, hC, rfl, fun _ _ h => h⟩
                      simp only [execOp, e0, e1]
                      simp [go_sem, hi0, hi1]
                    · refine Inv.StepW.of_run rfl (fun _ _ _ => rfl) ⟨fun a w' hC hdep hfix => ?_⟩
                      have e0 : a.eval (.tmp 139) = .pointer (some (ad.add i)) := hdep 3 _ 139 rfl rfl (by kernel_rfl)
                      have hcl := HCL.out w' hC
                      refine ⟨.string sp, w', ?_, hC, ⟨_, rfl, HSP.out⟩, fun _ _ h => h⟩
                      simp only [execOp, e0]
                      simp [go_sem, hcl]
                    · refine Inv.StepW.of_run rfl (fun _ _ _ => rfl) ⟨fun a w' hC hdep hfix => ?_⟩
                      refine ⟨VX, w', ?_, hC, ⟨_, HNX.out w' hC⟩, fun _ _ h => h⟩
                      have e2 : a.eval (.tmp 10) = .pointer (some ⟨gx, 0, none⟩) := (hfix 10 (by decide)).trans rfl
                      simp only [execOp, e2, Instr.loadAt, Instr.sureAddr, Sem.run_bind, Sem.run_pure, Result.andThen_ok, HLX.out w' hC]
                    · refine Inv.StepW.of_call (f := 7) rfl (fun _ _ _ => rfl) (fun a w' hC hdep hfix => ?_)
                      obtain ⟨n0, v0, e0, es0, d0, k0⟩ : NdK w' w'.heap.size (a.eval (.tmp 136)) := hdep 0 _ 136 rfl rfl (by kernel_rfl)
                      obtain ⟨s1, e1, z1⟩ : ∃ s, a.eval (.tmp 140) = .string s ∧ s.size ≤ 100 := hdep 4 _ 140 rfl rfl (by kernel_rfl)
                      obtain ⟨n2, v2, e2, es2, d2, k2⟩ : NdK w' w'.heap.size (a.eval (.tmp 141)) := hdep 5 _ 141 rfl rfl (by kernel_rfl)
                      refine ⟨#[a.eval (.tmp 136), a.eval (.tmp 140), a.eval (.tmp 141)], w', (by simp only [execOp, resolve, List.map_toArray, List.map_cons, List.map_nil]; kernel_rfl), ?_⟩
                      rw [e0, e1, e2]
                      refine (filesPut_walk _ _ _ _ _ w' trivial ⟨_, rfl, es0, d0, k0⟩ (by unfold maxLen; omega) ⟨_, rfl, es2, d2, k2⟩).mono ?_
                      rintro e w2 ⟨rfl, hb2⟩
                      exact ⟨_, rfl, hC.step hb2, rfl, fun _ _ h => RN.below h hb2⟩
                    · refine Inv.StepW.of_run rfl (fun _ _ _ => rfl) ⟨fun a w' hC hdep hfix => ?_⟩
                      have e0 : a.eval (.tmp 142) = .bool true := hdep 6 _ 142 rfl rfl (by kernel_rfl)
                      refine ⟨.bool false, w', ?_, hC, rfl, fun _ _ h => h⟩
                      simp only [execOp, e0]
                      kernel_rfl
                    · refine Inv.StepW.of_run rfl (fun _ _ _ => rfl) ⟨fun a w' hC hdep hfix => ?_⟩
                      refine ⟨a.eval (.tmp 143), w', rfl, hC, (hdep 7 _ 143 rfl rfl (by kernel_rfl) : RN (.boo false) (a.eval (.tmp 143)) w'), fun _ _ h => h⟩
                    · refine Inv.StepW.of_run rfl (fun a w' hdep => wanted_of (j := 8) (b := false) (d := 144) rfl rfl rfl (hdep 8 _ 144 rfl rfl (by kernel_rfl))) ⟨fun a w' hC hdep hfix => ?_⟩
                      refine ⟨VB, w', ?_, hC, ⟨_, HNB.out w' hC⟩, fun _ _ h => h⟩
                      have e2 : a.eval (.tmp 1) = .pointer (some ⟨gb, 0, none⟩) := (hfix 1 (by decide)).trans rfl
                      simp only [execOp, e2, Instr.loadAt, Instr.sureAddr, Sem.run_bind, Sem.run_pure, Result.andThen_ok, HLB.out w' hC]
                    · refine Inv.StepW.of_run rfl (fun a w' hdep => wanted_of (j := 8) (b := false) (d := 144) rfl rfl rfl (hdep 8 _ 144 rfl rfl (by kernel_rfl))) ⟨fun a w' hC hdep hfix => ?_⟩
                      refine ⟨a.eval (.tmp 7), w', rfl, hC, ((hfix 7 (by decide)).trans rfl : RN (.val (.slice (some ad) pl.length pc)) (a.eval (.tmp 7)) w'), fun _ _ h => h⟩
                    · refine Inv.StepW.of_run rfl (fun a w' hdep => wanted_of (j := 8) (b := false) (d := 144) rfl rfl rfl (hdep 8 _ 144 rfl rfl (by kernel_rfl))) ⟨fun a w' hC hdep hfix => ?_⟩
                      refine ⟨a.eval (.tmp 8), w', rfl, hC, ((hfix 8 (by decide)).trans rfl : RN (.num (i : Int)) (a.eval (.tmp 8)) w'), fun _ _ h => h⟩
                    · refine Inv.StepW.of_run rfl (fun a w' hdep => wanted_of (j := 8) (b := false) (d := 144) rfl rfl rfl (hdep 8 _ 144 rfl rfl (by kernel_rfl))) ⟨fun a w' hC hdep hfix => ?_⟩
                      have e0 : a.eval (.tmp 146) = .slice (some ad) pl.length pc := hdep 10 _ 146 rfl rfl (by kernel_rfl)
                      have e1 : a.eval (.tmp 147) = .int .i64 (i : Int) := hdep 11 _ 147 rfl rfl (by kernel_rfl)
                      have hi1 : (i : Int) < (pl.length : Int) := by have := HPI.out; omega
                      have hi0 : (0 : Int) ≤ (i : Int) := by omega
                      refine ⟨.pointer (some (ad.add i)), w', ?_, hC, rfl, fun _ _ h => h⟩
                      simp only [execOp, e0, e1]
                      simp [go_sem, hi0, hi1]
                    · refine Inv.StepW.of_run rfl (fun a w' hdep => wanted_of (j := 8) (b := false) (d := 144) rfl rfl rfl (hdep 8 _ 144 rfl rfl (by kernel_rfl))) ⟨fun a w' hC hdep hfix => ?_⟩
                      have e0 : a.eval (.tmp 148) = .pointer (some (ad.add i)) := hdep 12 _ 148 rfl rfl (by kernel_rfl)
                      have hcl := HCL.out w' hC
                      refine ⟨.string sp, w', ?_, hC, ⟨_, rfl, HSP.out⟩, fun _ _ h => h⟩
                      simp only [execOp, e0]
                      simp [go_sem, hcl]
                    · refine Inv.StepW.of_run rfl (fun a w' hdep => wanted_of (j := 8) (b := false) (d := 144) rfl rfl rfl (hdep 8 _ 144 rfl rfl (by kernel_rfl))) ⟨fun a w' hC hdep hfix => ?_⟩
                      obtain ⟨s0, e0, z0⟩ : ∃ s, a.eval (.tmp 149) = .string s ∧ s.size ≤ 100 := hdep 13 _ 149 rfl rfl (by kernel_rfl)
                      have hl0 : (⟨#[47, 97]⟩ : ByteArray).size = 2 := rfl
                      refine ⟨.string (s0 ++ (⟨#[47, 97]⟩ : ByteArray)), w', ?_, hC, ⟨_, rfl, by rw [ByteArray.size_append]; omega⟩, fun _ _ h => h⟩
                      simp only [execOp, e0]
                      exact add_text s0 (⟨#[47, 97]⟩ : ByteArray) w' (by omega)
                    · refine Inv.StepW.of_call (f := 6) rfl (fun a w' hdep => wanted_of (j := 8) (b := false) (d := 144) rfl rfl rfl (hdep 8 _ 144 rfl rfl (by kernel_rfl))) (fun a w' hC hdep hfix => ?_)
                      obtain ⟨n0, v0, e0, es0, d0, k0⟩ : NdK w' w'.heap.size (a.eval (.tmp 145)) := hdep 9 _ 145 rfl rfl (by kernel_rfl)
                      obtain ⟨s1, e1, z1⟩ : ∃ s, a.eval (.tmp 150) = .string s ∧ s.size ≤ 102 := hdep 14 _ 150 rfl rfl (by kernel_rfl)
                      refine ⟨#[a.eval (.tmp 145), a.eval (.tmp 150)], w', (by simp only [execOp, resolve, List.map_toArray, List.map_cons, List.map_nil]; kernel_rfl), ?_⟩
                      rw [e0, e1]
                      refine (filesAt_walk _ _ _ w' trivial ⟨_, rfl, es0, d0, k0⟩ (by unfold maxLen; omega)).mono ?_
                      rintro e w2 ⟨rfl, hb2⟩
                      exact ⟨_, rfl, hC.step hb2, rfl, fun _ _ h => RN.below h hb2⟩
                    · refine Inv.StepW.of_run rfl (fun a w' hdep => wanted_of (j := 8) (b := false) (d := 144) rfl rfl rfl (hdep 8 _ 144 rfl rfl (by kernel_rfl))) ⟨fun a w' hC hdep hfix => ?_⟩
                      have e0 : a.eval (.tmp 151) = .bool true := hdep 15 _ 151 rfl rfl (by kernel_rfl)
                      refine ⟨.bool false, w', ?_, hC, rfl, fun _ _ h => h⟩
                      simp only [execOp, e0]
                      kernel_rfl
                    · refine Inv.StepW.of_run rfl (fun _ _ _ => rfl) ⟨fun a w' hC hdep hfix => ?_⟩
                      have e0 : a.eval (.tmp 144) = .bool false := hdep 8 _ 144 rfl rfl (by kernel_rfl)
                      have e1 : a.eval (.tmp 152) = .bool false := hdep 16 _ 152 rfl rfl (by kernel_rfl)
                      refine ⟨.bool false, w', ?_, hC, rfl, fun _ _ h => h⟩
                      simp only [execOp, e0, e1]
                      kernel_rfl
                    · refine Inv.StepW.of_run rfl (fun _ _ _ => rfl) ⟨fun a w' hC hdep hfix => ?_⟩
                      refine ⟨a.eval (.tmp 153), w', rfl, hC, (hdep 17 _ 153 rfl rfl (by kernel_rfl) : RN (.boo false) (a.eval (.tmp 153)) w'), fun _ _ h => h⟩
                    · refine Inv.StepW.of_run rfl (fun a w' hdep => wanted_of (j := 18) (b := false) (d := 154) rfl rfl rfl (hdep 18 _ 154 rfl rfl (by kernel_rfl))) ⟨fun a w' hC hdep hfix => ?_⟩
                      refine ⟨VB, w', ?_, hC, ⟨_, HNB.out w' hC⟩, fun _ _ h => h⟩
                      have e2 : a.eval (.tmp 1) = .pointer (some ⟨gb, 0, none⟩) := (hfix 1 (by decide)).trans rfl
                      simp only [execOp, e2, Instr.loadAt, Instr.sureAddr, Sem.run_bind, Sem.run_pure, Result.andThen_ok, HLB.out w' hC]
                    · refine Inv.StepW.of_run rfl (fun a w' hdep => wanted_of (j := 18) (b := false) (d := 154) rfl rfl rfl (hdep 18 _ 154 rfl rfl (by kernel_rfl))) ⟨fun a w' hC hdep hfix => ?_⟩
                      refine ⟨a.eval (.tmp 8), w', rfl, hC, ((hfix 8 (by decide)).trans rfl : RN (.num (i : Int)) (a.eval (.tmp 8)) w'), fun _ _ h => h⟩
                    · refine Inv.StepW.of_run rfl (fun a w' hdep => wanted_of (j := 18) (b := false) (d := 154) rfl rfl rfl (hdep 18 _ 154 rfl rfl (by kernel_rfl))) ⟨fun a w' hC hdep hfix => ?_⟩
                      refine ⟨VX, w', ?_, hC, ⟨_, HNX.out w' hC⟩, fun _ _ h => h⟩
                      have e2 : a.eval (.tmp 10) = .pointer (some ⟨gx, 0, none⟩) := (hfix 10 (by decide)).trans rfl
                      simp only [execOp, e2, Instr.loadAt, Instr.sureAddr, Sem.run_bind, Sem.run_pure, Result.andThen_ok, HLX.out w' hC]
                    · refine Inv.StepW.of_call (f := 8) rfl (fun a w' hdep => wanted_of (j := 18) (b := false) (d := 154) rfl rfl rfl (hdep 18 _ 154 rfl rfl (by kernel_rfl))) (fun a w' hC hdep hfix => ?_)
                      obtain ⟨n0, v0, e0, es0, d0, k0⟩ : NdK w' w'.heap.size (a.eval (.tmp 155)) := hdep 19 _ 155 rfl rfl (by kernel_rfl)
                      have e1 : a.eval (.tmp 156) = .int .i64 (i : Int) := hdep 20 _ 156 rfl rfl (by kernel_rfl)
                      obtain ⟨n2, v2, e2, es2, d2, k2⟩ : NdK w' w'.heap.size (a.eval (.tmp 157)) := hdep 21 _ 157 rfl rfl (by kernel_rfl)
                      refine ⟨#[a.eval (.tmp 155), a.eval (.tmp 156), a.eval (.tmp 157)], w', (by simp only [execOp, resolve, List.map_toArray, List.map_cons, List.map_nil]; kernel_rfl), ?_⟩
                      rw [e0, e1, e2]
                      refine (filesPaths_walk _ _ _ _ _ w' trivial ⟨_, rfl, es0, d0, k0⟩ (HKI.out) ⟨_, rfl, es2, d2, k2⟩).mono ?_
                      rintro e w2 ⟨rfl, hb2⟩
                      exact ⟨_, rfl, hC.step hb2, rfl, fun _ _ h => RN.below h hb2⟩
                    · refine Inv.StepW.of_run rfl (fun a w' hdep => wanted_of (j := 18) (b := false) (d := 154) rfl rfl rfl (hdep 18 _ 154 rfl rfl (by kernel_rfl))) ⟨fun a w' hC hdep hfix => ?_⟩
                      have e0 : a.eval (.tmp 158) = .bool true := hdep 22 _ 158 rfl rfl (by kernel_rfl)
                      refine ⟨.bool false, w', ?_, hC, rfl, fun _ _ h => h⟩
                      simp only [execOp, e0]
                      kernel_rfl
                    · refine Inv.StepW.of_run rfl (fun _ _ _ => rfl) ⟨fun a w' hC hdep hfix => ?_⟩
                      have e0 : a.eval (.tmp 154) = .bool false := hdep 18 _ 154 rfl rfl (by kernel_rfl)
                      have e1 : a.eval (.tmp 159) = .bool false := hdep 23 _ 159 rfl rfl (by kernel_rfl)
                      refine ⟨.bool false, w', ?_, hC, rfl, fun _ _ h => h⟩
                      simp only [execOp, e0, e1]
                      kernel_rfl
                    · refine Inv.StepW.of_run rfl (fun _ _ _ => rfl) ⟨fun a w' hC hdep hfix => ?_⟩
                      refine ⟨a.eval (.tmp 160), w', rfl, hC, (hdep 24 _ 160 rfl rfl (by kernel_rfl) : RN (.boo false) (a.eval (.tmp 160)) w'), fun _ _ h => h⟩
                    · refine Inv.StepW.of_run rfl (fun a w' hdep => wanted_of (j := 25) (b := false) (d := 161) rfl rfl rfl (hdep 25 _ 161 rfl rfl (by kernel_rfl))) ⟨fun a w' hC hdep hfix => ?_⟩
                      refine ⟨VX, w', ?_, hC, ⟨_, HNX.out w' hC⟩, fun _ _ h => h⟩
                      have e2 : a.eval (.tmp 10) = .pointer (some ⟨gx, 0, none⟩) := (hfix 10 (by decide)).trans rfl
                      simp only [execOp, e2, Instr.loadAt, Instr.sureAddr, Sem.run_bind, Sem.run_pure, Result.andThen_ok, HLX.out w' hC]
                    · refine Inv.StepW.of_call (f := 4) rfl (fun a w' hdep => wanted_of (j := 25) (b := false) (d := 161) rfl rfl rfl (hdep 25 _ 161 rfl rfl (by kernel_rfl))) (fun a w' hC hdep hfix => ?_)
                      obtain ⟨n0, v0, e0, es0, d0, k0⟩ : NdK w' w'.heap.size (a.eval (.tmp 162)) := hdep 26 _ 162 rfl rfl (by kernel_rfl)
                      refine ⟨#[a.eval (.tmp 162)], w', (by simp only [execOp, resolve, List.map_toArray, List.map_cons, List.map_nil]; kernel_rfl), ?_⟩
                      rw [e0]
                      refine (filesRight_walk _ _ w' trivial ⟨_, rfl, es0, d0, k0⟩).mono ?_
                      rintro e w2 ⟨rfl, hb2⟩
                      exact ⟨_, rfl, hC.step hb2, rfl, fun _ _ h => RN.below h hb2⟩
                    · refine Inv.StepW.of_run rfl (fun a w' hdep => wanted_of (j := 25) (b := false) (d := 161) rfl rfl rfl (hdep 25 _ 161 rfl rfl (by kernel_rfl))) ⟨fun a w' hC hdep hfix => ?_⟩
                      have e0 : a.eval (.tmp 163) = .bool true := hdep 27 _ 163 rfl rfl (by kernel_rfl)
                      refine ⟨.bool false, w', ?_, hC, rfl, fun _ _ h => h⟩
                      simp only [execOp, e0]
                      kernel_rfl
                    · refine Inv.StepW.of_run rfl (fun _ _ _ => rfl) ⟨fun a w' hC hdep hfix => ?_⟩
                      have e0 : a.eval (.tmp 161) = .bool false := hdep 25 _ 161 rfl rfl (by kernel_rfl)
                      have e1 : a.eval (.tmp 164) = .bool false := hdep 28 _ 164 rfl rfl (by kernel_rfl)
                      refine ⟨.bool false, w', ?_, hC, rfl, fun _ _ h => h⟩
                      simp only [execOp, e0, e1]
                      kernel_rfl
                    · refine Inv.StepW.of_run rfl (fun _ _ _ => rfl) ⟨fun a w' hC hdep hfix => ?_⟩
                      refine ⟨a.eval (.tmp 165), w', rfl, hC, (hdep 29 _ 165 rfl rfl (by kernel_rfl) : RN (.boo false) (a.eval (.tmp 165)) w'), fun _ _ h => h⟩
                    · refine Inv.StepW.of_run rfl (fun a w' hdep => wanted_of (j := 30) (b := false) (d := 166) rfl rfl rfl (hdep 30 _ 166 rfl rfl (by kernel_rfl))) ⟨fun a w' hC hdep hfix => ?_⟩
                      refine ⟨VB, w', ?_, hC, ⟨_, HNB.out w' hC⟩, fun _ _ h => h⟩
                      have e2 : a.eval (.tmp 1) = .pointer (some ⟨gb, 0, none⟩) := (hfix 1 (by decide)).trans rfl
                      simp only [execOp, e2, Instr.loadAt, Instr.sureAddr, Sem.run_bind, Sem.run_pure, Result.andThen_ok, HLB.out w' hC]
                    · refine Inv.StepW.of_run rfl (fun a w' hdep => wanted_of (j := 30) (b := false) (d := 166) rfl rfl rfl (hdep 30 _ 166 rfl rfl (by kernel_rfl))) ⟨fun a w' hC hdep hfix => ?_⟩
                      refine ⟨VX, w', ?_, hC, ⟨_, HNX.out w' hC⟩, fun _ _ h => h⟩
                      have e2 : a.eval (.tmp 10) = .pointer (some ⟨gx, 0, none⟩) := (hfix 10 (by decide)).trans rfl
                      simp only [execOp, e2, Instr.loadAt, Instr.sureAddr, Sem.run_bind, Sem.run_pure, Result.andThen_ok, HLX.out w' hC]
                    · refine Inv.StepW.of_call (f := 5) rfl (fun a w' hdep => wanted_of (j := 30) (b := false) (d := 166) rfl rfl rfl (hdep 30 _ 166 rfl rfl (by kernel_rfl))) (fun a w' hC hdep hfix => ?_)
                      obtain ⟨n0, v0, e0, es0, d0, k0⟩ : NdK w' w'.heap.size (a.eval (.tmp 167)) := hdep 31 _ 167 rfl rfl (by kernel_rfl)
                      obtain ⟨n1, v1, e1, es1, d1, k1⟩ : NdK w' w'.heap.size (a.eval (.tmp 168)) := hdep 32 _ 168 rfl rfl (by kernel_rfl)
                      refine ⟨#[a.eval (.tmp 167), a.eval (.tmp 168)], w', (by simp only [execOp, resolve, List.map_toArray, List.map_cons, List.map_nil]; kernel_rfl), ?_⟩
                      rw [e0, e1]
                      refine (filesSame_walk _ _ _ _ w' trivial ⟨_, rfl, es0, d0, k0⟩ ⟨_, rfl, es1, d1, k1⟩).mono ?_
                      rintro e w2 ⟨rfl, hb2⟩
                      exact ⟨_, rfl, hC.step hb2, rfl, fun _ _ h => RN.below h hb2⟩
                    · refine Inv.StepW.of_run rfl (fun a w' hdep => wanted_of (j := 30) (b := false) (d := 166) rfl rfl rfl (hdep 30 _ 166 rfl rfl (by kernel_rfl))) ⟨fun a w' hC hdep hfix => ?_⟩
                      have e0 : a.eval (.tmp 169) = .bool true := hdep 33 _ 169 rfl rfl (by kernel_rfl)
                      refine ⟨.bool false, w', ?_, hC, rfl, fun _ _ h => h⟩
                      simp only [execOp, e0]
                      kernel_rfl
                    · refine Inv.StepW.of_run rfl (fun _ _ _ => rfl) ⟨fun a w' hC hdep hfix => ?_⟩
                      have e0 : a.eval (.tmp 166) = .bool false := hdep 30 _ 166 rfl rfl (by kernel_rfl)
                      have e1 : a.eval (.tmp 170) = .bool false := hdep 34 _ 170 rfl rfl (by kernel_rfl)
                      refine ⟨.bool false, w', ?_, hC, rfl, fun _ _ h => h⟩
                      simp only [execOp, e0, e1]
                      kernel_rfl
                    · refine Inv.StepW.of_run rfl (fun _ _ _ => rfl) ⟨fun a w' hC hdep hfix => ?_⟩
                      refine ⟨a.eval (.tmp 171), w', rfl, hC, (hdep 35 _ 171 rfl rfl (by kernel_rfl) : RN (.boo false) (a.eval (.tmp 171)) w'), fun _ _ h => h⟩
                    · refine Inv.StepW.of_run rfl (fun a w' hdep => wanted_of (j := 36) (b := false) (d := 172) rfl rfl rfl (hdep 36 _ 172 rfl rfl (by kernel_rfl))) ⟨fun a w' hC hdep hfix => ?_⟩
                      refine ⟨VX, w', ?_, hC, ⟨_, HNX.out w' hC⟩, fun _ _ h => h⟩
                      have e2 : a.eval (.tmp 10) = .pointer (some ⟨gx, 0, none⟩) := (hfix 10 (by decide)).trans rfl
                      simp only [execOp, e2, Instr.loadAt, Instr.sureAddr, Sem.run_bind, Sem.run_pure, Result.andThen_ok, HLX.out w' hC]
                    · refine Inv.StepW.of_call (f := 6) rfl (fun a w' hdep => wanted_of (j := 36) (b := false) (d := 172) rfl rfl rfl (hdep 36 _ 172 rfl rfl (by kernel_rfl))) (fun a w' hC hdep hfix => ?_)
                      obtain ⟨n0, v0, e0, es0, d0, k0⟩ : NdK w' w'.heap.size (a.eval (.tmp 173)) := hdep 37 _ 173 rfl rfl (by kernel_rfl)
                      refine ⟨#[a.eval (.tmp 173), .string ⟨#[97, 47, 100]⟩], w', (by simp only [execOp, resolve, List.map_toArray, List.map_cons, List.map_nil]; kernel_rfl), ?_⟩
                      rw [e0]
                      refine (filesAt_walk _ _ _ w' trivial ⟨_, rfl, es0, d0, k0⟩ (by decide)).mono ?_
                      rintro e w2 ⟨rfl, hb2⟩
                      exact ⟨_, rfl, hC.step hb2, rfl, fun _ _ h => RN.below h hb2⟩
                    · refine Inv.StepW.of_run rfl (fun a w' hdep => wanted_of (j := 36) (b := false) (d := 172) rfl rfl rfl (hdep 36 _ 172 rfl rfl (by kernel_rfl))) ⟨fun a w' hC hdep hfix => ?_⟩
                      have e0 : a.eval (.tmp 174) = .bool true := hdep 38 _ 174 rfl rfl (by kernel_rfl)
                      refine ⟨.bool false, w', ?_, hC, rfl, fun _ _ h => h⟩
                      simp only [execOp, e0]
                      kernel_rfl
                    · refine Inv.StepW.of_run rfl (fun _ _ _ => rfl) ⟨fun a w' hC hdep hfix => ?_⟩
                      have e0 : a.eval (.tmp 172) = .bool false := hdep 36 _ 172 rfl rfl (by kernel_rfl)
                      have e1 : a.eval (.tmp 175) = .bool false := hdep 39 _ 175 rfl rfl (by kernel_rfl)
                      refine ⟨.bool false, w', ?_, hC, rfl, fun _ _ h => h⟩
                      simp only [execOp, e0, e1]
                      kernel_rfl
                  have hv176 : f 176 = .bool false := hR 40 _ 176 rfl rfl
                  simp only [Inv.dsts, List.filterMap_cons, List.filterMap_nil, List.foldl_cons, List.foldl_nil, Act.put, List.setIfInBounds_toArray, List.set_cons_succ, List.set_cons_zero]
                  rw [hv176]
                  have HBo := Lib.hid (HB6R.out _ hC)
                  clear hC hR hv176 HLB HNB HBR HLX HNX HB6R HCL
                  go_wp2
                  go_roundw
                  case rel => exact ⟨k + 1, by omega, by go_num, HBo⟩
                  case measure => simp [intOf]; omega
                · have hk1 : ¬ (k : Int) < 12 := by omega
                  have HBo := Lib.hid (below_step HB6.out HBk.out HB6.out.size)
                  have hw2 : IntKind.i64.wrap ((i : Int) + 1) = (i : Int) + 1 := IntWalk.i64_in _ (by have := HPB.out.1.2.1; omega)
                  go_wp2
                  go_roundw
                  case rel => exact ⟨i + 1, by omega, by go_num, HBo⟩
                  case measure => simp [intOf]; omega
            · have hi1 : ¬ (i : Int) < (pl.length : Int) := by omega
              obtain ⟨R6, tf, htf, hm6, hc6⟩ := zero_row 65537 (by decide)
              have hm6' : ∀ wx : World, (Instr.makeSlice 45 (.int .i64 65537) (.int .i64 65537)).run Tryd.prog wx = .ok (.slice (some ⟨wx.heap.size, 0, none⟩) 65537 65537) (wx.alloc (.cells R6 5)) := hm6
              have HTF := Lib.hid htf
              have HBW := Lib.hid (below_step HB5.out.2.1 HBi.out HB5.out.2.1.size)
              have HFL := Lib.hid (file_lit tf (wr.alloc (.cells R6 5)))
              clear hm6 htf HBi HB5
              go_upto_region 26 with (go_at_call 35; refine HFL.out.mono ?_; rintro e w8 ⟨rfl, hb8⟩)
              obtain ⟨b0, hb0⟩ : ∃ g, g = w8.heap.size + 2 := ⟨_, rfl⟩
              obtain ⟨w9, e9, hwb, hw9⟩ : ∃ w9, w9 = (w8.alloc (ndCells 1 tf (.slice none 0 0))).alloc (ndCells 4 ⟨#[]⟩ (.slice none 0 0)) ∧ w.heap.size ≤ w8.heap.size ∧ WideAt w b0 w8.heap.size (w8.heap.size + 1) tf 0 w9 := by
                have hb := (below_step HBW.out (((Below.refl wr.heap.size wr).alloc (Nat.le_refl _) (.cells R6 5)).trans (hb8.mono (by simp))) HBW.out.size)
                refine ⟨_, rfl, hb.size, none, 0, heap_alloc2_new _ _ _, heap_alloc2_old _ _ _, (hb.alloc hb.size _).alloc (by simp; have := hb.size; omega) _, by simp [hb0], rfl, .inl ⟨rfl, rfl⟩⟩
              have HW9 := Lib.hid hw9
              change Code.wp _ _ _ _ ((w8.alloc (ndCells 1 tf (.slice none 0 0))).alloc (ndCells 4 ⟨#[]⟩ (.slice none 0 0)))
              rw [← e9]
              clear e9 hw9 hb8 HFL HBW hc6 hm6'
              obtain ⟨g12, hg12⟩ : ∃ g, g = w8.heap.size + 1 := ⟨_, rfl⟩
              rw [← hg12] at HW9 ⊢
              have hgl : g12 < b0 := by omega
              have hgm : w8.heap.size < g12 := by omega
              clear hg12 hb0
              generalize w8.heap.size = g11 at *
              go_upto_region 27 with (fail)
              go_loopw [13] (fun u wx => ∃ n : Nat, n ≤ 4096 ∧ u = .int .i64 (n : Int) ∧ Hid (WideAt w b0 g11 g12 tf n wx)) (fun u _ => 4096 - (intOf u).toNat)
              case atStart => exact ⟨0, by omega, rfl, HW9⟩
              case round =>
                obtain ⟨n, hn, rfl, HWn⟩ := hrel
                by_cases hln : n < 4096
                · have hn1 : (n : Int) < 4096 := by omega
                  have hw2 : IntKind.i64.wrap ((n : Int) + 1) = (n : Int) + 1 := IntWalk.i64_in _ (by omega)
                  obtain ⟨A, c, h12, h11, hbw, hbs, hown⟩ := HWn.out
                  have hv := own_lt hown
                  obtain ⟨i0, hi0, hy0, hy1, hyb⟩ := info_parts infoEnt
                  have HI := Lib.hid (And.intro hi0 (And.intro hy0 (And.intro hy1 hyb)))
                  have HV := Lib.hid hv
                  have HX := Lib.hid (And.intro h12 (And.intro h11 hbw))
                  have HCL := Lib.hid (fun (w' : World) (hC : KeepW wr b0 w') => show w'.cell? ⟨g12, 2, none⟩ = some (.slice A n c) from (nd_box ((hC.1.block g12 hgl).trans h12)).2.2.1)
                  have HC0 := Lib.hid (show CW wr b0 n (.slice A n c) false wr.drew from ⟨KeepW.drew (KeepW.start hbs), Nat.le_refl _, fun _ => World.ownsRow.kept hown (grown_of (Below.refl _ _).drew) (by cases A <;> simp [Value.ownBlock])⟩)
                  clear hv hi0 hy0 hy1 hyb h12 h11 hbw hbs hown HWn
                  go_upto_region 29 with (fail)
                  refine Inv.wp_region_invP (m := 22) (p := 20) (by kernel_rfl) (fun b w' => CW wr b0 n (.slice A n c) b w') (fun k v w' => RW wr.heap.size b0 n ((kindsW n g12 A c).getD k .non) v w') (Inv.formL_spec (by kernel_rfl)) (by decide) HC0.out (fun b => Inv.Each.steps ?_ rfl) (fun o ho K a w' hC hdep hfix hK => ?_) (fun f w5 K hC hR hK => ?_)
                  · refine ⟨?_, ?_, ?_, ?_, ?_, ?_, ?_, ?_, ?_, ?_, ?_, ?_, ?_, ?_, ?_, ?_, ?_, ?_, ?_, ?_, ?_, ?_, ?_, trivial⟩
                    · intro _ _
                      refine Inv.StepW.of_run rfl (fun _ _ _ => rfl) ⟨fun a w' hC hdep hfix => ?_⟩
                      have e0 : a.eval (.tmp 12) = .pointer (some ⟨g12, 0, none⟩) := (hfix 12 (by decide)).trans rfl
                      refine ⟨.pointer (some ⟨g12, 2, none⟩), w', ?_, hC, rfl, fun _ _ h => h⟩
                      simp only [execOp, e0]
                      kernel_rfl
                    · intro _ _
                      refine Inv.StepW.of_run rfl (fun _ _ _ => rfl) ⟨fun a w' hC hdep hfix => ?_⟩
                      have e0 : a.eval (.tmp 186) = .pointer (some ⟨g12, 2, none⟩) := hdep 0 _ 186 rfl rfl (by kernel_rfl)
                      have hcl := HCL.out w' hC.1
                      refine ⟨.slice A n c, w', ?_, hC, rfl, fun _ _ h => h⟩
                      simp only [execOp, e0]
                      simp [go_sem, hcl]
                    · intro _ _
                      refine Inv.StepW.of_run rfl (fun _ _ _ => rfl) ⟨fun a w' hC hdep hfix => ?_⟩
                      refine ⟨a.eval (.tmp 13), w', rfl, hC, (hfix 13 (by decide)).trans rfl, fun _ _ h => h⟩
                    · intro _ _
                      refine Inv.StepW.of_run rfl (fun _ _ _ => rfl) ⟨fun a w' hC hdep hfix => ?_⟩
                      have e0 : a.eval (.tmp 188) = .int .i64 (n : Int) := hdep 2 _ 188 rfl rfl (by kernel_rfl)
                      refine ⟨.int .i64 ((n / 256 : Nat) : Int), w', ?_, hC, rfl, fun _ _ h => h⟩
                      simp only [execOp, e0]
                      exact quo_n n 256 (by omega) (by omega) (by omega) w'
                    · intro _ _
                      refine Inv.StepW.of_run rfl (fun _ _ _ => rfl) ⟨fun a w' hC hdep hfix => ?_⟩
                      have e0 : a.eval (.tmp 189) = .int .i64 ((n / 256 : Nat) : Int) := hdep 3 _ 189 rfl rfl (by kernel_rfl)
                      refine ⟨.int .i64 ((65 + n / 256 : Nat) : Int), w', ?_, hC, rfl, fun _ _ h => h⟩
                      simp only [execOp, e0]
                      exact add_n 65 (n / 256) (by omega) (by omega) w'
                    · intro _ _
                      refine Inv.StepW.of_run rfl (fun _ _ _ => rfl) ⟨fun a w' hC hdep hfix => ?_⟩
                      have e0 : a.eval (.tmp 190) = .int .i64 ((65 + n / 256 : Nat) : Int) := hdep 4 _ 190 rfl rfl (by kernel_rfl)
                      refine ⟨.int .u8 ((65 + n / 256 : Nat) : Int), w', ?_, hC, rfl, fun _ _ h => h⟩
                      simp only [execOp, e0]
                      exact conv_n (65 + n / 256) (by omega) w'
                    · intro _ _
                      refine Inv.StepW.of_run rfl (fun _ _ _ => rfl) ⟨fun a w' hC hdep hfix => ?_⟩
                      refine ⟨a.eval (.tmp 13), w', rfl, hC, (hfix 13 (by decide)).trans rfl, fun _ _ h => h⟩
                    · intro _ _
                      refine Inv.StepW.of_run rfl (fun _ _ _ => rfl) ⟨fun a w' hC hdep hfix => ?_⟩
                      have e0 : a.eval (.tmp 192) = .int .i64 (n : Int) := hdep 6 _ 192 rfl rfl (by kernel_rfl)
                      refine ⟨.int .i64 ((n / 16 : Nat) : Int), w', ?_, hC, rfl, fun _ _ h => h⟩
                      simp only [execOp, e0]
                      exact quo_n n 16 (by omega) (by omega) (by omega) w'
                    · intro _ _
                      refine Inv.StepW.of_run rfl (fun _ _ _ => rfl) ⟨fun a w' hC hdep hfix => ?_⟩
                      have e0 : a.eval (.tmp 193) = .int .i64 ((n / 16 : Nat) : Int) := hdep 7 _ 193 rfl rfl (by kernel_rfl)
                      refine ⟨.int .i64 ((n / 16 % 16 : Nat) : Int), w', ?_, hC, rfl, fun _ _ h => h⟩
                      simp only [execOp, e0]
                      exact rem_n (n / 16) 16 (by omega) (by omega) (by omega) w'
                    · intro _ _
                      refine Inv.StepW.of_run rfl (fun _ _ _ => rfl) ⟨fun a w' hC hdep hfix => ?_⟩
                      have e0 : a.eval (.tmp 194) = .int .i64 ((n / 16 % 16 : Nat) : Int) := hdep 8 _ 194 rfl rfl (by kernel_rfl)
                      refine ⟨.int .i64 ((97 + n / 16 % 16 : Nat) : Int), w', ?_, hC, rfl, fun _ _ h => h⟩
                      simp only [execOp, e0]
                      exact add_n 97 (n / 16 % 16) (by omega) (by omega) w'
                    · intro _ _
                      refine Inv.StepW.of_run rfl (fun _ _ _ => rfl) ⟨fun a w' hC hdep hfix => ?_⟩
                      have e0 : a.eval (.tmp 195) = .int .i64 ((97 + n / 16 % 16 : Nat) : Int) := hdep 9 _ 195 rfl rfl (by kernel_rfl)
                      refine ⟨.int .u8 ((97 + n / 16 % 16 : Nat) : Int), w', ?_, hC, rfl, fun _ _ h => h⟩
                      simp only [execOp, e0]
                      exact conv_n (97 + n / 16 % 16) (by omega) w'
                    · intro _ _
                      refine Inv.StepW.of_run rfl (fun _ _ _ => rfl) ⟨fun a w' hC hdep hfix => ?_⟩
                      refine ⟨a.eval (.tmp 13), w', rfl, hC, (hfix 13 (by decide)).trans rfl, fun _ _ h => h⟩
                    · intro _ _
                      refine Inv.StepW.of_run rfl (fun _ _ _ => rfl) ⟨fun a w' hC hdep hfix => ?_⟩
                      have e0 : a.eval (.tmp 197) = .int .i64 (n : Int) := hdep 11 _ 197 rfl rfl (by kernel_rfl)
                      refine ⟨.int .i64 ((n % 16 : Nat) : Int), w', ?_, hC, rfl, fun _ _ h => h⟩
                      simp only [execOp, e0]
                      exact rem_n n 16 (by omega) (by omega) (by omega) w'
                    · intro _ _
                      refine Inv.StepW.of_run rfl (fun _ _ _ => rfl) ⟨fun a w' hC hdep hfix => ?_⟩
                      have e0 : a.eval (.tmp 198) = .int .i64 ((n % 16 : Nat) : Int) := hdep 12 _ 198 rfl rfl (by kernel_rfl)
                      refine ⟨.int .i64 ((97 + n % 16 : Nat) : Int), w', ?_, hC, rfl, fun _ _ h => h⟩
                      simp only [execOp, e0]
                      exact add_n 97 (n % 16) (by omega) (by omega) w'
                    · intro _ _
                      refine Inv.StepW.of_run rfl (fun _ _ _ => rfl) ⟨fun a w' hC hdep hfix => ?_⟩
                      have e0 : a.eval (.tmp 199) = .int .i64 ((97 + n % 16 : Nat) : Int) := hdep 13 _ 199 rfl rfl (by kernel_rfl)
                      refine ⟨.int .u8 ((97 + n % 16 : Nat) : Int), w', ?_, hC, rfl, fun _ _ h => h⟩
                      simp only [execOp, e0]
                      exact conv_n (97 + n % 16) (by omega) w'
                    · intro _ _
                      refine Inv.StepW.of_run rfl (fun _ _ _ => rfl) ⟨fun a w' hC hdep hfix => ?_⟩
                      have e0 : a.eval (.tmp 191) = .int .u8 ((65 + n / 256 : Nat) : Int) := hdep 5 _ 191 rfl rfl (by kernel_rfl)
                      have e1 : a.eval (.tmp 196) = .int .u8 ((97 + n / 16 % 16 : Nat) : Int) := hdep 10 _ 196 rfl rfl (by kernel_rfl)
                      have e2 : a.eval (.tmp 200) = .int .u8 ((97 + n % 16 : Nat) : Int) := hdep 14 _ 200 rfl rfl (by kernel_rfl)
                      have hba : Below w'.heap.size w' (w'.alloc (.cells (cW3 n) 5)) := (Below.refl _ _).alloc (Nat.le_refl _) _
                      refine ⟨.slice (some ⟨w'.heap.size, 0, none⟩) 3 3, w'.alloc (.cells (cW3 n) 5), ?_, hC.step hba, ⟨_, rfl, hC.2.1, heap_alloc_new w' _⟩, fun _ _ h => RW.below h hba⟩
                      unfold execOp
                      simp only [List.map_toArray, List.map_cons, List.map_nil, e0, e1, e2]
                      kernel_rfl
                    · intro _ _
                      refine Inv.StepW.of_run rfl (fun _ _ _ => rfl) ⟨fun a w' hC hdep hfix => ?_⟩
                      obtain ⟨r, e0, _, hr⟩ : RW wr.heap.size b0 n .byt (a.eval (.tmp 201)) w' := hdep 15 _ 201 rfl rfl (by kernel_rfl)
                      have hcv := conv3 hr (show n < 4096 by omega)
                      refine ⟨.string (nmW n), w', ?_, hC, rfl, fun _ _ h => h⟩
                      simp only [execOp, e0]
                      simp only [hcv, Sem.run_bind, Sem.run_map, Result.andThen]
                      rfl
                    · intro _ _
                      refine Inv.StepW.of_call (f := 35) rfl (fun _ _ _ => rfl) (fun a w' hC hdep hfix => ?_)
                      refine ⟨#[.string ⟨#[]⟩], w', (by simp only [execOp, resolve, List.map_toArray, List.map_cons, List.map_nil]; kernel_rfl), (file_lit ⟨#[]⟩ w').mono ?_⟩
                      rintro e w2 ⟨rfl, hb2⟩
                      exact ⟨_, rfl, hC.step hb2, rfl, fun _ _ h => RW.below h hb2⟩
                    · intro _ _
                      refine Inv.StepW.of_run rfl (fun _ _ _ => rfl) ⟨fun a w' hC hdep hfix => ?_⟩
                      have e0 : a.eval (.tmp 202) = .string (nmW n) := hdep 16 _ 202 rfl rfl (by kernel_rfl)
                      have e1 : a.eval (.tmp 203) = .agg #[.int .u8 1, .string ⟨#[]⟩, .slice none 0 0] := hdep 17 _ 203 rfl rfl (by kernel_rfl)
                      refine ⟨.agg #[.string (nmW n), .int .u8 1, .string ⟨#[]⟩, .slice none 0 0], w', ?_, hC, rfl, fun _ _ h => h⟩
                      simp only [execOp, List.map_toArray, List.map_cons, List.map_nil, e0, e1]
                      kernel_rfl
                    · intro _ _
                      refine Inv.StepW.of_run rfl (fun _ _ _ => rfl) ⟨fun a w' hC hdep hfix => ?_⟩
                      have e0 : a.eval (.tmp 204) = .agg #[.string (nmW n), .int .u8 1, .string ⟨#[]⟩, .slice none 0 0] := hdep 18 _ 204 rfl rfl (by kernel_rfl)
                      have hba : Below w'.heap.size w' (w'.alloc (.cells (cW4 n) 48)) := (Below.refl _ _).alloc (Nat.le_refl _) _
                      refine ⟨.slice (some ⟨w'.heap.size, 0, none⟩) 1 1, w'.alloc (.cells (cW4 n) 48), ?_, hC.step hba, ⟨_, rfl, hC.2.1, heap_alloc_new w' _⟩, fun _ _ h => RW.below h hba⟩
                      unfold execOp
                      simp only [List.map_toArray, List.map_cons, List.map_nil, e0]
                      kernel_rfl
                    · exact fun _ h => absurd rfl h
                    · intro _ _
                      refine Inv.StepW.of_run rfl (fun _ _ _ => rfl) ⟨fun a w' hC hdep hfix => ?_⟩
                      have e0 : a.eval (.tmp 12) = .pointer (some ⟨g12, 0, none⟩) := (hfix 12 (by decide)).trans rfl
                      refine ⟨.pointer (some ⟨g12, 2, none⟩), w', ?_, hC, rfl, fun _ _ h => h⟩
                      simp only [execOp, e0]
                      kernel_rfl
                    · exact fun h => absurd rfl h
                  · have e187 : a.eval (.tmp 187) = .slice A n c := hdep 1 _ 187 rfl rfl (by injection ho with ho; subst ho; kernel_rfl)
                    obtain ⟨r, e205, _, hr⟩ : RW wr.heap.size b0 n .one (a.eval (.tmp 205)) w' := hdep 19 _ 205 rfl rfl (by injection ho with ho; subst ho; kernel_rfl)
                    injection ho with ho
                    subst ho
                    obtain ⟨hi0, hy0, hy1, hyb⟩ := HI.out
                    refine Inv.wpOp_of rfl rfl (wp_append_lies w' (.tmp 187) (.tmp 205) 24 rfl b0 48 i0 _ 4 64 Tryd.underlying24 hi0 hy0 hy1 hyb rfl (by omega) (.slice A n c) n (wideL 0 n) e187 (hC.2.2 rfl) ⟨r, 0, none⟩ 1 1 [.string (nmW n), .int .u8 1, .string ⟨#[]⟩, .slice none 0 0] e205 rfl (fun j u hu => ?_) (by intro u hu; simp at hu; rcases hu with rfl | rfl | rfl | rfl <;> rfl) (by omega) (by unfold maxLen; omega) (by omega) hC.1.2 _ rfl (fun g cap w2 hown2 hgr _ _ => ?_))
                    · rw [add_none, Nat.zero_add, cell_of_row _ _ _ _ _ _ hr]
                      simpa [cW4] using hu
                    · refine hK _ _ (CW.grown hC hgr (fun g hg => (HV.out g hg).1)) ?_ (fun j u hj h => RW.grown h (kW_app n g12 A c j hj) hgr (fun g hg => (HV.out g hg).2))
                      have hsn := wideL_snoc n 0
                      rw [Nat.zero_add] at hsn
                      show w2.ownsRow b0 48 4 _ (n + 1) (wideL 0 (n + 1))
                      rw [← hsn]
                      exact hown2
                  · have hv207 : f 207 = .pointer (some ⟨g12, 2, none⟩) := hR 21 _ 207 rfl rfl
                    have hown : w5.ownsRow b0 48 4 (f 206) (n + 1) (wideL 0 (n + 1)) := hR 20 _ 206 rfl rfl
                    obtain ⟨g', cap', e206, hgb', _⟩ := World.ownsRow.form hown (by omega)
                    simp only [Inv.dsts, List.filterMap_cons, List.filterMap_nil, List.foldl_cons, List.foldl_nil, Act.put, List.setIfInBounds_toArray, List.set_cons_succ, List.set_cons_zero]
                    rw [e206] at hown
                    rw [hv207, e206]
                    have hbx := (hC.1.1.block g12 hgl).trans HX.out.1
                    have hbl := (hC.1.1.block g11 (by omega)).trans HX.out.2.1
                    obtain ⟨x0, x1, x2, z0, z1, z2⟩ := nd_box hbx
                    have hgr : w5.grownBy (w5.setCell ⟨g12, 2, none⟩ (.slice (some ⟨g', 0, none⟩) (n + 1) cap')) (some g12) := ⟨rfl, rfl, rfl, by simp, fun k hk hne => Below.heap_setCell _ _ _ _ (fun e => hne (by rw [e]))⟩
                    have HN := Lib.hid (show WideAt w b0 g11 g12 tf (n + 1) (w5.setCell ⟨g12, 2, none⟩ (.slice (some ⟨g', 0, none⟩) (n + 1) cap')) from
                      ⟨_, _, blk_set hbx 2 _, (Below.heap_setCell _ _ _ _ (show g11 ≠ g12 by omega)).trans hbl, (HX.out.2.2.trans (hC.1.1.mono (by omega))).setCell (by show w.heap.size ≤ g12; omega) _, by simpa using hC.1.2, World.ownsRow.kept hown hgr (.inr (by simp [Value.ownBlock]; omega))⟩)
                    refine Inv.wpOp_of rfl rfl (wp_of_skip (w' := w5.setCell ⟨g12, 2, none⟩ (.slice (some ⟨g', 0, none⟩) (n + 1) cap')) (by simp [execOp, Act.eval, go_sem, x2, z2]) (hK _ _ ?_))
                    generalize w5.setCell ⟨g12, 2, none⟩ (.slice (some ⟨g', 0, none⟩) (n + 1) cap') = w6 at *
                    clear hC hR hK hown hbx hbl x0 x1 x2 z0 z1 z2 hgr HX HC0 HCL
                    go_wp2
                    go_roundw
                    case rel => exact ⟨n + 1, by omega, by go_num, HN⟩
                    case measure => simp [intOf]; omega
                · have hn1 : ¬ (n : Int) < 4096 := by omega
                  have hne : n = 4096 := by omega
                  subst hne
                  obtain ⟨A, c, h12, h11, hbw, hbs, hown⟩ := HWn.out
                  have hes := WideAt.es (w := w) (g11 := g11) (g12 := g12) (tf := tf) hown (Nat.le_refl _)
                  have hcc : 4096 ≤ c := by
                    obtain ⟨A', c', e, h2, _⟩ := hes
                    rw [wideF_len] at e h2
                    injection e with _ _ e3
                    omega
                  obtain ⟨z0, z1, z2, _⟩ := nd_box h12
                  have HWX := Lib.hid (And.intro h12 (And.intro h11 (And.intro hbw hes)))
                  have hcc' : (4095 : Int) ≤ (c : Int) := by omega
                  clear h12 h11 hbw hbs hown hes HWn
                  go_upto_region 31 with (fail)
                  change Code.wp _ _ _ _ (wr.alloc (ndCells 4 ⟨#[]⟩ (.slice A 4095 c)))
                  have hba := (Below.refl wr.heap.size wr).alloc (Nat.le_refl _) (ndCells 4 ⟨#[]⟩ (.slice A 4095 c))
                  have hga := heap_alloc_new wr (ndCells 4 ⟨#[]⟩ (.slice A 4095 c))
                  have HW0 := Lib.hid (And.intro hga (And.intro ((hba.block g12 (block_lt HWX.out.1)).trans HWX.out.1) (And.intro ((hba.block g11 (block_lt HWX.out.2.1)).trans HWX.out.2.1) (And.intro (below_step HWX.out.2.2.1 hba HWX.out.2.2.1.size) (HWX.out.2.2.2.below hba)))))
                  clear hba hga z0 z1 z2 HWX
                  generalize wr.alloc (ndCells 4 ⟨#[]⟩ (.slice A 4095 c)) = wl at *
                  generalize wr.heap.size = g14 at *
                  obtain ⟨n32, h32⟩ : ∃ n, n = chainN 32 endN := ⟨_, rfl⟩
                  obtain ⟨n31, h31⟩ : ∃ n, n = chainN 31 endN := ⟨_, rfl⟩
                  have HD := Lib.hid (show n32.right = true ∧ (putR n32 ⟨#[99, 47, 100]⟩ n31).1 = 70 ∧ n32.es.count ≤ 1000000 ∧ n31.es.count ≤ 1000000 ∧ n32.flat.length ≤ 1000000000 by rw [h32, h31]; exact ⟨deep_right, deep_put, deep_count.1, deep_count.2, deep_flat.1⟩)
                  have HC32 := Lib.hid (fun (W : World) => show Calls Tryd.prog 36 #[.int .i64 32, .agg #[.int .u8 1, .string ⟨#[]⟩, .slice none 0 0]] W fun x W' => Below W.heap.size W W' ∧ ∃ v', x = .returned v' ∧ NdV W' W'.heap.size v' n32 from by rw [h32]; exact chain_c 32 (by omega) _ endN W (end_at W))
                  have HC31 := Lib.hid (fun (W : World) => show Calls Tryd.prog 36 #[.int .i64 31, .agg #[.int .u8 1, .string ⟨#[]⟩, .slice none 0 0]] W fun x W' => Below W.heap.size W W' ∧ ∃ v', x = .returned v' ∧ NdV W' W'.heap.size v' n31 from by rw [h31]; exact chain_c 31 (by omega) _ endN W (end_at W))
                  clear h32 h31
                  go_upto_region 32 with (first
                    | (go_at_call 35; refine (file_lit ⟨#[]⟩ _).mono ?_; rintro e w10 ⟨rfl, hb10⟩)
                    | (go_at_call 36; refine (HC32.out _).mono ?_; rintro e w11 ⟨hb11, v32, rfl, ev32, rfl, hes32, hd32, hk32⟩; obtain ⟨A32, c32, rfl, hl32, hm32⟩ := hes32.form))
                  change Code.wp _ _ _ _ (w11.alloc (ndCells n32.k n32.d (.slice A32 n32.es.len c32)))
                  have hbl := hb10.trans (hb11.mono hb10.size)
                  have hba := (Below.refl w11.heap.size w11).alloc (Nat.le_refl _) (ndCells n32.k n32.d (.slice A32 n32.es.len c32))
                  have hga := heap_alloc_new w11 (ndCells n32.k n32.d (.slice A32 n32.es.len c32))
                  have hbm := hbl.trans (hba.mono hbl.size)
                  have HE := Lib.hid (And.intro hga (show NdV (w11.alloc (ndCells n32.k n32.d (.slice A32 n32.es.len c32))) (w11.alloc (ndCells n32.k n32.d (.slice A32 n32.es.len c32))).heap.size (.agg #[.int .u8 (n32.k : Int), .string n32.d, .slice A32 n32.es.len c32]) n32 from ⟨_, rfl, hes32.below hba, hd32, hk32⟩))
                  have HM := Lib.hid hbm
                  clear hbl hba hga hbm hb10 hb11 hes32 hd32 hk32
                  generalize w11.alloc (ndCells n32.k n32.d (.slice A32 n32.es.len c32)) = w12 at *
                  generalize w11.heap.size = g15 at *
                  have HK0 := Lib.hid (KeepW.start (Nat.le_refl w12.heap.size))
                  have HCC := Lib.hid (fun (w' : World) (h : KeepW w12 w12.heap.size w') => show (loadVar 26 ⟨g15, 0, none⟩).run Tryd.prog w' = .ok (.agg #[.int .u8 (n32.k : Int), .string n32.d, .slice A32 n32.es.len c32]) w' from load_node ((h.1.block g15 (block_lt HE.out.1)).trans HE.out.1))
                  have HCI := Lib.hid (fun (w' : World) (h : KeepW w12 w12.heap.size w') => (HC31.out w').mono (fun e W hq => (show ∃ v, e = .returned v ∧ KeepW w12 w12.heap.size W ∧ NdV W W.heap.size v n31 ∧ Below w'.heap.size w' W from by
                    obtain ⟨hb, v, rfl, hv⟩ := hq
                    exact ⟨v, rfl, h.step hb, hv, hb⟩)))
                  have HPU := Lib.hid (fun (w' : World) (h : KeepW w12 w12.heap.size w') (vx : Value) (hx : NdV w' w'.heap.size vx n31) => (put_any w' _ (Nat.le_refl _) _ vx n32 n31 (HE.out.2.below h.1) hx ⟨#[99, 47, 100]⟩ (by decide) HD.out.2.2.1 HD.out.2.2.2.1).mono (fun e W hq => (show ∃ (k : Int) (d : ByteArray) (A : Option Addr) (l c : Nat), e = .returned (.tuple #[.agg #[.int .u8 k, .string d, .slice A l c], .int .i64 70]) ∧ KeepW w12 w12.heap.size W ∧ Below w'.heap.size w' W from by
                    obtain ⟨hb, v, he, ev, rfl, hes, h2, h3⟩ := hq
                    obtain ⟨A, c, rfl, _⟩ := hes.form
                    rw [HD.out.2.1] at he
                    exact ⟨_, _, A, _, c, he, h.step hb, hb⟩)))
                  refine Inv.wp_region_invG (by kernel_rfl) (fun _ w' => KeepW w12 w12.heap.size w') (fun k v w' => RZ w12.heap.size n31 ((kindsZ n32 A32 c32).getD k .non) v w') (Inv.formG_spec (by kernel_rfl)) HK0.out.drew (Inv.Each.steps ?_ rfl) (fun f wc _ HKC _ hR => ?_)
                  · refine ⟨?_, ?_, ?_, ?_, ?_, ?_, ?_, ?_, ?_, ?_, trivial⟩
                    · refine Inv.StepG.of_run rfl (fun _ _ _ => rfl) (fun a w' l hl hC hdep hdone hfix => ?_)
                      have e2 : a.eval (.tmp 15) = .pointer (some ⟨g15, 0, none⟩) := (hfix 15 (by decide)).trans rfl
                      refine ⟨.agg #[.int .u8 (n32.k : Int), .string n32.d, .slice A32 n32.es.len c32], w', ?_, hC, rfl, fun _ _ _ h => h⟩
                      simp only [execOp, e2, Instr.loadAt, Instr.sureAddr, Sem.run_bind, Sem.run_pure, Result.andThen_ok, HCC.out w' hC]
                    · refine Inv.StepG.of_call (f := 35) rfl (fun _ _ _ => rfl) (fun a w' l hl hC hdep hdone hfix => ?_)
                      refine ⟨#[.string ⟨#[]⟩], w', (by simp only [execOp, resolve, List.map_toArray, List.map_cons, List.map_nil]; kernel_rfl), (file_lit ⟨#[]⟩ w').mono ?_⟩
                      rintro e w2 ⟨rfl, hb2⟩
                      exact ⟨_, rfl, hC.step hb2, rfl, fun _ _ _ h => RZ.below h hb2⟩
                    · refine Inv.StepG.of_call (f := 36) rfl (fun _ _ _ => rfl) (fun a w' l hl hC hdep hdone hfix => ?_)
                      have e0 : a.eval (.tmp 216) = .agg #[.int .u8 1, .string ⟨#[]⟩, .slice none 0 0] := hdep 1 _ 216 rfl rfl (by kernel_rfl)
                      refine ⟨#[.int .i64 31, a.eval (.tmp 216)], w', (by simp only [execOp, resolve, List.map_toArray, List.map_cons, List.map_nil]; kernel_rfl), ?_⟩
                      rw [e0]
                      refine (HCI.out w' hC).mono ?_
                      rintro e w2 ⟨v, rfl, hk2, hv2, hb2⟩
                      exact ⟨v, rfl, hk2, hv2, fun _ _ _ h => RZ.below h hb2⟩
                    · refine Inv.StepG.of_call (f := 27) rfl (fun _ _ _ => rfl) (fun a w' l hl hC hdep hdone hfix => ?_)
                      have e0 : a.eval (.tmp 215) = .agg #[.int .u8 (n32.k : Int), .string n32.d, .slice A32 n32.es.len c32] := hdep 0 _ 215 rfl rfl (by kernel_rfl)
                      have hv : NdV w' w'.heap.size (a.eval (.tmp 217)) n31 := hdep 2 _ 217 rfl rfl (by kernel_rfl)
                      refine ⟨#[a.eval (.tmp 215), .string ⟨#[99, 47, 100]⟩, a.eval (.tmp 217)], w', (by simp only [execOp, resolve, List.map_toArray, List.map_cons, List.map_nil]; kernel_rfl), ?_⟩
                      rw [e0]
                      refine (HPU.out w' hC _ hv).mono ?_
                      rintro e w2 ⟨k, d, A, l2, c, rfl, hk2, hb2⟩
                      exact ⟨_, rfl, hk2, ⟨k, d, A, l2, c, rfl⟩, fun _ _ _ h => RZ.below h hb2⟩
                    · refine Inv.StepG.of_run rfl (fun _ _ _ => rfl) (fun a w' l hl hC hdep hdone hfix => ?_)
                      obtain ⟨k, d, A, l2, c, e0⟩ : ∃ (k : Int) (d : ByteArray) (A : Option Addr) (l c : Nat), a.eval (.tmp 218) = .tuple #[.agg #[.int .u8 k, .string d, .slice A l c], .int .i64 70] := hdep 3 _ 218 rfl rfl (by kernel_rfl)
                      refine ⟨a.eval (.tmp 218), w', rfl, hC, ⟨k, d, A, l2, c, e0⟩, fun _ _ _ h => h⟩
                    · refine Inv.StepG.of_run rfl (fun _ _ _ => rfl) (fun a w' l hl hC hdep hdone hfix => ?_)
                      obtain ⟨k, d, A, l2, c, e0⟩ : ∃ (k : Int) (d : ByteArray) (A : Option Addr) (l c : Nat), a.eval (.tmp 214) = .tuple #[.agg #[.int .u8 k, .string d, .slice A l c], .int .i64 70] := hdep 4 _ 214 rfl rfl (by kernel_rfl)
                      refine ⟨.agg #[.int .u8 k, .string d, .slice A l2 c], w', ?_, hC, ⟨k, d, A, l2, c, rfl⟩, fun _ _ _ h => h⟩
                      simp only [execOp, e0]
                      kernel_rfl
                    · refine Inv.StepG.of_run rfl (fun _ _ _ => rfl) (fun a w' l hl hC hdep hdone hfix => ?_)
                      obtain ⟨k, d, A, l2, c, e0⟩ : ∃ (k : Int) (d : ByteArray) (A : Option Addr) (l c : Nat), a.eval (.tmp 214) = .tuple #[.agg #[.int .u8 k, .string d, .slice A l c], .int .i64 70] := hdep 4 _ 214 rfl rfl (by kernel_rfl)
                      refine ⟨.int .i64 70, w', ?_, hC, rfl, fun _ _ _ h => h⟩
                      simp only [execOp, e0]
                      kernel_rfl
                    · refine Inv.StepG.of_run rfl (fun _ _ _ => rfl) (fun a w' l hl hC hdep hdone hfix => ?_)
                      have hba : Below w'.heap.size w' (w'.alloc (ndCells 0 ⟨#[]⟩ (.slice none 0 0))) := (Below.refl _ _).alloc (Nat.le_refl _) _
                      refine ⟨.pointer (some ⟨w'.heap.size, 0, none⟩), w'.alloc (ndCells 0 ⟨#[]⟩ (.slice none 0 0)), ?_, hC.step hba, ⟨w'.heap.size, _, _, _, rfl, hC.2, heap_alloc_new w' _⟩, fun _ _ _ h => RZ.below h hba⟩
                      unfold execOp
                      kernel_rfl
                    · refine Inv.StepG.of_store rfl rfl (fun _ _ _ => rfl) (fun a w' l hl hC hdep hdone hfix => ?_)
                      obtain ⟨g, x, y, z, e1, hg, hgb⟩ : ∃ g x y z, a.eval (.tmp 16) = .pointer (some ⟨g, 0, none⟩) ∧ w12.heap.size ≤ g ∧ w'.heap[g]? = some (.cells #[x, y, z] 26 (0, 0)) := hdep 7 _ 16 rfl rfl (by kernel_rfl)
                      obtain ⟨k, d, A, l2, c, e2⟩ : ∃ (k : Int) (d : ByteArray) (A : Option Addr) (l c : Nat), a.eval (.tmp 219) = .agg #[.int .u8 k, .string d, .slice A l c] := hdep 5 _ 219 rfl rfl (by kernel_rfl)
                      refine ⟨w'.setRow g #[.int .u8 k, .string d, .slice A l2 c], ?_, ⟨below_setRow hC.1 hg _, by rw [setRow_size]; exact hC.2⟩, fun _ _ _ h => RZ.set h hgb⟩
                      simp only [execOp, e1, e2, Instr.storeAt, Instr.sureAddr, Sem.run_bind, Sem.run_pure, Result.andThen_ok, run_storeVar_row (P := Tryd.prog) w' g _ 26 _ #[.int .u8 k, .string d, .slice A l2 c] hgb (by kernel_rfl) rfl (by simp [Value.oneCell'])]
                    · refine Inv.StepG.of_run rfl (fun _ _ _ => rfl) (fun a w' l hl hC hdep hdone hfix => ?_)
                      have e0 : a.eval (.tmp 220) = .int .i64 70 := hdep 6 _ 220 rfl rfl (by kernel_rfl)
                      refine ⟨a.eval (.tmp 220), w', rfl, hC, e0, fun _ _ _ h => h⟩
                  have hv17 : f 17 = .int .i64 70 := hR 9 _ 17 rfl rfl
                  simp only [Inv.dsts, List.filterMap_cons, List.filterMap_nil, List.foldl_cons, List.foldl_nil, Act.put, List.setIfInBounds_toArray, List.set_cons_succ, List.set_cons_zero]
                  rw [hv17]
                  have HKC := Lib.hid HKC
                  clear hR hv17 HCC HCI HPU HK0
                  obtain ⟨tg, htg⟩ : ∃ t, t = tf.extract 0 65536 := ⟨_, rfl⟩
                  have htgs : tg.size = 65536 := by rw [htg, ByteArray.size_extract, HTF.out]; rfl
                  have HTG := Lib.hid htg
                  have HTS := Lib.hid htgs
                  clear htg htgs
                  have HBC := Lib.hid (fun (w' : World) (h : KeepW wc wc.heap.size w') => show Below w12.heap.size w12 w' from below_step HKC.out.1 h.1 HKC.out.2)
                  have HBL := Lib.hid (fun (w' : World) (h : KeepW wc wc.heap.size w') => show Below wl.heap.size wl w' from below_step HM.out (HBC.out w' h) HM.out.size)
                  have HL1 := Lib.hid (fun (w' : World) (h : KeepW wc wc.heap.size w') => nd_box (((HBL.out w' h).block g11 (block_lt HW0.out.2.2.1)).trans HW0.out.2.2.1))
                  have HL2 := Lib.hid (fun (w' : World) (h : KeepW wc wc.heap.size w') => nd_box (((HBL.out w' h).block g12 (block_lt HW0.out.2.1)).trans HW0.out.2.1))
                  have HL3 := Lib.hid (fun (w' : World) (h : KeepW wc wc.heap.size w') => nd_box (((HBL.out w' h).block g14 (block_lt HW0.out.1)).trans HW0.out.1))
                  have HL4 := Lib.hid (fun (w' : World) (h : KeepW wc wc.heap.size w') => nd_box (((HBC.out w' h).block g15 (block_lt HE.out.1)).trans HE.out.1))
                  have HR := Lib.hid (fun (v : Value) (nd : Nd) (b : Bool) (hb : nd.right = b) (hN : nd.es.count ≤ 100000000) (w' : World) (h : KeepW wc wc.heap.size w') (hv : NdV w' w'.heap.size v nd) => show Calls Tryd.prog 14 #[v] w' (fun e W => e = .returned (.bool b) ∧ KeepW wc wc.heap.size W) from by rw [← hb]; exact h.calls (right_calls v nd w' hv hN))
                  have H1 := Lib.hid (fun (w' : World) (h : KeepW wc wc.heap.size w') => HR.out (.agg #[.int .u8 1, .string tf, .slice none 0 0]) ⟨1, tf, .nil⟩ false (by rw [file_right, HTF.out]; rfl) (by simp [Es.count]) w' h ⟨_, rfl, EsAt.nil _ _, by show tf.size ≤ maxLen; rw [HTF.out]; decide, (by decide : (1 : Nat) < 256)⟩)
                  have H2 := Lib.hid (fun (w' : World) (h : KeepW wc wc.heap.size w') => HR.out (.agg #[.int .u8 1, .string tg, .slice none 0 0]) ⟨1, tg, .nil⟩ true (by rw [file_right, HTS.out]; rfl) (by simp [Es.count]) w' h ⟨_, rfl, EsAt.nil _ _, by show tg.size ≤ maxLen; rw [HTS.out]; decide, (by decide : (1 : Nat) < 256)⟩)
                  have H3 := Lib.hid (fun (w' : World) (h : KeepW wc wc.heap.size w') => HR.out (.agg #[.int .u8 4, .string ⟨#[]⟩, .slice A 4096 c]) (wideN 4096) false (by rw [wide_right _ (Nat.le_refl _)]; rfl) (by show (wideF 0 4096).count ≤ _; rw [wideF_count]; decide) w' h ⟨_, rfl, HW0.out.2.2.2.2.below (HBL.out w' h), (by decide : (ByteArray.mk #[]).size ≤ maxLen), (by decide : (4 : Nat) < 256)⟩)
                  have H4 := Lib.hid (fun (w' : World) (h : KeepW wc wc.heap.size w') => HR.out (.agg #[.int .u8 4, .string ⟨#[]⟩, .slice A 4095 c]) (wideN 4095) true (by rw [wide_right _ (by decide)]; rfl) (by show (wideF 0 4095).count ≤ _; rw [wideF_count]; decide) w' h ⟨_, rfl, es_pre (HW0.out.2.2.2.2.below (HBL.out w' h)), (by decide : (ByteArray.mk #[]).size ≤ maxLen), (by decide : (4 : Nat) < 256)⟩)
                  have H5 := Lib.hid (fun (w' : World) (h : KeepW wc wc.heap.size w') => HR.out (.agg #[.int .u8 (n32.k : Int), .string n32.d, .slice A32 n32.es.len c32]) n32 true HD.out.1 (by have := HD.out.2.2.1; omega) w' h ((HE.out.2).below (HBC.out w' h)))
                  obtain ⟨n33, h33⟩ : ∃ n, n = chainN 33 endN := ⟨_, rfl⟩
                  have HC33 := Lib.hid (fun (W : World) => show Calls Tryd.prog 36 #[.int .i64 33, .agg #[.int .u8 1, .string ⟨#[]⟩, .slice none 0 0]] W fun x W' => Below W.heap.size W W' ∧ ∃ v', x = .returned v' ∧ NdV W' W'.heap.size v' n33 from by rw [h33]; exact chain_c 33 (by omega) _ endN W (end_at W))
                  have H6 := Lib.hid (fun (v : Value) (w' : World) (h : KeepW wc wc.heap.size w') (hv : NdV w' w'.heap.size v n33) => HR.out v n33 false (by rw [h33]; exact deep_wrong) (by rw [h33]; decide +kernel) w' h hv)
                  clear h33 HR
                  have hk0 := Lib.hid (KeepW.start (Nat.le_refl wc.heap.size))
                  obtain ⟨x0, x1, x2, _⟩ := HL1.out _ hk0.out
                  go_wp2_with fail
                  refine (H1.out _ hk0.out).mono ?_
                  rintro e V1 ⟨rfl, hk1⟩
                  have hk1 := Lib.hid hk1
                  clear x0 x1 x2
                  obtain ⟨x0, x1, x2, _⟩ := HL1.out _ hk1.out
                  have hts : tf.size = 65537 := HTF.out
                  go_wp2_with fail
                  rw [← HTG.out]
                  clear hts x0 x1 x2
                  refine (file_lit tg _).mono ?_
                  rintro e V2 ⟨rfl, hb2⟩
                  have hk2 := Lib.hid (hk1.out.step hb2)
                  clear hb2
                  go_wp2_with fail
                  refine (H2.out _ hk2.out).mono ?_
                  rintro e V3 ⟨rfl, hk3⟩
                  have hk3 := Lib.hid hk3
                  obtain ⟨x0, x1, x2, _⟩ := HL2.out _ hk3.out
                  go_wp2_with fail
                  refine (H3.out _ hk3.out).mono ?_
                  rintro e V4 ⟨rfl, hk4⟩
                  have hk4 := Lib.hid hk4
                  clear x0 x1 x2
                  obtain ⟨x0, x1, x2, _⟩ := HL3.out _ hk4.out
                  go_wp2_with fail
                  refine (H4.out _ hk4.out).mono ?_
                  rintro e V5 ⟨rfl, hk5⟩
                  have hk5 := Lib.hid hk5
                  clear x0 x1 x2
                  obtain ⟨x0, x1, x2, _⟩ := HL4.out _ hk5.out
                  go_wp2_with fail
                  refine (H5.out _ hk5.out).mono ?_
                  rintro e V6 ⟨rfl, hk6⟩
                  have hk6 := Lib.hid hk6
                  clear x0 x1 x2
                  go_wp2_with fail
                  refine (file_lit ⟨#[]⟩ _).mono ?_
                  rintro e V7 ⟨rfl, hb7⟩
                  have hk7 := Lib.hid (hk6.out.step hb7)
                  clear hb7
                  go_wp2_with fail
                  refine (HC33.out _).mono ?_
                  rintro e V8 ⟨hb8, v8, rfl, hv8⟩
                  have hk8 := Lib.hid (And.intro (hk7.out.step hb8) hv8)
                  clear hb8 hv8
                  go_wp2_with fail
                  refine (H6.out _ _ hk8.out.1 hk8.out.2).mono ?_
                  rintro e V9 ⟨rfl, hk9⟩
                  have hk9 := Lib.hid hk9
                  go_wp2_with fail
                  have hba := (Below.refl V9.heap.size V9).alloc (Nat.le_refl _) (.cells #[] 48)
                  have hk10 := Lib.hid (hk9.out.step hba)
                  clear hba
                  refine (filesSame_walk _ ⟨0, ⟨#[]⟩, .nil⟩ _ ⟨0, ⟨#[]⟩, .nil⟩ _ trivial ⟨_, rfl, nil_at _ _ (fun h => by cases h) (by decide), (by decide : (ByteArray.mk #[]).size ≤ maxLen), (by decide : (0 : Nat) < 256)⟩ ⟨_, rfl, EsAt.nil _ _, (by decide : (ByteArray.mk #[]).size ≤ maxLen), (by decide : (0 : Nat) < 256)⟩).mono ?_
                  rintro e V10 ⟨rfl, hb10⟩
                  have hk11 := Lib.hid (hk10.out.step hb10)
                  clear hb10
                  go_wp2_with fail
                  refine (works_any _).mono ?_
                  rintro e V11 ⟨rfl, hb11⟩
                  have hk12 := Lib.hid (hk11.out.step hb11)
                  clear hb11
                  go_wp2_with fail
                  go_ret
                  exact ⟨rfl, below_step HW0.out.2.2.2.1 (HBL.out _ hk12.out) HW0.out.2.2.2.1.size⟩
end Go.Proofs.YtmcafiihicanfaaDoor
