/- cnf: a walk begins. -/
import Derived.Test.YtapaoccpbcjgeaaCnmL
import Derived.Deep.DeepCutAuto
import Derived.Deep.RegionLaw
import Derived.Deep.AppendLies
import Derived.Deep.RegionHeld3
namespace Go.Proofs.Ytapaoccpbcjgeaa
open Go.RowKit Go.BigFrame
open Cnf (at_ Heaped litB leftL heldB countN)

theorem make_ints (n : Nat) (hn : n ≤ 4000000) (w : World) : (Instr.makeSlice 35 (.int .i64 n) (.int .i64 n)).run Try.prog w = .ok (.slice (some ⟨w.heap.size, 0, none⟩) n n) (w.alloc (.cells (madeCells #[.int .i64 0] n) 3)) :=
  run_make_row' (P := Try.prog) 35 3 (.int .i64 0) 8 Try.underlying35 (by kernel_rfl) rfl .i64 .i64 n (by omega) (by omega) w
theorem make_bools (n : Nat) (hn : n ≤ 4000000) (w : World) : (Instr.makeSlice 40 (.int .i64 n) (.int .i64 n)).run Try.prog w = .ok (.slice (some ⟨w.heap.size, 0, none⟩) n n) (w.alloc (.cells (madeCells #[.bool false] n) 4)) :=
  run_make_row' (P := Try.prog) 40 4 (.bool false) 1 Try.underlying40 (by kernel_rfl) rfl .i64 .i64 n (by omega) (by omega) w
theorem make_rows (n : Nat) (hn : n ≤ 4000000) (w : World) : (Instr.makeSlice 22 (.int .i64 n) (.int .i64 n)).run Try.prog w = .ok (.slice (some ⟨w.heap.size, 0, none⟩) n n) (w.alloc (.cells (madeCells #[.slice none 0 0] n) 35)) :=
  run_make_row' (P := Try.prog) 22 35 (.slice none 0 0) 24 Try.underlying22 (by kernel_rfl) rfl .i64 .i64 n (by omega) (by omega) w
theorem own_base {w : World} {base base' size n : Nat} {e : TypeId} {v : Value} {xs : List Value} (h : w.ownsRow base e size v n xs) (hb : base' ≤ base) : w.ownsRow base' e size v n xs := by
  obtain ⟨hl, hz | ⟨g, cap, cur, h1, hg, h2⟩⟩ := h
  · exact ⟨hl, .inl hz⟩
  · exact ⟨hl, .inr ⟨g, cap, cur, h1, Nat.le_trans hb hg, h2⟩⟩
theorem among_len (cs : List (List Int)) (x : Int) : (amongL cs x).length ≤ cs.length := by
  unfold amongL
  rw [List.length_map]
  have := List.length_filter_le (fun i => decide (x ∈ cs.getD i [])) (List.range cs.length)
  simpa using this
theorem infoRow : (Try.prog.info? 35).map (fun i => (i.zero, i.size, i.bytes)) = some (some (.slice none 0 0), 1, 24) := by kernel_rfl
def BeginPost (cs : List (List Int)) (v : Int) (w : World) (e : Ending) (w' : World) : Prop :=
  ∃ p rdy b, e = .returned (.pointer (some ⟨p.g, 0, none⟩)) ∧ Coh p cs v ∧ WalkAt p cs v w' [] rdy b 6000000 ∧ p.base = w.heap.size ∧ Below w.heap.size w w'
/-- The walk at hand: k clauses have begun. -/
structure AtK (base g gl n V : Nat) (cs : List (List Int)) (v : Int) (k : Nat) (p : WPar) (w : World) (lf : List Int) (b : Bool) (yv : Value) (rdy : List Int) (us rows : List Value) (ga : Nat) : Prop where
  st : BSt p w lf b yv rdy us rows ga
  k : BegK p cs v k lf b rdy
  g : p.g = g
  gl : p.gl = gl
  n : p.n = n
  V : p.V = V
  base : p.base = base
set_option maxRecDepth 100000 in
set_option maxHeartbeats 16000000 in
theorem begin_any (v : Int) (a : Value) (cs : List (List Int)) (w : World) (ha : RowsAt w a cs) (hv0 : 0 ≤ v) (hv1 : v ≤ 100000) (hn : cs.length ≤ 1000000) (hc : countN cs ≤ 1000000) (hl : ∀ c ∈ cs, ∀ x ∈ c, litB v x = true) :
    Calls Try.prog 34 #[.agg #[.int .i64 v, a]] w (BeginPost cs v w) := by
  obtain ⟨i0, hi, hz0, hz1, hz2⟩ := info_parts infoInt
  obtain ⟨i1, hj, hj0, hj1, hj2⟩ := info_parts infoRow
  obtain ⟨A, ca, rfl, hla, hma⟩ := ha.form
  unfold maxLen at hma
  obtain ⟨V, hV⟩ : ∃ V : Nat, (V : Int) = 2 * v + 2 := ⟨(2 * v + 2).toNat, by omega⟩
  have hV1 : 2 * v + 2 = (V : Int) := hV.symm
  have hVb : V ≤ 200002 := by omega
  have HV := Lib.hid (show V = (2 * v + 2).toNat by omega)
  have h1 := make_ints cs.length (by omega)
  have h2 := make_bools cs.length (by omega)
  have h3 := make_rows V (by omega)
  have h4 := make_bools V (by omega)
  have HPO := Lib.hid (fun (p : WPar) (wr : World) (rdy : List Int) (b : Bool) (lf : List Int) (yv : Value) (us rows : List Value) (ga : Nat) (hk : BegK p cs v cs.length lf b rdy) (hs : BSt p wr lf b yv rdy us rows ga) (hb : p.base = w.heap.size) (hbl : Below w.heap.size w wr) => show BeginPost cs v w (.returned (.pointer (some ⟨p.g, 0, none⟩))) wr from ⟨p, rdy, b, rfl, hk.coh hs hv0 hv1 hn hc hl, hk.walk hs hn hc, hb, hbl⟩)
  have HN := Lib.hid (fun i (hi : i < cs.length) => show (cs.getD i []).length ≤ 1000000 by
    have := len_count cs (cs.getD i []) (by simp [List.getD, hi]); omega)
  have HLI := Lib.hid (fun i (hi : i < cs.length) => hl (cs.getD i []) (by simp [List.getD, hi]))
  generalize BeginPost cs v w = post at *
  have HRA := Lib.hid ha
  obtain ⟨n, hnn⟩ : ∃ n, n = cs.length := ⟨_, rfl⟩
  have HNN := Lib.hid hnn
  rw [← hnn] at h1 h2 HRA hla hn
  rw [← hnn]
  clear hV ha hnn hc hl
  go_enter Try.func34, Try.ntmps34
  go_upto_region 1 with (fail)
  obtain ⟨W0, hW0, hg0, hb0, hz0', hbb⟩ := row_at w w (.cells #[.int .i64 v, .slice A n ca] 24) (Below.refl _ _)
  rw [← hW0]
  obtain ⟨hc0, hc1, hf0, hf1⟩ := cell_two hg0
  have HZ := Lib.hid hz0'
  have HG0 := Lib.hid hg0
  have HB0 := Lib.hid hbb
  clear hW0 hz0' hg0 hbb hb0
  go_cut [3] (fun s wx => Begun W0 wx n V s)
  case first =>
    have hga0 : w.heap.size < W0.heap.size := by have := HZ.out; omega
    have hga1 : w.heap.size < W0.heap.size + 1 := by omega
    have hga2 : w.heap.size < W0.heap.size + 1 + 1 := by omega
    have hga3 : w.heap.size < W0.heap.size + 1 + 1 + 1 := by omega
    have hga4 : w.heap.size < W0.heap.size + 1 + 1 + 1 + 1 := by omega
    go_region
    all_goals
      go_wp2_with fail
      go_meet
      refine ⟨_, _, _, _, _, rfl, (five W0 _ _ _ _ _).1.2.2.2.2, ?_, ?_, ?_, ?_, ?_, ?_⟩
      · first | exact (five W0 _ _ _ _ _).1.1 | exact (five W0 _ _ _ _ _).1.2.1 | exact (five W0 _ _ _ _ _).1.2.2.1 | exact (five W0 _ _ _ _ _).1.2.2.2.1
      · first | exact (five W0 _ _ _ _ _).1.1 | exact (five W0 _ _ _ _ _).1.2.1 | exact (five W0 _ _ _ _ _).1.2.2.1 | exact (five W0 _ _ _ _ _).1.2.2.2.1
      · first | exact (five W0 _ _ _ _ _).1.1 | exact (five W0 _ _ _ _ _).1.2.1 | exact (five W0 _ _ _ _ _).1.2.2.1 | exact (five W0 _ _ _ _ _).1.2.2.2.1
      · first | exact (five W0 _ _ _ _ _).1.1 | exact (five W0 _ _ _ _ _).1.2.1 | exact (five W0 _ _ _ _ _).1.2.2.1 | exact (five W0 _ _ _ _ _).1.2.2.2.1
      · omega
      · first | exact (five W0 _ _ _ _ _).2.drew | exact (five W0 _ _ _ _ _).2
  case rest =>
    have hsz0 : w.heap.size ≤ W0.heap.size := by have := HZ.out; omega
    have hgz : w.heap.size < W0.heap.size := by have := HZ.out; omega
    obtain ⟨g, gl, gh, ga, gs, rfl, hst, hbl, hgab⟩ := begun_st (base := w.heap.size) hcut hsz0 (by unfold maxLen; omega)
    have HGAB := Lib.hid (show w.heap.size ≤ ga by omega)
    have HBW := Lib.hid (below_step HB0.out hbl HB0.out.size)
    obtain ⟨hd0, hd1, he0, he1⟩ := cell_two ((hbl.block w.heap.size hgz).trans HG0.out)
    have HST0 : Hid (AtK w.heap.size g gl n V cs v 0 (begP w.heap.size g gl gh ga gs n V) wc (List.replicate n 0) false nilS [] [] (List.replicate V nilS) ga) := Lib.hid ⟨hst, ⟨HNN.out, HV.out, rfl, fun x _ => by
        show (List.replicate V ([] : List Int)).getD (idx x) [] = amongL (cs.take 0) x
        rw [List.take_zero]
        by_cases c : idx x < V <;> simp [List.getD, c, amongL], fun j hj => by by_cases c : j < n <;> simp [List.getD, c], rfl, fun q => by simp, by simp⟩, rfl, rfl, rfl, rfl, rfl⟩
    clear hgab hcut hst hbl h1 h2 h3 h4 hc0 hc1 hf0 hf1
    go_wp2
    go_loopw [32] (fun kv wr => ∃ (k : Nat) (p : WPar) (lf : List Int) (b : Bool) (yv : Value) (rdy : List Int) (us rows : List Value), k ≤ n ∧ kv = .int .i64 k ∧ Hid (AtK w.heap.size g gl n V cs v k p wr lf b yv rdy us rows ga) ∧ Hid (Below w.heap.size w wr)) (fun kv _ => n - (intOf kv).toNat)
    case atStart => exact ⟨0, _, _, _, _, _, _, _, by omega, rfl, HST0, HBW⟩
    case round =>
      clear HST0 HBW hd0 hd1 he0 he1
      obtain ⟨k, p, lf, b, yv, rdy, us, rows, hk, rfl, HAK, HB⟩ := hrel
      have hszr := HB.out.size
      by_cases hlt : k < n
      · have HRW2 := Lib.hid (HRA.out.below HB.out)
        obtain ⟨ad, u0, hA, hcu, hu0⟩ := OutS.get HRW2.out k (by have := HNN.out; omega)
        subst hA
        rw [show cs.getD k default = cs.getD k [] from rfl] at hu0
        have hcl := HN.out k (by have := HNN.out; omega)
        have HLK := Lib.hid (HLI.out k (by have := HNN.out; omega))
        have HKC : Hid (k < cs.length) := Lib.hid (by have := HNN.out; omega)
        obtain ⟨c, hcc⟩ : ∃ c, Hid (c = cs.getD k []) := ⟨_, Lib.hid rfl⟩
        rw [← hcc.out] at hu0 hcl HLK
        obtain ⟨A5, cap5, rfl, hl5, hm5⟩ := RdS.form hu0
        have HR5 := Lib.hid (show Reads wr wr.heap.size (.slice A5 c.length cap5) (ints c) from RdS.reads (S := AllB) (by rw [ints_len]; exact hu0))
        have hk' : (k : Int) < (n : Int) := by omega
        unfold maxLen at hm5
        clear hu0
        go_wp2_with (at_builtin; refine wpList_app_reads rfl _ _ 35 rfl wr.heap.size 3 i0 (.int .i64 0) 8 Try.underlying35 hi hz0 hz1 hz2 rfl _ 0 [] rfl (World.ownsRow_nil _ _ _ _) (.slice A5 c.length cap5) (ints c) wr.heap.size rfl HR5.out (ints_one c) ?c1 ?c2 ?c3 ?_)
        case c1 => rw [ints_len]; unfold maxLen; omega
        case c2 => rw [ints_len]; omega
        case c3 => omega
        intro v1 w1 hown1 hgrow1
        simp only [ints_len] at hown1
        have hch1 : Ch wr w1 (fun _ => False) := (Ch.refl wr _).grown hgrow1 fun k _ e => by cases e
        have hfr : ∀ q, wr.heap.size ≤ q → p.tag q = 0 ∧ yv.ownBlock ≠ some q := fun q hq => ⟨HAK.out.st.st.fresh q hq, fun e => by have := (HAK.out.st.st.rown.lt q e).2; omega⟩
        have HFR := Lib.hid hfr
        have HV1 := Lib.hid (show ∀ q, v1.ownBlock = some q → p.tag q = 0 ∧ yv.ownBlock ≠ some q from fun q e => hfr q (hown1.lt q e).1)
        have HST1 := Lib.hid (HAK.out.st.ch hch1 fun _ _ h => absurd h id)
        have HB1 := Lib.hid (HB.out.trans (hch1.below (B := w.heap.size) hszr fun _ h => absurd h id))
        have HSO := Lib.hid (sortU c v1 wr.heap.size w1 hown1 (by omega))
        clear hgrow1 hch1 hown1 hcu hfr
        go_wp2_with fail
        refine HSO.out.mono ?_
        rintro e w2 ⟨rfl, hown2, hc2⟩
        have HST2 := Lib.hid (HST1.out.ch hc2 fun q _ h => HV1.out q h)
        have HB2 := Lib.hid (HB1.out.trans (hc2.below (B := w.heap.size) HB1.out.size fun q h => by
          have h1 := (hown2.lt q h).1; omega))
        have HCO := Lib.hid (compactU (c.mergeSort fun x y => decide (x ≤ y)) c.length (List.length_mergeSort c) v1 wr.heap.size w2 hown2 (by omega))
        clear hown2 hc2 HSO
        go_wp2_with fail
        refine HCO.out.mono ?_
        rintro e w3 ⟨A6, cap6, rfl, hbe, hown3, hc3⟩
        have hDl : (onceI c).length ≤ 1000000 := Nat.le_trans (once_len c) hcl
        rw [show Go.Lib.compact (c.mergeSort fun x y => decide (x ≤ y)) = onceI c from rfl] at hown3 hbe
        rw [show Go.Lib.compact (c.mergeSort fun x y => decide (x ≤ y)) = onceI c from rfl]
        have HD := Lib.hid (show ∀ x ∈ onceI c, litB v x = true from fun x hx => HLK.out x ((once_mem c x).1 hx))
        have HDN := Lib.hid (once_nodup c)
        obtain ⟨D, hD⟩ : ∃ D, Hid (D = onceI c) := ⟨_, Lib.hid rfl⟩
        rw [← hD.out] at hown3 hbe hDl HD HDN
        rw [← hD.out]
        have HST3 := Lib.hid (HST2.out.ch hc3 fun q _ h => HV1.out q h)
        have HU3 : Hid (∀ q, (Value.slice A6 D.length cap6).ownBlock = some q → p.tag q = 0 ∧ yv.ownBlock ≠ some q) := Lib.hid fun q h => HV1.out q (by rw [← hbe]; exact h)
        have HB3 := Lib.hid (HB2.out.trans (hc3.below (B := w.heap.size) HB2.out.size fun q h => by
          have h1 := (hown3.lt q (by rw [hbe]; exact h)).1; omega))
        have HO3 := Lib.hid (own_base hown3 (show w.heap.size ≤ wr.heap.size by omega))
        clear hown3 hc3 hbe HCO
        obtain ⟨A7, cap7, hvc⟩ := own_form HST3.out.cown
        have HVC := Lib.hid hvc
        have hcell0 := HST3.out.st.cells.c0
        rw [hvc, HAK.out.g] at hcell0
        have hfree0 := HST3.out.st.cells.f 0
        rw [HAK.out.g] at hfree0
        have hds : us.length = k := by
          rw [HST3.out.ci.1, HAK.out.k.ds, List.length_map, List.length_take]; have := HKC.out; omega
        have HUL := Lib.hid hds
        have hus : us.length ≤ 1000000 := by omega
        have HCW := Lib.hid (show w3.ownsRow w.heap.size 35 1 (.slice A7 us.length cap7) us.length us by
          have := HST3.out.cown; rw [hvc, HAK.out.base] at this; exact this)
        have hsz3 := HB3.out.size
        clear hvc hds
        go_wp2_with (at_builtin; refine wpList_app rfl _ _ 22 rfl w.heap.size 35 i1 (.slice none 0 0) 24 Try.underlying22 hj hj0 hj1 hj2 rfl (.slice A7 us.length cap7) us.length us rfl (HCW.out.alloc _) ⟨w3.heap.size, 0, none⟩ 1 1 [.slice A6 D.length cap6] rfl rfl ?d1 ?d2 ?d3 ?d4 ?d5 ?_)
        case d1 => exact cell_one_at _ _ _ _ (by first | rfl | simp)
        case d2 => intro u hu; simp at hu; subst hu; rfl
        case d3 => unfold maxLen; omega
        case d4 => omega
        case d5 => simp; omega
        intro vv w4 hown4 hgrow4 hmv4
        obtain ⟨A8, cap8, rfl⟩ := own_form hown4
        have hch4 : Ch w3 w4 (fun q => (Value.slice A7 us.length cap7).ownBlock = some q) := ((Ch.refl w3 _).alloc _).grown hgrow4 fun _ _ e => e
        have hmv4' : Moved w3 (.slice A7 us.length cap7) (.slice A8 (us.length + 1) cap8) := (Moved.refl w3 _).trans hmv4 (by simp)
        have hng : ¬ (Value.slice A7 us.length cap7).ownBlock = some g := fun e => by
          have h1 := HST3.out.ctag g (by rw [HVC.out]; exact e)
          have h2 := HST3.out.st.tg.1
          rw [HAK.out.g] at h2; omega
        have hcell4 := hch4.cell hcell0 (p := ⟨g, 0, none⟩) hng
        have hfree4 : w4.frozen? ⟨g, 0, none⟩ = false := (World.frozen?_of_block (hch4.block g (World.block_lt_of_cell? w3 _ hcell0) hng)).trans hfree0
        have HST4 := Lib.hid (HST3.out.clause (u := .slice A6 D.length cap6) (D := D) (vc' := .slice A8 (us.length + 1) cap8) (by rw [HAK.out.base]; exact HO3.out) HU3.out (by rw [HAK.out.base, List.length_append]; exact hown4) (by rw [HVC.out]; exact hch4) (by rw [HVC.out]; exact hmv4'))
        have HB4 := Lib.hid (HB3.out.trans (show Below w.heap.size w3 (w4.setCell ⟨g, 0, none⟩ (.slice A8 (us.length + 1) cap8)) from ((Below.refl _ _).trans (hch4.below (B := w.heap.size) hsz3 fun q h => (HCW.out.lt q h).1)).setCell (p := ⟨g, 0, none⟩) (by show w.heap.size ≤ g; have := HAK.out.st.st.lo.1; rw [HAK.out.g, HAK.out.base] at this; exact this) _))
        have HUS : Hid ((us ++ [Value.slice A6 D.length cap6])[k]? = some (.slice A6 D.length cap6)) := Lib.hid (by rw [List.getElem?_append_right (by have := HUL.out; omega), HUL.out]; simp)
        have hdl : p.ds.length = k := by rw [← HST3.out.ci.1]; exact HUL.out
        have HDS : Hid ((p.ds ++ [D])[k]? = some D) := Lib.hid (by rw [List.getElem?_append_right (by omega), hdl]; simp)
        have HP4 : Hid ((clauseP p (.slice A8 (us.length + 1) cap8) (.slice A6 D.length cap6) D).g = g ∧ (clauseP p (.slice A8 (us.length + 1) cap8) (.slice A6 D.length cap6) D).gl = gl ∧ (clauseP p (.slice A8 (us.length + 1) cap8) (.slice A6 D.length cap6) D).n = n ∧ (clauseP p (.slice A8 (us.length + 1) cap8) (.slice A6 D.length cap6) D).V = V ∧ (clauseP p (.slice A8 (us.length + 1) cap8) (.slice A6 D.length cap6) D).base = w.heap.size ∧ (clauseP p (.slice A8 (us.length + 1) cap8) (.slice A6 D.length cap6) D).ds = p.ds ++ [D] ∧ (clauseP p (.slice A8 (us.length + 1) cap8) (.slice A6 D.length cap6) D).ams = p.ams) := Lib.hid ⟨HAK.out.g, HAK.out.gl, HAK.out.n, HAK.out.V, HAK.out.base, rfl, rfl⟩
        rw [HAK.out.g] at HST4
        clear hgrow4 hmv4 hmv4' hown4 hch4 hng HCW HVC hdl HST3 HB3 HO3 HU3 HST2 HB2 HST1 HB1 HV1 HFR hcell0 hfree0 hsz3
        go_upto_region 9 with (fail)
        generalize clauseP p (.slice A8 (us.length + 1) cap8) (.slice A6 D.length cap6) D = p4 at *
        generalize w4.setCell ⟨g, 0, none⟩ (.slice A8 (us.length + 1) cap8) = w5 at *
        clear hcell4 hfree4
        have hcell1 := HST4.out.st.cells.c1
        rw [HP4.out.1, HP4.out.2.1, HP4.out.2.2.1] at hcell1
        obtain ⟨hcl5, hfl5⟩ := HST4.out.st.leftAt k (by rw [HP4.out.2.2.1]; exact hlt)
        rw [HP4.out.2.1] at hcl5 hfl5
        have HST5 := Lib.hid (HST4.out.left k (D.length : Int))
        rw [HP4.out.2.1] at HST5
        have HB5 := Lib.hid (HB4.out.setCell (p := ⟨gl, k, none⟩) (by show w.heap.size ≤ gl; have := HST4.out.st.lo.2.1; rw [HP4.out.2.1, HP4.out.2.2.2.2.1] at this; exact this) (.int .i64 (D.length : Int)))
        clear HST4 HB4
        go_upto_region 10 with (fail)
        generalize w5.setCell ⟨gl, k, none⟩ (.int .i64 (D.length : Int)) = w6 at *
        clear hcell1 hcl5 hfl5
        go_wp2
        go_loopw [63] (fun jv wr => ∃ (j : Nat) (p5 : WPar) (rows5 : List Value), j ≤ D.length ∧ jv = .int .i64 j ∧ Hid (BSt p5 wr (lf.set k (D.length : Int)) b yv rdy (us ++ [.slice A6 D.length cap6]) rows5 ga) ∧ Hid (p5.g = g ∧ p5.gl = gl ∧ p5.n = n ∧ p5.V = V ∧ p5.base = w.heap.size ∧ p5.ds = p.ds ++ [D]) ∧ Hid (Below w.heap.size w wr) ∧ Hid (∀ x, litB v x = true → p5.ams.getD (idx x) [] = amongL (cs.take k) x ++ (if x ∈ D.take j then [(k : Int)] else []))) (fun jv _ => D.length - (intOf jv).toNat)
        case atStart => exact ⟨0, p4, rows, by omega, rfl, HST5, Lib.hid ⟨HP4.out.1, HP4.out.2.1, HP4.out.2.2.1, HP4.out.2.2.2.1, HP4.out.2.2.2.2.1, HP4.out.2.2.2.2.2.1⟩, HB5, Lib.hid fun x hx => by rw [HP4.out.2.2.2.2.2.2, HAK.out.k.ams x hx]; simp⟩
        case round =>
          clear HST5 HB5 HP4
          obtain ⟨j, p5, rows5, hj', rfl, HST, HP5, HB5, HAM⟩ := hrel
          by_cases hlj : j < D.length
          · have hrow : IRow wr (fun q => p5.tag q = 5) (.slice A6 D.length cap6) D := HST.out.ci.2 k _ _ HUS.out (by rw [HP5.out.2.2.2.2.2]; exact HDS.out)
            obtain ⟨ad6, rfl, hcy⟩ := IRow.get hrow j hlj
            have hym : D.getD j 0 ∈ D := by simp [List.getD, hlj]
            have HLY := Lib.hid (HD.out _ hym)
            obtain ⟨y, hy⟩ : ∃ y, y = D.getD j 0 := ⟨_, rfl⟩
            have HY := Lib.hid hy
            rw [← hy] at hcy HLY
            have hys := lit_small hv1 HLY.out
            have hqV : idx y < V := by rw [HV.out]; exact idx_lt HLY.out
            have HIX := Lib.hid (fun w' => index_any y w' (by omega) (by omega))
            obtain ⟨q, hq⟩ : ∃ q, q = idx y := ⟨_, rfl⟩
            have HQ := Lib.hid hq
            rw [← hq] at hqV HIX
            have hqi : (q : Int) < (V : Int) := by omega
            have hji : (j : Int) < (D.length : Int) := by omega
            clear hrow hym hy hq
            have hqp : q < p5.V := by rw [HP5.out.2.2.2.1]; exact hqV
            obtain ⟨A9, cap9, hr9⟩ := own_form (HST.out.rown q hqp)
            have HR9 := Lib.hid hr9
            have hown9 := HST.out.rown q hqp
            rw [hr9, HP5.out.2.2.2.2.1] at hown9
            have hc3 := HST.out.st.cells.c3
            rw [HST.out.va, HP5.out.1, HP5.out.2.2.2.1] at hc3
            have hcq := blk_cell HST.out.ablk q
            rw [List.getElem?_toArray, show rows5[q]? = some (rows5.getD q nilS) by simp [List.getD, show q < rows5.length by rw [HST.out.rl]; exact hqp], hr9] at hcq
            have hfq := blk_free HST.out.ablk q
            obtain ⟨L, hL⟩ : ∃ L, L = p5.ams.getD q [] := ⟨_, rfl⟩
            have HLL := Lib.hid hL
            rw [← hL] at hown9 hcq
            have hLn : L.length ≤ 2000000 := by
              rw [HLL.out, HQ.out, HAM.out y HLY.out, List.length_append]
              have h1 := among_len (cs.take k) y
              have h2 : (cs.take k).length ≤ k := List.length_take_le _ _
              have h3 : (if y ∈ D.take j then [(k : Int)] else []).length ≤ 1 := by split <;> simp
              omega
            have HQP := Lib.hid hqp
            have hgl : g < wr.heap.size := World.block_lt_of_cell? wr _ hc3
            have hal : ga < wr.heap.size := World.block_lt_of_cell? wr _ hcq
            have hng3 : ¬ (Value.slice A9 L.length cap9).ownBlock = some g := fun e => by
              have h1 := HST.out.rtag q HQP.out g (by rw [HR9.out, ← HLL.out]; exact e)
              have h2 := HST.out.st.tg.1
              rw [HP5.out.1] at h2; omega
            have hng4 : ¬ (Value.slice A9 L.length cap9).ownBlock = some ga := fun e => by
              have h1 := HST.out.rtag q HQP.out ga (by rw [HR9.out, ← HLL.out]; exact e)
              have h2 := HST.out.atag; omega
            have HNG3 := Lib.hid hng3
            have HNG4 := Lib.hid hng4
            have hz3 : ((wr.alloc (.cells #[.int .i64 (k : Int)] 3)).drew).cell? ⟨g, 3, none⟩ = some (.slice (some ⟨ga, 0, none⟩) V V) := (World.cell?_of_block (w := wr) (Below.heap_alloc _ _ _ hgl)).trans hc3
            have hzq : ((wr.alloc (.cells #[.int .i64 (k : Int)] 3)).drew).cell? ⟨ga, q, none⟩ = some (.slice A9 L.length cap9) := (World.cell?_of_block (w := wr) (Below.heap_alloc _ _ _ hal)).trans hcq
            have hzf : ((wr.alloc (.cells #[.int .i64 (k : Int)] 3)).drew).frozen? ⟨ga, q, none⟩ = false := (World.frozen?_of_block (w := wr) (Below.heap_alloc _ _ _ hal)).trans hfq
            have HZ3 := Lib.hid hz3
            have HZQ := Lib.hid hzq
            have HZF := Lib.hid hzf
            have HOZ := Lib.hid ((hown9.alloc (.cells #[.int .i64 (k : Int)] 3)).drew)
            have hnz : ((wr.alloc (.cells #[.int .i64 (k : Int)] 3)).drew).heap[wr.heap.size]? = some (.cells #[.int .i64 (k : Int)] 3) := heap_alloc_new wr _
            have HNZ := Lib.hid (World.news_of_block hnz)
            have hbr := HB5.out.size
            clear hr9 hL hqp hng3 hng4 hnz hown9
            go_upto_region 13 with (fail)
            have HGA := Lib.hid (show g ≠ ga from fun e => by
              have h1 := HST.out.st.tg.1; have h2 := HST.out.atag
              rw [HP5.out.1, e] at h1; omega)
            have HGB := Lib.hid (show w.heap.size ≤ ga by
              exact HGAB.out)
            refine wp_region_held (S := fun w' => w'.cell? ⟨g, 3, none⟩ = some (.slice (some ⟨ga, 0, none⟩) V V)) (by kernel_rfl) ?_
            have hS : (wr.drew).cell? ⟨g, 3, none⟩ = some (.slice (some ⟨ga, 0, none⟩) V V) := hc3
            change wpAnyH _ _ _ _ _ _ _ _ wr.drew
            refine wpAnyH_take (i := 0) rfl (by kernel_rfl) (by kernel_rfl) (by kernel_rfl) (fun _ _ _ h => h) (v := .pointer (some ⟨g, 0, none⟩)) ?_ hS ?_
            · exact Or.inl ⟨by rfl, fun wx hSx => by (try dsimp only at hSx); go_simp⟩
            simp only [Act.put, List.setIfInBounds_toArray]
            refine wpAnyH_take (i := 1) rfl (by kernel_rfl) (by kernel_rfl) (by kernel_rfl) (fun _ _ _ h => h) (v := .pointer (some ⟨g, 0, none⟩)) ?_ hS ?_
            · exact Or.inl ⟨by rfl, fun wx hSx => by (try dsimp only at hSx); go_simp⟩
            simp only [Act.put]
            refine wpAnyH_take (i := 2) rfl (by kernel_rfl) (by kernel_rfl) (by kernel_rfl) (fun _ _ _ h => h) (v := .pointer (some ⟨g, 3, none⟩)) ?_ hS ?_
            · exact Or.inl ⟨by rfl, fun wx hSx => by (try dsimp only at hSx); go_simp⟩
            simp only [Act.put]
            refine wpAnyH_take (i := 3) rfl (by kernel_rfl) (by kernel_rfl) (by kernel_rfl) (fun _ _ _ h => h) (v := .slice (some ⟨ga, 0, none⟩) V V) ?_ hS ?_
            · exact Or.inl ⟨by rfl, fun wx hSx => by (try dsimp only at hSx); go_simp⟩
            simp only [Act.put]
            refine wpAnyH_take (i := 4) rfl (by kernel_rfl) (by kernel_rfl) (by kernel_rfl) (fun _ _ _ h => h) (v := .int .i64 y) ?_ hS ?_
            · exact Or.inl ⟨by rfl, fun wx hSx => by (try dsimp only at hSx); go_simp⟩
            simp only [Act.put]
            refine wpAnyH_take (i := 6) rfl (by kernel_rfl) (by kernel_rfl) (by kernel_rfl) (fun _ _ _ h => h) (v := .pointer (some ⟨g, 0, none⟩)) ?_ hS ?_
            · exact Or.inl ⟨by rfl, fun wx hSx => by (try dsimp only at hSx); go_simp⟩
            simp only [Act.put]
            refine wpAnyH_take (i := 7) rfl (by kernel_rfl) (by kernel_rfl) (by kernel_rfl) (fun _ _ _ h => h) (v := .pointer (some ⟨g, 0, none⟩)) ?_ hS ?_
            · exact Or.inl ⟨by rfl, fun wx hSx => by (try dsimp only at hSx); go_simp⟩
            simp only [Act.put]
            refine wpAnyH_take (i := 8) rfl (by kernel_rfl) (by kernel_rfl) (by kernel_rfl) (fun _ _ _ h => h) (v := .pointer (some ⟨g, 3, none⟩)) ?_ hS ?_
            · exact Or.inl ⟨by rfl, fun wx hSx => by (try dsimp only at hSx); go_simp⟩
            simp only [Act.put]
            refine wpAnyH_take (i := 9) rfl (by kernel_rfl) (by kernel_rfl) (by kernel_rfl) (fun _ _ _ h => h) (v := .slice (some ⟨ga, 0, none⟩) V V) ?_ hS ?_
            · exact Or.inl ⟨by rfl, fun wx hSx => by (try dsimp only at hSx); go_simp⟩
            simp only [Act.put]
            refine wpAnyH_take (i := 10) rfl (by kernel_rfl) (by kernel_rfl) (by kernel_rfl) (fun _ _ _ h => h) (v := .int .i64 y) ?_ hS ?_
            · exact Or.inl ⟨by rfl, fun wx hSx => by (try dsimp only at hSx); go_simp⟩
            simp only [Act.put]
            refine wpAnyH_take (i := 14) rfl (by kernel_rfl) (by kernel_rfl) (by kernel_rfl) (fun _ _ _ h => h) (v := .int .i64 (k : Int)) ?_ hS ?_
            · exact Or.inl ⟨by rfl, fun wx hSx => by (try dsimp only at hSx); go_simp⟩
            simp only [Act.put]
            refine wpAnyH_ready (rs := [5, 15]) (by kernel_rfl) (by simp) ?_
            refine AllReadyH.cons rfl (fun K hK => ?_) (AllReadyH.cons rfl (fun K hK => ?_) AllReadyH.nil)
            · go_simp
              refine (HIX.out _).mono ?_
              rintro e w' ⟨rfl, hw⟩
              obtain rfl := hw.symm
              refine hK.out _ _ hS (fun _ => ?_)
              clear hK K
              try simp only [Act.put, List.setIfInBounds_toArray, List.set_cons_zero, List.set_cons_succ]
              refine wpAnyH_ready (rs := [11, 15]) (by kernel_rfl) (by simp) ?_
              refine AllReadyH.cons rfl (fun K hK => ?_) (AllReadyH.cons rfl (fun K hK => ?_) AllReadyH.nil)
              · go_simp
                refine (HIX.out _).mono ?_
                rintro e w' ⟨rfl, hw⟩
                obtain rfl := hw.symm
                refine hK.out _ _ hS (fun _ => ?_)
                clear hK K
                try simp only [Act.put, List.setIfInBounds_toArray, List.set_cons_zero, List.set_cons_succ]
                refine wpAnyH_take (i := 12) rfl (by kernel_rfl) (by kernel_rfl) (by kernel_rfl) (fun _ _ _ h => h) (v := .pointer (some ⟨ga, q, none⟩)) ?_ hS ?_
                · exact Or.inl ⟨by rfl, fun wx hSx => by (try dsimp only at hSx); go_simp⟩
                simp only [Act.put, List.setIfInBounds_toArray]
                refine wpAnyH_ready (rs := [13, 15]) (by kernel_rfl) (by simp) ?_
                refine AllReadyH.cons rfl (fun K hK => ?_) (AllReadyH.cons rfl (fun K hK => ?_) AllReadyH.nil)
                · go_simp
                  refine hK.out _ _ hS (fun _ => ?_)
                  clear hK K
                  try simp only [Act.put, List.setIfInBounds_toArray, List.set_cons_zero, List.set_cons_succ]
                  refine wpAnyH_ready (rs := [15]) (by kernel_rfl) (by simp) ?_
                  refine AllReadyH.cons rfl (fun K hK => ?_) AllReadyH.nil
                  go_simp
                  refine hK.out _ _ HZ3.out (fun _ => ?_)
                  have hS := HZ3.out
                  clear hK K
                  try simp only [Act.put, List.setIfInBounds_toArray, List.set_cons_zero, List.set_cons_succ]
                  refine wpAnyH_ready (rs := [16]) (by kernel_rfl) (by simp) ?_
                  refine AllReadyH.cons rfl (fun K hK => ?_) AllReadyH.nil
                  refine step_append_lies _ (by rfl) _ _ _ (by rfl) w.heap.size 3 i0 _ 1 8 Try.underlying35 hi hz0 hz1 hz2 rfl (by omega) (.slice A9 L.length cap9) L.length _ (by rfl) HOZ.out ⟨wr.heap.size, 0, none⟩ 1 1 [.int .i64 (k : Int)] (by rfl) (by rfl) HNZ.out (by intro u hu; simp at hu; subst hu; rfl) (by omega) (by unfold maxLen; omega) (by omega) (by simp; omega) (wr.heap.size + 1) (by simp) ?_
                  intro gg cap w1 hown1 hgrow hat hlt1
                  have hc13 := (hgrow.cell_far ⟨g, 3, none⟩ (by simp; omega) (fun e => HNG3.out e.symm)).trans HZ3.out
                  have hc1q := (hgrow.cell_far ⟨ga, q, none⟩ (by simp; omega) (fun e => HNG4.out e.symm)).trans HZQ.out
                  have hf1q := (hgrow.frozen_far ⟨ga, q, none⟩ (by simp; omega) (fun e => HNG4.out e.symm)).trans HZF.out
                  refine hK.out _ _ hc13 (fun _ => ?_)
                  have hS := hc13
                  clear hK K
                  try simp only [Act.put, List.setIfInBounds_toArray]
                  refine wpAnyH_take (i := 17) rfl (by kernel_rfl) (by kernel_rfl) (by kernel_rfl) (fun _ _ _ h => h) (v := .pointer (some ⟨ga, q, none⟩)) ?_ hS ?_
                  · exact Or.inl ⟨by rfl, fun wx hSx => by (try dsimp only at hSx); go_simp⟩
                  simp only [Act.put]
                  refine wpAnyH_ready (rs := [18]) (by kernel_rfl) (by simp) ?_
                  refine AllReadyH.cons rfl (fun K hK => ?_) AllReadyH.nil
                  go_simp
                  refine hK.out _ _ ((World.cell?_of_block (a := ⟨g, 3, none⟩) (Below.heap_setCell _ _ _ _ HGA.out)).trans hc13) (fun _ => ?_)
                  clear hK K
                  try simp only [Act.put, List.setIfInBounds_toArray, List.set_cons_zero, List.set_cons_succ]
                  refine wpAnyH_done (by kernel_rfl) ?_ _
                  have hmv1 : Moved ((wr.alloc (.cells #[.int .i64 (k : Int)] 3)).drew) (.slice A9 L.length cap9) (.slice (some ⟨gg, 0, none⟩) (L.length + 1) cap) := by
                    rcases hat with h | h
                    · exact .inl h.symm
                    · exact .inr ⟨gg, rfl, by simp; omega⟩
                  have hmv2 : Moved wr (rows5.getD q nilS) (.slice (some ⟨gg, 0, none⟩) (L.length + 1) cap) := by
                    rw [HR9.out, ← HLL.out]
                    exact (Moved.refl wr _).trans hmv1 (by simp)
                  have hch : Ch wr w1 (fun b => (rows5.getD q nilS).ownBlock = some b) := by
                    rw [HR9.out, ← HLL.out]
                    exact (((Ch.refl wr _).alloc (.cells #[.int .i64 (k : Int)] 3)).drew).grown hgrow fun _ _ e => e
                  have hst6 := HST.out.among (q := q) HQP.out (r' := .slice (some ⟨gg, 0, none⟩) (L.length + 1) cap) (L := L ++ [(k : Int)]) (by rw [HP5.out.2.2.2.2.1, ints_snoc, List.length_append]; exact hown1) hch hmv2
                  have HST6 := Lib.hid hst6
                  have HP6 : Hid ((amongP p5 q (.slice (some ⟨gg, 0, none⟩) (L.length + 1) cap) (L ++ [(k : Int)])).g = g ∧ (amongP p5 q (.slice (some ⟨gg, 0, none⟩) (L.length + 1) cap) (L ++ [(k : Int)])).gl = gl ∧ (amongP p5 q (.slice (some ⟨gg, 0, none⟩) (L.length + 1) cap) (L ++ [(k : Int)])).n = n ∧ (amongP p5 q (.slice (some ⟨gg, 0, none⟩) (L.length + 1) cap) (L ++ [(k : Int)])).V = V ∧ (amongP p5 q (.slice (some ⟨gg, 0, none⟩) (L.length + 1) cap) (L ++ [(k : Int)])).base = w.heap.size ∧ (amongP p5 q (.slice (some ⟨gg, 0, none⟩) (L.length + 1) cap) (L ++ [(k : Int)])).ds = p.ds ++ [D]) := Lib.hid ⟨HP5.out.1, HP5.out.2.1, HP5.out.2.2.1, HP5.out.2.2.2.1, HP5.out.2.2.2.2.1, HP5.out.2.2.2.2.2⟩
                  have HB6 : Hid (Below w.heap.size w (w1.setCell ⟨ga, q, none⟩ (.slice (some ⟨gg, 0, none⟩) (L.length + 1) cap))) := Lib.hid ((((HB5.out.alloc hbr (.cells #[.int .i64 (k : Int)] 3)).drew).grown hgrow (by simp; omega) (fun b e => (HOZ.out.lt b e).1)).setCell (p := ⟨ga, q, none⟩) HGB.out _)
                  have HAM6 : Hid (∀ x, litB v x = true → (amongP p5 q (.slice (some ⟨gg, 0, none⟩) (L.length + 1) cap) (L ++ [(k : Int)])).ams.getD (idx x) [] = amongL (cs.take k) x ++ (if x ∈ D.take (j + 1) then [(k : Int)] else [])) := Lib.hid fun x hx => by
                    have hxV : idx x < p5.ams.length := by rw [HST.out.al, HP5.out.2.2.2.1, HV.out]; exact idx_lt hx
                    have hnd := HDN.out
                    have htk : D.take (j + 1) = D.take j ++ [y] := by rw [take_snocI D j hlj, ← HY.out]
                    show (p5.ams.set q (L ++ [(k : Int)])).getD (idx x) [] = _
                    rw [getD_set _ _ _ _ _ hxV, htk]
                    by_cases c : q = idx x
                    · have hxy : x = y := (idx_inj (by rw [← HQ.out]; exact c)).symm
                      have hny : ¬ y ∈ D.take j := by
                        intro h
                        rw [← List.take_append_drop (j + 1) D, htk, List.nodup_append] at hnd
                        rw [List.nodup_append] at hnd
                        exact hnd.1.2.2 y h y (by simp) rfl
                      rw [if_pos c, hxy, if_pos (by simp), HLL.out, HQ.out, HAM.out y HLY.out, if_neg hny, List.append_nil]
                    · have hxy : ¬ x = y := fun e => c (by rw [e]; exact HQ.out)
                      rw [if_neg c, HAM.out x hx]
                      congr 1
                      by_cases d : x ∈ D.take j
                      · rw [if_pos d, if_pos (by simp [d])]
                      · rw [if_neg d, if_neg (by simp [d, hxy])]
                  clear hmv1 hmv2 hch hst6 hown1 hgrow hat hc13 hc1q hf1q HOZ HNZ HZ3 HZQ HZF HR9 HLL hc3 hcq hfq hz3 hzq hzf HAM HST HP5 HB5 hS
                  generalize amongP p5 q (.slice (some ⟨gg, 0, none⟩) (L.length + 1) cap) (L ++ [(k : Int)]) = p6 at *
                  generalize w1.setCell ⟨ga, q, none⟩ (.slice (some ⟨gg, 0, none⟩) (L.length + 1) cap) = w9 at *
                  generalize rows5.set q (.slice (some ⟨gg, 0, none⟩) (L.length + 1) cap) = rows6 at *
                  go_wp2_with fail
                  go_roundw
                  case rel => exact ⟨j + 1, p6, rows6, by omega, by go_num, HST6, HP6, HB6, HAM6⟩
                  case measure => simp [intOf]; omega
                · go_simp
                  refine hK.out _ _ HZ3.out (fun _ => ?_)
                  have hS := HZ3.out
                  clear hK K
                  try simp only [Act.put, List.setIfInBounds_toArray, List.set_cons_zero, List.set_cons_succ]
                  refine wpAnyH_ready (rs := [13]) (by kernel_rfl) (by simp) ?_
                  refine AllReadyH.cons rfl (fun K hK => ?_) AllReadyH.nil
                  go_simp
                  refine hK.out _ _ hS (fun _ => ?_)
                  clear hK K
                  try simp only [Act.put, List.setIfInBounds_toArray, List.set_cons_zero, List.set_cons_succ]
                  refine wpAnyH_ready (rs := [16]) (by kernel_rfl) (by simp) ?_
                  refine AllReadyH.cons rfl (fun K hK => ?_) AllReadyH.nil
                  refine step_append_lies _ (by rfl) _ _ _ (by rfl) w.heap.size 3 i0 _ 1 8 Try.underlying35 hi hz0 hz1 hz2 rfl (by omega) (.slice A9 L.length cap9) L.length _ (by rfl) HOZ.out ⟨wr.heap.size, 0, none⟩ 1 1 [.int .i64 (k : Int)] (by rfl) (by rfl) HNZ.out (by intro u hu; simp at hu; subst hu; rfl) (by omega) (by unfold maxLen; omega) (by omega) (by simp; omega) (wr.heap.size + 1) (by simp) ?_
                  intro gg cap w1 hown1 hgrow hat hlt1
                  have hc13 := (hgrow.cell_far ⟨g, 3, none⟩ (by simp; omega) (fun e => HNG3.out e.symm)).trans HZ3.out
                  have hc1q := (hgrow.cell_far ⟨ga, q, none⟩ (by simp; omega) (fun e => HNG4.out e.symm)).trans HZQ.out
                  have hf1q := (hgrow.frozen_far ⟨ga, q, none⟩ (by simp; omega) (fun e => HNG4.out e.symm)).trans HZF.out
                  refine hK.out _ _ hc13 (fun _ => ?_)
                  have hS := hc13
                  clear hK K
                  try simp only [Act.put, List.setIfInBounds_toArray]
                  refine wpAnyH_take (i := 17) rfl (by kernel_rfl) (by kernel_rfl) (by kernel_rfl) (fun _ _ _ h => h) (v := .pointer (some ⟨ga, q, none⟩)) ?_ hS ?_
                  · exact Or.inl ⟨by rfl, fun wx hSx => by (try dsimp only at hSx); go_simp⟩
                  simp only [Act.put]
                  refine wpAnyH_ready (rs := [18]) (by kernel_rfl) (by simp) ?_
                  refine AllReadyH.cons rfl (fun K hK => ?_) AllReadyH.nil
                  go_simp
                  refine hK.out _ _ ((World.cell?_of_block (a := ⟨g, 3, none⟩) (Below.heap_setCell _ _ _ _ HGA.out)).trans hc13) (fun _ => ?_)
                  clear hK K
                  try simp only [Act.put, List.setIfInBounds_toArray, List.set_cons_zero, List.set_cons_succ]
                  refine wpAnyH_done (by kernel_rfl) ?_ _
                  have hmv1 : Moved ((wr.alloc (.cells #[.int .i64 (k : Int)] 3)).drew) (.slice A9 L.length cap9) (.slice (some ⟨gg, 0, none⟩) (L.length + 1) cap) := by
                    rcases hat with h | h
                    · exact .inl h.symm
                    · exact .inr ⟨gg, rfl, by simp; omega⟩
                  have hmv2 : Moved wr (rows5.getD q nilS) (.slice (some ⟨gg, 0, none⟩) (L.length + 1) cap) := by
                    rw [HR9.out, ← HLL.out]
                    exact (Moved.refl wr _).trans hmv1 (by simp)
                  have hch : Ch wr w1 (fun b => (rows5.getD q nilS).ownBlock = some b) := by
                    rw [HR9.out, ← HLL.out]
                    exact (((Ch.refl wr _).alloc (.cells #[.int .i64 (k : Int)] 3)).drew).grown hgrow fun _ _ e => e
                  have hst6 := HST.out.among (q := q) HQP.out (r' := .slice (some ⟨gg, 0, none⟩) (L.length + 1) cap) (L := L ++ [(k : Int)]) (by rw [HP5.out.2.2.2.2.1, ints_snoc, List.length_append]; exact hown1) hch hmv2
                  have HST6 := Lib.hid hst6
                  have HP6 : Hid ((amongP p5 q (.slice (some ⟨gg, 0, none⟩) (L.length + 1) cap) (L ++ [(k : Int)])).g = g ∧ (amongP p5 q (.slice (some ⟨gg, 0, none⟩) (L.length + 1) cap) (L ++ [(k : Int)])).gl = gl ∧ (amongP p5 q (.slice (some ⟨gg, 0, none⟩) (L.length + 1) cap) (L ++ [(k : Int)])).n = n ∧ (amongP p5 q (.slice (some ⟨gg, 0, none⟩) (L.length + 1) cap) (L ++ [(k : Int)])).V = V ∧ (amongP p5 q (.slice (some ⟨gg, 0, none⟩) (L.length + 1) cap) (L ++ [(k : Int)])).base = w.heap.size ∧ (amongP p5 q (.slice (some ⟨gg, 0, none⟩) (L.length + 1) cap) (L ++ [(k : Int)])).ds = p.ds ++ [D]) := Lib.hid ⟨HP5.out.1, HP5.out.2.1, HP5.out.2.2.1, HP5.out.2.2.2.1, HP5.out.2.2.2.2.1, HP5.out.2.2.2.2.2⟩
                  have HB6 : Hid (Below w.heap.size w (w1.setCell ⟨ga, q, none⟩ (.slice (some ⟨gg, 0, none⟩) (L.length + 1) cap))) := Lib.hid ((((HB5.out.alloc hbr (.cells #[.int .i64 (k : Int)] 3)).drew).grown hgrow (by simp; omega) (fun b e => (HOZ.out.lt b e).1)).setCell (p := ⟨ga, q, none⟩) HGB.out _)
                  have HAM6 : Hid (∀ x, litB v x = true → (amongP p5 q (.slice (some ⟨gg, 0, none⟩) (L.length + 1) cap) (L ++ [(k : Int)])).ams.getD (idx x) [] = amongL (cs.take k) x ++ (if x ∈ D.take (j + 1) then [(k : Int)] else [])) := Lib.hid fun x hx => by
                    have hxV : idx x < p5.ams.length := by rw [HST.out.al, HP5.out.2.2.2.1, HV.out]; exact idx_lt hx
                    have hnd := HDN.out
                    have htk : D.take (j + 1) = D.take j ++ [y] := by rw [take_snocI D j hlj, ← HY.out]
                    show (p5.ams.set q (L ++ [(k : Int)])).getD (idx x) [] = _
                    rw [getD_set _ _ _ _ _ hxV, htk]
                    by_cases c : q = idx x
                    · have hxy : x = y := (idx_inj (by rw [← HQ.out]; exact c)).symm
                      have hny : ¬ y ∈ D.take j := by
                        intro h
                        rw [← List.take_append_drop (j + 1) D, htk, List.nodup_append] at hnd
                        rw [List.nodup_append] at hnd
                        exact hnd.1.2.2 y h y (by simp) rfl
                      rw [if_pos c, hxy, if_pos (by simp), HLL.out, HQ.out, HAM.out y HLY.out, if_neg hny, List.append_nil]
                    · have hxy : ¬ x = y := fun e => c (by rw [e]; exact HQ.out)
                      rw [if_neg c, HAM.out x hx]
                      congr 1
                      by_cases d : x ∈ D.take j
                      · rw [if_pos d, if_pos (by simp [d])]
                      · rw [if_neg d, if_neg (by simp [d, hxy])]
                  clear hmv1 hmv2 hch hst6 hown1 hgrow hat hc13 hc1q hf1q HOZ HNZ HZ3 HZQ HZF HR9 HLL hc3 hcq hfq hz3 hzq hzf HAM HST HP5 HB5 hS
                  generalize amongP p5 q (.slice (some ⟨gg, 0, none⟩) (L.length + 1) cap) (L ++ [(k : Int)]) = p6 at *
                  generalize w1.setCell ⟨ga, q, none⟩ (.slice (some ⟨gg, 0, none⟩) (L.length + 1) cap) = w9 at *
                  generalize rows5.set q (.slice (some ⟨gg, 0, none⟩) (L.length + 1) cap) = rows6 at *
                  go_wp2_with fail
                  go_roundw
                  case rel => exact ⟨j + 1, p6, rows6, by omega, by go_num, HST6, HP6, HB6, HAM6⟩
                  case measure => simp [intOf]; omega
              · go_simp
                refine hK.out _ _ HZ3.out (fun _ => ?_)
                have hS := HZ3.out
                clear hK K
                try simp only [Act.put, List.setIfInBounds_toArray, List.set_cons_zero, List.set_cons_succ]
                refine wpAnyH_ready (rs := [11]) (by kernel_rfl) (by simp) ?_
                refine AllReadyH.cons rfl (fun K hK => ?_) AllReadyH.nil
                go_simp
                refine (HIX.out _).mono ?_
                rintro e w' ⟨rfl, hw⟩
                obtain rfl := hw.symm
                refine hK.out _ _ hS (fun _ => ?_)
                clear hK K
                try simp only [Act.put, List.setIfInBounds_toArray, List.set_cons_zero, List.set_cons_succ]
                refine wpAnyH_take (i := 12) rfl (by kernel_rfl) (by kernel_rfl) (by kernel_rfl) (fun _ _ _ h => h) (v := .pointer (some ⟨ga, q, none⟩)) ?_ hS ?_
                · exact Or.inl ⟨by rfl, fun wx hSx => by (try dsimp only at hSx); go_simp⟩
                simp only [Act.put, List.setIfInBounds_toArray]
                refine wpAnyH_ready (rs := [13]) (by kernel_rfl) (by simp) ?_
                refine AllReadyH.cons rfl (fun K hK => ?_) AllReadyH.nil
                go_simp
                refine hK.out _ _ hS (fun _ => ?_)
                clear hK K
                try simp only [Act.put, List.setIfInBounds_toArray, List.set_cons_zero, List.set_cons_succ]
                refine wpAnyH_ready (rs := [16]) (by kernel_rfl) (by simp) ?_
                refine AllReadyH.cons rfl (fun K hK => ?_) AllReadyH.nil
                refine step_append_lies _ (by rfl) _ _ _ (by rfl) w.heap.size 3 i0 _ 1 8 Try.underlying35 hi hz0 hz1 hz2 rfl (by omega) (.slice A9 L.length cap9) L.length _ (by rfl) HOZ.out ⟨wr.heap.size, 0, none⟩ 1 1 [.int .i64 (k : Int)] (by rfl) (by rfl) HNZ.out (by intro u hu; simp at hu; subst hu; rfl) (by omega) (by unfold maxLen; omega) (by omega) (by simp; omega) (wr.heap.size + 1) (by simp) ?_
                intro gg cap w1 hown1 hgrow hat hlt1
                have hc13 := (hgrow.cell_far ⟨g, 3, none⟩ (by simp; omega) (fun e => HNG3.out e.symm)).trans HZ3.out
                have hc1q := (hgrow.cell_far ⟨ga, q, none⟩ (by simp; omega) (fun e => HNG4.out e.symm)).trans HZQ.out
                have hf1q := (hgrow.frozen_far ⟨ga, q, none⟩ (by simp; omega) (fun e => HNG4.out e.symm)).trans HZF.out
                refine hK.out _ _ hc13 (fun _ => ?_)
                have hS := hc13
                clear hK K
                try simp only [Act.put, List.setIfInBounds_toArray]
                refine wpAnyH_take (i := 17) rfl (by kernel_rfl) (by kernel_rfl) (by kernel_rfl) (fun _ _ _ h => h) (v := .pointer (some ⟨ga, q, none⟩)) ?_ hS ?_
                · exact Or.inl ⟨by rfl, fun wx hSx => by (try dsimp only at hSx); go_simp⟩
                simp only [Act.put]
                refine wpAnyH_ready (rs := [18]) (by kernel_rfl) (by simp) ?_
                refine AllReadyH.cons rfl (fun K hK => ?_) AllReadyH.nil
                go_simp
                refine hK.out _ _ ((World.cell?_of_block (a := ⟨g, 3, none⟩) (Below.heap_setCell _ _ _ _ HGA.out)).trans hc13) (fun _ => ?_)
                clear hK K
                try simp only [Act.put, List.setIfInBounds_toArray, List.set_cons_zero, List.set_cons_succ]
                refine wpAnyH_done (by kernel_rfl) ?_ _
                have hmv1 : Moved ((wr.alloc (.cells #[.int .i64 (k : Int)] 3)).drew) (.slice A9 L.length cap9) (.slice (some ⟨gg, 0, none⟩) (L.length + 1) cap) := by
                  rcases hat with h | h
                  · exact .inl h.symm
                  · exact .inr ⟨gg, rfl, by simp; omega⟩
                have hmv2 : Moved wr (rows5.getD q nilS) (.slice (some ⟨gg, 0, none⟩) (L.length + 1) cap) := by
                  rw [HR9.out, ← HLL.out]
                  exact (Moved.refl wr _).trans hmv1 (by simp)
                have hch : Ch wr w1 (fun b => (rows5.getD q nilS).ownBlock = some b) := by
                  rw [HR9.out, ← HLL.out]
                  exact (((Ch.refl wr _).alloc (.cells #[.int .i64 (k : Int)] 3)).drew).grown hgrow fun _ _ e => e
                have hst6 := HST.out.among (q := q) HQP.out (r' := .slice (some ⟨gg, 0, none⟩) (L.length + 1) cap) (L := L ++ [(k : Int)]) (by rw [HP5.out.2.2.2.2.1, ints_snoc, List.length_append]; exact hown1) hch hmv2
                have HST6 := Lib.hid hst6
                have HP6 : Hid ((amongP p5 q (.slice (some ⟨gg, 0, none⟩) (L.length + 1) cap) (L ++ [(k : Int)])).g = g ∧ (amongP p5 q (.slice (some ⟨gg, 0, none⟩) (L.length + 1) cap) (L ++ [(k : Int)])).gl = gl ∧ (amongP p5 q (.slice (some ⟨gg, 0, none⟩) (L.length + 1) cap) (L ++ [(k : Int)])).n = n ∧ (amongP p5 q (.slice (some ⟨gg, 0, none⟩) (L.length + 1) cap) (L ++ [(k : Int)])).V = V ∧ (amongP p5 q (.slice (some ⟨gg, 0, none⟩) (L.length + 1) cap) (L ++ [(k : Int)])).base = w.heap.size ∧ (amongP p5 q (.slice (some ⟨gg, 0, none⟩) (L.length + 1) cap) (L ++ [(k : Int)])).ds = p.ds ++ [D]) := Lib.hid ⟨HP5.out.1, HP5.out.2.1, HP5.out.2.2.1, HP5.out.2.2.2.1, HP5.out.2.2.2.2.1, HP5.out.2.2.2.2.2⟩
                have HB6 : Hid (Below w.heap.size w (w1.setCell ⟨ga, q, none⟩ (.slice (some ⟨gg, 0, none⟩) (L.length + 1) cap))) := Lib.hid ((((HB5.out.alloc hbr (.cells #[.int .i64 (k : Int)] 3)).drew).grown hgrow (by simp; omega) (fun b e => (HOZ.out.lt b e).1)).setCell (p := ⟨ga, q, none⟩) HGB.out _)
                have HAM6 : Hid (∀ x, litB v x = true → (amongP p5 q (.slice (some ⟨gg, 0, none⟩) (L.length + 1) cap) (L ++ [(k : Int)])).ams.getD (idx x) [] = amongL (cs.take k) x ++ (if x ∈ D.take (j + 1) then [(k : Int)] else [])) := Lib.hid fun x hx => by
                  have hxV : idx x < p5.ams.length := by rw [HST.out.al, HP5.out.2.2.2.1, HV.out]; exact idx_lt hx
                  have hnd := HDN.out
                  have htk : D.take (j + 1) = D.take j ++ [y] := by rw [take_snocI D j hlj, ← HY.out]
                  show (p5.ams.set q (L ++ [(k : Int)])).getD (idx x) [] = _
                  rw [getD_set _ _ _ _ _ hxV, htk]
                  by_cases c : q = idx x
                  · have hxy : x = y := (idx_inj (by rw [← HQ.out]; exact c)).symm
                    have hny : ¬ y ∈ D.take j := by
                      intro h
                      rw [← List.take_append_drop (j + 1) D, htk, List.nodup_append] at hnd
                      rw [List.nodup_append] at hnd
                      exact hnd.1.2.2 y h y (by simp) rfl
                    rw [if_pos c, hxy, if_pos (by simp), HLL.out, HQ.out, HAM.out y HLY.out, if_neg hny, List.append_nil]
                  · have hxy : ¬ x = y := fun e => c (by rw [e]; exact HQ.out)
                    rw [if_neg c, HAM.out x hx]
                    congr 1
                    by_cases d : x ∈ D.take j
                    · rw [if_pos d, if_pos (by simp [d])]
                    · rw [if_neg d, if_neg (by simp [d, hxy])]
                clear hmv1 hmv2 hch hst6 hown1 hgrow hat hc13 hc1q hf1q HOZ HNZ HZ3 HZQ HZF HR9 HLL hc3 hcq hfq hz3 hzq hzf HAM HST HP5 HB5 hS
                generalize amongP p5 q (.slice (some ⟨gg, 0, none⟩) (L.length + 1) cap) (L ++ [(k : Int)]) = p6 at *
                generalize w1.setCell ⟨ga, q, none⟩ (.slice (some ⟨gg, 0, none⟩) (L.length + 1) cap) = w9 at *
                generalize rows5.set q (.slice (some ⟨gg, 0, none⟩) (L.length + 1) cap) = rows6 at *
                go_wp2_with fail
                go_roundw
                case rel => exact ⟨j + 1, p6, rows6, by omega, by go_num, HST6, HP6, HB6, HAM6⟩
                case measure => simp [intOf]; omega
            · go_simp
              refine hK.out _ _ HZ3.out (fun _ => ?_)
              have hS := HZ3.out
              clear hK K
              try simp only [Act.put, List.setIfInBounds_toArray, List.set_cons_zero, List.set_cons_succ]
              refine wpAnyH_ready (rs := [5]) (by kernel_rfl) (by simp) ?_
              refine AllReadyH.cons rfl (fun K hK => ?_) AllReadyH.nil
              go_simp
              refine (HIX.out _).mono ?_
              rintro e w' ⟨rfl, hw⟩
              obtain rfl := hw.symm
              refine hK.out _ _ hS (fun _ => ?_)
              clear hK K
              try simp only [Act.put, List.setIfInBounds_toArray, List.set_cons_zero, List.set_cons_succ]
              refine wpAnyH_ready (rs := [11]) (by kernel_rfl) (by simp) ?_
              refine AllReadyH.cons rfl (fun K hK => ?_) AllReadyH.nil
              go_simp
              refine (HIX.out _).mono ?_
              rintro e w' ⟨rfl, hw⟩
              obtain rfl := hw.symm
              refine hK.out _ _ hS (fun _ => ?_)
              clear hK K
              try simp only [Act.put, List.setIfInBounds_toArray, List.set_cons_zero, List.set_cons_succ]
              refine wpAnyH_take (i := 12) rfl (by kernel_rfl) (by kernel_rfl) (by kernel_rfl) (fun _ _ _ h => h) (v := .pointer (some ⟨ga, q, none⟩)) ?_ hS ?_
              · exact Or.inl ⟨by rfl, fun wx hSx => by (try dsimp only at hSx); go_simp⟩
              simp only [Act.put, List.setIfInBounds_toArray]
              refine wpAnyH_ready (rs := [13]) (by kernel_rfl) (by simp) ?_
              refine AllReadyH.cons rfl (fun K hK => ?_) AllReadyH.nil
              go_simp
              refine hK.out _ _ hS (fun _ => ?_)
              clear hK K
              try simp only [Act.put, List.setIfInBounds_toArray, List.set_cons_zero, List.set_cons_succ]
              refine wpAnyH_ready (rs := [16]) (by kernel_rfl) (by simp) ?_
              refine AllReadyH.cons rfl (fun K hK => ?_) AllReadyH.nil
              refine step_append_lies _ (by rfl) _ _ _ (by rfl) w.heap.size 3 i0 _ 1 8 Try.underlying35 hi hz0 hz1 hz2 rfl (by omega) (.slice A9 L.length cap9) L.length _ (by rfl) HOZ.out ⟨wr.heap.size, 0, none⟩ 1 1 [.int .i64 (k : Int)] (by rfl) (by rfl) HNZ.out (by intro u hu; simp at hu; subst hu; rfl) (by omega) (by unfold maxLen; omega) (by omega) (by simp; omega) (wr.heap.size + 1) (by simp) ?_
              intro gg cap w1 hown1 hgrow hat hlt1
              have hc13 := (hgrow.cell_far ⟨g, 3, none⟩ (by simp; omega) (fun e => HNG3.out e.symm)).trans HZ3.out
              have hc1q := (hgrow.cell_far ⟨ga, q, none⟩ (by simp; omega) (fun e => HNG4.out e.symm)).trans HZQ.out
              have hf1q := (hgrow.frozen_far ⟨ga, q, none⟩ (by simp; omega) (fun e => HNG4.out e.symm)).trans HZF.out
              refine hK.out _ _ hc13 (fun _ => ?_)
              have hS := hc13
              clear hK K
              try simp only [Act.put, List.setIfInBounds_toArray]
              refine wpAnyH_take (i := 17) rfl (by kernel_rfl) (by kernel_rfl) (by kernel_rfl) (fun _ _ _ h => h) (v := .pointer (some ⟨ga, q, none⟩)) ?_ hS ?_
              · exact Or.inl ⟨by rfl, fun wx hSx => by (try dsimp only at hSx); go_simp⟩
              simp only [Act.put]
              refine wpAnyH_ready (rs := [18]) (by kernel_rfl) (by simp) ?_
              refine AllReadyH.cons rfl (fun K hK => ?_) AllReadyH.nil
              go_simp
              refine hK.out _ _ ((World.cell?_of_block (a := ⟨g, 3, none⟩) (Below.heap_setCell _ _ _ _ HGA.out)).trans hc13) (fun _ => ?_)
              clear hK K
              try simp only [Act.put, List.setIfInBounds_toArray, List.set_cons_zero, List.set_cons_succ]
              refine wpAnyH_done (by kernel_rfl) ?_ _
              have hmv1 : Moved ((wr.alloc (.cells #[.int .i64 (k : Int)] 3)).drew) (.slice A9 L.length cap9) (.slice (some ⟨gg, 0, none⟩) (L.length + 1) cap) := by
                rcases hat with h | h
                · exact .inl h.symm
                · exact .inr ⟨gg, rfl, by simp; omega⟩
              have hmv2 : Moved wr (rows5.getD q nilS) (.slice (some ⟨gg, 0, none⟩) (L.length + 1) cap) := by
                rw [HR9.out, ← HLL.out]
                exact (Moved.refl wr _).trans hmv1 (by simp)
              have hch : Ch wr w1 (fun b => (rows5.getD q nilS).ownBlock = some b) := by
                rw [HR9.out, ← HLL.out]
                exact (((Ch.refl wr _).alloc (.cells #[.int .i64 (k : Int)] 3)).drew).grown hgrow fun _ _ e => e
              have hst6 := HST.out.among (q := q) HQP.out (r' := .slice (some ⟨gg, 0, none⟩) (L.length + 1) cap) (L := L ++ [(k : Int)]) (by rw [HP5.out.2.2.2.2.1, ints_snoc, List.length_append]; exact hown1) hch hmv2
              have HST6 := Lib.hid hst6
              have HP6 : Hid ((amongP p5 q (.slice (some ⟨gg, 0, none⟩) (L.length + 1) cap) (L ++ [(k : Int)])).g = g ∧ (amongP p5 q (.slice (some ⟨gg, 0, none⟩) (L.length + 1) cap) (L ++ [(k : Int)])).gl = gl ∧ (amongP p5 q (.slice (some ⟨gg, 0, none⟩) (L.length + 1) cap) (L ++ [(k : Int)])).n = n ∧ (amongP p5 q (.slice (some ⟨gg, 0, none⟩) (L.length + 1) cap) (L ++ [(k : Int)])).V = V ∧ (amongP p5 q (.slice (some ⟨gg, 0, none⟩) (L.length + 1) cap) (L ++ [(k : Int)])).base = w.heap.size ∧ (amongP p5 q (.slice (some ⟨gg, 0, none⟩) (L.length + 1) cap) (L ++ [(k : Int)])).ds = p.ds ++ [D]) := Lib.hid ⟨HP5.out.1, HP5.out.2.1, HP5.out.2.2.1, HP5.out.2.2.2.1, HP5.out.2.2.2.2.1, HP5.out.2.2.2.2.2⟩
              have HB6 : Hid (Below w.heap.size w (w1.setCell ⟨ga, q, none⟩ (.slice (some ⟨gg, 0, none⟩) (L.length + 1) cap))) := Lib.hid ((((HB5.out.alloc hbr (.cells #[.int .i64 (k : Int)] 3)).drew).grown hgrow (by simp; omega) (fun b e => (HOZ.out.lt b e).1)).setCell (p := ⟨ga, q, none⟩) HGB.out _)
              have HAM6 : Hid (∀ x, litB v x = true → (amongP p5 q (.slice (some ⟨gg, 0, none⟩) (L.length + 1) cap) (L ++ [(k : Int)])).ams.getD (idx x) [] = amongL (cs.take k) x ++ (if x ∈ D.take (j + 1) then [(k : Int)] else [])) := Lib.hid fun x hx => by
                have hxV : idx x < p5.ams.length := by rw [HST.out.al, HP5.out.2.2.2.1, HV.out]; exact idx_lt hx
                have hnd := HDN.out
                have htk : D.take (j + 1) = D.take j ++ [y] := by rw [take_snocI D j hlj, ← HY.out]
                show (p5.ams.set q (L ++ [(k : Int)])).getD (idx x) [] = _
                rw [getD_set _ _ _ _ _ hxV, htk]
                by_cases c : q = idx x
                · have hxy : x = y := (idx_inj (by rw [← HQ.out]; exact c)).symm
                  have hny : ¬ y ∈ D.take j := by
                    intro h
                    rw [← List.take_append_drop (j + 1) D, htk, List.nodup_append] at hnd
                    rw [List.nodup_append] at hnd
                    exact hnd.1.2.2 y h y (by simp) rfl
                  rw [if_pos c, hxy, if_pos (by simp), HLL.out, HQ.out, HAM.out y HLY.out, if_neg hny, List.append_nil]
                · have hxy : ¬ x = y := fun e => c (by rw [e]; exact HQ.out)
                  rw [if_neg c, HAM.out x hx]
                  congr 1
                  by_cases d : x ∈ D.take j
                  · rw [if_pos d, if_pos (by simp [d])]
                  · rw [if_neg d, if_neg (by simp [d, hxy])]
              clear hmv1 hmv2 hch hst6 hown1 hgrow hat hc13 hc1q hf1q HOZ HNZ HZ3 HZQ HZF HR9 HLL hc3 hcq hfq hz3 hzq hzf HAM HST HP5 HB5 hS
              generalize amongP p5 q (.slice (some ⟨gg, 0, none⟩) (L.length + 1) cap) (L ++ [(k : Int)]) = p6 at *
              generalize w1.setCell ⟨ga, q, none⟩ (.slice (some ⟨gg, 0, none⟩) (L.length + 1) cap) = w9 at *
              generalize rows5.set q (.slice (some ⟨gg, 0, none⟩) (L.length + 1) cap) = rows6 at *
              go_wp2_with fail
              go_roundw
              case rel => exact ⟨j + 1, p6, rows6, by omega, by go_num, HST6, HP6, HB6, HAM6⟩
              case measure => simp [intOf]; omega
          · have hjD : D.take j = D := List.take_of_length_le (by omega)
            have hji : ¬ (j : Int) < (D.length : Int) := by omega
            have hll : lf.length = n := by rw [HAK.out.st.st.ll]; exact HAK.out.n
            have hx : (lf.set k (D.length : Int)).getD k 0 = (D.length : Int) := by rw [getD_set _ _ _ _ _ (by rw [hll]; exact hlt), if_pos rfl]
            have HLLN := Lib.hid hll
            have HCT := Lib.hid (wcount_any p5 k [] _ _ _ b nilS yv rdy wr HST.out.st (by rw [HP5.out.2.2.1]; exact hlt) (by rw [HP5.out.2.2.1]; omega) (by have := HAK.out.k.len; omega))
            rw [hx, HP5.out.1] at HCT
            have HAM2 := HAM.out
            rw [hjD] at HAM2
            have HAM3 := Lib.hid HAM2
            clear hjD hll hx HAM2 HAM
            go_wp2_with fail
            refine HCT.out.mono ?_
            rintro e wn ⟨rfl, hbn, hcn, yn, rn, hst, hmn, hln⟩
            have HST7 := Lib.hid (HST.out.count hst hcn)
            have HB7 : Hid (Below w.heap.size w wn) := Lib.hid (HB5.out.trans (by rw [HP5.out.2.2.2.2.1] at hbn; exact hbn))
            have hDc : D = onceI (cs.getD k []) := by rw [hD.out, hcc.out]
            have HBK7 : Hid (BegK p5 cs v (k + 1) (lf.set k (D.length : Int)) (b || decide ((D.length : Int) = 0)) rn) := Lib.hid (HAK.out.k.next HKC.out (by rw [HP5.out.2.2.1, HAK.out.n]) (by rw [HP5.out.2.2.2.1, HAK.out.V]) (by rw [HP5.out.2.2.2.2.2, hDc]) (by rw [← hDc]; exact HAM3.out) (by rw [← hDc]) (by rw [HLLN.out]; exact HNN.out) (by rw [← hDc]) (by rw [← hDc]; exact hmn) (by rw [← hDc]; exact hln))
            have HAK7 : Hid (AtK w.heap.size g gl n V cs v (k + 1) p5 wn (lf.set k (D.length : Int)) (b || decide ((D.length : Int) = 0)) yn rn (us ++ [.slice A6 D.length cap6]) rows5 ga) := Lib.hid ⟨HST7.out, HBK7.out, HP5.out.1, HP5.out.2.1, HP5.out.2.2.1, HP5.out.2.2.2.1, HP5.out.2.2.2.2.1⟩
            clear hst hmn hln hbn hcn hDc HST HP5 HB5 HAM3 HCT HBK7 HST7
            generalize (b || decide ((D.length : Int) = 0)) = b7 at *
            generalize lf.set k (D.length : Int) = lf7 at *
            go_wp2_with fail
            go_roundw
            case rel => exact ⟨k + 1, p5, lf7, b7, yn, rn, _, rows5, by omega, by go_num, HAK7, HB7⟩
            case measure => simp [intOf]; omega
      · have hke : k = cs.length := by have := HNN.out; omega
        have hkn : ¬ (k : Int) < (n : Int) := by omega
        have HKF : Hid (BegK p cs v cs.length lf b rdy) := Lib.hid (by rw [← hke]; exact HAK.out.k)
        have HFIN := Lib.hid (HPO.out p wr rdy b lf yv us rows ga HKF.out HAK.out.st HAK.out.base HB.out)
        rw [HAK.out.g] at HFIN
        clear hke
        go_wp2
        exact HFIN.out
end Go.Proofs.Ytapaoccpbcjgeaa
