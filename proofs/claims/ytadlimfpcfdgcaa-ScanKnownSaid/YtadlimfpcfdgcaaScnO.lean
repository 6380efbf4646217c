/- scan: the reference's some, gather; rows behind rows. -/
import Derived.Test.YtadlimfpcfdgcaaScnN
import Derived.Laws.AppendOwnNone
set_option linter.unusedVariables false
set_option linter.unusedSimpArgs false
namespace Go.Proofs.Ytadlimfpcfdgcaa
open Go Go.RowKit Go.BigFrame Go.Maps
open Scn (runOf wins winsTo firsts)
open Fil (Es Nd Sp)

theorem Reads.shape {w : World} {B : Nat} {v : Value} {ys : List ByteArray} (h : Reads w B v (strs ys)) : ∃ A c, v = .slice A ys.length c ∧ ys.length ≤ c ∧ (A = none → c = 0) ∧ (∀ ad, A = some ad → ∀ j u, (strs ys)[j]? = some u → w.cell? (ad.add j) = some u) := by
  obtain ⟨A, c, e, h1, _, h3, h4⟩ := h
  rw [strs_len] at e h1 h4
  refine ⟨A, c, e, h1, h3, fun ad ea j u hj => ?_⟩
  have hlt := (List.getElem?_eq_some_iff.1 hj).1
  rw [strs_len] at hlt
  obtain ⟨ad2, e2, _, hc⟩ := h4 (by omega)
  rw [ea] at e2
  cases e2
  exact hc j u hj
theorem one_strs (ys : List ByteArray) : ∀ u ∈ strs ys, u.oneCell' = true := by
  intro u hu
  obtain ⟨s, _, rfl⟩ := List.mem_map.1 hu
  rfl
/-- append to a row of texts of the call's own, of what another row of texts holds, which may be nil. -/
theorem wpList_app_strs {w : World} {ops : Array Oper} {rest : List Oper} {o : Oper} {a : Act} {Q : Exit → Act → World → Prop} (hgd : o.guard = none) (s x : Operand)
    (ho : o.op = .call { callee := .builtin .append, args := #[s, x], argTypes := #[24, 24] }) (base : Nat)
    (v : Value) (xs ys : List ByteArray) (hs : a.eval s = v) (hown : w.ownsRow base 9 1 v xs.length (strs xs)) (A : Option Addr) (c : Nat) (hx : a.eval x = .slice A ys.length c) (hA : A = none → c = 0) (hmc : ys.length ≤ c)
    (hnews : ∀ ad, A = some ad → ∀ j u, (strs ys)[j]? = some u → w.cell? (ad.add j) = some u)
    (h63 : xs.length + ys.length ≤ 3000000) (hbase : base ≤ w.heap.size)
    (h : ∀ v' w', w'.ownsRow base 9 1 v' (xs ++ ys).length (strs (xs ++ ys)) → w.grownBy w' v.ownBlock → wpList Try.prog ops Q rest (a.put o.dst v') w') : wpList Try.prog ops Q (o :: rest) a w := by
  obtain ⟨i0, hi0, hz0, hz1, hzb⟩ := info_parts infoStr
  cases A with
  | none =>
    have hc := hA rfl
    subst hc
    have h0 : ys = [] := List.eq_nil_of_length_eq_zero (by omega)
    subst h0
    refine wpList_append_own_none hgd s x 24 ho base 9 i0 1 Try.underlying24 hi0 v xs.length (strs xs) hs hown hx ?_
    exact h v w (by rw [List.append_nil]; exact hown) (World.grownBy.refl w _)
  | some ad =>
    refine wpList_append_own w hgd s x 24 ho base 9 i0 (.string ⟨#[]⟩) 1 16 Try.underlying24 hi0 hz0 hz1 hzb rfl (by decide) v xs.length (strs xs) hs hown ad ys.length c (strs ys) hx (by rw [strs_len]; omega) (hnews ad rfl) (one_strs ys) (by unfold maxLen; omega) (by omega) hbase fun v' w' h2 h3 _ => h v' w' ?_ h3
    rw [List.length_append]
    unfold strs at h2 ⊢
    rw [List.map_append]
    exact h2
set_option maxRecDepth 100000 in
set_option maxHeartbeats 4000000 in
theorem refSome_any (b a : Value) (ls names : List ByteArray) (B : Nat) (w : World) (hb : Reads w B b (strs ls)) (ha : Reads w B a (strs names)) (hBw : B ≤ w.heap.size) (hs : SmallT names) (hn : names.length ≤ 1000000) :
    Calls Try.prog 36 #[b, a] w (AllPost w (toldF names ls)) := by
  have HP := Lib.hid (fun (W : World) (v : Value) (hb : Below w.heap.size w W) (h : W.ownsRow w.heap.size 9 1 v (toldF names ls).length (strs (toldF names ls))) => show AllPost w (toldF names ls) (.returned v) W from ⟨hb, v, rfl, h⟩)
  generalize AllPost w (toldF names ls) = post at *
  have HLS := Lib.hid hb
  obtain ⟨Ab, cb, rfl, _, _, _⟩ := hb.shape
  obtain ⟨A, ca, rfl, hla, hma, hza, hra⟩ := ha
  simp only [strs_len] at *
  have HRA := Lib.hid hra
  have HS := Lib.hid hs
  unfold maxLen at hma
  clear hra hs hb
  obtain ⟨i0, hi0, hz0, hz1, hzb⟩ := info_parts infoStr
  go_enter Try.func36, Try.ntmps36
  go_wp2
  go_loopw [5, 6] (fun u i wr => ∃ k : Nat, k ≤ names.length ∧ i = .int .i64 k ∧ Hid (Below w.heap.size w wr) ∧ Hid (wr.ownsRow w.heap.size 9 1 u (toldF (names.take k) ls).length (strs (toldF (names.take k) ls)))) (fun _ i _ => names.length - (intOf i).toNat)
  case atStart => exact ⟨0, by omega, rfl, Lib.hid (Below.refl _ _), Lib.hid (World.ownsRow_nil _ _ _ _)⟩
  case round =>
    obtain ⟨k, hk, rfl, HB, HO⟩ := hrel
    have hw1 : IntKind.i64.wrap ((k : Int) + 1) = (k : Int) + 1 := IntWalk.i64_in _ (by omega)
    by_cases hlt : k < names.length
    · obtain ⟨ad, rfl, hbl, hc⟩ := HRA.out (by omega)
      have hci := hc k _ (strs_get names k hlt)
      have hcx := (HB.out.cell (by rw [add_block]; omega)).trans hci
      clear hc
      have hi1 : (k : Int) < (names.length : Int) := by omega
      have hi0' : (0 : Int) ≤ (k : Int) := by omega
      have hsz := HS.out _ (getT_mem hlt)
      have HTK := Lib.hid (takeT names k hlt)
      obtain ⟨x, hx⟩ : ∃ x, x = names.getD k ⟨#[]⟩ := ⟨_, rfl⟩
      rw [← hx] at hcx HTK hsz hci
      have HCI := Lib.hid (fun (W : World) (h : Below w.heap.size w W) => (h.cell (by rw [add_block]; omega)).trans hci)
      clear hx hci
      have hLn : (toldF (names.take k) ls).length ≤ 1000000 := by have := toldF_len (names.take k) ls; rw [List.length_take] at this; omega
      cases hok : Nam.okP x with
      | true =>
        have HOK := Lib.hid hok
        clear hok
        cases hin : isIn (Nam.headS x) ls with
        | true =>
          have HT := Lib.hid (toldF_yes (names.take k) ls x (by rw [HOK.out, hin]; rfl))
          have HIN := Lib.hid hin
          clear hin
          go_wp2_with (first | (go_at_call 44; refine (Nam.refParse_yes x _ hsz HOK.out).mono ?_; rintro e w2 ⟨rfl, hb2⟩; have hB2 := below_step HB.out hb2 HB.out.size) | (go_at_call 20; refine (refHas_any _ ls (Nam.headS x) _ _ (HLS.out.below (hB2.mono hBw))).mono ?_; rintro e w4 ⟨rfl, nq4, hw4⟩; rw [HIN.out]; have hb4 : Below w2.heap.size w2 w4 := (by rw [hw4]; exact below_drewN (Below.refl _ _) _); clear hw4; have hB4 := below_step hB2 hb4 hB2.size; have ho4 := own_below (own_below HO.out hb2 (Nat.le_refl _)) hb4 (Nat.le_refl _); have hz4 := hB4.size; have hcx4 := HCI.out w4 hB4) | (at_builtin; go_loud (refine wpList_append_own _ rfl _ _ 24 rfl w.heap.size 9 i0 (.string ⟨#[]⟩) 1 16 Try.underlying24 hi0 hz0 hz1 hzb rfl (by decide) _ _ _ rfl (ho4.alloc _) ⟨w4.heap.size, 0, none⟩ 1 1 [.string x] rfl rfl (cell_one_new _ _ _) (by simp [Value.oneCell']) (by unfold maxLen; omega) (by omega) (by simp; omega) ?_); intro v' w5 hown5 hgrow5 _))
          go_roundw
          case rel =>
            refine ⟨k + 1, by omega, by go_num, Lib.hid ((hB4.alloc hz4 _).grown hgrow5 (by simp; omega) (fun j e => own_ge ho4 e)), Lib.hid ?_⟩
            rw [HTK.out, HT.out, List.length_append, List.length_singleton]
            unfold strs at hown5 ⊢
            rw [List.map_append]
            exact hown5
          case measure => simp [intOf]; omega
        | false =>
          have HT := Lib.hid (toldF_no (names.take k) ls x (by rw [HOK.out, hin]; rfl))
          have HIN := Lib.hid hin
          clear hin
          go_wp2_with (first | (go_at_call 44; refine (Nam.refParse_yes x _ hsz HOK.out).mono ?_; rintro e w2 ⟨rfl, hb2⟩; have hB2 := below_step HB.out hb2 HB.out.size) | (go_at_call 20; refine (refHas_any _ ls (Nam.headS x) _ _ (HLS.out.below (hB2.mono hBw))).mono ?_; rintro e w4 ⟨rfl, nq4, hw4⟩; rw [HIN.out]; have hb4 : Below w2.heap.size w2 w4 := (by rw [hw4]; exact below_drewN (Below.refl _ _) _); clear hw4; have hB4 := below_step hB2 hb4 hB2.size))
          go_roundw
          case rel => exact ⟨k + 1, by omega, by go_num, Lib.hid hB4, Lib.hid (by rw [HTK.out, HT.out]; exact own_below (own_below HO.out hb2 (Nat.le_refl _)) hb4 (Nat.le_refl _))⟩
          case measure => simp [intOf]; omega
      | false =>
        have HT := Lib.hid (toldF_no (names.take k) ls x (by rw [hok]; rfl))
        have HOK := Lib.hid hok
        clear hok
        go_wp2_with (go_at_call 44; refine (Nam.refParse_no x _ hsz HOK.out).mono ?_; rintro e w2 ⟨rfl, hb2⟩)
        go_roundw
        case rel => exact ⟨k + 1, by omega, by go_num, Lib.hid (below_step HB.out hb2 HB.out.size), Lib.hid (by rw [HTK.out, HT.out]; exact own_below HO.out hb2 (Nat.le_refl _))⟩
        case measure => simp [intOf]; omega
    · have hi1 : ¬ (k : Int) < (names.length : Int) := by omega
      have h := HO.out
      rw [show names.take k = names from List.take_of_length_le (by omega)] at h
      have HQ := Lib.hid h
      clear h
      go_wp2
      exact HP.out _ _ HB.out HQ.out
/-- What gather answers. -/
def GatPost (w : World) (nd : Nd) (e : Ending) (W : World) : Prop := Below w.heap.size w W ∧ ∃ v, e = .returned v ∧ W.ownsRow w.heap.size 9 1 v (gN allF nd).length (strs (gN allF nd))
theorem allF_len (s : ByteArray) : (allF s).length ≤ s.size + 1 := Nat.le_trans (firsts_len _) (winB_len s)
theorem strOf_of (s : ByteArray) : strOf s.data.toList = s := strOf_list s
theorem bytes_text (W : World) (s : ByteArray) (hn : s.size ≤ maxLen) : ∃ A cap w2, (convert 9 22 (.string s)).run Try.prog W = .ok (.slice A s.size cap) w2 ∧ Below W.heap.size W w2 ∧ BytAt w2 w2.heap.size (.slice A s.size cap) s.data.toList := by
  have h := bytes_conv W s.data.toList (by rw [Array.length_toList]; exact hn)
  rw [strOf_list, Array.length_toList] at h
  exact h
theorem refAll_text (s : ByteArray) (v : Value) (w : World) (hv : BytAt w w.heap.size v s.data.toList) (hs : s.size ≤ 1000000) : Calls Try.prog 8 #[v] w (AllPost w (allF s)) := by
  have := refAll_any v s.data.toList _ w hv (Nat.le_refl _) (by rw [Array.length_toList]; exact hs)
  rw [strOf_list] at this
  exact this
set_option maxRecDepth 1000000 in
set_option maxRecDepth 100000 in
set_option maxHeartbeats 8000000 in
theorem gather_any : ∀ (m : Nat) (nd : Nd), nd.es.count ≤ m → weiN nd ≤ 400000 → ∀ (w : World) (B : Nat), B ≤ w.heap.size → ∀ v, NdV w B v nd →
    Calls Try.prog 38 #[v] w (GatPost w nd) := by
  intro m
  induction m using Nat.strongRecOn with
  | ind m ih =>
  intro nd hm hwei w B hB v hv
  obtain ⟨ev, rfl, hes, hd, hk⟩ := hv
  obtain ⟨A, c, rfl, hlc, hcm⟩ := hes.form
  have HIH := Lib.hid (And.intro ih hm)
  clear ih hm
  have HP := Lib.hid (fun (W : World) (v : Value) (hb : Below w.heap.size w W) (h : W.ownsRow w.heap.size 9 1 v (gN allF nd).length (strs (gN allF nd))) => show GatPost w nd (.returned v) W from ⟨hb, v, rfl, h⟩)
  generalize GatPost w nd = post at *
  go_enter Try.func38, Try.ntmps38
  have hb0 : Below w.heap.size w (w.alloc (ndCells nd.k nd.d (.slice A nd.es.len c))) := (Below.refl _ w).alloc (Nat.le_refl _) _
  have hg0 : (w.alloc (ndCells nd.k nd.d (.slice A nd.es.len c))).heap[w.heap.size]? = some (ndCells nd.k nd.d (.slice A nd.es.len c)) := heap_alloc_new _ _
  have hsz : (w.alloc (ndCells nd.k nd.d (.slice A nd.es.len c))).heap.size = w.heap.size + 1 := by simp
  go_upto_region 1 with (fail)
  change Code.wp _ _ _ _ (w.alloc (ndCells nd.k nd.d (.slice A nd.es.len c)))
  generalize w.alloc (ndCells nd.k nd.d (.slice A nd.es.len c)) = W1 at *
  obtain ⟨hx0, hx1, hx2, _⟩ := nd_box hg0
  have HES := Lib.hid hes
  have hds : nd.d.size ≤ 400000 := by unfold weiN at hwei; omega
  have hwe : weiE nd.es ≤ 400000 := by unfold weiN at hwei; omega
  obtain ⟨A2, c2, W2, hcv, hb2, hy2⟩ := bytes_text W1 nd.d hd
  have HRA := Lib.hid (refAll_text nd.d _ W2 hy2 (by omega))
  have HB2 := Lib.hid (below_step hb0 hb2 (by omega))
  have HG2 := Lib.hid (show W2.heap[w.heap.size]? = some (ndCells nd.k nd.d (.slice A nd.es.len c)) from (hb2.block _ (by omega)).trans hg0)
  have HZ2 := Lib.hid (show w.heap.size + 1 ≤ W2.heap.size by have := hb2.size; omega)
  clear hes hb0 hg0 hsz hb2 hy2 hx2
  go_upto_region 2 with (go_at_call 8; refine HRA.out.mono ?_; rintro e W3 ⟨hb3, v3, rfl, ho3⟩)
  have HB3 := Lib.hid (below_step HB2.out hb3 HB2.out.size)
  have HG3 := Lib.hid (show W3.heap[w.heap.size]? = some (ndCells nd.k nd.d (.slice A nd.es.len c)) from (hb3.block _ (by have := HZ2.out; omega)).trans HG2.out)
  have HO3 := Lib.hid (own_base ho3 HZ2.out)
  have HZ3 := Lib.hid (show w.heap.size + 1 ≤ W3.heap.size by have := hb3.size; have := HZ2.out; omega)
  clear hb3 ho3 HRA hcv hx0 hx1 HB2 HG2
  go_wp2
  go_loopg [3, 4] nd.es.len (fun g u3 u4 wx => ∃ i : Nat, u4 = .int .i64 (i : Int) ∧ i + g = nd.es.len ∧ Hid (Below w.heap.size w wx) ∧ Hid (wx.heap[w.heap.size]? = some (ndCells nd.k nd.d (.slice A nd.es.len c))) ∧
    Hid (wx.ownsRow (w.heap.size + 1) 9 1 u3 (allF nd.d ++ gTo allF nd.es i).length (strs (allF nd.d ++ gTo allF nd.es i))))
  case atStart => exact ⟨0, rfl, by omega, HB3, HG3, Lib.hid (by rw [gTo_zero, List.append_nil]; exact HO3.out)⟩
  case round =>
    obtain ⟨i, rfl, hig, HB, HG, HO⟩ := hrel
    have hzr := block_lt HG.out
    obtain ⟨hn0, hn1, hn2, _⟩ := nd_box HG.out
    clear hn0 hn1
    cases gk with
    | zero =>
      obtain rfl : i = nd.es.len := by omega
      have h := HO.out
      rw [gTo_all] at h
      have HQ := Lib.hid (HP.out wr u3 HB.out (own_base h (Nat.le_succ _)))
      clear h
      go_wp2
      exact HQ.out
    | succ g =>
      have hil : i < nd.es.len := by omega
      obtain ⟨ab, ao, rfl, hlt, hcs⟩ := es_addr HES.out (by omega)
      obtain ⟨hk1, hk2, hk3, hk4, A4, c4, hk5, hk6⟩ := kid_at hcs hil hlt
      obtain ⟨hk0, hk7⟩ := name_at hcs hil
      have hq0 : wr.cell? ⟨ab, ao + i * 4, none⟩ = _ := (HB.out.cell (p := ⟨ab, ao + i * 4, none⟩) (by show ab < _; omega)).trans hk0
      have HKC := Lib.hid (fun (W : World) (h : Below w.heap.size w W) => show W.cell? ⟨ab, ao + i * 4 + 1, none⟩ = some (.int .u8 ((kidE nd.es i).k : Int)) ∧ W.cell? ⟨ab, ao + i * 4 + 2, none⟩ = some (.string (kidE nd.es i).d) ∧ W.cell? ⟨ab, ao + i * 4 + 3, none⟩ = some (.slice A4 (kidE nd.es i).es.len c4) from
        ⟨(h.cell (p := ⟨ab, ao + i * 4 + 1, none⟩) (by show ab < _; omega)).trans hk1, (h.cell (p := ⟨ab, ao + i * 4 + 2, none⟩) (by show ab < _; omega)).trans hk2, (h.cell (p := ⟨ab, ao + i * 4 + 3, none⟩) (by show ab < _; omega)).trans hk5⟩)
      have hkc := kid_count nd.es i hil
      have hwk := wei_kid nd.es i hil
      have hst := gTo_step allF nd.es i hil
      have hgl := gTo_len allF_len nd.es i (by omega)
      have hgk := gN_len allF_len (kidE nd.es i)
      have hwt : weiTo nd.es i ≤ 400000 := Nat.le_trans (weiTo_le nd.es i) hwe
      have hfd := allF_len nd.d
      have hfn := allF_len (nmE nd.es i)
      have HREC := Lib.hid (fun (W : World) (hW : Below w.heap.size w W) => HIH.out.1 (kidE nd.es i).es.count (by have := HIH.out.2; omega) (kidE nd.es i) (Nat.le_refl _) (by omega) W B (Nat.le_trans hB hW.size) (.agg #[.int .u8 ((kidE nd.es i).k : Int), .string (kidE nd.es i).d, .slice A4 (kidE nd.es i).es.len c4]) ⟨_, rfl, hk6.keep (hW.mono hB), hk3, hk4⟩)
      have hnz : (nmE nd.es i).size ≤ 400000 := by omega
      obtain ⟨A5, c5, W5, hcv5, hb5, hy5⟩ := bytes_text wr (nmE nd.es i) hk7
      have HRA := Lib.hid (refAll_text (nmE nd.es i) _ W5 hy5 (by omega))
      have HBS := Lib.hid (below_step HB.out hb5 HB.out.size)
      have HO5 := Lib.hid (own_below HO.out hb5 (Nat.le_refl _))
      have HG5 := Lib.hid ((hb5.block _ hzr).trans HG.out)
      have hz5 := hb5.size
      have HLN := Lib.hid (show (allF nd.d ++ gTo allF nd.es i).length + (allF (nmE nd.es i)).length + (gN allF (kidE nd.es i)).length ≤ 3000000 by rw [List.length_append]; omega)
      have HST := Lib.hid (show allF nd.d ++ gTo allF nd.es (i + 1) = (allF nd.d ++ gTo allF nd.es i ++ allF (nmE nd.es i)) ++ gN allF (kidE nd.es i) by rw [hst]; simp only [List.append_assoc])
      generalize allF nd.d ++ gTo allF nd.es i = L1 at *
      generalize allF (nmE nd.es i) = L2 at *
      generalize hL3 : gN allF (kidE nd.es i) = L3 at *
      have HL3 := Lib.hid hL3
      clear hL3
      generalize kidE nd.es i = kd at *
      generalize nmE nd.es i = nmk at *
      have hw2 : IntKind.i64.wrap ((i : Int) + 1) = (i : Int) + 1 := IntWalk.i64_in _ (by unfold maxLen at hcm; omega)
      have hiI : (i : Int) < (nd.es.len : Int) := by omega
      have hi0 : (0 : Int) ≤ (i : Int) := by omega
      clear hkc hwk hst hgl hgk hwt hfd hfn hcs hk0 hk1 hk2 hk3 hk4 hk5 hk6 hk7 hb5 hy5 hnz
      go_wp2_with fail
      refine HRA.out.mono ?_
      rintro e W6 ⟨hb6, v6, rfl, ho6⟩
      obtain ⟨A6, c6, rfl, hmc6, hA6, hnw6⟩ := (Reads.own ho6).shape
      have ho1 := own_below HO5.out hb6 (Nat.le_refl _)
      have hB6 := below_step HBS.out hb6 HBS.out.size
      have hG6 := (hb6.block _ (block_lt HG5.out)).trans HG5.out
      have hz6 := hb6.size
      have HG6 := Lib.hid hG6
      have HB6 := Lib.hid hB6
      clear hb6 ho6 HRA hcv5 hq0 hG6 hB6 hn2
      go_upto_region 6 with (at_builtin; go_loud (refine wpList_app_strs rfl _ _ rfl (w.heap.size + 1) _ L1 L2 rfl ho1 A6 c6 rfl hA6 hmc6 hnw6 (by have := HLN.out; omega) (by omega) ?_); intro v7 W7 ho7 hg7)
      have HB7 := Lib.hid (HB6.out.grown hg7 HB6.out.size (fun j e => by have := own_ge ho1 e; omega))
      have HG7 := Lib.hid ((hg7.block _ (block_lt HG6.out) (fun e => by have := own_ge ho1 e.symm; omega)).trans HG6.out)
      have hz7 := hg7.size
      obtain ⟨_, _, hn2, _⟩ := nd_box HG7.out
      obtain ⟨hq1, hq2, hq3⟩ := HKC.out W7 HB7.out
      have HRC := Lib.hid (HREC.out W7 HB7.out)
      have HO7 := Lib.hid ho7
      clear hg7 ho1 hnw6 hA6 hmc6 ho7
      go_wp2_with fail
      refine HRC.out.mono ?_
      rintro e W8 ⟨hb8, v8, rfl, ho8⟩
      rw [HL3.out] at ho8
      obtain ⟨A8, c8, rfl, hmc8, hA8, hnw8⟩ := (Reads.own ho8).shape
      have ho9 := own_below HO7.out hb8 (Nat.le_refl _)
      have HB8 := Lib.hid (below_step HB7.out hb8 HB7.out.size)
      have HG8 := Lib.hid ((hb8.block _ (block_lt HG7.out)).trans HG7.out)
      have hz8 := hb8.size
      clear hb8 ho8 HRC hq1 hq2 hq3 hn2
      go_wp2_with (at_builtin; go_loud (refine wpList_app_strs rfl _ _ rfl (w.heap.size + 1) _ (L1 ++ L2) L3 rfl ho9 A8 c8 rfl hA8 hmc8 hnw8 (by have := HLN.out; rw [List.length_append]; omega) (by omega) ?_); intro v9 W9 ho10 hg9)
      go_roundg g
      case measure => omega
      case rel =>
        refine ⟨i + 1, by simp, by omega, Lib.hid (HB8.out.grown hg9 HB8.out.size (fun j e => by have := own_ge ho9 e; omega)), Lib.hid ((hg9.block _ (block_lt HG8.out) (fun e => by have := own_ge ho9 e.symm; omega)).trans HG8.out), Lib.hid ?_⟩
        rw [HST.out]
        exact ho10
end Go.Proofs.Ytadlimfpcfdgcaa
