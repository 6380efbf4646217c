/- files: insert. -/
import Derived.Test.YtmcafiihicanfaaDoorFilQa
import Derived.Test.YtmcafiihicanfaaDoorFmU
set_option linter.unusedVariables false
set_option linter.unusedSimpArgs false
namespace Go.Proofs.YtmcafiihicanfaaDoor
open Go Go.RowKit Go.BigFrame
open Fil (Es Nd Sp)

theorem infoEnt : (Tryd.prog.info? 48).map (fun i => (i.zero, i.size, i.bytes)) = some (some (.agg #[.string ⟨#[]⟩, .int .u8 0, .string ⟨#[]⟩, .slice none 0 0]), 4, 64) := by kernel_rfl
/-- append to a row of the call's own, of what another slice holds, which may be nil. -/
theorem wpList_app_opt {P : Program} {w : World} {ops : Array Oper} {rest : List Oper} {o : Oper} {a : Act} {Q : Exit → Act → World → Prop} (hgd : o.guard = none) (s x : Operand) (t : TypeId)
    (ho : o.op = .call { callee := .builtin .append, args := #[s, x], argTypes := #[t, t] })
    (base : Nat) (e : TypeId) (i : TypeInfo) (z : Value) (size bytes : Nat) (ht : P.underlying t = some (.slice e)) (hi : P.info? e = some i) (hz : i.zero = some z) (hs1 : i.size = size) (hb1 : i.bytes = bytes) (hzs : z.cells.size = size) (hsz : 0 < size)
    (v : Value) (n : Nat) (xs : List Value) (hs : a.eval s = v) (hown : w.ownsRow base e size v n xs) (A : Option Addr) (m c : Nat) (news : List Value) (hx : a.eval x = .slice A m c) (hA : A = none → c = 0) (hmc : m ≤ c) (hl : news.length = m * size)
    (hnews : ∀ ad, A = some ad → ∀ j u, news[j]? = some u → w.cell? (ad.add j) = some u) (h1 : ∀ u ∈ news, u.oneCell' = true)
    (h63 : n + m ≤ maxLen) (hbytes : (n + m) * bytes ≤ 140737488355328) (hbase : base ≤ w.heap.size)
    (h : ∀ v' w', w'.ownsRow base e size v' (n + m) (xs ++ news) → w.grownBy w' v.ownBlock → wpList P ops Q rest (a.put o.dst v') w') : wpList P ops Q (o :: rest) a w := by
  cases A with
  | none =>
    have hc := hA rfl
    subst hc
    obtain rfl : m = 0 := by omega
    obtain rfl : news = [] := List.eq_nil_of_length_eq_zero (by simpa using hl)
    refine wpList_append_own_none hgd s x t ho base e i size ht hi v n xs hs hown hx ?_
    exact h v w (by simpa using hown) (World.grownBy.refl w _)
  | some ad =>
    exact wpList_append_own w hgd s x t ho base e i z size bytes ht hi hz hs1 hb1 hzs hsz v n xs hs hown ad m c news hx hl (hnews ad rfl) h1 h63 hbytes hbase fun v' w' h2 h3 _ => h v' w' h2 h3
theorem es_row {w : World} {B : Nat} {A : Option Addr} {c : Nat} {es : Es} (h : EsAt w B (.slice A es.len c) es) :
    ∃ xs, EntL w B es xs ∧ (∀ ad, A = some ad → ad.block < B ∨ es.len = 0) ∧ (∀ ad, A = some ad → ∀ j u, xs[j]? = some u → w.cell? (ad.add j) = some u) ∧ (A = none → c = 0) := by
  have hn : A = none → c = 0 := by
    obtain ⟨A', c', e, _, _, h4, _⟩ := h
    injection e with e1 e2 e3
    rw [e1, e3]; exact h4
  rcases Nat.eq_zero_or_pos es.len with h0 | hp
  · have hE : es = .nil := by
      cases es with
      | nil => rfl
      | cons _ _ _ _ _ => simp [Es.len] at h0
    exact ⟨[], by rw [hE]; rfl, fun _ _ => .inr h0, fun _ _ j u hu => by simp at hu, hn⟩
  · obtain ⟨ab, ao, rfl, hlt, hcs⟩ := es_addr h hp
    obtain ⟨xs, h1, h2⟩ := cells_ents hcs
    refine ⟨xs, h1, fun ad e => ?_, fun ad e j u hu => ?_, hn⟩
    · cases e; exact .inl hlt
    · cases e; rw [add_none]; exact h2 j u hu
/-- What is behind a row's beginning, in memory. -/
theorem row_behind {w : World} {A : Option Addr} {c i : Nat} {xs : List Value} (hxs : xs.length ≤ 4 * c) (h : ∀ ad, A = some ad → ∀ j u, xs[j]? = some u → w.cell? (ad.add j) = some u) (hA : A = none → c = 0) (hic : i ≤ c) :
    (∀ ad, (if c = i then A else A.map (fun x => x.add (i * 4))) = some ad → ∀ j u, (xs.drop (4 * i))[j]? = some u → w.cell? (ad.add j) = some u) ∧ ((if c = i then A else A.map (fun x => x.add (i * 4))) = none → c - i = 0) := by
  refine ⟨fun ad he j u hu => ?_, fun he => ?_⟩
  · rw [List.getElem?_drop] at hu
    have hlt : 4 * i + j < xs.length := (List.getElem?_eq_some_iff.1 hu).1
    rw [if_neg (by omega)] at he
    cases A with
    | none => cases he
    | some a =>
      cases he
      rw [add_two, show i * 4 + j = 4 * i + j by omega]
      exact h a rfl _ _ hu
  · split at he
    · omega
    · cases A with
      | none => have := hA rfl; omega
      | some a => cases he
theorem ownE_cells {w : World} {base n : Nat} {v : Value} {es : Es} {xs : List Value} {B : Nat} (h : w.ownsRow base 48 4 v n xs) (hn : n = es.len) (hl : EntL w B es xs) (hB : B ≤ w.heap.size) (hb : n ≤ maxLen) : EsAt w w.heap.size v es := by
  subst hn
  rcases h.2 with ⟨rfl, h0⟩ | ⟨g, cap, cur, rfl, hg, hgg, hnc, hcm, hcs, htk⟩
  · exact ⟨none, 0, by rw [h0], by omega, Nat.zero_le _, fun _ => rfl, fun hp => by omega⟩
  · refine ⟨_, _, rfl, hnc, hcm, (fun e => by cases e), fun _ => ⟨_, rfl, block_lt hgg, ents_cells (hl.more hB) fun j u hu => ?_⟩⟩
    have := h.cells (g := g) rfl j u hu
    rwa [add_none] at this
theorem cells_drop {w : World} {B : Nat} : ∀ {es : Es} {ab ao : Nat} (i : Nat), CellsAt w B es ⟨ab, ao, none⟩ → CellsAt w B (dropE i es) ⟨ab, ao + i * 4, none⟩
  | es, ab, ao, 0, h => by simpa [dropE] using h
  | .nil, _, _, i + 1, _ => trivial
  | .cons nm k d s nx, ab, ao, i + 1, h => by
    obtain ⟨_, _, _, _, _, _, _, h11⟩ := h
    rw [add_none] at h11
    have := cells_drop i h11
    rw [show ao + 4 + i * 4 = ao + (i + 1) * 4 by omega] at this
    exact this
theorem take_get {xs : List Value} {n j : Nat} {u : Value} (h : (xs.take n)[j]? = some u) : xs[j]? = some u := by
  rw [List.getElem?_take] at h
  split at h
  · exact h
  · cases h
theorem behind_lt {A : Option Addr} {B n k : Nat} (h : ∀ ad, A = some ad → ad.block < B ∨ n = 0) {ad : Addr} (e : A.map (fun x => x.add k) = some ad) (hn : 0 < n) {m : Nat} (hm : B ≤ m) : ad.block < m + 3 := by
  cases A with
  | none => cases e
  | some a =>
    cases e
    rw [add_block]
    rcases h a rfl with h | h <;> omega
theorem own_at4 {w : World} {base n : Nat} {e : TypeId} {v : Value} {xs : List Value} (h : w.ownsRow base e 4 v n xs) (hn : 0 < n) : ∃ g cap, v = .slice (some ⟨g, 0, none⟩) n cap := by
  rcases h.2 with ⟨_, e⟩ | ⟨g, cap, cur, rfl, _⟩
  · omega
  · exact ⟨g, cap, rfl⟩
theorem four_cells {w : World} {g : Nat} {T : TypeId} {xs : List Value} (h : w.heap[g]? = some (.cells xs.toArray T (0, 0))) : ∀ j u, xs[j]? = some u → w.cell? ((⟨g, 0, none⟩ : Addr).add j) = some u := fun j u hu => row_cells h j u (by simpa using hu)
set_option maxRecDepth 1000000 in
set_option maxRecDepth 100000 in
set_option maxHeartbeats 4000000 in
theorem insert_any (w : World) (B : Nat) (hB : B ≤ w.heap.size) (v vx : Value) (nd x : Nd) (hv : NdV w B v nd) (hvx : NdV w B vx x) (nm : ByteArray) (hnm : nm.size ≤ maxLen) (hfew : nd.es.len ≤ 1000000) :
    Calls Tryd.prog 54 #[v, .string nm, vx] w fun e W => Below w.heap.size w W ∧ ∃ v', e = .returned v' ∧ NdV W W.heap.size v' ⟨nd.k, nd.d, insE nm x nd.es⟩ := by
  obtain ⟨ev, rfl, hes, hd, hk⟩ := hv
  obtain ⟨A, c, rfl, hlc, hcm⟩ := hes.form
  obtain ⟨ex, rfl, hex, hdx, hkx⟩ := hvx
  obtain ⟨Ax, cx, rfl, hlcx, hcmx⟩ := hex.form
  obtain ⟨i0, hi0, hz0, hz1, hzb⟩ := info_parts infoEnt
  go_enter Tryd.func54, Tryd.ntmps54
  have hw1 : IntKind.i64.wrap ((nd.es.len : Int) + 1) = (nd.es.len : Int) + 1 := IntWalk.i64_in _ (by omega)
  go_wp2_with (refine wpList_make_own _ rfl _ _ _ rfl (w.heap.size + 3) 48 i0 _ 4 Tryd.underlying24 hi0 hz0 hz1 _ _ _ (nd.es.len + 1) rfl rfl (by push_cast; rfl) ?m1 ?m2 ?m3 ?_)
  case m1 => rw [hzb]; omega
  case m2 => unfold maxLen; omega
  case m3 => simp
  intro w4 hown4 hgrow4
  have hNz : ∀ k, k < w.heap.size + 3 → w4.heap[k]? = (((w.alloc (.cells #[.int .u8 (nd.k : Int), .string nd.d, .slice A nd.es.len c] 26)).alloc (.cells #[.int .u8 (x.k : Int), .string x.d, .slice Ax x.es.len cx] 26)).alloc (.cells #[.int .u8 0, .string ⟨#[]⟩, .slice none 0 0] 26)).heap[k]? := fun k hk => hgrow4.block k (by simp; omega) (fun e => by cases e)
  have hb0 : w4.heap[w.heap.size]? = some (ndCells nd.k nd.d (.slice A nd.es.len c)) := (hNz _ (by omega)).trans ((old_block _ _ _ (by simp <;> omega)).trans ((old_block _ _ _ (by simp <;> omega)).trans (heap_alloc_new _ _)))
  have hb1 : w4.heap[w.heap.size + 1]? = some (ndCells x.k x.d (.slice Ax x.es.len cx)) := (hNz _ (by omega)).trans ((old_block _ _ _ (by simp <;> omega)).trans (heap_alloc2_new _ _ _))
  have hb2 : w4.heap[w.heap.size + 2]? = some (ndCells 0 ⟨#[]⟩ (.slice none 0 0)) := (hNz _ (by omega)).trans (by
    obtain ⟨w3, e3, _, _, h3, _⟩ := rows3 w (.cells #[.int .u8 (nd.k : Int), .string nd.d, .slice A nd.es.len c] 26) (.cells #[.int .u8 (x.k : Int), .string x.d, .slice Ax x.es.len cx] 26) (.cells #[.int .u8 0, .string ⟨#[]⟩, .slice none 0 0] 26)
    rw [← e3]; exact h3)
  have hbw4 : Below w.heap.size w w4 := ((((Below.refl _ w).alloc (Nat.le_refl _) _).alloc (by simp) _).alloc (by simp; omega) _).grown hgrow4 (by simp; omega) (fun k e => by cases e)
  have hz4 : w.heap.size + 3 ≤ w4.heap.size := by have := hgrow4.size; simp at this; omega
  have HES := Lib.hid (And.intro hes hex)
  have H4 := Lib.hid (And.intro hown4 (And.intro hb0 (And.intro hb1 (And.intro hb2 (And.intro hbw4 hz4)))))
  obtain ⟨hn0, hn1, hn2, _⟩ := nd_box hb0
  clear hn0 hn1 hown4 hgrow4 hNz hb0 hb1 hb2 hbw4 hes hex hz4
  go_wp2
  go_loopg [8] nd.es.len (fun g u8 wx => ∃ i : Nat, u8 = .int .i64 (i : Int) ∧ i + g = nd.es.len ∧ wx = w4 ∧ Hid (i ≤ aheadE nm nd.es))
  case atStart => exact ⟨0, rfl, by omega, rfl, Nat.zero_le _⟩
  case round =>
    obtain ⟨i, rfl, hig, rfl, HI⟩ := hrel
    cases gk with
    | zero =>
      obtain rfl : i = nd.es.len := by omega
      have HA := Lib.hid (show aheadE nm nd.es = nd.es.len by have := aheadE_le nm nd.es; have := HI.out; omega)
      have HROW := Lib.hid (es_row (HES.out.1.keep (H4.out.2.2.2.2.1.mono hB)))
      have hnb := H4.out.2.1
      obtain ⟨xs, hx1, hx2, hx3, hx4⟩ := HROW.out
      have hxl : xs.length = 4 * nd.es.len := hx1.len
      have hbh := row_behind (i := nd.es.len) (c := c) (by omega) hx3 hx4 (by omega)
      have HX := Lib.hid (And.intro hx1 (And.intro hx2 (And.intro hx3 (And.intro hx4 (And.intro hxl hbh)))))
      clear hx1 hx2 hx3 hx4 hbh HROW
      have HL := Lib.hid hxl
      clear hxl
      go_wp2_with (at_builtin; refine wpList_app_opt rfl _ _ 24 rfl (w.heap.size + 3) 48 i0 _ 4 64 Tryd.underlying24 hi0 hz0 hz1 hzb rfl (by decide) _ _ _ rfl H4.out.1 _ nd.es.len _ (xs.take (4 * nd.es.len)) rfl HX.out.2.2.2.1 (by omega) (by rw [List.length_take]; have := HL.out; omega) (fun ad e j u hu => HX.out.2.2.1 ad e j u (take_get hu)) (fun u hu => HX.out.1.one u (List.mem_of_mem_take hu)) (by unfold maxLen; omega) (by omega) H4.out.2.2.2.2.2 ?_)
      intro v5 w5 hown5 hg5
      have hb5 : Below (w.heap.size + 3) wr w5 := (Below.refl _ _).grown hg5 H4.out.2.2.2.2.2 (fun k e => (H4.out.1.lt k e).1)
      obtain ⟨hm0, hm1, hm2, _⟩ := nd_box ((hb5.block _ (by omega)).trans H4.out.2.2.1)
      have H5 := Lib.hid (And.intro hown5 (And.intro hb5 hg5.size))
      clear hown5 hb5 hg5
      go_wp2_with (at_builtin; refine wpList_app_opt rfl _ _ 24 rfl (w.heap.size + 3) 48 i0 _ 4 64 Tryd.underlying24 hi0 hz0 hz1 hzb rfl (by decide) _ _ _ rfl (H5.out.1.alloc _) _ 1 _ [.string nm, .int .u8 (x.k : Int), .string x.d, .slice Ax x.es.len cx] rfl (fun e => by cases e) (Nat.le_refl 1) rfl (fun ad e j u hu => by cases e; exact four_cells (heap_alloc_new _ _) j u hu) ?a5 (by unfold maxLen; omega) (by omega) (by have := H5.out.2.2; have := H4.out.2.2.2.2.2; simp; omega) ?_)
      case a5 => intro u hu; simp at hu; rcases hu with rfl | rfl | rfl | rfl <;> rfl
      intro v6 w6 hown6 hg6
      have hb6 : Below (w.heap.size + 3) wr w6 := (H5.out.2.1.alloc (by have := H5.out.2.2; have := H4.out.2.2.2.2.2; omega) _).grown hg6 (by have := H5.out.2.2; have := H4.out.2.2.2.2.2; simp; omega) (fun k e => (H5.out.1.lt k e).1)
      obtain ⟨_, _, hp2, _⟩ := nd_box ((hb6.block _ (by omega)).trans H4.out.2.1)
      have hz6 : w.heap.size + 3 ≤ w6.heap.size := by have := hg6.size; have := H5.out.2.2; have := H4.out.2.2.2.2.2; simp at *; omega
      have H6 := Lib.hid (And.intro hown6 (And.intro hb6 hz6))
      clear hown6 hb6 hg6 hz6
      rcases Nat.eq_or_lt_of_le hlc with hci | hci
      · subst hci
        go_wp2_with (at_builtin; refine wpList_app_opt rfl _ _ 24 rfl (w.heap.size + 3) 48 i0 _ 4 64 Tryd.underlying24 hi0 hz0 hz1 hzb rfl (by decide) _ _ _ rfl H6.out.1 A _ _ (xs.drop (4 * nd.es.len)) rfl (by intro _; rfl) (by omega) ?p3 ?p4 ?p5 (by unfold maxLen; omega) (by omega) H6.out.2.2 ?_)
        case p3 => have := HL.out; (try simp only [List.length_drop]); omega
        case p4 => exact fun ad e j u hu => by have h0 := (List.getElem?_eq_some_iff.1 hu).1; (try simp only [List.length_drop] at h0); have := HL.out; omega
        case p5 => exact fun u hu => HX.out.1.one u (List.mem_of_mem_drop hu)
        intro v7 w7 hown7 hg7
        have hb7 : Below (w.heap.size + 3) wr w7 := H6.out.2.1.grown hg7 H6.out.2.2 (fun k e => (H6.out.1.lt k e).1)
        obtain ⟨g7, c7, rfl⟩ := own_at4 hown7 (by omega)
        obtain ⟨hq0, hq1, hq2, _, _, hq5⟩ := nd_box ((hb7.block _ (by omega)).trans H4.out.2.1)
        have hr7 := (hb7.block (w.heap.size + 2) (by omega)).trans H4.out.2.2.2.1
        have hz7 : w.heap.size + 3 ≤ w7.heap.size := Nat.le_trans H6.out.2.2 hg7.size
        have HI7 := Lib.hid (show insE nm x nd.es = appE (takeE nd.es.len nd.es) (.cons nm x.k x.d x.es (dropE nd.es.len nd.es)) by unfold insE; rw [HA.out])
        have hlen7 : (nd.es.len + 1) = (insE nm x nd.es).len := by rw [HI7.out, app_len, take_len _ _ (by omega)]; show _ = _ + ((dropE nd.es.len nd.es).len + 1); rw [drop_len _ _ (by omega)]; omega
        have hrb : (w7.setCell ⟨w.heap.size, 2, none⟩ (.slice (some ⟨g7, 0, none⟩) (nd.es.len + 1) c7)).heap[w.heap.size + 2]? = some (.cells #[.int .u8 0, .string ⟨#[]⟩, .slice none 0 0] 26 (0, 0)) := (heap_setCell_other _ _ _ _ (by show w.heap.size + 2 ≠ w.heap.size; omega)).trans hr7
        have H7 := Lib.hid (And.intro hown7 (And.intro hb7 (And.intro hz7 hlen7)))
        clear hown7 hb7 hz7 hlen7 hg7 hr7
        go_wp2_with (refine wpList_store_row rfl _ _ _ rfl _ _ rfl rfl _ _ hrb (by kernel_rfl) (by rfl) (by simp [Value.oneCell']) ?_)
        have hch : Ch w7 ((w7.setCell ⟨w.heap.size, 2, none⟩ (.slice (some ⟨g7, 0, none⟩) (nd.es.len + 1) c7)).setRow (w.heap.size + 2) #[.int .u8 (nd.k : Int), .string nd.d, .slice (some ⟨g7, 0, none⟩) (nd.es.len + 1) c7]) (fun k => k < w.heap.size + 3 ∧ w.heap.size ≤ k) := by
          have h1 := (Ch.refl w7 (fun k => k < w.heap.size + 3 ∧ w.heap.size ≤ k)).setCell (p := ⟨w.heap.size, 2, none⟩) ⟨by show w.heap.size < _; omega, Nat.le_refl _⟩ (.slice (some ⟨g7, 0, none⟩) (nd.es.len + 1) c7)
          exact ⟨h1.os, h1.tape, h1.output, by simp, fun k hk hn => (setRow_other _ _ _ _ (by omega)).trans (h1.block k hk hn)⟩
        have hbl : Below w.heap.size wr ((w7.setCell ⟨w.heap.size, 2, none⟩ (.slice (some ⟨g7, 0, none⟩) (nd.es.len + 1) c7)).setRow (w.heap.size + 2) #[.int .u8 (nd.k : Int), .string nd.d, .slice (some ⟨g7, 0, none⟩) (nd.es.len + 1) c7]) :=
          (H7.out.2.1.mono (by omega)).trans (hch.below (by have := H7.out.2.2.1; omega) (fun k h => h.2))
        have hown := hch.own H7.out.1 (fun b hb h => by have := (H7.out.1.lt b hb).1; omega)
        have hE := ownE_cells hown H7.out.2.2.2 (B := B) (by
          rw [HI7.out]
          try rw [List.append_assoc]
          exact ((HX.out.1.take nd.es.len).app (show EntL wr B (.cons nm x.k x.d x.es (dropE nd.es.len nd.es)) _ from ⟨_, _, rfl, hnm, hdx, hkx, HES.out.2.keep (H4.out.2.2.2.2.1.mono hB), HX.out.1.drop nd.es.len⟩)).keep (hbl.mono hB)) (by have := hch.size; have := H7.out.2.2.1; omega) (by unfold maxLen; omega)
        have hi : (Tryd.prog.info? 26).map (·.size) = some 3 := by kernel_rfl
        refine bodyPost_ret (results_cell_row rfl _ _ _ _ _ _ _ rfl (setRow_heap _ _ _ _ _ _ hrb) Tryd.underlying26 (by rfl) hi) rfl ⟨H4.out.2.2.2.2.1.trans hbl, _, rfl, _, rfl, hE, hd, hk⟩
      · have hcn : ¬ c = nd.es.len := by omega
        go_wp2_with (at_builtin; refine wpList_app_opt rfl _ _ 24 rfl (w.heap.size + 3) 48 i0 _ 4 64 Tryd.underlying24 hi0 hz0 hz1 hzb rfl (by decide) _ _ _ rfl H6.out.1 (A.map (fun x => x.add (nd.es.len * 4))) _ _ (xs.drop (4 * nd.es.len)) rfl ?q1 (by omega) ?q3 ?q4 ?q5 (by unfold maxLen; omega) (by omega) H6.out.2.2 ?_)
        case q1 => have h := HX.out.2.2.2.2.2.2; rw [if_neg (by omega)] at h; exact h
        case q3 => have := HL.out; (try simp only [List.length_drop]); omega
        case q4 => have h := HX.out.2.2.2.2.2.1; rw [if_neg (by omega)] at h; exact fun ad e j u hu => (H6.out.2.1.cell (p := ad.add j) (by rw [add_block]; exact behind_lt HX.out.2.1 e (by have h0 := (List.getElem?_eq_some_iff.1 hu).1; rw [List.length_drop] at h0; have := HL.out; omega) hB)).trans (h ad e j u hu)
        case q5 => exact fun u hu => HX.out.1.one u (List.mem_of_mem_drop hu)
        intro v7 w7 hown7 hg7
        have hb7 : Below (w.heap.size + 3) wr w7 := H6.out.2.1.grown hg7 H6.out.2.2 (fun k e => (H6.out.1.lt k e).1)
        obtain ⟨g7, c7, rfl⟩ := own_at4 hown7 (by omega)
        obtain ⟨hq0, hq1, hq2, _, _, hq5⟩ := nd_box ((hb7.block _ (by omega)).trans H4.out.2.1)
        have hr7 := (hb7.block (w.heap.size + 2) (by omega)).trans H4.out.2.2.2.1
        have hz7 : w.heap.size + 3 ≤ w7.heap.size := Nat.le_trans H6.out.2.2 hg7.size
        have HI7 := Lib.hid (show insE nm x nd.es = appE (takeE nd.es.len nd.es) (.cons nm x.k x.d x.es (dropE nd.es.len nd.es)) by unfold insE; rw [HA.out])
        have hlen7 : (nd.es.len + 1) = (insE nm x nd.es).len := by rw [HI7.out, app_len, take_len _ _ (by omega)]; show _ = _ + ((dropE nd.es.len nd.es).len + 1); rw [drop_len _ _ (by omega)]; omega
        have hrb : (w7.setCell ⟨w.heap.size, 2, none⟩ (.slice (some ⟨g7, 0, none⟩) (nd.es.len + 1) c7)).heap[w.heap.size + 2]? = some (.cells #[.int .u8 0, .string ⟨#[]⟩, .slice none 0 0] 26 (0, 0)) := (heap_setCell_other _ _ _ _ (by show w.heap.size + 2 ≠ w.heap.size; omega)).trans hr7
        have H7 := Lib.hid (And.intro hown7 (And.intro hb7 (And.intro hz7 hlen7)))
        clear hown7 hb7 hz7 hlen7 hg7 hr7
        go_wp2_with (refine wpList_store_row rfl _ _ _ rfl _ _ rfl rfl _ _ hrb (by kernel_rfl) (by rfl) (by simp [Value.oneCell']) ?_)
        have hch : Ch w7 ((w7.setCell ⟨w.heap.size, 2, none⟩ (.slice (some ⟨g7, 0, none⟩) (nd.es.len + 1) c7)).setRow (w.heap.size + 2) #[.int .u8 (nd.k : Int), .string nd.d, .slice (some ⟨g7, 0, none⟩) (nd.es.len + 1) c7]) (fun k => k < w.heap.size + 3 ∧ w.heap.size ≤ k) := by
          have h1 := (Ch.refl w7 (fun k => k < w.heap.size + 3 ∧ w.heap.size ≤ k)).setCell (p := ⟨w.heap.size, 2, none⟩) ⟨by show w.heap.size < _; omega, Nat.le_refl _⟩ (.slice (some ⟨g7, 0, none⟩) (nd.es.len + 1) c7)
          exact ⟨h1.os, h1.tape, h1.output, by simp, fun k hk hn => (setRow_other _ _ _ _ (by omega)).trans (h1.block k hk hn)⟩
        have hbl : Below w.heap.size wr ((w7.setCell ⟨w.heap.size, 2, none⟩ (.slice (some ⟨g7, 0, none⟩) (nd.es.len + 1) c7)).setRow (w.heap.size + 2) #[.int .u8 (nd.k : Int), .string nd.d, .slice (some ⟨g7, 0, none⟩) (nd.es.len + 1) c7]) :=
          (H7.out.2.1.mono (by omega)).trans (hch.below (by have := H7.out.2.2.1; omega) (fun k h => h.2))
        have hown := hch.own H7.out.1 (fun b hb h => by have := (H7.out.1.lt b hb).1; omega)
        have hE := ownE_cells hown H7.out.2.2.2 (B := B) (by
          rw [HI7.out]
          try rw [List.append_assoc]
          exact ((HX.out.1.take nd.es.len).app (show EntL wr B (.cons nm x.k x.d x.es (dropE nd.es.len nd.es)) _ from ⟨_, _, rfl, hnm, hdx, hkx, HES.out.2.keep (H4.out.2.2.2.2.1.mono hB), HX.out.1.drop nd.es.len⟩)).keep (hbl.mono hB)) (by have := hch.size; have := H7.out.2.2.1; omega) (by unfold maxLen; omega)
        have hi : (Tryd.prog.info? 26).map (·.size) = some 3 := by kernel_rfl
        refine bodyPost_ret (results_cell_row rfl _ _ _ _ _ _ _ rfl (setRow_heap _ _ _ _ _ _ hrb) Tryd.underlying26 (by rfl) hi) rfl ⟨H4.out.2.2.2.2.1.trans hbl, _, rfl, _, rfl, hE, hd, hk⟩
    | succ g =>
      have hil : i < nd.es.len := by omega
      obtain ⟨ab, ao, rfl, hlt, hcs⟩ := es_addr HES.out.1 (by omega)
      obtain ⟨nm', k', d', s', hdr, hkd⟩ := drop_head nd.es i hil
      have hc0 : wr.cell? ⟨ab, ao + i * 4, none⟩ = some (.string nm') := by
        rw [H4.out.2.2.2.2.1.cell (p := ⟨ab, ao + i * 4, none⟩) (Nat.lt_of_lt_of_le hlt hB)]
        have := cells_drop i hcs
        rw [hdr] at this
        exact this.1
      have hw2 : IntKind.i64.wrap ((i : Int) + 1) = (i : Int) + 1 := IntWalk.i64_in _ (by omega)
      have HDR := Lib.hid hdr
      clear hcs hdr hkd
      rcases Bool.eq_false_or_eq_true (Op.bytesLess nm'.toList nm.toList) with hq | hq
      · have HN := Lib.hid (show i + 1 ≤ aheadE nm nd.es by
          rw [ahead_drop nm nd.es i HI.out, HDR.out]
          have : aheadE nm (.cons nm' k' d' s' (dropE (i + 1) nd.es)) = aheadE nm (dropE (i + 1) nd.es) + 1 := by show (if _ then _ else _) = _; rw [if_pos hq]
          omega)
        go_wp2
        go_roundg g
        case measure => omega
        case rel => exact ⟨i + 1, by simp, by omega, rfl, HN.out⟩
      · have HA := Lib.hid (show aheadE nm nd.es = i by
          rw [ahead_drop nm nd.es i HI.out, HDR.out]
          have : aheadE nm (.cons nm' k' d' s' (dropE (i + 1) nd.es)) = 0 := by show (if _ then _ else _) = _; rw [if_neg (by rw [hq]; exact Bool.false_ne_true)]
          omega)
        have HROW := Lib.hid (es_row (HES.out.1.keep (H4.out.2.2.2.2.1.mono hB)))
        have hnb := H4.out.2.1
        obtain ⟨xs, hx1, hx2, hx3, hx4⟩ := HROW.out
        have hxl : xs.length = 4 * nd.es.len := hx1.len
        have hbh := row_behind (i := i) (c := c) (by omega) hx3 hx4 (by omega)
        have HX := Lib.hid (And.intro hx1 (And.intro hx2 (And.intro hx3 (And.intro hx4 (And.intro hxl hbh)))))
        clear hx1 hx2 hx3 hx4 hbh HROW
        have HL := Lib.hid hxl
        clear hxl
        go_wp2_with (at_builtin; refine wpList_app_opt rfl _ _ 24 rfl (w.heap.size + 3) 48 i0 _ 4 64 Tryd.underlying24 hi0 hz0 hz1 hzb rfl (by decide) _ _ _ rfl H4.out.1 _ i _ (xs.take (4 * i)) rfl HX.out.2.2.2.1 (by omega) (by rw [List.length_take]; have := HL.out; omega) (fun ad e j u hu => HX.out.2.2.1 ad e j u (take_get hu)) (fun u hu => HX.out.1.one u (List.mem_of_mem_take hu)) (by unfold maxLen; omega) (by omega) H4.out.2.2.2.2.2 ?_)
        intro v5 w5 hown5 hg5
        have hb5 : Below (w.heap.size + 3) wr w5 := (Below.refl _ _).grown hg5 H4.out.2.2.2.2.2 (fun k e => (H4.out.1.lt k e).1)
        obtain ⟨hm0, hm1, hm2, _⟩ := nd_box ((hb5.block _ (by omega)).trans H4.out.2.2.1)
        have H5 := Lib.hid (And.intro hown5 (And.intro hb5 hg5.size))
        clear hown5 hb5 hg5
        go_wp2_with (at_builtin; refine wpList_app_opt rfl _ _ 24 rfl (w.heap.size + 3) 48 i0 _ 4 64 Tryd.underlying24 hi0 hz0 hz1 hzb rfl (by decide) _ _ _ rfl (H5.out.1.alloc _) _ 1 _ [.string nm, .int .u8 (x.k : Int), .string x.d, .slice Ax x.es.len cx] rfl (fun e => by cases e) (Nat.le_refl 1) rfl (fun ad e j u hu => by cases e; exact four_cells (heap_alloc_new _ _) j u hu) ?a5 (by unfold maxLen; omega) (by omega) (by have := H5.out.2.2; have := H4.out.2.2.2.2.2; simp; omega) ?_)
        case a5 => intro u hu; simp at hu; rcases hu with rfl | rfl | rfl | rfl <;> rfl
        intro v6 w6 hown6 hg6
        have hb6 : Below (w.heap.size + 3) wr w6 := (H5.out.2.1.alloc (by have := H5.out.2.2; have := H4.out.2.2.2.2.2; omega) _).grown hg6 (by have := H5.out.2.2; have := H4.out.2.2.2.2.2; simp; omega) (fun k e => (H5.out.1.lt k e).1)
        obtain ⟨_, _, hp2, _⟩ := nd_box ((hb6.block _ (by omega)).trans H4.out.2.1)
        have hz6 : w.heap.size + 3 ≤ w6.heap.size := by have := hg6.size; have := H5.out.2.2; have := H4.out.2.2.2.2.2; simp at *; omega
        have H6 := Lib.hid (And.intro hown6 (And.intro hb6 hz6))
        clear hown6 hb6 hg6 hz6
        have hcn : ¬ c = i := by omega
        go_wp2_with (at_builtin; refine wpList_app_opt rfl _ _ 24 rfl (w.heap.size + 3) 48 i0 _ 4 64 Tryd.underlying24 hi0 hz0 hz1 hzb rfl (by decide) _ _ _ rfl H6.out.1 (some ⟨ab, ao + i * 4, none⟩) _ _ (xs.drop (4 * i)) rfl (fun e => by cases e) (by omega) ?r3 ?r4 ?r5 (by unfold maxLen; omega) (by omega) H6.out.2.2 ?_)
        case r3 => have := HL.out; (try simp only [List.length_drop]); omega
        case r4 => have h := HX.out.2.2.2.2.2.1; rw [if_neg (by omega), Option.map_some, add_none] at h; exact fun ad e j u hu => (H6.out.2.1.cell (p := ad.add j) (by rw [add_block]; cases e; show ab < _; omega)).trans (h ad e j u hu)
        case r5 => exact fun u hu => HX.out.1.one u (List.mem_of_mem_drop hu)
        intro v7 w7 hown7 hg7
        have hb7 : Below (w.heap.size + 3) wr w7 := H6.out.2.1.grown hg7 H6.out.2.2 (fun k e => (H6.out.1.lt k e).1)
        obtain ⟨g7, c7, rfl⟩ := own_at4 hown7 (by omega)
        obtain ⟨hq0, hq1, hq2, _, _, hq5⟩ := nd_box ((hb7.block _ (by omega)).trans H4.out.2.1)
        have hr7 := (hb7.block (w.heap.size + 2) (by omega)).trans H4.out.2.2.2.1
        have hz7 : w.heap.size + 3 ≤ w7.heap.size := Nat.le_trans H6.out.2.2 hg7.size
        have HI7 := Lib.hid (show insE nm x nd.es = appE (takeE i nd.es) (.cons nm x.k x.d x.es (dropE i nd.es)) by unfold insE; rw [HA.out])
        have hlen7 : (i + 1 + (nd.es.len - i)) = (insE nm x nd.es).len := by rw [HI7.out, app_len, take_len _ _ (by omega)]; show _ = _ + ((dropE i nd.es).len + 1); rw [drop_len _ _ (by omega)]; omega
        have hrb : (w7.setCell ⟨w.heap.size, 2, none⟩ (.slice (some ⟨g7, 0, none⟩) (i + 1 + (nd.es.len - i)) c7)).heap[w.heap.size + 2]? = some (.cells #[.int .u8 0, .string ⟨#[]⟩, .slice none 0 0] 26 (0, 0)) := (heap_setCell_other _ _ _ _ (by show w.heap.size + 2 ≠ w.heap.size; omega)).trans hr7
        have H7 := Lib.hid (And.intro hown7 (And.intro hb7 (And.intro hz7 hlen7)))
        clear hown7 hb7 hz7 hlen7 hg7 hr7
        go_wp2_with (refine wpList_store_row rfl _ _ _ rfl _ _ rfl rfl _ _ hrb (by kernel_rfl) (by rfl) (by simp [Value.oneCell']) ?_)
        have hch : Ch w7 ((w7.setCell ⟨w.heap.size, 2, none⟩ (.slice (some ⟨g7, 0, none⟩) (i + 1 + (nd.es.len - i)) c7)).setRow (w.heap.size + 2) #[.int .u8 (nd.k : Int), .string nd.d, .slice (some ⟨g7, 0, none⟩) (i + 1 + (nd.es.len - i)) c7]) (fun k => k < w.heap.size + 3 ∧ w.heap.size ≤ k) := by
          have h1 := (Ch.refl w7 (fun k => k < w.heap.size + 3 ∧ w.heap.size ≤ k)).setCell (p := ⟨w.heap.size, 2, none⟩) ⟨by show w.heap.size < _; omega, Nat.le_refl _⟩ (.slice (some ⟨g7, 0, none⟩) (i + 1 + (nd.es.len - i)) c7)
          exact ⟨h1.os, h1.tape, h1.output, by simp, fun k hk hn => (setRow_other _ _ _ _ (by omega)).trans (h1.block k hk hn)⟩
        have hbl : Below w.heap.size wr ((w7.setCell ⟨w.heap.size, 2, none⟩ (.slice (some ⟨g7, 0, none⟩) (i + 1 + (nd.es.len - i)) c7)).setRow (w.heap.size + 2) #[.int .u8 (nd.k : Int), .string nd.d, .slice (some ⟨g7, 0, none⟩) (i + 1 + (nd.es.len - i)) c7]) :=
          (H7.out.2.1.mono (by omega)).trans (hch.below (by have := H7.out.2.2.1; omega) (fun k h => h.2))
        have hown := hch.own H7.out.1 (fun b hb h => by have := (H7.out.1.lt b hb).1; omega)
        have hE := ownE_cells hown H7.out.2.2.2 (B := B) (by
          rw [HI7.out]
          try rw [List.append_assoc]
          exact ((HX.out.1.take i).app (show EntL wr B (.cons nm x.k x.d x.es (dropE i nd.es)) _ from ⟨_, _, rfl, hnm, hdx, hkx, HES.out.2.keep (H4.out.2.2.2.2.1.mono hB), HX.out.1.drop i⟩)).keep (hbl.mono hB)) (by have := hch.size; have := H7.out.2.2.1; omega) (by unfold maxLen; omega)
        have hi : (Tryd.prog.info? 26).map (·.size) = some 3 := by kernel_rfl
        refine bodyPost_ret (results_cell_row rfl _ _ _ _ _ _ _ rfl (setRow_heap _ _ _ _ _ _ hrb) Tryd.underlying26 (by rfl) hi) rfl ⟨H4.out.2.2.2.2.1.trans hbl, _, rfl, _, rfl, hE, hd, hk⟩
end Go.Proofs.YtmcafiihicanfaaDoor
