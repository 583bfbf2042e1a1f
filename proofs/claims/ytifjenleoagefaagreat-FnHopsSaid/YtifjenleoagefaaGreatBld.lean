/- HELPER, no statement of the seat: several texts in one file. -/
import Derived.Test.YtifjenleoagefaaGreatBldM
import Derived.Deep.RegionHeld3
import Derived.Deep.RegionLaw
import Derived.Deep.AppendLies
import Derived.Deep.DrawnRows
/- HELPER, no statement of the seat: the program's builder of sums, at entries. -/
namespace Go.Proofs.YtifjenleoagefaaGreat
open Go.RowKit Go.Sort
set_option linter.unusedSimpArgs false
set_option linter.unusedVariables false
attribute [local go_sem ↓] Go.wp_at_zero Go.wp_at_succ

theorem plus_e (RA : Option Addr) (n rc : Nat) (u : Value) (x y : Int) (w : World) (h0 : -1099511627776 ≤ x) (h1 : x ≤ 1099511627776) (h2 : -1099511627776 ≤ y) (h3 : y ≤ 1099511627776) :
    Calls Tryz.prog 134 #[.agg #[.slice RA n rc, .int .i64 x], .agg #[u, .int .i64 y]] w fun e w' => e = .returned (.agg #[.slice RA n rc, .int .i64 (x + y)]) ∧ Below w.heap.size w w' := by
  go_enter Tryz.func134, Tryz.ntmps134
  go_wp2
  exact bodyPost_ret (v := .agg #[.slice RA n rc, .int .i64 (x + y)]) (by simp [results, Tryz.results134, go_sem]) rfl ⟨rfl, (by repeat (first | exact Below.refl _ _ | refine bal ?_ _ | refine bset ?_ (by simp; try omega) _ | refine Below.drew ?_))⟩

/-- The builder that lies in the first block behind w0 holds es; their rows are read in w0. -/
structure BAt (w0 w : World) (A : Option Addr) (c : Nat) (es : List Ent) (css : List (List Value)) : Prop where
  bel : Below w0.heap.size w0 w
  bk : Blk w w0.heap.size 96 #[.slice A es.length c]
  row : w.ownsRow (w0.heap.size + 1) 33 2 (.slice A es.length c) es.length css.flatten
  rd : RdL EntR w0 css es
theorem BAt.below {w0 w w' : World} {A : Option Addr} {c : Nat} {es : List Ent} {css : List (List Value)} (h : BAt w0 w A c es css) (hb : Below w.heap.size w w') : BAt w0 w' A c es css :=
  ⟨btr h.bel hb, h.bk.below hb, ownsRow_below h.row hb, h.rd⟩
/-- A new builder. -/
theorem BAt.new (w0 : World) : BAt w0 (w0.alloc (.cells #[.slice none 0 0] 96)) none 0 [] [] :=
  ⟨bal (Below.refl _ _) _, Blk.newAt rfl, World.ownsRow_nil _ _ _ _, RdL.nil⟩

/-- What add leaves. -/
def Added (w0 : World) (es : List Ent) (w' : World) : Prop := ∃ A c css, BAt w0 w' A c es css

/-- One more element behind the others. -/
theorem BAt.push {w0 w4 w1 : World} {A : Option Addr} {c n gg cap : Nat} {es : List Ent} {css : List (List Value)} {RA : Option Addr} {rc : Nat} {e : Ent} {o : Obj} (h : BAt w0 w4 A c es css) (hx : EntR w0 [.slice RA e.1.length rc, .int .i64 e.2] e) (hn : es.length = n)
    (hown : w1.ownsRow (w0.heap.size + 1) 33 2 (.slice (some ⟨gg, 0, none⟩) (n + 1) cap) (n + 1) (css.flatten ++ [.slice RA e.1.length rc, .int .i64 e.2])) (hgrow : (w4.alloc o).drew.grownBy w1 (Value.slice A n c).ownBlock) :
    Added w0 (es ++ [e]) (w1.setCell ⟨w0.heap.size, 0, none⟩ (.slice (some ⟨gg, 0, none⟩) (n + 1) cap)) := by
  have hl := h.bk.lt
  rw [ownBlock_slice] at hgrow
  have hA : ∀ k, blk A = some k → w0.heap.size + 1 ≤ k ∧ k < w4.heap.size := fun k hk => row_lt h.row k hk
  have hb1 : RowKit.Below w0.heap.size w0 w1 := (Below.drew (bal h.bel o)).grown hgrow (by simp; omega) (fun k hk => by have := (hA k hk).1; omega)
  have hk1 : Blk w1 w0.heap.size 96 #[.slice A es.length c] :=
    (hgrow.block w0.heap.size (by simp; omega) (fun e => by have := (hA _ e.symm).1; omega)).trans (((Below.heap_alloc _ _ _ hl)).trans h.bk)
  have hk2 := hk1.set_ 0 (.slice (some ⟨gg, 0, none⟩) (n + 1) cap)
  have e1 : (es ++ [e]).length = n + 1 := by simp [hn]
  have e2 : (css ++ [[Value.slice RA e.1.length rc, Value.int .i64 e.2]]).flatten = css.flatten ++ [.slice RA e.1.length rc, .int .i64 e.2] := by simp
  refine ⟨some ⟨gg, 0, none⟩, cap, css ++ [[Value.slice RA e.1.length rc, Value.int .i64 e.2]], ⟨bset hb1 (by simp) _, by rw [e1]; simpa using hk2, ?_, h.rd.snoc hx⟩⟩
  rw [e1, e2]
  exact ownsRow_far hown (by simp) _
/-- The weight of the last one has turned. -/
theorem BAt.last {w0 w : World} {A : Option Addr} {c g : Nat} {m : List Ent} {y : Ent} {css : List (List Value)} {RA : Option Addr} {rc : Nat} {x : Int} (hA : A = some ⟨g, 0, none⟩) (h : BAt w0 w A c (m ++ [y]) css) (hy : EntR w0 [.slice RA y.1.length rc, .int .i64 y.2] y) :
    Added w0 (m ++ [(y.1, y.2 + x)]) ((w.setCell ⟨g, m.length * 2, none⟩ (.slice RA y.1.length rc)).setCell ⟨g, m.length * 2 + 1, none⟩ (.int .i64 (y.2 + x))) := by
  subst hA
  have hg := row_lt h.row g rfl
  have hcl : css.length = m.length + 1 := by rw [h.rd.len]; simp
  have hrow := h.row
  have e0 : (m ++ [y]).length = m.length + 1 := by simp
  have e1 : (m ++ [(y.1, y.2 + x)]).length = m.length + 1 := by simp
  rw [e0] at hrow
  have hst := (World.ownsRow.stored (World.ownsRow.stored hrow (m.length * 2) (.slice RA y.1.length rc)).1 (m.length * 2 + 1) (.int .i64 (y.2 + x))).1
  rw [flat_set2 (h.rd.elen entR) m.length (by omega)] at hst
  obtain ⟨RA', rc', hcs, hml, hrw⟩ := hy.form
  injection hcs with c1 c2
  injection c1 with c3 c4 c5
  subst c3
  subst c5
  have hrd := h.rd.set_ m.length (EntR.mk (c := rc) (x := y.2 + x) hml hrw)
  have e2 : (m ++ [y]).set m.length (y.1, y.2 + x) = m ++ [(y.1, y.2 + x)] := by rw [List.set_append_right _ _ (Nat.le_refl _)]; simp
  rw [e2] at hrd
  refine ⟨some ⟨g, 0, none⟩, c, _, ⟨bset (bset h.bel (by simp; omega) _) (by simp; omega) _, ?_, ?_, hrd⟩⟩
  · have := h.bk
    rw [e0] at this
    rw [e1]
    exact (this.far (p := ⟨g, m.length * 2, none⟩) (by simp; omega) _).far (p := ⟨g, m.length * 2 + 1, none⟩) (by simp; omega) _
  · rw [e1]
    exact hst
theorem snocAt {w : World} {base g c : Nat} {E : TypeId} {m : List Ent} {y : Ent} {css : List (List Value)} {w0 : World} (hr : w.ownsRow base E 2 (.slice (some ⟨g, 0, none⟩) (m.length + 1) c) (m.length + 1) css.flatten) (rd : RdL EntR w0 css (m ++ [y])) :
    ∃ RA rc, EntR w0 [.slice RA y.1.length rc, .int .i64 y.2] y ∧ w.cell? ⟨g, m.length * 2, none⟩ = some (.slice RA y.1.length rc) ∧ w.cell? ⟨g, m.length * 2 + 1, none⟩ = some (.int .i64 y.2) ∧ y.1.length ≤ maxLen ∧ IntsAt w0 RA y.1 := by
  have hcl : css.length = m.length + 1 := by rw [rd.len]; simp
  have h1 : m.length < css.length := by omega
  have h2 : m.length < (m ++ [y]).length := by simp
  have he := rd.elt m.length h1 h2
  rw [show (m ++ [y])[m.length] = y by simp] at he
  obtain ⟨RA, rc, hcs, hml, hrow⟩ := he.form
  have c0 := World.ownsRow.cellAt hr (m.length * 2) (by omega)
  have c1 := World.ownsRow.cellAt hr (m.length * 2 + 1) (by omega)
  have e0 := flat_get (rd.elen entR) m.length h1 0 (by omega)
  have e1 := flat_get (rd.elen entR) m.length h1 1 (by omega)
  rw [Nat.add_zero] at e0
  rw [e0, hcs] at c0
  rw [e1, hcs] at c1
  exact ⟨RA, rc, by rw [← hcs]; exact he, by simpa using c0, by simpa using c1, hml, hrow⟩

set_option maxRecDepth 100000 in
set_option maxHeartbeats 6400000 in
theorem addB_e (w0 w : World) (A : Option Addr) (c : Nat) (es : List Ent) (css : List (List Value)) (h : BAt w0 w A c es css) (RA : Option Addr) (rc : Nat) (e : Ent) (hx : EntR w0 [.slice RA e.1.length rc, .int .i64 e.2] e) (hn : es.length ≤ 1048576) (hr : rowsIn es 4194304) (hr2 : e.1.length ≤ 4194304) (hw : wIn es 1099511627776) (h0 : -1099511627776 ≤ e.2) (h1 : e.2 ≤ 1099511627776) :
    Calls Tryz.prog 93 #[.pointer (some ⟨w0.heap.size, 0, none⟩), .agg #[.slice RA e.1.length rc, .int .i64 e.2]] w fun r w' => r = .returned (.tuple #[]) ∧ Added w0 (addM es e) w' := by
  obtain ⟨i0, hi, hz0, hz1, hz2⟩ := info_parts Tryz.infoEnt
  have hlt : w0.heap.size < w.heap.size := h.bk.lt
  have nb1 : ∀ k, blk A = some k → w0.heap.size < k ∧ k < w.heap.size := fun k hk => by have := row_lt h.row k hk; omega
  have ne1 : ∀ n', (Value.slice A n' c).ownBlock ≠ some w0.heap.size := fun n' hh => by have := (nb1 _ (by rw [ownBlock_slice] at hh; exact hh)).1; omega
  have HX := Lib.hid hx
  rcases snoc_cases es with rfl | ⟨m, y, rfl⟩
  · have q0 : w.cell? ⟨w0.heap.size, 0, none⟩ = some (.slice A 0 c) := by simpa using h.bk.one
    have H := Lib.hid h
    have HN : Hid (([] : List Ent).length = 0) := rfl
    have HADD : Hid (addM [] e = [] ++ [e]) := rfl
    clear h hx hr hw hn
    go_enter Tryz.func93, Tryz.ntmps93
    go_wp2_with fail
    refine abs_world (fun W => BAt w0 W A c [] css ∧ Blk W w.heap.size 33 #[.slice RA e.1.length rc, .int .i64 e.2]) ⟨H.out.below (bal (RowKit.Below.refl _ _) _), Blk.newAt rfl⟩ ?_
    rintro W ⟨hBW, hkW⟩
    clear H q0
    refine wp_region_quiet_below (by kernel_rfl) (by kernel_rfl) ?_
    repeat (go_big_quiet_step (fail))
    refine wpQuiet_nil ?_
    intro wq hwq
    obtain ⟨⟨dq, osq⟩, rfl⟩ := hwq
    have hbq := below_regrown W dq osq
    generalize grow (redrawn W dq) osq = w4 at hbq
    have hB4 := hBW.below hbq
    have hk4 := hkW.below hbq
    clear hBW hkW hbq
    have q0 := hB4.bk.one
    have b0 := hk4.cell 0
    have b1 := hk4.cell 1
    have f0 := hB4.bk.frozen 0
    simp at q0 b0 b1
    have hlt4 := hB4.bk.lt
    have hbx := hk4.lt
    have rown := hB4.row
    simp only [List.length_nil] at rown
    have HB4 := Lib.hid hB4
    clear hB4 hk4
    have fa : ∀ o : Obj, (w4.alloc o).frozen? ⟨w0.heap.size, 0, none⟩ = false := fun o => ((bal (RowKit.Below.refl w4.heap.size w4) o).frozen (p := ⟨w0.heap.size, 0, none⟩) hlt4).trans f0
    have ca : ∀ o : Obj, (w4.alloc o).cell? ⟨w0.heap.size, 0, none⟩ = some (.slice A (0) c) := fun o => ((bal (RowKit.Below.refl w4.heap.size w4) o).cell (p := ⟨w0.heap.size, 0, none⟩) hlt4).trans q0
    go_wp2_with fail
    go_region_law ((first
      | (refine step_append_lies _ (by rfl) _ _ _ (by rfl) (w0.heap.size + 1) 33 i0 _ 2 32 Tryz.underlying23 hi hz0 hz1 hz2 rfl (by omega) (.slice A 0 c) 0 css.flatten (by rfl) ((rown.alloc _).drew) ⟨w4.heap.size, 0, none⟩ 1 1 [.slice RA e.1.length rc, .int .i64 e.2] (by rfl) (by rfl) (World.news_of_block (cs := #[.slice RA e.1.length rc, .int .i64 e.2]) (t := 33) (fr := (0, 0)) (heap_alloc_new w4 _)) (by simp [Value.oneCell']) (by omega) (by unfold maxLen; omega) (by omega) (by simp; omega) (w4.heap.size + 1) (by simp) ?_; intro gg cap w1 hown1 hgrow hat hlt'; have z0 := hgrow.cell_far ⟨w0.heap.size, 0, none⟩ (by simp; omega) (Ne.symm (ne1 0)); have z3 := hgrow.frozen_far ⟨w0.heap.size, 0, none⟩ (by simp; omega) (Ne.symm (ne1 0)))))
    all_goals go_wp2
    all_goals go_end0
    all_goals exact ⟨rfl, by rw [HADD.out]; exact HB4.out.push HX.out HN.out hown1 hgrow⟩
  · have hml : (m ++ [y]).length = m.length + 1 := by simp
    rw [hml] at hn
    obtain ⟨g, rfl⟩ : ∃ g, A = some ⟨g, 0, none⟩ := by
      rcases ownsRow_form h.row with ⟨_, _, h3⟩ | ⟨g, h1, _⟩
      · simp at h3
      · exact ⟨g, h1⟩
    have q0 : w.cell? ⟨w0.heap.size, 0, none⟩ = some (.slice (some ⟨g, 0, none⟩) (m.length + 1) c) := by rw [← hml]; exact h.bk.one
    have hyr : y.1.length ≤ 4194304 := hr y (by simp)
    have hyw := hw y (by simp)
    have hyw1 := hyw.1
    have hyw2 := hyw.2
    have hg0 : w0.heap.size < g := (nb1 g rfl).1
    have hgw : g < w.heap.size := (nb1 g rfl).2
    have H := Lib.hid h
    have HN : Hid ((m ++ [y]).length = m.length + 1) := hml
    have hi1 : (0 : Int) ≤ (m.length : Int) := by omega
    have hi2 : (m.length : Int) < (m.length : Int) + 1 := by omega
    have hmm := m_compare
    have hmp := m_plus
    by_cases he : y.1 = e.1
    · have HADD : Hid (addM (m ++ [y]) e = m ++ [(y.1, y.2 + e.2)]) := by simp [Hid, addM_snoc, he]
      have hz : (cmpL y.1 e.1 == 0) = true := by simp [cmpL_zero.2 he]
      clear h hx hr hw hml hyw he
      go_enter Tryz.func93, Tryz.ntmps93
      go_wp2_with fail
      refine abs_world (fun W => BAt w0 W (some ⟨g, 0, none⟩) c (m ++ [y]) css ∧ Blk W w.heap.size 33 #[.slice RA e.1.length rc, .int .i64 e.2]) ⟨H.out.below (bal (RowKit.Below.refl _ _) _), Blk.newAt rfl⟩ ?_
      rintro W ⟨hBW, hkW⟩
      clear H q0
      have hrW := hBW.row
      rw [HN.out] at hrW
      obtain ⟨RY, ry, hey, y0, y1, hym, hyrow⟩ := snocAt hrW hBW.rd
      have hqW := hBW.bk.one
      rw [HN.out] at hqW
      have r0 := cgrow hqW
      have r1 := cgrow y0
      have r2 := cgrow y1
      have r3 := cgrow (hkW.cell 0)
      have r4 := cgrow (hkW.cell 1)
      simp at r3 r4
      obtain ⟨RA2, rc2, hcs2, hem, herow⟩ := HX.out.form
      injection hcs2 with hc1 hc2
      injection hc1 with hc3 hc4 hc5
      subst hc3
      subst hc5
      have hcon := fun W' (hW : RowKit.Below W.heap.size W W') => compare_e RY RA ry rc y.1 e.1 y.2 e.2 W' ((hyrow.below hBW.bel).below hW) ((herow.below hBW.bel).below hW) (by omega) (by omega)
      refine wp_region_quiet_below (by kernel_rfl) (by kernel_rfl) ?_
      repeat (go_big_quiet_step (exact Calls.regrown_of (hcon _ (below_regrown _ _ _))))
      refine wpQuiet_nil ?_
      intro wq hwq
      obtain ⟨⟨dq, osq⟩, rfl⟩ := hwq
      have hbq := below_regrown W dq osq
      generalize grow (redrawn W dq) osq = w4 at hbq
      have hB4 := hBW.below hbq
      have hk4 := hkW.below hbq
      clear r0 r1 r2 r3 r4 hcon hqW y0 y1 hrW hbq
      have q0 := hB4.bk.one
      have b0 := hk4.cell 0
      have b1 := hk4.cell 1
      have rown := hB4.row
      rw [HN.out] at q0 rown
      simp at b0 b1
      obtain ⟨RY2, ry2, hey2, y0, y1, hym2, hyrow2⟩ := snocAt rown hB4.rd
      have f0 := World.ownsRow.frozenAt rown (m.length * 2)
      have f1 := World.ownsRow.frozenAt rown (m.length * 2 + 1)
      have hlt4 := hB4.bk.lt
      have hbx := hk4.lt
      have hg4 := (row_lt rown g rfl).2
      have HB4 := Lib.hid hB4
      clear hBW hkW hk4 hB4 hey
      go_wp2_with fail
      refine wp_region_facts [[], [0], [1], [2], [], [], [5], [6], [7], [], [8, 9], [10], [11], [], [12, 13], [3, 4]]
        [fun v' _ => v' = .pointer (some ⟨w0.heap.size, 0, none⟩), fun v' _ => v' = .pointer (some ⟨w0.heap.size, 0, none⟩), fun v' _ => v' = .pointer (some ⟨w0.heap.size, 0, none⟩), fun v' _ => v' = .slice (some ⟨g, 0, none⟩) (m.length + 1) c, fun v' _ => v' = .int .i64 (m.length : Int), fun v' _ => v' = .pointer (some ⟨w0.heap.size, 0, none⟩), fun v' _ => v' = .pointer (some ⟨w0.heap.size, 0, none⟩), fun v' _ => v' = .pointer (some ⟨w0.heap.size, 0, none⟩), fun v' _ => v' = .slice (some ⟨g, 0, none⟩) (m.length + 1) c, fun v' _ => v' = .int .i64 (m.length : Int), fun v' _ => v' = .pointer (some ⟨g, m.length * 2, none⟩), fun v' _ => v' = .agg #[.slice RY2 y.1.length ry2, .int .i64 y.2], fun v' _ => v' = .iface 33 (.agg #[.slice RY2 y.1.length ry2, .int .i64 y.2]), fun v' _ => v' = .agg #[.slice RA e.1.length rc, .int .i64 e.2], fun v' _ => v' = .agg #[.slice RY2 y.1.length ry2, .int .i64 (y.2 + e.2)], fun v' _ => v' = .pointer (some ⟨g, m.length * 2, none⟩)]
        (by kernel_rfl) (by kernel_rfl) rfl ⟨stable_pure _, stable_pure _, stable_pure _, stable_pure _, stable_pure _, stable_pure _, stable_pure _, stable_pure _, stable_pure _, stable_pure _, stable_pure _, stable_pure _, stable_pure _, stable_pure _, stable_pure _, stable_pure _, trivial⟩ ?_
      refine wf_step (fun wf hb hf => ?_) (fun t0 => ?_)
      · go_wp2
        exact ⟨rfl, _, rfl, RowKit.Below.refl _ _, rfl⟩
      refine wf_step (fun wf hb hf => ?_) (fun t1 => ?_)
      · obtain ⟨rfl, -⟩ := hf
        go_wp2
        exact ⟨rfl, _, rfl, RowKit.Below.refl _ _, rfl⟩
      refine wf_step (fun wf hb hf => ?_) (fun t2 => ?_)
      · obtain ⟨rfl, -⟩ := hf
        go_wp2
        exact ⟨rfl, _, rfl, RowKit.Below.refl _ _, rfl⟩
      refine wf_step (fun wf hb hf => ?_) (fun t3 => ?_)
      · obtain ⟨rfl, -⟩ := hf
        have c0 := (hb.cell (p := ⟨w0.heap.size, 0, none⟩) hlt4).trans q0
        go_wp2
        exact ⟨rfl, _, rfl, RowKit.Below.refl _ _, rfl⟩
      refine wf_step (fun wf hb hf => ?_) (fun t4 => ?_)
      · go_wp2
        exact ⟨rfl, _, rfl, RowKit.Below.refl _ _, rfl⟩
      refine wf_step (fun wf hb hf => ?_) (fun t5 => ?_)
      · go_wp2
        exact ⟨rfl, _, rfl, RowKit.Below.refl _ _, rfl⟩
      refine wf_step (fun wf hb hf => ?_) (fun t6 => ?_)
      · obtain ⟨rfl, -⟩ := hf
        go_wp2
        exact ⟨rfl, _, rfl, RowKit.Below.refl _ _, rfl⟩
      refine wf_step (fun wf hb hf => ?_) (fun t7 => ?_)
      · obtain ⟨rfl, -⟩ := hf
        go_wp2
        exact ⟨rfl, _, rfl, RowKit.Below.refl _ _, rfl⟩
      refine wf_step (fun wf hb hf => ?_) (fun t8 => ?_)
      · obtain ⟨rfl, -⟩ := hf
        have c0 := (hb.cell (p := ⟨w0.heap.size, 0, none⟩) hlt4).trans q0
        go_wp2
        exact ⟨rfl, _, rfl, RowKit.Below.refl _ _, rfl⟩
      refine wf_step (fun wf hb hf => ?_) (fun t9 => ?_)
      · go_wp2
        exact ⟨rfl, _, rfl, RowKit.Below.refl _ _, rfl⟩
      refine wf_step (fun wf hb hf => ?_) (fun t10 => ?_)
      · obtain ⟨rfl, rfl, -⟩ := hf
        go_wp2
        exact ⟨rfl, _, rfl, RowKit.Below.refl _ _, by simp⟩
      refine wf_step (fun wf hb hf => ?_) (fun t11 => ?_)
      · obtain ⟨rfl, -⟩ := hf
        have c0 := (hb.cell (p := ⟨g, m.length * 2, none⟩) hg4).trans y0
        have c1 := (hb.cell (p := ⟨g, m.length * 2 + 1, none⟩) hg4).trans y1
        go_wp2
        exact ⟨rfl, _, rfl, RowKit.Below.refl _ _, rfl⟩
      refine wf_step (fun wf hb hf => ?_) (fun t12 => ?_)
      · obtain ⟨rfl, -⟩ := hf
        go_wp2
        exact ⟨rfl, _, rfl, RowKit.Below.refl _ _, rfl⟩
      refine wf_step (fun wf hb hf => ?_) (fun t13 => ?_)
      · have c0 := (hb.cell (p := ⟨w.heap.size, 0, none⟩) hbx).trans b0
        have c1 := (hb.cell (p := ⟨w.heap.size, 1, none⟩) hbx).trans b1
        go_wp2
        exact ⟨rfl, _, rfl, RowKit.Below.refl _ _, rfl⟩
      refine wf_step (fun wf hb hf => ?_) (fun t14 => ?_)
      · obtain ⟨rfl, rfl, -⟩ := hf
        go_wp2_with (go_at_call 134; refine (plus_e _ _ _ _ _ _ _ hyw1 hyw2 h0 h1).mono ?_; rintro e w2 ⟨rfl, hb2⟩)
        exact ⟨rfl, .agg #[.slice RY2 y.1.length ry2, .int .i64 (y.2 + e.2)], by simp [Act.put], hb2, rfl⟩
      refine wf_step (fun wf hb hf => ?_) (fun t15 => ?_)
      · obtain ⟨rfl, rfl, -⟩ := hf
        go_wp2
        exact ⟨rfl, _, rfl, RowKit.Below.refl _ _, by simp⟩
      refine wf_done (fun wC hb hf => ?_)
      obtain ⟨rfl, rfl, rfl, rfl, rfl, rfl, rfl, rfl, rfl, rfl, rfl, rfl, rfl, rfl, rfl, rfl, -⟩ := hf
      show wpList _ _ _ [_] _ _
      refine wpList_frame (by simp [Act.put]; rfl) ?_
      have hBC := HB4.out.below hb
      have rC := ownsRow_below rown hb
      have c0 := (hb.cell (p := ⟨g, m.length * 2, none⟩) hg4).trans y0
      have c1 := (hb.cell (p := ⟨g, m.length * 2 + 1, none⟩) hg4).trans y1
      have f0 := World.ownsRow.frozenAt rC (m.length * 2)
      have f1 := World.ownsRow.frozenAt rC (m.length * 2 + 1)
      have HL := Lib.hid (BAt.last (x := e.2) rfl hBC hey2)
      clear hBC rC hb y0 y1 q0 b0 b1
      go_wp2
      exact bodyPost_ret (v := .tuple #[]) (by simp [results, Tryz.results93, go_sem]) rfl ⟨rfl, by rw [HADD.out]; exact HL.out⟩
    · have HADD : Hid (addM (m ++ [y]) e = (m ++ [y]) ++ [e]) := by simp [Hid, addM_snoc, he]
      have hz : (cmpL y.1 e.1 == 0) = false := by
        rw [beq_eq_false_iff_ne]
        exact fun h => he (cmpL_zero.1 h)
      clear h hx hr hw hml hyw he
      go_enter Tryz.func93, Tryz.ntmps93
      go_wp2_with fail
      refine abs_world (fun W => BAt w0 W (some ⟨g, 0, none⟩) c (m ++ [y]) css ∧ Blk W w.heap.size 33 #[.slice RA e.1.length rc, .int .i64 e.2]) ⟨H.out.below (bal (RowKit.Below.refl _ _) _), Blk.newAt rfl⟩ ?_
      rintro W ⟨hBW, hkW⟩
      clear H q0
      have hrW := hBW.row
      rw [HN.out] at hrW
      obtain ⟨RY, ry, hey, y0, y1, hym, hyrow⟩ := snocAt hrW hBW.rd
      have hqW := hBW.bk.one
      rw [HN.out] at hqW
      have r0 := cgrow hqW
      have r1 := cgrow y0
      have r2 := cgrow y1
      have r3 := cgrow (hkW.cell 0)
      have r4 := cgrow (hkW.cell 1)
      simp at r3 r4
      obtain ⟨RA2, rc2, hcs2, hem, herow⟩ := HX.out.form
      injection hcs2 with hc1 hc2
      injection hc1 with hc3 hc4 hc5
      subst hc3
      subst hc5
      have hcon := fun W' (hW : RowKit.Below W.heap.size W W') => compare_e RY RA ry rc y.1 e.1 y.2 e.2 W' ((hyrow.below hBW.bel).below hW) ((herow.below hBW.bel).below hW) (by omega) (by omega)
      refine wp_region_quiet_below (by kernel_rfl) (by kernel_rfl) ?_
      repeat (go_big_quiet_step (exact Calls.regrown_of (hcon _ (below_regrown _ _ _))))
      refine wpQuiet_nil ?_
      intro wq hwq
      obtain ⟨⟨dq, osq⟩, rfl⟩ := hwq
      have hbq := below_regrown W dq osq
      generalize grow (redrawn W dq) osq = w4 at hbq
      have hB4 := hBW.below hbq
      have hk4 := hkW.below hbq
      clear r0 r1 r2 r3 r4 hcon hqW y0 y1 hrW hbq
      have q0 := hB4.bk.one
      have b0 := hk4.cell 0
      have b1 := hk4.cell 1
      have rown := hB4.row
      rw [HN.out] at q0 rown
      simp at b0 b1
      have f0 := hB4.bk.frozen 0
      have hlt4 := hB4.bk.lt
      have hbx := hk4.lt
      have hg4 := (row_lt rown g rfl).2
      have HB4 := Lib.hid hB4
      clear hBW hkW hk4 hB4 hey
      have fa : ∀ o : Obj, (w4.alloc o).frozen? ⟨w0.heap.size, 0, none⟩ = false := fun o => ((bal (RowKit.Below.refl w4.heap.size w4) o).frozen (p := ⟨w0.heap.size, 0, none⟩) hlt4).trans f0
      have ca : ∀ o : Obj, (w4.alloc o).cell? ⟨w0.heap.size, 0, none⟩ = some (.slice (some ⟨g, 0, none⟩) (m.length + 1) c) := fun o => ((bal (RowKit.Below.refl w4.heap.size w4) o).cell (p := ⟨w0.heap.size, 0, none⟩) hlt4).trans q0
      go_wp2_with fail
      go_region_law ((first
        | (refine step_append_lies _ (by rfl) _ _ _ (by rfl) (w0.heap.size + 1) 33 i0 _ 2 32 Tryz.underlying23 hi hz0 hz1 hz2 rfl (by omega) (.slice (some ⟨g, 0, none⟩) (m.length + 1) c) (m.length + 1) css.flatten (by rfl) ((rown.alloc _).drew) ⟨w4.heap.size, 0, none⟩ 1 1 [.slice RA e.1.length rc, .int .i64 e.2] (by rfl) (by rfl) (World.news_of_block (cs := #[.slice RA e.1.length rc, .int .i64 e.2]) (t := 33) (fr := (0, 0)) (heap_alloc_new w4 _)) (by simp [Value.oneCell']) (by omega) (by unfold maxLen; omega) (by omega) (by simp; omega) (w4.heap.size + 1) (by simp) ?_; intro gg cap w1 hown1 hgrow hat hlt'; have z0 := hgrow.cell_far ⟨w0.heap.size, 0, none⟩ (by simp; omega) (Ne.symm (ne1 (m.length + 1))); have z3 := hgrow.frozen_far ⟨w0.heap.size, 0, none⟩ (by simp; omega) (Ne.symm (ne1 (m.length + 1))))))
      all_goals go_wp2
      all_goals go_end0
      all_goals exact ⟨rfl, by rw [HADD.out]; exact HB4.out.push HX.out HN.out hown1 hgrow⟩
end Go.Proofs.YtifjenleoagefaaGreat

/- HELPER, no statement of the seat: the sums of the program, at entries. -/
namespace Go.Proofs.YtifjenleoagefaaGreat
open Go.RowKit Go.Sort
set_option linter.unusedSimpArgs false
set_option linter.unusedVariables false

set_option maxHeartbeats 1600000 in
theorem addAllB_e (w0 w : World) (A : Option Addr) (c : Nat) (es : List Ent) (css : List (List Value)) (h : BAt w0 w A c es css) (B : Option Addr) (d : Nat) (xs : List Ent) (hx : EntsAt w0 B xs) (hn : es.length + xs.length ≤ 1048576) (hr : rowsIn es 4194304) (hr2 : rowsIn xs 4194304) (hw : wIn es 549755813888) (hw2 : wIn xs 1000000) (hx4 : xs.length ≤ 400) :
    Calls Tryz.prog 80 #[.pointer (some ⟨w0.heap.size, 0, none⟩), .slice B xs.length d] w fun r w' => r = .returned (.tuple #[]) ∧ Added w0 (sumM es xs) w' := by
  have H := Lib.hid h
  have HW := Lib.hid hw
  have HW2 := Lib.hid hw2
  have HR := Lib.hid hr
  have HR2 := Lib.hid hr2
  clear h hw hw2 hr hr2
  go_enter Tryz.func80, Tryz.ntmps80
  go_wp2
  go_loopw [5, 8] (fun _ i wr => ∃ (k : Nat) (A' : Option Addr) (c' : Nat) (css' : List (List Value)), k ≤ xs.length ∧ i = .int .i64 k ∧ BAt w0 wr A' c' (sumM es (xs.take k)) css') (fun _ i _ => xs.length - (intOf i).toNat)
  case atStart => exact ⟨0, A, c, css, by omega, rfl, H.out⟩
  case round =>
    obtain ⟨k, A', c', css', hk, rfl, hB⟩ := hrel
    by_cases hlt : k < xs.length
    · obtain ⟨b, off, RB, rd, rfl, hbl, hc0, hc1, hml, hrow⟩ := hx.get k hlt
      have q0 := (hB.bel.cell (p := ⟨b, off + k * 2, none⟩) hbl).trans hc0
      have q1 := (hB.bel.cell (p := ⟨b, off + k * 2 + 1, none⟩) hbl).trans hc1
      have hst := sumM_take (l := es) hlt
      have hl := sumM_length (xs.take k) es
      have hl' : (sumM es (xs.take k)).length ≤ 1048576 := by simp at hl; omega
      have hrk : rowsIn (sumM es (xs.take k)) 4194304 := sumM_all (p := fun r : List Int => r.length ≤ 4194304) _ _ HR.out (fun q hq => HR2.out q (List.mem_of_mem_take hq))
      have hwk : wIn (sumM es (xs.take k)) 1099511627776 := (sumM_in (d := 1000000) (by omega) (xs.take k) es 549755813888 HW.out (by omega) (fun q hq => HW2.out q (List.mem_of_mem_take hq))).mono (by simp; omega)
      have hre := HR2.out.get hlt
      have hwe := HW2.out.get hlt
      have hcon := fun W (hW : Below wr.heap.size wr W) => addB_e w0 W A' c' _ css' (hB.below hW) RB rd xs[k] (EntR.mk hml hrow) hl' hrk hre hwk (by omega) (by omega)
      have HST := Lib.hid hst
      clear hst hl hl' hrk hwk hre hwe hc0 hc1 hml
      go_wp2_with fail
      refine (hcon _ (by repeat (first | exact RowKit.Below.refl _ _ | refine bal ?_ _ | refine bset ?_ (by simp) _))).mono ?_
      rintro r w1 ⟨rfl, A2, c2, css2, hB2⟩
      rw [← HST.out] at hB2
      have HB2 := Lib.hid hB2
      clear hcon q0 q1 hB2 hB
      go_wp2
      go_roundw
      case rel => exact ⟨k + 1, A2, c2, css2, by omega, by go_num, HB2.out⟩
      case measure => simp [intOf]; omega
    · obtain rfl : k = xs.length := by omega
      rw [List.take_length] at hB
      have HB := Lib.hid hB
      clear hB
      go_wp2
      go_end0
      exact ⟨rfl, A', c', css', HB.out⟩

/-! ### slices.DeleteFunc -/
theorem isZ_c (v : Value) (x : Int) (w : World) :
    Calls Tryz.prog 95 #[.agg #[v, .int .i64 x]] w fun e w' => e = .returned (.bool (x == 0)) ∧ Below w.heap.size w w' := by
  have hm := m_isZero
  go_enter Tryz.func95, Tryz.ntmps95
  go_wp2_with fail
  refine (isZero_e _ _ _).mono ?_
  rintro e w1 ⟨rfl, hb⟩
  have hB := btr (bal (RowKit.Below.refl _ _) _) hb
  clear hb
  go_wp2_with fail
  go_ret
  exact ⟨rfl, hB⟩
def IdxP (es : List Ent) (e : Ending) : Prop := (e = .returned (.int .i64 (-1)) ∧ ∀ x ∈ es, x.2 ≠ 0) ∨ ∃ (k : Nat) (hk : k < es.length), e = .returned (.int .i64 (k : Int)) ∧ es[k].2 = 0 ∧ ∀ x ∈ es.take k, x.2 ≠ 0
set_option maxHeartbeats 800000 in
theorem idxZ_e (A : Option Addr) (c : Nat) (es : List Ent) (w : World) (hx : EntsAt w A es) (hn : es.length ≤ 4194304) :
    Calls Tryz.prog 108 #[.slice A es.length c, .func (.func 95) #[] #[]] w fun e w' => IdxP es e ∧ Below w.heap.size w w' := by
  go_enter Tryz.func108, Tryz.ntmps108
  go_wp2
  go_loopw [5, 8] (fun _ i wr => ∃ k : Nat, k ≤ es.length ∧ i = .int .i64 k ∧ Hid (∀ x ∈ es.take k, x.2 ≠ 0) ∧ Below w.heap.size w wr) (fun _ i _ => es.length - (intOf i).toNat)
  case atStart => exact ⟨0, by omega, rfl, fun x hx => by simp at hx, RowKit.Below.refl _ _⟩
  case round =>
    obtain ⟨k, hk, rfl, hall, hbel⟩ := hrel
    by_cases hlt : k < es.length
    · obtain ⟨b, off, RA, rc, rfl, hbl, hc0, hc1, -, -⟩ := hx.get k hlt
      have q0 := (hbel.cell (p := ⟨b, off + k * 2, none⟩) hbl).trans hc0
      have q1 := (hbel.cell (p := ⟨b, off + k * 2 + 1, none⟩) hbl).trans hc1
      clear hc0 hc1
      by_cases hz : es[k].2 = 0
      · have hz' : (es[k].2 == 0) = true := by simp [hz]
        have HP : Hid (IdxP es (.returned (.int .i64 (k : Int)))) := .inr ⟨k, hlt, rfl, hz, hall.out⟩
        clear hz
        go_wp2_with (go_at_call 95; refine (isZ_c _ _ _).mono ?_; rintro e w1 ⟨rfl, hb⟩)
        go_ret
        exact ⟨HP.out, btr hbel (by assumption)⟩
      · have hz' : (es[k].2 == 0) = false := by simp [hz]
        have HA : Hid (∀ x ∈ es.take (k + 1), x.2 ≠ 0) := fun x hx => by
          rw [List.take_succ_eq_append_getElem hlt] at hx
          rcases List.mem_append.1 hx with hx | hx
          · exact hall.out x hx
          · simp at hx; subst hx; exact hz
        clear hz
        go_wp2_with (go_at_call 95; refine (isZ_c _ _ _).mono ?_; rintro e w1 ⟨rfl, hb⟩)
        go_roundw
        case rel => exact ⟨k + 1, by omega, by go_num, HA, btr hbel (by assumption)⟩
        case measure => simp [intOf]; omega
    · obtain rfl : k = es.length := by omega
      rw [List.take_length] at hall
      have HP : Hid (IdxP es (.returned (.int .i64 (-1)))) := .inl ⟨rfl, hall.out⟩
      go_wp2
      go_ret
      exact ⟨HP.out, hbel⟩

def isNz (es : List Ent) (i : Nat) : Bool := decide ((es.getD i ([], 0)).2 ≠ 0)
theorem isNz_at {es : List Ent} {i : Nat} (h : i < es.length) : isNz es i = decide (es[i].2 ≠ 0) := by simp [isNz, h]
theorem selTo_nz (es : List Ent) : (selTo (isNz es) es.length).map (fun i => es.getD i ([], 0)) = nz es := by
  have := selTo_map (l := es) (fun x => decide (x.2 ≠ 0)) ([], 0) es.length (Nat.le_refl _)
  rw [List.take_length] at this
  exact this
theorem getD_cells {w : World} {E : TypeId} {base g c n j : Nat} {css : List (List Value)} (he : ∀ cs ∈ css, cs.length = 2) (hr : w.ownsRow base E 2 (.slice (some ⟨g, 0, none⟩) n c) n css.flatten) (hj : j < css.length) (hn : css.length = n) :
    ∃ u v, css.getD j [] = [u, v] ∧ w.cell? ⟨g, j * 2, none⟩ = some u ∧ w.cell? ⟨g, j * 2 + 1, none⟩ = some v := by
  have hl := he _ (List.getElem_mem hj)
  have c0 := World.ownsRow.cellAt hr (j * 2) (by omega)
  have c1 := World.ownsRow.cellAt hr (j * 2 + 1) (by omega)
  have e0 := flat_get he j hj 0 (by omega)
  have e1 := flat_get he j hj 1 (by omega)
  rw [Nat.add_zero] at e0
  rw [e0] at c0
  rw [e1] at c1
  rw [getD_lt _ hj]
  generalize css[j] = q at hl c0 c1
  match q, hl with
  | [u, v], _ => exact ⟨u, v, rfl, by simpa using c0, by simpa using c1⟩

/-- The first elements of a row, in a world in which their cells are the same. -/
theorem at_of_take {w wr : World} {base g i n c : Nat} {E : TypeId} {D css : List (List Value)} {xs : List Ent} (hD : ∀ cs ∈ D, cs.length = 2) (hlen : D.length = n) (hown : wr.ownsRow base E 2 (.slice (some ⟨g, 0, none⟩) n c) n D.flatten) (htake : D.take i = css) (hrd : RdL EntR w css xs) (hi : i ≤ n) (hcell : ∀ o, o < i * 2 → w.cell? ⟨g, o, none⟩ = wr.cell? ⟨g, o, none⟩) (hlt : g < w.heap.size) : EntsAt w (some ⟨g, 0, none⟩) xs := fun _ => by
  refine ⟨g, 0, rfl, hlt, fun j hj => ?_⟩
  have hcl : css.length = i := by rw [← htake, List.length_take]; omega
  have hji : j < i := by rw [← hcl, hrd.len]; exact hj
  have hjD : j < D.length := by omega
  have hjc : j < css.length := by omega
  have e : css[j] = D[j] := by
    subst htake
    rw [List.getElem_take]
  refine ⟨css[j], by rw [e]; exact hD _ (List.getElem_mem hjD), fun o ho => ?_, hrd.elt j hjc hj⟩
  have := World.ownsRow.cellAt hown (j * 2 + o) (by omega)
  rw [Nat.zero_add, hcell _ (by omega), this, flat_get hD j hjD o ho, e]
theorem zero_ent (w : World) : (zeroValue 33).run Tryz.prog w = .ok (.agg #[.slice none 0 0, .int .i64 0]) w := by kernel_rfl

theorem size_setCells0 (b : Nat) : ∀ (vs : List Value) (o : Nat) (w : World), (w.setCells b o vs).heap.size = w.heap.size
  | [], _, _ => rfl
  | v :: vs, o, w => (size_setCells0 b vs (o + 1) _).trans (by simp [World.setCell])

set_option maxRecDepth 100000 in
set_option maxHeartbeats 3200000 in
theorem delZ_e (w0 w : World) (base : Nat) (A : Option Addr) (c : Nat) (es : List Ent) (css : List (List Value)) (hb0 : Below w0.heap.size w0 w) (hbs : w0.heap.size ≤ base) (hown : w.ownsRow base 33 2 (.slice A es.length c) es.length css.flatten) (rd : RdL EntR w0 css es) (hn : es.length ≤ 4194304) :
    Calls Tryz.prog 94 #[.slice A es.length c, .func (.func 95) #[] #[]] w fun e w' => ∃ A' c', e = .returned (.slice A' (nz es).length c') ∧ EntsAt w' A' (nz es) ∧ Below w0.heap.size w0 w' := by
  have rdw := rd.below entR hb0
  have hat : EntsAt w A es := rdw.at_ entR rfl hown
  have hlen := rd.len
  have hel := rd.elen entR
  go_enter Tryz.func94, Tryz.ntmps94
  go_wp2_with fail
  refine (idxZ_e A c es w hat hn).mono ?_
  rintro e w1 ⟨hP, b1⟩
  have hB1 := btr hb0 b1
  have hown1 := ownsRow_below hown b1
  rcases hP with ⟨rfl, hall⟩ | ⟨k0, hk0, rfl, hz0, hbef⟩
  · have hz : nz es = es := List.filter_eq_self.2 (fun x hx => by simpa using hall x hx)
    have HZ := Lib.hid hz
    have hat1 : EntsAt w1 A es := hat.below entR b1
    clear hz hall hown hown1 rd rdw hat
    go_wp2_with fail
    go_ret
    exact ⟨A, c, by rw [HZ.out]; rfl, by rw [HZ.out]; exact hat1, hB1⟩
  · have hpos : 0 < es.length := by omega
    obtain ⟨g, hA, hbg, hgl, hnc, hcm⟩ : ∃ g, A = some ⟨g, 0, none⟩ ∧ base ≤ g ∧ g < w.heap.size ∧ es.length ≤ c ∧ c ≤ maxLen := by
      rcases ownsRow_form hown with ⟨_, _, h⟩ | h
      · omega
      · exact h
    subst hA
    have hne1 : ((k0 : Int) == -1) = false := beq_eq_false_iff_ne.2 (by omega)
    have hD0 : DelI css (isNz es) (k0 + 1) css := DelI.start (by omega) (fun i hi => by
      rw [isNz_at (by omega)]
      have := hbef es[i] (by rw [List.mem_take_iff_getElem]; exact ⟨i, by omega, rfl⟩)
      simpa using this) (by rw [isNz_at hk0]; simp [hz0])
    have hs1 : g < w1.heap.size := Nat.lt_of_lt_of_le hgl b1.size
    have HD0 := Lib.hid hD0
    have hl0 := hD0.lt
    have hlk : (selTo (isNz es) (k0 + 1)).length = k0 := by
      have e : selTo (isNz es) (k0 + 1) = List.range k0 := by
        rw [selTo_step, selTo_all (fun i hi => by
          rw [isNz_at (by omega)]
          have := hbef es[i] (by rw [List.mem_take_iff_getElem]; exact ⟨i, by omega, rfl⟩)
          simpa using this), isNz_at hk0]
        simp [hz0]
      rw [e]; simp
    have HK := Lib.hid hlk
    have HEL := Lib.hid hel
    have HRD := Lib.hid rd
    have HO1 := Lib.hid hown1
    have HC := Lib.hid hlen
    clear hD0 hlk hown1 hown hbef hel rd rdw hat hl0 hz0 hlen
    go_wp2
    go_loopw [5, 6, 7] (fun si sj _ wr => ∃ (j i : Nat) (D : List (List Value)), sj = .int .i64 j ∧ si = .int .i64 i ∧ j ≤ es.length ∧ Hid (i = (selTo (isNz es) j).length) ∧ DelI css (isNz es) j D ∧ Hid (∀ cs ∈ D, cs.length = 2) ∧ wr.ownsRow base 33 2 (.slice (some ⟨g, 0, none⟩) es.length c) es.length D.flatten ∧ Below w0.heap.size w0 wr) (fun _ sj _ _ => es.length - (intOf sj).toNat)
    case atStart => exact ⟨k0 + 1, k0, css, by go_num, rfl, by omega, HK.out.symm, HD0.out, HEL.out, HO1.out, hB1⟩
    case round =>
      obtain ⟨j, i, D, rfl, rfl, hj, Hi, hD, HDl, hownD, hbel⟩ := hrel
      have hij : i < j := by rw [Hi.out]; exact hD.lt
      have hDlen : D.length = es.length := by rw [hD.len, HC.out]
      by_cases hlt : j < es.length
      · have hjc : j < css.length := by rw [HC.out]; exact hlt
        obtain ⟨RA, rc, hcs, hml, hrow⟩ := (HRD.out.elt j hjc hlt).form
        have hgd : D.getD j [] = [.slice RA es[j].1.length rc, .int .i64 es[j].2] := by rw [hD.at_ hjc, getD_lt _ hjc, hcs]
        obtain ⟨u, v, huv, q0, q1⟩ := getD_cells (j := j) HDl.out hownD (by omega) hDlen
        rw [hgd] at huv
        injection huv with e1 e2
        injection e2 with e2 _
        subst e1
        subst e2
        by_cases hz : es[j].2 = 0
        · have hz' : (es[j].2 == 0) = true := by simp [hz]
          have hnzj : isNz es j = false := by rw [isNz_at hlt]; simp [hz]
          have HD := Lib.hid (hD.skip hnzj)
          have HI : Hid (i = (selTo (isNz es) (j + 1)).length) := by rw [Hi.out, selTo_step, hnzj]; simp [Hid]
          have HO := Lib.hid hownD
          clear hz hnzj hD hgd hcs hownD
          go_wp2_with (go_at_call 95; refine (isZ_c _ _ _).mono ?_; rintro e w2 ⟨rfl, hb⟩)
          have hbb := btr (bal (RowKit.Below.refl _ _) _) hb
          go_roundw
          case rel => exact ⟨j + 1, i, D, by go_num, rfl, by omega, HI, HD.out, HDl, ownsRow_below HO.out hbb, btr hbel hbb⟩
          case measure => simp [intOf]; omega
        · have hz' : (es[j].2 == 0) = false := by simp [hz]
          have hnzj : isNz es j = true := by rw [isNz_at hlt]; simpa using hz
          have hkp := hD.keep hjc hnzj
          rw [← Hi.out, getD_lt _ hjc, hcs] at hkp
          have HD := Lib.hid hkp
          have HI : Hid (i + 1 = (selTo (isNz es) (j + 1)).length) := by rw [Hi.out, selTo_step, hnzj]; simp [Hid]
          have HO := Lib.hid hownD
          have hi0 : (0 : Int) ≤ (i : Int) := by omega
          have hin : (i : Int) < es.length := by omega
          clear hz hnzj hD hgd hcs hownD hkp
          go_wp2_with fail
          refine (isZ_c _ _ _).mono ?_
          rintro e w2 ⟨rfl, hb⟩
          obtain ⟨hcl, hfr⟩ := bcell hb
          have hbb := btr (bal (RowKit.Below.refl _ _) _) hb
          have t0 : w2.cell? ⟨wr.heap.size, 0, none⟩ = some (.slice RA es[j].1.length rc) := by rw [hcl _ _ (by simp)]; simp
          have t1 : w2.cell? ⟨wr.heap.size, 1, none⟩ = some (.int .i64 es[j].2) := by rw [hcl _ _ (by simp)]; simp
          have hown2 := ownsRow_below HO.out hbb
          obtain ⟨u0, u1, -, v0, v1⟩ := getD_cells HDl.out hown2 (show i < D.length by omega) hDlen
          have f0 := World.ownsRow.frozenAt hown2 (i * 2)
          have f1 := World.ownsRow.frozenAt hown2 (i * 2 + 1)
          have hst := (World.ownsRow.stored (World.ownsRow.stored hown2 (i * 2) (.slice RA es[j].1.length rc)).1 (i * 2 + 1) (.int .i64 es[j].2)).1
          rw [flat_set2 HDl.out i (by omega)] at hst
          have HST := Lib.hid hst
          have HD2 : Hid (∀ cs ∈ D.set i [.slice RA es[j].1.length rc, .int .i64 es[j].2], cs.length = 2) := fun cs hc => by
            rcases List.mem_or_eq_of_mem_set hc with hc | rfl
            · exact HDl.out cs hc
            · rfl
          have HB := Lib.hid (btr hbel hbb)
          clear hb hcl hfr hbb hown2 hst hbel q0 q1
          go_wp2
          go_roundw
          case rel => exact ⟨j + 1, i + 1, _, by go_num, by go_num, by omega, HI, HD.out, HD2, HST.out, bset (bset HB.out (by simp; omega) _) (by simp; omega) _⟩
          case measure => simp [intOf]; omega
      · obtain rfl : j = es.length := by omega
        have hin : (i : Int) ≤ es.length := by omega
        have hi0 : (0 : Int) ≤ (i : Int) := by omega
        have hic : ¬ c = i := by omega
        have hcm' : (c : Int) ≤ 9223372036854775807 := by unfold maxLen at hcm; omega
        have hic2 : (i : Int) ≤ c := by omega
        have hgr : g < wr.heap.size := (World.ownsRow.lt hownD g rfl).2
        have hcl : ∀ ty, (Builtin.clear_ #[23] ty #[.slice (some ⟨g, i * 2, none⟩) (es.length - i) (c - i)]).run Tryz.prog wr = .ok (.tuple #[]) (wr.setCells g (i * 2) (Builtin.zeroCells (Value.agg #[.slice none 0 0, .int .i64 0]).cells (es.length - i)).toList) :=
          fun ty => run_clear_k wr _ _ ty _ 2 Tryz.underlying23 zero_ent rfl (fun u hu => by simp [Value.cells] at hu; rcases hu with rfl | rfl <;> rfl) g (i * 2) _ _ (by omega) (fun o ho => by
            rw [World.ownsRow.cellAt hownD (i * 2 + o) (by omega), List.getElem?_eq_getElem (by rw [flat_len HDl.out, hDlen]; omega)]; rfl) (fun o ho => World.ownsRow.frozenAt hownD _)
        have hsel : RdL EntR w0 ((selTo (isNz es) es.length).map fun i => css.getD i []) (nz es) := by
          have := HRD.out.pick ([], 0) (selTo (isNz es) es.length) (fun k hk => selTo_lt hk)
          rwa [selTo_nz] at this
        have hZ : ∀ W : World, W = wr.setCells g (i * 2) (Builtin.zeroCells (Value.agg #[.slice none 0 0, .int .i64 0]).cells (es.length - i)).toList → EntsAt W (some ⟨g, 0, none⟩) (nz es) ∧ RowKit.Below w0.heap.size w0 W := by
          rintro W rfl
          have hbW : RowKit.Below w0.heap.size w0 (wr.setCells g (i * 2) (Builtin.zeroCells (Value.agg #[.slice none 0 0, .int .i64 0]).cells (es.length - i)).toList) := Go.below_setCells (by omega) _ _ _ hbel
          refine ⟨at_of_take HDl.out hDlen hownD (by rw [Hi.out]; exact hD.head) (hsel.below entR hbW) (by omega) (fun o ho => World.cell?_setCells_out _ _ _ _ _ (fun _ _ => .inl ho)) ?_, hbW⟩
          rw [show (wr.setCells g (i * 2) (Builtin.zeroCells (Value.agg #[.slice none 0 0, .int .i64 0]).cells (es.length - i)).toList).heap.size = wr.heap.size from size_setCells0 _ _ _ _]
          exact hgr
        have HZ := Lib.hid hZ
        have HL : Hid (i = (nz es).length) := by rw [Hi.out, ← selTo_nz es]; simp [Hid]
        clear hZ hsel hD hownD
        go_wp2
        go_ret
        exact ⟨some ⟨g, 0, none⟩, c, by rw [← HL.out]; rfl, HZ.out _ rfl⟩
end Go.Proofs.YtifjenleoagefaaGreat
