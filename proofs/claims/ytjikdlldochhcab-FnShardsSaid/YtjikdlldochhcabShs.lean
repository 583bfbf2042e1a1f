/- HELPER, no statement of the seat: the model's Shards. -/
import Derived.Test.YtjikdlldochhcabSha
namespace Go.Proofs.Ytjikdlldochhcab
open Go.RowKit Go.Sort
set_option linter.unusedSimpArgs false
set_option linter.unusedVariables false

/-- One more Z-set, in a row that holds the ones before it; nothing else has changed. -/
theorem SlF.nextB {w0 wr w2 w2' w3 : World} {A : Option Addr} {c : Nat} {zs : List Zs} {css : List (List Value)} {F : Nat → Fp} {ZA : Option Addr} {zc : Nat} {z : Zs} {v' : Value}
    (h : SlF ZlO 1 31 wr (news w0 wr) A c zs css F) (hw : w0.heap.size ≤ wr.heap.size) (hg : Below wr.heap.size wr w2) (hz : EntsOw w2 (news wr w2) ZA zc z) (hb : Below w2.heap.size w2 w2')
    (hrow : w3.ownsRow w0.heap.size 31 1 v' (zs.length + 1) (css.flatten ++ [.slice ZA z.length zc])) (hgrow : w2'.grownBy w3 (blk A)) (hl : ∀ k, v'.ownBlock = some k → blk A = some k ∨ w2'.heap.size ≤ k) :
    ∃ A' c', v' = .slice A' (zs.length + 1) c' ∧ ZssOw w3 (news w0 w3) A' c' (zs ++ [z]) ∧ Below w0.heap.size wr w3 := by
  obtain ⟨A', c', rfl⟩ := own_slice hrow
  rw [ownBlock_slice] at hl
  have hs1 := hg.size
  have hs2 := hb.size
  have hs3 := hgrow.size
  have h2 := h.loc zlO (w' := w2') (fun k hk => (hb.block k (Nat.lt_of_lt_of_le hk.2 hs1)).trans (hg.block k hk.2))
  have hz2 : ZlO w2' (news wr w2) [.slice ZA z.length zc] z := ⟨ZA, zc, rfl, hz.below entO hb⟩
  refine ⟨A', c', rfl, ⟨_, _, SlF.push zlO h2 hz2 (U := news w0 w3) (fun k h1 h2 => by have := h1.1; have := h2.2; omega) (ownsRow_base0 hrow) (fun k hk hn => hgrow.block k hk (fun e => hn e.symm)) hl (fun k hk => ?_) (fun k hk => hk.2)⟩, ?_⟩
  · have hlt := World.ownsRow.lt hrow
    rcases hk with hk | hk | hk
    · exact ⟨hk.1, by have := hk.2; omega⟩
    · exact ⟨by have := hk.1; omega, by have := hk.2; omega⟩
    · have := hlt k (by rw [ownBlock_slice]; exact hk)
      exact ⟨this.1, this.2⟩
  · exact ((btr hg hb).mono hw).grown hgrow (by omega) (fun k hk => (h.top k hk).1)
theorem madeZ (w W : World) (h : Below w.heap.size w W) : SlF ZlO 1 31 (W.alloc (.cells #[] 31)) (news w (W.alloc (.cells #[] 31))) (some ⟨W.heap.size, 0, none⟩) 0 [] [] (fun _ _ => False) :=
  SlF.made ZlO 1 31 W #[] 0 (by simp [maxLen]) (by simp) ⟨h.size, by simp⟩ (fun q hq => by have := hq.2; simpa using this)
theorem noEnts (w W : World) (h : Below w.heap.size w W) : EntsOw (W.alloc (.cells #[] 50)) (news w (W.alloc (.cells #[] 50))) (some ⟨W.heap.size, 0, none⟩) 0 [] :=
  ⟨_, _, SlF.made EntO 2 50 W #[] 0 (by simp [maxLen]) (by simp) ⟨h.size, by simp⟩ (fun q hq => by have := hq.2; simpa using this)⟩
/-- A round of the model: the shard has one more entry, copied. -/
theorem shs_round {w wr w5 w1 : World} {G n jj : Nat} {L : List Zs} {css : List (List Value)} {F F2 : Nat → Fp} {ZA RA5 : Option Addr} {zc rc5 gg cap : Nat} {css2 : List (List Value)} {e : Ent}
    (hO : SlF ZlO 1 31 wr (news w wr) (some ⟨G, 0, none⟩) n L css F) (hbel : Below w.heap.size w wr) (hjL : jj < L.length) (hjc : jj < css.length) (h2 : SlF EntO 2 50 wr (F jj) ZA zc L[jj] css2 F2)
    (hb5 : Below wr.heap.size wr w5) (ho5 : IntsOwn w5 wr.heap.size RA5 rc5 e.1) (hrow : w1.ownsRow 0 50 2 (.slice (some ⟨gg, 0, none⟩) (L[jj].length + 1) cap) (L[jj].length + 1) (css2.flatten ++ [.slice RA5 e.1.length rc5, .int .i64 e.2]))
    (hg : (w5.alloc (.cells #[.slice RA5 e.1.length rc5, .int .i64 e.2] 50)).grownBy w1 (blk ZA)) (hat : blk ZA = some gg ∨ gg = w5.heap.size + 1) (hlt : gg < w1.heap.size) :
    (∃ css F, SlF ZlO 1 31 (w1.setCell ⟨G, jj, none⟩ (.slice (some ⟨gg, 0, none⟩) (L[jj].length + 1) cap)) (news w (w1.setCell ⟨G, jj, none⟩ (.slice (some ⟨gg, 0, none⟩) (L[jj].length + 1) cap))) (some ⟨G, 0, none⟩) n (L.set jj (L[jj] ++ [e])) css F) ∧
    Below w.heap.size w (w1.setCell ⟨G, jj, none⟩ (.slice (some ⟨gg, 0, none⟩) (L[jj].length + 1) cap)) := by
  have hs0 := hbel.size
  have hs5 := hb5.size
  have hs1 := hg.size
  simp at hs1
  have hSG := hO.top G rfl
  have hZA : ∀ x, blk ZA = some x → w.heap.size ≤ x ∧ x < wr.heap.size := fun x hx => (hO.sub jj x (h2.top x hx)).1
  have hgg : ∀ x, blk (some ⟨gg, 0, none⟩ : Option Addr) = some x → x = gg := fun x hx => by simpa [blk] using hx.symm
  have hel : EntO w5 (fun q => wr.heap.size ≤ q ∧ q < w5.heap.size) [.slice RA5 e.1.length rc5, .int .i64 e.2] e := EntO.mk (fun q hq => hq.2) (fun q e => by
    rcases ho5.form with ⟨h1, _⟩ | ⟨g', h1, h2, h3⟩
    · rw [h1] at e; cases e
    · rw [h1] at e; simp [blk] at e; subst e; exact ⟨h2, h3⟩) (ho5.mono (Nat.zero_le _))
  have hel2 : EntO (w5.alloc (.cells #[.slice RA5 e.1.length rc5, .int .i64 e.2] 50)) (fun q => wr.heap.size ≤ q ∧ q < w5.heap.size) [.slice RA5 e.1.length rc5, .int .i64 e.2] e := entO.loc hel (fun x hx => Below.heap_alloc _ _ x hx.2)
  have hp := shard_push hO hjL hjc h2 (bal hb5 (.cells #[.slice RA5 e.1.length rc5, .int .i64 e.2] 50)) hel2 (fun q h1 h3 => by have := h1.1; have := h3.2; omega) hrow hg (fun x hx => by
    rw [hgg x hx]
    rcases hat with h | h
    · exact .inl h
    · right; rw [h]; simp)
  have hsz : (w1.setCell ⟨G, jj, none⟩ (.slice (some ⟨gg, 0, none⟩) (L[jj].length + 1) cap)).heap.size = w1.heap.size := by simp [World.setCell]
  refine ⟨⟨_, _, hp.mono (fun x hx => ?_) (fun x hx => hx.2)⟩, ?_⟩
  · rcases hx with hx | hx | hx
    · exact ⟨hx.1, by rw [hsz]; have := hx.2; omega⟩
    · exact ⟨by have := hx.1; omega, by rw [hsz]; have := hx.2; omega⟩
    · rw [hgg x hx]
      refine ⟨?_, by rw [hsz]; exact hlt⟩
      rcases hat with h | h
      · exact (hZA _ h).1
      · omega
  · have h3 : Below w.heap.size w w1 := below_of_grown (btr hbel (bal hb5 _)) hg (fun x hx => (hZA x hx).1)
    exact h3.setCell (p := ⟨G, jj, none⟩) hSG.1 _
set_option maxRecDepth 100000 in
set_option maxHeartbeats 6400000 in
theorem shards_s (A : Option Addr) (c : Nat) (z : List Ent) (k m : Nat) (w : World) (hx : EntsAt w A z) (hn : z.length ≤ 400) (hsh : ∀ i (h : i < z.length), k ≤ z[i].1.length ∧ rowB z[i].1 = true) (hm1 : 1 ≤ m) (hm8 : m ≤ 8) :
    Calls Try.prog 44 #[.slice A z.length c, .int .i64 (k : Nat), .int .i64 (m : Nat)] w fun e w' => ∃ A' c', e = .returned (.slice A' m c') ∧ ZssOw w' (news w w') A' c' (shL z k m) ∧ Below w.heap.size w w' := by
  obtain ⟨i0, hi, hz0, hz1, hz2⟩ := info_parts Try.infoZl
  obtain ⟨i1, hj, hj0, hj1, hj2⟩ := info_parts Try.infoEnt
  have HSH := Lib.hid hsh
  have HM := Lib.hid (madeZ w w (Below.refl _ _))
  clear hsh
  go_enter Try.func44, Try.ntmps44
  go_wp2
  go_loopw [7, 8] (fun o i wr => ∃ (t : Nat) (A' : Option Addr) (c' : Nat), t ≤ m ∧ i = .int .i64 (t : Nat) ∧ o = .slice A' t c' ∧ ZssOw wr (news w wr) A' c' (List.replicate t []) ∧ Below w.heap.size w wr) (fun _ i _ => m - (intOf i).toNat)
  case atStart => exact ⟨0, _, _, by omega, rfl, rfl, ⟨_, _, HM.out⟩, bal (Below.refl _ _) _⟩
  case round =>
    obtain ⟨t, A', c', ht, rfl, rfl, ⟨css, F, hO⟩, hbel⟩ := hrel
    clear HM
    by_cases hlt : t < m
    · have hE := noEnts wr wr (Below.refl _ _)
      have hb1 : Below wr.heap.size wr (wr.alloc (.cells #[] 50)) := bal (Below.refl _ _) _
      have hrow1 : (wr.alloc (.cells #[] 50)).ownsRow w.heap.size 31 1 (.slice A' t c') t css.flatten := by
        have h := ownsRow_base (ownsRow_loc hO.row (w' := wr.alloc (.cells #[] 50)) (fun k hk => hb1.block k (hO.top k hk).2)) (fun k hk => (hO.top k hk).1)
        rwa [List.length_replicate] at h
      have HO := Lib.hid hO
      have HBEL := Lib.hid hbel
      have hs1 := hbel.size
      clear hO hbel
      go_wp2_with (at_builtin; refine wpList_append_src _ rfl _ _ 29 rfl w.heap.size 31 i0 (.slice none 0 0) 1 24 Try.underlying29 hi hz0 hz1 hz2 rfl (by decide) _ _ _ rfl (hrow1.alloc _) (some ⟨wr.heap.size + 1, 0, none⟩) 1 1 [.slice (some ⟨wr.heap.size, 0, none⟩) 0 0] rfl rfl (fun h => by cases h) (by simpa using zl_srcs (w := wr.alloc (.cells #[] 50)) (A := some ⟨wr.heap.size, 0, none⟩) (n := 0) (c := 0) (E := 31)) zl_ones (by unfold maxLen; omega) (by omega) (by simp; omega) ?_)
      intro v' w3 hown' hgrow hloc
      simp only [ownBlock_slice] at hgrow hloc
      have hnx := HO.out.nextB hs1 hb1 hE (bal (Below.refl _ _) _) (by rw [List.length_replicate]; exact hown') hgrow (fun k hk => by have := hloc k hk; simpa using this)
      rw [List.length_replicate, ← List.replicate_succ'] at hnx
      obtain ⟨A3, c3, rfl, ho3, hb3⟩ := hnx
      have HO3 := Lib.hid ho3
      have HB3 : Hid (Below w.heap.size w w3) := HBEL.out.trans hb3
      clear hown' hgrow hloc ho3 hb3 hE hb1 hrow1 HO
      go_wp2
      go_roundw
      case rel => exact ⟨t + 1, A3, c3, by omega, by go_num, rfl, HO3.out, HB3.out⟩
      case measure => simp [intOf]; omega
    · obtain rfl : t = m := by omega
      have hO0 : SlF ZlO 1 31 wr (news w wr) A' c' (shL (z.take 0) k t) css F := by rw [List.take_zero, shL_nil]; exact hO
      obtain ⟨G, rfl⟩ : ∃ G, A' = some ⟨G, 0, none⟩ := by
        rcases hO.form with ⟨_, _, h⟩ | ⟨G, h, _⟩
        · have := congrArg List.length h; simp at this; omega
        · exact ⟨G, h⟩
      have HO := Lib.hid hO0
      have HBEL := Lib.hid hbel
      obtain ⟨V, rfl⟩ : ∃ V : World, V = wr := ⟨_, rfl⟩
      clear hO hO0 hbel
      go_wp2
      go_loopw [9, 10] (fun i _ wr => ∃ (q : Nat) (css : List (List Value)) (F : Nat → Fp), q ≤ z.length ∧ i = .int .i64 (q : Nat) ∧ SlF ZlO 1 31 wr (news w wr) (some ⟨G, 0, none⟩) c' (shL (z.take q) k t) css F ∧ Below w.heap.size w wr) (fun i _ _ => z.length - (intOf i).toNat)
      case atStart => exact ⟨0, css, F, by omega, rfl, HO.out, HBEL.out⟩
      case round =>
        clear HO HBEL css F
        obtain ⟨q, css, F, hq, rfl, hO, hbel⟩ := hrel
        by_cases hlt : q < z.length
        · obtain ⟨b, off, RA, rc, rfl, hbl, hc0, hc1, -, hrow⟩ := hx.get q hlt
          have q0 := (hbel.cell (p := ⟨b, off + q * 2, none⟩) hbl).trans hc0
          have q1 := (hbel.cell (p := ⟨b, off + q * 2 + 1, none⟩) hbl).trans hc1
          have hsh := HSH.out q hlt
          have hl6 : z[q].1.length ≤ 6 := by have h := hsh.2; simp only [rowB, decide_eq_true_eq] at h; exact h.2.1
          have hrw := hrow.below hbel
          have hcon := shardOf_s RA rc z[q].1 k (t : Int) wr hrw hsh.2 hsh.1 (by omega) (by omega)
          have hixb := sIx_bd (k := k) (n := (t : Int)) (by omega) z[q]
          obtain ⟨jj, hjj⟩ : ∃ jj : Nat, sIx k (t : Int) z[q] = (jj : Int) := ⟨(sIx k (t : Int) z[q]).toNat, by omega⟩
          have hix2 : hsL (z[q].1.take k) % (t : Int) = (jj : Int) := hjj
          rw [hix2] at hcon
          have hjm : jj < t := by omega
          have hjL : jj < (shL (z.take q) k t).length := by rw [shL_length]; exact hjm
          have hjc : jj < css.length := by rw [hO.clen]; exact hjL
          have HST := Lib.hid (shL_step hlt hjj hjL)
          obtain ⟨ZA, zc, hzcs, css2, F2, h2⟩ := hO.elt jj hjc hjL
          have hz0' := hO.cell jj hjc 0 (by omega)
          rw [hzcs] at hz0'
          simp at hz0'
          have hlL : (shL (z.take q) k t)[jj].length ≤ 400 := by
            rw [shL_get]
            have h1 := List.length_filter_le (fun e => decide (sIx k (t : Int) e = (jj : Int))) (z.take q)
            have h2 : (z.take q).length ≤ z.length := by simp; omega
            omega
          have hLL := shL_length (z.take q) k t
          have hzf := hO.frozen jj
          have hGl : G < wr.heap.size := hO.lt _ (hO.top _ rfl)
          have hGw : w.heap.size ≤ G := (hO.top _ rfl).1
          have hZA : ∀ x, blk ZA = some x → w.heap.size ≤ x ∧ x < wr.heap.size ∧ x ≠ G := fun x hx => by
            have h := hO.sub jj x (h2.top x hx)
            exact ⟨h.1.1, h.1.2, fun e => h.2 (by rw [e]; rfl)⟩
          have HOO := Lib.hid hO
          have HBEL := Lib.hid hbel
          have HZC := Lib.hid hzcs
          have H2 := Lib.hid h2
          have hcp := fun W (h : IntsAt W RA z[q].1) => copyEntry_s RA rc z[q].1 z[q].2 W h (by omega)
          have HRW := Lib.hid hrw
          clear hjj hixb hix2 hsh hO hbel hzcs h2 hc0 hc1 hrow hrw
          generalize hL : shL (z.take q) k t = L at *
          go_wp2_with fail
          refine hcon.mono ?_
          rintro e w4 ⟨rfl, rfl⟩
          have hjA : (0 : Int) ≤ (jj : Int) := by omega
          have hjB : (jj : Int) < (t : Int) := by omega
          have hne : ∀ n', (Value.slice ZA n' zc).ownBlock ≠ some G := fun n' hh => by
            rw [ownBlock_slice] at hh
            exact (hZA _ hh).2.2 rfl
          have HSZ := Lib.hid (show L[jj].length ≤ 400 from hlL)
          have hB0 : Below wr.heap.size wr wr.drew := (Below.refl _ _).drew
          clear hcon
          go_wp2_with fail
          go_region_law ((first
            | (refine step_append_lies _ (by rfl) _ _ _ (by rfl) 0 50 i1 _ 2 32 Try.underlying31 hj hj0 hj1 hj2 rfl (by omega) (.slice ZA L[jj].length zc) L[jj].length css2.flatten (by rfl) (hrow5.alloc _) ⟨w5.heap.size, 0, none⟩ 1 1 [.slice RA5 z[q].1.length rc5, .int .i64 z[q].2] (by rfl) (by rfl) (World.news_of_block (cs := #[.slice RA5 z[q].1.length rc5, .int .i64 z[q].2]) (t := 50) (fr := (0, 0)) (heap_alloc_new w5 _)) (by simp [Value.oneCell']) (by omega) (by have := HSZ.out; unfold maxLen; omega) (by have := HSZ.out; omega) (by simp) (w5.heap.size + 1) (by simp) ?_; intro gg cap w1 hown1 hgrow hat hlt'; have z0 := hgrow.cell_far ⟨G, jj, none⟩ (by simp; omega) (Ne.symm (hne _)); have z3 := hgrow.frozen_far ⟨G, jj, none⟩ (by simp; omega) (Ne.symm (hne _)))
            | (go_simp; go_at_call 68; refine (hcp _ (HRW.out.below hB0)).mono ?_; rintro e w5 ⟨RA5, rc5, rfl, ho5, b5⟩; have B5 := btr hB0 b5; have hs5 := B5.size; have hrow5 := (H2.out.loc entO (fun x hx => B5.block x (H2.out.lt x hx))).row; have pz : w5.cell? ⟨G, jj, none⟩ = some (.slice ZA L[jj].length zc) := (B5.cell (p := ⟨G, jj, none⟩) hGl).trans hz0'; have pf : w5.frozen? ⟨G, jj, none⟩ = false := (B5.frozen (p := ⟨G, jj, none⟩) hGl).trans hzf; have hlt5 : G < w5.heap.size := (by omega); have fa : ∀ o : Obj, (w5.alloc o).frozen? ⟨G, jj, none⟩ = false := fun o => ((bal (RowKit.Below.refl w5.heap.size w5) o).frozen (p := ⟨G, jj, none⟩) hlt5).trans pf; have ca : ∀ o : Obj, (w5.alloc o).cell? ⟨G, jj, none⟩ = some (.slice ZA L[jj].length zc) := fun o => ((bal (RowKit.Below.refl w5.heap.size w5) o).cell (p := ⟨G, jj, none⟩) hlt5).trans pz)))
          all_goals go_wp2
          all_goals go_roundw
          all_goals first
            | (case rel =>
                have hrnd := shs_round HOO.out HBEL.out hjL hjc H2.out B5 ho5 hown1 (by rw [← ownBlock_slice]; exact hgrow) (by rw [ownBlock_slice] at hat; exact hat) hlt'
                rw [← HST.out] at hrnd
                obtain ⟨⟨css', F', hrnd⟩, hb'⟩ := hrnd
                exact ⟨q + 1, css', F', by omega, by go_num, hrnd, hb'⟩)
            | (case measure => simp [intOf]; omega)
        · obtain rfl : q = z.length := by omega
          have HOO := Lib.hid hO
          have HBEL := Lib.hid hbel
          clear hO hbel
          go_wp2
          go_ret
          have h := HOO.out
          rw [List.take_length] at h
          exact ⟨some ⟨G, 0, none⟩, c', rfl, ⟨_, _, h⟩, HBEL.out⟩
theorem widthOf_sH (A : Option Addr) (c : Nat) (z : List Ent) (w : World) (hx : EntsAt w A z) (hp : 0 < z.length) (hr : rowsIn z 4194304) :
    Calls Try.prog 43 #[.slice A z.length c] w fun e w' => e = .returned (.int .i64 (wid z)) ∧ Below w.heap.size w w' := by
  obtain ⟨b, off, RA, rc, rfl, hbl, hc0, -, -, -⟩ := hx.get 0 hp
  simp only [Nat.zero_mul, Nat.add_zero] at hc0
  have hp' : (0 : Int) < z.length := by omega
  have HW := Lib.hid (wid_get hp)
  go_enter Try.func43, Try.ntmps43
  go_wp2
  go_ret
  exact ⟨ret_int (by rw [HW.out]), Below.refl _ _⟩
set_option maxRecDepth 100000 in
set_option maxHeartbeats 3200000 in
theorem Shards_s (A : Option Addr) (c : Nat) (z : List Ent) (k n : Int) (w : World) (hx : EntsAt w A z) (hn : z.length ≤ 4194304) (hr : rowsIn z 4194304) (hkb : -9223372036854775808 ≤ k ∧ k ≤ 9223372036854775807) (hnb : -9223372036854775808 ≤ n ∧ n ≤ 9223372036854775807) :
    Calls Try.prog 14 #[.slice A z.length c, .int .i64 k, .int .i64 n] w fun e w' => ∃ A' c', e = .returned (.slice A' (ShsF z k n).length c') ∧ ZssOw w' (news w w') A' c' (ShsF z k n) ∧ Below w.heap.size w w' := by
  have HN : Hid (∀ W, Below w.heap.size w W → ZssOw (W.alloc (.cells #[] 31)) (news w (W.alloc (.cells #[] 31))) (some ⟨W.heap.size, 0, none⟩) 0 []) := fun W h => ⟨_, _, madeZ w W h⟩
  have hvz := validZSet_s A c z w hx hn hr
  have hwk := fun W => validWorkers_s n W
  cases e1 : zsB z
  · have HF : Hid (ShsF z k n = []) := by simp [Hid, ShsF, shcB, e1]
    rw [e1] at hvz
    clear e1 hwk
    go_enter Try.func14, Try.ntmps14
    go_wp2_with fail
    refine hvz.mono ?_
    rintro e w1 ⟨rfl, b1⟩
    go_wp2
    go_ret
    exact ⟨_, _, by rw [HF.out]; rfl, by rw [HF.out]; exact HN.out _ b1, bal b1 _⟩
  rw [e1] at hvz
  cases e3 : inB n 1 8
  · have HF : Hid (ShsF z k n = []) := by simp [Hid, ShsF, shcB, e3]
    rw [e3] at hwk
    clear e1 e3
    go_enter Try.func14, Try.ntmps14
    go_wp2_with fail
    refine hvz.mono ?_
    rintro e w1 ⟨rfl, b1⟩
    go_wp2_with fail
    refine (hwk _).mono ?_
    rintro e w2 ⟨rfl, rfl⟩
    go_wp2
    go_ret
    exact ⟨_, _, by rw [HF.out]; rfl, by rw [HF.out]; exact HN.out _ b1, bal b1 _⟩
  have hn18 := inB_yes e3
  obtain ⟨m, rfl⟩ : ∃ m : Nat, n = m := ⟨n.toNat, by omega⟩
  rw [e3] at hwk
  by_cases hk0 : k < 0
  · have HF : Hid (ShsF z k (m : Int) = []) := by
      have : decide (0 ≤ k) = false := decide_eq_false (by omega)
      simp [Hid, ShsF, shcB, this]
    clear e1 e3
    go_enter Try.func14, Try.ntmps14
    go_wp2_with fail
    refine hvz.mono ?_
    rintro e w1 ⟨rfl, b1⟩
    go_wp2_with fail
    refine (hwk _).mono ?_
    rintro e w2 ⟨rfl, rfl⟩
    go_wp2
    go_ret
    exact ⟨_, _, by rw [HF.out]; rfl, by rw [HF.out]; exact HN.out _ b1, bal b1 _⟩
  have hk0' : 0 ≤ k := by omega
  obtain ⟨kn, rfl⟩ : ∃ kn : Nat, k = kn := ⟨k.toNat, by omega⟩
  have hw6 : wid z ≤ 6 := by
    rcases Nat.eq_zero_or_pos z.length with h0 | hp
    · have : wid z = 0 := by rw [List.eq_nil_of_length_eq_zero h0]; rfl
      omega
    · exact (wid_row e1 hp).2
  have HR : Hid ((z.length = 0 ∨ kn ≤ wid z) → ShsF z (kn : Int) (m : Int) = shL z kn m) := fun hg => by
    have a0 : decide ((0 : Int) ≤ (kn : Int)) = true := decide_eq_true (by omega)
    have a2 : (decide (z.length = 0) || decide ((kn : Int) ≤ (wid z : Int))) = true := by
      rcases hg with h | h
      · simp [h]
      · simp; omega
    have a1 : shcB z (kn : Int) (m : Int) = true := by unfold shcB; rw [e1, a0, a2, e3]; rfl
    rw [ShsF, if_pos a1]
    rfl
  have hlen := zsB_len e1
  have hsh : (z.length = 0 ∨ kn ≤ wid z) → ∀ i (h : i < z.length), kn ≤ z[i].1.length ∧ rowB z[i].1 = true := fun hg i h => by
    have hw := zsB_wid e1 _ (List.getElem_mem h)
    have hb := zsB_sumE e1 _ (List.getElem_mem h)
    simp only [sumE, Bool.and_eq_true] at hb
    exact ⟨by rcases hg with h2 | h2 <;> omega, hb.1⟩
  have hcon := fun W (h : EntsAt W A z) hg => shards_s A c z kn m W h hlen (hsh hg) (by omega) (by omega)
  have hLL := shL_length z kn m
  rcases Nat.eq_zero_or_pos z.length with h0 | hp
  · have hc := fun W (h : EntsAt W A z) => hcon W h (.inl h0)
    have HR2 := Lib.hid (HR.out (.inl h0))
    have hz0' := List.eq_nil_of_length_eq_zero h0
    subst hz0'
    clear hcon hsh e1 e3 HR h0
    go_enter Try.func14, Try.ntmps14
    go_wp2_with fail
    refine hvz.mono ?_
    rintro e w1 ⟨rfl, b1⟩
    go_wp2_with fail
    refine (hwk _).mono ?_
    rintro e w2 ⟨rfl, rfl⟩
    go_wp2_with fail
    refine (hc _ (hx.below entR b1)).mono ?_
    rintro e w3 ⟨A3, c3, rfl, ho3, b3⟩
    have HO := Lib.hid (ho3.mono (S' := news w w3) (fun q hq => ⟨Nat.le_trans b1.size hq.1, hq.2⟩) (fun q hq => hq.2))
    have HB := Lib.hid (btr b1 b3)
    clear ho3 hc
    go_wp2
    go_ret
    exact ⟨A3, c3, by rw [HR2.out, hLL]; rfl, by rw [HR2.out]; exact HO.out, HB.out⟩
  have hp' : (0 : Int) < z.length := by omega
  have hwd := fun W (h : EntsAt W A z) => widthOf_sH A c z W h hp hr
  by_cases hbad : wid z < kn
  · have HF : Hid (ShsF z (kn : Int) (m : Int) = []) := by
      have a1 : decide (z.length = 0) = false := decide_eq_false (by omega)
      have a2 : decide ((kn : Int) ≤ (wid z : Int)) = false := decide_eq_false (by omega)
      exact ShsF_no (by unfold shcB; rw [a1, a2]; simp)
    have hb' : (wid z : Int) < kn := by omega
    clear hcon hsh e1 e3 HR
    go_enter Try.func14, Try.ntmps14
    go_wp2_with fail
    refine hvz.mono ?_
    rintro e w1 ⟨rfl, b1⟩
    go_wp2_with fail
    refine (hwk _).mono ?_
    rintro e w2 ⟨rfl, rfl⟩
    go_wp2_with fail
    refine (hwd _ (hx.below entR b1)).mono ?_
    rintro e w3 ⟨rfl, b3⟩
    have B3 := btr b1 b3
    go_wp2
    go_ret
    exact ⟨_, _, by rw [HF.out]; rfl, by rw [HF.out]; exact HN.out _ B3, bal B3 _⟩
  have hle : kn ≤ wid z := by omega
  have hb' : ¬ (wid z : Int) < kn := by omega
  have hc := fun W (h : EntsAt W A z) => hcon W h (.inr hle)
  have HR2 := Lib.hid (HR.out (.inr hle))
  clear hcon hsh e1 e3 HR
  go_enter Try.func14, Try.ntmps14
  go_wp2_with fail
  refine hvz.mono ?_
  rintro e w1 ⟨rfl, b1⟩
  go_wp2_with fail
  refine (hwk _).mono ?_
  rintro e w2 ⟨rfl, rfl⟩
  go_wp2_with fail
  refine (hwd _ (hx.below entR b1)).mono ?_
  rintro e w3 ⟨rfl, b3⟩
  have B3 := btr b1 b3
  go_wp2_with fail
  refine (hc _ (hx.below entR B3)).mono ?_
  rintro e w4 ⟨A4, c4, rfl, ho4, b4⟩
  have HO := Lib.hid (ho4.mono (S' := news w w4) (fun q hq => ⟨Nat.le_trans B3.size hq.1, hq.2⟩) (fun q hq => hq.2))
  have HB := Lib.hid (btr B3 b4)
  clear ho4 hc
  go_wp2
  go_ret
  exact ⟨A4, c4, by rw [HR2.out, hLL]; rfl, by rw [HR2.out]; exact HO.out, HB.out⟩
end Go.Proofs.Ytjikdlldochhcab
