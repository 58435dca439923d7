/- My own work: the walk of dir. -/
import Derived.Test.YtimiginpdkokiaaDoorDirL
import Derived.Test.YtimiginpdkokiaaDoorDecN
namespace Go.Proofs.YtimiginpdkokiaaDoor
open Go.RowKit

theorem resultsDir : Tryd.f58.results = #[.cell 4 26, .tmp 5] := by kernel_rfl
theorem infoNode : (Tryd.prog.info? 26).map (fun i => (i.zero, i.size, i.bytes)) = some (some (.agg (nodeV 0 false none 0 0 none 0 0 none 0 0)), 5, 88) := by kernel_rfl
theorem NodeAt.lit {w : World} {n : Nd} {C : Array Value} (h : NodeAt w n C) : ∃ k e da dl dc na nl nc ka kl kc, C = nodeV k e da dl dc na nl nc ka kl kc := by
  cases h
  exact ⟨_, _, _, _, _, _, _, _, _, _, _, rfl⟩
theorem run_one_node (w : World) (k : Int) (e : Bool) (da : Option Addr) (dl dc : Nat) (na : Option Addr) (nl nc : Nat) (ka : Option Addr) (kl kc : Nat) : (Instr.buildSlice 24 1 #[(0, .agg (nodeV k e da dl dc na nl nc ka kl kc))]).run Tryd.prog w = .ok (.slice (some ⟨w.heap.size, 0, none⟩) 1 1) (w.alloc (.cells (nodeV k e da dl dc na nl nc ka kl kc) 26)) := by kernel_rfl
/-- One node, written as a list. -/
theorem b_node {w : World} {ops : Array Oper} {rest : List Oper} {o : Oper} {a : Act} {Q : Exit → Act → World → Prop} (hgd : o.guard = none) (parts : Array (Nat × Operand)) (ho : o.op = .buildSlice 24 1 parts) (C : Array Value) (hC : ∃ k e da dl dc na nl nc ka kl kc, C = nodeV k e da dl dc na nl nc ka kl kc) (hp : (parts.map fun x => (x.1, a.eval x.2)) = #[(0, .agg C)])
    (h : wpList Tryd.prog ops Q rest (a.put o.dst (.slice (some ⟨w.heap.size, 0, none⟩) 1 1)) (w.alloc (.cells C 26))) : wpList Tryd.prog ops Q (o :: rest) a w := by
  obtain ⟨k, e, da, dl, dc, na, nl, nc, ka, kl, kc, rfl⟩ := hC
  have hr := run_one_node w k e da dl dc na nl nc ka kl kc
  refine wpList_plain hgd fun K hK => ?_
  unfold Oper.wp execOp
  simp only [ho, hp, hr, Sem.run_bind, Result.andThen_ok]
  exact hK _ _ h
/-- How far a reader is. -/
def pOf (I : Inp) (w : World) : Nat := match w.cell? ⟨I.gR, 1, none⟩ with | some (.int _ x) => x.toNat | _ => 0
theorem Rdr.pOf {I : Inp} {w : World} {p : Nat} (h : Rdr w I p) : pOf I w = p := by
  unfold Proofs.YtimiginpdkokiaaDoor.pOf
  rw [(h.row.cell 1).trans (rfl : _ = some (Value.int .i64 p))]
  simp
theorem nextF_size {f : Nat → Int} {L p s n q : Nat} (h : nextF f L p = .ok (s, n, q)) : n ≤ L := by
  unfold nextF at h
  split at h
  · cases h
  · split at h
    · cases h
    · split at h
      · cases h
      · split at h
        · simp only [Except.ok.injEq, Prod.mk.injEq] at h
          omega
        · cases h
theorem entry_name {rec : Nat → Except Int (Nd × Nat)} {f : Nat → Int} {L p q : Nat} {nm : ByteArray} {kd : Nd} (h : entryF rec f L p = .ok (nm, kd, q)) : nm.size ≤ L := by
  unfold entryF at h
  split at h
  · cases h
  · split at h
    · cases h
    · rename_i s m q2 h2
      split at h
      · cases h
      · split at h
        · cases h
        · split at h
          · cases h
          · simp only [Except.ok.injEq, Prod.mk.injEq] at h
            rw [← h.1, textF_size]
            exact nextF_size h2
theorem dirF_err {rec : Nat → Except Int (Nd × Nat)} {f : Nat → Int} {L fuel p : Nat} {ns : List ByteArray} {ks : List Nd} {e : Int} (h : wordF f L p [wEntry, wShut] = .error e) : dirF rec f L (fuel + 1) p ns ks = .error e := by unfold dirF; rw [h]
theorem dirF_shut {rec : Nat → Except Int (Nd × Nat)} {f : Nat → Int} {L fuel p q : Nat} {ns : List ByteArray} {ks : List Nd} (h : wordF f L p [wEntry, wShut] = .ok (wShut, q)) : dirF rec f L (fuel + 1) p ns ks = .ok (.mk 2 false ⟨#[]⟩ ns ks, q) := by unfold dirF; rw [h]; exact if_pos rfl
theorem dirF_entry {rec : Nat → Except Int (Nd × Nat)} {f : Nat → Int} {L fuel p q : Nat} {ns : List ByteArray} {ks : List Nd} (h : wordF f L p [wEntry, wShut] = .ok (wEntry, q)) : dirF rec f L (fuel + 1) p ns ks = match entryF rec f L q with | .error e => .error e | .ok (nm, kd, q2) => dirF rec f L fuel q2 (ns ++ [nm]) (ks ++ [kd]) := by
  conv => lhs; unfold dirF
  rw [h]
  exact if_neg (by decide)
set_option maxRecDepth 20000 in
set_option maxHeartbeats 8000000 in
theorem dir_ok (I : Inp) (p k lv : Nat) (HREC : ∀ q wx, Rdr wx I q → Calls Tryd.prog 43 #[.pointer (some ⟨I.gR, 0, none⟩), .int .i64 ((lv : Int) + 1)] wx fun r w' => NodePost I wx (nodeF I.f I.L k q) r w') (hlv : lv ≤ 33) (w : World) (h : Rdr w I p) : Calls Tryd.prog 58 #[.pointer (some ⟨I.gR, 0, none⟩), .int .i64 lv] w fun r w' => NodePost I w (dirF (nodeF I.f I.L k) I.f I.L (I.L + 1) p [] []) r w' := by
  have hb0 : Below w.heap.size w (w.alloc (.cells node0 26)) := (Below.refl _ _).alloc (Nat.le_refl _) _
  have hsz0 : (w.alloc (.cells node0 26)).heap.size = w.heap.size + 1 := by simp
  have hb1 : Below w.heap.size w ((w.alloc (.cells node0 26)).alloc (.cells (nodeV 2 false none 0 0 none 0 0 none 0 0) 26)) := hb0.alloc (by omega) _
  have HD0 : Hid (DirL I w [] [] (.slice none 0 0) (.slice none 0 0) (fun _ => #[]) ((w.alloc (.cells node0 26)).alloc (.cells (nodeV 2 false none 0 0 none 0 0 none 0 0) 26))) := DirL.start I w
  have HRd0 : Hid (Rdr ((w.alloc (.cells node0 26)).alloc (.cells (nodeV 2 false none 0 0 none 0 0 none 0 0) 26)) I p) := h.keep hb1
  have hgR := h.lts.1
  have HLT : Hid (0 < I.L → I.b < w.heap.size) := h.lts.2
  have HBD : Hid (∀ i, 0 ≤ I.f i ∧ I.f i < 256) := h.bd
  have hsm := h.small
  have hRC : Hid (∀ q wx, Rdr wx I q → Calls Tryd.prog 43 #[.pointer (some ⟨I.gR, 0, none⟩), .int .i64 ((lv : Int) + 1)] wx fun r w' => NodePost I wx (nodeF I.f I.L k q) r w') := HREC
  have HH : Hid (Rdr w I p) := h
  obtain ⟨rec, hrec⟩ : ∃ rec, rec = nodeF I.f I.L k := ⟨_, rfl⟩
  have HSND : Hid (∀ p n q, rec p = .ok (n, q) → Read I.f I.L p n q) := by rw [hrec]; exact node_sound h.bd k
  rw [← hrec] at hRC ⊢
  obtain ⟨NP, hNP⟩ : ∃ NP, NP = NodePost I w (dirF rec I.f I.L (I.L + 1) p [] []) := ⟨_, rfl⟩
  have HP : Hid (∀ r w', NodePost I w (dirF rec I.f I.L (I.L + 1) p [] []) r w' → NP r w') := fun r w' h => by rw [hNP]; exact h
  rw [← hNP]
  obtain ⟨spec, hspec⟩ : ∃ spec, spec = dirF rec I.f I.L (I.L + 1) p [] [] := ⟨_, rfl⟩
  have HSP : Hid (dirF rec I.f I.L (I.L + 1) p [] [] = spec) := hspec.symm
  rw [← hspec] at HP
  have hN2 : (nodeV 2 false none 0 0 none 0 0 none 0 0).all (fun x => x.oneCell') = true := nodeV_one _ _ _ _ _ _ _ _ _ _ _
  clear hNP h hb0 hb1 HREC hspec hrec
  go_enter Tryd.func58, Tryd.ntmps58
  go_wp2_with (refine wpList_store_new rfl 26 _ _ rfl (w.alloc (.cells node0 26)) _ (nodeV 2 false none 0 0 none 0 0 none 0 0) 26 rfl (w.heap.size + 1) hsz0.symm rfl rfl infoN rfl hN2 ?_)
  clear hsz0
  go_step3
  go_wp2
  generalize (w.alloc (.cells node0 26)).alloc (.cells (nodeV 2 false none 0 0 none 0 0 none 0 0) 26) = w0 at *
  go_step3
  go_wp2_with fail
  go_loopw [7] (fun _ wx => ∃ (fuel q : Nat) (ns : List ByteArray) (ks : List Nd) (nv kv : Value) (Cs : Nat → Array Value), Hid (DirL I w ns ks nv kv Cs wx) ∧ Hid (Rdr wx I q) ∧ Hid (dirF rec I.f I.L fuel q ns ks = spec) ∧ Hid (I.L < fuel + q ∧ ks.length = ns.length ∧ ns.length ≤ q ∧ ∀ s ∈ ns, s.size ≤ big)) (fun _ wx => I.L - pOf I wx)
  case atStart => exact ⟨I.L + 1, p, [], [], _, _, _, HD0, HRd0, HSP, ⟨by omega, rfl, Nat.zero_le _, fun s hs => by cases hs⟩⟩
  case round =>
    obtain ⟨fuel, q, ns, ks, nv, kv, Cs, HD, HR, HF, HX⟩ := hrel
    have hpq := HR.out.pOf
    have hqL := HR.out.le
    obtain ⟨fu, rfl⟩ : ∃ fu, fuel = fu + 1 := ⟨fuel - 1, by have := HX.out.1; omega⟩
    obtain ⟨wE, rfl⟩ : ∃ x, x = wr := ⟨wr, rfl⟩
    have HPQ : Hid (pOf I wE = q) := hpq
    clear hpq
    go_wp2_with (refine b_texts rfl _ [wEntry, wShut] rfl (Nat.succ_pos _) (Nat.le_of_ble_eq_true rfl) rfl ?_)
    refine Calls.mono (oneOf1_ok I q wE HR.out [wEntry, wShut] (Nat.le_of_ble_eq_true rfl) _ rfl _ rfl _ rfl) ?_
    rintro r w1 ⟨hg1, hpost⟩
    have HD1 : Hid (DirL I w ns ks nv kv Cs w1) := HD.out.step hgR hg1
    clear hg1 HD HR
    cases hw : wordF I.f I.L q [wEntry, wShut] with
    | error er =>
      rw [hw] at hpost
      obtain ⟨ev, rfl, he⟩ := hpost
      have HE : Hid (ErrAt w1 ev er) := he
      obtain ⟨z1, z2, rfl, _⟩ := he
      have HS : Hid (spec = .error er) := by show _ = _; rw [← HF.out]; exact dirF_err hw
      have hR4 := HD1.out.res
      clear hw HF
      go_wp2_with (refine wpList_store_row rfl 26 _ _ rfl w.heap.size node0 rfl rfl 26 node0 hR4 info0 rfl node0_one ?_)
      (try rw [Exit.noGoto_ret])
      refine bodyPost_ret (results_cell_row2 resultsDir _ _ w.heap.size 26 node0 (0, 0) _ rfl hR4.setRow Tryd.underlying26 rfl info0) rfl ?_
      exact HP.out _ _ (NodePost.bad HS.out HD1.out.gr (Nat.le_refl _) hR4 HE.out)
    | ok x =>
      obtain ⟨wd, q1⟩ := x
      rw [hw] at hpost
      obtain ⟨rfl, hr1⟩ := hpost
      have HR1 : Hid (Rdr w1 I q1) := hr1
      obtain ⟨hm, _, hq1, hq1L⟩ := word_sound HBD.out hw
      have hq8 : q + 8 ≤ q1 := by rw [hq1, strU_length]; omega
      simp only [List.mem_cons, List.not_mem_nil, or_false] at hm
      clear hr1 hq1
      rcases hm with rfl | rfl
      · -- one more entry
        have HF1 : Hid ((match entryF rec I.f I.L q1 with | .error e => .error e | .ok (nm, kd, q2) => dirF rec I.f I.L fu q2 (ns ++ [nm]) (ks ++ [kd])) = spec) := by show _ = _; rw [← HF.out]; exact (dirF_entry hw).symm
        have HEN : Hid (Calls Tryd.prog 72 #[.pointer (some ⟨I.gR, 0, none⟩), .int .i64 lv] w1 fun r w' => EntryPost I w1 (entryF rec I.f I.L q1) r w') := entry_ok I q1 lv rec hRC.out hlv w1 HR1.out
        clear hw HF HR1
        go_wp2_with fail
        refine Calls.mono HEN.out ?_
        clear HEN
        rintro r w2 ⟨hg2, hpost⟩
        have HD2 : Hid (DirL I w ns ks nv kv Cs w2) := HD1.out.step hgR hg2
        have hs12 := hg2.size
        have hw1 := HD1.out.gr.size
        have hrow1 := HD1.out.row.lt
        have HBN : Hid (∀ k, nv.ownBlock = some k → k < w1.heap.size) := fun k hk => (ownsRow_lt HD1.out.names k hk).1
        have HBK : Hid (∀ k, kv.ownBlock = some k → k < w1.heap.size) := fun k hk => (ownsRow_lt HD1.out.kids k hk).1
        clear hg2 HD1
        cases hen : entryF rec I.f I.L q1 with
        | error er =>
          rw [hen] at hpost HF1
          obtain ⟨t, C, ev, rfl, h5, hC1, he⟩ := hpost
          have hCi : (Tryd.prog.info? 26).map (·.size) = some C.size := by rw [infoN, h5]
          have hba : Below w2.heap.size w2 (w2.alloc (.cells C 26)) := (Below.refl _ _).alloc (Nat.le_refl _) _
          have HE : Hid (ErrAt (w2.alloc (.cells C 26)) ev er) := he.keep hba
          have HD3 : Hid (DirL I w ns ks nv kv Cs (w2.alloc (.cells C 26))) := HD2.out.step hgR (Gr.of hba)
          obtain ⟨z1, z2, rfl, _⟩ := he
          have hR4 := HD3.out.res
          clear hen hba HD2
          go_wp2_with (first
            | refine wpList_store_new rfl 26 _ _ rfl w2 _ C 26 rfl w2.heap.size rfl rfl rfl hCi h5.symm hC1 ?_
            | refine wpList_store_row rfl 26 _ _ rfl w.heap.size node0 rfl rfl 26 node0 hR4 info0 rfl node0_one ?_)
          (try rw [Exit.noGoto_ret])
          refine bodyPost_ret (results_cell_row2 resultsDir _ _ w.heap.size 26 node0 (0, 0) _ rfl hR4.setRow Tryd.underlying26 rfl info0) rfl ?_
          exact HP.out _ _ (NodePost.bad HF1.out.symm HD3.out.gr (Nat.le_refl _) hR4 HE.out)
        | ok x =>
          obtain ⟨nm, kd, q2⟩ := x
          rw [hen] at hpost HF1
          obtain ⟨C, rfl, hno, hr2⟩ := hpost
          have h5 := hno.at'.size
          have hC1 := hno.at'.one
          obtain ⟨_, hq2, hq2L, _⟩ := entry_sound HBD.out HSND.out hen
          have hq12 : q1 ≤ q2 := by omega
          have hnmb : nm.size ≤ 1048576 := Nat.le_trans (entry_name hen) hsm
          have hCi : (Tryd.prog.info? 26).map (·.size) = some C.size := by rw [infoN, h5]
          have hba : Below w2.heap.size w2 (w2.alloc (.cells C 26)) := (Below.refl _ _).alloc (Nat.le_refl _) _
          have HD3 : Hid (DirL I w ns ks nv kv Cs (w2.alloc (.cells C 26))) := HD2.out.step hgR (Gr.of hba)
          have HNO : Hid (NodeOn (w2.alloc (.cells C 26)) (Pin w (w2.alloc (.cells C 26)) nv kv) kd C) := (hno.keep (w' := w2.alloc (.cells C 26)) fun b hb => hba.block b hb.2).mono fun b hb => ⟨by omega, by have := hba.size; omega, fun e => by have := HBN.out b e; omega, fun e => by have := HBK.out b e; omega⟩
          have HR3 : Hid (Rdr (w2.alloc (.cells C 26)) I q2) := hr2.keep hba
          have HRC : Hid (Row (w2.alloc (.cells C 26)) w2.heap.size C 26) := Row.new w2 C _
          have HNE : Hid (w2.heap.size ≠ w.heap.size + 1) := by show _ ≠ _; omega
          clear hen hba HD2 hno hr2 hq2
          have HLIT : Hid (∃ k e da dl dc na nl nc ka kl kc, C = nodeV k e da dl dc na nl nc ka kl kc) := HNO.out.at'.lit
          obtain ⟨na, nc, rfl⟩ := own_slice HD3.out.names
          obtain ⟨ka, kc, rfl⟩ := own_slice HD3.out.kids
          have hs3 : (w2.alloc (.cells C 26)).heap.size = w2.heap.size + 1 := by simp
          have hbb : Below (w2.alloc (.cells C 26)).heap.size (w2.alloc (.cells C 26)) ((w2.alloc (.cells C 26)).alloc (.cells #[.string nm] 9)) := (Below.refl _ _).alloc (Nat.le_refl _) _
          have HD4 : Hid (DirL I w ns ks (.slice na ns.length nc) (.slice ka ks.length kc) Cs ((w2.alloc (.cells C 26)).alloc (.cells #[.string nm] 9))) := HD3.out.step hgR (Gr.of hbb)
          have HR4 : Hid (Rdr ((w2.alloc (.cells C 26)).alloc (.cells #[.string nm] 9)) I q2) := HR3.out.keep hbb
          have HNO4 : Hid (NodeOn ((w2.alloc (.cells C 26)).alloc (.cells #[.string nm] 9)) (Pin w ((w2.alloc (.cells C 26)).alloc (.cells #[.string nm] 9)) (.slice na ns.length nc) (.slice ka ks.length kc)) kd C) := (HNO.out.keep (w' := (w2.alloc (.cells C 26)).alloc (.cells #[.string nm] 9)) fun b hb => hbb.block b hb.2.1).mono fun b hb => ⟨hb.1, by have := hbb.size; have := hb.2.1; omega, hb.2.2⟩
          have HRC4 : Hid (Row ((w2.alloc (.cells C 26)).alloc (.cells #[.string nm] 9)) w2.heap.size C 26) := HRC.out.below hbb HRC.out.lt
          have HRN : Hid (Row ((w2.alloc (.cells C 26)).alloc (.cells #[.string nm] 9)) (w2.heap.size + 1) #[.string nm] 9) := by
            have := Row.new (w2.alloc (.cells C 26)) #[.string nm] 9
            rw [hs3] at this
            exact this
          have HS4 : Hid (w.heap.size + 2 ≤ ((w2.alloc (.cells C 26)).alloc (.cells #[.string nm] 9)).heap.size) := by have := hbb.size; show _ ≤ _; omega
          have HCN : Hid (∀ j u, [Value.string nm][j]? = some u → ((w2.alloc (.cells C 26)).alloc (.cells #[.string nm] 9)).cell? ⟨w2.heap.size + 1, 0 + j, none⟩ = some u) := fun j u hj => by
            rw [Nat.zero_add, HRN.out.cell j, ← hj]
            simp
          have c3 := (HD3.out.row.cell 3).trans (rfl : _ = some (Value.slice na ns.length nc))
          have hx1 := HX.out.2.1
          have hx2 := HX.out.2.2.1
          have HL1 : Hid (ns.length + 1 ≤ maxLen) := by show _ ≤ _; unfold maxLen; omega
          have HL2 : Hid ((ns.length + 1) * 16 ≤ 140737488355328) := by show _ ≤ _; omega
          have HL3 : Hid (ks.length + 1 ≤ maxLen) := by show _ ≤ _; unfold maxLen; omega
          have HL4 : Hid ((ks.length + 1) * 88 ≤ 140737488355328) := by show _ ≤ _; omega
          clear hbb HD3 HR3 HNO HRC HRN hx1 hx2
          go_wp2_with (first
            | refine wpList_store_new rfl 26 _ _ rfl w2 _ C 26 rfl w2.heap.size rfl rfl rfl hCi h5.symm hC1 ?_
            | refine b_texts rfl _ [nm] rfl (Nat.succ_pos _) (Nat.le_of_ble_eq_true rfl) rfl ?_
            | refine wpList_append_any rfl (some 41) rfl _ _ 23 9 (.string ⟨#[]⟩) 1 16 Tryd.underlying23 infoS rfl (by decide) rfl (w.heap.size + 2) _ ns.length _ rfl HD4.out.names (w2.heap.size + 1) 1 [.string nm] rfl rfl HCN.out (fun u hu => by simp at hu; subst hu; rfl) HL1.out HL2.out HS4.out ?_)
          intro nv' w5 own' hg hor
          obtain ⟨hrow5, hD5, hnode5, hrows5⟩ := HD4.out.name nm own' hg hor
          obtain ⟨na', nc', rfl⟩ := own_slice own'
          have z3 := hrow5.frozen 3
          have c3' := (hrow5.cell 3).trans (rfl : _ = some (Value.slice na ns.length nc))
          have HD5 : Hid (DirL I w (ns ++ [nm]) ks (.slice na' (ns.length + 1) nc') (.slice ka ks.length kc) Cs (w5.setCell ⟨w.heap.size + 1, 3, none⟩ (.slice na' (ns.length + 1) nc'))) := hD5
          have HNO5 : Hid (NodeOn (w5.setCell ⟨w.heap.size + 1, 3, none⟩ (.slice na' (ns.length + 1) nc')) (Pin w (w5.setCell ⟨w.heap.size + 1, 3, none⟩ (.slice na' (ns.length + 1) nc')) (.slice na' (ns.length + 1) nc') (.slice ka ks.length kc)) kd C) := hnode5 kd C HNO4.out
          have HRC5 : Hid (Row (w5.setCell ⟨w.heap.size + 1, 3, none⟩ (.slice na' (ns.length + 1) nc')) w2.heap.size C 26) := hrows5 _ _ HRC4.out HNE.out
          have HR5 : Hid (Rdr (w5.setCell ⟨w.heap.size + 1, 3, none⟩ (.slice na' (ns.length + 1) nc')) I q2) := HR4.out.stay fun kk hk => by
            have hl := HR4.out.lts
            have hb : kk < w.heap.size := by
              rcases hk with rfl | ⟨hL, rfl⟩
              · omega
              · exact HLT.out hL
            have hl2 : kk < ((w2.alloc (.cells C 26)).alloc (.cells #[.string nm] 9)).heap.size := by
              rcases hk with rfl | ⟨hL, rfl⟩
              · exact hl.1
              · exact hl.2 hL
            exact stay_blocks (w0 := w) hg kk hl2 (fun e => by have := (ownsRow_lt HD4.out.names kk e).2.1; omega) (by omega)
          have c4 := (hD5.row.cell 4).trans (rfl : _ = some (Value.slice ka ks.length kc))
          have hs6 : (w5.setCell ⟨w.heap.size + 1, 3, none⟩ (.slice na' (ns.length + 1) nc')).heap.size = w5.heap.size := by simp
          have hbb : Below (w5.setCell ⟨w.heap.size + 1, 3, none⟩ (.slice na' (ns.length + 1) nc')).heap.size (w5.setCell ⟨w.heap.size + 1, 3, none⟩ (.slice na' (ns.length + 1) nc')) ((w5.setCell ⟨w.heap.size + 1, 3, none⟩ (.slice na' (ns.length + 1) nc')).alloc (.cells C 26)) := (Below.refl _ _).alloc (Nat.le_refl _) _
          have HD7 : Hid (DirL I w (ns ++ [nm]) ks (.slice na' (ns.length + 1) nc') (.slice ka ks.length kc) Cs ((w5.setCell ⟨w.heap.size + 1, 3, none⟩ (.slice na' (ns.length + 1) nc')).alloc (.cells C 26))) := HD5.out.step hgR (Gr.of hbb)
          have HR7 : Hid (Rdr ((w5.setCell ⟨w.heap.size + 1, 3, none⟩ (.slice na' (ns.length + 1) nc')).alloc (.cells C 26)) I q2) := HR5.out.keep hbb
          have HNO7 : Hid (NodeOn ((w5.setCell ⟨w.heap.size + 1, 3, none⟩ (.slice na' (ns.length + 1) nc')).alloc (.cells C 26)) (Pin w ((w5.setCell ⟨w.heap.size + 1, 3, none⟩ (.slice na' (ns.length + 1) nc')).alloc (.cells C 26)) (.slice na' (ns.length + 1) nc') (.slice ka ks.length kc)) kd C) := (HNO5.out.keep (w' := (w5.setCell ⟨w.heap.size + 1, 3, none⟩ (.slice na' (ns.length + 1) nc')).alloc (.cells C 26)) fun b hb => hbb.block b hb.2.1).mono fun b hb => ⟨hb.1, by have := hbb.size; have := hb.2.1; omega, hb.2.2⟩
          have HRK : Hid (Row ((w5.setCell ⟨w.heap.size + 1, 3, none⟩ (.slice na' (ns.length + 1) nc')).alloc (.cells C 26)) (w5.setCell ⟨w.heap.size + 1, 3, none⟩ (.slice na' (ns.length + 1) nc')).heap.size C 26) := Row.new (w5.setCell ⟨w.heap.size + 1, 3, none⟩ (.slice na' (ns.length + 1) nc')) C 26
          have HS7 : Hid (w.heap.size + 2 ≤ ((w5.setCell ⟨w.heap.size + 1, 3, none⟩ (.slice na' (ns.length + 1) nc')).alloc (.cells C 26)).heap.size) := by have := hbb.size; have := HS4.out; have := hg.size; show _ ≤ _; omega
          have HCK : Hid (∀ j u, C.toList[j]? = some u → ((w5.setCell ⟨w.heap.size + 1, 3, none⟩ (.slice na' (ns.length + 1) nc')).alloc (.cells C 26)).cell? ⟨(w5.setCell ⟨w.heap.size + 1, 3, none⟩ (.slice na' (ns.length + 1) nc')).heap.size, 0 + j, none⟩ = some u) := fun j u hj => by
            rw [Nat.zero_add, HRK.out.cell j, ← hj, Array.getElem?_toList]
          have HC1 : Hid (∀ u ∈ C.toList, u.oneCell' = true) := fun u hu => by simpa using (Array.all_eq_true_iff_forall_mem.1 hC1) u (by simpa using hu)
          have HC5 : Hid (C.toList.length = 1 * 5) := by show _ = _; rw [Array.length_toList, h5]
          clear hbb hD5 hnode5 hrows5 hrow5 own' hg hor HD4 HR4 HNO4 HRC4 HNO5 HR5 HCN HRK hs6
          go_wp2_with (first
            | refine wpList_load_row rfl 26 _ rfl w2.heap.size rfl 26 C (0, 0) _ HRC5.out Tryd.underlying26 rfl hCi ?_
            | refine b_node rfl _ rfl C HLIT.out (by simp only [List.map_toArray, List.map_cons, List.map_nil]; rfl) ?_
            | refine wpList_append_any rfl (some 47) rfl _ _ 24 26 (.agg node0) 5 88 Tryd.underlying24 infoNode rfl (by decide) rfl (w.heap.size + 2) _ ks.length _ rfl HD7.out.kids (w5.setCell ⟨w.heap.size + 1, 3, none⟩ (.slice na' (ns.length + 1) nc')).heap.size 1 C.toList HC5.out rfl HCK.out HC1.out HL3.out HL4.out HS7.out ?_)
          intro kv' w8 own8 hg8 hor8
          obtain ⟨hrow8, hD8⟩ := HD7.out.kid kd C h5 HNO7.out own8 hg8 (by rw [show ((w5.setCell ⟨w.heap.size + 1, 3, none⟩ (.slice na' (ns.length + 1) nc')).alloc (.cells C 26)).heap.size = w5.heap.size + 1 by simp]; exact hor8)
          obtain ⟨ka', kc', rfl⟩ := own_slice own8
          have z4 := hrow8.frozen 4
          have c4' := (hrow8.cell 4).trans (rfl : _ = some (Value.slice ka ks.length kc))
          have HD8 : Hid (DirL I w (ns ++ [nm]) (ks ++ [kd]) (.slice na' (ns.length + 1) nc') (.slice ka' (ks.length + 1) kc') (fun j => if j = ks.length then C else Cs j) (w8.setCell ⟨w.heap.size + 1, 4, none⟩ (.slice ka' (ks.length + 1) kc'))) := hD8
          have HR8 : Hid (Rdr (w8.setCell ⟨w.heap.size + 1, 4, none⟩ (.slice ka' (ks.length + 1) kc')) I q2) := HR7.out.stay fun kk hk => by
            have hl := HR7.out.lts
            have hb : kk < w.heap.size := by
              rcases hk with rfl | ⟨hL, rfl⟩
              · omega
              · exact HLT.out hL
            have hl2 : kk < ((w5.setCell ⟨w.heap.size + 1, 3, none⟩ (.slice na' (ns.length + 1) nc')).alloc (.cells C 26)).heap.size := by
              rcases hk with rfl | ⟨hL, rfl⟩
              · exact hl.1
              · exact hl.2 hL
            exact stay_blocks (w0 := w) hg8 kk hl2 (fun e => by have := (ownsRow_lt HD7.out.kids kk e).2.1; omega) (by omega)
          have HX8 : Hid (I.L < fu + q2 ∧ (ks ++ [kd]).length = (ns ++ [nm]).length ∧ (ns ++ [nm]).length ≤ q2 ∧ ∀ s ∈ ns ++ [nm], s.size ≤ big) := by
            have hx := HX.out
            have hx2 := hx.2.2.1
            have hx1 := hx.1
            refine ⟨by omega, by simp [hx.2.1], by simp; omega, fun s hs => ?_⟩
            rcases List.mem_append.1 hs with h1 | h1
            · exact hx.2.2.2 s h1
            · simp only [List.mem_cons, List.not_mem_nil, or_false] at h1
              subst h1
              unfold big
              omega
          have HM8 : Hid (I.L - pOf I (w8.setCell ⟨w.heap.size + 1, 4, none⟩ (.slice ka' (ks.length + 1) kc')) < I.L - pOf I wE) := by
            show _ < _
            rw [HR8.out.pOf, HPQ.out]
            omega
          clear hD8 hrow8 own8 hg8 hor8 HD7 HR7 HNO7 HCK HC1 HC5 HRC5 HX
          go_wp2
          go_roundw
          case rel => exact ⟨fu, q2, ns ++ [nm], ks ++ [kd], _, _, _, HD8, HR8, HF1, HX8⟩
          case measure => exact HM8.out
      · -- the end
        have HS : Hid (spec = .ok (.mk 2 false ⟨#[]⟩ ns ks, q1)) := by show _ = _; rw [← HF.out]; exact dirF_shut hw
        obtain ⟨na, nc, rfl⟩ := own_slice HD1.out.names
        obtain ⟨ka, kc, rfl⟩ := own_slice HD1.out.kids
        have hR6 : Row w1 (w.heap.size + 1) (nodeV 2 false none 0 0 na ns.length nc ka ks.length kc) 26 := HD1.out.row
        have hR4 := HD1.out.res
        have HC6 : Hid ((nodeV 2 false none 0 0 na ns.length nc ka ks.length kc).all (fun x => x.oneCell') = true) := nodeV_one _ _ _ _ _ _ _ _ _ _ _
        clear hw HF
        go_wp2_with (first
          | refine wpList_load_row rfl 26 _ rfl (w.heap.size + 1) rfl 26 (nodeV 2 false none 0 0 na ns.length nc ka ks.length kc) (0, 0) _ hR6 Tryd.underlying26 rfl infoN ?_
          | refine wpList_store_row rfl 26 _ _ rfl w.heap.size (nodeV 2 false none 0 0 na ns.length nc ka ks.length kc) rfl rfl 26 node0 hR4 infoN rfl HC6.out ?_)
        (try rw [Exit.noGoto_ret])
        refine bodyPost_ret (results_cell_row2 resultsDir _ _ w.heap.size 26 (nodeV 2 false none 0 0 na ns.length nc ka ks.length kc) (0, 0) _ rfl hR4.setRow Tryd.underlying26 rfl infoN) rfl ?_
        refine HP.out _ _ ?_
        rw [HS.out]
        have hx := HX.out
        have hss : (w1.setRow w.heap.size (nodeV 2 false none 0 0 na ns.length nc ka ks.length kc)).heap.size = w1.heap.size := by simp [World.setRow]
        refine ⟨Gr.setRow HD1.out.gr (Nat.le_refl _), _, rfl, ((HD1.out.done hx.2.2.2 (by unfold big; omega)).keep (w' := w1.setRow w.heap.size (nodeV 2 false none 0 0 na ns.length nc ka ks.length kc)) fun b hb => setRow_other w1 _ b _ (by omega)).mono fun b hb => ⟨by omega, by rw [hss]; exact hb.2⟩, ?_⟩
        exact HR1.out.stay fun kk hk => setRow_other w1 _ kk _ (by
          rcases hk with rfl | ⟨hL, rfl⟩
          · omega
          · have := HLT.out hL; omega)
end Go.Proofs.YtimiginpdkokiaaDoor
