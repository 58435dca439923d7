/- My own work: own: infos in memory of their own. -/
import Derived.Test.YtkbhckjpmgkgjaaG14
namespace Go.Proofs.Ytkbhckjpmgkgjaa
open Go.RowKit

theorem infoInf : (Try.prog.info? 33).map (fun i => (i.zero, i.size, i.bytes)) = some (some (.agg info00), 4, 72) := by kernel_rfl
/-- The cells of the first infos, their references being rv. -/
def flatL (L : List Inf) (rv : Nat → Value) (i : Nat) : List Value := (List.range i).flatMap fun t => [Value.string (L.getD t ⟨⟨#[]⟩, ⟨#[]⟩, ⟨#[]⟩, []⟩).path, .string (L.getD t ⟨⟨#[]⟩, ⟨#[]⟩, ⟨#[]⟩, []⟩).hash, .string (L.getD t ⟨⟨#[]⟩, ⟨#[]⟩, ⟨#[]⟩, []⟩).der, rv t]
theorem flatL_succ (L : List Inf) (rv : Nat → Value) (i : Nat) (hi : i < L.length) : flatL L rv (i + 1) = flatL L rv i ++ [.string L[i].path, .string L[i].hash, .string L[i].der, rv i] := by
  unfold flatL
  rw [List.range_succ, List.flatMap_append]
  simp [hi]
theorem flatL_cong (L : List Inf) {rv rv' : Nat → Value} {i : Nat} (h : ∀ t, t < i → rv t = rv' t) : flatL L rv i = flatL L rv' i := by
  unfold flatL
  refine congrArg List.flatten (List.map_congr_left fun t ht => ?_)
  rw [h t (List.mem_range.1 ht)]
theorem flatL_at (L : List Inf) (rv : Nat → Value) : ∀ i, ∀ t (ht : t < i) (hL : i ≤ L.length) (j : Nat), j < 4 → (flatL L rv i)[t * 4 + j]? = [Value.string (L[t]'(by omega)).path, .string (L[t]'(by omega)).hash, .string (L[t]'(by omega)).der, rv t][j]?
  | 0, t, ht, _, _, _ => absurd ht (Nat.not_lt_zero _)
  | i + 1, t, ht, hL, j, hj => by
    rw [flatL_succ L rv i (by omega)]
    have hlen : ∀ k, k ≤ L.length → (flatL L rv k).length = k * 4 := fun k hk => by
      induction k with
      | zero => rfl
      | succ k ih => rw [flatL_succ L rv k (by omega), List.length_append, ih (by omega)]; simp; omega
    have h1 := hlen i (by omega)
    by_cases e : t < i
    · rw [List.getElem?_append_left (by omega)]
      exact flatL_at L rv i t e (by omega) j hj
    · obtain rfl : t = i := by omega
      rw [List.getElem?_append_right (by omega), h1]
      congr 1
      omega
/-- What own has made so far. -/
structure OwnSt (w : World) (L : List Inf) (i : Nat) (ov : Value) (rv : Nat → Value) (wr : World) : Prop where
  out : wr.ownsRow w.heap.size 33 4 ov i (flatL L rv i)
  refs : ∀ t (h : t < L.length), t < i → wr.ownsRow w.heap.size 9 1 (rv t) L[t].refs.length (L[t].refs.map Value.string)
  old : Below w.heap.size w wr
theorem OwnSt.keep {w wr w' : World} {L : List Inf} {i : Nat} {ov : Value} {rv : Nat → Value} (h : OwnSt w L i ov rv wr) (hb : Below wr.heap.size wr w') : OwnSt w L i ov rv w' :=
  ⟨ownsRow_keep' h.out fun g _ hl => hb.block g hl, fun t ht hti => ownsRow_keep' (h.refs t ht hti) fun g _ hl => hb.block g hl, h.old.trans (hb.mono h.old.size)⟩
/-- The infos that own tells. -/
theorem OwnSt.done {w wr : World} {L : List Inf} {ov : Value} {rv : Nat → Value} (h : OwnSt w L L.length ov rv wr) (hb : ∀ i ∈ L, i.path.size ≤ big ∧ i.hash.size ≤ big ∧ i.der.size ≤ big ∧ i.refs.length < 400 ∧ ∀ r ∈ i.refs, r.size ≤ big) : ∃ a c, ov = .slice a L.length c ∧ LsAt wr a L c := by
  have ho := h.out
  obtain ⟨a, c, hov⟩ := own_slice ho
  refine ⟨a, c, hov, ?_⟩
  subst hov
  obtain ⟨hl, ⟨h1, h2⟩ | ⟨g, cap, cur, h1, h2, h3, h4, h5, h6, h7⟩⟩ := ho
  · simp only [Value.slice.injEq] at h1
    obtain ⟨rfl, _, rfl⟩ := h1
    exact ⟨⟨0, 0, fun h => absurd h (by omega), fun i hi => absurd hi (by omega)⟩, by omega, by unfold maxLen; omega⟩
  · simp only [Value.slice.injEq] at h1
    obtain ⟨rfl, _, rfl⟩ := h1
    refine ⟨⟨g, 0, fun _ => rfl, fun i hi => ?_⟩, h4, h5⟩
    have hbi := hb L[i] (List.getElem_mem hi)
    obtain ⟨ra, rc, hrv, hS, _⟩ := own_strs (X := L[i].refs) (h.refs i hi hi) (by unfold big; omega) hbi.2.2.2.2
    refine ⟨ra, rc, fun j v hj => ?_, hS, hbi.1, hbi.2.1, hbi.2.2.1⟩
    have hj4 : j < 4 := by
      have := (List.getElem?_eq_some_iff.1 hj).1
      simpa using this
    have h8 : cur[i * 4 + j]? = some v := by
      have h9 := flatL_at L rv L.length i hi (Nat.le_refl _) j hj4
      rw [hrv] at h9
      have h10 : (flatL L rv L.length)[i * 4 + j]? = some v := h9.trans hj
      rw [← h7] at h10
      rw [List.getElem?_take] at h10
      split at h10
      · simpa using h10
      · cases h10
    rw [Nat.zero_add]
    have hrow : Row wr g cur 33 := h3
    rw [hrow.cell (i * 4 + j)]
    exact h8
theorem ne_type {w : World} {B B' n s n' s' : Nat} {e e' : TypeId} {v v' : Value} {xs xs' : List Value} (h : w.ownsRow B e s v n xs) (h' : w.ownsRow B' e' s' v' n' xs') (hne : e ≠ e') (k : Nat) (hk : v.ownBlock = some k) : v'.ownBlock ≠ some k := fun hk' => by
  obtain ⟨C, hC⟩ := ownsRow_row h k hk
  obtain ⟨C', hC'⟩ := ownsRow_row h' k hk'
  rw [hC] at hC'
  simp only [Option.some.injEq, Obj.cells.injEq] at hC'
  exact hne hC'.2.1
theorem OwnSt.next {w wC w3 : World} {L : List Inf} {i : Nat} {ov ov' v' : Value} {rv : Nat → Value} (h : OwnSt w L i ov rv wC) (hi : i < L.length) (hv : wC.ownsRow w.heap.size 9 1 v' L[i].refs.length (L[i].refs.map Value.string)) (hown : w3.ownsRow w.heap.size 33 4 ov' (i + 1) (flatL L rv i ++ [.string L[i].path, .string L[i].hash, .string L[i].der, v'])) (hg : wC.grownBy w3 ov.ownBlock) : OwnSt w L (i + 1) ov' (fun t => if t = i then v' else rv t) w3 := by
  refine ⟨?_, fun t ht hti => ?_, h.old.trans ⟨hg.os, hg.tape, hg.output, hg.size, fun k hk => hg.block k (by have := h.old.size; omega) (fun e => by have := (ownsRow_lt' h.out k e.symm).2; omega)⟩⟩
  · rw [flatL_succ L _ i hi, flatL_cong L (rv' := rv) (fun t ht => if_neg (by omega)), if_pos rfl]
    exact hown
  · by_cases e : t = i
    · subst e
      rw [if_pos rfl]
      exact ownsRow_keep' hv fun g hgo hl => hg.block g hl (fun e => ne_type hv h.out (by decide) g hgo e.symm)
    · rw [if_neg e]
      exact ownsRow_keep' (h.refs t ht (by omega)) fun g hgo hl => hg.block g hl (fun e1 => ne_type (h.refs t ht (by omega)) h.out (by decide) g hgo e1.symm)
theorem own_empty (w : World) (e : TypeId) (s : Nat) (base : Nat) (hb : base ≤ w.heap.size) : (w.alloc (.cells #[] e)).ownsRow base e s (.slice (some ⟨w.heap.size, 0, none⟩) 0 0) 0 [] := by
  have h := World.ownsRow_lit (base := base) (e := e) (size := s) w #[] 0 (by simpa using hb) (by decide) (by simp)
  simpa using h
/-- Texts are appended to a row of one's own. -/
theorem ap_strs {w : World} {o : Oper} {a : Act} {K : Act → World → Prop} {Q : Exit → Act → World → Prop} (dd : Option Tmp) (hdd : o.dst = dd) (s x : Operand) (ho : o.op = .call { callee := .builtin .append, args := #[s, x], argTypes := #[23, 23] }) (B : Nat) (v : Value) (n : Nat) (xs : List Value) (hs : a.eval s = v) (hown : w.ownsRow B 9 1 v n xs) (ra : Option Addr) (rc : Nat) (X : List ByteArray) (hx : a.eval x = .slice ra X.length rc) (hX : StrsAt w ra X rc) (hB : B ≤ w.heap.size) (hby : (n + X.length) * 16 ≤ 140737488355328)
    (h : ∀ v' w', w'.ownsRow B 9 1 v' (n + X.length) (xs ++ X.map Value.string) → w.grownBy w' v.ownBlock → K (a.put dd v') w') : o.wp Try.prog a w K Q := by
  obtain ⟨b9, o9, ha9, hcl9⟩ := hX.ex
  refine wp_append_any dd hdd s x 23 9 (.string ⟨#[]⟩) 1 16 Try.underlying23 info9 rfl (by decide) ho B v n xs hs hown ra b9 o9 X.length rc (X.map Value.string) (by simp) hx ha9 (fun j u hj => ?_) (fun u hu => ?_) hX.nil (by unfold maxLen; omega) hby hB (fun v' w' h1 h2 _ => h v' w' h1 h2)
  · have hj' : j < X.length := by simpa using (List.getElem?_eq_some_iff.1 hj).1
    have e := hcl9 j hj'
    rw [List.getElem?_map, List.getElem?_eq_getElem hj'] at hj
    rw [e]
    exact hj
  · obtain ⟨x, _, rfl⟩ := List.mem_map.1 hu
    rfl
/-- What own tells: infos in memory of their own. -/
def OwnPost2 (L : List Inf) (w : World) (e : Ending) (w' : World) : Prop := ∃ v rv, e = .returned v ∧ OwnSt w L L.length v rv w'
def OwnPost (L : List Inf) (w : World) (e : Ending) (w' : World) : Prop := Below w.heap.size w w' ∧ ∃ a c, e = .returned (.slice a L.length c) ∧ LsAt w' a L c
set_option maxRecDepth 20000 in
set_option maxHeartbeats 8000000 in
theorem own_ok2 (L : List Inf) (a : Option Addr) (c : Nat) (w : World) (h : LsAt w a L c) (hL : L.length < 400) (hr : ∀ i ∈ L, i.refs.length < 400) : Calls Try.prog 5 #[.slice a L.length c] w (OwnPost2 L w) := by
  obtain ⟨b, off, ha, hc⟩ := h.ex
  have hle := h.le
  have hbd : ∀ i ∈ L, i.path.size ≤ big ∧ i.hash.size ≤ big ∧ i.der.size ≤ big ∧ i.refs.length < 400 ∧ ∀ r ∈ i.refs, r.size ≤ big := fun x hx => by
    obtain ⟨t, ht, rfl⟩ := List.getElem_of_mem hx
    obtain ⟨_, _, _, hif⟩ := hc t ht
    exact ⟨hif.path, hif.hash, hif.der, hr _ (List.getElem_mem ht), hif.refs.each⟩
  have HBd : Hid _ := hbd
  have HA : Hid _ := ha
  have HC : Hid (∀ wx, Below w.heap.size w wx → ∀ i (h : i < L.length), ∃ ra rc, wx.rangeAt b (off + i * 4) (infV L[i] ra rc).toList ∧ InfAt wx L[i] ra rc) := fun wx hx i hi => by
    obtain ⟨ra, rc, h3, h4⟩ := hc i hi
    exact ⟨ra, rc, rangeAt_keep h3 hx, h4.keep hx⟩
  obtain ⟨n, hN⟩ : ∃ n, n = L.length := ⟨_, rfl⟩
  have HN : Hid _ := hN
  rw [← hN] at hL hle ⊢
  clear h ha hc hN hbd hr
  go_enter Try.func5, Try.ntmps5
  go_wp2
  go_loopw [3, 4] (fun ov iv wr => ∃ (i : Nat) (rv : Nat → Value), iv = .int .i64 i ∧ i ≤ n ∧ OwnSt w L i ov rv wr) (fun _ iv _ => n - (intOf iv).toNat)
  case atStart => exact ⟨0, fun _ => .slice none 0 0, rfl, Nat.zero_le _, World.ownsRow_nil _ _ _ _, fun t _ h => absurd h (Nat.not_lt_zero _), Below.refl _ _⟩
  case round =>
    obtain ⟨i, rv, rfl, hi, hO⟩ := hrel
    have HO : Hid _ := hO
    by_cases hlt : i < n
    · have hlt' : (i : Int) < (n : Int) := by omega
      have hil : i < L.length := by have := HN.out; omega
      obtain rfl := HA.out (by omega)
      obtain ⟨ra, rc, hrg, hif⟩ := HC.out wr hO.old i hil
      obtain ⟨x, hx⟩ : ∃ x, x = L[i] := ⟨_, rfl⟩
      have hxb := HBd.out L[i] (List.getElem_mem hil)
      rw [← hx] at hrg hif hxb
      have hx400 := hxb.2.2.2.1
      clear hxb
      have HX : Hid _ := hx
      have HRG : Hid _ := hrg
      have hsi : (Try.prog.info? 33).map (·.size) = some (infV x ra rc).toList.length := infoI
      have hi33 := infV_size x ra rc
      have hone := infV_one x ra rc
      obtain ⟨wA, hwA⟩ : ∃ y, y = wr.alloc (.cells (infV x ra rc) 33) := ⟨_, rfl⟩
      have hbA : Below wr.heap.size wr wA := by rw [hwA]; exact (Below.refl _ _).alloc (Nat.le_refl _) _
      have hsA : wr.heap.size < wA.heap.size := by rw [hwA]; simp
      have hrA : Row wA wr.heap.size (infV x ra rc) 33 := by rw [hwA]; exact Row.new wr _ _
      obtain ⟨wB, hwB⟩ : ∃ y, y = wA.alloc (.cells #[] 9) := ⟨_, rfl⟩
      have hbB : Below wA.heap.size wA wB := by rw [hwB]; exact (Below.refl _ _).alloc (Nat.le_refl _) _
      have hsB : wA.heap.size < wB.heap.size := by rw [hwB]; simp
      have hOld := hO.old.size
      have hoE : wB.ownsRow w.heap.size 9 1 (.slice (some ⟨wA.heap.size, 0, none⟩) 0 0) 0 [] := by rw [hwB]; exact own_empty wA 9 1 w.heap.size (by omega)
      have hrB : Row wB wr.heap.size (infV x ra rc) 33 := hrA.below hbB hrA.lt
      have hbAB : Below wr.heap.size wr wB := hbA.trans (hbB.mono (by omega))
      have hSB : StrsAt wB ra x.refs rc := hif.refs.keep hbAB
      have q3 := (hrB.cell 3).trans (rfl : _ = some (Value.slice ra x.refs.length rc))
      have HOE : Hid _ := hoE
      have HSB : Hid _ := hSB
      have HRB : Hid _ := hrB
      have HBAB : Hid _ := hbAB
      have hwA' := hwA.symm
      have hwB' := hwB.symm
      have hBl : w.heap.size ≤ wB.heap.size := by omega
      obtain ⟨m, hm⟩ : ∃ m, m = x.refs.length := ⟨_, rfl⟩
      have HM : Hid _ := hm
      clear hx hrg hif hwA hwB hbA hrA hbB hoE hrB hbAB hSB hm hO
      go_wp2_with (first
        | (refine wpList_load_mid rfl 33 _ rfl b (off + i * 4) rfl (infV x ra rc).toList _ HRG.out Try.underlying33 rfl hsi ?_)
        | (refine wpList_store_new rfl 33 _ _ rfl wr info00 (infV x ra rc) 33 rfl wr.heap.size rfl rfl rfl hi33 rfl hone ?_; rw [hwA'])
        | (at_builtin
           refine wpList_plain rfl fun K' hK' => ?_
           refine ap_strs (some 19) rfl (.tmp 16) (.tmp 18) rfl w.heap.size _ 0 _ rfl HOE.out ra rc x.refs rfl HSB.out hBl (by omega) ?_
           intro v6 w6 hown6 hg6
           refine hK' _ _ ?_
           have hg6' : wB.grownBy w6 (some wA.heap.size) := hg6
           have hr6 : Row w6 wr.heap.size (infV x ra rc) 33 := (hg6'.block _ (Row.lt HRB.out) (fun e => by have := Option.some.inj e; omega)).trans HRB.out
           have hb6 : Below wr.heap.size wr w6 := HBAB.out.trans ⟨hg6'.os, hg6'.tape, hg6'.output, hg6'.size, fun k hk => hg6'.block k (by omega) (fun e => by have := Option.some.inj e; omega)⟩
           obtain ⟨a6, c6, rfl⟩ := own_slice hown6
           have q6 := (hr6.cell 3).trans (rfl : _ = some (Value.slice ra x.refs.length rc))
           have f6 := hr6.frozen 3
           obtain ⟨w7, hw7⟩ : ∃ y, y = w6.setCell ⟨wr.heap.size, 3, none⟩ (.slice a6 (0 + x.refs.length) c6) := ⟨_, rfl⟩
           have hr7 : Row w7 wr.heap.size (infV x a6 c6) 33 := by
             rw [hw7, Nat.zero_add]
             exact hr6.setCell (i := 3) _
           have hb7 : Below wr.heap.size wr w7 := by
             rw [hw7]
             exact hb6.trans ⟨rfl, rfl, rfl, by simp, fun k hk => heap_setCell_other w6 ⟨wr.heap.size, 3, none⟩ k _ (by show k ≠ wr.heap.size; omega)⟩
           have ho7 : w7.ownsRow w.heap.size 9 1 (.slice a6 x.refs.length c6) x.refs.length (x.refs.map Value.string) := by
             rw [hw7]
             rw [Nat.zero_add] at hown6 ⊢
             exact ownsRow_keep' hown6 fun g hgo _ => heap_setCell_other w6 ⟨wr.heap.size, 3, none⟩ g _ (fun e => by
               obtain ⟨C', hC'⟩ := ownsRow_row hown6 g hgo
               have h9 : w6.heap[wr.heap.size]? = _ := hr6
               rw [show g = wr.heap.size from e, h9] at hC'
               simp only [Option.some.injEq, Obj.cells.injEq] at hC'
               exact absurd hC'.2.1 (by decide))
           rw [Nat.zero_add] at hw7
           have hw7' := hw7.symm
           have hb8 : Below w7.heap.size w7 (w7.alloc (.cells (infV x a6 c6) 33)) := (Below.refl _ _).alloc (Nat.le_refl _) _
           have HOS : Hid (OwnSt w L i u3 rv (w7.alloc (.cells (infV x a6 c6) 33))) := (HO.out.keep hb7).keep hb8
           have HO8 : Hid ((w7.alloc (.cells (infV x a6 c6) 33)).ownsRow w.heap.size 9 1 (.slice a6 x.refs.length c6) x.refs.length (x.refs.map Value.string)) := ownsRow_keep' ho7 fun g _ hl => hb8.block g hl
           have hs7 : w.heap.size ≤ w7.heap.size := by have := hb7.size; omega
           have HR7 : Hid _ := hr7
           clear hb8
           clear hown6 hg6 hg6' hr6 hb6 hr7 hb7 ho7 hw7)
        | (refine wpList_load_row rfl 33 _ rfl wr.heap.size rfl 33 (infV x a6 c6) (0, 0) _ HR7.out Try.underlying33 rfl infoI ?_)
        | (at_builtin
           refine wpList_plain rfl fun K' hK' => ?_
           refine wp_append_any (some 24) rfl (.tmp 21) (.tmp 23) 22 33 (.agg info00) 4 72 Try.underlying22 infoInf rfl (by decide) rfl w.heap.size _ i (flatL L rv i) rfl HOS.out.out (some ⟨w7.heap.size, 0, none⟩) w7.heap.size 0 1 1 (infV x a6 c6).toList rfl rfl (fun _ => rfl) (fun j u hj => by
             rw [Nat.zero_add, (Row.new w7 (infV x a6 c6) 33).cell j, ← Array.getElem?_toList]
             exact hj) (fun u hu => by
             have := Array.all_eq_true_iff_forall_mem.1 (infV_one x a6 c6) u (by simpa using hu)
             exact this) (fun h => nomatch h) (by unfold maxLen; omega) (by omega) (by simp; omega) ?_
           intro v9 w9 hown9 hg9 _
           refine hK' _ _ ?_
           have HN9 : Hid (OwnSt w L (i + 1) v9 (fun t => if t = i then .slice a6 x.refs.length c6 else rv t) w9) := HOS.out.next hil (by rw [← HX.out]; exact HO8.out) (by rw [← HX.out]; exact hown9) hg9
           clear hown9 hg9))
      go_roundw
      case rel => exact ⟨i + 1, _, by go_num, by omega, HN9.out⟩
      case measure => simp [intOf]; omega
    · have hlt' : ¬ (i : Int) < (n : Int) := by omega
      obtain rfl : i = n := by omega
      have hO' : OwnSt w L L.length u3 rv wr := by rw [← HN.out]; exact hO
      have HF : Hid (OwnPost2 L w (.returned u3) wr) := ⟨u3, rv, rfl, hO'⟩
      clear hO hO'
      go_wp2
      go_ret
      exact HF.out
theorem own_ok (L : List Inf) (a : Option Addr) (c : Nat) (w : World) (h : LsAt w a L c) (hL : L.length < 400) (hr : ∀ i ∈ L, i.refs.length < 400) : Calls Try.prog 5 #[.slice a L.length c] w (OwnPost L w) := by
  refine (own_ok2 L a c w h hL hr).mono ?_
  rintro e w' ⟨v, rv, rfl, hO⟩
  obtain ⟨oa, oc, rfl, hLs⟩ := hO.done (fun x hx => by
    obtain ⟨b, off, _, hc⟩ := h.ex
    obtain ⟨t, ht, rfl⟩ := List.getElem_of_mem hx
    obtain ⟨ra, rc, _, hif⟩ := hc t ht
    exact ⟨hif.path, hif.hash, hif.der, hr _ (List.getElem_mem ht), hif.refs.each⟩)
  exact ⟨hO.old, oa, oc, rfl, hLs⟩
end Go.Proofs.Ytkbhckjpmgkgjaa
