import PyProof.Rows.All
import Wide.All
import OpenK.AllK
import Wide.FinOn
import Open.SpecLaws
import KE.OsGo
import HandS.ForSpec
import HandS.Evl
import HandS.Iter
import HandS.Zip
import HandS.Walk
import HandS.Dict
import KE.KDictKeyed
import PyKzs2
import PySem.Challenge.RW_threecolours_s02_rooms
set_option Elab.async false
set_option maxRecDepth 100000
set_option maxHeartbeats 2000000
/-! ### A. A list's extend by a tuple; tuples that stand at addresses -/
namespace Tri
open PySem PySem.Spec PyProof.Rows L2
section
open PySem.AutoSeq1
theorem ext_tup (l b : Addr) (us : Array Value) (n : Nat) (ws : Array Value) (k : Nat) (dd : Option Addr) (sl : Array (Option Value))
    (h0 : ¬ (!us.isEmpty && Builtin.List.listTooLong (us.size + ws.size)) = true) (h1 : us.size ≤ sizeLine) (h2 : us.size + ws.size ≤ sizeLine + 1) :
    Meets (Builtin.«list.extend» ⟨[.ref l, .ref b], []⟩) (fun _ R s =>
      s.heap.get? l = some { cls := .type "list", dict := none, data := .seq us n, slots := #[] } ∧
      s.heap.get? b = some { cls := .type "tuple", dict := dd, data := .seq ws k, slots := sl } ∧
      R (.ok (.ret Value.none)) { s with heap := s.heap.update l (Obj.mapSeq fun x => x ++ ws), toks := s.toks }) :=
  Meets.of_wp fun _ _ _ R S hS => by
    obtain ⟨S1, S2, S3, S4, S5⟩ := S
    obtain ⟨atl, atb, fin⟩ := hS
    have u1 := AutoSeq1.idx_int
    have u2 := AutoSeq1.sub_tuple_tuple
    have u3 := AutoSeq1.sub_list_list
    have u4 := AutoSeq1.sub_tuple_list
    have u5 := AutoSeq1.sub_list_tuple
    have room : (us ++ ws).size ≤ sizeLine + 1 := by
      rw [Array.size_append]
      exact h2
    wp_walk using (wpAny_updateSeq atl rfl (hz := h1) (_hz' := room)), wpAny_loadPart' atl, wpAny_loadPart' atb
    exact ⟨_, rfl, fin⟩
end
def rExtT (K : PySem.W.Frag) : V → List V → Hp → VK → Prop := fun x vs H Q => ∃ l b us ws, x = .ref l ∧ vs = [.ref b] ∧
  H l = some (.lst us) ∧ SqT K H b ws ∧ us.length + ws.length ≤ sizeLine ∧ Q .non (upd H l (.lst (us ++ ws)))
theorem mt_extT {X : Cx} : MtM X "list.extend" (rExtT X.K) := by
  intro ps S st Hp0 xv args xval vals Qk inv rel rels told
  obtain ⟨l, b, old, more, rfl, rfl, atL, atB, short, fin⟩ := told
  cases rel
  obtain ⟨arg, rfl, relA⟩ := rels.one
  cases relA
  obtain ⟨z, ia, n, rOld, hl, objL⟩ := inv.lstM atL
  obtain ⟨ib, rMore, ⟨⟨oc, od, oda, osl⟩, objB, ec, k, ed⟩, _⟩ := inv.tuple atB
  cases ec
  cases ed
  have lenB := rMore.length
  have both : ia.toArray.size + ib.toArray.size ≤ sizeLine := by
    simp only [List.size_toArray]
    omega
  have notLong : ¬ (!ia.toArray.isEmpty && Builtin.List.listTooLong (ia.toArray.size + ib.toArray.size)) = true := by
    intro bad
    rw [notLongL both, Bool.and_false] at bad
    cases bad
  have small : ia.toArray.size ≤ sizeLine := by omega
  refine call_meets F.slot_list_extend ⟨_, objL, rfl⟩ F.entry_list_extend (F.args_list_extend_2 ..)
    (ext_tup l b ia.toArray n ib.toArray k od osl notLong small (by omega)) ⟨objL, objB, .non, _, inv.lset (its' := ia ++ ib) atL objL (by simp) (rOld.append rMore) ?_, rfl, fin⟩
  simp only [List.length_append]
  omega
end Tri

/-! ### B. Short words: operations, a def that may be called, a module's number; lists of tuples -/
namespace Tri
open PySem PySem.Spec PyProof.Rows L2 Evl
abbrev rAddI : R2 := rI0 fun i j => .int (i + j)
abbrev rSubI : R2 := rI0 fun i j => .int (i - j)
abbrev rLtI : R2 := rI0 fun i j => .bl (decide (i < j))
abbrev rLeI : R2 := rI0 fun i j => .bl (decide (i ≤ j))
abbrev rGtI : R2 := rI0 fun i j => .bl (decide (j < i))
abbrev rGeI : R2 := rI0 fun i j => .bl (decide (j ≤ i))
/-- a def that stands under a name, keeps a promise, and takes its arguments by place -/
def Has (P : Program) (w : World) (K : PySem.W.Frag) (mg : Str → Option Value) (base : Heap) (k : Nat) (x : Str) (ps : List Str) (sp : Sp) : Prop :=
  ∃ f fd, mg x = some (.ref f) ∧ FnOk P w K mg base CX0 k f fd ps sp ∧ PySem.W.keepIn K (.ref f) = true ∧ Binds K fd ps []
section
variable {X : Cx}
theorem pe_g {x : Str} {v : V} {pos : Pos} (hg : Gl X x) (h : ∃ u, X.mg x = some u ∧ RelV v u) (hd : (x == ("__debug__" : Str)) = false := by decide) : PE X (.Name x pos) (tC v) :=
  let ⟨_, a, b⟩ := h
  pe_glob hg a b hd
theorem pe_own {k : Nat} {x : Str} {ps : List Str} {sp : Sp} {e : Expr} {es : List Expr} {t : TA} {p pos : Pos} (h : Has X.prog X.w X.K X.mg X.base k x ps sp) (hr : Room k X.A) (hg : Gl X x) (ha : PA X (e :: es) t)
    (hst : starEach (e :: es) X.env = (false, eval e X.env) :: starEach es X.env := by rfl) (hpl : (backTo pos (starEach es X.env)).any (·.1) = false := by rfl) (hdb : (x == ("__debug__" : Str)) = false := by decide) :
    PE X (.Call (.Name x p) (e :: es) [] pos) (tCall sp [] E0 t) := by
  obtain ⟨f, fd, g, F, kp, b⟩ := h
  exact pe_call F hr hg g kp b .nil pass0 ha (hdb := hdb) (he := hst) (hpl := hpl)
end
/-- tuples that stand at addresses -/
def Held (H : Hp) : List Addr → List (List V) → Prop
  | [], [] => True
  | a :: as, x :: xs => H a = some (.tup x) ∧ Held H as xs
  | _, _ => False
theorem Held.ex {H H' : Hp} (e : Ex H H') : ∀ {as : List Addr} {xs : List (List V)}, Held H as xs → Held H' as xs
  | [], [], _ => trivial
  | a :: _, _ :: _, h => ⟨e a _ h.1, Held.ex e h.2⟩
  | [], _ :: _, h => h.elim
  | _ :: _, [], h => h.elim
theorem Held.put {H : Hp} {l : Addr} {o n : List V} (hl : H l = some (.lst o)) : ∀ {as : List Addr} {xs : List (List V)}, Held H as xs → Held (upd H l (.lst n)) as xs
  | [], [], _ => trivial
  | a :: _, _ :: _, h => ⟨by
      have h1 := h.1
      rw [upd_ne (fun z => by
        rw [z, hl] at h1
        cases h1)]
      exact h1, Held.put hl h.2⟩
  | [], _ :: _, h => h.elim
  | _ :: _, [], h => h.elim
theorem Held.snoc {H : Hp} {a : Addr} {x : List V} (ha : H a = some (.tup x)) : ∀ {as : List Addr} {xs : List (List V)}, Held H as xs → Held H (as ++ [a]) (xs ++ [x])
  | [], [], _ => ⟨ha, trivial⟩
  | _ :: _, _ :: _, h => ⟨h.1, Held.snoc ha h.2⟩
  | [], _ :: _, h => h.elim
  | _ :: _, [], h => h.elim
theorem Held.len {H : Hp} : ∀ {as : List Addr} {xs : List (List V)}, Held H as xs → as.length = xs.length
  | [], [], _ => rfl
  | _ :: _, _ :: _, h => congrArg (· + 1) (Held.len h.2)
  | [], _ :: _, h => h.elim
  | _ :: _, [], h => h.elim
theorem Held.get {H : Hp} : ∀ {as : List Addr} {xs : List (List V)} {i : Nat} {v : V}, Held H as xs → (as.map V.ref)[i]? = some v → ∃ a x, v = .ref a ∧ xs[i]? = some x ∧ H a = some (.tup x)
  | [], [], _, _, _, h => by simp at h
  | a :: _, x :: _, 0, _, hd, h => ⟨a, x, (Option.some.inj h).symm, rfl, hd.1⟩
  | _ :: as, _ :: xs, i + 1, _, hd, h => Held.get (as := as) (xs := xs) (i := i) hd.2 h
  | [], _ :: _, _, _, h, _ => h.elim
  | _ :: _, [], _, _, h, _ => h.elim
/-- a new list of new tuples, over the heap H0 -/
def Grown (H0 H : Hp) (p : Addr) (xs : List (List V)) : Prop := H0 p = none ∧ Ex H0 H ∧ ∃ as : List Addr, H p = some (.lst (as.map V.ref)) ∧ Held H as xs
theorem Grown.ex {H0 H H' : Hp} {p : Addr} {xs : List (List V)} (g : Grown H0 H p xs) (e : Ex H H') : Grown H0 H' p xs :=
  let ⟨a, b, as, c, d⟩ := g
  ⟨a, b.trans e, as, e _ _ c, d.ex e⟩
theorem Grown.start {H0 H : Hp} {p : Addr} (h : H0 p = none) (e : Ex H0 H) (hp : H p = some (.lst [])) : Grown H0 H p [] := ⟨h, e, [], hp, trivial⟩
theorem Grown.is {H0 H : Hp} {p : Addr} {xs ys : List (List V)} (g : Grown H0 H p xs) (e : xs = ys) : Grown H0 H p ys := e ▸ g
def RetH (xs : List (List V)) (H : Hp) (Q : VK) : Prop := ∀ p H2, Grown H H2 p xs → Q (.ref p) H2
section
variable {K : PySem.W.Frag} {σ : L2.St} {H H0 : Hp} {ta te : TE} {D : Ends} {tz : TS} {v : V}
theorem s_push {p : Addr} {xs : List (List V)} {x : List V} (g : Grown H0 H p xs) (ha : Ev ta σ H (.ref p)) (h : EvU te σ H x) (hz : xs.length < 100000) (k : ∀ H1, Grown H0 H1 p (xs ++ [x]) → D.nx σ H1) :
    tDrop (tBM K "list" rAppend ta (tCons te tNil)) D σ H := by
  obtain ⟨g1, g2, as, g3, g4⟩ := g
  refine s_appU g3 ha h (by rw [List.length_map, g4.len]; exact hz) fun q H1 hq e1 h1 => k _ ⟨g1, Ex.mut (g2.trans e1) g1, as ++ [q], ?_, ?_⟩
  · rw [upd_same, List.map_append]
    rfl
  · exact ((g4.ex e1).snoc h1).put (e1 _ _ g3)
theorem q_push {p : Addr} {xs : List (List V)} {x : List V} (g : Grown H0 H p xs) (ha : Ev ta σ H (.ref p)) (h : EvU te σ H x) (hz : xs.length < 100000) (k : ∀ H1, Grown H0 H1 p (xs ++ [x]) → tz D σ H1) :
    tSeq (tDrop (tBM K "list" rAppend ta (tCons te tNil))) tz D σ H := s_push (D := { D with nx := tz D }) g ha h hz k
theorem s_extT {l b : Addr} {us ws : List V} (hl : H l = some (.lst us)) (ha : Ev ta σ H (.ref l)) (h : Ev te σ H (.ref b)) (hb : SqT K H b ws) (hz : us.length + ws.length ≤ 100000) (k : ∀ H1, Ex H H1 → D.nx σ (upd H1 l (.lst (us ++ ws)))) :
    tDrop (tBM K "list" (rExtT K) ta (tCons te tNil)) D σ H := ha H (Ex.refl H) _ fun H1 e1 =>
  ⟨Or.inl ⟨rfl, us, sq_of (e1 l _ hl)⟩, h H1 e1 _ fun H2 e2 => ⟨l, b, us, ws, rfl, rfl, e2 l _ (e1 l _ hl), ex_t (e1.trans e2) hb, sz_of hz, k H2 (e1.trans e2)⟩⟩
/-- x = f(..) by f's promise -/
theorem q_asgC {sp : Sp} {E : XK} {t : TA} {i : Nat} {vs : List V} (h : EvA t σ H vs) (hs : ∀ H1, Ex H H1 → sp (vs ++ []) H1 (fun v H2 => tz D (σ.set i (some v)) H2) E) :
    tSeq (tAsg (tCall sp [] E t) (gName i)) tz D σ H := h H (Ex.refl H) _ hs
end
end Tri

/-! ### C. Rooms: the specification's list, row by row -/
namespace Tri
theorem flat_succ {α : Type} (f : Nat → List α) (n : Nat) : (List.range (n + 1)).flatMap f = (List.range n).flatMap f ++ f n := by
  rw [List.range_succ, List.flatMap_append, List.flatMap_cons, List.flatMap_nil, List.append_nil]
theorem flat_len {α : Type} (f : Nat → List α) (c : Nat) (h : ∀ i, (f i).length ≤ c) : ∀ n, ((List.range n).flatMap f).length ≤ c * n
  | 0 => Nat.zero_le _
  | n + 1 => by
    have a := flat_len f c h n
    have b := h n
    rw [flat_succ, List.length_append, Nat.mul_succ]
    omega
def cell (m j i : Nat) : List Kzs2.Room := if i + j + 2 ≤ m then [⟨i, j, true⟩, ⟨i, j, false⟩] else [⟨i, j, true⟩]
def rowTo (m j n : Nat) : List Kzs2.Room := (List.range n).flatMap (cell m j)
def upTo (m n : Nat) : List Kzs2.Room := (List.range n).flatMap fun j => rowTo m j (m - j)
theorem rooms_upTo (m : Nat) : Kzs2.rooms m = upTo m m := rfl
theorem cell_len (m j i : Nat) : (cell m j i).length ≤ 2 := by
  unfold cell
  split <;> simp
theorem rowTo_len (m j n : Nat) : (rowTo m j n).length ≤ 2 * n := flat_len _ 2 (cell_len m j) n
theorem upTo_len (m n : Nat) : (upTo m n).length ≤ (2 * m) * n := flat_len _ (2 * m) (fun j => Nat.le_trans (rowTo_len m j _) (by omega)) n
theorem rowTo_succ (m j n : Nat) : rowTo m j (n + 1) = rowTo m j n ++ cell m j n := flat_succ _ n
theorem upTo_succ (m n : Nat) : upTo m (n + 1) = upTo m n ++ rowTo m n (m - n) := flat_succ _ n
theorem f_rooms_no (m : Int) (h : ¬ (1 ≤ m ∧ m ≤ 9)) : PyKzs2.rooms m = [-22] := by
  show (Kzs2.answer (.rooms m.toNat)).value :: (Kzs2.answer (.rooms m.toNat)).nums = [-22]
  have e : Kzs2.answer (.rooms m.toNat) = Kzs1.say (-22) := if_pos (by unfold Kzs2.most; omega)
  rw [e]
  rfl
theorem f_rooms (n : Nat) (h : 1 ≤ n ∧ n ≤ 9) : PyKzs2.rooms (n : Int) = ((Kzs2.rooms n).length : Int) :: (Kzs2.rooms n).flatMap fun r => [(r.i : Int), (r.j : Int), if r.u then 1 else 0] := by
  show (Kzs2.answer (.rooms n)).value :: (Kzs2.answer (.rooms n)).nums = _
  have e : Kzs2.answer (.rooms n) = ⟨((Kzs2.rooms n).length : Nat), (Kzs2.rooms n).flatMap fun r => [(r.i : Int), (r.j : Int), if r.u then 1 else 0]⟩ := if_neg (by unfold Kzs2.most; omega)
  rw [e]
end Tri

/-! ### The text: places, scopes, readings (printed by tools/gen.py) -/
namespace Tri
open PySem PySem.Spec PyProof.Rows L2 Evl
def top (i : Nat) : Stmt := PySem.Challenge.pw_threecolours_s02_rooms.main.body.getD i (.Pass ⟨0, 0, 0, 0⟩)
abbrev st_is_size : Stmt := top 5
theorem sc_is_size : FnScope ["m"] ["m"] (defScope st_is_size) := ⟨rfl, rfl, rfl, by decide +kernel, rfl, by decide +kernel, by decide +kernel⟩
abbrev st_small_triangles : Stmt := top 6
theorem sc_small_triangles : FnScope ["m", "listed", "j", "i"] ["m"] (defScope st_small_triangles) := ⟨rfl, rfl, rfl, by decide +kernel, rfl, by decide +kernel, by decide +kernel⟩
abbrev st_rooms : Stmt := top 7
theorem sc_rooms : FnScope ["m", "listed", "answer", "room"] ["m"] (defScope st_rooms) := ⟨rfl, rfl, rfl, by decide +kernel, rfl, by decide +kernel, by decide +kernel⟩
structure Txt (K : PySem.W.Frag) (mg : Str → Option Value) : Prop where
  g_DOWN : ∃ u, mg "DOWN" = some u ∧ RelV (.int (0)) u
  g_LARGEST_SIZE : ∃ u, mg "LARGEST_SIZE" = some u ∧ RelV (.int (9)) u
  g_REFUSED_INPUT : ∃ u, mg "REFUSED_INPUT" = some u ∧ RelV (.int (-22)) u
  g_UP : ∃ u, mg "UP" = some u ∧ RelV (.int (1)) u
  n_len : mg "len" = none
  n_range : mg "range" = none
def t_is_size (K : PySem.W.Frag) : TS :=
  (tRet (tAndV (tOp rGeI (tVar 0) (tC (.int 1))) (tOp rLeI (tVar 0) (tC (.int (9))))))
def t_small_triangles (K : PySem.W.Frag) : TS :=
  (tSeq (tAsg (tLst tNil) (gName 1))
  (tSeq (tFor (iRng1 (tCons (tVar 0) tNil)) (gName 2)
  (tFor (iRng1 (tCons (tOp rSubI (tVar 0) (tVar 2)) tNil)) (gName 3)
  (tSeq (tDrop (tBM K "list" rAppend (tVar 1) (tCons (tTup (tCons (tVar 3) (tCons (tVar 2) (tCons (tC (.int (1))) tNil)))) tNil)))
  (tIfS (tTest (tOp rLtI (tOp rAddI (tVar 3) (tVar 2)) (tOp rSubI (tVar 0) (tC (.int 1)))))
  (tDrop (tBM K "list" rAppend (tVar 1) (tCons (tTup (tCons (tVar 3) (tCons (tVar 2) (tCons (tC (.int (0))) tNil)))) tNil)))
  tNext))))
  (tRet (tVar 1))))
def t_rooms (K : PySem.W.Frag) (sp_is_size : Sp) (sp_small_triangles : Sp) : TS :=
  (tSeq (tIfS (tNot (tB (tCall sp_is_size [] E0 (tCons (tVar 0) tNil))))
  (tRet (tLst (tCons (tC (.int (-22))) tNil)))
  tNext)
  (tSeq (tAsg (tCall sp_small_triangles [] E0 (tCons (tVar 0) tNil)) (gName 1))
  (tSeq (tAsg (tLst (tCons (tCB (rLenS K) (tCons (tVar 1) tNil)) tNil)) (gName 2))
  (tSeq (tFor (iList K (tVar 1)) (gName 3)
  (tDrop (tBM K "list" (rExtT K) (tVar 2) (tCons (tVar 3) tNil))))
  (tRet (tVar 2))))))
end Tri

/-! ### is_size -/
namespace Tri
open PySem PySem.Spec PyProof.Rows L2 Evl
def isSize (m : Int) : Bool := decide (1 ≤ m) && decide (m ≤ 9)
def sp_is_size (_ : PySem.W.Frag) : Sp := fun vs H Q _ => ∃ m : Int, vs = [.int m] ∧ RetV (.bl (isSize m)) H Q
section
variable {K : PySem.W.Frag} {vs : List V} {H : Hp} {Q : VK} {E : XK}
theorem len_is_size (h : sp_is_size K vs H Q E) : vs.length = 1 := by
  obtain ⟨m, rfl, _⟩ := h
  rfl
end
section
variable {K : PySem.W.Frag}
theorem read_is_size (vs : List V) (H : Hp) (Q : VK) (E : XK) (h : sp_is_size K vs H Q E) : t_is_size K { nx := fun _ H' => Q .non H', rt := Q } (start ["m"] vs) H := by
  obtain ⟨m, rfl, k⟩ := h
  exact s_ret (ev_andV (ev_op (ev_var rfl) ev_c rv_I0) fun _ => ev_op (ev_var rfl) ev_c rv_I0) k
end
end Tri

/-! ### small_triangles -/
namespace Tri
open PySem PySem.Spec PyProof.Rows L2 Evl
def roomV (r : Kzs2.Room) : List V := [.int r.i, .int r.j, .int (if r.u then 1 else 0)]
def sp_small_triangles (_ : PySem.W.Frag) : Sp := fun vs H Q _ => ∃ m : Nat, vs = [.int m] ∧ m ≤ 9 ∧ RetH ((Kzs2.rooms m).map roomV) H Q
section
variable {K : PySem.W.Frag} {vs : List V} {H : Hp} {Q : VK} {E : XK}
theorem len_small_triangles (h : sp_small_triangles K vs H Q E) : vs.length = 1 := by
  obtain ⟨m, rfl, _⟩ := h
  rfl
end
section
variable {K : PySem.W.Frag}
theorem room_up (i j : Nat) : roomV ⟨i, j, true⟩ = [.int i, .int j, .int 1] := rfl
theorem room_down (i j : Nat) : roomV ⟨i, j, false⟩ = [.int i, .int j, .int 0] := rfl
theorem read_small_triangles (vs : List V) (H : Hp) (Q : VK) (E : XK) (h : sp_small_triangles K vs H Q E) : t_small_triangles K { nx := fun _ H' => Q .non H', rt := Q } (start ["m", "listed", "j", "i"] vs) H := by
  obtain ⟨m, rfl, hm, k⟩ := h
  refine q_asgL (el_lst ea_nil (by decide)) fun p H1 hp e1 h1 => ?_
  refine q_forR1 (n := (m : Int)) (ea_cons (ev_var rfl) ea_nil) ⟨by omega, by omega⟩ (fun j σ' H' => ∃ v2 v3, σ' = [some (.int m), some (.ref p), v2, v3] ∧ Grown H H' p ((upTo m j).map roomV)) ?_ ?_ ?_
  · exact fun H2 e2 => ⟨none, none, rfl, (Grown.start hp e1 h1).ex e2⟩
  · rintro j σ' H' hj ⟨v2, v3, rfl, g⟩
    refine s_forR1 (n := (m : Int) - (j : Int)) (ea_cons (ev_op (ev_var rfl) (ev_var rfl) rv_I0) ea_nil) ⟨by omega, by omega⟩ (fun i σ'' H'' => ∃ v3, σ'' = [some (.int m), some (.ref p), some (.int j), v3] ∧ Grown H H'' p ((upTo m j ++ rowTo m j i).map roomV)) ?_ ?_ ?_
    · exact fun H2 e2 => ⟨v3, rfl, (g.ex e2).is (by show _ = (upTo m j ++ []).map roomV; rw [List.append_nil])⟩
    · rintro i σ'' H'' hi ⟨v3, rfl, g⟩
      have hl : ((upTo m j ++ rowTo m j i).map roomV).length ≤ 1000 := by
        rw [List.length_map, List.length_append]
        have a := upTo_len m j
        have b := rowTo_len m j i
        have c : 2 * m * j ≤ 18 * 9 := Nat.mul_le_mul (by omega) (by omega)
        omega
      refine q_push g (ev_var rfl) (eu_tup (ea_cons (ev_var rfl) (ea_cons (ev_var rfl) (ea_cons ev_c ea_nil))) (by show 3 ≤ 100000; omega)) (by omega) fun H2 g2 => ?_
      refine s_when (et_test (ev_op (ev_op (ev_var rfl) (ev_var rfl) rv_I0) (ev_op (ev_var rfl) ev_c rv_I0) rv_I0)) (fun hb H3 e3 => ?_) (fun hb H3 e3 => ?_)
      · have c : i + j + 2 ≤ m := by
          have := of_decide_eq_true hb
          omega
        refine s_push (g2.ex e3) (ev_var rfl) (eu_tup (ea_cons (ev_var rfl) (ea_cons (ev_var rfl) (ea_cons ev_c ea_nil))) (by show 3 ≤ 100000; omega)) (by rw [List.length_append]; show _ + 1 < 100000; omega) fun H4 g4 => ⟨_, rfl, g4.is ?_⟩
        rw [rowTo_succ, ← List.append_assoc, List.map_append (l₁ := upTo m j ++ rowTo m j i), List.append_assoc]
        have ec : cell m j i = [⟨i, j, true⟩, ⟨i, j, false⟩] := if_pos c
        rw [ec]
        rfl
      · have c : ¬ i + j + 2 ≤ m := by
          have := of_decide_eq_false hb
          omega
        refine ⟨_, rfl, (g2.ex e3).is ?_⟩
        rw [rowTo_succ, ← List.append_assoc, List.map_append (l₁ := upTo m j ++ rowTo m j i)]
        have ec : cell m j i = [⟨i, j, true⟩] := if_neg c
        rw [ec]
        rfl
    · rintro σ'' H'' ⟨v3, rfl, g⟩
      refine ⟨_, v3, rfl, g.is ?_⟩
      rw [upTo_succ, show ((m : Int) - (j : Int)).toNat = m - j by omega]
  · rintro σ' H' ⟨v2, v3, rfl, g⟩
    refine s_ret (ev_var rfl) fun H2 e2 => k p H2 ((g.ex e2).is ?_)
    rw [rooms_upTo]
    rfl
end
end Tri

/-! ### rooms -/
namespace Tri
open PySem PySem.Spec PyProof.Rows L2 Evl
def sp_rooms (_ : PySem.W.Frag) : Sp := fun vs _ Q _ => ∃ m : Int, vs = [.int m] ∧ ∀ (H' : Hp) (p : Addr), H' p = some (.lst ((PyKzs2.rooms m).map V.int)) → Q (.ref p) H'
def flatV (l : List Kzs2.Room) : List V := l.flatMap roomV
section
variable {K : PySem.W.Frag} {vs : List V} {H : Hp} {Q : VK} {E : XK}
theorem len_rooms (h : sp_rooms K vs H Q E) : vs.length = 1 := by
  obtain ⟨m, rfl, _⟩ := h
  rfl
end
section
variable {K : PySem.W.Frag}
theorem flatV_ints (l : List Kzs2.Room) : flatV l = (l.flatMap fun r => [(r.i : Int), (r.j : Int), if r.u then 1 else 0]).map V.int := by
  unfold flatV
  rw [List.map_flatMap]
  rfl
theorem take_one {α : Type} {l : List α} {i : Nat} {x : α} (h : l[i]? = some x) : l.take (i + 1) = l.take i ++ [x] := by
  rw [List.take_add_one, h]
  rfl
theorem flatV_len (l : List Kzs2.Room) : (flatV l).length = 3 * l.length := by
  induction l with
  | nil => rfl
  | cons r l ih =>
    show (roomV r ++ flatV l).length = _
    rw [List.length_append, ih, List.length_cons]
    show 3 + _ = _
    omega
theorem read_rooms (vs : List V) (H : Hp) (Q : VK) (E : XK) (h : sp_rooms K vs H Q E) : t_rooms K (sp_is_size K) (sp_small_triangles K) { nx := fun _ H' => Q .non H', rt := Q } (start ["m", "listed", "answer", "room"] vs) H := by
  obtain ⟨m, rfl, k⟩ := h
  refine q_when (b := !(isSize m)) (et_not (et_B (ev_call (ea_cons (ev_var rfl) ea_nil) fun H1 e Q q E => ⟨m, rfl, q⟩))) (fun hb H1 e1 => ?_) (fun hb H1 e1 => ?_)
  · refine s_retL (el_lst (ea_cons ev_c ea_nil) (by decide)) fun p H2 hp e2 h2 => k H2 p ?_
    rw [f_rooms_no m (fun c => by simp [isSize, c.1, c.2] at hb)]
    exact h2
  · have hs : 1 ≤ m ∧ m ≤ 9 := by
      have : isSize m = true := by simpa using hb
      simpa [isSize] using this
    obtain ⟨n, rfl⟩ : ∃ n : Nat, m = (n : Int) := ⟨m.toNat, by omega⟩
    refine q_asgC (ea_cons (ev_var rfl) ea_nil) fun H2 e2 => ⟨n, rfl, by omega, fun p H3 g3 => ?_⟩
    obtain ⟨hp, e3, as, h3, hd⟩ := g3
    have hlen : as.length = (Kzs2.rooms n).length := by
      rw [hd.len, List.length_map]
    have hsz : (Kzs2.rooms n).length ≤ 162 := by
      have a := upTo_len n n
      have c : 2 * n * n ≤ 18 * 9 := Nat.mul_le_mul (by omega) (by omega)
      rw [rooms_upTo]
      omega
    refine q_asgL (el_lst (ea_cons (ev_len (xs := as.map V.ref) (ev_var rfl) (sq_of h3)) ea_nil) (by show 1 ≤ 100000; omega)) fun l H4 hl e4 h4 => ?_
    have h34 : H4 p = some (.lst (as.map V.ref)) := e4 _ _ h3
    refine q_forLn (K := K) (a := p) (xs := as.map V.ref) (ev_var rfl) (sq_of h34) (fun i σ' H' => ∃ v3, σ' = [some (.int n), some (.ref p), some (.ref l), v3] ∧ H' p = some (.lst (as.map V.ref)) ∧ Held H' as ((Kzs2.rooms n).map roomV) ∧
      H' l = some (.lst (.int ((Kzs2.rooms n).length : Int) :: flatV ((Kzs2.rooms n).take i)))) ?_ ?_ ?_ ?_
    · refine fun H5 e5 => ⟨none, rfl, e5 _ _ h34, (hd.ex e4).ex e5, e5 _ _ ?_⟩
      rw [h4, List.length_map, hlen]
      rfl
    · rintro i σ' H' hi ⟨v3, rfl, a1, a2, a3⟩
      exact sq_of a1
    · rintro i x σ' H' hi ⟨v3, rfl, a1, a2, a3⟩
      obtain ⟨b, y, rfl, hy, hb⟩ := a2.get hi
      rw [List.getElem?_map] at hy
      cases hr : (Kzs2.rooms n)[i]? with
      | none =>
        rw [hr] at hy
        cases hy
      | some r =>
        rw [hr] at hy
        obtain rfl : roomV r = y := Option.some.inj hy
        have npl : p ≠ l := fun z => by
          rw [z] at h3
          rw [h3] at hl
          cases hl
        refine s_extT (K := K) a3 (ev_var rfl) (ev_var rfl) (st_of hb) ?_ fun H6 e6 => ⟨_, rfl, ?_, ?_, ?_⟩
        · rw [List.length_cons, flatV_len, List.length_take]
          show _ + 3 ≤ 100000
          omega
        · rw [upd_ne npl]
          exact e6 _ _ a1
        · exact (a2.ex e6).put (e6 _ _ a3)
        · rw [upd_same, take_one hr]
          show _ = some (HO.lst (_ :: ((Kzs2.rooms n).take i ++ [r]).flatMap roomV))
          rw [List.flatMap_append, List.flatMap_cons, List.flatMap_nil, List.append_nil]
          rfl
    · rintro σ' H' ⟨v3, rfl, a1, a2, a3⟩
      refine s_ret (ev_var rfl) fun H6 e6 => k H6 l ?_
      rw [f_rooms n (by omega), List.map_cons, ← flatV_ints, e6 _ _ a3, List.length_map, hlen, List.take_length]
theorem asked (K : PySem.W.Frag) (H : Hp) (xs : List V) (a : PySem.W.Codec.denoteAll PySem.Challenge.rw_threecolours_s02_rooms.args) (_ : PySem.W.Codec.withinAll PySem.Challenge.rw_threecolours_s02_rooms.args a = true)
    (hx : DwAll K H xs (PySem.W.Codec.encAll PySem.Challenge.rw_threecolours_s02_rooms.args a)) :
    sp_rooms K xs H (fun v H' => Dw K H' v (PySem.Challenge.rw_threecolours_s02_rooms.ret.enc (PySem.W.Codec.app PySem.Challenge.rw_threecolours_s02_rooms.args PySem.Challenge.rw_threecolours_s02_rooms.f a))) fun _ _ _ => False := by
  cases hx with
  | cons h1 h2 =>
    cases h2
    cases h1
    exact ⟨a.1, rfl, fun H' p hp => .lst (L2.SqL.of hp) (L2.dw_ints _)⟩
end
end Tri

/-! ### Each def holds its promise (printed by tools/gen.py): the derivation, then read_f -/
namespace Tri
open PySem PySem.Spec PyProof.Rows L2 Evl
section
variable {P : Program} {w : World} {K : PySem.W.Frag} {mg : Str → Option Value} {base : Heap}
theorem ok_is_size {f : Addr} {fd : FuncData} (F : Fun K "is_size" "is_size" st_is_size f fd) (T : Txt K mg) : FnOk P w K mg base CX0 1 f fd ["m"] (sp_is_size K) := by
  refine F.ok sc_is_size (fun vs H Q E h => len_is_size h) (fun cdv A outer s H vs Q E hr h => ⟨t_is_size K  , ?_, read_is_size vs H Q E h⟩)
  exact (pss_one (ps_ret (pe_and (pe_cmpR op_ge (pv 0) pe_int (nomark _)) (pe_one (pe_cmpR op_le (pv 0) (pe_g (by rfl) T.g_LARGEST_SIZE) (nomark _))))))
theorem ok_small_triangles {f : Addr} {fd : FuncData} (F : Fun K "small_triangles" "small_triangles" st_small_triangles f fd) (T : Txt K mg) : FnOk P w K mg base CX0 1 f fd ["m"] (sp_small_triangles K) := by
  refine F.ok sc_small_triangles (fun vs H Q E h => len_small_triangles h) (fun cdv A outer s H vs Q E hr h => ⟨t_small_triangles K  , ?_, read_small_triangles vs H Q E h⟩)
  exact (pss_cons (ps_set (i := 1) sc_small_triangles.nd rfl (Or.inl rfl) (pe_lst pa_nil))
      (pss_cons (ps_for PassesOwn.never rfl (pi_range1 (by rfl) T.n_range (pa_cons (pv 0) pa_nil)) (pg_name (i := 2) sc_small_triangles.nd rfl (Or.inl rfl))
      (pss_one (ps_for PassesOwn.never rfl (pi_range1 (by rfl) T.n_range (pa_cons (pe_op op_sub (pv 0) (pv 2)) pa_nil)) (pg_name (i := 3) sc_small_triangles.nd rfl (Or.inl rfl))
      (pss_cons (ps_expr (pe_bm PySem.F.plainAttrs_list PySem.F.slot_list_append PySem.F.type_list_append mt_append (pv 1) (pa_cons (pe_tup (pa_cons (pv 3) (pa_cons (pv 2) (pa_cons (pe_g (by rfl) T.g_UP) pa_nil)))) pa_nil)))
      (pss_one (ps_if (pt_cmpR op_lt (pe_op op_add (pv 3) (pv 2)) (pe_op op_sub (pv 0) pe_int) (nomark _))
      (pss_one (ps_expr (pe_bm PySem.F.plainAttrs_list PySem.F.slot_list_append PySem.F.type_list_append mt_append (pv 1) (pa_cons (pe_tup (pa_cons (pv 3) (pa_cons (pv 2) (pa_cons (pe_g (by rfl) T.g_DOWN) pa_nil)))) pa_nil))))
      pss_nil))))))
      (pss_one (ps_ret (pv 1)))))
theorem ok_rooms {f : Addr} {fd : FuncData} (F : Fun K "rooms" "rooms" st_rooms f fd) (T : Txt K mg) (h_is_size : Has P w K mg base 1 "is_size" ["m"] (sp_is_size K)) (h_small_triangles : Has P w K mg base 1 "small_triangles" ["m"] (sp_small_triangles K)) : FnOk P w K mg base CX0 2 f fd ["m"] (sp_rooms K) := by
  refine F.ok sc_rooms (fun vs H Q E h => len_rooms h) (fun cdv A outer s H vs Q E hr h => ⟨t_rooms K (sp_is_size K) (sp_small_triangles K) , ?_, read_rooms vs H Q E h⟩)
  exact (pss_cons (ps_if (pt_not (pt_val (pe_own h_is_size (hr.mono (by decide)) (by rfl) (pa_cons (pv 0) pa_nil))))
      (pss_one (ps_ret (pe_lst (pa_cons (pe_g (by rfl) T.g_REFUSED_INPUT) pa_nil))))
      pss_nil)
      (pss_cons (ps_set (i := 1) sc_rooms.nd rfl (Or.inl rfl) (pe_own h_small_triangles (hr.mono (by decide)) (by rfl) (pa_cons (pv 0) pa_nil)))
      (pss_cons (ps_set (i := 2) sc_rooms.nd rfl (Or.inl rfl) (pe_lst (pa_cons (pe_callB call_len_seq (by rfl) T.n_len PySem.boot_len (pa_cons (pv 1) pa_nil)) pa_nil)))
      (pss_cons (ps_for PassesOwn.never rfl (pi_list (pv 1)) (pg_name (i := 3) sc_rooms.nd rfl (Or.inl rfl))
      (pss_one (ps_expr (pe_bm PySem.F.plainAttrs_list PySem.F.slot_list_extend PySem.F.type_list_extend mt_extT (pv 2) (pa_cons (pv 3) pa_nil)))))
      (pss_one (ps_ret (pv 2)))))))
end
end Tri

/-! ### The end (printed by tools/gen.py) -/
namespace Tri
open PySem PySem.Spec PyProof.Rows L2 Evl
theorem all_mk {P : Program} {w : World} {K : PySem.W.Frag} {h : Heap} {mg : Str → Option Value} {fa f1 f2 f3 : Addr} (X : K.In h) (G : h.Ns mainGlobals mg) (hfa : mg "rooms" = some (.ref fa))
    {od1 an1 od2 an2 od3 an3 : Option Addr} {sl1 sl2 sl3 : Array (Option Value)} {oc1 kV1 dc1 pm1 cd1 ct1 oc2 kV2 dc2 pm2 cd2 ct2 oc3 kV3 dc3 pm3 cd3 ct3 : Value} {tk0 tk1 tk2 tk3 : Tok}
    (a1 : PySem.W.nsIn K mainGlobals "is_size" = some (some (.ref f1))) (l1 : K.lookup f1 = some ⟨oc1, od1, .func (PySem.W.fnOf "is_size" "is_size" (defArgs st_is_size) (defBody st_is_size) (defScope st_is_size) .none kV1 dc1 pm1 an1 cd1 ct1), sl1⟩) (c1 : PySem.W.codeIn K cd1 "is_size" = true) (k1 : PySem.W.keepIn K (.ref f1) = true)
    (a2 : PySem.W.nsIn K mainGlobals "small_triangles" = some (some (.ref f2))) (l2 : K.lookup f2 = some ⟨oc2, od2, .func (PySem.W.fnOf "small_triangles" "small_triangles" (defArgs st_small_triangles) (defBody st_small_triangles) (defScope st_small_triangles) .none kV2 dc2 pm2 an2 cd2 ct2), sl2⟩) (c2 : PySem.W.codeIn K cd2 "small_triangles" = true) (k2 : PySem.W.keepIn K (.ref f2) = true)
    (a3 : PySem.W.nsIn K mainGlobals "rooms" = some (some (.ref f3))) (l3 : K.lookup f3 = some ⟨oc3, od3, .func (PySem.W.fnOf "rooms" "rooms" (defArgs st_rooms) (defBody st_rooms) (defScope st_rooms) .none kV3 dc3 pm3 an3 cd3 ct3), sl3⟩) (c3 : PySem.W.codeIn K cd3 "rooms" = true) (k3 : PySem.W.keepIn K (.ref f3) = true)
    (u0 : PySem.W.nsIn K mainGlobals "DOWN" = some (some (.int (0) tk0)))
    (u1 : PySem.W.nsIn K mainGlobals "LARGEST_SIZE" = some (some (.int (9) tk1)))
    (u2 : PySem.W.nsIn K mainGlobals "REFUSED_INPUT" = some (some (.int (-22) tk2)))
    (u3 : PySem.W.nsIn K mainGlobals "UP" = some (some (.int (1) tk3)))
    (z0 : PySem.W.nsIn K mainGlobals "len" = some none)
    (z1 : PySem.W.nsIn K mainGlobals "range" = some none)
    : ∃ fd : FuncData, (∀ (s : Shared) (us : List Value), us.length = (["m"] : List Str).length → BindsTo s fd ⟨us, []⟩ ((["m"] : List Str).zip us)) ∧ ∀ base : Heap, K.In base → base.Ns mainGlobals mg → FnOk P w K mg base CX0 2 fa fd ["m"] (sp_rooms K) := by
  have e := hfa.symm.trans (PySem.W.mg_of X G a3)
  cases e
  have T : Txt K mg := ⟨⟨_, PySem.W.mg_of X G u0, ⟨_, rfl⟩⟩, ⟨_, PySem.W.mg_of X G u1, ⟨_, rfl⟩⟩, ⟨_, PySem.W.mg_of X G u2, ⟨_, rfl⟩⟩, ⟨_, PySem.W.mg_of X G u3, ⟨_, rfl⟩⟩, PySem.W.mg_none_of X G z0, PySem.W.mg_none_of X G z1⟩
  have F1 := fun_mk (st := st_is_size) l1 c1 k1
  have b1 := F1.binds (ps := ["m"]) fun _ _ _ _ _ _ us hl => match us, hl with | [_], _ => rfl
  have F2 := fun_mk (st := st_small_triangles) l2 c2 k2
  have b2 := F2.binds (ps := ["m"]) fun _ _ _ _ _ _ us hl => match us, hl with | [_], _ => rfl
  have F3 := fun_mk (st := st_rooms) l3 c3 k3
  refine ⟨PySem.W.fnOf "rooms" "rooms" (defArgs st_rooms) (defBody st_rooms) (defScope st_rooms) .none kV3 dc3 pm3 an3 cd3 ct3, fun s us hu => match us, hu with | [_], _ => .of_eq rfl, fun base _ _ => ?_⟩
  have h_is_size : Has P w K mg base 1 "is_size" ["m"] (sp_is_size K) := ⟨_, _, PySem.W.mg_of X G a1, ok_is_size F1 T, k1, b1⟩
  have h_small_triangles : Has P w K mg base 1 "small_triangles" ["m"] (sp_small_triangles K) := ⟨_, _, PySem.W.mg_of X G a2, ok_small_triangles F2 T, k2, b2⟩
  exact ok_rooms F3 T h_is_size h_small_triangles
end Tri
open PySem PySem.W PyProof.Rows
set_option maxRecDepth 100000 in
set_option maxHeartbeats 8000000 in
theorem PySem.Challenge.cw_threecolours_s02_rooms_holds : PySem.Challenge.rw_threecolours_s02_rooms.Holds := by
  w_on; k_headS; (case hw => exact ⟨[.int 0], by decide +kernel, by decide +kernel⟩)
  k_fillS
  refine L2.walk_specK (r := PySem.Challenge.rw_threecolours_s02_rooms) (k := 2) (CX := L2.CX0) (ps := ["m"]) (sp := Tri.sp_rooms) (by decide +kernel) rfl rfl ⟨rfl, by decide, by decide⟩ (fun w h Y => PySem.W.kIn_of Y) ?F ?S (fun _ _ _ _ z => z)
  case F =>
    intro w mg fa h Y KX G hmg
    refine' Tri.all_mk KX G hmg ?a1 ?l1 ?c1 ?k1 ?a2 ?l2 ?c2 ?k2 ?a3 ?l3 ?c3 ?k3 ?u0 ?u1 ?u2 ?u3 ?z0 ?z1
    (case a1 => k_is)
    (case l1 => k_is)
    (case c1 => k_is)
    (case k1 => k_is)
    (case a2 => k_is)
    (case l2 => k_is)
    (case c2 => k_is)
    (case k2 => k_is)
    (case a3 => k_is)
    (case l3 => k_is)
    (case c3 => k_is)
    (case k3 => k_is)
    (case u0 => k_is)
    (case u1 => k_is)
    (case u2 => k_is)
    (case u3 => k_is)
    (case z0 => k_is)
    (case z1 => k_is)
  case S =>
    intro K H xs a hO hwi hask hx
    exact Tri.asked K H xs a hwi hx
#print axioms PySem.Challenge.cw_threecolours_s02_rooms_holds

