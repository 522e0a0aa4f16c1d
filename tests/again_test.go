package tests

import (
	"maps"
	"slices"
	"strings"
	"testing"
	"unsafe"

	"loop.example/g00374/impl"
)

// call is one with its arguments; left asks that these are as they were, the room behind their lists too.
type call struct {
	name string
	ask  func() []any
	left func(t *testing.T)
}

// someNumbers are within, at the edges of, and outside what the chapters take.
func someNumbers() []int64 {
	return []int64{0, 1, 3, 4, 7, 8, 12, 13, 40, -1, impl.MaxSeq, impl.MaxSeq + 1}
}

func chipCalls(name string, want impl.Chip) []call {
	c := roomy(want)
	was := copyChip(c)
	left := func(t *testing.T) {
		same(t, name, copyChip(c), was)
		roomUntouched(t, c)
	}
	var l []call
	add := func(what string, ask func() []any) { l = append(l, call{what + " of " + name, ask, left}) }
	add("ChipOk", func() []any { return []any{impl.ChipOk(c)} })
	add("FreeOf", func() []any { return []any{impl.FreeOf(c)} })
	add("MapOf", func() []any { m, ok := impl.MapOf(c); return []any{m, ok} })
	add("TidyOps", func() []any { ops, ok := impl.TidyOps(c); return []any{ops, ok} })
	add("Recovered", func() []any { f, ok := impl.Recovered(c); return []any{f, ok} })
	for _, n := range []int64{-1, 0, 1, 2, 3, 4, 12} {
		add("NextOf", func() []any { return []any{impl.NextOf(c, n)} })
		add("Erased", func() []any { d, code := impl.Erased(c, n); return []any{d, code} })
		for _, p := range []impl.Page{used(1, 999, "page"), used(1, 14, "page"), {}} {
			add("Programmed", func() []any { d, code := impl.Programmed(c, n, p); return []any{d, code} })
		}
		ops := inRoom([]impl.COp{erase(n), program(n, used(1, 999, "page"))}, erase(77))
		l = append(l, call{"Did of " + name, func() []any { d, ok := impl.Did(c, ops); return []any{d, ok} }, func(t *testing.T) {
			left(t)
			same(t, "ops", ops[:3], []impl.COp{erase(n), program(n, used(1, 999, "page")), erase(77)})
		}})
	}
	return l
}

func memberCalls(name string, want impl.Ftl) []call {
	f := roomyMember(want)
	was := copyMember(f)
	logs, datas := inRoom([]int64{1, 0, 1}, 7), inRoom([]string{"aaaa", "bbbb", "cccc"}, "room")
	left := func(t *testing.T) {
		asItWas(t, name, f, was)
		same(t, "logs", logs[:4], []int64{1, 0, 1, 7})
		same(t, "datas", datas[:4], []string{"aaaa", "bbbb", "cccc", "room"})
	}
	var l []call
	add := func(what string, ask func() []any) { l = append(l, call{what + " of " + name, ask, left}) }
	add("FtlOk", func() []any { return []any{impl.FtlOk(f)} })
	add("VictimOf", func() []any { return []any{impl.VictimOf(f)} })
	for count := range 4 {
		add("WrittenAll", func() []any { g, code := impl.WrittenAll(f, logs[:count], datas); return []any{g, code} })
		add("WrittenAll", func() []any { g, code := impl.WrittenAll(f, logs, datas[:count]); return []any{g, code} })
		add("WrittenAll", func() []any { g, code := impl.WrittenAll(f, logs[:count], datas[:count]); return []any{g, code} })
	}
	for _, n := range someNumbers() {
		add("ValidOf", func() []any { return []any{impl.ValidOf(f, n)} })
		add("PageAt", func() []any { text, ok := impl.PageAt(f, n); return []any{text, ok} })
		for _, data := range []string{"data", "dat"} {
			add("OpsOf", func() []any { ops, ok := impl.OpsOf(f, n, data); return []any{ops, ok} })
			add("Written", func() []any { g, code := impl.Written(f, n, data); return []any{g, code} })
		}
	}
	return l
}

func layoutCalls(name string, want []int64) []call {
	w := inRoom(want, 77)
	left := func(t *testing.T) { same(t, name, w[:len(w)+1], append(slices.Clone(want), 77)) }
	var l []call
	add := func(what string, ask func() []any) { l = append(l, call{what + " of " + name, ask, left}) }
	add("LayoutOk", func() []any { return []any{impl.LayoutOk(w)} })
	for _, n := range someNumbers() {
		add("ParityOf", func() []any { return []any{impl.ParityOf(w, n)} })
		add("PlaceOf", func() []any { member, stripe := impl.PlaceOf(w, n); return []any{member, stripe} })
		add("LbaOf", func() []any { return []any{impl.LbaOf(w, n, 2), impl.LbaOf(w, 1, n)} })
		add("ArrayNew", func() []any { a, ok := impl.ArrayNew(w, n); return []any{a, ok} })
	}
	return l
}

func arrayCalls(name string, want impl.Array) []call {
	a := roomyArray(want)
	left := func(t *testing.T) { arrayAsItWas(t, name, a, want) }
	var l []call
	add := func(what string, ask func() []any) { l = append(l, call{what + " of " + name, ask, left}) }
	add("ArrayOk", func() []any { return []any{impl.ArrayOk(a)} })
	add("SizeOf", func() []any { return []any{impl.SizeOf(a)} })
	for _, n := range someNumbers() {
		add("BlockAt", func() []any { text, ok := impl.BlockAt(a, n); return []any{text, ok} })
		add("StripeOk", func() []any { return []any{impl.StripeOk(a, n)} })
	}
	all := []impl.AAct{write(5, "data", -1), write(5, "data", 2), write(5, "dat", 2), write(99, "data", -1), lose(2), lose(9), replace(-1), replace(3), start(-1), start(2), {}}
	for _, x := range all {
		add("ArrayDo", func() []any { b, code := impl.ArrayDo(a, x); return []any{b, code} })
	}
	for _, many := range []int{0, 1, 5, len(all), 110} {
		acts := slices.Repeat(all, 10)[:many]
		given := inRoom(acts, impl.AAct{Kind: 77})
		l = append(l, call{"ArrayPlay of " + name, func() []any { b, codes := impl.ArrayPlay(a, given); return []any{b, codes} }, func(t *testing.T) {
			left(t)
			same(t, "acts", given[:many+1], append(slices.Clone(acts), impl.AAct{Kind: 77}))
		}})
	}
	return l
}

func textCalls() []call {
	var l []call
	for _, want := range [][]string{{}, {"abcd"}, {"abcd", "efgh", "ijkl"}, {"abcd", "abc"}, slices.Repeat([]string{"abcd"}, 5), slices.Repeat([]string{"abcd"}, 6)} {
		texts := inRoom(want, "room")
		l = append(l, call{"Xor", func() []any { sum, ok := impl.Xor(texts); return []any{sum, ok} }, func(t *testing.T) {
			same(t, "texts", texts[:len(want)+1], append(slices.Clone(want), "room"))
		}})
	}
	for _, lines := range someScripts(40)[:20] {
		for _, end := range []string{"", "state"} {
			// Bytes under the text show whether it is written to.
			under := []byte(scriptOf(lines) + end + "room")
			want := string(under)
			text := unsafe.String(&under[0], len(under)-4)
			l = append(l, call{"RunScript", func() []any { return []any{impl.RunScript(text)} }, func(t *testing.T) { same(t, "script", string(under), want) }})
		}
	}
	return l
}

func numberCalls() []call {
	var l []call
	for _, n := range someNumbers() {
		left := func(t *testing.T) {}
		l = append(l,
			call{"ChipNew", func() []any { c, ok := impl.ChipNew(n); return []any{c, ok} }, left},
			call{"RoomFor", func() []any { return []any{impl.RoomFor(n)} }, left},
			call{"FtlNew", func() []any { f, ok := impl.FtlNew(n); return []any{f, ok} }, left},
		)
	}
	return l
}

// allCalls are of the functions of all chapters, with right arguments and wrong ones.
func allCalls(t *testing.T) []call {
	l := append(numberCalls(), textCalls()...)
	chips := map[string]impl.Chip{"a new chip": newChip(4), "a great chip": newChip(12), "a chip": someChip(), "a chip with three pages": begunChip(3), "a crowded chip": oneFree().Chip}
	maps.Copy(chips, wrongChips())
	members := map[string]impl.Ftl{"a member": someMember(), "a member with four full": fourFull(), "a member with its open full": fullOpen(), "a member with one free": oneFree()}
	maps.Copy(members, wrongMembers())
	arrays := someArrays(t)
	arrays["an array of two"] = impl.Array{Weights: []int64{1, 1}, Blocks: 3, Members: []impl.Ftl{someMember()}, Log: []impl.Record{{}}}
	layouts := wrongLayouts()
	for _, w := range someLayouts() {
		layouts["a layout that weighs "+string(rune('0'+sumOf(w)))] = w
	}
	for name, c := range chips {
		l = append(l, chipCalls(name, c)...)
	}
	for name, f := range members {
		l = append(l, memberCalls(name, f)...)
	}
	for name, w := range layouts {
		l = append(l, layoutCalls(name, w)...)
	}
	for name, a := range arrays {
		l = append(l, arrayCalls(name, a)...)
	}
	return l
}

// Promise 9: the same arguments give the same answers, called again and in another order, and each stays as it was.
func TestCalledAgain(t *testing.T) {
	l := allCalls(t)
	first := make([][]any, len(l))
	for i, c := range l {
		first[i] = c.ask()
		c.left(t)
	}
	for i, c := range slices.Backward(l) {
		same(t, c.name+", the other way round", c.ask(), first[i])
	}
	d := dice(91)
	for range 2 * len(l) {
		i := d.below(int64(len(l)))
		same(t, l[i].name+", in any order", l[i].ask(), first[i])
	}
	for i, c := range l {
		same(t, c.name+", twice", [][]any{c.ask(), c.ask()}, [][]any{first[i], first[i]})
		c.left(t)
	}
}

// Promise 9: calls with the same arguments do not get in each other's way.
func TestCalledBesideOthers(t *testing.T) {
	l := allCalls(t)
	first := make([][]any, len(l))
	for i, c := range l {
		first[i] = c.ask()
	}
	answers := make(chan [][]any)
	for from := range 4 {
		go func() {
			got := make([][]any, len(l))
			for i := range l {
				k := (i + from*len(l)/4) % len(l)
				got[k] = l[k].ask()
			}
			answers <- got
		}()
	}
	for range 4 {
		for i, got := range <-answers {
			same(t, l[i].name+", beside others", got, first[i])
		}
	}
	for _, c := range l {
		c.left(t)
	}
}

// Bytes under a script are changed behind the call: what was said stays.
func TestSaidIsNew(t *testing.T) {
	under := []byte("write 0 abcd\nread 0\nwhere 5\nstate\nfly\n")
	said := impl.RunScript(unsafe.String(&under[0], len(under)))
	want := strings.Clone(said)
	for i := range under {
		under[i] = 'x'
	}
	same(t, "said", said, want)
	same(t, "said then", want, "ok\nread abcd\nwhere 2 2 1\nstate up\nwhat\n")
}
