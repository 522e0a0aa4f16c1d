package tests

import (
	"runtime"
	"slices"
	"testing"
	"time"
	"unsafe"

	"loop.example/g00374/impl"
)

// span is the memory of a list, its spare room too.
type span struct {
	name        string
	first, last uintptr
}

func spanOf[T any](name string, l []T) span {
	first := uintptr(unsafe.Pointer(unsafe.SliceData(l)))
	return span{name, first, first + uintptr(cap(l))*unsafe.Sizeof(*new(T))}
}

func spansOf(a impl.Array) []span {
	l := []span{spanOf("weights", a.Weights), spanOf("members", a.Members), spanOf("log", a.Log)}
	for _, f := range a.Members {
		l = append(l, spanOf("map", f.Map), spanOf("blocks", f.Chip.Blocks))
		for _, block := range f.Chip.Blocks {
			l = append(l, spanOf("pages", block.Pages))
		}
	}
	return l
}

// apart asks that no two of the lists share memory.
func apart(t *testing.T, l []span) {
	t.Helper()
	l = slices.DeleteFunc(slices.Clone(l), func(s span) bool { return s.first == s.last })
	slices.SortFunc(l, func(a, b span) int { return int(int64(a.first) - int64(b.first)) })
	for i := 1; i < len(l); i++ {
		if l[i-1].last > l[i].first {
			t.Error(l[i-1].name, "and", l[i].name, "share memory")
		}
	}
}

// roomyArray is the same array, each of its lists with a piece of room behind it.
func roomyArray(a impl.Array) impl.Array {
	members := make([]impl.Ftl, len(a.Members))
	for m, f := range a.Members {
		members[m] = roomyMember(f)
	}
	a.Weights = inRoom(a.Weights, 77)
	a.Members = inRoom(members, impl.Ftl{Seq: 77})
	a.Log = inRoom(a.Log, impl.Record{Lba: 77})
	return a
}

func arrayAsItWas(t *testing.T, name string, a, want impl.Array) {
	t.Helper()
	sameArray(t, name, a, want)
	same(t, name+": room behind the weights", a.Weights[:len(a.Weights)+1][len(a.Weights)], int64(77))
	same(t, name+": room behind the members", a.Members[:len(a.Members)+1][len(a.Members)], impl.Ftl{Seq: 77})
	same(t, name+": room behind the log", a.Log[:len(a.Log)+1][len(a.Log)], impl.Record{Lba: 77})
	for _, f := range a.Members {
		same(t, name+": room behind a map", f.Map[:len(f.Map)+1][len(f.Map)], int64(55))
		roomUntouched(t, f.Chip)
	}
}

// Promise 9: arguments stay as they were, the same ones give the same answers, and no answer shares memory with them or in itself.
func TestArraysLeaveNothing(t *testing.T) {
	arrays := someArrays(t)
	arrays["not right"] = impl.Array{Weights: []int64{1, 1}, Blocks: 3, Members: []impl.Ftl{someMember()}, Log: []impl.Record{{}}}
	for name, want := range arrays {
		a := roomyArray(want)
		for _, x := range []impl.AAct{
			write(5, "data", -1), write(0, "data", 0), write(0, "data", 1), write(11, "data", 2), write(0, "data", 3), write(99, "", 0), lose(2), lose(9),
			replace(-1), replace(0), replace(2), start(-1), start(0), start(1), start(2), {},
		} {
			b, code := impl.ArrayDo(a, x)
			arrayAsItWas(t, name, a, want)
			apart(t, append(spansOf(a), spansOf(b)...))
			again, codeAgain := impl.ArrayDo(a, x)
			sameArray(t, name+": once more", again, b)
			same(t, name+": code once more", codeAgain, code)
			l := inRoom([]impl.AAct{x}, impl.AAct{Kind: 77})
			e, codes := impl.ArrayPlay(a, l)
			arrayAsItWas(t, name, a, want)
			same(t, name+": acts", l[:2], []impl.AAct{x, {Kind: 77}})
			apart(t, append(append(spansOf(a), spansOf(e)...), spanOf("codes", codes), spanOf("acts", l)))
			for range 2 {
				impl.ArrayOk(a)
				impl.SizeOf(a)
				impl.BlockAt(a, 5)
				impl.BlockAt(a, -1)
				impl.StripeOk(a, 1)
				arrayAsItWas(t, name, a, want)
			}
		}
		b, _ := impl.ArrayPlay(a, nil)
		apart(t, append(spansOf(a), spansOf(b)...))
		b, _ = impl.ArrayNew(a.Weights, a.Blocks)
		apart(t, append(spansOf(a), spansOf(b)...))
		arrayAsItWas(t, name, a, want)
	}
}

// No goroutine of a call is left behind it, whether the act is done, cut or refused.
func TestGoroutinesEnd(t *testing.T) {
	before := runtime.NumGoroutine()
	for _, a := range someArrays(t) {
		for _, x := range []impl.AAct{write(0, "data", -1), write(0, "data", 2), lose(2), replace(-1), replace(2), start(-1), start(1), {}} {
			impl.ArrayDo(a, x)
		}
		impl.ArrayOk(a)
		impl.BlockAt(a, 0)
	}
	// One that is joined may need a moment more to be gone.
	for i := 0; i < 100 && runtime.NumGoroutine() > before; i++ {
		time.Sleep(10 * time.Millisecond)
	}
	same(t, "goroutines that are left", runtime.NumGoroutine() > before, false)
}
