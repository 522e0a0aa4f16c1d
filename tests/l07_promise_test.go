package tests

import (
	"slices"
	"strings"
	"testing"

	"loop.example/g00374/impl"
)

// everyKind is a script in which each row of the table stands, up and down, with a member lost and without.
func everyKind() []string {
	return []string{
		"write 0 head", "write 1 tail 9", "read 0", "read 9", "lose 1", "state", "read 0", "write 2 more", "wear 1", "replace 1", "state", "read 0", "start",
		"replace 0", "start 0", "replace", "stripe 0", "stripe 9", "where 3", "wear 0", "what", "write 2 next 1", "state", "lose 2", "write 0 abcd", "start 1",
		"start 2", "state", "read 2", "", "   ", "lose 0", "replace 9", "read 2", "read 1", "write 7 last 2", "stripe 3", "start", "read 7", "state",
	}
}

// someScripts are of all kinds of lines, of at most these many.
func someScripts(many int) [][]string {
	d := dice(82)
	l := [][]string{everyKind()[:many]}
	for range 60 {
		l = append(l, thrownLines(&d, 1+int(d.below(int64(many)))))
	}
	for range 60 {
		l = append(l, thrownLines(&d, many))
	}
	return l
}

func TestScriptsByManyThrows(t *testing.T) {
	seen := map[string]int{}
	for _, lines := range someScripts(40) {
		script := scriptOf(lines)
		says(t, script, scriptByHand(script))
		for _, said := range strings.Split(impl.RunScript(script), "\n") {
			seen[strings.TrimRight(said, "0123456789")]++
			seen[said]++
		}
		if t.Failed() {
			t.FailNow()
		}
	}
	for _, said := range []string{"ok", "no", "no 2", "no 3", "no 4", "no 5", "no 6", "no 8", "yes", "not", "what", "wear", "state up", "state down", "state up ", "state down ", "read ...."} {
		same(t, "some lines say "+said, seen[said] > 0, true)
	}
}

// Promise 8: what the first lines say is what the whole says first.
func TestSaidStaysSaid(t *testing.T) {
	for _, lines := range someScripts(40) {
		whole := impl.RunScript(scriptOf(lines))
		ahead := ""
		for k := range len(lines) + 1 {
			said := impl.RunScript(scriptOf(lines[:k]))
			if !strings.HasPrefix(whole, said) || !strings.HasPrefix(said, ahead) {
				t.Fatalf("%q: %d lines say %q, all say %q", lines, k, said, whole)
			}
			if k > 0 {
				same(t, "lines that a line says", strings.Count(said[len(ahead):], "\n"), min(1, len(strings.Trim(lines[k-1], " "))))
			}
			ahead = said
		}
		same(t, "all lines", ahead, whole)
	}
}

// Promise 8: lines without words, anywhere, say nothing and do nothing.
func TestLinesWithoutWords(t *testing.T) {
	d := dice(83)
	for _, lines := range someScripts(32) {
		want := impl.RunScript(scriptOf(lines))
		for k := range len(lines) + 1 {
			blank := strings.Repeat(" ", int(d.below(4)))
			same(t, "with a line without words", impl.RunScript(scriptOf(slices.Insert(slices.Clone(lines), k, blank))), want)
		}
		more := slices.Clone(lines)
		for range 8 {
			more = slices.Insert(more, int(d.below(int64(len(more)+1))), strings.Repeat(" ", int(d.below(9))))
		}
		says(t, scriptOf(more), want)
	}
}

func asks(line string) bool {
	word, _, _ := strings.Cut(strings.TrimLeft(line, " "), " ")
	return slices.Contains([]string{"read", "stripe", "wear", "where", "state"}, word)
}

// Promise 8: lines that ask, behind each line, change nothing of what the others say.
func TestAskingChangesNothing(t *testing.T) {
	d := dice(84)
	end := []string{"state", "read 0", "read 5", "stripe 1", "wear 0", "wear 1", "where 3"}
	for _, lines := range someScripts(16) {
		lines = slices.DeleteFunc(slices.Clone(lines), func(line string) bool { return strings.Trim(line, " ") == "" })
		lines = append(lines, end...)
		want := strings.SplitAfter(impl.RunScript(scriptOf(lines)), "\n")
		var asking []string
		for _, line := range lines[:len(lines)-len(end)] {
			asking = append(asking, line, thrownAsking(&d))
		}
		asking = append(asking, end...)
		said := strings.SplitAfter(impl.RunScript(scriptOf(asking)), "\n")
		for k := range len(lines) - len(end) {
			same(t, "a line with others that ask", said[2*k], want[k])
		}
		same(t, "the lines at the end", said[len(said)-len(end)-1:], want[len(want)-len(end)-1:])
		if t.Failed() {
			t.Fatal(lines)
		}
	}
}

// Promise 8: so with each line that asks, behind each line, of all kinds at once.
func TestAskingOfEachKind(t *testing.T) {
	all := []string{"read 0", "read 8", "stripe 0", "stripe 4", "wear 1", "wear 3", "where 0", "where 999999999", "state"}
	for _, lines := range someScripts(31) {
		want := strings.SplitAfter(impl.RunScript(scriptOf(lines)), "\n")
		for k := range len(lines) + 1 {
			said := strings.SplitAfter(impl.RunScript(scriptOf(slices.Insert(slices.Clone(lines), k, all...))), "\n")
			ahead := strings.Count(impl.RunScript(scriptOf(lines[:k])), "\n")
			same(t, "lines ahead", said[:ahead], want[:ahead])
			same(t, "lines behind", said[ahead+len(all):], want[ahead:])
		}
		// And without those that ask: the others say what they said.
		var acting, saidActing []string
		words := slices.DeleteFunc(slices.Clone(lines), func(line string) bool { return strings.Trim(line, " ") == "" })
		for k, line := range words {
			if !asks(line) {
				acting, saidActing = append(acting, line), append(saidActing, want[k])
			}
		}
		says(t, scriptOf(acting), strings.Join(saidActing, ""))
		if t.Failed() {
			t.Fatal(lines)
		}
	}
}

// Promise 9: nothing is kept from one script to another, in whatever order they run.
func TestScriptsKeepNothing(t *testing.T) {
	scripts := someScripts(40)
	said := map[int]string{}
	for i, lines := range scripts {
		said[i] = impl.RunScript(scriptOf(lines))
	}
	for i, lines := range slices.Backward(scripts) {
		same(t, "in another order", impl.RunScript(scriptOf(lines)), said[i])
	}
	answers := make(chan [2]string)
	for i, lines := range scripts {
		go func() { answers <- [2]string{impl.RunScript(scriptOf(lines)), said[i]} }()
	}
	for range scripts {
		answer := <-answers
		same(t, "beside others", answer[0], answer[1])
	}
}
