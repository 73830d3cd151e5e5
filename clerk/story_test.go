package clerk_test

import (
	"reflect"
	"slices"
	"strings"
	"testing"

	"goodname/api"
	"goodname/clerk"
)

// tell does n random commands from a bureau on, and returns all bureaus, from the
// first one to the one after the last command that was done. Each step is told again.
func (r random) tell(t *testing.T, b api.Bureau, n int, seen map[string]int) []api.Bureau {
	t.Helper()
	all := []api.Bureau{b}
	for range n {
		x := r.act(b)
		got, want := x.to(b), doAgain(b, x)
		if !same(got, want) {
			t.Fatalf("%+v\n%+v\n%+v\n%+v", b, x, got, want)
		}
		word, _, _ := strings.Cut(got.said, " ")
		seen[x.Word+" "+word+" "+got.e.Error()]++
		if got.e == api.OK {
			b = got.next
			all = append(all, b)
		}
	}
	return all
}

// P12.1: commands, one after the other, do what the definitions tell, or are refused
// as they tell.
func TestDoAgain(t *testing.T) {
	r, seen := newRandom(1), map[string]int{}
	for range 400 {
		r.tell(t, r.start(), 70, seen)
	}
	for _, x := range []string{
		"DAY  error 0", "DAY  error 8", "RECORD  error 0", "RECORD  error 8", "RECORD frozen error 122",
		"MERGE  error 0", "MERGE  error 8", "MERGE apart error 122", "MERGE frozen error 122", "SPLIT  error 0", "SPLIT  error 8", "UNDO  error 0", "UNDO  error 8", "UNDO frozen error 122",
		"OWN  error 0", "OWN  error 8", "REPORT  error 0", "REPORT  error 8", "REPORT differs error 122",
		"DISPUTE  error 0", "DISPUTE  error 8", "DISPUTE open error 122", "DISPUTE hidden error 122", "ANSWER  error 0", "ANSWER  error 8", "ANSWER late error 122",
		"SIGNAL  error 0", "SIGNAL  error 8", "SIGNAL file error 122", "ASK told error 0", "ASK purpose error 0", "ASK frozen error 0", "ASK alert error 0", "ASK  error 8", "ASK file error 122",
	} {
		if seen[x] < 5 {
			t.Error("too few", x, seen[x])
		}
	}
}

// named tells which fields a command changes, beside the Log.
func named(word string) []string {
	return map[string][]string{
		"DAY": {"Day"}, "RECORD": {"Records"}, "MERGE": {"Ops"}, "SPLIT": {"Ops"}, "UNDO": {"Ops"}, "OWN": {"Owners"},
		"REPORT": {"Desk.Reports"}, "DISPUTE": {"Desk.Disputes"}, "ANSWER": {"Desk.Answers"}, "SIGNAL": {"Gate.Signals"}, "ASK": {"Inquiries"},
	}[word]
}

// changed are the fields in which bureaus differ.
func changed(a, b api.Bureau) []string {
	var out []string
	var look func(name string, x, y reflect.Value)
	look = func(name string, x, y reflect.Value) {
		for i := range x.NumField() {
			field := name + x.Type().Field(i).Name
			switch {
			case field == "Desk" || field == "Gate":
				look(field+".", x.Field(i), y.Field(i))
			case !alike(x.Field(i), y.Field(i)):
				out = append(out, field)
			}
		}
	}
	look("", reflect.ValueOf(a), reflect.ValueOf(b))
	return out
}

// P12.6: a command changes what is named, and the log, which has it at its end; what
// was in a list stays there; a bureau is valid after it.
func TestCommandChangesWhatIsNamed(t *testing.T) {
	r, seen := newRandom(2), map[string]int{}
	for range 150 {
		l := r.tell(t, r.start(), 60, map[string]int{})
		for i, b := range l[1:] {
			before, x := l[i], b.Log[i]
			if clerk.Check(b) != api.OK || len(b.Log) != i+1 || x.Day != b.Day || !same(b.Log[:i], before.Log) {
				t.Fatal(before, x, b)
			}
			if got, want := changed(before, b), append(named(x.Word), "Log"); !slices.Equal(got, want) {
				t.Fatal(before, x, b, got)
			}
			for k, n := range sizes(b) {
				more := n - sizes(before)[k]
				if more < 0 || more > 1 {
					t.Fatal(before, x, b)
				}
			}
			seen[x.Word]++
		}
	}
	if len(seen) != 11 || slices.Min(counts(seen)) < 20 {
		t.Error("too few", seen)
	}
}

func counts(seen map[string]int) []int {
	var l []int
	for _, n := range seen {
		l = append(l, n)
	}
	return l
}

// sizes are how much is in each list of a bureau.
func sizes(b api.Bureau) []int {
	return []int{len(b.Records), len(b.Ops), len(b.Owners), len(b.Desk.Reports), len(b.Desk.Disputes), len(b.Desk.Answers), len(b.Gate.Signals), len(b.Inquiries), len(b.Log)}
}

// P12.2, P12.7: what was done is done again from the log, which may be parted
// anywhere.
func TestReplayOfStories(t *testing.T) {
	r := newRandom(3)
	for range 100 {
		l := r.tell(t, r.start(), 60, map[string]int{})
		last := l[len(l)-1]
		for i, b := range l {
			if got := replay(b, last.Log[i:]); !same(got, replayed{next: last}) {
				t.Fatal(i, b, last, got)
			}
			if got := replay(l[0], last.Log[:i]); !same(got, replayed{next: b}) {
				t.Fatal(i, l[0], b, got)
			}
		}
	}
}

// P12.2: logs of which something is changed are replayed as the definitions tell.
func TestReplayAgain(t *testing.T) {
	r, seen := newRandom(4), map[api.Errno]int{}
	for range 400 {
		l := r.tell(t, r.start(), 30, map[string]int{})
		log := deep(l[len(l)-1].Log)
		for range r.Intn(3) {
			log = r.other(log)
		}
		b := pick(r, l...)
		b.Log = deep(b.Log)
		if r.Intn(30) == 0 {
			b.Day = -1
		}
		got, want := replay(b, log), replayAgain(b, log)
		if !same(got, want) {
			t.Fatal(b, log, got, want)
		}
		seen[got.e]++
	}
	for _, e := range []api.Errno{api.OK, api.ErrBureau, api.ErrWord, api.ErrBad, api.ErrDoubt} {
		if seen[e] < 5 {
			t.Error("too few", e, seen)
		}
	}
}

// other is a log of which something is changed.
func (r random) other(log []api.Entry) []api.Entry {
	if len(log) == 0 {
		return log
	}
	at := r.Intn(len(log))
	x := &log[at]
	switch r.Intn(6) {
	case 0:
		return slices.Delete(log, at, at+1)
	case 1:
		return slices.Insert(log, at, deep(pick(r, log...)))
	case 2:
		x.Day += pick(r, -1, 1)
	case 3:
		x.Word = pick(r, "", "DAY", "MERGE", "ASK", "day")
	case 4:
		x.Args[r.Intn(len(x.Args))] = r.near(50)
	case 5:
		x.Note += pick(r, "A", "/", "a")
	}
	return log
}

// P12.3: pages are what the definitions tell.
func TestPageAgain(t *testing.T) {
	r, lines, traces, marks, flags := newRandom(5), 0, 0, map[uint8]int{}, map[[2]bool]int{}
	for range 250 {
		for _, b := range r.tell(t, r.start(), 60, map[string]int{}) {
			id, purpose := r.near(someRecords), uint8(pick(r, 1, 2, 3, 4, 5, 5, 5, 6, r.Intn(256)))
			got, want := page(b, id, purpose), pageAgain(b, id, purpose)
			if !same(got, want) {
				t.Fatal(b, id, purpose, got, want)
			}
			if got.e != api.OK {
				continue
			}
			for _, x := range got.page.Lines {
				for _, m := range x.Marks {
					marks[m]++
				}
				lines++
			}
			traces += len(got.page.Traces)
			flags[[2]bool{got.page.Frozen, got.page.Alert}]++
		}
	}
	if min(lines, traces, marks[0]) < 300 || min(marks[1], marks[2]) < 20 || len(flags) != 4 {
		t.Error("too few", lines, traces, marks, flags)
	}
}
