package clerk_test

import (
	"slices"
	"strconv"
	"strings"
	"testing"

	"goodname/api"
	"goodname/dispute"
	"goodname/file"
	"goodname/inquiry"
	"goodname/term"
)

// reason is the word and the numbers of what is said.
func reason(t *testing.T, said string) (word string, n []int) {
	t.Helper()
	parts := strings.Split(said, " ")
	for _, s := range parts[1:] {
		x, e := strconv.Atoi(s)
		if e != nil {
			t.Fatal(said)
		}
		n = append(n, x)
	}
	return parts[0], n
}

func reportOf(b api.Bureau, id int) (api.Report, bool) {
	i := slices.IndexFunc(b.Desk.Reports, func(r api.Report) bool { return r.Id == id })
	if i < 0 {
		return api.Report{}, false
	}
	return b.Desk.Reports[i], true
}

// isTrue tells whether the reason for which a command is refused is true, as it is
// said, by the layers.
func isTrue(t *testing.T, b api.Bureau, x act, said string) bool {
	t.Helper()
	word, n := reason(t, said)
	switch word + strconv.Itoa(len(n)) {
	case "apart2":
		mixed, e := file.Mixed(b.Rules, b.Records, b.Ops, n)
		both := slices.Concat(fileAgain(b, x.Args[1]), fileAgain(b, x.Args[2]))
		return x.Word == "MERGE" && e == api.OK && len(mixed) == 1 && mixed[0] == [2]int{n[0], n[1]} && slices.Contains(both, n[0]) && slices.Contains(both, n[1])
	case "frozen1":
		frozen, _, e := inquiry.State(b.Gate.Signals, n[0], b.Day)
		return e == api.OK && frozen && filesAgain(b)[n[0]] != nil && slices.Contains([]string{"RECORD", "MERGE", "SPLIT", "UNDO"}, x.Word)
	case "differs0":
		r, ok := reportOf(b, x.Args[0])
		return x.Word == "REPORT" && ok && r != (api.Report{Id: x.Args[0], Source: x.Args[1], Account: x.Args[2], Made: b.Day, About: x.Args[3], Kind: uint8(x.Args[4]), Cents: x.Args[5], Of: x.Args[6]})
	case "open1":
		where, _, e := dispute.Where(b.Desk, n[0], b.Day)
		return x.Word == "DISPUTE" && e == api.OK && where == api.DisputeOpen
	case "hidden0":
		r, _ := reportOf(b, x.Args[1])
		counting, _ := dispute.Follow(b.Desk, b.Day)
		v, e := term.Show(b.Code, b.Homes, counting, r.Account, b.Day)
		return x.Word == "DISPUTE" && e == api.OK && !slices.Contains(v.Shown, r.Id)
	case "late0":
		where, decided, e := dispute.Where(b.Desk, x.Args[1], b.Day)
		return x.Word == "ANSWER" && e == api.OK && where != api.DisputeOpen && decided <= b.Day
	case "file1":
		return (x.Word == "SIGNAL" || x.Word == "ASK") && n[0] != x.Args[2] && slices.Contains(filesAgain(b)[n[0]], x.Args[2])
	}
	return false
}

// P12.11: each reason is true; P12.6: what is refused is no command at all.
func TestReasonsAreTrue(t *testing.T) {
	r, seen := newRandom(7), map[string]int{}
	for range 400 {
		b := r.start()
		for range 60 {
			x := r.act(b)
			got := x.to(b)
			switch {
			case got.e == api.OK:
				b = got.next
			case got.e == api.ErrDoubt:
				if !got.is(got.said, api.ErrDoubt) || !isTrue(t, b, x, got.said) {
					t.Fatal(b, x, got)
				}
				word, _ := reason(t, got.said)
				seen[word]++
			case !got.is("", got.e):
				t.Fatal(b, x, got)
			}
		}
	}
	for _, word := range []string{"apart", "frozen", "differs", "open", "hidden", "late", "file"} {
		if seen[word] < 20 {
			t.Error("too few", word, seen)
		}
	}
}

// P12.1: a file that is frozen is there under its Id as long as it is frozen, whatever
// is done.
func TestFrozenFilesStay(t *testing.T) {
	r, seen := newRandom(8), 0
	for range 150 {
		l := r.tell(t, r.start(), 50, map[string]int{})
		for i, b := range l[1:] {
			for id := range filesAgain(l[i]) {
				frozen, _, _ := inquiry.State(l[i].Gate.Signals, id, l[i].Day)
				if !frozen {
					continue
				}
				if filesAgain(b)[id] == nil {
					t.Fatal(l[i], b, id)
				}
				seen++
			}
		}
	}
	if seen < 1000 {
		t.Error("too few", seen)
	}
}

// P12.9: each inquiry is just once among the traces that the person sees, with what
// became of it; it is told only with a licence, or to the person, and what is kept
// from a purpose is not told for it.
func TestEachAskHasItsTrace(t *testing.T) {
	r, seen := newRandom(9), map[string]int{}
	for range 300 {
		b := r.start()
		for range 60 {
			x := r.act(b)
			got := x.to(b)
			if got.e != api.OK {
				continue
			}
			b = got.next
			if x.Word != "ASK" {
				continue
			}
			id, who, named, purpose := x.Args[0], x.Args[1], x.Args[2], uint8(x.Args[3])
			p := shown(t, b, named, api.PurposeSelf)
			var traces []api.Trace
			for _, y := range p.Traces {
				if y.Inquiry == id {
					traces = append(traces, y)
				}
			}
			became := uint8(slices.Index([]string{"told", "purpose", "frozen", "alert"}, got.said))
			if !slices.Equal(traces, []api.Trace{{Inquiry: id, Who: who, Day: b.Day, Purpose: purpose, Became: became}}) || p.Records[0] != named {
				t.Fatal(b, x, got.said, p)
			}
			if may := mayAskAgain(b, who, named, purpose); may == (got.said == "purpose") {
				t.Fatal(b, x, got.said)
			}
			kept := purpose == api.PurposeCredit || purpose == api.PurposeEmploy || purpose == api.PurposeMarket
			if got.said == "told" && kept && p.Frozen || got.said == "frozen" && !p.Frozen || got.said == "alert" && !p.Alert {
				t.Fatal(b, x, got.said)
			}
			seen[got.said]++
		}
	}
	for _, word := range []string{"told", "purpose", "frozen", "alert"} {
		if seen[word] < 10 {
			t.Error("too few", seen)
		}
	}
}

func mayAskAgain(b api.Bureau, who, named int, purpose uint8) bool {
	for _, l := range b.Gate.Licences {
		if l.Who == who && l.Purpose == purpose && l.From <= b.Day && b.Day <= l.To {
			return true
		}
	}
	return purpose == api.PurposeSelf && who == named
}

// P12.9: what was asked for stays to be seen, whatever files become, as long as it is
// kept.
func TestTracesStay(t *testing.T) {
	r := newRandom(10)
	for range 100 {
		for _, b := range r.tell(t, r.start(), 50, map[string]int{}) {
			var seen []int
			for id := range filesAgain(b) {
				for _, x := range shown(t, b, id, api.PurposeSelf).Traces {
					seen = append(seen, x.Inquiry)
				}
			}
			slices.Sort(seen)
			var want []int
			for _, q := range b.Inquiries {
				if hasAgain(b, q.File) && b.Day-q.Day <= api.KeepTraces {
					want = append(want, q.Id)
				}
			}
			if !slices.Equal(seen, want) {
				t.Fatal(b, seen, want)
			}
		}
	}
}

// P12.10: on its last day a fact is shown, the day after it is not; all facts of the
// accounts of a file's records are either shown or gone; each has the mark of its
// disputes.
func TestNothingForgottenIsShown(t *testing.T) {
	r, facts, gone := newRandom(11), 0, 0
	for range 150 {
		for _, b := range r.tell(t, r.start(), 50, map[string]int{}) {
			counting, e := dispute.Follow(b.Desk, b.Day)
			forgotten, f := term.Gone(b.Code, b.Homes, counting, b.Day)
			if e != api.OK || f != api.OK {
				t.Fatal(b, e, f)
			}
			gone += len(forgotten)
			for _, o := range b.Owners {
				p := shown(t, b, o.Record, api.PurposeCredit)
				i := slices.IndexFunc(p.Lines, func(x api.Line) bool { return x.Account == o.Account })
				if i < 0 || len(p.Lines[i].Marks) != len(p.Lines[i].View.Shown) {
					t.Fatal(b, o, p)
				}
				for k, id := range p.Lines[i].View.Shown {
					last, e := term.Last(b.Code, b.Homes, counting, id, b.Day)
					mark, _ := dispute.Mark(b.Desk, id, b.Day)
					if x, _ := reportOf(b, id); e != api.OK || b.Day > last || p.Lines[i].View.Ends > last+1 || slices.Contains(forgotten, id) || x.Account != o.Account || mark != p.Lines[i].Marks[k] {
						t.Fatal(b, o, id, p)
					}
					facts++
				}
			}
		}
	}
	if min(facts, gone) < 500 {
		t.Error("too few", facts, gone)
	}
}

// P12.10: what is forgotten, or withdrawn, changes nothing of a page, whatever it
// told.
func TestForgottenTellsNothing(t *testing.T) {
	b := after(t, town(), do("DAY", 61))
	want := shown(t, b, 10, api.PurposeSelf)
	other := deep(b)
	other.Desk.Reports[0].Cents = 7777
	if got := shown(t, other, 10, api.PurposeSelf); !same(got, want) {
		t.Error(got, want)
	}
	b = after(t, town(), do("DISPUTE", 200, 102), do("ANSWER", 1, 200, 3, 0, 0))
	want = shown(t, b, 10, api.PurposeSelf)
	other = deep(b)
	other.Desk.Reports[1].Cents = 7777
	if got := shown(t, other, 10, api.PurposeSelf); !same(got, want) || !slices.Equal(got.Lines[0].View.Shown, []int{101}) {
		t.Error(got, want)
	}
}

// P12.7: what was refused between changes nothing of what is done.
func TestRefusedBetween(t *testing.T) {
	r, refused := newRandom(12), 0
	for range 100 {
		first := r.start()
		b, plain := first, first
		for range 60 {
			x := r.act(b)
			got := x.to(b)
			if got.e != api.OK {
				refused++
				continue
			}
			b, plain = got.next, after(t, plain, x)
			if !same(b, plain) {
				t.Fatal(b, plain)
			}
		}
		if got := replay(first, b.Log); !same(got, replayed{next: plain}) {
			t.Fatal(first, got, plain)
		}
	}
	if refused < 500 {
		t.Error("too few", refused)
	}
}
