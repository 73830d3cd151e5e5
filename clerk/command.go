package clerk

import (
	"slices"
	"strings"

	"goodname/api"
)

const (
	ofStay  = 3 // numbers
	ofNotes = "ABCDEFGHIJKLMNOPQRSTUVWXYZ0123456789 /"
)

// command is what a word needs and does: how many numbers it has, behind which there
// may be those of so many stays, and whether it has a note.
type command struct {
	numbers, stays int
	noted          bool
	do             func(w *work, numbers []int)
}

func commands() map[string]command {
	return map[string]command{
		"DAY":     {numbers: 1, do: (*work).turn},
		"RECORD":  {numbers: 5, stays: api.MaxStays, noted: true, do: (*work).record},
		"MERGE":   {numbers: 3, do: (*work).merge},
		"SPLIT":   {numbers: 3, do: (*work).split},
		"UNDO":    {numbers: 2, do: (*work).undo},
		"OWN":     {numbers: 2, do: (*work).own},
		"REPORT":  {numbers: 7, do: (*work).report},
		"DISPUTE": {numbers: 2, do: (*work).dispute},
		"ANSWER":  {numbers: 5, do: (*work).answer},
		"SIGNAL":  {numbers: 5, do: (*work).signal},
		"ASK":     {numbers: 5, do: (*work).ask},
	}
}

// has tells whether a command may have so many numbers.
func (c command) has(n int) bool {
	more := n - c.numbers
	return within(more, 0, ofStay*c.stays) && more%ofStay == 0
}

// isCommand tells whether an entry is a command, with numbers and a note that are
// valid.
func isCommand(x api.Entry) bool { return isKnown(x) && isSayable(x) }

// isKnown tells whether an entry has a word, as many numbers as this has, and no note
// but with a word that has one.
func isKnown(x api.Entry) bool {
	c, ok := commands()[x.Word]
	return ok && c.has(len(x.Args)) && (c.noted || x.Note == "")
}

// isSayable tells whether all numbers of an entry, and its note, are valid.
func isSayable(x api.Entry) bool {
	return isNote(x.Note) && !slices.ContainsFunc(x.Args, func(n int) bool { return !isTold(n) })
}

func isTold(n int) bool { return within(n, -api.MaxTold, api.MaxTold) }

func isNote(note string) bool {
	return len(note) <= api.MaxNote && strings.Trim(note, ofNotes) == ""
}

func within(n, lo, hi int) bool { return lo <= n && n <= hi }
