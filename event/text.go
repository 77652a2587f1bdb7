package event

import (
	"strings"

	"sextant/api"
	"sextant/text"
	"sextant/value"
)

const (
	invocation = "inv"
	response   = "res"
	blanks     = " \t\r" // of a line; layer 4 takes the last of them for none
	remark     = '#'
)

// Parse reads a history's text.
func Parse(s string) (l []api.Event, fault api.Fault) {
	defer func() {
		if thrown := recover(); thrown != nil {
			l, fault = nil, thrown.(api.Fault)
		}
	}()
	start := 0
	for n, line := range text.Lines(s) {
		r := lineReader{text: s, start: start, said: ahead(line)}
		r.words = text.Words(r.said, n)
		if len(r.words) > 0 {
			l = append(l, r.event())
		}
		start += len(line) + 1
	}
	return l, api.Fault{}
}

// ahead answers what a line says ahead of its remark, which may begin within a word.
func ahead(line string) string {
	for i, r := range line {
		if r == remark {
			return line[:i]
		}
	}
	return line
}

// lineReader reads the event of a line; at the first fault it gives up by a panic with it.
type lineReader struct {
	text  string     // all of the history's
	start int        // where the line begins in it
	said  string     // the line, up to its remark
	words []api.Word // those that have not been read
	read  int        // how far the line has been read
}

// giveUp takes a place of the line.
func (r *lineReader) giveUp(code api.Errno, off int) {
	panic(api.Fault{Code: code, At: text.At(r.text, r.start+off)})
}

// word reads the next word, which must be there.
func (r *lineReader) word() api.Word {
	w := r.words[0]
	r.words = r.words[1:]
	r.read = w.At.Off + len(w.Text)
	return w
}

func (r *lineReader) event() api.Event {
	first := r.word()
	ev := api.Event{At: first.At}
	ev.At.Off += r.start
	switch first.Text {
	case invocation:
		ev.Kind = api.EvInv
		ev.Proc = r.name(plainName)
		ev.Object = r.name(anyName)
		ev.Op = r.name(plainName)
	case response:
		ev.Kind = api.EvRes
		ev.Proc = r.name(plainName)
	default:
		r.giveUp(api.ErrEvent, first.At.Off)
	}
	ev.Value = r.value()
	return ev
}

// name reads a word that is to be a name of that sort.
func (r *lineReader) name(fits func(string) bool) string {
	if len(r.words) == 0 {
		r.giveUp(api.ErrEvent, len(r.said))
	}
	w := r.word()
	if !fits(w.Text) {
		r.giveUp(api.ErrWord, w.At.Off)
	}
	return w.Text
}

// value reads all that is left. What is missing at its end is missing at the end of what the line says, whatever blanks stand there.
func (r *lineReader) value() api.Value {
	s := strings.TrimRight(r.said[r.read:], blanks)
	v, f := value.Parse(s)
	switch {
	case f.Code == api.OK:
		return v
	case f.At.Off == len(s):
		r.giveUp(f.Code, len(r.said))
	}
	r.giveUp(f.Code, r.read+f.At.Off)
	return v
}

// Print writes events, a line each.
func Print(l []api.Event) (string, api.Errno) {
	var b strings.Builder
	for _, ev := range l {
		v, e := value.Print(ev.Value)
		if e != api.OK || !framed(ev) {
			return "", api.ErrEvent
		}
		if ev.Kind == api.EvInv {
			b.WriteString(joined(invocation, ev.Proc, ev.Object, ev.Op, v))
		} else {
			b.WriteString(joined(response, ev.Proc, v))
		}
	}
	return b.String(), api.OK
}

// joined makes a line of words.
func joined(words ...string) string { return strings.Join(words, " ") + "\n" }
