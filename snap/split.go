package snap

import (
	"slices"
	"unicode/utf8"

	"quire/api"
	"quire/update"
)

// least: how many bytes a part may always have.
const least = 64

// Split answers u in parts of at most so many bytes.
func Split(u api.Update, most int) []api.Update {
	if _, e := update.Write(u); e == api.ErrOpForm {
		return nil
	}
	return parts(update.Clean(u), max(most, least))
}

// parts answers what u, which is clean, tells, in updates that a document takes, of at most so many bytes. What doesn't fit is halved; what does is laid to the part ahead, if there is room.
func parts(u api.Update, most int) []api.Update {
	if len(u.Ops)+len(u.Turns) == 0 {
		return nil
	}
	var out []api.Update
	todo := []api.Update{once(u)} // the next one last
parts:
	for len(todo) > 0 {
		part := todo[len(todo)-1]
		todo = todo[:len(todo)-1]
		for !fits(part, most) {
			ahead, behind, some := halves(part)
			if !some {
				out = append(out, own(part))
				continue parts
			}
			part, todo = ahead, append(todo, behind)
		}
		out = laid(out, part, most)
	}
	return out
}

// once answers u with each clock told once, so that a part says nothing of what another one says. Merge asks for right operations, and one that names what became its own when it was joined is right without its first rune, and so is that rune.
func once(u api.Update) api.Update {
	apart := api.Update{Turns: u.Turns}
	for _, o := range u.Ops {
		ahead, behind, some := cut(o, 1)
		apart.Ops = append(apart.Ops, ahead)
		if some {
			apart.Ops = append(apart.Ops, behind)
		}
	}
	return update.Merge([]api.Update{apart})
}

func fits(u api.Update, most int) bool {
	b, e := update.Write(u)
	return e == api.OK && len(b) <= most
}

// laid answers l with part behind it, or with part in its last one, if that fits.
func laid(l []api.Update, part api.Update, most int) []api.Update {
	if n := len(l); n > 0 {
		if longer := update.Merge([]api.Update{l[n-1], part}); fits(longer, most) {
			l[n-1] = longer
			return l
		}
	}
	return append(l, own(part))
}

// own answers u in memory of its own.
func own(u api.Update) api.Update {
	return api.Update{Ops: slices.Clone(u.Ops), Turns: slices.Clone(u.Turns)}
}

// halves answers what u tells in two updates, and whether it can be told so: not if it is one operation of one clock, or one turn.
func halves(u api.Update) (ahead, behind api.Update, some bool) {
	ops, turns := len(u.Ops), len(u.Turns)
	switch {
	case ops > 0 && turns > 0:
		return api.Update{Ops: u.Ops}, api.Update{Turns: u.Turns}, true
	case ops > 1:
		return api.Update{Ops: u.Ops[:ops/2]}, api.Update{Ops: u.Ops[ops/2:]}, true
	case turns > 1:
		return api.Update{Turns: u.Turns[:turns/2]}, api.Update{Turns: u.Turns[turns/2:]}, true
	case ops == 1:
		first, second, some := cut(u.Ops[0], utf8.RuneCountInString(u.Ops[0].Text)/2)
		return api.Update{Ops: []api.Op{first}}, api.Update{Ops: []api.Op{second}}, some
	}
	return u, api.Update{}, false
}

// cut answers the first n runes of o and those behind them, and whether there are both; what is no text has none.
func cut(o api.Op, n int) (ahead, behind api.Op, some bool) {
	at := 0
	for range n {
		_, size := utf8.DecodeRuneInString(o.Text[at:])
		at += size
	}
	if at == 0 || at == len(o.Text) {
		return o, api.Op{}, false
	}
	ahead, behind = o, o
	ahead.Text, behind.Text = o.Text[:at], o.Text[at:]
	behind.Id.Clock += uint64(n)
	behind.Left = api.Id{Client: o.Id.Client, Clock: behind.Id.Clock - 1}
	return ahead, behind, true
}
