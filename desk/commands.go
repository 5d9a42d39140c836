package desk

import "payoff/api"

// command: what stands behind its word, and what it does. A form's part [x] may be missing, x.. is one or more of x.
type command struct {
	form string
	do   func(d *Desk, c call) ([]string, api.Errno)
}

// commands: by their words.
var commands = map[string]command{}

func init() {
	commands["compile"] = command{"FILE as NAME [nofold] [noshare]", (*Desk).compile}
	commands["assemble"] = command{"FILE as NAME", (*Desk).assemble}
	commands["table"] = command{"FILE as NAME", (*Desk).table}
	commands["print"] = command{"FILE", (*Desk).print}
	commands["list"] = command{"P", (*Desk).list}
	commands["measure"] = command{"FILE", (*Desk).measure}
	commands["run"] = command{"P on T", (*Desk).run}
	commands["mean"] = command{"FILE on T", (*Desk).mean}
	commands["needs"] = command{"P", (*Desk).needs}
	commands["proof"] = command{"P", (*Desk).proof}
	commands["join"] = command{"P.. as NAME", (*Desk).join}
	commands["later"] = command{"P NUMBER as NAME", (*Desk).later}
	commands["rename"] = command{"P OBS OBS as NAME", (*Desk).rename}
	commands["start"] = command{"P on T as NAME", (*Desk).start}
	commands["step"] = command{"M [NUMBER]", (*Desk).step}
	commands["freeze"] = command{"M as NAME", (*Desk).freeze}
	commands["thaw"] = command{"P Z on T as NAME", (*Desk).thaw}
	commands["fan"] = command{"P on T.. by NUMBER", (*Desk).fan}
	commands["open"] = command{"P as NAME", (*Desk).open}
	commands["drop"] = command{"NAME", (*Desk).drop}
	commands["day"] = command{"[OBS=VALUE..]", (*Desk).day}
	commands["book"] = command{"", (*Desk).positions}
	commands["balance"] = command{"NAME", (*Desk).balance}
	commands["ledger"] = command{"", (*Desk).ledger}
	commands["cut"] = command{"NUMBER", (*Desk).cut}
	commands["journal"] = command{"", (*Desk).journal}
	commands["compact"] = command{"", (*Desk).compact}
}

// call: what a line says, with the things that it names.
type call struct {
	said
	texts    []api.File
	tables   []api.Table
	programs []api.Program
	machines []*running
	frozen   [][]byte
}

// play does what a line asks for, and tells what happens.
func (d *Desk) play(o order) []string {
	if o.do == nil {
		return nil
	}
	c, there := d.found(o.said)
	if !there {
		return []string{refused(api.ErrUnknown)}
	}
	told, e := o.do(d, c)
	if e != api.OK {
		return []string{refused(e)}
	}
	return told
}

// found tells the things that a line names, if all are there.
func (d *Desk) found(s said) (call, bool) {
	c := call{said: s}
	for _, t := range s.things {
		there := false
		switch t.kind {
		case aText:
			there = foundIn(d.texts, t.name, &c.texts)
		case aTable:
			there = foundIn(d.tables, t.name, &c.tables)
		case aProgram:
			there = foundIn(d.programs, t.name, &c.programs)
		case aMachine:
			there = foundIn(d.machines, t.name, &c.machines)
		case aFrozen:
			there = foundIn(d.frozen, t.name, &c.frozen)
		}
		if !there {
			return call{}, false
		}
	}
	return c, true
}

func foundIn[T any](things map[string]T, name string, list *[]T) bool {
	thing, there := things[name]
	return takenIf(there, list, thing)
}
