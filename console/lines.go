package console

import (
	"strconv"
	"strings"

	"tithebarn/api"
	"tithebarn/profile"
)

// table tells what a line does, by its word.
func table() map[string]func(c *console, a *args) {
	return map[string]func(c *console, a *args){
		"clear":    (*console).clear,
		"disk":     (*console).newDisk,
		"install":  making((*profile.Profile).Install),
		"remove":   making((*profile.Profile).Remove),
		"rollback": (*console).rollback,
		"switch":   numbered((*profile.Profile).Switch),
		"delete":   numbered((*profile.Profile).Delete),
		"root":     (*console).root,
		"unroot":   (*console).unroot,
		"collect":  listing("gone", (*profile.Profile).Collect),
		"verify":   listing("bad", (*profile.Profile).Verify),
		"repair":   (*console).repair,
		"list":     (*console).list,
		"show":     (*console).show,
		"objects":  (*console).objects,
		"spoil":    (*console).spoil,
		"fail":     (*console).arm,
		"crash":    (*console).crash,
		"used":     (*console).used,
	}
}

// with does something, if there is a profile.
func (c *console) with(do func()) {
	if c.profile == nil {
		c.say("none")
		return
	}
	do()
}

// generation answers a generation's number, or an error.
func (c *console) generation(n int64, e api.Errno) {
	if e != api.OK {
		c.fail(e)
		return
	}
	c.say("gen", strconv.FormatInt(n, 10))
}

// making is what a line does that makes a generation of the catalogue, of fuel, and of words.
func making(do func(p *profile.Profile, text, words string, fuel int) (int64, api.Errno)) func(c *console, a *args) {
	return func(c *console, a *args) {
		fuel := a.number()
		first := a.word() // one at least
		words := append([]string{first}, a.rest()...)
		c.with(func() { c.generation(do(c.profile, string(c.text), strings.Join(words, blank), fuel)) })
	}
}

// numbered is what a line does that is given a number, and answers ok.
func numbered(do func(p *profile.Profile, n int64) api.Errno) func(c *console, a *args) {
	return func(c *console, a *args) {
		n := a.number()
		a.end()
		c.with(func() { c.done(do(c.profile, int64(n))) })
	}
}

// listing is what a line does that answers objects.
func listing(word string, do func(p *profile.Profile) ([]string, api.Errno)) func(c *console, a *args) {
	return func(c *console, a *args) {
		a.end()
		c.with(func() {
			l, e := do(c.profile)
			if e != api.OK {
				c.fail(e)
				return
			}
			c.counted(word, l)
		})
	}
}

// counted answers a word, how many objects, and their plain names.
func (c *console) counted(word string, l []string) {
	c.say(append([]string{word, count(len(l))}, plain(l)...)...)
}

// clear empties the catalogue's text.
func (c *console) clear(a *args) {
	a.end()
	c.text = nil
	c.say("ok")
}

// newDisk lays a new disk.
func (c *console) newDisk(a *args) {
	quota := a.number()
	a.end()
	c.done(c.renew(quota))
}

// rollback is Rollback.
func (c *console) rollback(a *args) {
	a.end()
	c.with(func() { c.generation(c.profile.Rollback()) })
}

// root is Root, to the valid object of a number.
func (c *console) root(a *args) {
	name, n := a.word(), a.number()
	a.end()
	c.with(func() { c.done(c.profile.Root(name, c.object(n))) })
}

// unroot is Unroot.
func (c *console) unroot(a *args) {
	name := a.word()
	a.end()
	c.with(func() { c.done(c.profile.Unroot(name)) })
}

// repair is Repair.
func (c *console) repair(a *args) {
	fuel := a.number()
	a.end()
	c.with(func() {
		fixed, left, e := c.profile.Repair(fuel)
		if e != api.OK {
			c.fail(e)
			return
		}
		c.say("fixed", count(len(fixed)), count(len(left)))
	})
}

// list answers the generations, and the current one, if there is one.
func (c *console) list(a *args) {
	a.end()
	c.with(func() {
		words := []string{"gens"}
		for _, n := range c.profile.Generations() {
			words = append(words, strconv.FormatInt(n, 10))
		}
		c.say(words...)
		if n, ok := c.profile.Current(); ok {
			c.say("current", strconv.FormatInt(n, 10))
		}
	})
}

// show answers what a generation has.
func (c *console) show(a *args) {
	n := a.number()
	a.end()
	c.with(func() {
		g, e := c.profile.Load(int64(n))
		if e != api.OK {
			c.fail(e)
			return
		}
		c.say(append([]string{"wants"}, g.Wants...)...)
		words := []string{"picks"}
		for _, pick := range g.Picks {
			words = append(words, strings.ReplaceAll(pick, blank, ":"))
		}
		c.say(words...)
		c.say(append([]string{"objects"}, plain(g.Objects)...)...)
	})
}

// objects answers the valid objects.
func (c *console) objects(a *args) {
	a.end()
	c.with(func() { c.counted("objects", c.profile.Objects()) })
}

// spoil cuts the file of the valid object of a number short.
func (c *console) spoil(a *args) {
	n := a.number()
	a.end()
	c.with(func() {
		if object := c.object(n); object != "" {
			c.disk.Cut("o."+object, 3)
		}
		c.say("ok")
	})
}

// arm arms the disk.
func (c *console) arm(a *args) {
	n := a.number()
	a.end()
	c.disk.Fail(n)
	c.say("ok")
}

// crash lets the power go, and come again.
func (c *console) crash(a *args) {
	keep := a.numbers()
	c.disk.Crash()
	c.disk.On(keep)
	c.done(c.open())
}

// used answers how many bytes, and how many files the disk has.
func (c *console) used(a *args) {
	a.end()
	c.say("used", count(c.disk.Used()), count(len(c.disk.Names())))
}
