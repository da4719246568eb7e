package boards

import (
	"timekeeper/api"
	"timekeeper/lines"
)

// callers are what calls from without: the lines, and what each is bound to.
type callers struct {
	lines *lines.Lines
	binds [api.MaxLines]api.Bind // the handle 0 is nobody's: what it is bound to then takes no signal
}

func newCallers() callers { return callers{lines: lines.New()} }

func (c *callers) bind(line int, x api.Bind) api.Errno {
	if line < 0 || line >= len(c.binds) {
		return api.ErrArg
	}
	c.binds[line] = x
	return api.OK
}

// next is what the next line is bound to that calls and is heard, if there is one.
func (c *callers) next() (api.Bind, bool) {
	line, e := c.lines.Next()
	if e != api.OK {
		return api.Bind{}, false
	}
	return c.binds[line], true
}
