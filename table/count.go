package table

// count tells how far some bytes are read.
type count struct {
	at, all int
	short   bool
}

// goOn goes some bytes on, and answers the place where they begin; if there are fewer, it goes no further, and more were wanted than there are.
func (c *count) goOn(many int) (int, bool) {
	from := c.at
	if many > c.all-from {
		c.short = true
		return from, false
	}
	c.at += many
	return from, true
}

// whole tells whether all bytes are read, and no more were wanted.
func (c *count) whole() bool { return c.at == c.all && !c.short }
