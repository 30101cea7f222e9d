package program

// A text is the mark, three bytes for the registers, two for how many operations, and three for each of these.
const (
	mark     = "XP"
	headSize = len(mark) + 5
	opSize   = 3
)

// Text writes a program as bytes. Empty, if it is none: its numbers might not fit.
func (p Program) Text() string {
	if !p.sound() {
		return ""
	}
	text := []byte(mark)
	text = append(text, byte(p.Given), byte(p.Out), byte(p.Besides))
	count := len(p.Ops)
	text = append(text, byte(count), byte(count>>8))
	for _, op := range p.Ops {
		text = append(text, byte(op.Kind), byte(op.To), byte(op.From))
	}
	return string(text)
}

// Read reads a program from bytes. False, if they are none.
func Read(text string) (Program, bool) {
	if len(text) < headSize || text[:len(mark)] != mark {
		return Program{}, false
	}
	count := int(text[5]) | int(text[6])<<8
	if len(text) != headSize+count*opSize {
		return Program{}, false
	}
	p := Program{Given: int(text[2]), Out: int(text[3]), Besides: int(text[4])}
	for at := headSize; at+opSize <= len(text); at += opSize {
		p.Ops = append(p.Ops, Op{Kind: int(text[at]), To: int(text[at+1]), From: int(text[at+2])})
	}
	if !p.sound() {
		return Program{}, false
	}
	return p, true
}
