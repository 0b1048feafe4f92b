package samples

// Strokes is a ring of texts that tells all that is done, in its order and
// brackets.
type Strokes struct{}

// Zero is 0.
func (Strokes) Zero() string { return "0" }

// One is 1.
func (Strokes) One() string { return "1" }

// Add tells a sum.
func (Strokes) Add(a, b string) string { return "(" + a + "+" + b + ")" }

// Mul tells a product.
func (Strokes) Mul(a, b string) string { return "(" + a + "*" + b + ")" }

// Same says whether they are the same.
func (Strokes) Same(a, b string) bool { return a == b }

// Clock is a ring of the hours from 0 to 11, which needs nothing of its object:
// a nil one is a ring too. What it takes for the same need not look alike.
type Clock struct{ Hours int }

// Zero is 0.
func (*Clock) Zero() int { return 0 }

// One is 1.
func (*Clock) One() int { return 1 }

// Add is the sum.
func (*Clock) Add(a, b int) int { return (a + b) % 12 }

// Mul is the product.
func (*Clock) Mul(a, b int) int { return a * b % 12 }

// Same says whether they are the same hour.
func (*Clock) Same(a, b int) bool { return a%12 == b%12 }
