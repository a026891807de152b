package wire_test

import (
	"fmt"

	"evergreen/wire"
)

// Example is the example of README.md.
func Example() {
	number, _ := wire.PutInt(150)
	text, _ := wire.PutString("ab")
	s := number + text
	n, next, e := wire.Int(s, 0)
	fmt.Printf("% x: %d, %d, %d\n", number, n, next, e)
	u, end, e := wire.String(s, next)
	fmt.Printf("% x: %s, %d, %d\n", text, u, end, e)
	fmt.Println(wire.Sum("123456789"))
	// Output:
	// ac 02: 150, 2, 0
	// 04 61 62: ab, 5, 0
	// 3808858755
}
