"""Four functions: weights of sets of things, and the law of four of them."""
