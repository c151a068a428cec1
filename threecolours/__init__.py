"""Where three colours meet: coloured places of a triangle, and the rooms between them."""
